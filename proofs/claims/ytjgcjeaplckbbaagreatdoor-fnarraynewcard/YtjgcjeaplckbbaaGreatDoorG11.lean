/- 5 texts in one. -/
import Derived.Test.YtjgcjeaplckbbaaGreatDoorG10
import Derived.Test.YtjgcjeaplckbbaaGreatDoorG02
import Derived.Test.YtjgcjeaplckbbaaGreatDoorG01
import Derived.WalkKit
import Derived.Outline
import Derived.Deep.AppendLies
import Derived.Test.YtjgcjeaplckbbaaGreatDoorG09
import Derived.Test.YtjgcjeaplckbbaaGreatDoorChecked
import Derived.Laws.EntriesVeiled
import Derived.Deep.DeepCutAuto
import Derived.Deep.MidRow
import Derived.Deep.RegionHeld3

/- The model's ArrayNew. -/
namespace Go.Proofs.YtjgcjeaplckbbaaGreatDoor
open Go.RowKit
set_option linter.unusedVariables false
set_option linter.unusedSimpArgs false

/-- A new member's chip and map lie in [lo, hi). -/
def NewIn (w : World) (lo hi n : Nat) (a ma : Option Addr) : Prop := ChipS (fun k => lo ≤ k ∧ k < hi) w a (newBs n) ∧ IntsAt w ma (newMap n) ∧ MineFrom w ma (newMap n).length lo ∧ (∀ g, ma = some ⟨g, 0, none⟩ → g < hi)
theorem NewIn.touch {S : Nat → Prop} {w w' : World} {lo hi n : Nat} {a ma : Option Addr} (h : NewIn w lo hi n a ma) (hT : Touch S w w') (hS : ∀ k, S k → ¬ (lo ≤ k ∧ k < hi)) : NewIn w' lo hi n a ma := by
  obtain ⟨h1, h2, h3, h4⟩ := h
  have hx : ∀ g, ma = some ⟨g, 0, none⟩ → ¬ S g := fun g hg hs => hS g hs ⟨by
    rcases h3 with ⟨e, _⟩ | ⟨g', e, k1, _⟩
    · rw [e] at hg; cases hg
    · rw [e] at hg; cases hg; exact k1, h4 g hg⟩
  refine ⟨h1.touch (newBs_four n) hT (fun k hk hs => hS k hs hk), ?_, h3.touch' hT hx, h4⟩
  intro i x hi
  obtain ⟨b, o, ha, hc⟩ := h2 i x hi
  have hb : ¬ S b := by
    rcases h3 with ⟨e, _⟩ | ⟨g', e, _⟩
    · rw [e] at ha; cases ha
    · have e2 := e; rw [ha] at e2; cases e2; exact hx _ e
  exact ⟨b, o, ha, (World.cell?_of_block (w := w) (a := ⟨b, o + i, none⟩) (hT.block b (World.block_lt_of_cell? _ _ hc) hb)).trans hc⟩

/-- Members put together by append: the cells xs of the list v. -/
def NewMems (w : World) (B : Nat) (v : Value) (n : Nat) (xs : List Value) (j : Nat) : Prop := ∀ i, i < j → ∃ a c ma mc lo hi, xs[i * 4]? = some (.slice a n c) ∧ xs[i * 4 + 1]? = some (.slice ma (newMap n).length mc) ∧ xs[i * 4 + 2]? = some (.int .i64 1) ∧ xs[i * 4 + 3]? = some (.int .i64 0) ∧ hi ≤ w.heap.size ∧ (∀ g, v.ownBlock = some g → ¬ (lo ≤ g ∧ g < hi)) ∧ B ≤ lo ∧ NewIn w lo hi n a ma
theorem NewMems.touch {S : Nat → Prop} {w w' : World} {B : Nat} {v : Value} {n : Nat} {xs : List Value} {j : Nat} (h : NewMems w B v n xs j) (hT : Touch S w w') (hS : ∀ k, S k → k < B) : NewMems w' B v n xs j := fun i hi => by
  obtain ⟨a, c, ma, mc, lo, hi, h0, h1, h2, h3, h4, h5, h7, h6⟩ := h i hi
  exact ⟨a, c, ma, mc, lo, hi, h0, h1, h2, h3, Nat.le_trans h4 hT.size, h5, h7, h6.touch hT (fun k hk hs => by have := hS k hk; omega)⟩
theorem NewMems.below {w w' : World} {B : Nat} {v : Value} {n : Nat} {xs : List Value} {j : Nat} (h : NewMems w B v n xs j) (hB : Below w.heap.size w w') : NewMems w' B v n xs j := h.touch (S := fun _ => False) (Touch.of_below hB) (fun k hk => hk.elim)
theorem touch_grown {w w' : World} {r : Option Nat} (h : w.grownBy w' r) : Touch (fun k => r = some k) w w' := ⟨h.os, h.tape, h.output, h.size, fun k hk hs => h.block k hk (fun e => hs e.symm)⟩
theorem NewMems.push {w W w1 : World} {B : Nat} {v : Value} {n : Nat} {xs : List Value} {j : Nat} (h : NewMems w B v n xs j) (hl : xs.length = j * 4) (hv : ∀ g, v.ownBlock = some g → g < w.heap.size) (hB : Below w.heap.size w W) (hBw : B ≤ w.heap.size)
    {a ma : Option Addr} {c mc hi g cap : Nat} (hN : NewIn W w.heap.size hi n a ma) (hhi : hi ≤ W.heap.size) (hgrow : W.grownBy w1 v.ownBlock) (hat : v.ownBlock = some g ∨ g = W.heap.size) :
    NewMems w1 B (.slice (some ⟨g, 0, none⟩) (j + 1) cap) n (xs ++ [.slice a n c, .slice ma (newMap n).length mc, .int .i64 1, .int .i64 0]) (j + 1) := by
  have hT := touch_grown hgrow
  intro i hi2
  by_cases e : i = j
  · subst e
    refine ⟨a, c, ma, mc, w.heap.size, hi, ?_, ?_, ?_, ?_, Nat.le_trans hhi hgrow.size, fun g' hg' hs => ?_, hBw, hN.touch hT (fun k hk hs => by have := hv k hk; omega)⟩
    · rw [List.getElem?_append_right (by omega), hl]; simp
    · rw [List.getElem?_append_right (by omega), hl]; simp
    · rw [List.getElem?_append_right (by omega), hl]; simp
    · rw [List.getElem?_append_right (by omega), hl]; simp
    · simp [Value.ownBlock] at hg'
      subst hg'
      rcases hat with hat | hat
      · have := hv g hat; omega
      · omega
  · obtain ⟨a', c', ma', mc', lo', hi', h0, h1, h2, h3, h4, h5, h7, h6⟩ := h i (by omega)
    have hs := hB.size
    have h6W := h6.touch (S := fun _ => False) (Touch.of_below hB) (fun k hk => hk.elim)
    refine ⟨a', c', ma', mc', lo', hi', ?_, ?_, ?_, ?_, Nat.le_trans (Nat.le_trans h4 hs) hgrow.size, fun g' hg' hs' => ?_, h7, h6W.touch hT (fun k hk hs => h5 k hk hs)⟩
    · rw [List.getElem?_append_left (by omega)]; exact h0
    · rw [List.getElem?_append_left (by omega)]; exact h1
    · rw [List.getElem?_append_left (by omega)]; exact h2
    · rw [List.getElem?_append_left (by omega)]; exact h3
    · simp [Value.ownBlock] at hg'
      subst hg'
      rcases hat with hat | hat
      · exact h5 g hat hs'
      · omega
theorem NewMems.mbsAt {w : World} {B n cap g base e : Nat} {xs : List Value} {j : Nat} (h : NewMems w B (.slice (some ⟨g, 0, none⟩) j cap) n xs j) (hr : w.ownsRow base e 4 (.slice (some ⟨g, 0, none⟩) j cap) j xs) : MbsAt w g (List.replicate j (newMb n)) := by
  intro i m hm
  obtain ⟨hi, rfl⟩ := List.getElem?_eq_some_iff.1 hm
  simp at hi
  rw [List.getElem_replicate]
  obtain ⟨a, c, ma, mc, lo, hi', h0, h1, h2, h3, h4, h5, h7, h6⟩ := h i hi
  refine ⟨a, c, ma, mc, ?_, ownsRow_cell hr h1, ownsRow_cell hr h2, ownsRow_cell hr h3, h6.1.blocksAt, h6.2.1⟩
  show w.cell? _ = some (.slice a (newBs n).length c)
  rw [newBs_length]
  exact ownsRow_cell hr h0

/-- What the model's ArrayNew answers. -/
def ArrNewSpec (L : List Int) (k : Nat) (n : Int) (e : Ending) (w' : World) : Prop :=
  (¬ (LayOk L ∧ 4 ≤ n ∧ n ≤ 12) ∧ e = .returned (.tuple #[.agg #[.slice none 0 0, .int .i64 0, .int .i64 0, .bool false, .slice none 0 0, .slice none 0 0], .bool false])) ∨
  ((LayOk L ∧ 4 ≤ n ∧ n ≤ 12) ∧ ∃ wa wc G c, e = .returned (.tuple #[.agg #[.slice wa k wc, .int .i64 n, .int .i64 (-1), .bool false, .slice (some ⟨G, 0, none⟩) k c, .slice none 0 0], .bool true]) ∧ IntsAt w' wa L ∧ MbsAt w' G (List.replicate k (newMb n.toNat)))

theorem infoFtlS : (Tryz.prog.info? 53).map (fun i => (i.zero, i.size, i.bytes)) = some (some (.agg #[.slice none 0 0, .slice none 0 0, .int .i64 0, .int .i64 0]), 4, 64) := by kernel_rfl

set_option maxRecDepth 100000 in
set_option maxHeartbeats 4000000 in
theorem specArrayNew_any (wa : Option Addr) (wc : Nat) (L : List Int) (k : Nat) (hL : L.length = k) (hk20 : k ≤ 1048576) (n : Int) (w : World) (hI : IntsAt w wa L) :
    Calls Tryz.prog 15 #[.slice wa k wc, .int .i64 n] w fun e w' => ArrNewSpec L k n e w' ∧ Below w.heap.size w w' := by
  have HIN : Hid (∀ W', Below w.heap.size w W' → IntsAt W' wa L) := fun W' hW => hI.below hW (Nat.le_refl _)
  have HLL := hide hL
  clear hI hL
  go_enter Tryz.func15, Tryz.ntmps15
  go_wp2_with fail
  have hb0 : ∀ o, Below w.heap.size w (w.alloc o) := fun o => (Below.refl _ w).alloc (Nat.le_refl _) o
  refine (specLayoutOk_any wa wc L k (unhide HLL) _ (unhide HIN _ (hb0 _))).mono ?_
  rintro e w1 ⟨rfl, rfl⟩
  by_cases hlay : LayOk L
  case neg =>
    rw [show decide (LayOk L) = false by simpa using hlay]
    have HNO : Hid (¬ (LayOk L ∧ 4 ≤ n ∧ n ≤ 12)) := fun h => hlay h.1
    clear hlay
    go_wp2
    exact bodyPost_ret (v := .tuple #[.agg #[.slice none 0 0, .int .i64 0, .int .i64 0, .bool false, .slice none 0 0, .slice none 0 0], .bool false]) (by simp [results, Tryz.results15, go_sem]) rfl ⟨.inl ⟨unhide HNO, rfl⟩, hb0 _⟩
  case pos =>
    rw [show decide (LayOk L) = true by simpa using hlay]
    have HLAY := hide hlay
    obtain ⟨⟨hk3, hk5⟩, -, -⟩ := hlay
    rw [unhide HLL] at hk3 hk5
    go_wp2_with fail
    refine (specRoomFor_any n _).mono ?_
    rintro e w1 ⟨rfl, rfl⟩
    by_cases h4 : 4 ≤ n ∧ n ≤ 12
    case neg =>
      rw [roomI_out h4]
      have HNO : Hid (¬ (LayOk L ∧ 4 ≤ n ∧ n ≤ 12)) := fun h => h4 h.2
      clear h4
      go_wp2
      exact bodyPost_ret (v := .tuple #[.agg #[.slice none 0 0, .int .i64 0, .int .i64 0, .bool false, .slice none 0 0, .slice none 0 0], .bool false]) (by simp [results, Tryz.results15, go_sem]) rfl ⟨.inl ⟨unhide HNO, rfl⟩, hb0 _⟩
    case pos =>
      obtain ⟨nn, rfl⟩ := Int.eq_ofNat_of_zero_le (show 0 ≤ n by omega)
      have hn1 : 4 ≤ nn := by omega
      have hn2 : nn ≤ 12 := by omega
      rw [roomI_in h4]
      have hne : ((4 * ((nn : Int) - 3)) == 0) = false := by simp; omega
      have hne2 : ¬ (4 * ((nn : Int) - 3)) = 0 := by omega
      obtain ⟨i0, hi, hz0, hz1, hz2⟩ := info_parts infoInt64I
      obtain ⟨x, hx⟩ := getElem?_ex (l := L) (k := 0) (by have := unhide HLL; omega)
      obtain ⟨b1, o1, rfl, -⟩ := (unhide HIN w (Below.refl _ w)) 0 x hx
      obtain ⟨X, hX⟩ : ∃ X, X = ints L := ⟨_, rfl⟩
      have hXl : X.length = k * 1 := by rw [hX, ints_length]; have := unhide HLL; omega
      have hX1 : ∀ u ∈ X, u.oneCell' = true := fun u hu => by rw [hX] at hu; simp [ints] at hu; obtain ⟨y, _, rfl⟩ := hu; rfl
      obtain ⟨w2, hw2⟩ : ∃ w2, w2 = w.alloc (.cells #[.slice none 0 0, .int .i64 0, .int .i64 0, .bool false, .slice none 0 0, .slice none 0 0] 30) := ⟨_, rfl⟩
      have hs2 : w2.heap.size = w.heap.size + 1 := by rw [hw2]; simp
      have hW2 : Below w.heap.size w w2 := by rw [hw2]; exact hb0 _
      have hr2 : w2.heap[w.heap.size]? = some (.cells #[.slice none 0 0, .int .i64 0, .int .i64 0, .bool false, .slice none 0 0, .slice none 0 0] 30 (0, 0)) := by rw [hw2]; exact World.alloc_heap_new w _
      rw [← hw2]
      have HI2 := hide (unhide HIN _ (hW2.alloc (by omega) (.cells #[] 2)))
      have HXN : Hid (∀ j u, X[j]? = some u → (w2.alloc (.cells #[] 2)).cell? ((⟨b1, o1, none⟩ : Addr).add j) = some u) := fun j u hu => by
        rw [hX] at hu
        simp only [ints, List.getElem?_map, Option.map_eq_some_iff] at hu
        obtain ⟨y, hy, rfl⟩ := hu
        obtain ⟨b2, o2, e2, hcy⟩ := (unhide HI2) j y hy
        cases e2
        rw [Go.WideShapes.add_plain]
        exact hcy
      have HX := hide hX
      have HR : Hid ((w2.alloc (.cells #[] 2)).ownsRow w2.heap.size 2 1 (.slice (some ⟨w2.heap.size, 0, none⟩) 0 0) 0 []) := by
        have := World.ownsRow_lit (base := w2.heap.size) (e := 2) (size := 1) w2 #[] 0 (Nat.le_refl _) (by unfold maxLen; omega) rfl
        refine hide ?_
        simpa using this
      clear hx hX hw2 hb0 h4
      go_wp2_with (refine wpList_append_lies _ rfl (.tmp 19) (.tmp 20) 24 rfl w2.heap.size 2 i0 _ 1 8 Tryz.underlying24 hi hz0 hz1 hz2 rfl (by decide) (.slice (some ⟨w2.heap.size, 0, none⟩) 0 0) 0 [] (by simp [Act.eval]) (unhide HR) ⟨b1, o1, none⟩ k wc X (by simp [Act.eval]) hXl (unhide HXN) hX1 (by omega) (by unfold maxLen; omega) (by omega) (by simp) _ rfl ?_; intro g1 cap1 wE hown1 hgrow1 hat1 hlt1)
      have e0k : 0 + k = k := Nat.zero_add k
      rw [e0k] at hown1
      have hsE : w2.heap.size + 1 ≤ wE.heap.size := by have := hgrow1.size; simpa using this
      have hBE : Below w2.heap.size w2 wE := Below.grown ((Below.refl _ w2).alloc (Nat.le_refl _) _) hgrow1 (by simp) (fun j e => ((unhide HR).lt j e).1)
      have hIE : IntsAt wE (some ⟨g1, 0, none⟩) L := by
        have ho : OwnInts wE 2 w2.heap.size (.slice (some ⟨g1, 0, none⟩) k cap1) L := by
          unfold OwnInts
          rw [unhide HLL, ← unhide HX]
          simpa using hown1
        obtain ⟨a9, c9, e9, h9, -⟩ := ho.form
        cases e9
        exact h9
      have hWE : Below w.heap.size w wE := hW2.trans (hBE.mono (by omega))
      have hg1 : w2.heap.size ≤ g1 := (hown1.lt g1 rfl).1
      have hrE := (hBE.block w.heap.size (by omega)).trans hr2
      have HIE := hide hIE
      have HWE := hide hWE
      have HRE := hide hrE
      obtain ⟨j0, hj0, hy0, hy1, hy2⟩ := info_parts infoFtlS
      clear hgrow1 hat1 hown1 hIE hWE hrE hBE hr2 hW2 HR HXN HI2 HIN HX hX1 hXl hi hz0 hz1 hz2
      obtain ⟨P, hP⟩ : ∃ P, P = wE.heap.size := ⟨_, rfl⟩
      have HPE := hide hP
      rw [← hP] at hlt1 hsE ⊢
      clear hP
      go_loopw [7] (fun i wr => ∃ (j : Nat) (v : Value) (xs : List Value), j ≤ k ∧ i = .int .i64 j ∧ wr.heap[P]? = some (.cells #[.slice (some ⟨g1, 0, none⟩) k cap1, .int .i64 (nn : Int), .int .i64 (-1), .bool false, v, .slice none 0 0] 30 (0, 0)) ∧ wr.ownsRow (P + 1) 53 4 v j xs ∧ NewMems wr (P + 1) v nn xs j ∧ Below P wE wr ∧ P + 1 ≤ wr.heap.size) (fun i _ => k - (intOf i).toNat)
      case atStart =>
        refine ⟨0, .slice none 0 0, [], Nat.zero_le _, rfl, ?_, World.ownsRow_nil _ _ _ _, fun i hi => absurd hi (Nat.not_lt_zero _), ?_, ?_⟩
        · rw [unhide HPE]; exact World.alloc_heap_new wE _
        · exact (Below.refl _ wE).alloc (by rw [unhide HPE]; exact Nat.le_refl _) _
        · rw [unhide HPE]; simp
      case round =>
        obtain ⟨j, v, xs, hj, rfl, hv, hR, hM, hB, hsz⟩ := hrel
        have hxl := hR.1
        have HM := hide hM
        have HXL := hide hxl
        have HB := hide hB
        have HRR := hide hR
        have HV := hide hv
        clear hM hxl hB
        by_cases hlt : j < k
        · clear hR hv
          go_wp2_with fail
          refine (specFtlNew_soft nn hn1 hn2 wr).mono ?_
          rintro e w1 ⟨a, c, ma, mc, rfl, hC, hI, hMn, hB1⟩
          have hs1 := hB1.size
          have hNI : NewIn w1 wr.heap.size w1.heap.size nn a ma := ⟨hC, hI, hMn, fun g hg => by
            rcases hMn with ⟨e, _⟩ | ⟨g', e, _, k2, _⟩
            · rw [e] at hg; cases hg
            · rw [e] at hg; cases hg; exact k2⟩
          have HNI := hide hNI
          have HB1 := hide hB1
          have hv1 := (hB1.block P (by omega)).trans (unhide HV)
          have HV1 := hide hv1
          have hR1 : w1.ownsRow (P + 1) 53 4 v j xs := World.ownsRow.kept (unhide HRR) (show wr.grownBy w1 none from ⟨hB1.os, hB1.tape, hB1.output, hB1.size, fun q hq _ => hB1.block q hq⟩) (by
            cases hvo : v.ownBlock with
            | none => exact Or.inl rfl
            | some q => exact Or.inr (by simp))
          obtain ⟨ln, hln⟩ : ∃ ln, ln = (newMap nn).length := ⟨_, rfl⟩
          rw [← hln]
          have HLN := hide hln
          have hcv := cell_of_row _ _ 4 _ _ _ hv1
          have hfv := frozen_of_row _ _ 4 _ _ hv1
          simp at hcv
          have hPl : P < w1.heap.size := by omega
          have hcv2 : ∀ o, (w1.alloc o).cell? ⟨P, 4, none⟩ = some v := fun o => (cell_alloc_lt _ _ _ _ hPl).trans hcv
          have hvne : some P ≠ v.ownBlock := fun e => by have := ((unhide HRR).lt P e.symm).1; omega
          clear hC hI hMn hB1 hv1 hNI hln
          go_wp2_with (refine wpList_append_lies _ rfl (.tmp 36) (.tmp 38) 27 rfl (P + 1) 53 j0 _ 4 64 Tryz.underlying27 hj0 hy0 hy1 hy2 rfl (by decide) v j xs (by simp [Act.eval]) (by exact (hR1.alloc _).alloc _) ⟨w1.heap.size + 1, 0, none⟩ 1 1 [.slice a nn c, .slice ma ln mc, .int .i64 1, .int .i64 0] (by simp [Act.eval]) rfl (World.news_of_block (cs := #[.slice a nn c, .slice ma ln mc, .int .i64 1, .int .i64 0]) (t := 53) (fr := (0, 0)) (by exact heap_alloc2_new _ _ _)) (by simp [Value.oneCell']) (by omega) (by unfold maxLen; omega) (by omega) (by simp; omega) _ rfl ?_; intro g2 cap2 w3 hown2 hgrow2 hat2 hlt2; have hv3 := (hgrow2.block P (by simp; omega) hvne).trans (((((Below.refl w1.heap.size w1).alloc (Nat.le_refl _) _).alloc (by simp) _).block P (by omega)).trans (unhide HV1)); have hk3 := cell_of_row _ _ 4 _ _ _ hv3; have hf3 := frozen_of_row _ _ 4 _ _ hv3; simp at hk3; have HV3 := hide hv3; clear hv3)
          have hW : Below wr.heap.size wr ((w1.alloc (.cells #[.slice a nn c, .slice ma ln mc, .int .i64 1, .int .i64 0] 53)).alloc (.cells #[.slice a nn c, .slice ma ln mc, .int .i64 1, .int .i64 0] 53)) := ((unhide HB1).alloc hs1 _).alloc (by simp; omega) _
          have hNW := (unhide HNI).touch (S := fun _ => False) (w' := ((w1.alloc (.cells #[.slice a nn c, .slice ma ln mc, .int .i64 1, .int .i64 0] 53)).alloc (.cells #[.slice a nn c, .slice ma ln mc, .int .i64 1, .int .i64 0] 53))) (Touch.of_below (((Below.refl w1.heap.size w1).alloc (Nat.le_refl _) _).alloc (by simp) _)) (fun k hk => hk.elim)
          have hp := NewMems.push (c := c) (mc := mc) (cap := cap2) (unhide HM) (unhide HXL) (fun g hg => ((unhide HRR).lt g hg).2) hW hsz hNW (by simp; omega) hgrow2 (by rcases hat2 with h | h; exact .inl h; exact .inr (by simpa using h))
          rw [← unhide HLN] at hp
          have hs3 := hgrow2.size
          simp at hs3
          have hBn : Below P wE w3 := Below.grown ((unhide HB).trans (hW.mono (by omega))) hgrow2 (by simp; omega) (fun q e => by have := ((unhide HRR).lt q e).1; omega)
          have hv5 := blk_setCell_same 4 (.slice (some ⟨g2, 0, none⟩) (j + 1) cap2) (unhide HV3)
          simp at hv5
          have hT5 : Touch (fun q => q = P) w3 (w3.setCell ⟨P, 4, none⟩ (.slice (some ⟨g2, 0, none⟩) (j + 1) cap2)) := Touch.setCell (S := fun q => q = P) (p := ⟨P, 4, none⟩) (Touch.refl _ w3) rfl _
          exact ⟨⟨j + 1, .slice (some ⟨g2, 0, none⟩) (j + 1) cap2, xs ++ [.slice a nn c, .slice ma ln mc, .int .i64 1, .int .i64 0], by omega, by simp, hv5, ownsRow_setCell_below hown2 (by show P < P + 1; omega) _, hp.touch hT5 (fun q hq => by omega), hBn.setCell (by show P ≤ P; omega) _, by simp [World.setCell]; omega⟩, by simp [intOf]; omega⟩
        · have hjk : j = k := by omega
          subst hjk
          have hR0 := hR
          rcases hR.2 with ⟨_, h0⟩ | ⟨g3, cap3, cur, rfl, -, -, -⟩
          · omega
          have HR0 := hide hR0
          have hr0 := ((unhide HB).block w.heap.size (by omega)).trans (unhide HRE)
          have q0 := cell_of_row _ _ 0 _ _ _ hv
          have z0 := cell_of_row _ _ 0 _ _ _ hr0
          have f0 := frozen_of_row _ _ 0 _ _ hr0
          have q1 := cell_of_row _ _ 1 _ _ _ hv
          have z1 := cell_of_row _ _ 1 _ _ _ hr0
          have f1 := frozen_of_row _ _ 1 _ _ hr0
          have q2 := cell_of_row _ _ 2 _ _ _ hv
          have z2 := cell_of_row _ _ 2 _ _ _ hr0
          have f2 := frozen_of_row _ _ 2 _ _ hr0
          have q3 := cell_of_row _ _ 3 _ _ _ hv
          have z3 := cell_of_row _ _ 3 _ _ _ hr0
          have f3 := frozen_of_row _ _ 3 _ _ hr0
          have q4 := cell_of_row _ _ 4 _ _ _ hv
          have z4 := cell_of_row _ _ 4 _ _ _ hr0
          have f4 := frozen_of_row _ _ 4 _ _ hr0
          have q5 := cell_of_row _ _ 5 _ _ _ hv
          have z5 := cell_of_row _ _ 5 _ _ _ hr0
          have f5 := frozen_of_row _ _ 5 _ _ hr0
          simp at q0 q1 q2 q3 q4 q5 z0 z1 z2 z3 z4 z5
          have hwl : w.heap.size < wr.heap.size := by omega
          obtain ⟨W5, hW5⟩ : ∃ W5, W5 = ((((((wr.setCell ⟨w.heap.size, 0, none⟩ (.slice (some ⟨g1, 0, none⟩) j cap1)).setCell ⟨w.heap.size, 1, none⟩ (.int .i64 (nn : Int))).setCell ⟨w.heap.size, 2, none⟩ (.int .i64 (-1))).setCell ⟨w.heap.size, 3, none⟩ (.bool false)).setCell ⟨w.heap.size, 4, none⟩ (.slice (some ⟨g3, 0, none⟩) j cap3)).setCell ⟨w.heap.size, 5, none⟩ (.slice none 0 0)) := ⟨_, rfl⟩
          have y0 : W5.cell? ⟨w.heap.size, 0, none⟩ = some (.slice (some ⟨g1, 0, none⟩) j cap1) := by rw [hW5, World.cell?_setCell_other _ _ _ _ (by simp), World.cell?_setCell_other _ _ _ _ (by simp), World.cell?_setCell_other _ _ _ _ (by simp), World.cell?_setCell_other _ _ _ _ (by simp), World.cell?_setCell_other _ _ _ _ (by simp), World.cell?_setCell_same' _ _ _ (by rw [z0]; rfl)]
          have y1 : W5.cell? ⟨w.heap.size, 1, none⟩ = some (.int .i64 (nn : Int)) := by rw [hW5, World.cell?_setCell_other _ _ _ _ (by simp), World.cell?_setCell_other _ _ _ _ (by simp), World.cell?_setCell_other _ _ _ _ (by simp), World.cell?_setCell_other _ _ _ _ (by simp), World.cell?_setCell_same' _ _ _ (by rw [World.cell?_setCell_other _ _ _ _ (by simp), z1]; rfl)]
          have y2 : W5.cell? ⟨w.heap.size, 2, none⟩ = some (.int .i64 (-1)) := by rw [hW5, World.cell?_setCell_other _ _ _ _ (by simp), World.cell?_setCell_other _ _ _ _ (by simp), World.cell?_setCell_other _ _ _ _ (by simp), World.cell?_setCell_same' _ _ _ (by rw [World.cell?_setCell_other _ _ _ _ (by simp), World.cell?_setCell_other _ _ _ _ (by simp), z2]; rfl)]
          have y3 : W5.cell? ⟨w.heap.size, 3, none⟩ = some (.bool false) := by rw [hW5, World.cell?_setCell_other _ _ _ _ (by simp), World.cell?_setCell_other _ _ _ _ (by simp), World.cell?_setCell_same' _ _ _ (by rw [World.cell?_setCell_other _ _ _ _ (by simp), World.cell?_setCell_other _ _ _ _ (by simp), World.cell?_setCell_other _ _ _ _ (by simp), z3]; rfl)]
          have y4 : W5.cell? ⟨w.heap.size, 4, none⟩ = some (.slice (some ⟨g3, 0, none⟩) j cap3) := by rw [hW5, World.cell?_setCell_other _ _ _ _ (by simp), World.cell?_setCell_same' _ _ _ (by rw [World.cell?_setCell_other _ _ _ _ (by simp), World.cell?_setCell_other _ _ _ _ (by simp), World.cell?_setCell_other _ _ _ _ (by simp), World.cell?_setCell_other _ _ _ _ (by simp), z4]; rfl)]
          have y5 : W5.cell? ⟨w.heap.size, 5, none⟩ = some (.slice none 0 0) := by rw [hW5, World.cell?_setCell_same' _ _ _ (by rw [World.cell?_setCell_other _ _ _ _ (by simp), World.cell?_setCell_other _ _ _ _ (by simp), World.cell?_setCell_other _ _ _ _ (by simp), World.cell?_setCell_other _ _ _ _ (by simp), World.cell?_setCell_other _ _ _ _ (by simp), z5]; rfl)]
          have h00 : Touch (fun q => q = w.heap.size) wr wr := Touch.refl _ wr
          have hT5 : Touch (fun q => q = w.heap.size) wr W5 := by
            rw [hW5]
            exact Touch.setCell (p := ⟨w.heap.size, 5, none⟩) (Touch.setCell (p := ⟨w.heap.size, 4, none⟩) (Touch.setCell (p := ⟨w.heap.size, 3, none⟩) (Touch.setCell (p := ⟨w.heap.size, 2, none⟩) (Touch.setCell (p := ⟨w.heap.size, 1, none⟩) (Touch.setCell (p := ⟨w.heap.size, 0, none⟩) (h00) rfl _) rfl _) rfl _) rfl _) rfl _) rfl _
          have hs5 : W5.heap.size = wr.heap.size := by rw [hW5]; simp [World.setCell]
          have hM5 := NewMems.touch (unhide HM) hT5 (fun q hq => by omega)
          have hR5 : W5.ownsRow (P + 1) 53 4 (.slice (some ⟨g3, 0, none⟩) j cap3) j xs := by
            rw [hW5]
            exact ownsRow_setCell_below (ownsRow_setCell_below (ownsRow_setCell_below (ownsRow_setCell_below (ownsRow_setCell_below (ownsRow_setCell_below hR0 (by show w.heap.size < P + 1; omega) _) (by show w.heap.size < P + 1; omega) _) (by show w.heap.size < P + 1; omega) _) (by show w.heap.size < P + 1; omega) _) (by show w.heap.size < P + 1; omega) _) (by show w.heap.size < P + 1; omega) _
          have hI5 : IntsAt W5 (some ⟨g1, 0, none⟩) L := fun i x hx => by
            obtain ⟨b, o, ha, hc⟩ := (unhide HIE) i x hx
            cases ha
            have hbl := World.block_lt_of_cell? _ _ hc
            have e1 := (unhide HB).block g1 (by omega)
            have e2 := hT5.block g1 (by omega) (by omega)
            exact ⟨g1, 0, rfl, (World.cell?_of_block (w := wE) (a := ⟨g1, _, none⟩) (e2.trans e1)).trans hc⟩
          have hW5B : Below w.heap.size w W5 := ((unhide HWE).trans ((unhide HB).mono (by omega))).trans (hT5.below (by omega) (fun q hq => by omega))
          have HF : Hid (MbsAt W5 g3 (List.replicate j (newMb nn)) ∧ IntsAt W5 (some ⟨g1, 0, none⟩) L ∧ Below w.heap.size w W5) := ⟨hM5.mbsAt hR5, hI5, hW5B⟩
          have HY : Hid (LayOk L ∧ 4 ≤ (nn : Int) ∧ (nn : Int) ≤ 12) := ⟨unhide HLAY, by omega, by omega⟩
          clear hM5 hR5 hI5 hW5B hT5 h00 hr0 hR hR0 hv HR0 HRR HV HM
          go_wp2
          try rw [← hW5]
          clear hW5
          obtain ⟨hF1, hF2, hF3⟩ := unhide HF
          exact bodyPost_ret (v := .tuple #[.agg #[.slice (some ⟨g1, 0, none⟩) j cap1, .int .i64 (nn : Int), .int .i64 (-1), .bool false, .slice (some ⟨g3, 0, none⟩) j cap3, .slice none 0 0], .bool true]) (by simp [results, Tryz.results15, go_sem, y0, y1, y2, y3, y4, y5]) rfl ⟨.inr ⟨unhide HY, some ⟨g1, 0, none⟩, cap1, g3, cap3, rfl, hF2, by simpa using hF1⟩, hF3⟩
end Go.Proofs.YtjgcjeaplckbbaaGreatDoor

/- A crew's workers, each new, put together by append. -/
namespace Go.Proofs.YtjgcjeaplckbbaaGreatDoor
open Go.RowKit
set_option linter.unusedVariables false
set_option linter.unusedSimpArgs false

theorem newMap_length (n : Nat) : (newMap n).length = 4 * (n - 3) := by simp [newMap]
theorem lens9 {n : Nat} (h : n ≤ 12) : Lens 9223372036854775807 (newBs n) := ⟨by rw [newBs_length]; omega, fun b hb => by rw [newBs_block hb]; simp [zeroBk]⟩
theorem pu_zero (k : Nat) : pu zeroBk k = false := by
  unfold pu pagesF
  match k with
  | 0 | 1 | 2 | 3 => rfl
  | k + 4 => rfl
theorem ftlOk_new {n : Nat} (h4 : 4 ≤ n) (h12 : n ≤ 12) : FtlOk (newBs n) (newMap n) 1 0 := by
  have hu := usedOf_newBs n
  refine ⟨chipOk_newBs h4 h12, (fun x hx => by rw [hu] at hx; cases hx), ?_, ?_, ?_, ?_, ?_⟩
  · rw [hu, placesOf_nil]; unfold roomOf newMap; rw [newBs_length]
  · unfold topSeq; rw [hu]; exact ⟨by show (0 : Int) + 1 ≤ 1; decide, by decide⟩
  · rw [newBs_length]; omega
  · intro i x _ hx _
    rw [newBs_block (List.mem_of_getElem? hx)]
    unfold halfB; rw [pu_zero]; rfl
  · obtain ⟨x, hx⟩ := getElem?_ex (l := newBs n) (k := 1) (by rw [newBs_length]; omega)
    refine ⟨1, x, by rw [newBs_length]; omega, hx, by decide, ?_⟩
    rw [newBs_block (List.mem_of_getElem? hx)]
    unfold freeB; rw [pu_zero]; rfl
theorem newMb_short {n : Nat} (h4 : 4 ≤ n) (h12 : n ≤ 12) : Mb.Short (newMb n) := Mb.Ok.short (show FtlOk _ _ _ _ from ftlOk_new h4 h12)

/-- A new worker lies in [lo, hi). -/
def ManIn (w : World) (lo hi n g : Nat) (ma : Option Addr) (mc : Nat) : Prop := WorkAt w g (newCC n) (.slice none 0 0) ma (newMap n).length mc 1 0 ∧ IntsAt w ma (newMap n) ∧ MineFrom w ma (newMap n).length lo ∧ lo ≤ g ∧ g < hi ∧ (∀ q, ma = some ⟨q, 0, none⟩ → q < hi)
theorem ManIn.touch {S : Nat → Prop} {w w' : World} {lo hi n g : Nat} {ma : Option Addr} {mc : Nat} (h : ManIn w lo hi n g ma mc) (hT : Touch S w w') (hS : ∀ k, S k → ¬ (lo ≤ k ∧ k < hi)) : ManIn w' lo hi n g ma mc := by
  obtain ⟨h1, h2, h3, h4, h5, h6⟩ := h
  have hx : ∀ q, ma = some ⟨q, 0, none⟩ → ¬ S q := fun q hq hs => hS q hs ⟨by
    rcases h3 with ⟨e, _⟩ | ⟨g', e, k1, _⟩
    · rw [e] at hq; cases hq
    · rw [e] at hq; cases hq; exact k1, h6 q hq⟩
  refine ⟨h1.of_block (hT.block g h1.lt (fun hs => hS g hs ⟨h4, h5⟩)), ?_, h3.touch' hT hx, h4, h5, h6⟩
  intro i x hi
  obtain ⟨b, o, ha, hc⟩ := h2 i x hi
  have hb : ¬ S b := by
    rcases h3 with ⟨e, _⟩ | ⟨g', e, _⟩
    · rw [e] at ha; cases ha
    · have e2 := e; rw [ha] at e2; cases e2; exact hx _ e
  exact ⟨b, o, ha, (World.cell?_of_block (w := w) (a := ⟨b, o + i, none⟩) (hT.block b (World.block_lt_of_cell? _ _ hc) hb)).trans hc⟩
theorem ManIn.workOf {w : World} {lo hi n g : Nat} {ma : Option Addr} {mc : Nat} (h : ManIn w lo hi n g ma mc) (h4 : 4 ≤ n) (h12 : n ≤ 12) : WorkOf w (.pointer (some ⟨g, 0, none⟩)) n (newMb n) :=
  .inr ⟨g, newCC n, .slice none 0 0, ma, (newMap n).length, mc, rfl, h.1, ⟨_, _, _, rfl⟩, newBs_length n, rfl, ccBs_newCC n, rfl, ftlOk_new h4 h12, h.2.1⟩

def Crewmen (w : World) (B : Nat) (v : Value) (n : Nat) (xs : List Value) (j : Nat) : Prop := ∀ i, i < j → ∃ g ma mc lo hi, xs[i]? = some (.pointer (some ⟨g, 0, none⟩)) ∧ hi ≤ w.heap.size ∧ (∀ q, v.ownBlock = some q → ¬ (lo ≤ q ∧ q < hi)) ∧ B ≤ lo ∧ ManIn w lo hi n g ma mc
theorem Crewmen.touch {S : Nat → Prop} {w w' : World} {B : Nat} {v : Value} {n : Nat} {xs : List Value} {j : Nat} (h : Crewmen w B v n xs j) (hT : Touch S w w') (hS : ∀ k, S k → k < B) : Crewmen w' B v n xs j := fun i hi => by
  obtain ⟨g, ma, mc, lo, hi, h0, h4, h5, h7, h6⟩ := h i hi
  exact ⟨g, ma, mc, lo, hi, h0, Nat.le_trans h4 hT.size, h5, h7, h6.touch hT (fun k hk hs => by have := hS k hk; omega)⟩
theorem Crewmen.push {w W w1 : World} {B : Nat} {v : Value} {n : Nat} {xs : List Value} {j : Nat} (h : Crewmen w B v n xs j) (hl : xs.length = j) (hv : ∀ q, v.ownBlock = some q → q < w.heap.size) (hB : Below w.heap.size w W) (hBw : B ≤ w.heap.size)
    {ma : Option Addr} {g mc hi q cap : Nat} (hN : ManIn W w.heap.size hi n g ma mc) (hhi : hi ≤ W.heap.size) (hgrow : W.grownBy w1 v.ownBlock) (hat : v.ownBlock = some q ∨ q = W.heap.size) :
    Crewmen w1 B (.slice (some ⟨q, 0, none⟩) (j + 1) cap) n (xs ++ [.pointer (some ⟨g, 0, none⟩)]) (j + 1) := by
  have hT := touch_grown hgrow
  intro i hi2
  by_cases e : i = j
  · subst e
    refine ⟨g, ma, mc, w.heap.size, hi, ?_, Nat.le_trans hhi hgrow.size, fun g' hg' hs => ?_, hBw, hN.touch hT (fun k hk hs => by have := hv k hk; omega)⟩
    · rw [List.getElem?_append_right (by omega), hl]; simp
    · simp [Value.ownBlock] at hg'
      subst hg'
      rcases hat with hat | hat
      · have := hv q hat; omega
      · omega
  · obtain ⟨g2, ma', mc', lo', hi', h0, h4, h5, h7, h6⟩ := h i (by omega)
    have hs := hB.size
    have h6W := h6.touch (S := fun _ => False) (Touch.of_below hB) (fun k hk => hk.elim)
    refine ⟨g2, ma', mc', lo', hi', ?_, Nat.le_trans (Nat.le_trans h4 hs) hgrow.size, fun g' hg' hs' => ?_, h7, h6W.touch hT (fun k hk hs => h5 k hk hs)⟩
    · rw [List.getElem?_append_left (by omega)]; exact h0
    · simp [Value.ownBlock] at hg'
      subst hg'
      rcases hat with hat | hat
      · exact h5 q hat hs'
      · omega
theorem Crewmen.works {w : World} {B n cap g base e : Nat} {xs : List Value} {j : Nat} (h : Crewmen w B (.slice (some ⟨g, 0, none⟩) j cap) n xs j) (hr : w.ownsRow base e 1 (.slice (some ⟨g, 0, none⟩) j cap) j xs) (h4 : 4 ≤ n) (h12 : n ≤ 12) : ∀ i m, (List.replicate j (newMb n))[i]? = some m → ∃ u, w.cell? ⟨g, i, none⟩ = some u ∧ WorkOf w u n m := by
  intro i m hm
  obtain ⟨hi, rfl⟩ := List.getElem?_eq_some_iff.1 hm
  simp at hi
  rw [List.getElem_replicate]
  obtain ⟨g2, ma, mc, lo, hi', h0, _, _, _, h6⟩ := h i hi
  exact ⟨_, ownsRow_cell hr h0, h6.workOf h4 h12⟩
theorem infoWorkP : (Tryz.prog.info? 96).map (fun i => (i.zero, i.size, i.bytes)) = some (some (.pointer none), 1, 8) := by kernel_rfl
end Go.Proofs.YtjgcjeaplckbbaaGreatDoor

/- The program's chapter 5: layouts, their parity a closure. -/
namespace Go.Proofs.YtjgcjeaplckbbaaGreatDoor
open Go.RowKit
set_option linter.unusedVariables false
set_option linter.unusedSimpArgs false

def endsF (L : List Int) (k : Nat) (i : Nat) : Value := .int .i64 (if i < k then upto L (i + 1) else 0)

/-- What the closure has taken: the sum in one block, the ends in another. -/
def Taken (w : World) (bt be : Nat) (L : List Int) : Prop :=
  w.cell? ⟨bt, 0, none⟩ = some (.int .i64 L.sum) ∧ ∀ i, i < L.length → w.cell? ⟨be, i, none⟩ = some (.int .i64 (upto L (i + 1)))

theorem Taken.below {w w' : World} {bt be : Nat} {L : List Int} (h : Taken w bt be L) (hl : 0 < L.length) {B : Nat} (hb : Below B w w') (hB : w.heap.size ≤ B) : Taken w' bt be L :=
  ⟨(hb.cell (p := ⟨bt, 0, none⟩) (Nat.lt_of_lt_of_le (World.block_lt_of_cell? _ _ h.1) hB)).trans h.1, fun i hi => (hb.cell (p := ⟨be, i, none⟩) (Nat.lt_of_lt_of_le (World.block_lt_of_cell? _ _ (h.2 i hi)) hB)).trans (h.2 i hi)⟩

set_option maxHeartbeats 1000000 in
theorem parity_any (bt be : Nat) (L : List Int) (s : Int) (w : World) (h : Taken w bt be L) (ho : LayOk L) (hs : 0 ≤ s) (hs9 : s ≤ 1000000000) :
    Calls Tryz.prog 99 #[.int .i64 s, .pointer (some ⟨bt, 0, none⟩), .pointer (some ⟨be, 0, none⟩)] w fun e w' => ∃ m : Nat, e = .returned (.int .i64 (m : Int)) ∧ ParIs L s m ∧ w' = w := by
  have h1 := h.1
  have HH := hide h.2
  have hsum := ho.sum
  have hr := ofNat_lt_tmod ho hs
  have hlen := ho.1
  have HO := hide ho
  have hne : ¬ L.sum = 0 := by omega
  clear h ho
  go_enter Tryz.func99, Tryz.ntmps99
  go_wp2
  have hdf : ∃ r, r = s % L.sum := ⟨_, rfl⟩
  obtain ⟨r, hrd⟩ := hdf
  rw [← hrd] at hr ⊢
  have HD := hide hrd
  clear hrd
  go_loop [6] (fun i => ∃ k : Nat, k < L.length ∧ i = .int .i64 k ∧ ∀ j, j < k → upto L (j + 1) ≤ r) (fun i => L.length - (intOf i).toNat)
  case atStart => exact ⟨0, by omega, rfl, fun j hj => absurd hj (Nat.not_lt_zero _)⟩
  case round =>
    obtain ⟨k, hk, rfl, hA⟩ := hrel
    have HA := hide hA
    clear hA
    have g1 := unhide HH k hk
    have hu := (unhide HO).2.1.upto (k + 1) (by omega)
    have HX := hide (rfl : upto L (k + 1) = upto L (k + 1))
    by_cases hge : upto L (k + 1) ≤ r
    · have hlt : k + 1 < L.length := by
        rcases Nat.lt_or_ge (k + 1) L.length with e | e
        · exact e
        · rw [show k + 1 = L.length by omega, upto_all] at hge; omega
      have HG := hide hge
      go_wp2
      go_round
      case rel =>
        refine ⟨k + 1, hlt, by go_num, fun j hj => ?_⟩
        by_cases e : j = k
        · subst e; exact unhide HG
        · exact unhide HA j (by omega)
      case measure => simp [intOf]; omega
    · have HG := hide hge
      go_wp2
      go_ret
      exact ⟨k, rfl, ⟨hk, by rw [← unhide HD]; have := unhide HG; omega, fun j hj => by rw [← unhide HD]; exact unhide HA j hj⟩, rfl⟩

/-- What layoutOf answers. -/
def LaidOf (n : Nat) (L : List Int) (e : Ending) (w' : World) : Prop :=
  (¬ LayOk L ∧ e = .returned (.tuple #[.agg #[.int .i64 0, .nilFunc], .bool false])) ∨
  (LayOk L ∧ ∃ bt be, e = .returned (.tuple #[.agg #[.int .i64 n, .func (.func 99) #[] #[.pointer (some ⟨bt, 0, none⟩), .pointer (some ⟨be, 0, none⟩)]], .bool true]) ∧ Taken w' bt be L)

theorem upto_small {L : List Int} : ∀ k, k ≤ L.length → (∀ j x, j < k → L[j]? = some x → 0 ≤ x ∧ x ≤ 5) → 0 ≤ upto L k ∧ upto L k ≤ 5 * (k : Int) := by
  intro k
  induction k with
  | zero => intro _ _; simp [upto_zero]
  | succ k ih =>
    intro hk h
    obtain ⟨x, hx⟩ := getElem?_ex (l := L) (k := k) (by omega)
    have := ih (by omega) (fun j y hj hy => h j y (by omega) hy)
    have := h k x (by omega) hx
    rw [upto_step hx]
    omega

theorem small_all {L : List Int} {k : Nat} (hk : k = L.length) (h : ∀ j x, j < k → L[j]? = some x → 0 ≤ x ∧ x ≤ 5) : Small L := by
  intro x hx
  obtain ⟨i, hi⟩ := List.getElem?_of_mem hx
  have := (List.getElem?_eq_some_iff.1 hi).1
  exact h i x (by omega) hi

def zlF (i : Nat) : Value := if i = 0 then .int .i64 0 else .nilFunc

theorem endsF_step {L : List Int} {k : Nat} {w : World} {b : Nat} {t : TypeId} (h : w.rowIs b t 5 (endsF L k)) : (w.setCell ⟨b, k, none⟩ (.int .i64 (upto L (k + 1)))).rowIs b t 5 (endsF L (k + 1)) := by
  refine (h.set k (.int .i64 (upto L (k + 1)))).congr fun i hi => ?_
  unfold endsF
  by_cases e : i = k
  · subst e; simp
  · by_cases l : i < k
    · simp [e, l, Nat.lt_succ_of_lt l]
    · have l2 : ¬ i < k + 1 := by omega
      simp [e, l, l2]

set_option maxHeartbeats 1000000 in
theorem layoutOf_any (a : Option Addr) (c : Nat) (L : List Int) (n : Nat) (hl : L.length = n) (w : World) (h : IntsAt w a L) :
    Calls Tryz.prog 47 #[.slice a n c] w fun e w' => LaidOf n L e w' ∧ Below w.heap.size w w' := by
  have HL := hide hl
  have HH := hide h
  clear h hl
  go_enter Tryz.func47, Tryz.ntmps47
  go_wp2_with fail
  refine (within_any _ _ _ _).mono ?_
  rintro e w1 ⟨rfl, rfl⟩
  by_cases h35 : (3 : Int) ≤ (n : Int) ∧ (n : Int) ≤ 5
  · have hd : decide ((3 : Int) ≤ (n : Int) ∧ (n : Int) ≤ 5) = true := by simpa using h35
    rw [hd]
    clear hd
    go_wp2
    go_loopw [18] (fun i wr => ∃ k : Nat, k ≤ n ∧ i = .int .i64 k ∧ wr.rowIs w.heap.size 79 2 zlF ∧ wr.rowIs (w.heap.size + 1) 160 5 (endsF L k) ∧ wr.rowIs (w.heap.size + 1 + 1) 2 1 (fun _ => .int .i64 (upto L k)) ∧ Below w.heap.size w wr ∧ ∀ j x, j < k → L[j]? = some x → 0 ≤ x ∧ x ≤ 5) (fun i _ => n - (intOf i).toNat)
    case atStart =>
      refine ⟨0, Nat.zero_le _, rfl, ?_, ?_, ?_, ?_, fun j x hj => absurd hj (Nat.not_lt_zero _)⟩
      · refine World.rowIs.alloc (World.rowIs.alloc (World.rowIs_alloc w #[.int .i64 0, .nilFunc] 79 zlF ?_) _) _
        intro i hi
        have h2 : i = 0 ∨ i = 1 := by simp at hi; omega
        rcases h2 with rfl | rfl <;> rfl
      · refine World.rowIs.alloc ?_ _
        have := World.rowIs_alloc (w.alloc (.cells #[.int .i64 0, .nilFunc] 79)) #[.int .i64 0, .int .i64 0, .int .i64 0, .int .i64 0, .int .i64 0] 160 (endsF L 0) (by
          intro i hi
          have h2 : i = 0 ∨ i = 1 ∨ i = 2 ∨ i = 3 ∨ i = 4 := by simp at hi; omega
          rcases h2 with rfl | rfl | rfl | rfl | rfl <;> rfl)
        simpa using this
      · have := World.rowIs_alloc ((w.alloc (.cells #[.int .i64 0, .nilFunc] 79)).alloc (.cells #[.int .i64 0, .int .i64 0, .int .i64 0, .int .i64 0, .int .i64 0] 160)) #[.int .i64 0] 2 (fun _ => .int .i64 (upto L 0)) (by
          intro i hi
          have h2 : i = 0 := by simp at hi; omega
          rcases h2 with rfl; simp [upto_zero])
        simpa using this
      · exact (((Below.refl _ w).alloc (Nat.le_refl _) _).alloc (by simp) _).alloc (by simp; omega) _
    case round =>
      obtain ⟨k, hk, rfl, hR0, hR1, hR2, hB, hA⟩ := hrel
      have HA := hide hA
      clear hA
      have z0 := World.rowIs.cell hR0 (i := 0) (by omega)
      have z1 := World.rowIs.cell hR0 (i := 1) (by omega)
      have zf := World.rowIs.frozen hR0
      have t0 := World.rowIs.cell hR2 (i := 0) (by omega)
      have tf := World.rowIs.frozen hR2
      have zl0 : zlF 0 = .int .i64 0 := rfl
      have zl1 : zlF 1 = .nilFunc := rfl
      rw [zl0] at z0
      rw [zl1] at z1
      have H0 := hide hR0
      have H1 := hide hR1
      have H2 := hide hR2
      by_cases hlt : k < n
      · have e0 := World.rowIs.cell hR1 (i := k) (by omega)
        have ef := World.rowIs.frozen hR1
        obtain ⟨x, hx⟩ := getElem?_ex (l := L) (k := k) (by have := unhide HL; omega)
        obtain ⟨b1, o1, rfl, g1⟩ := ((unhide HH).below hB (Nat.le_refl _)) k x hx
        have HX := hide hx
        clear hx hR0 hR1 hR2 zl0 zl1
        go_wp2_with fail
        refine (within_any _ _ _ _).mono ?_
        rintro e w2 ⟨rfl, rfl⟩
        by_cases h05 : (0 : Int) ≤ x ∧ x ≤ 5
        · have hd : decide ((0 : Int) ≤ x ∧ x ≤ 5) = true := by simpa using h05
          rw [hd]
          have hu : 0 ≤ upto L k ∧ upto L k ≤ 5 * (k : Int) := upto_small k (by have := unhide HL; omega) (unhide HA)
          have HU := hide (upto_step (unhide HX))
          have HUD : ∃ u, u = upto L k := ⟨_, rfl⟩
          obtain ⟨u, hud⟩ := HUD
          rw [← hud] at hu t0
          have HUD := hide hud
          clear hd hud
          go_wp2
          go_roundw
          case rel =>
            refine ⟨k + 1, by omega, by go_num, ?_, ?_, ?_, ?_, fun j y hj hy => ?_⟩
            · exact World.rowIs.setOther (World.rowIs.setOther (unhide H0) (by simp <;> omega) _) (by simp <;> omega) _
            · have h1 := World.rowIs.setOther (unhide H1) (a := ⟨w.heap.size + 1 + 1, 0, none⟩) (by simp) (.int .i64 (u + x))
              have h2 := endsF_step h1
              rw [unhide HU, ← unhide HUD] at h2
              exact h2
            · refine World.rowIs.setOther ((World.rowIs.set (unhide H2) 0 (.int .i64 (u + x))).congr fun i hi => ?_) (by simp <;> omega) _
              have h0 : i = 0 := by omega
              subst h0
              rw [unhide HU, ← unhide HUD]
              simp
            · exact (hB.setCell (by simp <;> omega) _).setCell (by simp <;> omega) _
            by_cases e : j = k
            · subst e; rw [unhide HX] at hy; cases hy; exact h05
            · exact unhide HA j y (by omega) hy
          case measure => simp [intOf]; omega
        · have hd : decide ((0 : Int) ≤ x ∧ x ≤ 5) = false := by simpa using h05
          rw [hd]
          have H05 := hide h05
          clear h05 hd
          go_wp2
          refine bodyPost_ret (v := .tuple #[.agg #[.int .i64 0, .nilFunc], .bool false]) (by simp [results, Tryz.results47, go_sem, z0, z1]) rfl ⟨.inl ⟨fun hc => unhide H05 (hc.2.1.at (unhide HX)), rfl⟩, ?_⟩
          exact (hB.setCell (by simp) _).setCell (by simp) _
      · have hkn : k = L.length := by have := unhide HL; omega
        have hsm := small_all hkn (unhide HA)
        have HSM := hide hsm
        have HK := hide hkn
        have hsum : upto L k = L.sum := by rw [hkn, upto_all]
        have HE := hide (fun i (hi : i < L.length) => (World.rowIs.cell hR1 (i := i) (by have := unhide HL; omega)))
        rw [hsum] at t0
        clear hR0 hR1 hR2 zl0 zl1 hsm hkn hsum
        by_cases hz : L.sum = 0
        · have hbe : (L.sum == 0) = true := by simpa using hz
          have HZ := hide hz
          clear hz
          go_wp2
          refine bodyPost_ret (v := .tuple #[.agg #[.int .i64 0, .nilFunc], .bool false]) (by simp [results, Tryz.results47, go_sem, z0, z1]) rfl ⟨.inl ⟨fun hc => absurd hc.2.2 (by rw [unhide HZ]; omega), rfl⟩, ?_⟩
          exact (hB.setCell (by simp) _).setCell (by simp) _
        · have hbe : (L.sum == 0) = false := by simpa using hz
          have HZ := hide hz
          clear hz
          go_wp2
          refine bodyPost_ret (v := .tuple #[.agg #[.int .i64 n, .func (.func 99) #[] #[.pointer (some ⟨w.heap.size + 1 + 1, 0, none⟩), .pointer (some ⟨w.heap.size + 1, 0, none⟩)]], .bool true]) (by simp [results, Tryz.results47, go_sem, z0, z1]) rfl ⟨.inr ⟨⟨by have := unhide HL; omega, unhide HSM, ?_⟩, _, _, rfl, ?_, fun i hi => ?_⟩, ?_⟩
          · have h1 := (unhide HSM).upto L.length (Nat.le_refl _)
            rw [upto_all] at h1
            have := unhide HZ
            omega
          · rw [World.cell?_setCell_other _ _ _ _ (by simp <;> omega), World.cell?_setCell_other _ _ _ _ (by simp <;> omega)]
            exact t0
          · rw [World.cell?_setCell_other _ _ _ _ (by simp <;> omega), World.cell?_setCell_other _ _ _ _ (by simp <;> omega), unhide HE i hi]
            have hik : i < k := by rw [unhide HK]; exact hi
            simp [endsF, hik]
          · exact (hB.setCell (by simp) _).setCell (by simp) _
  · have hd : decide ((3 : Int) ≤ (n : Int) ∧ (n : Int) ≤ 5) = false := by simpa using h35
    rw [hd]
    have H35 := hide h35
    clear h35 hd
    go_wp2
    refine bodyPost_ret (v := .tuple #[.agg #[.int .i64 0, .nilFunc], .bool false]) (by simp [results, Tryz.results47, go_sem]) rfl ⟨.inl ⟨fun hc => unhide H35 (by have := hc.1; have := unhide HL; omega), rfl⟩, ?_⟩
    exact (Below.refl _ w).alloc (Nat.le_refl _) _

end Go.Proofs.YtjgcjeaplckbbaaGreatDoor

/- The program's ArrayNew. -/
namespace Go.Proofs.YtjgcjeaplckbbaaGreatDoor
open Go.RowKit
set_option linter.unusedVariables false
set_option linter.unusedSimpArgs false

/-- What ArrayNew answers: nothing, or a new array, every member new. -/
def ArrNewRet (L : List Int) (k : Nat) (n : Int) (B : Nat) (e : Ending) (w' : World) : Prop :=
  (¬ (LayOk L ∧ 4 ≤ n ∧ n ≤ 12) ∧ e = .returned (.tuple #[.agg #[.slice none 0 0, .int .i64 0, .int .i64 0, .bool false, .slice none 0 0, .slice none 0 0], .bool false])) ∨
  ((LayOk L ∧ 4 ≤ n ∧ n ≤ 12) ∧ ∃ G v T, e = .returned (.tuple #[.agg #[v, .int .i64 n, .int .i64 (-1), .bool false, .slice (some ⟨G, 0, none⟩) k k, .slice none 0 0], .bool true]) ∧ B ≤ G ∧ MemsOwn w' G 0 (G + 1) T (List.replicate k (newMb n.toNat)) ∧ Room w' G (k * 4) ∧ OwnInts w' 2 T v L)

set_option maxRecDepth 100000 in
set_option maxHeartbeats 4000000 in
theorem implArrayNew_any (wa : Option Addr) (wc : Nat) (L : List Int) (k : Nat) (hL : L.length = k) (n : Int) (w : World) (hI : IntsAt w wa L) :
    Calls Tryz.prog 14 #[.slice wa k wc, .int .i64 n] w fun e w' => ArrNewRet L k n w.heap.size e w' ∧ Below w.heap.size w w' := by
  have HIN : Hid (∀ W', Below w.heap.size w W' → IntsAt W' wa L) := fun W' hW => hI.below hW (Nat.le_refl _)
  have HLL := hide hL
  clear hI hL
  go_enter Tryz.func14, Tryz.ntmps14
  go_wp2_with fail
  have hb0 : ∀ o, Below w.heap.size w (w.alloc o) := fun o => (Below.refl _ w).alloc (Nat.le_refl _) o
  refine (layoutOf_any wa wc L k (unhide HLL) _ (unhide HIN _ (hb0 _))).mono ?_
  rintro e w1 ⟨hlay, hB1⟩
  have hs1 := hB1.size
  simp only [World.size_alloc] at hs1
  have hW1 := (hb0 (.cells #[.slice none 0 0, .int .i64 0, .int .i64 0, .bool false, .slice none 0 0, .slice none 0 0] 30)).trans (hB1.mono (by simp))
  have hr1 := (hB1.block w.heap.size (by simp)).trans (World.alloc_heap_new w _)
  have HW1 := hide hW1
  have HR1 := hide hr1
  have hl1 : w.heap.size < w1.heap.size := by omega
  have c0 := cell_of_row _ _ 0 _ _ _ hr1
  have f0 := frozen_of_row _ _ 0 _ _ hr1
  have c1 := cell_of_row _ _ 1 _ _ _ hr1
  have f1 := frozen_of_row _ _ 1 _ _ hr1
  have c2 := cell_of_row _ _ 2 _ _ _ hr1
  have f2 := frozen_of_row _ _ 2 _ _ hr1
  have c3 := cell_of_row _ _ 3 _ _ _ hr1
  have f3 := frozen_of_row _ _ 3 _ _ hr1
  have c4 := cell_of_row _ _ 4 _ _ _ hr1
  have f4 := frozen_of_row _ _ 4 _ _ hr1
  have c5 := cell_of_row _ _ 5 _ _ _ hr1
  have f5 := frozen_of_row _ _ 5 _ _ hr1
  simp at c0 c1 c2 c3 c4 c5
  have hfa : ∀ (W : World) o j, w.heap.size < W.heap.size → (W.alloc o).frozen? ⟨w.heap.size, j, none⟩ = W.frozen? ⟨w.heap.size, j, none⟩ := fun W o j hl => by
    have e := ((Below.refl W.heap.size W).alloc (Nat.le_refl _) o).block w.heap.size hl
    simp only [World.frozen?, e]
  have hca : ∀ (W : World) o j, w.heap.size < W.heap.size → (W.alloc o).cell? ⟨w.heap.size, j, none⟩ = W.cell? ⟨w.heap.size, j, none⟩ := fun W o j hl => cell_alloc_lt _ _ _ _ hl
  obtain ⟨W5, hW5⟩ : ∃ W5, W5 = ((((((w1.setCell ⟨w.heap.size, 0, none⟩ (.slice none 0 0)).setCell ⟨w.heap.size, 1, none⟩ (.int .i64 0)).setCell ⟨w.heap.size, 2, none⟩ (.int .i64 0)).setCell ⟨w.heap.size, 3, none⟩ (.bool false)).setCell ⟨w.heap.size, 4, none⟩ (.slice none 0 0)).setCell ⟨w.heap.size, 5, none⟩ (.slice none 0 0)) := ⟨_, rfl⟩
  have y0 : ∀ o, (W5.alloc o).cell? ⟨w.heap.size, 0, none⟩ = some (.slice none 0 0) := fun o => by rw [hca _ _ _ (by rw [hW5]; simp [World.setCell]; omega), hW5, World.cell?_setCell_other _ _ _ _ (by simp), World.cell?_setCell_other _ _ _ _ (by simp), World.cell?_setCell_other _ _ _ _ (by simp), World.cell?_setCell_other _ _ _ _ (by simp), World.cell?_setCell_other _ _ _ _ (by simp), World.cell?_setCell_same' _ _ _ (by rw [c0]; rfl)]
  have y1 : ∀ o, (W5.alloc o).cell? ⟨w.heap.size, 1, none⟩ = some (.int .i64 0) := fun o => by rw [hca _ _ _ (by rw [hW5]; simp [World.setCell]; omega), hW5, World.cell?_setCell_other _ _ _ _ (by simp), World.cell?_setCell_other _ _ _ _ (by simp), World.cell?_setCell_other _ _ _ _ (by simp), World.cell?_setCell_other _ _ _ _ (by simp), World.cell?_setCell_same' _ _ _ (by rw [World.cell?_setCell_other _ _ _ _ (by simp), c1]; rfl)]
  have y2 : ∀ o, (W5.alloc o).cell? ⟨w.heap.size, 2, none⟩ = some (.int .i64 0) := fun o => by rw [hca _ _ _ (by rw [hW5]; simp [World.setCell]; omega), hW5, World.cell?_setCell_other _ _ _ _ (by simp), World.cell?_setCell_other _ _ _ _ (by simp), World.cell?_setCell_other _ _ _ _ (by simp), World.cell?_setCell_same' _ _ _ (by rw [World.cell?_setCell_other _ _ _ _ (by simp), World.cell?_setCell_other _ _ _ _ (by simp), c2]; rfl)]
  have y3 : ∀ o, (W5.alloc o).cell? ⟨w.heap.size, 3, none⟩ = some (.bool false) := fun o => by rw [hca _ _ _ (by rw [hW5]; simp [World.setCell]; omega), hW5, World.cell?_setCell_other _ _ _ _ (by simp), World.cell?_setCell_other _ _ _ _ (by simp), World.cell?_setCell_same' _ _ _ (by rw [World.cell?_setCell_other _ _ _ _ (by simp), World.cell?_setCell_other _ _ _ _ (by simp), World.cell?_setCell_other _ _ _ _ (by simp), c3]; rfl)]
  have y4 : ∀ o, (W5.alloc o).cell? ⟨w.heap.size, 4, none⟩ = some (.slice none 0 0) := fun o => by rw [hca _ _ _ (by rw [hW5]; simp [World.setCell]; omega), hW5, World.cell?_setCell_other _ _ _ _ (by simp), World.cell?_setCell_same' _ _ _ (by rw [World.cell?_setCell_other _ _ _ _ (by simp), World.cell?_setCell_other _ _ _ _ (by simp), World.cell?_setCell_other _ _ _ _ (by simp), World.cell?_setCell_other _ _ _ _ (by simp), c4]; rfl)]
  have y5 : ∀ o, (W5.alloc o).cell? ⟨w.heap.size, 5, none⟩ = some (.slice none 0 0) := fun o => by rw [hca _ _ _ (by rw [hW5]; simp [World.setCell]; omega), hW5, World.cell?_setCell_same' _ _ _ (by rw [World.cell?_setCell_other _ _ _ _ (by simp), World.cell?_setCell_other _ _ _ _ (by simp), World.cell?_setCell_other _ _ _ _ (by simp), World.cell?_setCell_other _ _ _ _ (by simp), World.cell?_setCell_other _ _ _ _ (by simp), c5]; rfl)]
  have h00 : Touch (fun q => q = w.heap.size) w1 w1 := Touch.refl _ w1
  have hT5 : Touch (fun q => q = w.heap.size) w1 W5 := by
    rw [hW5]
    exact Touch.setCell (p := ⟨w.heap.size, 5, none⟩) (Touch.setCell (p := ⟨w.heap.size, 4, none⟩) (Touch.setCell (p := ⟨w.heap.size, 3, none⟩) (Touch.setCell (p := ⟨w.heap.size, 2, none⟩) (Touch.setCell (p := ⟨w.heap.size, 1, none⟩) (Touch.setCell (p := ⟨w.heap.size, 0, none⟩) (h00) rfl _) rfl _) rfl _) rfl _) rfl _) rfl _
  have hs5 : W5.heap.size = w1.heap.size := by rw [hW5]; simp [World.setCell]
  have hWW : ∀ o, Below w.heap.size w (W5.alloc o) := fun o => ((unhide HW1).trans (hT5.below (by omega) (fun q hq => by omega))).alloc (by rw [hs5]; omega) o
  clear hT5 h00 hW1 hr1 hB1 hb0
  rcases hlay with ⟨hno, rfl⟩ | ⟨hyes, bt, be, rfl, hT⟩
  · have HNO : Hid (¬ (LayOk L ∧ 4 ≤ n ∧ n ≤ 12)) := fun h => hno h.1
    clear hno
    go_wp2
    rw [← hW5]
    clear hW5
    exact bodyPost_ret (v := .tuple #[.agg #[.slice none 0 0, .int .i64 0, .int .i64 0, .bool false, .slice none 0 0, .slice none 0 0], .bool false]) (by simp [results, Tryz.results14, go_sem, y0, y1, y2, y3, y4, y5]) rfl ⟨.inl ⟨unhide HNO, rfl⟩, hWW _⟩
  · have HYES := hide hyes
    have HT := hide hT
    clear hyes hT
    go_wp2_with fail
    refine (isBlockCount_any n _).mono ?_
    rintro e w2 ⟨rfl, rfl⟩
    by_cases h4 : 4 ≤ n ∧ n ≤ 12
    case neg =>
      rw [show decide (4 ≤ n ∧ n ≤ 12) = false by simpa using h4]
      have HNO : Hid (¬ (LayOk L ∧ 4 ≤ n ∧ n ≤ 12)) := fun h => h4 h.2
      clear h4
      go_wp2
      rw [← hW5]
      clear hW5
      exact bodyPost_ret (v := .tuple #[.agg #[.slice none 0 0, .int .i64 0, .int .i64 0, .bool false, .slice none 0 0, .slice none 0 0], .bool false]) (by simp [results, Tryz.results14, go_sem, y0, y1, y2, y3, y4, y5]) rfl ⟨.inl ⟨unhide HNO, rfl⟩, hWW _⟩
    case pos =>
      rw [show decide (4 ≤ n ∧ n ≤ 12) = true by simpa using h4]
      clear y0 y1 y2 y3 y4 y5 hWW hs5 hW5
      obtain ⟨nn, rfl⟩ := Int.eq_ofNat_of_zero_le (show 0 ≤ n by omega)
      have hn1 : 4 ≤ nn := by omega
      have hn2 : nn ≤ 12 := by omega
      have hk35 : 3 ≤ k ∧ k ≤ 5 := by have h := (unhide HYES).1; rw [unhide HLL] at h; exact h
      have HCALL : Hid (∀ W, Calls Tryz.prog 49 #[.int .i64 (nn : Int)] W fun e w' => ∃ g ma mc, e = .returned (.pointer (some ⟨g, 0, none⟩)) ∧ W.heap.size ≤ g ∧ g < w'.heap.size ∧ WorkAt w' g (newCC nn) (.slice none 0 0) ma (newMap nn).length mc 1 0 ∧ IntsAt w' ma (newMap nn) ∧ MineFrom w' ma (newMap nn).length W.heap.size ∧ Below W.heap.size W w') := fun W => newWorker_any nn hn1 hn2 W
      clear h4
      go_wp2_with fail
      obtain ⟨w2, hw2⟩ : ∃ w2, w2 = w1.alloc (.cells #[.int .i64 (k : Int), .func (.func 99) #[] #[.pointer (some ⟨bt, 0, none⟩), .pointer (some ⟨be, 0, none⟩)]] 79) := ⟨_, rfl⟩
      have hs2 : w2.heap.size = w1.heap.size + 1 := by rw [hw2]; simp
      have hB2 : Below w1.heap.size w1 w2 := by rw [hw2]; exact (Below.refl _ w1).alloc (Nat.le_refl _) _
      have HB2 := hide hB2
      rw [← hw2]
      clear hw2 hB2
      obtain ⟨c, hc⟩ : ∃ c, c = w1.heap.size + 1 := ⟨_, rfl⟩
      have hcs : w2.heap.size = c := by rw [hs2, hc]
      rw [← hc]
      have hwc : w.heap.size < c := by omega
      have HCC := hide hc
      have HCS := hide hcs
      clear hc hs2 hcs
      obtain ⟨i0, hi, hz0, hz1, hz2⟩ := info_parts infoWorkP
      go_loopw [28] (fun i wr => ∃ (j : Nat) (v : Value) (xs : List Value), j ≤ k ∧ i = .int .i64 j ∧ wr.heap[c]? = some (.cells #[.slice wa k wc, .int .i64 (k : Int), .func (.func 99) #[] #[.pointer (some ⟨bt, 0, none⟩), .pointer (some ⟨be, 0, none⟩)], .int .i64 (nn : Int), .int .i64 (-1), .bool false, v, .slice none 0 0, .int .i64 0, .slice none 0 0, .int .u64 0, .int .u32 0] 95 (0, 0)) ∧ wr.ownsRow (c + 1) 96 1 v j xs ∧ Crewmen wr (c + 1) v nn xs j ∧ Below c w2 wr ∧ c + 1 ≤ wr.heap.size) (fun i _ => k - (intOf i).toNat)
      case atStart =>
        have hcs := unhide HCS
        refine ⟨0, .slice none 0 0, [], Nat.zero_le _, rfl, ?_, World.ownsRow_nil _ _ _ _, fun i hi => absurd hi (Nat.not_lt_zero _), ?_, ?_⟩
        · rw [← hcs]; exact World.alloc_heap_new w2 _
        · exact (Below.refl _ w2).alloc (by omega) _
        · simp; omega
      case round =>
        obtain ⟨j, v, xs, hj, rfl, hv, hR, hM, hB, hsz⟩ := hrel
        have hxl := hR.1
        have hcv := cell_of_row _ _ 6 _ _ _ hv
        simp at hcv
        have HM := hide hM
        have HXL := hide hxl
        have HB := hide hB
        have HRR := hide hR
        have HV := hide hv
        clear hM hxl hB
        by_cases hlt : j < k
        · have hvne : some c ≠ v.ownBlock := fun e => by have := (hR.lt c e.symm).1; omega
          have HSV : Hid (∀ W, Below wr.heap.size wr W → W.cell? ⟨c, 6, none⟩ = some v) := fun W hW => (hW.cell (p := ⟨c, 6, none⟩) (by show c < wr.heap.size; omega)).trans hcv
          have HBD : Hid (Below wr.heap.size wr wr.drew) := (Below.refl _ _).drew
          have hmix : Tryz.prog.follows .mixedOrders = true := by kernel_rfl
          clear hR hv
          go_upto_region 7 with fail
          refine wp_region_held_drew (S := fun _ => True) hmix trivial (fun hHeld => ?_)
          refine wpAnyH_take (i := 0) (v := .pointer (some ⟨c, 6, none⟩)) rfl (by kernel_rfl) (by kernel_rfl) (by kernel_rfl) (fun _ _ _ h => h) (Or.inl ⟨by rfl, ?_⟩) hHeld ?_
          · (intro W hSW; clear hSW; go_simp)
          simp only [Act.put, List.setIfInBounds_toArray, List.set_cons_zero, List.set_cons_succ]
          refine wpAnyH_take (i := 2) (v := .int .i64 (nn : Int)) rfl (by kernel_rfl) (by kernel_rfl) (by kernel_rfl) (fun _ _ _ h => h) (Or.inl ⟨by rfl, ?_⟩) hHeld ?_
          · (intro W hSW; clear hSW; go_simp)
          simp only [Act.put, List.setIfInBounds_toArray, List.set_cons_zero, List.set_cons_succ]
          refine wpAnyH_ready (rs := [1, 3]) (by kernel_rfl) (by simp) ?_
          refine AllReadyH.cons rfl (fun K hK => ?_) (AllReadyH.cons rfl (fun K hK => ?_) AllReadyH.nil)
          · have s0 := unhide HSV wr.drew (unhide HBD)
            go_simp
            clear s0
            refine hK.out _ _ trivial (fun hHeld2 => ?_)
            clear hK K hHeld
            have hHeld := hHeld2
            clear hHeld2
            try simp only [Act.put, List.setIfInBounds_toArray, List.set_cons_zero, List.set_cons_succ]
            refine wpAnyH_ready (rs := [3]) (by kernel_rfl) (by simp) ?_
            refine AllReadyH.cons rfl (fun K hK => ?_) AllReadyH.nil
            go_simp
            refine (unhide HCALL wr.drew).mono ?_
            rintro e wC ⟨g, ma, mc, rfl, hg0, hg1, hWk, hIk, hMk, hBk⟩
            have HMAN : Hid (ManIn wC wr.heap.size wC.heap.size nn g ma mc) := ⟨hWk, hIk, hMk, hg0, hg1, fun q hq => by
              rcases hMk with ⟨e, _⟩ | ⟨g', e, _, k2, _⟩
              · rw [e] at hq; cases hq
              · rw [e] at hq; cases hq; exact k2⟩
            have HBC : Hid (Below wr.heap.size wr wC) := (unhide HBD).trans hBk
            have hsC := (unhide HBC).size
            clear hWk hIk hMk hBk hg0 hg1
            try go_wp2_with fail
            refine hK.out _ _ trivial (fun hHeld2 => ?_)
            clear hK K hHeld
            have hHeld := hHeld2
            clear hHeld2
            try simp only [Act.put, List.setIfInBounds_toArray, List.set_cons_zero, List.set_cons_succ]
            refine wpAnyH_ready (rs := [4]) (by kernel_rfl) (by simp) ?_
            refine AllReadyH.cons rfl (fun K hK => ?_) AllReadyH.nil
            go_simp
            have HBC2 : Hid (Below wr.heap.size wr (wC.alloc (.cells #[.pointer (some ⟨g, 0, none⟩)] 96))) := (unhide HBC).alloc hsC _
            refine hK.out _ _ trivial (fun hHeld2 => ?_)
            clear hK K hHeld
            have hHeld := hHeld2
            clear hHeld2
            try simp only [Act.put, List.setIfInBounds_toArray, List.set_cons_zero, List.set_cons_succ]
            have hRC : (wC.alloc (.cells #[.pointer (some ⟨g, 0, none⟩)] 96)).ownsRow (c + 1) 96 1 v j xs := World.ownsRow.kept (unhide HRR) (show wr.grownBy _ none from ⟨(unhide HBC2).os, (unhide HBC2).tape, (unhide HBC2).output, (unhide HBC2).size, fun q hq _ => (unhide HBC2).block q hq⟩) (by
              cases hvo : v.ownBlock with
              | none => exact Or.inl rfl
              | some q => exact Or.inr (by simp))
            refine wpAnyH_ready (rs := [5]) (by kernel_rfl) (by simp) ?_
            refine AllReadyH.cons rfl (fun K hK => ?_) AllReadyH.nil
            refine step_append_lies _ rfl (.tmp 31) (.tmp 34) 83 rfl (c + 1) 96 i0 _ 1 8 Tryz.underlying83 hi hz0 hz1 hz2 rfl (by decide) v j xs (by simp [Act.eval, Act.put]) hRC ⟨wC.heap.size, 0, none⟩ 1 1 [.pointer (some ⟨g, 0, none⟩)] (by simp [Act.eval, Act.put]) rfl (World.news_of_block (cs := #[.pointer (some ⟨g, 0, none⟩)]) (t := 96) (fr := (0, 0)) (by exact Go.Deep.blk_alloc_new _ _)) (by simp [Value.oneCell']) (by omega) (by unfold maxLen; omega) (by omega) (by simp; omega) (wC.heap.size + 1) (by simp) ?_
            intro g2 cap2 w3 hown2 hgrow2 hat2 hlt2
            have hv3 := (hgrow2.block c (by simp; omega) hvne).trans (((unhide HBC2).block c (by omega)).trans (unhide HV))
            have hk3 := cell_of_row _ _ 6 _ _ _ hv3
            have hf3 := frozen_of_row _ _ 6 _ _ hv3
            simp at hk3
            have HV3 := hide hv3
            clear hv3
            refine hK.out _ _ trivial (fun hHeld2 => ?_)
            clear hK K hHeld
            have hHeld := hHeld2
            clear hHeld2
            try simp only [Act.put, List.setIfInBounds_toArray, List.set_cons_zero, List.set_cons_succ]
            refine wpAnyH_take (i := 6) (v := .pointer (some ⟨c, 6, none⟩)) rfl (by kernel_rfl) (by kernel_rfl) (by kernel_rfl) (fun _ _ _ h => h) (Or.inl ⟨by rfl, ?_⟩) hHeld ?_
            · (intro W hSW; clear hSW; go_simp)
            simp only [Act.put, List.setIfInBounds_toArray, List.set_cons_zero, List.set_cons_succ]
            refine wpAnyH_ready (rs := [7]) (by kernel_rfl) (by simp) ?_
            refine AllReadyH.cons rfl (fun K hK => ?_) AllReadyH.nil
            go_simp
            refine hK.out _ _ trivial (fun hHeld2 => ?_)
            clear hK K hHeld
            have hHeld := hHeld2
            clear hHeld2
            try simp only [Act.put, List.setIfInBounds_toArray, List.set_cons_zero, List.set_cons_succ]
            refine wpAnyH_done (by kernel_rfl) ?_ _
            have hNW := (unhide HMAN).touch (S := fun _ => False) (w' := (wC.alloc (.cells #[.pointer (some ⟨g, 0, none⟩)] 96))) (Touch.of_below ((Below.refl wC.heap.size wC).alloc (Nat.le_refl _) _)) (fun q hq => hq.elim)
            have hp := Crewmen.push (cap := cap2) (unhide HM) (by have := unhide HXL; omega) (fun q hq => ((unhide HRR).lt q hq).2) (unhide HBC2) hsz hNW (by simp) hgrow2 (by rcases hat2 with h | h; exact .inl h; exact .inr (by simpa using h))
            have hs3 := hgrow2.size
            simp at hs3
            have hBn : Below c w2 w3 := Below.grown ((unhide HB).trans ((unhide HBC2).mono (by omega))) hgrow2 (by simp; omega) (fun q e => by have := ((unhide HRR).lt q e).1; omega)
            have hv5 := blk_setCell_same 6 (.slice (some ⟨g2, 0, none⟩) (j + 1) cap2) (unhide HV3)
            simp at hv5
            have hT5 : Touch (fun q => q = c) w3 (w3.setCell ⟨c, 6, none⟩ (.slice (some ⟨g2, 0, none⟩) (j + 1) cap2)) := Touch.setCell (S := fun q => q = c) (p := ⟨c, 6, none⟩) (Touch.refl _ w3) rfl _
            have HRES : Hid (∃ (j_1 : Nat) (v : Value) (xs : List Value), j_1 ≤ k ∧ Value.int IntKind.i64 ((j : Int) + 1) = .int .i64 (j_1 : Int) ∧ (w3.setCell ⟨c, 6, none⟩ (.slice (some ⟨g2, 0, none⟩) (j + 1) cap2)).heap[c]? = some (.cells #[.slice wa k wc, .int .i64 (k : Int), .func (.func 99) #[] #[.pointer (some ⟨bt, 0, none⟩), .pointer (some ⟨be, 0, none⟩)], .int .i64 (nn : Int), .int .i64 (-1), .bool false, v, .slice none 0 0, .int .i64 0, .slice none 0 0, .int .u64 0, .int .u32 0] 95 (0, 0)) ∧ (w3.setCell ⟨c, 6, none⟩ (.slice (some ⟨g2, 0, none⟩) (j + 1) cap2)).ownsRow (c + 1) 96 1 v j_1 xs ∧ Crewmen (w3.setCell ⟨c, 6, none⟩ (.slice (some ⟨g2, 0, none⟩) (j + 1) cap2)) (c + 1) v nn xs j_1 ∧ Below c w2 (w3.setCell ⟨c, 6, none⟩ (.slice (some ⟨g2, 0, none⟩) (j + 1) cap2)) ∧ c + 1 ≤ (w3.setCell ⟨c, 6, none⟩ (.slice (some ⟨g2, 0, none⟩) (j + 1) cap2)).heap.size) :=
              ⟨j + 1, .slice (some ⟨g2, 0, none⟩) (j + 1) cap2, xs ++ [.pointer (some ⟨g, 0, none⟩)], by omega, by simp, hv5, ownsRow_setCell_below hown2 (by show c < c + 1; omega) _, hp.touch hT5 (fun q hq => by omega), hBn.setCell (by show c ≤ c; omega) _, by simp [World.setCell]; omega⟩
            clear hT5 hv5 hBn hp hNW hk3 hf3 hown2 hgrow2 hat2 hRC
            go_wp2_with fail
            exact ⟨unhide HRES, by simp [intOf]; omega⟩
          · go_simp
            refine (unhide HCALL wr.drew).mono ?_
            rintro e wC ⟨g, ma, mc, rfl, hg0, hg1, hWk, hIk, hMk, hBk⟩
            have HMAN : Hid (ManIn wC wr.heap.size wC.heap.size nn g ma mc) := ⟨hWk, hIk, hMk, hg0, hg1, fun q hq => by
              rcases hMk with ⟨e, _⟩ | ⟨g', e, _, k2, _⟩
              · rw [e] at hq; cases hq
              · rw [e] at hq; cases hq; exact k2⟩
            have HBC : Hid (Below wr.heap.size wr wC) := (unhide HBD).trans hBk
            have hsC := (unhide HBC).size
            clear hWk hIk hMk hBk hg0 hg1
            try go_wp2_with fail
            refine hK.out _ _ trivial (fun hHeld2 => ?_)
            clear hK K hHeld
            have hHeld := hHeld2
            clear hHeld2
            try simp only [Act.put, List.setIfInBounds_toArray, List.set_cons_zero, List.set_cons_succ]
            refine wpAnyH_ready (rs := [1, 4]) (by kernel_rfl) (by simp) ?_
            refine AllReadyH.cons rfl (fun K hK => ?_) (AllReadyH.cons rfl (fun K hK => ?_) AllReadyH.nil)
            · have s0 := unhide HSV wC (unhide HBC)
              go_simp
              clear s0
              refine hK.out _ _ trivial (fun hHeld2 => ?_)
              clear hK K hHeld
              have hHeld := hHeld2
              clear hHeld2
              try simp only [Act.put, List.setIfInBounds_toArray, List.set_cons_zero, List.set_cons_succ]
              refine wpAnyH_ready (rs := [4]) (by kernel_rfl) (by simp) ?_
              refine AllReadyH.cons rfl (fun K hK => ?_) AllReadyH.nil
              go_simp
              have HBC2 : Hid (Below wr.heap.size wr (wC.alloc (.cells #[.pointer (some ⟨g, 0, none⟩)] 96))) := (unhide HBC).alloc hsC _
              refine hK.out _ _ trivial (fun hHeld2 => ?_)
              clear hK K hHeld
              have hHeld := hHeld2
              clear hHeld2
              try simp only [Act.put, List.setIfInBounds_toArray, List.set_cons_zero, List.set_cons_succ]
              have hRC : (wC.alloc (.cells #[.pointer (some ⟨g, 0, none⟩)] 96)).ownsRow (c + 1) 96 1 v j xs := World.ownsRow.kept (unhide HRR) (show wr.grownBy _ none from ⟨(unhide HBC2).os, (unhide HBC2).tape, (unhide HBC2).output, (unhide HBC2).size, fun q hq _ => (unhide HBC2).block q hq⟩) (by
                cases hvo : v.ownBlock with
                | none => exact Or.inl rfl
                | some q => exact Or.inr (by simp))
              refine wpAnyH_ready (rs := [5]) (by kernel_rfl) (by simp) ?_
              refine AllReadyH.cons rfl (fun K hK => ?_) AllReadyH.nil
              refine step_append_lies _ rfl (.tmp 31) (.tmp 34) 83 rfl (c + 1) 96 i0 _ 1 8 Tryz.underlying83 hi hz0 hz1 hz2 rfl (by decide) v j xs (by simp [Act.eval, Act.put]) hRC ⟨wC.heap.size, 0, none⟩ 1 1 [.pointer (some ⟨g, 0, none⟩)] (by simp [Act.eval, Act.put]) rfl (World.news_of_block (cs := #[.pointer (some ⟨g, 0, none⟩)]) (t := 96) (fr := (0, 0)) (by exact Go.Deep.blk_alloc_new _ _)) (by simp [Value.oneCell']) (by omega) (by unfold maxLen; omega) (by omega) (by simp; omega) (wC.heap.size + 1) (by simp) ?_
              intro g2 cap2 w3 hown2 hgrow2 hat2 hlt2
              have hv3 := (hgrow2.block c (by simp; omega) hvne).trans (((unhide HBC2).block c (by omega)).trans (unhide HV))
              have hk3 := cell_of_row _ _ 6 _ _ _ hv3
              have hf3 := frozen_of_row _ _ 6 _ _ hv3
              simp at hk3
              have HV3 := hide hv3
              clear hv3
              refine hK.out _ _ trivial (fun hHeld2 => ?_)
              clear hK K hHeld
              have hHeld := hHeld2
              clear hHeld2
              try simp only [Act.put, List.setIfInBounds_toArray, List.set_cons_zero, List.set_cons_succ]
              refine wpAnyH_take (i := 6) (v := .pointer (some ⟨c, 6, none⟩)) rfl (by kernel_rfl) (by kernel_rfl) (by kernel_rfl) (fun _ _ _ h => h) (Or.inl ⟨by rfl, ?_⟩) hHeld ?_
              · (intro W hSW; clear hSW; go_simp)
              simp only [Act.put, List.setIfInBounds_toArray, List.set_cons_zero, List.set_cons_succ]
              refine wpAnyH_ready (rs := [7]) (by kernel_rfl) (by simp) ?_
              refine AllReadyH.cons rfl (fun K hK => ?_) AllReadyH.nil
              go_simp
              refine hK.out _ _ trivial (fun hHeld2 => ?_)
              clear hK K hHeld
              have hHeld := hHeld2
              clear hHeld2
              try simp only [Act.put, List.setIfInBounds_toArray, List.set_cons_zero, List.set_cons_succ]
              refine wpAnyH_done (by kernel_rfl) ?_ _
              have hNW := (unhide HMAN).touch (S := fun _ => False) (w' := (wC.alloc (.cells #[.pointer (some ⟨g, 0, none⟩)] 96))) (Touch.of_below ((Below.refl wC.heap.size wC).alloc (Nat.le_refl _) _)) (fun q hq => hq.elim)
              have hp := Crewmen.push (cap := cap2) (unhide HM) (by have := unhide HXL; omega) (fun q hq => ((unhide HRR).lt q hq).2) (unhide HBC2) hsz hNW (by simp) hgrow2 (by rcases hat2 with h | h; exact .inl h; exact .inr (by simpa using h))
              have hs3 := hgrow2.size
              simp at hs3
              have hBn : Below c w2 w3 := Below.grown ((unhide HB).trans ((unhide HBC2).mono (by omega))) hgrow2 (by simp; omega) (fun q e => by have := ((unhide HRR).lt q e).1; omega)
              have hv5 := blk_setCell_same 6 (.slice (some ⟨g2, 0, none⟩) (j + 1) cap2) (unhide HV3)
              simp at hv5
              have hT5 : Touch (fun q => q = c) w3 (w3.setCell ⟨c, 6, none⟩ (.slice (some ⟨g2, 0, none⟩) (j + 1) cap2)) := Touch.setCell (S := fun q => q = c) (p := ⟨c, 6, none⟩) (Touch.refl _ w3) rfl _
              have HRES : Hid (∃ (j_1 : Nat) (v : Value) (xs : List Value), j_1 ≤ k ∧ Value.int IntKind.i64 ((j : Int) + 1) = .int .i64 (j_1 : Int) ∧ (w3.setCell ⟨c, 6, none⟩ (.slice (some ⟨g2, 0, none⟩) (j + 1) cap2)).heap[c]? = some (.cells #[.slice wa k wc, .int .i64 (k : Int), .func (.func 99) #[] #[.pointer (some ⟨bt, 0, none⟩), .pointer (some ⟨be, 0, none⟩)], .int .i64 (nn : Int), .int .i64 (-1), .bool false, v, .slice none 0 0, .int .i64 0, .slice none 0 0, .int .u64 0, .int .u32 0] 95 (0, 0)) ∧ (w3.setCell ⟨c, 6, none⟩ (.slice (some ⟨g2, 0, none⟩) (j + 1) cap2)).ownsRow (c + 1) 96 1 v j_1 xs ∧ Crewmen (w3.setCell ⟨c, 6, none⟩ (.slice (some ⟨g2, 0, none⟩) (j + 1) cap2)) (c + 1) v nn xs j_1 ∧ Below c w2 (w3.setCell ⟨c, 6, none⟩ (.slice (some ⟨g2, 0, none⟩) (j + 1) cap2)) ∧ c + 1 ≤ (w3.setCell ⟨c, 6, none⟩ (.slice (some ⟨g2, 0, none⟩) (j + 1) cap2)).heap.size) :=
                ⟨j + 1, .slice (some ⟨g2, 0, none⟩) (j + 1) cap2, xs ++ [.pointer (some ⟨g, 0, none⟩)], by omega, by simp, hv5, ownsRow_setCell_below hown2 (by show c < c + 1; omega) _, hp.touch hT5 (fun q hq => by omega), hBn.setCell (by show c ≤ c; omega) _, by simp [World.setCell]; omega⟩
              clear hT5 hv5 hBn hp hNW hk3 hf3 hown2 hgrow2 hat2 hRC
              go_wp2_with fail
              exact ⟨unhide HRES, by simp [intOf]; omega⟩
            · go_simp
              have HBC2 : Hid (Below wr.heap.size wr (wC.alloc (.cells #[.pointer (some ⟨g, 0, none⟩)] 96))) := (unhide HBC).alloc hsC _
              refine hK.out _ _ trivial (fun hHeld2 => ?_)
              clear hK K hHeld
              have hHeld := hHeld2
              clear hHeld2
              try simp only [Act.put, List.setIfInBounds_toArray, List.set_cons_zero, List.set_cons_succ]
              refine wpAnyH_ready (rs := [1]) (by kernel_rfl) (by simp) ?_
              refine AllReadyH.cons rfl (fun K hK => ?_) AllReadyH.nil
              have s0 := unhide HSV (wC.alloc (.cells #[.pointer (some ⟨g, 0, none⟩)] 96)) (unhide HBC2)
              go_simp
              clear s0
              refine hK.out _ _ trivial (fun hHeld2 => ?_)
              clear hK K hHeld
              have hHeld := hHeld2
              clear hHeld2
              try simp only [Act.put, List.setIfInBounds_toArray, List.set_cons_zero, List.set_cons_succ]
              have hRC : (wC.alloc (.cells #[.pointer (some ⟨g, 0, none⟩)] 96)).ownsRow (c + 1) 96 1 v j xs := World.ownsRow.kept (unhide HRR) (show wr.grownBy _ none from ⟨(unhide HBC2).os, (unhide HBC2).tape, (unhide HBC2).output, (unhide HBC2).size, fun q hq _ => (unhide HBC2).block q hq⟩) (by
                cases hvo : v.ownBlock with
                | none => exact Or.inl rfl
                | some q => exact Or.inr (by simp))
              refine wpAnyH_ready (rs := [5]) (by kernel_rfl) (by simp) ?_
              refine AllReadyH.cons rfl (fun K hK => ?_) AllReadyH.nil
              refine step_append_lies _ rfl (.tmp 31) (.tmp 34) 83 rfl (c + 1) 96 i0 _ 1 8 Tryz.underlying83 hi hz0 hz1 hz2 rfl (by decide) v j xs (by simp [Act.eval, Act.put]) hRC ⟨wC.heap.size, 0, none⟩ 1 1 [.pointer (some ⟨g, 0, none⟩)] (by simp [Act.eval, Act.put]) rfl (World.news_of_block (cs := #[.pointer (some ⟨g, 0, none⟩)]) (t := 96) (fr := (0, 0)) (by exact Go.Deep.blk_alloc_new _ _)) (by simp [Value.oneCell']) (by omega) (by unfold maxLen; omega) (by omega) (by simp; omega) (wC.heap.size + 1) (by simp) ?_
              intro g2 cap2 w3 hown2 hgrow2 hat2 hlt2
              have hv3 := (hgrow2.block c (by simp; omega) hvne).trans (((unhide HBC2).block c (by omega)).trans (unhide HV))
              have hk3 := cell_of_row _ _ 6 _ _ _ hv3
              have hf3 := frozen_of_row _ _ 6 _ _ hv3
              simp at hk3
              have HV3 := hide hv3
              clear hv3
              refine hK.out _ _ trivial (fun hHeld2 => ?_)
              clear hK K hHeld
              have hHeld := hHeld2
              clear hHeld2
              try simp only [Act.put, List.setIfInBounds_toArray, List.set_cons_zero, List.set_cons_succ]
              refine wpAnyH_take (i := 6) (v := .pointer (some ⟨c, 6, none⟩)) rfl (by kernel_rfl) (by kernel_rfl) (by kernel_rfl) (fun _ _ _ h => h) (Or.inl ⟨by rfl, ?_⟩) hHeld ?_
              · (intro W hSW; clear hSW; go_simp)
              simp only [Act.put, List.setIfInBounds_toArray, List.set_cons_zero, List.set_cons_succ]
              refine wpAnyH_ready (rs := [7]) (by kernel_rfl) (by simp) ?_
              refine AllReadyH.cons rfl (fun K hK => ?_) AllReadyH.nil
              go_simp
              refine hK.out _ _ trivial (fun hHeld2 => ?_)
              clear hK K hHeld
              have hHeld := hHeld2
              clear hHeld2
              try simp only [Act.put, List.setIfInBounds_toArray, List.set_cons_zero, List.set_cons_succ]
              refine wpAnyH_done (by kernel_rfl) ?_ _
              have hNW := (unhide HMAN).touch (S := fun _ => False) (w' := (wC.alloc (.cells #[.pointer (some ⟨g, 0, none⟩)] 96))) (Touch.of_below ((Below.refl wC.heap.size wC).alloc (Nat.le_refl _) _)) (fun q hq => hq.elim)
              have hp := Crewmen.push (cap := cap2) (unhide HM) (by have := unhide HXL; omega) (fun q hq => ((unhide HRR).lt q hq).2) (unhide HBC2) hsz hNW (by simp) hgrow2 (by rcases hat2 with h | h; exact .inl h; exact .inr (by simpa using h))
              have hs3 := hgrow2.size
              simp at hs3
              have hBn : Below c w2 w3 := Below.grown ((unhide HB).trans ((unhide HBC2).mono (by omega))) hgrow2 (by simp; omega) (fun q e => by have := ((unhide HRR).lt q e).1; omega)
              have hv5 := blk_setCell_same 6 (.slice (some ⟨g2, 0, none⟩) (j + 1) cap2) (unhide HV3)
              simp at hv5
              have hT5 : Touch (fun q => q = c) w3 (w3.setCell ⟨c, 6, none⟩ (.slice (some ⟨g2, 0, none⟩) (j + 1) cap2)) := Touch.setCell (S := fun q => q = c) (p := ⟨c, 6, none⟩) (Touch.refl _ w3) rfl _
              have HRES : Hid (∃ (j_1 : Nat) (v : Value) (xs : List Value), j_1 ≤ k ∧ Value.int IntKind.i64 ((j : Int) + 1) = .int .i64 (j_1 : Int) ∧ (w3.setCell ⟨c, 6, none⟩ (.slice (some ⟨g2, 0, none⟩) (j + 1) cap2)).heap[c]? = some (.cells #[.slice wa k wc, .int .i64 (k : Int), .func (.func 99) #[] #[.pointer (some ⟨bt, 0, none⟩), .pointer (some ⟨be, 0, none⟩)], .int .i64 (nn : Int), .int .i64 (-1), .bool false, v, .slice none 0 0, .int .i64 0, .slice none 0 0, .int .u64 0, .int .u32 0] 95 (0, 0)) ∧ (w3.setCell ⟨c, 6, none⟩ (.slice (some ⟨g2, 0, none⟩) (j + 1) cap2)).ownsRow (c + 1) 96 1 v j_1 xs ∧ Crewmen (w3.setCell ⟨c, 6, none⟩ (.slice (some ⟨g2, 0, none⟩) (j + 1) cap2)) (c + 1) v nn xs j_1 ∧ Below c w2 (w3.setCell ⟨c, 6, none⟩ (.slice (some ⟨g2, 0, none⟩) (j + 1) cap2)) ∧ c + 1 ≤ (w3.setCell ⟨c, 6, none⟩ (.slice (some ⟨g2, 0, none⟩) (j + 1) cap2)).heap.size) :=
                ⟨j + 1, .slice (some ⟨g2, 0, none⟩) (j + 1) cap2, xs ++ [.pointer (some ⟨g, 0, none⟩)], by omega, by simp, hv5, ownsRow_setCell_below hown2 (by show c < c + 1; omega) _, hp.touch hT5 (fun q hq => by omega), hBn.setCell (by show c ≤ c; omega) _, by simp [World.setCell]; omega⟩
              clear hT5 hv5 hBn hp hNW hk3 hf3 hown2 hgrow2 hat2 hRC
              go_wp2_with fail
              exact ⟨unhide HRES, by simp [intOf]; omega⟩
        · have hjk : j = k := by omega
          subst hjk
          have hR0 := hR
          rcases hR.2 with ⟨_, h0⟩ | ⟨g3, cap3, cur, rfl, -, -, -⟩
          · omega
          have hcs := unhide HCS
          have hcc := unhide HCC
          have hWr : Below w.heap.size w wr := ((unhide HW1).trans ((unhide HB2).mono (by omega))).trans ((unhide HB).mono (by omega))
          have hcrew : CrewAt wr c wa wc j (nn : Int) (-1) g3 cap3 := ⟨by simpa using cell_of_row _ _ 0 _ _ _ hv, by simpa using cell_of_row _ _ 3 _ _ _ hv, by simpa using cell_of_row _ _ 4 _ _ _ hv, by simpa using cell_of_row _ _ 5 _ _ _ hv, by simpa using cell_of_row _ _ 6 _ _ _ hv, by simpa using cell_of_row _ _ 7 _ _ _ hv⟩
          have HARR := hide (array_any c wa wc j nn (-1) g3 cap3 L (List.replicate j (newMb nn)) (by simp) (by omega) (by omega) (unhide HLL) wr (unhide HIN wr hWr) hcrew (Crewmen.works (unhide HM) hR0 hn1 hn2))
          have hr0 := ((unhide HB).block w.heap.size (by omega)).trans (((unhide HB2).block w.heap.size (by omega)).trans (unhide HR1))
          have HR0 := hide hr0
          have HWR := hide hWr
          have hswr := hWr.size
          have hwl : w.heap.size < wr.heap.size := by omega
          clear hR hR0 hv hcrew hWr hr0 HM HRR HV c0 c1 c2 c3 c4 c5 f0 f1 f2 f3 f4 f5 hcv hcs hcc
          go_wp2_with fail
          refine (unhide HARR).mono ?_
          rintro e w4 ⟨G, v4, T, rfl, hG, hMO, hRm, hOI, hB4⟩
          obtain ⟨a4, c4, rfl, -, -⟩ := hOI.form
          rw [unhide HLL] at hOI ⊢
          have hs4 := hB4.size
          have hr4 := (hB4.block w.heap.size hwl).trans (unhide HR0)
          have z0 := cell_of_row _ _ 0 _ _ _ hr4
          have f0 := frozen_of_row _ _ 0 _ _ hr4
          have z1 := cell_of_row _ _ 1 _ _ _ hr4
          have f1 := frozen_of_row _ _ 1 _ _ hr4
          have z2 := cell_of_row _ _ 2 _ _ _ hr4
          have f2 := frozen_of_row _ _ 2 _ _ hr4
          have z3 := cell_of_row _ _ 3 _ _ _ hr4
          have f3 := frozen_of_row _ _ 3 _ _ hr4
          have z4 := cell_of_row _ _ 4 _ _ _ hr4
          have f4 := frozen_of_row _ _ 4 _ _ hr4
          have z5 := cell_of_row _ _ 5 _ _ _ hr4
          have f5 := frozen_of_row _ _ 5 _ _ hr4
          simp at z0 z1 z2 z3 z4 z5
          obtain ⟨W5, hW5⟩ : ∃ W5, W5 = ((((((w4.setCell ⟨w.heap.size, 0, none⟩ (.slice a4 j c4)).setCell ⟨w.heap.size, 1, none⟩ (.int .i64 (nn : Int))).setCell ⟨w.heap.size, 2, none⟩ (.int .i64 (-1))).setCell ⟨w.heap.size, 3, none⟩ (.bool false)).setCell ⟨w.heap.size, 4, none⟩ (.slice (some ⟨G, 0, none⟩) j j)).setCell ⟨w.heap.size, 5, none⟩ (.slice none 0 0)) := ⟨_, rfl⟩
          have y0 : W5.cell? ⟨w.heap.size, 0, none⟩ = some (.slice a4 j c4) := by rw [hW5, World.cell?_setCell_other _ _ _ _ (by simp), World.cell?_setCell_other _ _ _ _ (by simp), World.cell?_setCell_other _ _ _ _ (by simp), World.cell?_setCell_other _ _ _ _ (by simp), World.cell?_setCell_other _ _ _ _ (by simp), World.cell?_setCell_same' _ _ _ (by rw [z0]; rfl)]
          have y1 : W5.cell? ⟨w.heap.size, 1, none⟩ = some (.int .i64 (nn : Int)) := by rw [hW5, World.cell?_setCell_other _ _ _ _ (by simp), World.cell?_setCell_other _ _ _ _ (by simp), World.cell?_setCell_other _ _ _ _ (by simp), World.cell?_setCell_other _ _ _ _ (by simp), World.cell?_setCell_same' _ _ _ (by rw [World.cell?_setCell_other _ _ _ _ (by simp), z1]; rfl)]
          have y2 : W5.cell? ⟨w.heap.size, 2, none⟩ = some (.int .i64 (-1)) := by rw [hW5, World.cell?_setCell_other _ _ _ _ (by simp), World.cell?_setCell_other _ _ _ _ (by simp), World.cell?_setCell_other _ _ _ _ (by simp), World.cell?_setCell_same' _ _ _ (by rw [World.cell?_setCell_other _ _ _ _ (by simp), World.cell?_setCell_other _ _ _ _ (by simp), z2]; rfl)]
          have y3 : W5.cell? ⟨w.heap.size, 3, none⟩ = some (.bool false) := by rw [hW5, World.cell?_setCell_other _ _ _ _ (by simp), World.cell?_setCell_other _ _ _ _ (by simp), World.cell?_setCell_same' _ _ _ (by rw [World.cell?_setCell_other _ _ _ _ (by simp), World.cell?_setCell_other _ _ _ _ (by simp), World.cell?_setCell_other _ _ _ _ (by simp), z3]; rfl)]
          have y4 : W5.cell? ⟨w.heap.size, 4, none⟩ = some (.slice (some ⟨G, 0, none⟩) j j) := by rw [hW5, World.cell?_setCell_other _ _ _ _ (by simp), World.cell?_setCell_same' _ _ _ (by rw [World.cell?_setCell_other _ _ _ _ (by simp), World.cell?_setCell_other _ _ _ _ (by simp), World.cell?_setCell_other _ _ _ _ (by simp), World.cell?_setCell_other _ _ _ _ (by simp), z4]; rfl)]
          have y5 : W5.cell? ⟨w.heap.size, 5, none⟩ = some (.slice none 0 0) := by rw [hW5, World.cell?_setCell_same' _ _ _ (by rw [World.cell?_setCell_other _ _ _ _ (by simp), World.cell?_setCell_other _ _ _ _ (by simp), World.cell?_setCell_other _ _ _ _ (by simp), World.cell?_setCell_other _ _ _ _ (by simp), World.cell?_setCell_other _ _ _ _ (by simp), z5]; rfl)]
          have h00 : Touch (fun q => q = w.heap.size) w4 w4 := Touch.refl _ w4
          have hT5 : Touch (fun q => q = w.heap.size) w4 W5 := by
            rw [hW5]
            exact Touch.setCell (p := ⟨w.heap.size, 5, none⟩) (Touch.setCell (p := ⟨w.heap.size, 4, none⟩) (Touch.setCell (p := ⟨w.heap.size, 3, none⟩) (Touch.setCell (p := ⟨w.heap.size, 2, none⟩) (Touch.setCell (p := ⟨w.heap.size, 1, none⟩) (Touch.setCell (p := ⟨w.heap.size, 0, none⟩) (h00) rfl _) rfl _) rfl _) rfl _) rfl _) rfl _
          have hs5 : W5.heap.size = w4.heap.size := by rw [hW5]; simp [World.setCell]
          have hMO5 := MemsOwn.touch hT5 (fun hs => by omega) hMO (fun q hq => by omega)
          have hGl : G < w4.heap.size := by
            obtain ⟨u9, hu9⟩ := hRm.1 0 (by omega)
            exact World.block_lt_of_cell? _ _ hu9
          have hRm5 : Room W5 G (j * 4) := hRm.of_block (hT5.block G hGl (fun hs => by omega))
          have hOI5 : OwnInts W5 2 T (.slice a4 j c4) L := OwnInts.touchA hOI (by have := hMO.le; omega) hT5
          have hWB : Below w.heap.size w W5 := ((unhide HWR).trans (hB4.mono (by omega))).trans (hT5.below (by omega) (fun q hq => by omega))
          have HF : Hid (MemsOwn W5 G 0 (G + 1) T (List.replicate j (newMb nn)) ∧ Room W5 G (j * 4) ∧ OwnInts W5 2 T (.slice a4 j c4) L ∧ Below w.heap.size w W5) := ⟨hMO5, hRm5, hOI5, hWB⟩
          have HY : Hid (LayOk L ∧ 4 ≤ (nn : Int) ∧ (nn : Int) ≤ 12) := ⟨unhide HYES, by omega, by omega⟩
          have hwG : w.heap.size ≤ G := by omega
          clear hMO5 hRm5 hOI5 hWB hMO hRm hOI hT5 h00 hr4 HARR HR0 hB4
          go_wp2
          try rw [← hW5]
          clear hW5
          obtain ⟨hF1, hF2, hF3, hF4⟩ := unhide HF
          exact bodyPost_ret (v := .tuple #[.agg #[.slice a4 j c4, .int .i64 (nn : Int), .int .i64 (-1), .bool false, .slice (some ⟨G, 0, none⟩) j j, .slice none 0 0], .bool true]) (by simp [results, Tryz.results14, go_sem, y0, y1, y2, y3, y4, y5]) rfl ⟨.inr ⟨unhide HY, G, .slice a4 j c4, T, rfl, hwG, by simpa using hF1, hF2, hF3⟩, hF4⟩
end Go.Proofs.YtjgcjeaplckbbaaGreatDoor

/- New arrays: when there is one, what its members are. -/
namespace Go.Proofs.YtjgcjeaplckbbaaGreatDoor
open Go.RowKit
set_option linter.unusedVariables false
set_option linter.unusedSimpArgs false

def NewYes (L : List Int) (n : Int) : Prop := LayOk L ∧ 4 ≤ n ∧ n ≤ 12
instance (L : List Int) (n : Int) : Decidable (NewYes L n) := by unfold NewYes; infer_instance
def newMs (L : List Int) (n : Int) : List Mb := List.replicate L.length (newMb n.toNat)
theorem NewYes.len {L : List Int} {n : Int} (h : NewYes L n) : 3 ≤ L.length ∧ L.length ≤ 5 := h.1.1
theorem NewYes.nat {L : List Int} {n : Int} (h : NewYes L n) : 4 ≤ n.toNat ∧ n.toNat ≤ 12 := by have := h.2; omega
theorem newMs_short {L : List Int} {n : Int} (h : NewYes L n) : ∀ m ∈ newMs L n, Mb.Short m := fun m hm => by
  rw [List.eq_of_mem_replicate hm]; exact newMb_short h.nat.1 h.nat.2
end Go.Proofs.YtjgcjeaplckbbaaGreatDoor
