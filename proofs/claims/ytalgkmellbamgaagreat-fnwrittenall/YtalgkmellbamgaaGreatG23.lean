/- 4 texts in one. -/
import Derived.Test.YtalgkmellbamgaaGreatG21
import Derived.Test.YtalgkmellbamgaaGreatG05
import Derived.Test.YtalgkmellbamgaaGreatG22
import Derived.Test.YtalgkmellbamgaaGreatG07
import Derived.WalkKit
import Derived.Outline
import Derived.Deep.DeepCutAuto
import Derived.Test.YtalgkmellbamgaaGreatChecked
import Derived.Test.YtalgkmellbamgaaGreatG01
import Derived.Deep.RegionHeld3
import Derived.Test.YtalgkmellbamgaaGreatG06
import Derived.Test.YtalgkmellbamgaaGreatG14
import Derived.Deep.MidRow

/- A block is emptied: the program's emptying; ops as the program holds them. -/
namespace Go.Proofs.YtalgkmellbamgaaGreat
open Go.RowKit
set_option linter.unusedVariables false
set_option linter.unusedSimpArgs false

/-- The program's value for an op. -/
def coV (x : Opn) : Value := if x.kind = 1 then progV x.block x.page else eraV x.block
theorem coV_prog (b : Int) (p : Pg) : coV ⟨1, b, p⟩ = progV b p := rfl
theorem coV_era (b : Int) (p : Pg) : coV ⟨2, b, p⟩ = eraV b := rfl
theorem coV_stands {x : Opn} (h : goodOp x) : StandsFor (coV x) x := by
  rcases h with h | ⟨h, h2⟩
  · exact .inl ⟨h, by unfold coV; rw [if_pos h]⟩
  · exact .inr ⟨h, h2, by unfold coV; rw [if_neg (by omega)]⟩
/-- The slice v holds the program's values of the ops xs, in a row that was made from block B on and may be written. -/
def OwnsCo (w : World) (B : Nat) (v : Value) (xs : List Opn) : Prop := w.ownsRow B 75 1 v xs.length (xs.map coV)
theorem OwnsCo.kept {w w' : World} {B : Nat} {v : Value} {xs : List Opn} (h : OwnsCo w B v xs) (hb : Below w.heap.size w w') : OwnsCo w' B v xs := by
  have hg : w.grownBy w' none := ⟨hb.os, hb.tape, hb.output, hb.size, fun k hk _ => hb.block k hk⟩
  refine World.ownsRow.kept h hg ?_
  cases hv : v.ownBlock with
  | none => exact Or.inl rfl
  | some k => exact Or.inr (by simp)
theorem OwnsCo.lower {w : World} {B B' : Nat} {v : Value} {xs : List Opn} (h : OwnsCo w B v xs) (hB : B' ≤ B) : OwnsCo w B' v xs := by
  refine ⟨h.1, ?_⟩
  rcases h.2 with h0 | ⟨g, cap, cur, e1, e2, e3⟩
  · exact .inl h0
  · exact .inr ⟨g, cap, cur, e1, by omega, e3⟩
theorem OwnsCo.form {w : World} {B : Nat} {v : Value} {xs : List Opn} (h : OwnsCo w B v xs) (hg : ∀ x ∈ xs, goodOp x) : ∃ a c, v = .slice a xs.length c ∧ CoAt w a xs := by
  have h0 := h
  rcases h.2 with ⟨hv, hl⟩ | ⟨g, cap, cur, rfl, hb, hgg, hn, _⟩
  · exact ⟨none, 0, by rw [hv, hl], fun i x hx => by have := (List.getElem?_eq_some_iff.1 hx).1; omega⟩
  · refine ⟨_, _, rfl, fun i x hx => ⟨g, 0, coV x, rfl, ?_, coV_stands (hg x (List.mem_of_getElem? hx))⟩⟩
    rw [Nat.zero_add]
    exact ownsRow_cell h0 (by simp [hx])
theorem infoChipOp : (Tryz.prog.info? 75).map (fun i => (i.zero, i.size, i.bytes)) = some (some .nilIface, 1, 16) := by kernel_rfl
theorem goodOps_moved (bs : List Bk) (L : List Int) (v into seq : Int) (k : Nat) : ∀ x ∈ movedTo bs L v into seq k, x.kind = 1 := by
  induction k with
  | zero => intro x hx; simp [movedTo] at hx
  | succ k ih =>
    intro x hx
    simp only [movedTo, List.mem_append] at hx
    rcases hx with hx | hx
    · exact ih x hx
    · split at hx
      · simp at hx; rw [hx]
      · simp at hx
theorem goodOps_move (bs : List Bk) (L : List Int) (v into seq : Int) : ∀ x ∈ moveOps bs L v into seq, goodOp x := by
  intro x hx
  simp only [moveOps, List.mem_append, List.mem_singleton] at hx
  rcases hx with hx | rfl
  · exact .inl (goodOps_moved _ _ _ _ _ _ x hx)
  · exact .inr ⟨rfl, rfl⟩
theorem goodOps_write (bs : List Bk) (L : List Int) (seq o log : Int) (data : ByteArray) : ∀ x ∈ writeOps bs L seq o log data, goodOp x := by
  intro x hx
  unfold writeOps at hx
  split at hx
  · split at hx
    · simp only [List.mem_append, List.mem_singleton] at hx
      rcases hx with hx | rfl
      · exact goodOps_move _ _ _ _ _ x hx
      · exact .inl rfl
    · simp at hx; rw [hx]; exact .inl rfl
  · simp at hx; rw [hx]; exact .inl rfl

set_option maxRecDepth 100000 in
set_option maxHeartbeats 4000000 in
theorem emptying_any (A : Array Value) (m : CC) (bs : List Bk) (n : Nat) (hC : CellsIs A m bs n) (hAp : ∀ b i, b < 12 → i < 16 → A[1 + b * 17 + 1 + i]? = (paA (m.page b))[i]?) (ma : Option Addr) (mc : Nat) (L : List Int) (mn : Nat) (hL : L.length = mn) (seq o : Int) (hok : FtlOk bs L seq o) (v : Nat) (hv : v < n) (into : Int) (w : World) (hI : IntsAt w ma L) :
    Calls Tryz.prog 73 #[.agg A, .slice ma mn mc, .int .i64 (v : Int), .int .i64 into, .int .i64 seq] w fun e w' => ∃ r, e = .returned r ∧ OwnsCo w' (w.heap.size + 1) r (moveOps bs L (v : Int) into seq) ∧ Below w.heap.size w w' := by
  obtain ⟨i0, hi, hz0, hz1, hz2⟩ := info_parts infoChipOp
  have hn12 := hC.most
  have hmn : mn ≤ 36 := by have := hok.len36; omega
  have hsq := hok.seq
  have htp := hok.chip.top
  have h0 : 0 ≤ seq := by omega
  have h1 : seq ≤ 1000000000 := hsq.2
  obtain ⟨x, hx⟩ := getElem?_ex (l := bs) (k := v) (by have := hC.len; omega)
  have h4 := (hok.chip.block x (List.mem_of_getElem? hx)).four
  have hpg : ∀ k, k < 4 → pageIn bs (v : Int) k = m.page v k := fun k hk => by
    have e := ccBs_at m hv
    rw [hC.blocks, hx] at e
    cases e
    exact pageIn_of hx (ccPs_at m v hk)
  have hmv : ∀ k, k < 4 → movesAt bs L (v : Int) k = decide (((v : Int) * 4 + (k : Int)) ∈ L) := fun k hk => hok.moves (by omega) hk
  have HLD : Hid (∀ ty, ∀ j, j < 16 → (w.alloc (.cells A ty)).cell? ⟨w.heap.size, 1 + v * 17 + 1 + j, none⟩ = (paA (m.page v))[j]?) := fun ty j hj => (cell_of_row _ _ _ _ _ _ (Go.Deep.blk_alloc_new _ _)).trans (hAp v j (by omega) hj)
  have hvi : (v : Int) < 12 := by omega
  have HPG := hide hpg
  have HMV := hide hmv
  have HI := hide hI
  have HL := hide hL
  clear hok hC hAp hI hx hpg hmv hL hsq htp h4
  go_enter Tryz.func73, Tryz.ntmps73
  go_wp2_with (refine wpList_load_mid rfl 60 _ rfl w.heap.size (1 + v * 17 + 1) rfl (paA (m.page v)) 16 (paA_size _) (unhide HLD _) _ Tryz.underlying60 rfl sizePages ?_)
  obtain ⟨w0, hw0⟩ : ∃ w0, w0 = w.alloc (.cells A 65) := ⟨_, rfl⟩
  have hs0 : w0.heap.size = w.heap.size + 1 := by rw [hw0]; simp
  have hW0 : Below w.heap.size w w0 := by rw [hw0]; exact (Below.refl _ w).alloc (Nat.le_refl _) _
  rw [← hw0]
  have HS0 := hide hs0
  clear hw0 HLD hs0
  go_loopw [11, 19] (fun out i wr => ∃ k : Nat, k ≤ 4 ∧ i = .int .i64 k ∧ OwnsCo wr (w.heap.size + 1) out (movedTo bs L (v : Int) into seq k) ∧ Below w0.heap.size w0 wr) (fun _ i _ => 4 - (intOf i).toNat)
  case atStart => exact ⟨0, Nat.zero_le _, rfl, World.ownsRow_nil _ _ _ _, Below.refl _ _⟩
  case round =>
    obtain ⟨k, hk, rfl, hO, hB⟩ := hrel
    have hsr := hB.size
    have hml := movedTo_length bs L (v : Int) into seq k
    obtain ⟨q, hq⟩ : ∃ q, q = (movedTo bs L (v : Int) into seq k).length := ⟨_, rfl⟩
    rw [← hq] at hml
    obtain ⟨X, hX⟩ : ∃ X, X = (movedTo bs L (v : Int) into seq k).map coV := ⟨_, rfl⟩
    have hRr : wr.ownsRow (w.heap.size + 1) 75 1 u11 q X := by rw [hX, hq]; exact hO
    have HQ := hide (And.intro hX hq)
    have HO := hide hO
    have hW := hW0.trans (hB.mono hW0.size)
    have hsr' : w.heap.size + 1 ≤ wr.heap.size := by have := unhide HS0; omega
    obtain ⟨qa, qc, hu⟩ : ∃ qa qc, u11 = .slice qa q qc := by
      rcases hRr.2 with ⟨e1, e2⟩ | ⟨g, cap, cur, e1, _⟩
      · exact ⟨none, 0, by rw [e1, e2]⟩
      · exact ⟨_, _, e1⟩
    subst hu
    clear hq hX hO
    by_cases hlt : k < 4
    · have hidx := fun W => run_index_pages (P := Tryz.prog) W 60 59 (m.page v) k hlt Tryz.underlying60 _ Tryz.underlying59 rfl sizePage
      obtain ⟨p, hp⟩ : ∃ p, m.page v k = p := ⟨_, rfl⟩
      have HP := hide ((unhide HPG k hlt).trans hp)
      rw [hp] at hidx
      have HM := hide (unhide HMV k hlt)
      clear hp
      obtain ⟨u, lg, s, d⟩ := p
      simp only at hidx
      have hk4 : (k : Int) < 4 := by omega
      generalize paA (m.page v) = PA at hidx ⊢
      obtain ⟨w4, hw4⟩ : ∃ w4, w4 = wr.alloc (.cells #[.bool u, .int .i64 lg, .int .i64 s, .string d] 59) := ⟨_, rfl⟩
      have hB4 : Below wr.heap.size wr w4 := by rw [hw4]; exact (Below.refl _ wr).alloc (Nat.le_refl _) _
      have hs4 : w4.heap.size = wr.heap.size + 1 := by rw [hw4]; simp
      have hr4 : w4.heap[wr.heap.size]? = some (.cells #[.bool u, .int .i64 lg, .int .i64 s, .string d] 59 (0, 0)) := by rw [hw4]; exact Go.Deep.blk_alloc_new _ _
      have k0 := cell_of_row _ _ 0 _ _ _ hr4
      have k1 := cell_of_row _ _ 1 _ _ _ hr4
      have k2 := cell_of_row _ _ 2 _ _ _ hr4
      have k3 := cell_of_row _ _ 3 _ _ _ hr4
      have f2 := frozen_of_row _ _ 2 _ _ hr4
      simp at k0 k1 k2 k3
      have HI4 := hide ((unhide HI).below (hW.trans (hB4.mono hW.size)) (Nat.le_refl _))
      have HCT : Hid (Calls Tryz.prog 105 #[.slice ma mn mc, .int .i64 ((v : Int) * 4 + (k : Int))] w4 fun e w' => e = .returned (.bool (decide (((v : Int) * 4 + (k : Int)) ∈ L))) ∧ w' = w4) := by
        have := contains_any ma mc L ((v : Int) * 4 + (k : Int)) w4 (unhide HI4) (by have := unhide HL; omega)
        rw [unhide HL] at this
        exact this
      clear hr4
      go_wp2_with fail
      rw [← hw4]
      clear hw4
      refine (unhide HCT).mono ?_
      rintro e w5 ⟨rfl, rfl⟩
      rw [← unhide HM]
      cases hmo : movesAt bs L (v : Int) k with
      | false =>
        go_wp2
        go_roundw
        case rel => exact ⟨k + 1, by omega, by go_num, by rw [movedTo_not hmo]; exact (unhide HO).kept hB4, hB.trans (hB4.mono hB.size)⟩
        case measure => simp [intOf]; omega
      | true =>
        obtain ⟨w6, hw6⟩ : ∃ w6, w6 = w5.setCell ⟨wr.heap.size, 2, none⟩ (.int .i64 (seq + (q : Int))) := ⟨_, rfl⟩
        have hB6 : Below wr.heap.size wr w6 := by rw [hw6]; exact hB4.setCell (Nat.le_refl _) _
        have hs6 : w6.heap.size = wr.heap.size + 1 := by rw [hw6]; simpa [World.setCell] using hs4
        have j0 : w6.cell? ⟨wr.heap.size, 0, none⟩ = some (.bool u) := by rw [hw6, World.cell?_setCell_other _ _ _ _ (by simp)]; exact k0
        have j1 : w6.cell? ⟨wr.heap.size, 1, none⟩ = some (.int .i64 lg) := by rw [hw6, World.cell?_setCell_other _ _ _ _ (by simp)]; exact k1
        have j2 : w6.cell? ⟨wr.heap.size, 2, none⟩ = some (.int .i64 (seq + (q : Int))) := by rw [hw6]; exact World.cell?_setCell_same' _ _ _ (by rw [k2]; rfl)
        have j3 : w6.cell? ⟨wr.heap.size, 3, none⟩ = some (.string d) := by rw [hw6, World.cell?_setCell_other _ _ _ _ (by simp)]; exact k3
        go_upto_region 7 with fail
        rw [← hw6]
        clear hw6
        have hRw : w6.ownsRow (w.heap.size + 1) 75 1 (.slice qa q qc) q X := by have := (unhide HO).kept hB6; obtain ⟨e1, e2⟩ := unhide HQ; rw [e1, e2]; rw [e2] at this; exact this
        clear k0 k1 k2 k3 f2 HCT HI4 hidx
        go_wp2_with (refine wpList_append_lies _ rfl (.tmp 34) (.tmp 39) 70 rfl (w.heap.size + 1) 75 i0 _ 1 16 Tryz.underlying70 hi hz0 hz1 hz2 rfl (by decide) (.slice qa q qc) q X (by simp [Act.eval]) (by exact hRw.alloc _) ⟨w6.heap.size, 0, none⟩ 1 1 [progV into ⟨u, lg, seq + (q : Int), d⟩] (by simp [Act.eval]) rfl (World.news_of_block (cs := #[progV into ⟨u, lg, seq + (q : Int), d⟩]) (t := 75) (fr := (0, 0)) (by exact Go.Deep.blk_alloc_new _ _)) (by simp [Value.oneCell', progV]) (by omega) (by unfold maxLen; omega) (by omega) (by simp; omega) (w6.heap.size + 1) (by simp) ?_; intro g1 cap wE hown hgrow hat hlt1)
        go_roundw
        case rel =>
          have hBE : Below (w.heap.size + 1) w6 wE := Below.grown ((Below.refl _ w6).alloc (by omega) _) hgrow (by simp; omega) (fun j e => (hRw.lt j e).1)
          refine ⟨k + 1, by omega, by go_num, ?_, (hB.trans (hB6.mono hB.size)).trans (hBE.mono (Nat.le_of_eq (unhide HS0)))⟩
          obtain ⟨e1, e2⟩ := unhide HQ
          rw [movedTo_yes hmo, ← e2, unhide HP]
          unfold OwnsCo
          rw [List.length_append, List.map_append, ← e1, ← e2]
          simpa [coV] using hown
        case measure => simp [intOf]; omega
    · obtain rfl : k = 4 := by omega
      generalize paA (m.page v) = PA
      go_wp2_with (refine wpList_append_lies _ rfl (.tmp 42) (.tmp 46) 70 rfl (w.heap.size + 1) 75 i0 _ 1 16 Tryz.underlying70 hi hz0 hz1 hz2 rfl (by decide) (.slice qa q qc) q X (by simp [Act.eval]) (by exact hRr.alloc _) ⟨wr.heap.size, 0, none⟩ 1 1 [eraV (v : Int)] (by simp [Act.eval]) rfl (World.news_of_block (cs := #[eraV (v : Int)]) (t := 75) (fr := (0, 0)) (by exact Go.Deep.blk_alloc_new _ _)) (by simp [Value.oneCell', eraV]) (by omega) (by unfold maxLen; omega) (by omega) (by simp; omega) (wr.heap.size + 1) (by simp) ?_; intro g1 cap wE hown hgrow hat hlt1)
      go_ret
      refine ⟨_, rfl, ?_, ?_⟩
      · obtain ⟨e1, e2⟩ := unhide HQ
        unfold moveOps OwnsCo
        rw [List.length_append, List.map_append, ← e1, ← e2]
        simpa [coV] using hown
      · have hBE : Below (w.heap.size + 1) wr wE := Below.grown ((Below.refl _ wr).alloc (by omega) _) hgrow (by simp; omega) (fun j e => (hRr.lt j e).1)
        exact hW.trans (hBE.mono (by omega))
end Go.Proofs.YtalgkmellbamgaaGreat

/- The laws' own comparisons answer true where both sides hold the same. -/
namespace Go.Proofs.YtalgkmellbamgaaGreat
open Go.RowKit
set_option linter.unusedVariables false

theorem eqPage_same (u : Bool) (l s : Int) (d : ByteArray) (w : World) :
    Calls Tryz.prog 149 #[.agg #[.bool u, .int .i64 l, .int .i64 s, .string d], .agg #[.bool u, .int .i64 l, .int .i64 s, .string d]] w fun e w' => e = .returned (.bool true) ∧ Below w.heap.size w w' := by
  go_enter Tryz.func149, Tryz.ntmps149
  go_wp2
  go_ret
  exact ⟨rfl, by repeat (first | exact Below.refl _ _ | refine Below.drew ?_ | refine Below.alloc ?_ (by simp) _)⟩

set_option maxHeartbeats 1000000 in
theorem eqPageS_same (a1 a2 : Option Addr) (c1 c2 : Nat) (ps : List Pg) (w : World) (h1 : PagesAt w a1 ps) (h2 : PagesAt w a2 ps) (hn : ps.length ≤ 1048576) :
    Calls Tryz.prog 140 #[.slice a1 ps.length c1, .slice a2 ps.length c2] w fun e w' => e = .returned (.bool true) ∧ Below w.heap.size w w' := by
  go_enter Tryz.func140, Tryz.ntmps140
  go_wp2
  go_loopw [5] (fun i wr => ∃ k : Nat, k ≤ ps.length ∧ i = .int .i64 k ∧ Below w.heap.size w wr) (fun i _ => ps.length - (intOf i).toNat)
  case atStart => exact ⟨0, Nat.zero_le _, rfl, Below.refl _ _⟩
  case round =>
    obtain ⟨k, hk, rfl, hB⟩ := hrel
    by_cases hlt : k < ps.length
    · obtain ⟨p, hp⟩ := getElem?_ex hlt
      obtain ⟨b1, o1, rfl, g10, g11, g12, g13⟩ := (h1.below hB (Nat.le_refl _)) k p hp
      obtain ⟨b2, o2, rfl, g20, g21, g22, g23⟩ := (h2.below hB (Nat.le_refl _)) k p hp
      have hb1 : b1 < wr.heap.size := World.block_lt_of_cell? _ _ g10
      have hb2 : b2 < wr.heap.size := World.block_lt_of_cell? _ _ g20
      clear hp h1 h2
      go_wp2
      go_region_held3 (fun W => ∀ b o, b < wr.heap.size → W.cell? ⟨b, o, none⟩ = wr.cell? ⟨b, o, none⟩) (first | (intro b o hb; simp; done) | (intro b o hb; rw [hc.cell (p := ⟨b, o, none⟩) hb]; rfl))
        (first | (go_at_call 149; refine (eqPage_same _ _ _ _ _).mono ?_; rintro e w1 ⟨rfl, hc⟩))
      go_wp2
      go_roundw
      case rel => exact ⟨k + 1, by omega, by go_num, hB.drew.trans (hc.mono hB.size)⟩
      case measure => simp [intOf]; omega
    · go_wp2
      go_ret
      exact ⟨rfl, hB⟩

theorem eqBlock_same (x : Int) (a1 a2 : Option Addr) (c1 c2 : Nat) (ps : List Pg) (w : World) (h1 : PagesAt w a1 ps) (h2 : PagesAt w a2 ps) (hn : ps.length ≤ 1048576) :
    Calls Tryz.prog 119 #[.agg #[.int .i64 x, .slice a1 ps.length c1], .agg #[.int .i64 x, .slice a2 ps.length c2]] w fun e w' => e = .returned (.bool true) ∧ Below w.heap.size w w' := by
  go_enter Tryz.func119, Tryz.ntmps119
  go_wp2_with fail
  have hb0 : ∀ o1 o2, Below w.heap.size w ((w.alloc o1).alloc o2) := fun o1 o2 => ((Below.refl _ w).alloc (Nat.le_refl _) _).alloc (by simp) _
  refine (eqPageS_same a1 a2 c1 c2 ps _ (h1.below (hb0 _ _) (Nat.le_refl _)) (h2.below (hb0 _ _) (Nat.le_refl _)) hn).mono ?_
  rintro e w1 ⟨rfl, hc⟩
  clear h1 h2
  go_wp2
  go_ret
  exact ⟨rfl, (hb0 _ _).trans (hc.mono (by simp; omega))⟩

set_option maxHeartbeats 1000000 in
theorem eqBlockS_same (a1 a2 : Option Addr) (c1 c2 : Nat) (bs : List Bk) (w : World) (h1 : BlocksAt w a1 bs) (h2 : BlocksAt w a2 bs) (hn : Lens 1048576 bs) :
    Calls Tryz.prog 91 #[.slice a1 bs.length c1, .slice a2 bs.length c2] w fun e w' => e = .returned (.bool true) ∧ Below w.heap.size w w' := by
  have hn1 := hn.1
  go_enter Tryz.func91, Tryz.ntmps91
  go_wp2
  go_loopw [5] (fun i wr => ∃ k : Nat, k ≤ bs.length ∧ i = .int .i64 k ∧ Below w.heap.size w wr) (fun i _ => bs.length - (intOf i).toNat)
  case atStart => exact ⟨0, Nat.zero_le _, rfl, Below.refl _ _⟩
  case round =>
    obtain ⟨k, hk, rfl, hB⟩ := hrel
    by_cases hlt : k < bs.length
    · obtain ⟨p, hp⟩ := getElem?_ex hlt
      obtain ⟨b1, o1, pa1, pc1, rfl, g10, g11, q1⟩ := (h1.below hB (Nat.le_refl _)) k p hp
      obtain ⟨b2, o2, pa2, pc2, rfl, g20, g21, q2⟩ := (h2.below hB (Nat.le_refl _)) k p hp
      have hb1 : b1 < wr.heap.size := World.block_lt_of_cell? _ _ g10
      have hb2 : b2 < wr.heap.size := World.block_lt_of_cell? _ _ g20
      have hl := hn.at hp
      clear hp h1 h2
      go_wp2
      go_region_held3 (fun W => ∀ b o, b < wr.heap.size → W.cell? ⟨b, o, none⟩ = wr.cell? ⟨b, o, none⟩) (first | (intro b o hb; simp; done) | (intro b o hb; rw [hc.cell (p := ⟨b, o, none⟩) hb]; rfl))
        (first | (go_at_call 119; refine (eqBlock_same _ _ _ _ _ _ _ (by exact q1) (by exact q2) hl).mono ?_; rintro e w1 ⟨rfl, hc⟩))
      go_wp2
      go_roundw
      case rel => exact ⟨k + 1, by omega, by go_num, hB.drew.trans (hc.mono hB.size)⟩
      case measure => simp [intOf]; omega
    · go_wp2
      go_ret
      exact ⟨rfl, hB⟩

theorem eqChip_same (a1 a2 : Option Addr) (c1 c2 : Nat) (bs : List Bk) (w : World) (h1 : BlocksAt w a1 bs) (h2 : BlocksAt w a2 bs) (hn : Lens 1048576 bs) :
    Calls Tryz.prog 55 #[.agg #[.slice a1 bs.length c1], .agg #[.slice a2 bs.length c2]] w fun e w' => e = .returned (.bool true) ∧ Below w.heap.size w w' := by
  go_enter Tryz.func55, Tryz.ntmps55
  go_wp2_with fail
  have hb0 : ∀ o1 o2, Below w.heap.size w ((w.alloc o1).alloc o2) := fun o1 o2 => ((Below.refl _ w).alloc (Nat.le_refl _) _).alloc (by simp) _
  refine (eqBlockS_same a1 a2 c1 c2 bs _ (h1.below (hb0 _ _) (Nat.le_refl _)) (h2.below (hb0 _ _) (Nat.le_refl _)) hn).mono ?_
  rintro e w1 ⟨rfl, hc⟩
  clear h1 h2
  go_wp2
  go_ret
  exact ⟨rfl, (hb0 _ _).trans (hc.mono (by simp; omega))⟩
end Go.Proofs.YtalgkmellbamgaaGreat

/- The laws' own measure of an argument: it answers a number not above the one that it was given; not below nought only where no list is longer than that. -/
namespace Go.Proofs.YtalgkmellbamgaaGreat
open Go.RowKit
set_option linter.unusedVariables false

theorem szPage_any (u : Bool) (l s left : Int) (d : ByteArray) (w : World) (h0 : 0 ≤ left) (h1 : left ≤ 1048576) (hd : d.size ≤ 9223372036854775807) :
    Calls Tryz.prog 147 #[.agg #[.bool u, .int .i64 l, .int .i64 s, .string d], .int .i64 left] w fun e w' => ∃ n : Int, e = .returned (.int .i64 n) ∧ n ≤ left ∧ Below w.heap.size w w' := by
  by_cases hc : left - d.size < 0
  · go_enter Tryz.func147, Tryz.ntmps147
    go_wp2
    go_ret
    exact ⟨_, rfl, by omega, (Below.refl _ _).alloc (Nat.le_refl _) _⟩
  · go_enter Tryz.func147, Tryz.ntmps147
    go_wp2
    go_ret
    exact ⟨_, rfl, by omega, (Below.refl _ _).alloc (Nat.le_refl _) _⟩

set_option maxHeartbeats 1000000 in
theorem szPageS_any (a : Option Addr) (c : Nat) (ps : List Pg) (left : Int) (w : World) (h : PagesAt w a ps) (hn : ps.length ≤ 9223372036854775807) (ht : ∀ p ∈ ps, p.data.size ≤ 9223372036854775807) (h0 : 0 ≤ left) (h1 : left ≤ 1048576) :
    Calls Tryz.prog 138 #[.slice a ps.length c, .int .i64 left] w fun e w' => ∃ n : Int, e = .returned (.int .i64 n) ∧ n ≤ left ∧ (0 ≤ n → ps.length ≤ 1048576) ∧ Below w.heap.size w w' := by
  by_cases hc : left - ps.length < 0
  · go_enter Tryz.func138, Tryz.ntmps138
    go_wp2
    go_ret
    exact ⟨_, rfl, by omega, by omega, Below.refl _ _⟩
  · have hl : ps.length ≤ 1048576 := by omega
    go_enter Tryz.func138, Tryz.ntmps138
    go_wp2
    go_loopw [1, 5] (fun v i wr => ∃ (k : Nat) (m : Int), k ≤ ps.length ∧ i = .int .i64 k ∧ v = .int .i64 m ∧ 0 ≤ m ∧ m ≤ left ∧ Below w.heap.size w wr) (fun _ i _ => ps.length - (intOf i).toNat)
    case atStart => exact ⟨0, _, Nat.zero_le _, rfl, rfl, by omega, by omega, Below.refl _ _⟩
    case round =>
      obtain ⟨k, m, hk, rfl, rfl, hm0, hm1, hB⟩ := hrel
      by_cases hlt : k < ps.length
      · obtain ⟨p, hp⟩ := getElem?_ex hlt
        obtain ⟨b1, o1, rfl, g10, g11, g12, g13⟩ := (h.below hB (Nat.le_refl _)) k p hp
        have hd := ht p (List.mem_of_getElem? hp)
        clear hp h
        go_wp2_with fail
        refine (szPage_any _ _ _ _ _ _ hm0 (by omega) hd).mono ?_
        rintro e w1 ⟨n, rfl, hn1, hb⟩
        by_cases hneg : n < 0
        · go_wp2
          go_ret
          exact ⟨_, rfl, by omega, by omega, hB.trans (hb.mono hB.size)⟩
        · go_wp2
          go_roundw
          case rel => exact ⟨k + 1, n, by omega, by go_num, rfl, by omega, by omega, hB.trans (hb.mono hB.size)⟩
          case measure => simp [intOf]; omega
      · go_wp2
        go_ret
        exact ⟨_, rfl, hm1, fun _ => hl, hB⟩

theorem szBlock_any (x : Int) (a : Option Addr) (c : Nat) (ps : List Pg) (left : Int) (w : World) (h : PagesAt w a ps) (hn : ps.length ≤ 9223372036854775807) (ht : ∀ p ∈ ps, p.data.size ≤ 9223372036854775807) (h0 : 0 ≤ left) (h1 : left ≤ 1048576) :
    Calls Tryz.prog 117 #[.agg #[.int .i64 x, .slice a ps.length c], .int .i64 left] w fun e w' => ∃ n : Int, e = .returned (.int .i64 n) ∧ n ≤ left ∧ (0 ≤ n → ps.length ≤ 1048576) ∧ Below w.heap.size w w' := by
  go_enter Tryz.func117, Tryz.ntmps117
  go_wp2_with fail
  have hb0 : ∀ o1, Below w.heap.size w (w.alloc o1) := fun o1 => (Below.refl _ w).alloc (Nat.le_refl _) _
  refine (szPageS_any a c ps left _ (h.below (hb0 _) (Nat.le_refl _)) hn ht h0 h1).mono ?_
  rintro e w1 ⟨n, rfl, hn1, hn2, hb⟩
  clear h
  by_cases hneg : n < 0
  · go_wp2
    go_ret
    exact ⟨_, rfl, by omega, by omega, (hb0 _).trans (hb.mono (by simp))⟩
  · go_wp2
    go_ret
    exact ⟨_, rfl, by omega, hn2, (hb0 _).trans (hb.mono (by simp))⟩

set_option maxHeartbeats 1000000 in
theorem szBlockS_any (a : Option Addr) (c : Nat) (bs : List Bk) (left : Int) (w : World) (h : BlocksAt w a bs) (hn : Lens 9223372036854775807 bs) (ht : Texts bs) (h0 : 0 ≤ left) (h1 : left ≤ 1048576) :
    Calls Tryz.prog 89 #[.slice a bs.length c, .int .i64 left] w fun e w' => ∃ n : Int, e = .returned (.int .i64 n) ∧ n ≤ left ∧ (0 ≤ n → Lens 1048576 bs) ∧ Below w.heap.size w w' := by
  have hn1 := hn.1
  by_cases hc : left - bs.length < 0
  · go_enter Tryz.func89, Tryz.ntmps89
    go_wp2
    go_ret
    exact ⟨_, rfl, by omega, by omega, Below.refl _ _⟩
  · have hl : bs.length ≤ 1048576 := by omega
    go_enter Tryz.func89, Tryz.ntmps89
    go_wp2
    go_loopw [1, 5] (fun v i wr => ∃ (k : Nat) (m : Int), k ≤ bs.length ∧ i = .int .i64 k ∧ v = .int .i64 m ∧ 0 ≤ m ∧ m ≤ left ∧ (∀ j b, j < k → bs[j]? = some b → b.pages.length ≤ 1048576) ∧ Below w.heap.size w wr) (fun _ i _ => bs.length - (intOf i).toNat)
    case atStart => exact ⟨0, _, Nat.zero_le _, rfl, rfl, by omega, by omega, fun _ _ hj => absurd hj (Nat.not_lt_zero _), Below.refl _ _⟩
    case round =>
      obtain ⟨k, m, hk, rfl, rfl, hm0, hm1, hall, hB⟩ := hrel
      by_cases hlt : k < bs.length
      · obtain ⟨p, hp⟩ := getElem?_ex hlt
        obtain ⟨b1, o1, pa, pc, rfl, g10, g11, q⟩ := (h.below hB (Nat.le_refl _)) k p hp
        have hd := ht.at hp
        have hpl := hn.at hp
        have HP := hide hp
        have HA := hide hall
        clear hp h hall
        go_wp2_with fail
        refine (szBlock_any _ _ _ _ _ _ q hpl hd hm0 (by omega)).mono ?_
        rintro e w1 ⟨n, rfl, hn1, hn2, hb⟩
        have HN := hide hn2
        clear q hn2
        by_cases hneg : n < 0
        · go_wp2
          go_ret
          exact ⟨_, rfl, by omega, by omega, hB.trans (hb.mono hB.size)⟩
        · go_wp2
          go_roundw
          case rel =>
            refine ⟨k + 1, n, by omega, by go_num, rfl, by omega, by omega, ?_, hB.trans (hb.mono hB.size)⟩
            intro j b hj hbj
            by_cases e : j = k
            · subst e
              rw [unhide HP] at hbj
              cases hbj
              exact unhide HN (by omega)
            · exact unhide HA j b (by omega) hbj
          case measure => simp [intOf]; omega
      · have hfin : Lens 1048576 bs := ⟨hl, fun b hb => by
          obtain ⟨j, hj, rfl⟩ := List.getElem_of_mem hb
          exact hall j _ (by omega) (by simp [hj])⟩
        have HA := hide hall
        clear hall
        go_wp2
        go_ret
        exact ⟨_, rfl, hm1, fun _ => hfin, hB⟩

theorem szChip_any (a : Option Addr) (c : Nat) (bs : List Bk) (left : Int) (w : World) (h : BlocksAt w a bs) (hn : Lens 9223372036854775807 bs) (ht : Texts bs) (h0 : 0 ≤ left) (h1 : left ≤ 1048576) :
    Calls Tryz.prog 52 #[.agg #[.slice a bs.length c], .int .i64 left] w fun e w' => ∃ n : Int, e = .returned (.int .i64 n) ∧ n ≤ left ∧ (0 ≤ n → Lens 1048576 bs) ∧ Below w.heap.size w w' := by
  go_enter Tryz.func52, Tryz.ntmps52
  go_wp2_with fail
  have hb0 : ∀ o1, Below w.heap.size w (w.alloc o1) := fun o1 => (Below.refl _ w).alloc (Nat.le_refl _) _
  refine (szBlockS_any a c bs left _ (h.below (hb0 _) (Nat.le_refl _)) hn ht h0 h1).mono ?_
  rintro e w1 ⟨n, rfl, hn1, hn2, hb⟩
  have HN := hide hn2
  clear h hn2
  by_cases hneg : n < 0
  · go_wp2
    go_ret
    exact ⟨_, rfl, by omega, by omega, (hb0 _).trans (hb.mono (by simp))⟩
  · go_wp2
    go_ret
    exact ⟨_, rfl, by omega, unhide HN, (hb0 _).trans (hb.mono (by simp))⟩
end Go.Proofs.YtalgkmellbamgaaGreat

/- Ops: the laws' own copy, comparison and measure of them. -/
namespace Go.Proofs.YtalgkmellbamgaaGreat
open Go.RowKit
set_option linter.unusedVariables false
set_option linter.unusedSimpArgs false

theorem infoOp : (Tryz.prog.info? 73).map (fun i => (i.zero, i.size, i.bytes)) = some (some (.agg #[.int .i64 0, .int .i64 0, .bool false, .int .i64 0, .int .i64 0, .string ByteArray.empty]), 6, 56) := by kernel_rfl

theorem sizeOp : (Tryz.prog.info? 73).map (·.size) = some 6 := by kernel_rfl

theorem make_ops (n : Nat) (hn : n ≤ 1048576) (w : World) :
    (Instr.makeSlice 122 (.int .i64 (n : Int)) (.int .i64 (n : Int))).run Tryz.prog w = .ok (.slice (some ⟨w.heap.size, 0, none⟩) n n) (w.alloc (.cells (madeCells #[.int .i64 0, .int .i64 0, .bool false, .int .i64 0, .int .i64 0, .string ByteArray.empty] (n * 6)) 73)) := by
  obtain ⟨i, hi, hz⟩ := Option.map_eq_some_iff.1 infoOp
  simp only [Prod.mk.injEq] at hz
  obtain ⟨hz0, hz1, hz2⟩ := hz
  have h := run_make (P := Tryz.prog) w 122 73 i _ Tryz.underlying122 hi hz0 .i64 .i64 (n : Int) (n : Int) (by omega) (Int.le_refl _) (by rw [hz2]; omega) (by omega)
  rw [hz1] at h
  simpa [Value.cells] using h






end Go.Proofs.YtalgkmellbamgaaGreat
