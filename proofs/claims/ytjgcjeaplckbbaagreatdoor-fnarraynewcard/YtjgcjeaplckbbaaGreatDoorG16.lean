/- 4 texts in one. -/
import Derived.Test.YtjgcjeaplckbbaaGreatDoorG15
import Derived.Test.YtjgcjeaplckbbaaGreatDoorG01
import Derived.Test.YtjgcjeaplckbbaaGreatDoorG14
import Derived.Test.YtjgcjeaplckbbaaGreatDoorG11
import Derived.WalkKit
import Derived.Outline
import Derived.Deep.AppendLies
import Derived.Deep.MidRow
import Derived.Deep.RegionHeld3
import Derived.Test.YtjgcjeaplckbbaaGreatDoorChecked
import Derived.Laws.EntriesVeiled

/- The program's gathered: a crew of an array that is up. -/
namespace Go.Proofs.YtjgcjeaplckbbaaGreatDoor
open Go.RowKit
set_option linter.unusedVariables false
set_option linter.unusedSimpArgs false

/-- A worker of an array that is up, in [lo, hi); its map lies in memory that is older. -/
def ManUp (w0 w : World) (lo hi n g : Nat) (m : Mb) : Prop := ∃ cc va ma mn mc, WorkAt w g cc va ma mn mc (Mb.seq m) m.o ∧ (∃ x y z, va = .slice x y z) ∧ m.bs.length = n ∧ cc.count = n ∧ ccBs cc n = m.bs ∧ m.L.length = mn ∧ FtlOk m.bs m.L (Mb.seq m) m.o ∧ IntsAt w0 ma m.L ∧ lo ≤ g ∧ g < hi
theorem ManUp.touch {S : Nat → Prop} {w0 w w' : World} {lo hi n g : Nat} {m : Mb} (h : ManUp w0 w lo hi n g m) (hT : Touch S w w') (hS : ∀ k, S k → ¬ (lo ≤ k ∧ k < hi)) : ManUp w0 w' lo hi n g m := by
  obtain ⟨cc, va, ma, mn, mc, h1, h2, h3, h4, h5, h6, h7, h8, h9, h10⟩ := h
  exact ⟨cc, va, ma, mn, mc, h1.of_block (hT.block g h1.lt (fun hs => hS g hs ⟨h9, h10⟩)), h2, h3, h4, h5, h6, h7, h8, h9, h10⟩
theorem ManUp.man {w0 w : World} {lo hi n g : Nat} {m : Mb} (h : ManUp w0 w lo hi n g m) (hB : Below w0.heap.size w0 w) : WorkMan w g n m := by
  obtain ⟨cc, va, ma, mn, mc, h1, h2, h3, h4, h5, h6, h7, h8, h9, h10⟩ := h
  exact ⟨cc, va, ma, mn, mc, h1, h2, h3, h4, h5, h6, h7, h8.below hB (Nat.le_refl _)⟩
def MenUp (w0 w : World) (B : Nat) (v : Value) (n : Nat) (ms : List Mb) (xs : List Value) (j : Nat) : Prop := ∀ i m, i < j → ms[i]? = some m → ∃ g lo hi, xs[i]? = some (.pointer (some ⟨g, 0, none⟩)) ∧ hi ≤ w.heap.size ∧ (∀ q, v.ownBlock = some q → ¬ (lo ≤ q ∧ q < hi)) ∧ B ≤ lo ∧ ManUp w0 w lo hi n g m
theorem MenUp.touch {S : Nat → Prop} {w0 w w' : World} {B : Nat} {v : Value} {n : Nat} {ms : List Mb} {xs : List Value} {j : Nat} (h : MenUp w0 w B v n ms xs j) (hT : Touch S w w') (hS : ∀ k, S k → k < B) : MenUp w0 w' B v n ms xs j := fun i m hi hm => by
  obtain ⟨g, lo, hi, h0, h4, h5, h7, h6⟩ := h i m hi hm
  exact ⟨g, lo, hi, h0, Nat.le_trans h4 hT.size, h5, h7, h6.touch hT (fun k hk hs => by have := hS k hk; omega)⟩
theorem MenUp.push {w0 w W w1 : World} {B : Nat} {v : Value} {n : Nat} {ms : List Mb} {xs : List Value} {j : Nat} (h : MenUp w0 w B v n ms xs j) (hl : xs.length = j) (hv : ∀ q, v.ownBlock = some q → q < w.heap.size) (hB : Below w.heap.size w W) (hBw : B ≤ w.heap.size)
    {m : Mb} {g hi q cap : Nat} (hm : ms[j]? = some m) (hN : ManUp w0 W w.heap.size hi n g m) (hhi : hi ≤ W.heap.size) (hgrow : W.grownBy w1 v.ownBlock) (hat : v.ownBlock = some q ∨ q = W.heap.size) :
    MenUp w0 w1 B (.slice (some ⟨q, 0, none⟩) (j + 1) cap) n ms (xs ++ [.pointer (some ⟨g, 0, none⟩)]) (j + 1) := by
  have hT := touch_grown hgrow
  intro i m2 hi2 hm2
  by_cases e : i = j
  · subst e
    rw [hm] at hm2
    cases hm2
    refine ⟨g, w.heap.size, hi, ?_, Nat.le_trans hhi hgrow.size, fun g' hg' hs => ?_, hBw, hN.touch hT (fun k hk hs => by have := hv k hk; omega)⟩
    · rw [List.getElem?_append_right (by omega), hl]; simp
    · simp [Value.ownBlock] at hg'
      subst hg'
      rcases hat with hat | hat
      · have := hv q hat; omega
      · omega
  · obtain ⟨g2, lo', hi', h0, h4, h5, h7, h6⟩ := h i m2 (by omega) hm2
    have hs := hB.size
    have h6W := h6.touch (S := fun _ => False) (Touch.of_below hB) (fun k hk => hk.elim)
    refine ⟨g2, lo', hi', ?_, Nat.le_trans (Nat.le_trans h4 hs) hgrow.size, fun g' hg' hs' => ?_, h7, h6W.touch hT (fun k hk hs => h5 k hk hs)⟩
    · rw [List.getElem?_append_left (by omega)]; exact h0
    · simp [Value.ownBlock] at hg'
      subst hg'
      rcases hat with hat | hat
      · exact h5 q hat hs'
      · omega

set_option maxRecDepth 100000 in
set_option maxHeartbeats 4000000 in
theorem gathered_up (wa : Option Addr) (wc : Nat) (L : List Int) (k : Nat) (hL : L.length = k) (G mc n : Nat) (ms : List Mb) (ho : UpOk L n ms) (w : World) (hI : IntsAt w wa L) (hM : MbsAt w G ms) :
    Calls Tryz.prog 107 #[.agg #[.slice wa k wc, .int .i64 (n : Int), .int .i64 (-1), .bool false, .slice (some ⟨G, 0, none⟩) k mc, .slice none 0 0]] w fun e w' => ∃ c bt be W cap, e = .returned (.tuple #[.pointer (some ⟨c, 0, none⟩), .bool true]) ∧ w.heap.size ≤ c ∧ CrewUp w' c L k n ms wa wc bt be W cap ∧ Below w.heap.size w w' := by
  have HIN : Hid (∀ W', Below w.heap.size w W' → IntsAt W' wa L) := fun W' hW => hI.below hW (Nat.le_refl _)
  have HMB : Hid (∀ W', Below w.heap.size w W' → MbsAt W' G ms) := fun W' hW => hM.below hW
  have hk35 : 3 ≤ k ∧ k ≤ 5 := by have := ho.k35; omega
  have hn4 := ho.n4
  have hn12 := ho.n12
  have HO := hide ho
  have HLL := hide hL
  have hml : ms.length = k := by rw [ho.len, hL]
  have HML := hide hml
  have HM0 := hide hM
  clear hI hM ho hL hml
  go_enter Tryz.func107, Tryz.ntmps107
  go_wp2_with fail
  have hb0 : ∀ o, Below w.heap.size w (w.alloc o) := fun o => (Below.refl _ w).alloc (Nat.le_refl _) o
  refine (layoutOf_any wa wc L k (unhide HLL) _ (unhide HIN _ (hb0 _))).mono ?_
  rintro e w1 ⟨hlay, hB1⟩
  have hs1 := hB1.size
  simp only [World.size_alloc] at hs1
  have hW1 := (hb0 (.cells #[.slice wa k wc, .int .i64 (n : Int), .int .i64 (-1), .bool false, .slice (some ⟨G, 0, none⟩) k mc, .slice none 0 0] 30)).trans (hB1.mono (by simp))
  have hr1 := (hB1.block w.heap.size (by simp)).trans (World.alloc_heap_new w _)
  have HW1 := hide hW1
  have HR1 := hide hr1
  have hl1 : w.heap.size < w1.heap.size := by omega
  have x0 := fun o' => (cell_alloc_lt w1 o' w.heap.size 0 hl1).trans (cell_of_row _ _ 0 _ _ _ hr1)
  have x1 := fun o' => (cell_alloc_lt w1 o' w.heap.size 1 hl1).trans (cell_of_row _ _ 1 _ _ _ hr1)
  have x2 := fun o' => (cell_alloc_lt w1 o' w.heap.size 2 hl1).trans (cell_of_row _ _ 2 _ _ _ hr1)
  have x3 := fun o' => (cell_alloc_lt w1 o' w.heap.size 3 hl1).trans (cell_of_row _ _ 3 _ _ _ hr1)
  have x4 := fun o' => (cell_alloc_lt w1 o' w.heap.size 4 hl1).trans (cell_of_row _ _ 4 _ _ _ hr1)
  have x5 := fun o' => (cell_alloc_lt w1 o' w.heap.size 5 hl1).trans (cell_of_row _ _ 5 _ _ _ hr1)
  simp at x0 x1 x2 x3 x4 x5
  clear hW1 hr1 hB1 hb0
  rcases hlay with ⟨hno, rfl⟩ | ⟨hyes, bt, be, rfl, hT⟩
  · exact absurd (unhide HO).lay hno
  have HT := hide hT
  clear hyes hT
  go_wp2_with fail
  refine (isBlockCount_any (n : Int) _).mono ?_
  rintro e w2 ⟨rfl, rfl⟩
  rw [show decide ((4 : Int) ≤ (n : Int) ∧ (n : Int) ≤ 12) = true by simp; omega]
  go_wp2_with fail
  refine (within_any _ _ _ _).mono ?_
  rintro e w2 ⟨rfl, rfl⟩
  rw [show decide ((-1 : Int) ≤ -1 ∧ (-1 : Int) ≤ (k : Int) - 1) = true by simp; omega]
  have hkk : ((k : Int) != (k : Int)) = false := by simp
  go_wp2_with fail
  obtain ⟨w2, hw2⟩ : ∃ w2, w2 = w1.alloc (.cells #[.int .i64 (k : Int), .func (.func 99) #[] #[.pointer (some ⟨bt, 0, none⟩), .pointer (some ⟨be, 0, none⟩)]] 79) := ⟨_, rfl⟩
  have hs2 : w2.heap.size = w1.heap.size + 1 := by rw [hw2]; simp
  have hB2 : Below w1.heap.size w1 w2 := by rw [hw2]; exact (Below.refl _ w1).alloc (Nat.le_refl _) _
  have HB2 := hide hB2
  rw [← hw2]
  clear hw2 hB2 x0 x1 x2 x3 x4 x5
  obtain ⟨c, hc⟩ : ∃ c, c = w1.heap.size + 1 := ⟨_, rfl⟩
  have hcs : w2.heap.size = c := by rw [hs2, hc]
  rw [← hc]
  have hwc : w.heap.size < c := by omega
  have HCC := hide hc
  have HCS := hide hcs
  have hW2 : Hid (Below w.heap.size w w2) := (unhide HW1).trans ((unhide HB2).mono (by omega))
  have HR2 := hide (((unhide HB2).block w.heap.size hl1).trans (unhide HR1))
  clear hc hs2 hcs
  obtain ⟨i0, hi, hz0, hz1, hz2⟩ := info_parts infoWorkP
  have hmix : Tryz.prog.follows .mixedOrders = true := by kernel_rfl
  go_loopw [58] (fun i wr => ∃ (j : Nat) (v : Value) (xs : List Value), j ≤ k ∧ i = .int .i64 j ∧ wr.heap[c]? = some (.cells #[.slice wa k wc, .int .i64 (k : Int), .func (.func 99) #[] #[.pointer (some ⟨bt, 0, none⟩), .pointer (some ⟨be, 0, none⟩)], .int .i64 (n : Int), .int .i64 (-1), .bool false, v, .slice none 0 0, .int .i64 0, .slice none 0 0, .int .u64 0, .int .u32 0] 95 (0, 0)) ∧ wr.ownsRow (c + 1) 96 1 v j xs ∧ MenUp w wr (c + 1) v n ms xs j ∧ Below c w2 wr ∧ c + 1 ≤ wr.heap.size) (fun i _ => k - (intOf i).toNat)
  case atStart =>
    have hcs := unhide HCS
    refine ⟨0, .slice none 0 0, [], Nat.zero_le _, rfl, ?_, World.ownsRow_nil _ _ _ _, fun i m hi => absurd hi (Nat.not_lt_zero _), ?_, ?_⟩
    · rw [← hcs]; exact World.alloc_heap_new w2 _
    · exact (Below.refl _ w2).alloc (by omega) _
    · simp; omega
  case round =>
    obtain ⟨j, v, xs, hj, rfl, hv, hR, hM, hB, hsz⟩ := hrel
    have hxl := hR.1
    have hcs := unhide HCS
    have hWr : Below w.heap.size w wr := (unhide hW2).trans (hB.mono (by omega))
    have hrP := (hB.block w.heap.size (by omega)).trans (unhide HR2)
    have HM := hide hM
    have HXL := hide hxl
    have HB := hide hB
    have HRR := hide hR
    have HV := hide hv
    have HWR := hide hWr
    have hswr := hWr.size
    by_cases hlt : j < k
    · obtain ⟨m, hm⟩ := getElem?_ex (l := ms) (k := j) (by have := unhide HML; omega)
      obtain ⟨a, ca, ma, mca, g0, g1, g2, g3, hA, hIm⟩ := (unhide HM0) j m hm
      have hGl : G < w.heap.size := World.block_lt_of_cell? _ _ g0
      obtain ⟨hok, hbl, -, -⟩ := (unhide HO).each m (List.mem_of_getElem? hm)
      obtain ⟨mn, hmn⟩ : ∃ mn, m.L.length = mn := ⟨_, rfl⟩
      rw [hbl] at g0
      rw [hmn] at g1
      have g00 := (hWr.cell (p := ⟨G, j * 4, none⟩) hGl).trans g0
      have g10 := (hWr.cell (p := ⟨G, j * 4 + 1, none⟩) hGl).trans g1
      have g20 := (hWr.cell (p := ⟨G, j * 4 + 2, none⟩) hGl).trans g2
      have g30 := (hWr.cell (p := ⟨G, j * 4 + 3, none⟩) hGl).trans g3
      have hPl : w.heap.size < wr.heap.size := by omega
      have y2 := fun o' => (cell_alloc_lt wr o' w.heap.size 2 hPl).trans (cell_of_row _ _ 2 _ _ _ hrP)
      have y3 := fun o' => (cell_alloc_lt wr o' w.heap.size 3 hPl).trans (cell_of_row _ _ 3 _ _ _ hrP)
      simp at y2 y3
      have hbf : Below wr.heap.size wr (wr.alloc (.cells #[.slice a n ca, .slice ma mn mca, .int .i64 m.seq, .int .i64 m.o] 53)) := (Below.refl _ wr).alloc (Nat.le_refl _) _
      have HWO := hide (workerOf_up a ca m n hbl ma mca mn hmn hok (wr.alloc (.cells #[.slice a n ca, .slice ma mn mca, .int .i64 m.seq, .int .i64 m.o] 53)) (hA.below (hWr.trans (hbf.mono hswr)) (Nat.le_refl _)) (hIm.below (hWr.trans (hbf.mono hswr)) (Nat.le_refl _)))
      have HBF := hide hbf
      have HIM := hide hIm
      have HMM := hide hm
      have HMN := hide hmn
      have HBL := hide hbl
      have HOK := hide hok
      have HRP := hide hrP
      have hne : ((j : Int) == -1) = false := by first | (simp; done) | (simp; omega)
      have hne2 : ¬ (j : Int) = -1 := by omega
      have hvne : some c ≠ v.ownBlock := fun e => by have := (hR.lt c e.symm).1; omega
      clear hv hR hM hB hxl hWr hrP g0 g1 g2 g3 hA hIm hm hmn hok hbl hbf
      go_wp2_with fail
      refine (unhide HWO).mono ?_
      rintro e w4 ⟨g, ccm, rfl, hg0, hg1, hWk, hct, hcb, hB4⟩
      have hs4 := hB4.size
      simp at hs4 hg0
      have hB4r : Below wr.heap.size wr w4 := (unhide HBF).trans (hB4.mono (by simp))
      have q1 : w4.cell? ⟨w.heap.size, 1, none⟩ = some (.int .i64 (n : Int)) := by
        have h := cell_of_row _ _ 1 _ _ _ ((hB4r.block w.heap.size hPl).trans (unhide HRP))
        simpa using h
      have q0 : w4.cell? ⟨g, 0, none⟩ = some (.int .i64 (n : Int)) := by rw [hWk.cells 0 (by omega), ccA_count, hct]
      have hP4 : w.heap.size < w4.heap.size := by omega
      have HMAN : Hid (ManUp w w4 wr.heap.size w4.heap.size n g m) := ⟨ccm, _, ma, mn, mca, hWk, ⟨_, _, _, rfl⟩, unhide HBL, hct, hcb, unhide HMN, unhide HOK, unhide HIM, by omega, hg1⟩
      have HB4 := hide hB4r
      have hnn : ((n : Int) != (n : Int)) = false := by simp
      clear hB4 hWk hct hcb HWO y2 y3 g00 g10 g20 g30 hB4r
      go_upto_region 13 with fail
      refine wp_region_grown (Below w4.heap.size w4) hmix (by kernel_rfl) (below_drawn w4) ?_
      go_big_quiet_step (exact fun _ => rfl)
      go_big_quiet_step (exact fun _ => rfl)
      go_big_quiet_step (exact fun _ => rfl)
      go_big_quiet_step (exact fun _ => rfl)
      go_big_quiet_step (exact fun _ => rfl)
      go_big_quiet_step (exact fun _ => rfl)
      go_big_quiet_step (exact fun _ => rfl)
      refine wpQuiet_val rfl (.int .i64 (n : Int)) (fun W hC => ?_) ?_
      · have hcl := (hC.cell (p := ⟨g, 0, none⟩) hg1).trans q0
        go_simp
      simp only [Act.put, List.setIfInBounds_toArray, List.set_cons_zero, List.set_cons_succ]
      go_big_quiet_step (exact fun _ => rfl)
      refine wpQuiet_val rfl (.int .i64 (n : Int)) (fun W hC => ?_) ?_
      · have hcl := (hC.cell (p := ⟨w.heap.size, 1, none⟩) hP4).trans q1
        go_simp
      simp only [Act.put, List.setIfInBounds_toArray, List.set_cons_zero, List.set_cons_succ]
      go_big_quiet_step (exact fun _ => rfl)
      go_big_quiet_step (exact fun _ => rfl)
      refine wpQuiet_nil ?_
      intro w8 hC8
      have hB8 : Below wr.heap.size wr w8 := (unhide HB4).trans (hC8.mono (by omega))
      have hs8 := hC8.size
      have hv8 := (hB8.block c (by omega)).trans (unhide HV)
      have k6 := cell_of_row _ _ 6 _ _ _ hv8
      simp at k6
      have hR8 : w8.ownsRow (c + 1) 96 1 v j xs := World.ownsRow.kept (unhide HRR) (show wr.grownBy _ none from ⟨hB8.os, hB8.tape, hB8.output, hB8.size, fun q hq _ => hB8.block q hq⟩) (by
        cases hvo : v.ownBlock with
        | none => exact Or.inl rfl
        | some q => exact Or.inr (by simp))
      have HV8 := hide hv8
      have HB8 := hide hB8
      have HC8 := hide hC8
      clear hv8 hB8 hC8 q0 q1
      go_wp2_with (refine wpList_append_lies _ rfl (.tmp 109) (.tmp 111) 83 rfl (c + 1) 96 i0 _ 1 8 Tryz.underlying83 hi hz0 hz1 hz2 rfl (by decide) v j xs (by simp [Act.eval]) (by exact hR8.alloc _) ⟨w8.heap.size, 0, none⟩ 1 1 [.pointer (some ⟨g, 0, none⟩)] (by simp [Act.eval]) rfl (World.news_of_block (cs := #[.pointer (some ⟨g, 0, none⟩)]) (t := 96) (fr := (0, 0)) (by exact Go.Deep.blk_alloc_new _ _)) (by simp [Value.oneCell']) (by omega) (by unfold maxLen; omega) (by omega) (by simp; omega) (w8.heap.size + 1) (by simp) ?_; intro g2 cap2 w3 hown2 hgrow2 hat2 hlt2; have hv3 := (hgrow2.block c (by simp; omega) hvne).trans ((((Below.refl w8.heap.size w8).alloc (Nat.le_refl _) _).block c (by omega)).trans (unhide HV8)); have hk3 := cell_of_row _ _ 6 _ _ _ hv3; have hf3 := frozen_of_row _ _ 6 _ _ hv3; simp at hk3; have HV3 := hide hv3; clear hv3)
      have hWA : Below w8.heap.size w8 (w8.alloc (.cells #[.pointer (some ⟨g, 0, none⟩)] 96)) := (Below.refl _ w8).alloc (Nat.le_refl _) _
      have hNW := (unhide HMAN).touch (S := fun _ => False) (Touch.of_below ((unhide HC8).trans (hWA.mono hs8))) (fun q hq => hq.elim)
      have hp := MenUp.push (cap := cap2) (unhide HM) (by have := unhide HXL; omega) (fun q hq => ((unhide HRR).lt q hq).2) ((unhide HB8).trans (hWA.mono (by omega))) hsz (unhide HMM) hNW (by simp; omega) hgrow2 (by rcases hat2 with h | h; exact .inl h; exact .inr (by simpa using h))
      have hs3 := hgrow2.size
      simp at hs3
      have hBn : Below c w2 w3 := Below.grown ((unhide HB).trans (((unhide HB8).trans (hWA.mono (by omega))).mono (by omega))) hgrow2 (by simp; omega) (fun q e => by have := ((unhide HRR).lt q e).1; omega)
      have hv5 := blk_setCell_same 6 (.slice (some ⟨g2, 0, none⟩) (j + 1) cap2) (unhide HV3)
      simp at hv5
      have hT5 : Touch (fun q => q = c) w3 (w3.setCell ⟨c, 6, none⟩ (.slice (some ⟨g2, 0, none⟩) (j + 1) cap2)) := Touch.setCell (S := fun q => q = c) (p := ⟨c, 6, none⟩) (Touch.refl _ w3) rfl _
      exact ⟨⟨j + 1, .slice (some ⟨g2, 0, none⟩) (j + 1) cap2, xs ++ [.pointer (some ⟨g, 0, none⟩)], by omega, by simp, hv5, ownsRow_setCell_below hown2 (by show c < c + 1; omega) _, hp.touch hT5 (fun q hq => by omega), hBn.setCell (by show c ≤ c; omega) _, by simp [World.setCell]; omega⟩, by simp [intOf]; omega⟩
    · have hjk : j = k := by omega
      subst hjk
      have hR0 := hR
      rcases hR.2 with ⟨_, h0⟩ | ⟨g3, cap3, cur, rfl, -, -, -⟩
      · omega
      have hcc := unhide HCC
      have h3 : 0 < L.length := by have := unhide HLL; omega
      have hB1r : Below w1.heap.size w1 wr := (unhide HB2).trans (hB.mono (by omega))
      have HCU : Hid (CrewUp wr c L j n ms wa wc bt be g3 cap3) := ⟨by simpa using cell_of_row _ _ 0 _ _ _ hv, by simpa using cell_of_row _ _ 1 _ _ _ hv, by simpa using cell_of_row _ _ 2 _ _ _ hv, (unhide HT).below h3 hB1r (Nat.le_refl _), by simpa using cell_of_row _ _ 3 _ _ _ hv, by simpa using cell_of_row _ _ 4 _ _ _ hv, by simpa using cell_of_row _ _ 5 _ _ _ hv, by simpa using cell_of_row _ _ 6 _ _ _ hv, by simpa using cell_of_row _ _ 7 _ _ _ hv, fun i m hm => by
        have hil := (List.getElem?_eq_some_iff.1 hm).1
        obtain ⟨g, lo, hi', e0, -, -, -, hMan⟩ := hM i m (by have := unhide HML; omega) hm
        exact ⟨g, ownsRow_cell hR0 e0, hMan.man hWr⟩, h3⟩
      have HWC : Hid (w.heap.size ≤ c) := by exact Nat.le_of_lt hwc
      clear hv hR hR0 hM hB hxl hWr hrP hB1r HM HV HRR
      go_wp2
      exact bodyPost_ret (v := .tuple #[.pointer (some ⟨c, 0, none⟩), .bool true]) (by simp [results, Tryz.results107, go_sem]) rfl ⟨c, bt, be, g3, cap3, rfl, unhide HWC, unhide HCU, unhide HWR⟩
end Go.Proofs.YtjgcjeaplckbbaaGreatDoor

/- Where a block lies: the program's place. -/
namespace Go.Proofs.YtjgcjeaplckbbaaGreatDoor
open Go.RowKit
set_option linter.unusedVariables false
set_option linter.unusedSimpArgs false

set_option maxHeartbeats 1000000 in
theorem place_any (bt be : Nat) (L : List Int) (n : Nat) (hl : L.length = n) (lba : Int) (w : World) (hT : Taken w bt be L) (ho : LayOk L) (hs : 0 ≤ lba) (hs9 : lba ≤ 1000000000) :
    Calls Tryz.prog 143 #[.agg #[.int .i64 n, .func (.func 99) #[] #[.pointer (some ⟨bt, 0, none⟩), .pointer (some ⟨be, 0, none⟩)]], .int .i64 lba] w fun e w' => ∃ m s : Int, e = .returned (.tuple #[.int .i64 m, .int .i64 s]) ∧ PutIs L lba m s ∧ Below w.heap.size w w' := by
  have HT := hide hT
  have HO := hide ho
  have hn5 : 3 ≤ n ∧ n ≤ 5 := by have := ho.1; omega
  have HL := hide hl
  have hne : ¬ (n : Int) - 1 = 0 := by omega
  have hq0 : 0 ≤ lba / ((n : Int) - 1) := Int.ediv_nonneg hs (by omega)
  have hq1 : lba / ((n : Int) - 1) ≤ 1000000000 := Int.le_trans (Int.ediv_le_self _ hs) hs9
  have hr0 : 0 ≤ lba % ((n : Int) - 1) := Int.emod_nonneg _ (by omega)
  have hr1 : lba % ((n : Int) - 1) < (n : Int) - 1 := Int.emod_lt_of_pos _ (by omega)
  have h3 : 0 < L.length := by omega
  clear hT ho hl
  go_enter Tryz.func143, Tryz.ntmps143
  go_wp2
  go_region
  all_goals (
    go_wp2_with (go_at_call 99; refine (parity_any bt be L _ _ ((unhide HT).below h3 ((Below.refl w.heap.size w).alloc (Nat.le_refl _) _).drew (Nat.le_refl _)) (unhide HO) hq0 hq1).mono ?_; rintro e w1 ⟨p, rfl, hp, rfl⟩; have HP := hide hp; clear hp)
    all_goals (
      go_ret2
      exact ⟨_, _, rfl, ⟨by rw [unhide HL], p, unhide HP, by rw [unhide HL]; first | rw [if_pos (by assumption)] | rw [if_neg (by omega)]⟩, ((Below.refl w.heap.size w).alloc (Nat.le_refl _) _).drew⟩))

end Go.Proofs.YtjgcjeaplckbbaaGreatDoor

/- The program's ArrayOk, SizeOf, BlockAt over an array that is up and whole; what the laws see of it. -/
namespace Go.Proofs.YtjgcjeaplckbbaaGreatDoor
open Go.RowKit
set_option linter.unusedVariables false
set_option linter.unusedSimpArgs false

/-- An array that is up and whole and right, as it lies. -/
structure ArrUp (w : World) (L : List Int) (k n : Nat) (ms : List Mb) (wa : Option Addr) (G : Nat) : Prop where
  len : L.length = k
  ok : UpOk L n ms
  even : EvenAll n ms
  ints : IntsAt w wa L
  mbs : MbsAt w G ms
theorem ArrUp.below {w w' : World} {L : List Int} {k n : Nat} {ms : List Mb} {wa : Option Addr} {G : Nat} (h : ArrUp w L k n ms wa G) (hb : Below w.heap.size w w') : ArrUp w' L k n ms wa G := ⟨h.len, h.ok, h.even, h.ints.below hb (Nat.le_refl _), h.mbs.below hb⟩

set_option maxRecDepth 100000 in
set_option maxHeartbeats 1000000 in
theorem crewOf_up (wa : Option Addr) (wc : Nat) (L : List Int) (k G mc n : Nat) (ms : List Mb) (w : World) (h : ArrUp w L k n ms wa G) :
    Calls Tryz.prog 54 #[.agg #[.slice wa k wc, .int .i64 (n : Int), .int .i64 (-1), .bool false, .slice (some ⟨G, 0, none⟩) k mc, .slice none 0 0]] w fun e w' => ∃ c bt be W cap, e = .returned (.tuple #[.pointer (some ⟨c, 0, none⟩), .bool true]) ∧ CrewUp w' c L k n ms wa wc bt be W cap ∧ Below w.heap.size w w' := by
  have hb0 : ∀ o, Below w.heap.size w (w.alloc o) := fun o => (Below.refl _ w).alloc (Nat.le_refl _) o
  have HA := hide (fun o => h.below (hb0 o))
  have HL := hide h.len
  have HO := hide h.ok
  have HE := hide h.even
  clear h
  go_enter Tryz.func54, Tryz.ntmps54
  go_wp2_with fail
  refine (gathered_up wa wc L k (unhide HL) G mc n ms (unhide HO) _ (unhide HA _).ints (unhide HA _).mbs).mono ?_
  rintro e w1 ⟨c, bt, be, W, cap, rfl, hc, hC, hB1⟩
  have hs1 := hB1.size
  simp at hs1
  have x3 : w1.cell? ⟨w.heap.size, 3, none⟩ = some (.bool false) := by
    rw [hB1.cell (p := ⟨w.heap.size, 3, none⟩) (by simp)]
    simp
  have x5 : w1.cell? ⟨w.heap.size, 5, none⟩ = some (.slice none 0 0) := by
    rw [hB1.cell (p := ⟨w.heap.size, 5, none⟩) (by simp)]
    simp
  have hW1 : Below w.heap.size w w1 := (hb0 _).trans (hB1.mono (by simp))
  have HC := hide hC
  clear hB1 hb0 HA hC
  go_wp2_with fail
  refine (allEven_any c L k n (unhide HL) ms wa wc bt be W cap (unhide HO) (unhide HE) w1 (unhide HC)).mono ?_
  rintro e w2 ⟨rfl, hB2⟩
  have hW2 := hW1.trans (hB2.mono hW1.size)
  have HC2 := hide ((unhide HC).below hB2)
  clear hB2 HC x3 x5
  go_wp2
  exact bodyPost_ret (v := .tuple #[.pointer (some ⟨c, 0, none⟩), .bool true]) (by simp [results, Tryz.results54, go_sem]) rfl ⟨c, bt, be, W, cap, rfl, unhide HC2, hW2⟩

set_option maxHeartbeats 1000000 in
theorem implArrayOk_up (wa : Option Addr) (wc : Nat) (L : List Int) (k G mc n : Nat) (ms : List Mb) (w : World) (h : ArrUp w L k n ms wa G) :
    Calls Tryz.prog 17 #[.agg #[.slice wa k wc, .int .i64 (n : Int), .int .i64 (-1), .bool false, .slice (some ⟨G, 0, none⟩) k mc, .slice none 0 0]] w fun e w' => e = .returned (.bool true) ∧ Below w.heap.size w w' := by
  have hb0 : ∀ o, Below w.heap.size w (w.alloc o) := fun o => (Below.refl _ w).alloc (Nat.le_refl _) o
  have HA := hide (fun o => h.below (hb0 o))
  clear h
  go_enter Tryz.func17, Tryz.ntmps17
  go_wp2_with fail
  refine (crewOf_up wa wc L k G mc n ms _ (unhide HA _)).mono ?_
  rintro e w1 ⟨c, bt, be, W, cap, rfl, -, hB1⟩
  have hW1 : Below w.heap.size w w1 := (hb0 _).trans (hB1.mono (by simp))
  clear hB1 hb0 HA
  go_wp2
  go_ret
  exact ⟨rfl, hW1⟩

set_option maxHeartbeats 1000000 in
theorem implSizeOf_up (wa : Option Addr) (wc : Nat) (L : List Int) (k G mc n : Nat) (ms : List Mb) (w : World) (h : ArrUp w L k n ms wa G) :
    Calls Tryz.prog 19 #[.agg #[.slice wa k wc, .int .i64 (n : Int), .int .i64 (-1), .bool false, .slice (some ⟨G, 0, none⟩) k mc, .slice none 0 0]] w fun e w' => e = .returned (.int .i64 (sizeN k n : Int)) ∧ Below w.heap.size w w' := by
  have hb0 : ∀ o, Below w.heap.size w (w.alloc o) := fun o => (Below.refl _ w).alloc (Nat.le_refl _) o
  have HA := hide (fun o => h.below (hb0 o))
  have hk35 : 3 ≤ k ∧ k ≤ 5 := by have := h.ok.k35; have := h.len; omega
  have hn4 := h.ok.n4
  have hn12 := h.ok.n12
  clear h
  go_enter Tryz.func19, Tryz.ntmps19
  go_wp2_with fail
  refine (crewOf_up wa wc L k G mc n ms _ (unhide HA _)).mono ?_
  rintro e w1 ⟨c, bt, be, W, cap, rfl, hC, hB1⟩
  have hW1 : Below w.heap.size w w1 := (hb0 _).trans (hB1.mono (by simp))
  have HS := hide (size_any c k n hk35.1 hk35.2 hn4 hn12 w1 hC.blocks hC.members)
  clear hB1 hb0 HA hC
  go_wp2_with fail
  refine (unhide HS).mono ?_
  rintro e w2 ⟨rfl, hB2⟩
  have hW2 := hW1.trans (hB2.mono hW1.size)
  go_wp2
  go_ret
  exact ⟨rfl, hW2⟩

theorem put_range {L : List Int} {lba m s : Int} {n : Nat} (h : PutIs L lba m s) (h3 : 3 ≤ L.length) (h4 : 4 ≤ n) (h0 : 0 ≤ lba) (h1 : lba < (sizeN L.length n : Int)) : ∃ i t : Nat, m = (i : Int) ∧ s = (t : Int) ∧ i < L.length ∧ t < 4 * (n - 3) := by
  obtain ⟨hq, p, hp, hm⟩ := h
  have hk : 0 < (L.length : Int) - 1 := by omega
  have hr0 : 0 ≤ lba % ((L.length : Int) - 1) := Int.emod_nonneg _ (by omega)
  have hr1 : lba % ((L.length : Int) - 1) < (L.length : Int) - 1 := Int.emod_lt_of_pos _ hk
  have hs0 : 0 ≤ s := by rw [hq]; exact Int.ediv_nonneg h0 (by omega)
  have hs1 : s < 4 * ((n : Int) - 3) := by
    rw [hq]
    refine Int.ediv_lt_of_lt_mul hk ?_
    rw [sizeN_int h3 h4]
    exact h1
  have hm0 : 0 ≤ m := by rw [hm]; split <;> omega
  have hm1 : m < (L.length : Int) := by rw [hm]; split <;> omega
  exact ⟨m.toNat, s.toNat, by omega, by omega, by omega, by omega⟩

set_option maxRecDepth 100000 in
set_option maxHeartbeats 1000000 in
theorem block_any (c : Nat) (L : List Int) (k n : Nat) (hk : L.length = k) (ms : List Mb) (wa : Option Addr) (wc bt be W cap : Nat) (lba : Nat) (ho : UpOk L n ms) (hl : lba < sizeN k n) (w : World) (h : CrewUp w c L k n ms wa wc bt be W cap) :
    Calls Tryz.prog 77 #[.pointer (some ⟨c, 0, none⟩), .int .i64 (lba : Int)] w fun e w' => ∃ m t, m ∈ ms ∧ t < 4 * (n - 3) ∧ e = .returned (.string (pageM m t)) ∧ Below w.heap.size w w' := by
  have hk35 : 3 ≤ k ∧ k ≤ 5 := by have := ho.k35; omega
  have hS := sizeN_le hk35.2 ho.n12
  have c1 := h.members
  have c2 := h.place
  have HC := hide h
  have HO := hide ho
  have HK := hide hk
  have hPL := place_any bt be L k hk (lba : Int) w h.taken ho.lay (by omega) (by omega)
  clear h ho hk
  go_enter Tryz.func77, Tryz.ntmps77
  go_wp2_with fail
  refine hPL.mono ?_
  rintro e w1 ⟨m, s, rfl, hPut, hB1⟩
  obtain ⟨i, t, rfl, rfl, hi, ht⟩ := put_range hPut (by have := unhide HK; omega) (unhide HO).n4 (by omega) (by rw [unhide HK]; omega)
  have hik : i < k := by have := unhide HK; omega
  have hC1 := (unhide HC).below hB1
  obtain ⟨mb, hmb⟩ := getElem?_ex (l := ms) (k := i) (by have := (unhide HO).len; omega)
  obtain ⟨g, hg, hW⟩ := hC1.works i mb hmb
  have hwk := hC1.workers
  have HW := hide hW
  have HM := hide hmb
  have hpl := ((unhide HO).each mb (List.mem_of_getElem? hmb)).2.2.1
  clear hPL hPut hC1 hW hmb c1 c2 HC
  go_wp2_with fail
  refine (page_any g n mb t (by omega) w1 (unhide HW)).mono ?_
  rintro e w2 ⟨rfl, hB2⟩
  have hW2 := hB1.trans (hB2.mono hB1.size)
  go_wp2
  go_ret
  exact ⟨mb, t, List.mem_of_getElem? (unhide HM), ht, rfl, hW2⟩

set_option maxRecDepth 100000 in
set_option maxHeartbeats 1000000 in
theorem crewHas_any (c k n : Nat) (h3 : 3 ≤ k) (h5 : k ≤ 5) (h4 : 4 ≤ n) (h12 : n ≤ 12) (x : Int) (w : World) (h : w.cell? ⟨c, 3, none⟩ = some (.int .i64 (n : Int))) (h1 : w.cell? ⟨c, 1, none⟩ = some (.int .i64 (k : Int))) :
    Calls Tryz.prog 76 #[.pointer (some ⟨c, 0, none⟩), .int .i64 x] w fun e w' => e = .returned (.bool (decide (0 ≤ x ∧ x ≤ (sizeN k n : Int) - 1))) ∧ Below w.heap.size w w' := by
  have HS := hide (size_any c k n h3 h5 h4 h12 w h h1)
  have hl := sizeN_le h5 h12
  obtain ⟨N, hN⟩ : ∃ N, N = sizeN k n := ⟨_, rfl⟩
  rw [← hN] at HS hl ⊢
  clear h h1 hN
  go_enter Tryz.func76, Tryz.ntmps76
  go_wp2_with fail
  refine (unhide HS).mono ?_
  rintro e w1 ⟨rfl, hB1⟩
  go_wp2_with fail
  refine (within_any _ _ _ _).mono ?_
  rintro e w2 ⟨rfl, rfl⟩
  go_wp2
  go_ret
  exact ⟨by simp [Act.eval], hB1⟩

set_option maxRecDepth 100000 in
set_option maxHeartbeats 1000000 in
theorem implBlockAt_up (wa : Option Addr) (wc : Nat) (L : List Int) (k G mc n : Nat) (ms : List Mb) (lba : Nat) (hlb : lba < sizeN k n) (w : World) (h : ArrUp w L k n ms wa G) :
    Calls Tryz.prog 33 #[.agg #[.slice wa k wc, .int .i64 (n : Int), .int .i64 (-1), .bool false, .slice (some ⟨G, 0, none⟩) k mc, .slice none 0 0], .int .i64 (lba : Int)] w fun e w' => ∃ m t, m ∈ ms ∧ t < 4 * (n - 3) ∧ e = .returned (.tuple #[.string (pageM m t), .bool true]) ∧ Below w.heap.size w w' := by
  have hb0 : ∀ o, Below w.heap.size w (w.alloc o) := fun o => (Below.refl _ w).alloc (Nat.le_refl _) o
  have HA := hide (fun o => h.below (hb0 o))
  have HO := hide h.ok
  have HL := hide h.len
  have hk35 : 3 ≤ k ∧ k ≤ 5 := by have := h.ok.k35; have := h.len; omega
  have hn4 := h.ok.n4
  have hn12 := h.ok.n12
  clear h
  go_enter Tryz.func33, Tryz.ntmps33
  go_wp2_with fail
  refine (crewOf_up wa wc L k G mc n ms _ (unhide HA _)).mono ?_
  rintro e w1 ⟨c, bt, be, W, cap, rfl, hC, hB1⟩
  have hW1 : Below w.heap.size w w1 := (hb0 _).trans (hB1.mono (by simp))
  have c5 := hC.down
  have HC := hide hC
  clear hB1 hb0 HA hC
  go_wp2_with fail
  refine (crewHas_any c k n hk35.1 hk35.2 hn4 hn12 (lba : Int) w1 (unhide HC).blocks (unhide HC).members).mono ?_
  rintro e w2 ⟨rfl, hB2⟩
  rw [show decide ((0 : Int) ≤ (lba : Int) ∧ (lba : Int) ≤ (sizeN k n : Int) - 1) = true by simp; omega]
  have HC2 := hide ((unhide HC).below hB2)
  have hW2 := hW1.trans (hB2.mono hW1.size)
  clear hB2 HC c5
  go_wp2_with fail
  refine (block_any c L k n (unhide HL) ms wa wc bt be W cap lba (unhide HO) hlb w2 (unhide HC2)).mono ?_
  rintro e w3 ⟨m, t, hm, ht, rfl, hB3⟩
  have hW3 := hW2.trans (hB3.mono hW2.size)
  have HR : Hid (m ∈ ms ∧ t < 4 * (n - 3)) := ⟨hm, ht⟩
  clear hB3 HC2 hm ht
  go_wp2
  exact bodyPost_ret (v := .tuple #[.string (pageM m t), .bool true]) (by simp [results, Tryz.results33, go_sem]) rfl ⟨m, t, (unhide HR).1, (unhide HR).2, rfl, hW3⟩
end Go.Proofs.YtjgcjeaplckbbaaGreatDoor

/- What the laws see of an array whose blocks are all zeros. -/
namespace Go.Proofs.YtjgcjeaplckbbaaGreatDoor
open Go.RowKit
set_option linter.unusedVariables false
set_option linter.unusedSimpArgs false

def zs (N : Nat) : ByteArray := ⟨(List.replicate (N * 4) (0 : UInt8)).toArray⟩
theorem zs_step (j : Nat) : zs j ++ zeros4 = zs (j + 1) := by
  apply ByteArray.ext
  rw [ByteArray.data_append]
  show (List.replicate (j * 4) (0 : UInt8)).toArray ++ #[0, 0, 0, 0] = (List.replicate ((j + 1) * 4) (0 : UInt8)).toArray
  rw [show (j + 1) * 4 = j * 4 + 4 by omega, ← List.replicate_append_replicate]
  simp

theorem zs_size (N : Nat) : (zs N).size = N * 4 := by show (List.replicate (N * 4) (0 : UInt8)).toArray.size = _; simp
theorem infoByteZ : (Tryz.prog.info? 5).map (fun i => (i.zero, i.size, i.bytes)) = some (some (.int .u8 0), 1, 1) := by kernel_rfl
theorem make_zs (N : Nat) (hN : N ≤ 144) (w : World) : (Instr.makeSlice 22 (.int .i64 ((N : Int) * 4)) (.int .i64 ((N : Int) * 4))).run Tryz.prog w = .ok (.slice (some ⟨w.heap.size, 0, none⟩) (N * 4) (N * 4)) (w.alloc (.cells (madeCells #[.int .u8 0] (N * 4)) 5)) := by
  obtain ⟨i, hi, hz⟩ := Option.map_eq_some_iff.1 infoByteZ
  simp only [Prod.mk.injEq] at hz
  obtain ⟨hz0, hz1, hz2⟩ := hz
  have h := run_make (P := Tryz.prog) w 22 5 i _ Tryz.underlying22 hi hz0 .i64 .i64 ((N : Int) * 4) ((N : Int) * 4) (by omega) (Int.le_refl _) (by rw [hz2]; omega) (by omega)
  rw [hz1] at h
  have e : ((N : Int) * 4).toNat = N * 4 := by omega
  rw [e] at h
  simpa [Value.cells] using h
theorem zs_string (N : Nat) (w : World) (blk : Nat) (h : w.heap[blk]? = some (.cells (madeCells #[.int .u8 0] (N * 4)) 5 (0, 0))) : (convert 22 9 (.slice (some ⟨blk, 0, none⟩) (N * 4) (N * 4))).run Tryz.prog w = .ok (.string (zs N)) w := by
  have h2 := run_convert_bytes_back (P := Tryz.prog) w 22 9 5 ⟨blk, 0, none⟩ (N * 4) (List.replicate (N * 4) 0) Tryz.underlying22 Tryz.underlying5 Tryz.underlying9 (fun j hj => by
    rw [Go.WideShapes.add_plain, Nat.zero_add, cell_of_row _ _ j _ _ _ h]
    simp at hj
    simp [madeCells, hj, Nat.mod_one])
  simpa [zs] using h2

set_option maxRecDepth 100000 in
set_option maxHeartbeats 1000000 in
theorem seen_up (wa : Option Addr) (wc : Nat) (L : List Int) (k G mc n : Nat) (ms : List Mb) (hz : ∀ m ∈ ms, ∀ t, t < 4 * (n - 3) → pageM m t = zeros4) (w : World) (h : ArrUp w L k n ms wa G) :
    Calls Tryz.prog 18 #[.agg #[.slice wa k wc, .int .i64 (n : Int), .int .i64 (-1), .bool false, .slice (some ⟨G, 0, none⟩) k mc, .slice none 0 0]] w fun e w' => e = .returned (.string (zs (sizeN k n))) ∧ Below w.heap.size w w' := by
  have hk35 : 3 ≤ k ∧ k ≤ 5 := by have := h.ok.k35; have := h.len; omega
  have hS := sizeN_le hk35.2 h.ok.n12
  obtain ⟨w1, hw1⟩ : ∃ w1, w1 = w.alloc (.cells #[.slice wa k wc, .int .i64 (n : Int), .int .i64 (-1), .bool false, .slice (some ⟨G, 0, none⟩) k mc, .slice none 0 0] 30) := ⟨_, rfl⟩
  have hb0 : Below w.heap.size w w1 := by rw [hw1]; exact (Below.refl _ w).alloc (Nat.le_refl _) _
  have hr1 : w1.heap[w.heap.size]? = some (.cells #[.slice wa k wc, .int .i64 (n : Int), .int .i64 (-1), .bool false, .slice (some ⟨G, 0, none⟩) k mc, .slice none 0 0] 30 (0, 0)) := by rw [hw1]; exact World.alloc_heap_new w _
  have hs1 : w1.heap.size = w.heap.size + 1 := by rw [hw1]; simp
  have HA : Hid (∀ W, Below w1.heap.size w1 W → ArrUp W L k n ms wa G) := fun W hW => (h.below hb0).below hW
  have HZ := hide hz
  obtain ⟨N, hN⟩ : ∃ N, N = sizeN k n := ⟨_, rfl⟩
  rw [← hN] at hS ⊢
  have HN := hide hN
  clear h hz hN
  go_enter Tryz.func18, Tryz.ntmps18
  go_wp2
  rw [← hw1]
  clear hw1
  go_loopw [3, 4] (fun v i wr => ∃ j : Nat, j ≤ N ∧ i = .int .i64 (j : Int) ∧ v = .string (zs j) ∧ Below w1.heap.size w1 wr) (fun _ i _ => N - (intOf i).toNat)
  case atStart => exact ⟨0, Nat.zero_le _, rfl, rfl, Below.refl _ _⟩
  case round =>
    obtain ⟨j, hj, rfl, rfl, hB⟩ := hrel
    have hrr := (hB.block w.heap.size (by omega)).trans hr1
    have x0 := cell_of_row _ _ 0 _ _ _ hrr
    have x1 := cell_of_row _ _ 1 _ _ _ hrr
    have x2 := cell_of_row _ _ 2 _ _ _ hrr
    have x3 := cell_of_row _ _ 3 _ _ _ hrr
    have x4 := cell_of_row _ _ 4 _ _ _ hrr
    have x5 := cell_of_row _ _ 5 _ _ _ hrr
    simp at x0 x1 x2 x3 x4 x5
    have HSZ := hide (implSizeOf_up wa wc L k G mc n ms wr (unhide HA wr hB))
    rw [← unhide HN] at HSZ
    have HRR := hide hrr
    clear hrr
    go_wp2_with fail
    refine (unhide HSZ).mono ?_
    rintro e w2 ⟨rfl, hB2⟩
    have hB12 := hB.trans (hB2.mono hB.size)
    have hs12 := hB12.size
    have hrr := (hB2.block w.heap.size (by have := hB.size; omega)).trans (unhide HRR)
    have x0 := cell_of_row _ _ 0 _ _ _ hrr
    have x1 := cell_of_row _ _ 1 _ _ _ hrr
    have x2 := cell_of_row _ _ 2 _ _ _ hrr
    have x3 := cell_of_row _ _ 3 _ _ _ hrr
    have x4 := cell_of_row _ _ 4 _ _ _ hrr
    have x5 := cell_of_row _ _ 5 _ _ _ hrr
    simp at x0 x1 x2 x3 x4 x5
    clear HSZ HRR hB2 hrr
    by_cases hlt : j < N
    · have HBA := hide (implBlockAt_up wa wc L k G mc n ms j (by rw [← unhide HN]; exact hlt) w2 (unhide HA w2 hB12))
      go_wp2_with fail
      refine (unhide HBA).mono ?_
      rintro e w3 ⟨m, t, hm, ht, rfl, hB3⟩
      rw [unhide HZ m hm t ht]
      have hB13 := hB12.trans (hB3.mono hB12.size)
      have hstep := zs_step j
      have hszz : ¬ 9223372036854775807 < (zs j).size + zeros4.size := by rw [zs_size]; show ¬ 9223372036854775807 < j * 4 + 4; omega
      clear HBA hB3 hm ht x0 x1 x2 x3 x4 x5
      go_wp2_with fail
      exact ⟨⟨j + 1, by omega, by simp, rfl, hB13⟩, by simp [intOf]; omega⟩
    · have hjk : j = N := by omega
      subst hjk
      have hW := hb0.trans (hB12.mono (by omega))
      clear x0 x1 x2 x3 x4 x5
      go_wp2
      go_ret
      exact ⟨rfl, hW⟩
end Go.Proofs.YtjgcjeaplckbbaaGreatDoor
