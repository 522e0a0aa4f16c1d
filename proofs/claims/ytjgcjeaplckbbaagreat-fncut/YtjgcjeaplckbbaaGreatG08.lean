/- 3 texts in one. -/
import Derived.Test.YtjgcjeaplckbbaaGreatG07
import Derived.Test.YtjgcjeaplckbbaaGreatG02
import Derived.Outline
import Derived.WalkKit

/- The program's arrays of a chip, and whether it is right. -/
namespace Go.Proofs.YtjgcjeaplckbbaaGreat
open Go.RowKit
set_option linter.unusedVariables false
set_option linter.unusedSimpArgs false

/-- The call has told a chip's arrays, or that it is not right. -/
def CellsOf (bs : List Bk) (e : Ending) : Prop := ∃ (m : CC) (r : Bool), e = .returned (.tuple #[.agg (ccA m), .bool r]) ∧ (r = true ↔ ChipOk bs) ∧ (r = true → m.count = bs.length ∧ ccBs m bs.length = bs)
theorem CellsOf.no {bs : List Bk} (h : ¬ ChipOk bs) : CellsOf bs (.returned (.tuple #[.agg Tryz.zeroCells57, .bool false])) :=
  ⟨newCC 0, false, by rw [zeroCC], by simp [h], by simp⟩
theorem CellsOf.yes {bs : List Bk} (h : ChipOk bs) (m : CC) (h1 : m.count = bs.length) (h2 : ccBs m bs.length = bs) : CellsOf bs (.returned (.tuple #[.agg (ccA m), .bool true])) :=
  ⟨m, true, rfl, by simp [h], fun _ => ⟨h1, h2⟩⟩

theorem zeroCC_one : ∀ v ∈ Tryz.zeroCells57.toList, v.oneCell' = true := by rw [zeroCC]; exact ccA_one _
theorem zeroCC_size : Tryz.zeroCells57.size = 205 := by rw [zeroCC]; exact ccA_size _
theorem sizeBC : (Tryz.prog.info? 54).map (·.size) = some 17 := by kernel_rfl

/-- What is known of the blocks ahead of b. -/
def Known (bs : List Bk) (b : Nat) (m : CC) : Prop := ∀ j x, j < b → bs[j]? = some x → x = ⟨m.wear j, ccPs m j⟩ ∧ BcOk (m.wear j) (m.page j)

theorem Known.bs {bs : List Bk} {n : Nat} {m : CC} (h : Known bs n m) (hn : bs.length = n) : ccBs m n = bs := by
  apply List.ext_getElem?
  intro i
  by_cases hi : i < n
  · obtain ⟨x, hx⟩ := getElem?_ex (l := bs) (k := i) (by omega)
    rw [ccBs_at m hi, hx, (h i x hi hx).1]
  · rw [List.getElem?_eq_none (by rw [ccBs_length]; omega), List.getElem?_eq_none (by omega)]

theorem bkOk_iff {x : Bk} (h4 : x.pages.length = 4) : BkOk x ↔ BcOk x.wear (pagesF x.pages) := by
  obtain ⟨v, ps⟩ := x
  constructor
  · intro h
    obtain ⟨_, h1, h2, h3⟩ := BkOk.of_four.1 h
    exact ⟨h1, h2, h3⟩
  · intro h
    exact BkOk.of_four.2 ⟨h4, h.wear, h.page, h.order⟩

theorem Known.step {bs : List Bk} {b : Nat} {m : CC} (h : Known bs b m) {x : Bk} (hx : bs[b]? = some x) (h4 : x.pages.length = 4) (hok : BcOk x.wear (pagesF x.pages)) : Known bs (b + 1) ((m.setWear b x.wear).setPages b (pagesF x.pages)) := by
  intro j y hj hy
  by_cases e : j = b
  · subst e
    rw [hx] at hy
    cases hy
    refine ⟨?_, ?_⟩
    · obtain ⟨v, ps⟩ := x
      simp only [CC.setWear, CC.setPages, ccPs, if_pos]
      rw [pagesF_list h4]
    · simpa only [CC.setWear, CC.setPages, if_pos] using hok
  · have := h j y (by omega) hy
    simpa only [CC.setWear, CC.setPages, ccPs, if_neg e] using this

theorem Known.block {bs : List Bk} {n : Nat} {m : CC} (h : Known bs n m) (hn : bs.length = n) : ∀ x ∈ bs, BkOk x := by
  intro x hx
  obtain ⟨j, hj, rfl⟩ := List.getElem_of_mem hx
  obtain ⟨h1, h2⟩ := h j bs[j] (by omega) (by simp [hj])
  rw [h1]
  refine BkOk.of_four.2 ⟨rfl, h2.wear, fun k hk => ?_, fun k hk => ?_⟩
  · have : pagesF (ccPs m j) k = m.page j k := by simp only [pagesF]; rw [ccPs_at m j hk]; rfl
    rw [this]
    exact h2.page k hk
  · have e1 : pagesF (ccPs m j) k = m.page j k := by simp only [pagesF]; rw [ccPs_at m j (by omega)]; rfl
    have e2 : pagesF (ccPs m j) (k + 1) = m.page j (k + 1) := by simp only [pagesF]; rw [ccPs_at m j hk]; rfl
    rw [e1, e2]
    exact h2.order k hk

theorem usedSeqs_all (m : CC) (n : Nat) : usedSeqs (usedAll m n) = seqs (ccBs m n) := by
  unfold usedSeqs usedAll seqs ccBs
  rw [List.map_flatMap, List.flatMap_map]
  congr 1
  funext b
  rw [ccPs_filter]
  simp [usedB, List.map_map]

theorem Known.ok {bs : List Bk} {n : Nat} {m : CC} (h : Known bs n m) (hn : bs.length = n) (h1 : 4 ≤ n) (h2 : n ≤ 12) : ChipOk bs ↔ (usedSeqs (usedAll m n)).Nodup := by
  rw [usedSeqs_all, h.bs hn]
  exact ⟨fun hc => hc.nodup, fun hc => ⟨by omega, h.block hn, hc⟩⟩

set_option maxRecDepth 100000 in
theorem cellsOf_few (a : Option Addr) (c : Nat) (bs : List Bk) (w : World) (hl : bs.length ≤ 9223372036854775807) (h : ¬ (4 ≤ bs.length ∧ bs.length ≤ 12)) :
    Calls Tryz.prog 26 #[.agg #[.slice a bs.length c]] w fun e w' => CellsOf bs e ∧ Below w.heap.size w w' := by
  have hst := fun o => store_same Tryz.prog ((w.alloc o).alloc (.cells Tryz.zeroCells57 57)) (w.heap.size + 1) 57 Tryz.zeroCells57 (heap_alloc2_new _ _ _) zeroCC_one
  have hno : ¬ ChipOk bs := fun hc => h hc.count
  go_enter Tryz.func26, Tryz.ntmps26
  go_wp2_with fail
  refine (isBlockCount_any _ _).mono ?_
  rintro e w1 ⟨rfl, rfl⟩
  have hd : decide (4 ≤ (bs.length : Int) ∧ (bs.length : Int) ≤ 12) = false := by simp; omega
  rw [hd]
  go_wp2
  have hld := fun o => run_loadVar_row (P := Tryz.prog) ((w.alloc o).alloc (.cells Tryz.zeroCells57 57)) (w.heap.size + 1) 57 57 Tryz.zeroCells57 (0, 0) _ (heap_alloc2_new _ _ _) Tryz.underlying57 rfl (by rw [zeroCC_size]; exact sizeCC')
  refine bodyPost_ret (v := .tuple #[.agg Tryz.zeroCells57, .bool false]) (results_cell_slot 2 57 3 Tryz.results26 _ _ _ _ _ rfl (hld _) rfl) rfl ⟨CellsOf.no hno, ?_⟩
  repeat (first | exact Below.refl _ _ | refine Below.drew ?_ | refine Below.alloc ?_ (by simp <;> omega) _ | refine Below.setCell ?_ (by simp <;> omega) _)

set_option maxRecDepth 100000 in
set_option maxHeartbeats 2000000 in
theorem cellsOf_many (a : Option Addr) (c : Nat) (bs : List Bk) (w : World) (hbs : BlocksAt w a bs) (hpl : ∀ b ∈ bs, b.pages.length ≤ 9223372036854775807) (n : Nat) (hn : bs.length = n) (h1 : 4 ≤ n) (h2 : n ≤ 12) :
    Calls Tryz.prog 26 #[.agg #[.slice a n c]] w fun e w' => CellsOf bs e ∧ Below w.heap.size w w' := by
  have hst := fun o o2 => storeNew Tryz.prog ((w.alloc o).alloc o2) (w.heap.size + 1 + 1) (by simp) Tryz.zeroCells57 57 (Tryz.zeroCells57.toList.set 0 (.int .i64 n)) (by simp) (by rw [setCC]; exact ccA_one _)
  rw [setCC] at hst
  simp only [Array.toArray_toList] at hst
  rw [← setCC] at hst
  go_enter Tryz.func26, Tryz.ntmps26
  go_wp2_with fail
  refine (isBlockCount_any _ _).mono ?_
  rintro e w1 ⟨rfl, rfl⟩
  have hd : decide (4 ≤ (n : Int) ∧ (n : Int) ≤ 12) = true := by simp; omega
  rw [hd]
  go_wp2
  clear hst hd
  go_loopw [20] (fun i wr => ∃ (b : Nat) (m : CC), b ≤ n ∧ i = .int .i64 b ∧ wr.heap[w.heap.size + 1 + 1]? = some (.cells (ccA m) 57 (0, 0)) ∧ wr.heap[w.heap.size + 1]? = some (.cells Tryz.zeroCells57 57 (0, 0)) ∧ m.count = n ∧ Known bs b m ∧ Below w.heap.size w wr) (fun i _ => n - (intOf i).toNat)
  case atStart =>
    refine ⟨0, newCC n, Nat.zero_le _, rfl, ?_, ?_, rfl, fun j x hj => absurd hj (Nat.not_lt_zero _), ?_⟩
    · simpa using Go.Deep.blk_alloc_new ((w.alloc (.cells #[.slice a n c] 26)).alloc (.cells Tryz.zeroCells57 57)) (.cells (ccA (newCC n)) 57)
    · rw [Below.heap_alloc _ _ _ (by simp)]
      exact heap_alloc2_new _ _ _
    · exact (((Below.refl _ w).alloc (Nat.le_refl _) _).alloc (by simp) _).alloc (by simp; omega) _
  case round =>
    obtain ⟨b, m, hb, rfl, hrow, hzero, hcount, hkn, hB⟩ := hrel
    have hlts := (Array.getElem?_eq_some_iff.1 hrow).1
    by_cases hlt : b < n
    · obtain ⟨x, hx⟩ := getElem?_ex (l := bs) (k := b) (by omega)
      obtain ⟨g, o, pa, pc, rfl, hcw0, hcp0, hpa⟩ := hbs b x hx
      have hgl : g < w.heap.size := World.block_lt_of_cell? _ _ hcw0
      have hcw := (hB.cell (p := ⟨g, o + b * 2, none⟩) hgl).trans hcw0
      have hcp := (hB.cell (p := ⟨g, o + b * 2 + 1, none⟩) hgl).trans hcp0
      clear hcw0 hcp0
      have hxl := hpl x (List.mem_of_getElem? hx)
      by_cases h4 : x.pages.length = 4
      · rw [h4] at hcp
        have hb12 : b < 12 := by omega
        have hbi : (b : Int) < 12 := by omega
        obtain ⟨bx, hbx⟩ : ∃ bx : Obj, bx = .cells #[.int .i64 x.wear, .slice pa 4 pc] 108 := ⟨_, rfl⟩
        have hc0 : wr.cell? ⟨w.heap.size + 1 + 1, 1 + b * 17, none⟩ = some (.int .i64 (m.wear b)) := (cell_of_row _ _ _ _ _ _ hrow).trans (ccA_wear m hb12)
        have hf0 := frozen_of_row _ _ (1 + b * 17) _ _ hrow
        obtain ⟨W1, hW1⟩ : ∃ W1, W1 = (wr.setCell ⟨w.heap.size + 1 + 1, 1 + b * 17, none⟩ (.int .i64 x.wear)).alloc bx := ⟨_, rfl⟩
        have hrow2 : W1.drew.heap[w.heap.size + 1 + 1]? = some (.cells (ccA (m.setWear b x.wear)) 57 (0, 0)) := by
          rw [hW1, ← ccA_setWear m b x.wear hb12]
          exact (Below.heap_alloc _ _ _ (by simpa [World.setCell] using hlts)).trans (blk_setCell_same _ _ hrow)
        have hzero2 : W1.drew.heap[w.heap.size + 1]? = some (.cells Tryz.zeroCells57 57 (0, 0)) := by
          rw [hW1]
          exact ((Below.heap_alloc _ _ _ (by simp [World.setCell]; omega)).trans (Below.heap_setCell _ _ _ _ (by simp))).trans hzero
        have hB1 : Below w.heap.size w W1.drew := by
          rw [hW1]
          exact ((hB.setCell (by simp; omega) _).alloc (by simpa [World.setCell] using hB.size) _).drew
        have hcpy := copy_mid Tryz.prog W1.drew 106 106 3 51 (w.heap.size + 1 + 1) 57 (m.setWear b x.wear) b hb12 pa pc x.pages h4 (hpa.below hB1 (Nat.le_refl _)) Tryz.underlying106 sizePage hrow2
        obtain ⟨m2, hm2⟩ : ∃ m2, m2 = (m.setWear b x.wear).setPages b (pagesF x.pages) := ⟨_, rfl⟩
        rw [← hm2] at hcpy
        obtain ⟨W2, hW2⟩ : ∃ W2, W2 = W1.drew.setRow (w.heap.size + 1 + 1) (ccA m2) := ⟨_, rfl⟩
        rw [← hW2] at hcpy
        have hrow3 : W2.heap[w.heap.size + 1 + 1]? = some (.cells (ccA m2) 57 (0, 0)) := by rw [hW2]; exact setRow_heap _ _ _ _ _ _ hrow2
        have hzero3 : W2.heap[w.heap.size + 1]? = some (.cells Tryz.zeroCells57 57 (0, 0)) := by rw [hW2, setRow_other _ _ _ _ (by omega)]; exact hzero2
        have hB2 : Below w.heap.size w W2 := by rw [hW2]; exact Below.setRow hB1 (by omega) _
        have hlts2 := (Array.getElem?_eq_some_iff.1 hrow3).1
        have hblk : ∀ j, j < 17 → W2.cell? ⟨w.heap.size + 1 + 1, 1 + b * 17 + j, none⟩ = (bcA x.wear (pagesF x.pages))[j]? := fun j hj => by
          rw [cell_of_row _ _ _ _ _ _ hrow3, ccA_block m2 hb12 hj, hm2]
          simp [CC.setWear, CC.setPages]
        rw [hW1, hbx] at hcpy
        have HK := hide hkn
        have HB := hide hblk
        have HR := hide (And.intro hrow3 hzero3)
        clear hpa hkn hbs hrow2 hrow hzero hzero2 hblk hrow3 hzero3 hW2 hW1 hbx hB1
        go_wp2
        go_region
        clear hcpy
        go_wp2_with (refine wpList_load_mid rfl 54 _ rfl (w.heap.size + 1 + 1) (1 + b * 17) rfl (bcA x.wear (pagesF x.pages)) 17 (bcA_size _ _) (unhide HB) _ Tryz.underlying54 rfl sizeBC ?_)
        refine (right_any _ _ _).mono ?_
        rintro e w3 ⟨⟨r, rfl, hr⟩, hb3⟩
        have hzero4 : w3.heap[w.heap.size + 1]? = some (.cells Tryz.zeroCells57 57 (0, 0)) := (hb3.block _ (by omega)).trans (unhide HR).2
        have hB4 : Below w.heap.size w w3 := hB2.trans (hb3.mono hB2.size)
        cases r with
        | true =>
          have hok := hr.1 rfl
          have hkn2 : Known bs (b + 1) m2 := by rw [hm2]; exact (unhide HK).step hx h4 hok
          have hrow4 : w3.heap[w.heap.size + 1 + 1]? = some (.cells (ccA m2) 57 (0, 0)) := (hb3.block _ (by omega)).trans (unhide HR).1
          have hct : m2.count = n := by rw [hm2]; exact hcount
          have HH := hide (And.intro hkn2 (And.intro hrow4 (And.intro hct (And.intro hzero4 hB4))))
          clear hkn2 hrow4 hct hzero4 hB4 hr hok hm2
          go_wp2
          go_roundw
          case rel =>
            obtain ⟨q1, q2, q3, q4, q5⟩ := unhide HH
            exact ⟨b + 1, m2, by omega, by go_num, q2, q4, q3, q1, q5⟩
          case measure => simp [intOf]; omega
        | false =>
          have hstF := store_same Tryz.prog w3 (w.heap.size + 1) 57 Tryz.zeroCells57 hzero4 zeroCC_one
          have hldF := run_loadVar_row (P := Tryz.prog) w3 (w.heap.size + 1) 57 57 Tryz.zeroCells57 (0, 0) _ hzero4 Tryz.underlying57 rfl (by rw [zeroCC_size]; exact sizeCC')
          have HL := hide hldF
          have hno : ¬ ChipOk bs := fun hc => by
            have := hr.2 ((bkOk_iff h4).1 (hc.block x (List.mem_of_getElem? hx)))
            cases this
          have HN := hide hno
          clear hldF hno hzero4 hr hm2
          go_wp2
          exact bodyPost_ret (results_cell_slot 2 57 3 Tryz.results26 _ _ _ _ _ rfl (unhide HL) rfl) rfl ⟨CellsOf.no (unhide HN), hB4⟩
      · have hstF := fun o' => store_same Tryz.prog (wr.alloc o') (w.heap.size + 1) 57 Tryz.zeroCells57 ((Below.heap_alloc wr o' (w.heap.size + 1) (by omega)).trans hzero) zeroCC_one
        have hldF := fun o' => run_loadVar_row (P := Tryz.prog) (wr.alloc o') (w.heap.size + 1) 57 57 Tryz.zeroCells57 (0, 0) _ ((Below.heap_alloc wr o' (w.heap.size + 1) (by omega)).trans hzero) Tryz.underlying57 rfl (by rw [zeroCC_size]; exact sizeCC')
        have HL := hide hldF
        have HP := hide hpa
        have HK := hide hkn
        have hno : ¬ ChipOk bs := fun hc => h4 (hc.block x (List.mem_of_getElem? hx)).four
        have HN := hide hno
        clear hpa hkn hbs hldF hno
        go_wp2
        exact bodyPost_ret (results_cell_slot 2 57 3 Tryz.results26 _ _ _ _ _ rfl (unhide HL _) rfl) rfl ⟨CellsOf.no (unhide HN), hB.alloc hB.size _⟩
    · have hbn : b = n := by omega
      subst hbn
      have HK := hide hkn
      clear hkn hbs
      have hokk := (unhide HK).ok hn h1 h2
      have hbss := (unhide HK).bs hn
      clear HK
      have HO := hide hokk
      have HS := hide hbss
      clear hokk hbss
      go_wp2_with fail
      refine wp_load_row 57 _ rfl (w.heap.size + 1 + 1) rfl 57 (ccA m) (0, 0) _ hrow Tryz.underlying57 rfl (sizeCC _) ?_
      go_wp2_with fail
      refine (seqsDiffer_any m b hcount h2 _).mono ?_
      rintro e w3 ⟨⟨r, rfl, hr⟩, hb3⟩
      have hzero4 : w3.heap[w.heap.size + 1]? = some (.cells Tryz.zeroCells57 57 (0, 0)) := (hb3.block _ (by omega)).trans hzero
      have hrow4 : w3.heap[w.heap.size + 1 + 1]? = some (.cells (ccA m) 57 (0, 0)) := (hb3.block _ (by omega)).trans hrow
      have hB4 : Below w.heap.size w w3 := hB.trans (hb3.mono hB.size)
      clear hrow hzero hB
      cases r with
      | true =>
        have hstT := store_row Tryz.prog w3 (w.heap.size + 1) 57 Tryz.zeroCells57 (ccA m) hzero4 (by rw [zeroCC_size, ccA_size]) (ccA_one m)
        have hldT := run_loadVar_row (P := Tryz.prog) (w3.setRow (w.heap.size + 1) (ccA m)) (w.heap.size + 1) 57 57 (ccA m) (0, 0) _ (setRow_heap _ _ _ _ _ _ hzero4) Tryz.underlying57 rfl (sizeCC _)
        have hB5 : Below w.heap.size w (w3.setRow (w.heap.size + 1) (ccA m)) := Below.setRow hB4 (by omega) _
        obtain ⟨W5, hW5⟩ : ∃ W5, W5 = w3.setRow (w.heap.size + 1) (ccA m) := ⟨_, rfl⟩
        rw [← hW5] at hstT hldT hB5
        clear hW5
        have HL := hide hldT
        have HR := hide hrow4
        have hyes : ChipOk bs := (unhide HO).2 (hr.1 rfl)
        have HY := hide hyes
        clear hldT hr hzero4 hrow4 hB4 hyes
        have HSZ := hide (sizeCC m)
        have hfin : ∀ A, A = ccA m → CellsOf bs (.returned (.tuple #[.agg A, .bool true])) := fun A hA => by
          subst hA
          have hS := unhide HS
          rw [← hn] at hcount hS
          exact CellsOf.yes (unhide HY) m hcount hS
        obtain ⟨A, hA⟩ : ∃ A, A = ccA m := ⟨_, rfl⟩
        have hF := hfin A hA
        have hAs : A.size = 205 := by rw [hA]; exact ccA_size m
        rw [← hA] at hstT HL HR HSZ ⊢
        clear hfin hA
        go_wp2_with fail
        refine wp_load_row 57 _ rfl (w.heap.size + 1 + 1) rfl 57 A (0, 0) _ (unhide HR) Tryz.underlying57 rfl (unhide HSZ) ?_
        go_wp2
        exact bodyPost_ret (results_cell_slot 2 57 3 Tryz.results26 _ _ _ _ _ rfl (unhide HL) rfl) rfl ⟨hF, hB5⟩
      | false =>
        have hstF := store_same Tryz.prog w3 (w.heap.size + 1) 57 Tryz.zeroCells57 hzero4 zeroCC_one
        have hldF := run_loadVar_row (P := Tryz.prog) w3 (w.heap.size + 1) 57 57 Tryz.zeroCells57 (0, 0) _ hzero4 Tryz.underlying57 rfl (by rw [zeroCC_size]; exact sizeCC')
        have HL := hide hldF
        have hno : ¬ ChipOk bs := fun hc => by
          have := hr.2 ((unhide HO).1 hc)
          cases this
        have HN := hide hno
        clear hldF hno hzero4 hr hrow4
        generalize ccA m = A
        go_wp2
        exact bodyPost_ret (results_cell_slot 2 57 3 Tryz.results26 _ _ _ _ _ rfl (unhide HL) rfl) rfl ⟨CellsOf.no (unhide HN), hB4⟩

theorem cellsOf_any (a : Option Addr) (c : Nat) (bs : List Bk) (w : World) (hbs : BlocksAt w a bs) (hl : Lens 9223372036854775807 bs) :
    Calls Tryz.prog 26 #[.agg #[.slice a bs.length c]] w fun e w' => CellsOf bs e ∧ Below w.heap.size w w' := by
  by_cases h : 4 ≤ bs.length ∧ bs.length ≤ 12
  · exact cellsOf_many a c bs w hbs hl.2 _ rfl h.1 h.2
  · exact cellsOf_few a c bs w hl.1 h

theorem store_cc (m : CC) (W : World) : (storeCells ⟨W.heap.size, 0, none⟩ (ccA m).toList).run Tryz.prog (W.alloc (.cells Tryz.zeroCells57 57)) = .ok () (W.alloc (.cells (ccA m) 57)) := by
  have := storeNew Tryz.prog W W.heap.size rfl Tryz.zeroCells57 57 (ccA m).toList (by rw [Array.length_toList, ccA_size, zeroCC_size]) (ccA_one m)
  simpa only [Array.toArray_toList] using this

end Go.Proofs.YtjgcjeaplckbbaaGreat

/- The program's NextOf. -/
namespace Go.Proofs.YtjgcjeaplckbbaaGreat
open Go.RowKit
set_option linter.unusedVariables false
set_option linter.unusedSimpArgs false

set_option maxRecDepth 100000 in
set_option maxHeartbeats 1000000 in
theorem next_any (x : Int) (f : Nat → Pg) (w : World) :
    Calls Tryz.prog 77 #[.agg (bcA x f)] w fun e w' => ∃ r : Int, e = .returned (.int .i64 r) ∧ NextIs (fun k => (f k).used) 4 r ∧ Below w.heap.size w w' := by
  go_enter Tryz.func77, Tryz.ntmps77
  go_wp2_with (refine wpList_load_mid rfl 52 _ rfl w.heap.size 1 rfl (paA f) 16 (paA_size f) (fun j hj => by simp; rw [bcA_page x f hj, paA_get f hj]) _ Tryz.underlying52 rfl sizePages ?_)
  go_loopw [7] (fun i wr => ∃ (k : Nat), k ≤ 4 ∧ i = .int .i64 k ∧ (∀ t, t < k → (f t).used = true) ∧ Below (w.heap.size + 1) (w.alloc (.cells (bcA x f) 54)) wr) (fun i _ => 4 - (intOf i).toNat)
  case atStart => exact ⟨0, by omega, rfl, fun t ht => absurd ht (Nat.not_lt_zero _), Below.refl _ _⟩
  case round =>
    obtain ⟨k, hk, rfl, h1, hB⟩ := hrel
    have hsz := hB.size
    simp at hsz
    have hout : ∀ W, Below wr.heap.size wr W → Below w.heap.size w W := fun W hW => ((((Below.refl _ w).alloc (Nat.le_refl _) _).trans (hB.mono (by omega))).trans (hW.mono (by omega)))
    by_cases hlt : k < 4
    · have hidx := fun W => run_index_pages (P := Tryz.prog) W 52 51 f k hlt Tryz.underlying52 _ Tryz.underlying51 rfl sizePage
      obtain ⟨p, hp⟩ : ∃ p, f k = p := ⟨_, rfl⟩
      rw [hp] at hidx
      obtain ⟨u, l, s, d⟩ := p
      simp only at hidx
      have hk4 : (k : Int) < 4 := by omega
      have HP := hide hp
      have H1 := hide h1
      clear h1 hp
      cases u with
      | true =>
        go_wp2
        go_roundw
        case rel =>
          refine ⟨k + 1, by omega, by go_num, fun t ht => ?_, hB.alloc (by omega) _⟩
          by_cases e : t = k
          · subst e; rw [unhide HP]
          · exact unhide H1 t (by omega)
        case measure => simp [intOf]; omega
      | false =>
        go_wp2
        go_ret
        exact ⟨_, rfl, .inl ⟨k, hlt, by go_num, by show (f k).used = false; rw [unhide HP], unhide H1⟩, hout _ ((Below.refl _ _).alloc (Nat.le_refl _) _)⟩
    · have hk4 : k = 4 := by omega
      subst hk4
      have H1 := hide h1
      clear h1
      go_wp2
      go_ret
      exact ⟨_, rfl, .inr ⟨rfl, unhide H1⟩, hout _ (Below.refl _ _)⟩

set_option maxRecDepth 100000 in
theorem has_any (A : Array Value) (n : Int) (hA : A[0]? = some (.int .i64 n)) (h0 : 0 ≤ n) (h1 : n ≤ 12) (blk : Int) (w : World) :
    Calls Tryz.prog 43 #[.agg A, .int .i64 blk] w fun e w' => e = .returned (.bool (decide (0 ≤ blk ∧ blk ≤ n - 1))) ∧ Below w.heap.size w w' := by
  go_enter Tryz.func43, Tryz.ntmps43
  go_wp2_with fail
  refine (within_any _ _ _ _).mono ?_
  rintro e w1 ⟨rfl, rfl⟩
  go_wp2
  go_ret
  exact ⟨by simp, (Below.refl _ w).alloc (Nat.le_refl _) _⟩

end Go.Proofs.YtjgcjeaplckbbaaGreat

/- The program's erased cells. -/
namespace Go.Proofs.YtjgcjeaplckbbaaGreat
open Go.RowKit
set_option linter.unusedVariables false
set_option linter.unusedSimpArgs false

/-- One block's cells are written anew. -/
theorem ccA_setBlock (m : CC) (b : Nat) (x : Int) (f : Nat → Pg) (hb : b < 12) :
    ((ccA m).toList.take (1 + b * 17) ++ (bcA x f).toList ++ (ccA m).toList.drop (1 + b * 17 + 17)).toArray = ccA ((m.setWear b x).setPages b f) := by
  have hl : (ccA m).toList.length = 205 := by rw [Array.length_toList, ccA_size]
  have hp : (bcA x f).toList.length = 17 := by rw [Array.length_toList, bcA_size]
  have ht : ((ccA m).toList.take (1 + b * 17)).length = 1 + b * 17 := by rw [List.length_take, hl]; omega
  apply Array.ext_getElem?
  intro i
  rw [List.getElem?_toArray]
  have hF : ∀ i, i < 205 → ¬ (1 + b * 17 ≤ i ∧ i < 1 + b * 17 + 17) → ccF ((m.setWear b x).setPages b f) i = ccF m i := by
    intro i hi hn
    unfold ccF CC.setPages CC.setWear
    by_cases h0 : i = 0
    · simp [h0]
    · simp only [if_neg h0]
      by_cases h1 : (i - 1) % 17 = 0
      · simp only [if_pos h1]
        rw [if_neg (by omega)]
      · simp only [if_neg h1]
        rw [if_neg (by omega)]
  by_cases hi : i < 205
  · rw [ccA_get _ hi]
    by_cases h1 : i < 1 + b * 17
    · rw [List.getElem?_append_left (by rw [List.length_append, ht, hp]; omega), List.getElem?_append_left (by rw [ht]; exact h1), List.getElem?_take_of_lt h1, Array.getElem?_toList, ccA_get _ hi, hF i hi (by omega)]
    · by_cases h2 : i < 1 + b * 17 + 17
      · rw [List.getElem?_append_left (by rw [List.length_append, ht, hp]; omega), List.getElem?_append_right (by rw [ht]; omega), ht, Array.getElem?_toList]
        have := ccA_block ((m.setWear b x).setPages b f) (b := b) (i := i - (1 + b * 17)) hb (by omega)
        rw [show 1 + b * 17 + (i - (1 + b * 17)) = i by omega, ccA_get _ hi] at this
        rw [this]
        simp [CC.setPages, CC.setWear]
      · rw [List.getElem?_append_right (by rw [List.length_append, ht, hp]; omega), List.length_append, ht, hp, List.getElem?_drop, show 1 + b * 17 + 17 + (i - (1 + b * 17 + 17)) = i by omega, Array.getElem?_toList, ccA_get _ hi, hF i hi (by omega)]
  · rw [List.getElem?_eq_none (by simp only [List.length_append, ht, hp, List.length_drop, hl]; omega), Array.getElem?_eq_none (by simp [ccA_size]; omega)]

theorem bcF_one (x : Int) (f : Nat → Pg) (i : Nat) : (bcF x f i).oneCell' = true := by
  unfold bcF
  split
  · rfl
  · exact pgV_one _ _
theorem bcA_one (x : Int) (f : Nat → Pg) : ∀ v ∈ (bcA x f).toList, v.oneCell' = true := by
  intro v hv
  have hv' : v ∈ bcA x f := by simpa using hv
  obtain ⟨i, hi, rfl⟩ := Array.mem_iff_getElem.1 hv'
  simp only [bcA, Array.getElem_ofFn]
  exact bcF_one _ _ _

theorem store_block (P : Program) (W : World) (g : Nat) (t : TypeId) (m : CC) (b : Nat) (x : Int) (f : Nat → Pg) (hb : b < 12) (hg : W.heap[g]? = some (.cells (ccA m) t (0, 0))) :
    (storeCells ⟨g, 1 + b * 17, none⟩ (bcA x f).toList).run P W = .ok () (W.setRow g (ccA ((m.setWear b x).setPages b f))) := by
  have hst := run_storeCells_at P g (1 + b * 17) t (bcA x f).toList 0 (ccA m) W hg (by rw [Array.length_toList, bcA_size, ccA_size]; omega) (bcA_one _ _)
  rw [Nat.add_zero, Array.length_toList, bcA_size, ccA_setBlock m b x f hb] at hst
  exact hst

set_option maxRecDepth 100000 in
set_option maxHeartbeats 1000000 in
theorem erased_out (m : CC) (n : Nat) (hm : m.count = n) (hn : n ≤ 12) (blk : Int) (h : ¬ (0 ≤ blk ∧ blk ≤ (n : Int) - 1)) (w : World) :
    Calls Tryz.prog 88 #[.agg (ccA m), .int .i64 blk] w fun e w' => e = .returned (.tuple #[.agg (ccA m), .int .i64 2]) ∧ Below w.heap.size w w' := by
  have hA0 := ccA_count m
  rw [hm] at hA0
  have hAs := ccA_size m
  have h1 := ccA_one m
  have HSZ := hide (sizeCC m)
  generalize ccA m = A at *
  have HA0 := hide hA0
  have H1 := hide h1
  clear hA0 h1
  go_enter Tryz.func88, Tryz.ntmps88
  go_wp2_with (refine wpList_load_row rfl 57 _ rfl w.heap.size rfl 57 A (0, 0) _ (by rw [Below.heap_alloc _ _ _ (by simp)]; exact Go.Deep.blk_alloc_new _ _) Tryz.underlying57 rfl (unhide HSZ) ?_)
  refine (has_any A (n : Int) (unhide HA0) (by omega) (by omega) blk _).mono ?_
  rintro e w2 ⟨rfl, hB2⟩
  have hd : decide ((0 : Int) ≤ blk ∧ blk ≤ (n : Int) - 1) = false := by simpa using h
  rw [hd]
  have hs2 := hB2.size
  simp at hs2
  have hb1 : w2.heap[w.heap.size]? = some (.cells A 57 (0, 0)) := by
    rw [hB2.block _ (by simp; omega), Below.heap_alloc _ _ _ (by simp)]
    exact Go.Deep.blk_alloc_new _ _
  have hb2 : w2.heap[w.heap.size + 1]? = some (.cells Tryz.zeroCells57 57 (0, 0)) := by
    rw [hB2.block _ (by simp)]
    exact heap_alloc2_new _ _ _
  have hst := store_row Tryz.prog w2 (w.heap.size + 1) 57 Tryz.zeroCells57 A hb2 (by rw [zeroCC_size, hAs]) (unhide H1)
  have hld := run_loadVar_row (P := Tryz.prog) (w2.setRow (w.heap.size + 1) A) (w.heap.size + 1) 57 57 A (0, 0) _ (setRow_heap _ _ _ _ _ _ hb2) Tryz.underlying57 rfl (unhide HSZ)
  have hW2 : Below w.heap.size w w2 := (((Below.refl _ w).alloc (Nat.le_refl _) _).alloc (by simp) _).trans (hB2.mono (by simp; omega))
  have hW3 := Below.setRow hW2 (g := w.heap.size + 1) (by omega) A
  generalize w2.setRow (w.heap.size + 1) A = W3 at hst hld hW3
  have HL := hide hld
  have HB1 := hide hb1
  clear hld hb1 hb2 hB2 hd h hW2
  go_wp2_with (refine wpList_load_row rfl 57 _ rfl w.heap.size rfl 57 A (0, 0) _ (unhide HB1) Tryz.underlying57 rfl (unhide HSZ) ?_)
  exact bodyPost_ret (results_cell_slot 4 57 5 Tryz.results88 _ _ _ _ _ rfl (unhide HL) rfl) rfl ⟨rfl, hW3⟩

theorem bcA_zero (x : Int) : bcA x (fun _ => zeroPg) = #[.int .i64 x, .bool false, .int .i64 0, .int .i64 0, .string ByteArray.empty, .bool false, .int .i64 0, .int .i64 0, .string ByteArray.empty, .bool false, .int .i64 0, .int .i64 0, .string ByteArray.empty, .bool false, .int .i64 0, .int .i64 0, .string ByteArray.empty] := by
  apply Array.ext
  · rw [bcA_size]; rfl
  · intro i h1 h2
    have h3 : i < 17 := by rw [bcA_size] at h1; exact h1
    have h4 : i = 0 ∨ i = 1 ∨ i = 2 ∨ i = 3 ∨ i = 4 ∨ i = 5 ∨ i = 6 ∨ i = 7 ∨ i = 8 ∨ i = 9 ∨ i = 10 ∨ i = 11 ∨ i = 12 ∨ i = 13 ∨ i = 14 ∨ i = 15 ∨ i = 16 := by omega
    rcases h4 with rfl | rfl | rfl | rfl | rfl | rfl | rfl | rfl | rfl | rfl | rfl | rfl | rfl | rfl | rfl | rfl | rfl <;> simp [bcA, bcF, pgV, zeroPg]

theorem wpList_store_agg {P : Program} {ops : Array Oper} {rest : List Oper} {o : Oper} {a : Act} {w : World} {Q : Exit → Act → World → Prop} (hgd : o.guard = none) (ty : TypeId) (x y : Operand) (ho : o.op = .store ty x y)
    (g off : Nat) (B : Array Value) (hx : a.eval x = .pointer (some ⟨g, off, none⟩)) (hy : a.eval y = .agg B) (W' : World) (hr : (storeCells ⟨g, off, none⟩ B.toList).run P w = .ok () W') (hi : (P.info? ty).map (·.size) = some B.size)
    (h : wpList P ops Q rest (a.put o.dst undef) W') : wpList P ops Q (o :: rest) a w := by
  have hsv : (storeVar ty ⟨g, off, none⟩ (.agg B)).run P w = .ok () W' := by
    cases hq : P.info? ty with
    | none => simp [hq] at hi
    | some i =>
      have hs : i.size = B.size := by simpa [hq] using hi
      simp [storeVar, Value.cells, Sem.run_bind, sizeOf, typeInfo, hq, hs, hr]
  refine wpList_plain hgd fun _ hK => ?_
  unfold Oper.wp execOp
  simp only [ho, hx, hy, Instr.storeAt, Instr.sureAddr, Sem.run_bind, Sem.run_pure, Result.andThen_ok, hsv]
  exact hK _ _ h

set_option maxRecDepth 100000 in
set_option maxHeartbeats 1000000 in
theorem erased_in (m : CC) (n : Nat) (hm : m.count = n) (hn : n ≤ 12) (k : Nat) (hk : k < n) (hw0 : 0 ≤ m.wear k) (hw1 : m.wear k ≤ 1000000000) (w : World) :
    Calls Tryz.prog 88 #[.agg (ccA m), .int .i64 (k : Int)] w fun e w' =>
      ((m.wear k = 1000000000 ∧ e = .returned (.tuple #[.agg (ccA m), .int .i64 4])) ∨ (m.wear k ≠ 1000000000 ∧ e = .returned (.tuple #[.agg (ccA ((m.setWear k (m.wear k + 1)).setPages k (fun _ => zeroPg))), .int .i64 0]))) ∧ Below w.heap.size w w' := by
  have hA0 := ccA_count m
  rw [hm] at hA0
  have hAs := ccA_size m
  have h1 := ccA_one m
  have hAw := ccA_wear m (b := k) (by omega)
  have HSZ := hide (sizeCC m)
  have HSB := hide (fun P W g t x f hg => store_block P W g t m k x f (by omega) hg)
  obtain ⟨A, hA⟩ : ∃ A, A = ccA m := ⟨_, rfl⟩
  rw [← hA] at hA0 hAs h1 hAw HSZ HSB ⊢
  have HA0 := hide hA0
  have H1 := hide h1
  have HAW := hide hAw
  clear hA0 h1 hAw hA
  obtain ⟨x, hx⟩ : ∃ x, x = m.wear k := ⟨_, rfl⟩
  rw [← hx] at hw0 hw1 HAW ⊢
  have HX := hide hx
  clear hx
  go_enter Tryz.func88, Tryz.ntmps88
  go_wp2_with (refine wpList_load_row rfl 57 _ rfl w.heap.size rfl 57 A (0, 0) _ (by rw [Below.heap_alloc _ _ _ (by simp)]; exact Go.Deep.blk_alloc_new _ _) Tryz.underlying57 rfl (unhide HSZ) ?_)
  refine (has_any A (n : Int) (unhide HA0) (by omega) (by omega) (k : Int) _).mono ?_
  rintro e w2 ⟨rfl, hB2⟩
  have hd : decide ((0 : Int) ≤ (k : Int) ∧ (k : Int) ≤ (n : Int) - 1) = true := by simp; omega
  rw [hd]
  have hs2 := hB2.size
  simp at hs2
  have hb1 : w2.heap[w.heap.size]? = some (.cells A 57 (0, 0)) := by
    rw [hB2.block _ (by simp; omega), Below.heap_alloc _ _ _ (by simp)]
    exact Go.Deep.blk_alloc_new _ _
  have hb2 : w2.heap[w.heap.size + 1]? = some (.cells Tryz.zeroCells57 57 (0, 0)) := by
    rw [hB2.block _ (by simp)]
    exact heap_alloc2_new _ _ _
  have hcw : w2.cell? ⟨w.heap.size, 1 + k * 17, none⟩ = some (.int .i64 x) := (cell_of_row _ _ _ _ _ _ hb1).trans (unhide HAW)
  have hW2 : Below w.heap.size w w2 := (((Below.refl _ w).alloc (Nat.le_refl _) _).alloc (by simp) _).trans (hB2.mono (by simp; omega))
  have hki : (k : Int) < 12 := by omega
  clear hd hB2
  by_cases hx9 : x = 1000000000
  · have hst := store_row Tryz.prog w2 (w.heap.size + 1) 57 Tryz.zeroCells57 A hb2 (by rw [zeroCC_size, hAs]) (unhide H1)
    have hld := run_loadVar_row (P := Tryz.prog) (w2.setRow (w.heap.size + 1) A) (w.heap.size + 1) 57 57 A (0, 0) _ (setRow_heap _ _ _ _ _ _ hb2) Tryz.underlying57 rfl (unhide HSZ)
    have hW3 := Below.setRow hW2 (g := w.heap.size + 1) (by omega) A
    generalize w2.setRow (w.heap.size + 1) A = W3 at hst hld hW3
    have HL := hide hld
    have HB1 := hide hb1
    clear hld hb1 hb2
    go_wp2_with (refine wpList_load_row rfl 57 _ rfl w.heap.size rfl 57 A (0, 0) _ (unhide HB1) Tryz.underlying57 rfl (unhide HSZ) ?_)
    exact bodyPost_ret (results_cell_slot 4 57 5 Tryz.results88 _ _ _ _ _ rfl (unhide HL) rfl) rfl ⟨.inl ⟨hx9, rfl⟩, hW3⟩
  · have hne : (x == 1000000000) = false := by simpa using hx9
    have hsb := unhide HSB Tryz.prog w2 w.heap.size 57 (x + 1) (fun _ => zeroPg) hb1
    obtain ⟨m2, hm2⟩ : ∃ m2, m2 = (m.setWear k (x + 1)).setPages k (fun _ => zeroPg) := ⟨_, rfl⟩
    rw [← hm2, bcA_zero] at hsb
    have h21 := ccA_one m2
    have hs22 := ccA_size m2
    have HSZ2 := hide (sizeCC m2)
    obtain ⟨A2, hA2⟩ : ∃ A2, A2 = ccA m2 := ⟨_, rfl⟩
    rw [← hA2] at hsb h21 hs22 HSZ2
    have hr3 : (w2.setRow w.heap.size A2).heap[w.heap.size]? = some (.cells A2 57 (0, 0)) := setRow_heap _ _ _ _ _ _ hb1
    have hz3 : (w2.setRow w.heap.size A2).heap[w.heap.size + 1]? = some (.cells Tryz.zeroCells57 57 (0, 0)) := by rw [setRow_other _ _ _ _ (by omega)]; exact hb2
    have hW3 := Below.setRow hW2 (g := w.heap.size) (Nat.le_refl _) A2
    generalize w2.setRow w.heap.size A2 = W3 at hsb hr3 hz3 hW3
    have hst := store_row Tryz.prog W3 (w.heap.size + 1) 57 Tryz.zeroCells57 A2 hz3 (by rw [zeroCC_size, hs22]) h21
    have hld := run_loadVar_row (P := Tryz.prog) (W3.setRow (w.heap.size + 1) A2) (w.heap.size + 1) 57 57 A2 (0, 0) _ (setRow_heap _ _ _ _ _ _ hz3) Tryz.underlying57 rfl (unhide HSZ2)
    have hW4 := Below.setRow hW3 (g := w.heap.size + 1) (by omega) A2
    generalize W3.setRow (w.heap.size + 1) A2 = W4 at hst hld hW4
    have HL := hide hld
    have HR3 := hide hr3
    have HSB2 := hide hsb
    have HE : Hid (A2 = ccA ((m.setWear k (x + 1)).setPages k (fun _ => zeroPg))) := by rw [hA2, hm2]; rfl
    clear hb1 hb2 hz3 hr3 hld hsb h21 hA2 hm2 hW2 hW3
    go_wp2_with (first
      | (refine wpList_store_agg rfl 54 _ _ rfl w.heap.size (1 + k * 17) #[.int .i64 (x + 1), .bool false, .int .i64 0, .int .i64 0, .string ByteArray.empty, .bool false, .int .i64 0, .int .i64 0, .string ByteArray.empty, .bool false, .int .i64 0, .int .i64 0, .string ByteArray.empty, .bool false, .int .i64 0, .int .i64 0, .string ByteArray.empty] rfl rfl W3 (unhide HSB2) sizeBC ?_)
      | (refine wpList_load_row rfl 57 _ rfl w.heap.size rfl 57 A2 (0, 0) _ (unhide HR3) Tryz.underlying57 rfl (unhide HSZ2) ?_))
    exact bodyPost_ret (v := .tuple #[.agg A2, .int .i64 0]) (results_cell_slot 4 57 5 Tryz.results88 _ _ _ _ _ rfl (unhide HL) rfl) rfl ⟨.inr ⟨hx9, by rw [unhide HE]⟩, hW4⟩
end Go.Proofs.YtjgcjeaplckbbaaGreat
