/- The program's arrays of a chip, and whether it is right. -/
import Derived.Test.YtaelbmilicfkhaaDiffer
import Derived.Test.YtaelbmilicfkhaaPut
import Derived.Outline
namespace Go.Proofs.Ytaelbmilicfkhaa
open Go.RowKit
set_option linter.unusedVariables false
set_option linter.unusedSimpArgs false

/-- The call has told a chip's arrays, or that it is not right. -/
def CellsOf (bs : List Bk) (e : Ending) : Prop := ∃ (m : CC) (r : Bool), e = .returned (.tuple #[.agg (ccA m), .bool r]) ∧ (r = true ↔ ChipOk bs) ∧ (r = true → m.count = bs.length ∧ ccBs m bs.length = bs)
theorem CellsOf.no {bs : List Bk} (h : ¬ ChipOk bs) : CellsOf bs (.returned (.tuple #[.agg Try.zeroCells74, .bool false])) :=
  ⟨newCC 0, false, by rw [zeroCC], by simp [h], by simp⟩
theorem CellsOf.yes {bs : List Bk} (h : ChipOk bs) (m : CC) (h1 : m.count = bs.length) (h2 : ccBs m bs.length = bs) : CellsOf bs (.returned (.tuple #[.agg (ccA m), .bool true])) :=
  ⟨m, true, rfl, by simp [h], fun _ => ⟨h1, h2⟩⟩

theorem zeroCC_one : ∀ v ∈ Try.zeroCells74.toList, v.oneCell' = true := by rw [zeroCC]; exact ccA_one _
theorem zeroCC_size : Try.zeroCells74.size = 205 := by rw [zeroCC]; exact ccA_size _
theorem sizeBC : (Try.prog.info? 71).map (·.size) = some 17 := by kernel_rfl

/-- What is known of the blocks ahead of b. -/
def Known (bs : List Bk) (b : Nat) (m : CC) : Prop := ∀ j x, j < b → bs[j]? = some x → x = ⟨m.wear j, ccPs m j⟩ ∧ BcOk (m.wear j) (m.page j)

theorem Known.bs {bs : List Bk} {n : Nat} {m : CC} (h : Known bs n m) (hn : bs.length = n) : ccBs m n = bs := by
  apply List.ext_getElem?
  intro i
  by_cases hi : i < n
  · obtain ⟨x, hx⟩ := getElem?_ex (l := bs) (k := i) (by omega)
    rw [ccBs_at m hi, hx, (h i x hi hx).1]
  · rw [List.getElem?_eq_none (by rw [ccBs_length]; omega), List.getElem?_eq_none (by omega)]

theorem bkOk_iff {x : Bk} (h4 : x.pages.length = 4) : BkOk x ↔ BcOk x.wear (pagesF x.pages) := by
  obtain ⟨v, ps⟩ := x
  constructor
  · intro h
    obtain ⟨_, h1, h2, h3⟩ := BkOk.of_four.1 h
    exact ⟨h1, h2, h3⟩
  · intro h
    exact BkOk.of_four.2 ⟨h4, h.wear, h.page, h.order⟩

theorem Known.step {bs : List Bk} {b : Nat} {m : CC} (h : Known bs b m) {x : Bk} (hx : bs[b]? = some x) (h4 : x.pages.length = 4) (hok : BcOk x.wear (pagesF x.pages)) : Known bs (b + 1) ((m.setWear b x.wear).setPages b (pagesF x.pages)) := by
  intro j y hj hy
  by_cases e : j = b
  · subst e
    rw [hx] at hy
    cases hy
    refine ⟨?_, ?_⟩
    · obtain ⟨v, ps⟩ := x
      simp only [CC.setWear, CC.setPages, ccPs, if_pos]
      rw [pagesF_list h4]
    · simpa only [CC.setWear, CC.setPages, if_pos] using hok
  · have := h j y (by omega) hy
    simpa only [CC.setWear, CC.setPages, ccPs, if_neg e] using this

theorem Known.block {bs : List Bk} {n : Nat} {m : CC} (h : Known bs n m) (hn : bs.length = n) : ∀ x ∈ bs, BkOk x := by
  intro x hx
  obtain ⟨j, hj, rfl⟩ := List.getElem_of_mem hx
  obtain ⟨h1, h2⟩ := h j bs[j] (by omega) (by simp [hj])
  rw [h1]
  refine BkOk.of_four.2 ⟨rfl, h2.wear, fun k hk => ?_, fun k hk => ?_⟩
  · have : pagesF (ccPs m j) k = m.page j k := by simp only [pagesF]; rw [ccPs_at m j hk]; rfl
    rw [this]
    exact h2.page k hk
  · have e1 : pagesF (ccPs m j) k = m.page j k := by simp only [pagesF]; rw [ccPs_at m j (by omega)]; rfl
    have e2 : pagesF (ccPs m j) (k + 1) = m.page j (k + 1) := by simp only [pagesF]; rw [ccPs_at m j hk]; rfl
    rw [e1, e2]
    exact h2.order k hk

theorem usedSeqs_all (m : CC) (n : Nat) : usedSeqs (usedAll m n) = seqs (ccBs m n) := by
  unfold usedSeqs usedAll seqs ccBs
  rw [List.map_flatMap, List.flatMap_map]
  congr 1
  funext b
  rw [ccPs_filter]
  simp [usedB, List.map_map]

theorem Known.ok {bs : List Bk} {n : Nat} {m : CC} (h : Known bs n m) (hn : bs.length = n) (h1 : 4 ≤ n) (h2 : n ≤ 12) : ChipOk bs ↔ (usedSeqs (usedAll m n)).Nodup := by
  rw [usedSeqs_all, h.bs hn]
  exact ⟨fun hc => hc.nodup, fun hc => ⟨by omega, h.block hn, hc⟩⟩

set_option maxRecDepth 100000 in
theorem cellsOf_few (a : Option Addr) (c : Nat) (bs : List Bk) (w : World) (hl : bs.length ≤ 9223372036854775807) (h : ¬ (4 ≤ bs.length ∧ bs.length ≤ 12)) :
    Calls Try.prog 57 #[.agg #[.slice a bs.length c]] w fun e w' => CellsOf bs e ∧ Below w.heap.size w w' := by
  have hst := fun o => store_same Try.prog ((w.alloc o).alloc (.cells Try.zeroCells74 74)) (w.heap.size + 1) 74 Try.zeroCells74 (heap_alloc2_new _ _ _) zeroCC_one
  have hno : ¬ ChipOk bs := fun hc => h hc.count
  go_enter Try.func57, Try.ntmps57
  go_wp2_with fail
  refine (isBlockCount_any _ _).mono ?_
  rintro e w1 ⟨rfl, rfl⟩
  have hd : decide (4 ≤ (bs.length : Int) ∧ (bs.length : Int) ≤ 12) = false := by simp; omega
  rw [hd]
  go_wp2
  have hld := fun o => run_loadVar_row (P := Try.prog) ((w.alloc o).alloc (.cells Try.zeroCells74 74)) (w.heap.size + 1) 74 74 Try.zeroCells74 (0, 0) _ (heap_alloc2_new _ _ _) Try.underlying74 rfl (by rw [zeroCC_size]; exact sizeCC')
  refine bodyPost_ret (v := .tuple #[.agg Try.zeroCells74, .bool false]) (results_cell_slot 2 74 3 Try.results57 _ _ _ _ _ rfl (hld _) rfl) rfl ⟨CellsOf.no hno, ?_⟩
  repeat (first | exact Below.refl _ _ | refine Below.drew ?_ | refine Below.alloc ?_ (by simp <;> omega) _ | refine Below.setCell ?_ (by simp <;> omega) _)

set_option maxRecDepth 100000 in
set_option maxHeartbeats 2000000 in
theorem cellsOf_many (a : Option Addr) (c : Nat) (bs : List Bk) (w : World) (hbs : BlocksAt w a bs) (hpl : ∀ b ∈ bs, b.pages.length ≤ 9223372036854775807) (n : Nat) (hn : bs.length = n) (h1 : 4 ≤ n) (h2 : n ≤ 12) :
    Calls Try.prog 57 #[.agg #[.slice a n c]] w fun e w' => CellsOf bs e ∧ Below w.heap.size w w' := by
  have hst := fun o o2 => storeNew Try.prog ((w.alloc o).alloc o2) (w.heap.size + 1 + 1) (by simp) Try.zeroCells74 74 (Try.zeroCells74.toList.set 0 (.int .i64 n)) (by simp) (by rw [setCC]; exact ccA_one _)
  rw [setCC] at hst
  simp only [Array.toArray_toList] at hst
  rw [← setCC] at hst
  go_enter Try.func57, Try.ntmps57
  go_wp2_with fail
  refine (isBlockCount_any _ _).mono ?_
  rintro e w1 ⟨rfl, rfl⟩
  have hd : decide (4 ≤ (n : Int) ∧ (n : Int) ≤ 12) = true := by simp; omega
  rw [hd]
  go_wp2
  clear hst hd
  go_loopw [20] (fun i wr => ∃ (b : Nat) (m : CC), b ≤ n ∧ i = .int .i64 b ∧ wr.heap[w.heap.size + 1 + 1]? = some (.cells (ccA m) 74 (0, 0)) ∧ wr.heap[w.heap.size + 1]? = some (.cells Try.zeroCells74 74 (0, 0)) ∧ m.count = n ∧ Known bs b m ∧ Below w.heap.size w wr) (fun i _ => n - (intOf i).toNat)
  case atStart =>
    refine ⟨0, newCC n, Nat.zero_le _, rfl, ?_, ?_, rfl, fun j x hj => absurd hj (Nat.not_lt_zero _), ?_⟩
    · simpa using Go.Deep.blk_alloc_new ((w.alloc (.cells #[.slice a n c] 27)).alloc (.cells Try.zeroCells74 74)) (.cells (ccA (newCC n)) 74)
    · rw [Below.heap_alloc _ _ _ (by simp)]
      exact heap_alloc2_new _ _ _
    · exact (((Below.refl _ w).alloc (Nat.le_refl _) _).alloc (by simp) _).alloc (by simp; omega) _
  case round =>
    obtain ⟨b, m, hb, rfl, hrow, hzero, hcount, hkn, hB⟩ := hrel
    have hlts := (Array.getElem?_eq_some_iff.1 hrow).1
    by_cases hlt : b < n
    · obtain ⟨x, hx⟩ := getElem?_ex (l := bs) (k := b) (by omega)
      obtain ⟨g, o, pa, pc, rfl, hcw0, hcp0, hpa⟩ := hbs b x hx
      have hgl : g < w.heap.size := World.block_lt_of_cell? _ _ hcw0
      have hcw := (hB.cell (p := ⟨g, o + b * 2, none⟩) hgl).trans hcw0
      have hcp := (hB.cell (p := ⟨g, o + b * 2 + 1, none⟩) hgl).trans hcp0
      clear hcw0 hcp0
      have hxl := hpl x (List.mem_of_getElem? hx)
      by_cases h4 : x.pages.length = 4
      · rw [h4] at hcp
        have hb12 : b < 12 := by omega
        have hbi : (b : Int) < 12 := by omega
        obtain ⟨bx, hbx⟩ : ∃ bx : Obj, bx = .cells #[.int .i64 x.wear, .slice pa 4 pc] 85 := ⟨_, rfl⟩
        have hc0 : wr.cell? ⟨w.heap.size + 1 + 1, 1 + b * 17, none⟩ = some (.int .i64 (m.wear b)) := (cell_of_row _ _ _ _ _ _ hrow).trans (ccA_wear m hb12)
        have hf0 := frozen_of_row _ _ (1 + b * 17) _ _ hrow
        obtain ⟨W1, hW1⟩ : ∃ W1, W1 = (wr.setCell ⟨w.heap.size + 1 + 1, 1 + b * 17, none⟩ (.int .i64 x.wear)).alloc bx := ⟨_, rfl⟩
        have hrow2 : W1.drew.heap[w.heap.size + 1 + 1]? = some (.cells (ccA (m.setWear b x.wear)) 74 (0, 0)) := by
          rw [hW1, ← ccA_setWear m b x.wear hb12]
          exact (Below.heap_alloc _ _ _ (by simpa [World.setCell] using hlts)).trans (blk_setCell_same _ _ hrow)
        have hzero2 : W1.drew.heap[w.heap.size + 1]? = some (.cells Try.zeroCells74 74 (0, 0)) := by
          rw [hW1]
          exact ((Below.heap_alloc _ _ _ (by simp [World.setCell]; omega)).trans (Below.heap_setCell _ _ _ _ (by simp))).trans hzero
        have hB1 : Below w.heap.size w W1.drew := by
          rw [hW1]
          exact ((hB.setCell (by simp; omega) _).alloc (by simpa [World.setCell] using hB.size) _).drew
        have hcpy := copy_mid Try.prog W1.drew 83 83 3 68 (w.heap.size + 1 + 1) 74 (m.setWear b x.wear) b hb12 pa pc x.pages h4 (hpa.below hB1 (Nat.le_refl _)) Try.underlying83 sizePage hrow2
        obtain ⟨m2, hm2⟩ : ∃ m2, m2 = (m.setWear b x.wear).setPages b (pagesF x.pages) := ⟨_, rfl⟩
        rw [← hm2] at hcpy
        obtain ⟨W2, hW2⟩ : ∃ W2, W2 = W1.drew.setRow (w.heap.size + 1 + 1) (ccA m2) := ⟨_, rfl⟩
        rw [← hW2] at hcpy
        have hrow3 : W2.heap[w.heap.size + 1 + 1]? = some (.cells (ccA m2) 74 (0, 0)) := by rw [hW2]; exact setRow_heap _ _ _ _ _ _ hrow2
        have hzero3 : W2.heap[w.heap.size + 1]? = some (.cells Try.zeroCells74 74 (0, 0)) := by rw [hW2, setRow_other _ _ _ _ (by omega)]; exact hzero2
        have hB2 : Below w.heap.size w W2 := by rw [hW2]; exact Below.setRow hB1 (by omega) _
        have hlts2 := (Array.getElem?_eq_some_iff.1 hrow3).1
        have hblk : ∀ j, j < 17 → W2.cell? ⟨w.heap.size + 1 + 1, 1 + b * 17 + j, none⟩ = (bcA x.wear (pagesF x.pages))[j]? := fun j hj => by
          rw [cell_of_row _ _ _ _ _ _ hrow3, ccA_block m2 hb12 hj, hm2]
          simp [CC.setWear, CC.setPages]
        rw [hW1, hbx] at hcpy
        have HK := hide hkn
        have HB := hide hblk
        have HR := hide (And.intro hrow3 hzero3)
        clear hpa hkn hbs hrow2 hrow hzero hzero2 hblk hrow3 hzero3 hW2 hW1 hbx hB1
        go_wp2
        go_region
        clear hcpy
        go_wp2_with (refine wpList_load_mid rfl 71 _ rfl (w.heap.size + 1 + 1) (1 + b * 17) rfl (bcA x.wear (pagesF x.pages)) 17 (bcA_size _ _) (unhide HB) _ Try.underlying71 rfl sizeBC ?_)
        refine (right_any _ _ _).mono ?_
        rintro e w3 ⟨⟨r, rfl, hr⟩, hb3⟩
        have hzero4 : w3.heap[w.heap.size + 1]? = some (.cells Try.zeroCells74 74 (0, 0)) := (hb3.block _ (by omega)).trans (unhide HR).2
        have hB4 : Below w.heap.size w w3 := hB2.trans (hb3.mono hB2.size)
        cases r with
        | true =>
          have hok := hr.1 rfl
          have hkn2 : Known bs (b + 1) m2 := by rw [hm2]; exact (unhide HK).step hx h4 hok
          have hrow4 : w3.heap[w.heap.size + 1 + 1]? = some (.cells (ccA m2) 74 (0, 0)) := (hb3.block _ (by omega)).trans (unhide HR).1
          have hct : m2.count = n := by rw [hm2]; exact hcount
          have HH := hide (And.intro hkn2 (And.intro hrow4 (And.intro hct (And.intro hzero4 hB4))))
          clear hkn2 hrow4 hct hzero4 hB4 hr hok hm2
          go_wp2
          go_roundw
          case rel =>
            obtain ⟨q1, q2, q3, q4, q5⟩ := unhide HH
            exact ⟨b + 1, m2, by omega, by go_num, q2, q4, q3, q1, q5⟩
          case measure => simp [intOf]; omega
        | false =>
          have hstF := store_same Try.prog w3 (w.heap.size + 1) 74 Try.zeroCells74 hzero4 zeroCC_one
          have hldF := run_loadVar_row (P := Try.prog) w3 (w.heap.size + 1) 74 74 Try.zeroCells74 (0, 0) _ hzero4 Try.underlying74 rfl (by rw [zeroCC_size]; exact sizeCC')
          have HL := hide hldF
          have hno : ¬ ChipOk bs := fun hc => by
            have := hr.2 ((bkOk_iff h4).1 (hc.block x (List.mem_of_getElem? hx)))
            cases this
          have HN := hide hno
          clear hldF hno hzero4 hr hm2
          go_wp2
          exact bodyPost_ret (results_cell_slot 2 74 3 Try.results57 _ _ _ _ _ rfl (unhide HL) rfl) rfl ⟨CellsOf.no (unhide HN), hB4⟩
      · have hstF := fun o' => store_same Try.prog (wr.alloc o') (w.heap.size + 1) 74 Try.zeroCells74 ((Below.heap_alloc wr o' (w.heap.size + 1) (by omega)).trans hzero) zeroCC_one
        have hldF := fun o' => run_loadVar_row (P := Try.prog) (wr.alloc o') (w.heap.size + 1) 74 74 Try.zeroCells74 (0, 0) _ ((Below.heap_alloc wr o' (w.heap.size + 1) (by omega)).trans hzero) Try.underlying74 rfl (by rw [zeroCC_size]; exact sizeCC')
        have HL := hide hldF
        have HP := hide hpa
        have HK := hide hkn
        have hno : ¬ ChipOk bs := fun hc => h4 (hc.block x (List.mem_of_getElem? hx)).four
        have HN := hide hno
        clear hpa hkn hbs hldF hno
        go_wp2
        exact bodyPost_ret (results_cell_slot 2 74 3 Try.results57 _ _ _ _ _ rfl (unhide HL _) rfl) rfl ⟨CellsOf.no (unhide HN), hB.alloc hB.size _⟩
    · have hbn : b = n := by omega
      subst hbn
      have HK := hide hkn
      clear hkn hbs
      have hokk := (unhide HK).ok hn h1 h2
      have hbss := (unhide HK).bs hn
      clear HK
      have HO := hide hokk
      have HS := hide hbss
      clear hokk hbss
      go_wp2_with fail
      refine wp_load_row 74 _ rfl (w.heap.size + 1 + 1) rfl 74 (ccA m) (0, 0) _ hrow Try.underlying74 rfl (sizeCC _) ?_
      go_wp2_with fail
      refine (seqsDiffer_any m b hcount h2 _).mono ?_
      rintro e w3 ⟨⟨r, rfl, hr⟩, hb3⟩
      have hzero4 : w3.heap[w.heap.size + 1]? = some (.cells Try.zeroCells74 74 (0, 0)) := (hb3.block _ (by omega)).trans hzero
      have hrow4 : w3.heap[w.heap.size + 1 + 1]? = some (.cells (ccA m) 74 (0, 0)) := (hb3.block _ (by omega)).trans hrow
      have hB4 : Below w.heap.size w w3 := hB.trans (hb3.mono hB.size)
      clear hrow hzero hB
      cases r with
      | true =>
        have hstT := store_row Try.prog w3 (w.heap.size + 1) 74 Try.zeroCells74 (ccA m) hzero4 (by rw [zeroCC_size, ccA_size]) (ccA_one m)
        have hldT := run_loadVar_row (P := Try.prog) (w3.setRow (w.heap.size + 1) (ccA m)) (w.heap.size + 1) 74 74 (ccA m) (0, 0) _ (setRow_heap _ _ _ _ _ _ hzero4) Try.underlying74 rfl (sizeCC _)
        have hB5 : Below w.heap.size w (w3.setRow (w.heap.size + 1) (ccA m)) := Below.setRow hB4 (by omega) _
        obtain ⟨W5, hW5⟩ : ∃ W5, W5 = w3.setRow (w.heap.size + 1) (ccA m) := ⟨_, rfl⟩
        rw [← hW5] at hstT hldT hB5
        clear hW5
        have HL := hide hldT
        have HR := hide hrow4
        have hyes : ChipOk bs := (unhide HO).2 (hr.1 rfl)
        have HY := hide hyes
        clear hldT hr hzero4 hrow4 hB4 hyes
        have HSZ := hide (sizeCC m)
        have hfin : ∀ A, A = ccA m → CellsOf bs (.returned (.tuple #[.agg A, .bool true])) := fun A hA => by
          subst hA
          have hS := unhide HS
          rw [← hn] at hcount hS
          exact CellsOf.yes (unhide HY) m hcount hS
        obtain ⟨A, hA⟩ : ∃ A, A = ccA m := ⟨_, rfl⟩
        have hF := hfin A hA
        have hAs : A.size = 205 := by rw [hA]; exact ccA_size m
        rw [← hA] at hstT HL HR HSZ ⊢
        clear hfin hA
        go_wp2_with fail
        refine wp_load_row 74 _ rfl (w.heap.size + 1 + 1) rfl 74 A (0, 0) _ (unhide HR) Try.underlying74 rfl (unhide HSZ) ?_
        go_wp2
        exact bodyPost_ret (results_cell_slot 2 74 3 Try.results57 _ _ _ _ _ rfl (unhide HL) rfl) rfl ⟨hF, hB5⟩
      | false =>
        have hstF := store_same Try.prog w3 (w.heap.size + 1) 74 Try.zeroCells74 hzero4 zeroCC_one
        have hldF := run_loadVar_row (P := Try.prog) w3 (w.heap.size + 1) 74 74 Try.zeroCells74 (0, 0) _ hzero4 Try.underlying74 rfl (by rw [zeroCC_size]; exact sizeCC')
        have HL := hide hldF
        have hno : ¬ ChipOk bs := fun hc => by
          have := hr.2 ((unhide HO).1 hc)
          cases this
        have HN := hide hno
        clear hldF hno hzero4 hr hrow4
        generalize ccA m = A
        go_wp2
        exact bodyPost_ret (results_cell_slot 2 74 3 Try.results57 _ _ _ _ _ rfl (unhide HL) rfl) rfl ⟨CellsOf.no (unhide HN), hB4⟩

theorem cellsOf_any (a : Option Addr) (c : Nat) (bs : List Bk) (w : World) (hbs : BlocksAt w a bs) (hl : Lens 9223372036854775807 bs) :
    Calls Try.prog 57 #[.agg #[.slice a bs.length c]] w fun e w' => CellsOf bs e ∧ Below w.heap.size w w' := by
  by_cases h : 4 ≤ bs.length ∧ bs.length ≤ 12
  · exact cellsOf_many a c bs w hbs hl.2 _ rfl h.1 h.2
  · exact cellsOf_few a c bs w hl.1 h

theorem store_cc (m : CC) (W : World) : (storeCells ⟨W.heap.size, 0, none⟩ (ccA m).toList).run Try.prog (W.alloc (.cells Try.zeroCells74 74)) = .ok () (W.alloc (.cells (ccA m) 74)) := by
  have := storeNew Try.prog W W.heap.size rfl Try.zeroCells74 74 (ccA m).toList (by rw [Array.length_toList, ccA_size, zeroCC_size]) (ccA_one m)
  simpa only [Array.toArray_toList] using this

set_option maxRecDepth 100000 in
theorem implChipOk_any (a : Option Addr) (c : Nat) (bs : List Bk) (w : World) (hbs : BlocksAt w a bs) (hl : Lens 9223372036854775807 bs) :
    Calls Try.prog 22 #[.agg #[.slice a bs.length c]] w fun e w' => RetIff (ChipOk bs) e ∧ Below w.heap.size w w' := by
  go_enter Try.func22, Try.ntmps22
  go_wp2_with fail
  have hb0 : ∀ o, Below w.heap.size w (w.alloc o) := fun o => (Below.refl _ w).alloc (Nat.le_refl _) _
  refine (cellsOf_any a c bs _ (hbs.below (hb0 _) (Nat.le_refl _)) hl).mono ?_
  rintro e w1 ⟨⟨m, r, rfl, hr, _⟩, hB⟩
  have HR := hide hr
  clear hr
  have hsc := store_cc m w1
  have hAs := ccA_size m
  generalize ccA m = A at hsc hAs
  go_wp2
  go_ret
  exact ⟨⟨r, rfl, unhide HR⟩, ((hb0 _).trans (hB.mono (by simp))).alloc (by have := hB.size; simp at this; omega) _⟩
end Go.Proofs.Ytaelbmilicfkhaa
