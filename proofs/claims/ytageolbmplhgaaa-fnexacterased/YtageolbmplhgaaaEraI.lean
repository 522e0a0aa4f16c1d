/- The program's erased cells. -/
import Derived.Test.YtageolbmplhgaaaNextI
import Derived.WalkKit
import Derived.Outline
namespace Go.Proofs.Ytageolbmplhgaaa
open Go.RowKit
set_option linter.unusedVariables false
set_option linter.unusedSimpArgs false

/-- One block's cells are written anew. -/
theorem ccA_setBlock (m : CC) (b : Nat) (x : Int) (f : Nat → Pg) (hb : b < 12) :
    ((ccA m).toList.take (1 + b * 17) ++ (bcA x f).toList ++ (ccA m).toList.drop (1 + b * 17 + 17)).toArray = ccA ((m.setWear b x).setPages b f) := by
  have hl : (ccA m).toList.length = 205 := by rw [Array.length_toList, ccA_size]
  have hp : (bcA x f).toList.length = 17 := by rw [Array.length_toList, bcA_size]
  have ht : ((ccA m).toList.take (1 + b * 17)).length = 1 + b * 17 := by rw [List.length_take, hl]; omega
  apply Array.ext_getElem?
  intro i
  rw [List.getElem?_toArray]
  have hF : ∀ i, i < 205 → ¬ (1 + b * 17 ≤ i ∧ i < 1 + b * 17 + 17) → ccF ((m.setWear b x).setPages b f) i = ccF m i := by
    intro i hi hn
    unfold ccF CC.setPages CC.setWear
    by_cases h0 : i = 0
    · simp [h0]
    · simp only [if_neg h0]
      by_cases h1 : (i - 1) % 17 = 0
      · simp only [if_pos h1]
        rw [if_neg (by omega)]
      · simp only [if_neg h1]
        rw [if_neg (by omega)]
  by_cases hi : i < 205
  · rw [ccA_get _ hi]
    by_cases h1 : i < 1 + b * 17
    · rw [List.getElem?_append_left (by rw [List.length_append, ht, hp]; omega), List.getElem?_append_left (by rw [ht]; exact h1), List.getElem?_take_of_lt h1, Array.getElem?_toList, ccA_get _ hi, hF i hi (by omega)]
    · by_cases h2 : i < 1 + b * 17 + 17
      · rw [List.getElem?_append_left (by rw [List.length_append, ht, hp]; omega), List.getElem?_append_right (by rw [ht]; omega), ht, Array.getElem?_toList]
        have := ccA_block ((m.setWear b x).setPages b f) (b := b) (i := i - (1 + b * 17)) hb (by omega)
        rw [show 1 + b * 17 + (i - (1 + b * 17)) = i by omega, ccA_get _ hi] at this
        rw [this]
        simp [CC.setPages, CC.setWear]
      · rw [List.getElem?_append_right (by rw [List.length_append, ht, hp]; omega), List.length_append, ht, hp, List.getElem?_drop, show 1 + b * 17 + 17 + (i - (1 + b * 17 + 17)) = i by omega, Array.getElem?_toList, ccA_get _ hi, hF i hi (by omega)]
  · rw [List.getElem?_eq_none (by simp only [List.length_append, ht, hp, List.length_drop, hl]; omega), Array.getElem?_eq_none (by simp [ccA_size]; omega)]

theorem bcF_one (x : Int) (f : Nat → Pg) (i : Nat) : (bcF x f i).oneCell' = true := by
  unfold bcF
  split
  · rfl
  · exact pgV_one _ _
theorem bcA_one (x : Int) (f : Nat → Pg) : ∀ v ∈ (bcA x f).toList, v.oneCell' = true := by
  intro v hv
  have hv' : v ∈ bcA x f := by simpa using hv
  obtain ⟨i, hi, rfl⟩ := Array.mem_iff_getElem.1 hv'
  simp only [bcA, Array.getElem_ofFn]
  exact bcF_one _ _ _

theorem store_block (P : Program) (W : World) (g : Nat) (t : TypeId) (m : CC) (b : Nat) (x : Int) (f : Nat → Pg) (hb : b < 12) (hg : W.heap[g]? = some (.cells (ccA m) t (0, 0))) :
    (storeCells ⟨g, 1 + b * 17, none⟩ (bcA x f).toList).run P W = .ok () (W.setRow g (ccA ((m.setWear b x).setPages b f))) := by
  have hst := run_storeCells_at P g (1 + b * 17) t (bcA x f).toList 0 (ccA m) W hg (by rw [Array.length_toList, bcA_size, ccA_size]; omega) (bcA_one _ _)
  rw [Nat.add_zero, Array.length_toList, bcA_size, ccA_setBlock m b x f hb] at hst
  exact hst

set_option maxRecDepth 100000 in
set_option maxHeartbeats 1000000 in
theorem erased_out (m : CC) (n : Nat) (hm : m.count = n) (hn : n ≤ 12) (blk : Int) (h : ¬ (0 ≤ blk ∧ blk ≤ (n : Int) - 1)) (w : World) :
    Calls Try.prog 70 #[.agg (ccA m), .int .i64 blk] w fun e w' => e = .returned (.tuple #[.agg (ccA m), .int .i64 2]) ∧ Below w.heap.size w w' := by
  have hA0 := ccA_count m
  rw [hm] at hA0
  have hAs := ccA_size m
  have h1 := ccA_one m
  have HSZ := hide (sizeCC m)
  generalize ccA m = A at *
  have HA0 := hide hA0
  have H1 := hide h1
  clear hA0 h1
  go_enter Try.func70, Try.ntmps70
  go_wp2_with (refine wpList_load_row rfl 84 _ rfl w.heap.size rfl 84 A (0, 0) _ (by rw [Below.heap_alloc _ _ _ (by simp)]; exact Go.Deep.blk_alloc_new _ _) Try.underlying84 rfl (unhide HSZ) ?_)
  refine (has_any A (n : Int) (unhide HA0) (by omega) (by omega) blk _).mono ?_
  rintro e w2 ⟨rfl, hB2⟩
  have hd : decide ((0 : Int) ≤ blk ∧ blk ≤ (n : Int) - 1) = false := by simpa using h
  rw [hd]
  have hs2 := hB2.size
  simp at hs2
  have hb1 : w2.heap[w.heap.size]? = some (.cells A 84 (0, 0)) := by
    rw [hB2.block _ (by simp; omega), Below.heap_alloc _ _ _ (by simp)]
    exact Go.Deep.blk_alloc_new _ _
  have hb2 : w2.heap[w.heap.size + 1]? = some (.cells Try.zeroCells84 84 (0, 0)) := by
    rw [hB2.block _ (by simp)]
    exact heap_alloc2_new _ _ _
  have hst := store_row Try.prog w2 (w.heap.size + 1) 84 Try.zeroCells84 A hb2 (by rw [zeroCC_size, hAs]) (unhide H1)
  have hld := run_loadVar_row (P := Try.prog) (w2.setRow (w.heap.size + 1) A) (w.heap.size + 1) 84 84 A (0, 0) _ (setRow_heap _ _ _ _ _ _ hb2) Try.underlying84 rfl (unhide HSZ)
  have hW2 : Below w.heap.size w w2 := (((Below.refl _ w).alloc (Nat.le_refl _) _).alloc (by simp) _).trans (hB2.mono (by simp; omega))
  have hW3 := Below.setRow hW2 (g := w.heap.size + 1) (by omega) A
  generalize w2.setRow (w.heap.size + 1) A = W3 at hst hld hW3
  have HL := hide hld
  have HB1 := hide hb1
  clear hld hb1 hb2 hB2 hd h hW2
  go_wp2_with (refine wpList_load_row rfl 84 _ rfl w.heap.size rfl 84 A (0, 0) _ (unhide HB1) Try.underlying84 rfl (unhide HSZ) ?_)
  exact bodyPost_ret (results_cell_slot 4 84 5 Try.results70 _ _ _ _ _ rfl (unhide HL) rfl) rfl ⟨rfl, hW3⟩

theorem bcA_zero (x : Int) : bcA x (fun _ => zeroPg) = #[.int .i64 x, .bool false, .int .i64 0, .int .i64 0, .string ByteArray.empty, .bool false, .int .i64 0, .int .i64 0, .string ByteArray.empty, .bool false, .int .i64 0, .int .i64 0, .string ByteArray.empty, .bool false, .int .i64 0, .int .i64 0, .string ByteArray.empty] := by
  apply Array.ext
  · rw [bcA_size]; rfl
  · intro i h1 h2
    have h3 : i < 17 := by rw [bcA_size] at h1; exact h1
    have h4 : i = 0 ∨ i = 1 ∨ i = 2 ∨ i = 3 ∨ i = 4 ∨ i = 5 ∨ i = 6 ∨ i = 7 ∨ i = 8 ∨ i = 9 ∨ i = 10 ∨ i = 11 ∨ i = 12 ∨ i = 13 ∨ i = 14 ∨ i = 15 ∨ i = 16 := by omega
    rcases h4 with rfl | rfl | rfl | rfl | rfl | rfl | rfl | rfl | rfl | rfl | rfl | rfl | rfl | rfl | rfl | rfl | rfl <;> simp [bcA, bcF, pgV, zeroPg]

theorem wpList_store_agg {P : Program} {ops : Array Oper} {rest : List Oper} {o : Oper} {a : Act} {w : World} {Q : Exit → Act → World → Prop} (hgd : o.guard = none) (ty : TypeId) (x y : Operand) (ho : o.op = .store ty x y)
    (g off : Nat) (B : Array Value) (hx : a.eval x = .pointer (some ⟨g, off, none⟩)) (hy : a.eval y = .agg B) (W' : World) (hr : (storeCells ⟨g, off, none⟩ B.toList).run P w = .ok () W') (hi : (P.info? ty).map (·.size) = some B.size)
    (h : wpList P ops Q rest (a.put o.dst undef) W') : wpList P ops Q (o :: rest) a w := by
  have hsv : (storeVar ty ⟨g, off, none⟩ (.agg B)).run P w = .ok () W' := by
    cases hq : P.info? ty with
    | none => simp [hq] at hi
    | some i =>
      have hs : i.size = B.size := by simpa [hq] using hi
      simp [storeVar, Value.cells, Sem.run_bind, sizeOf, typeInfo, hq, hs, hr]
  refine wpList_plain hgd fun _ hK => ?_
  unfold Oper.wp execOp
  simp only [ho, hx, hy, Instr.storeAt, Instr.sureAddr, Sem.run_bind, Sem.run_pure, Result.andThen_ok, hsv]
  exact hK _ _ h

set_option maxRecDepth 100000 in
set_option maxHeartbeats 1000000 in
theorem erased_in (m : CC) (n : Nat) (hm : m.count = n) (hn : n ≤ 12) (k : Nat) (hk : k < n) (hw0 : 0 ≤ m.wear k) (hw1 : m.wear k ≤ 1000000000) (w : World) :
    Calls Try.prog 70 #[.agg (ccA m), .int .i64 (k : Int)] w fun e w' =>
      ((m.wear k = 1000000000 ∧ e = .returned (.tuple #[.agg (ccA m), .int .i64 4])) ∨ (m.wear k ≠ 1000000000 ∧ e = .returned (.tuple #[.agg (ccA ((m.setWear k (m.wear k + 1)).setPages k (fun _ => zeroPg))), .int .i64 0]))) ∧ Below w.heap.size w w' := by
  have hA0 := ccA_count m
  rw [hm] at hA0
  have hAs := ccA_size m
  have h1 := ccA_one m
  have hAw := ccA_wear m (b := k) (by omega)
  have HSZ := hide (sizeCC m)
  have HSB := hide (fun P W g t x f hg => store_block P W g t m k x f (by omega) hg)
  obtain ⟨A, hA⟩ : ∃ A, A = ccA m := ⟨_, rfl⟩
  rw [← hA] at hA0 hAs h1 hAw HSZ HSB ⊢
  have HA0 := hide hA0
  have H1 := hide h1
  have HAW := hide hAw
  clear hA0 h1 hAw hA
  obtain ⟨x, hx⟩ : ∃ x, x = m.wear k := ⟨_, rfl⟩
  rw [← hx] at hw0 hw1 HAW ⊢
  have HX := hide hx
  clear hx
  go_enter Try.func70, Try.ntmps70
  go_wp2_with (refine wpList_load_row rfl 84 _ rfl w.heap.size rfl 84 A (0, 0) _ (by rw [Below.heap_alloc _ _ _ (by simp)]; exact Go.Deep.blk_alloc_new _ _) Try.underlying84 rfl (unhide HSZ) ?_)
  refine (has_any A (n : Int) (unhide HA0) (by omega) (by omega) (k : Int) _).mono ?_
  rintro e w2 ⟨rfl, hB2⟩
  have hd : decide ((0 : Int) ≤ (k : Int) ∧ (k : Int) ≤ (n : Int) - 1) = true := by simp; omega
  rw [hd]
  have hs2 := hB2.size
  simp at hs2
  have hb1 : w2.heap[w.heap.size]? = some (.cells A 84 (0, 0)) := by
    rw [hB2.block _ (by simp; omega), Below.heap_alloc _ _ _ (by simp)]
    exact Go.Deep.blk_alloc_new _ _
  have hb2 : w2.heap[w.heap.size + 1]? = some (.cells Try.zeroCells84 84 (0, 0)) := by
    rw [hB2.block _ (by simp)]
    exact heap_alloc2_new _ _ _
  have hcw : w2.cell? ⟨w.heap.size, 1 + k * 17, none⟩ = some (.int .i64 x) := (cell_of_row _ _ _ _ _ _ hb1).trans (unhide HAW)
  have hW2 : Below w.heap.size w w2 := (((Below.refl _ w).alloc (Nat.le_refl _) _).alloc (by simp) _).trans (hB2.mono (by simp; omega))
  have hki : (k : Int) < 12 := by omega
  clear hd hB2
  by_cases hx9 : x = 1000000000
  · have hst := store_row Try.prog w2 (w.heap.size + 1) 84 Try.zeroCells84 A hb2 (by rw [zeroCC_size, hAs]) (unhide H1)
    have hld := run_loadVar_row (P := Try.prog) (w2.setRow (w.heap.size + 1) A) (w.heap.size + 1) 84 84 A (0, 0) _ (setRow_heap _ _ _ _ _ _ hb2) Try.underlying84 rfl (unhide HSZ)
    have hW3 := Below.setRow hW2 (g := w.heap.size + 1) (by omega) A
    generalize w2.setRow (w.heap.size + 1) A = W3 at hst hld hW3
    have HL := hide hld
    have HB1 := hide hb1
    clear hld hb1 hb2
    go_wp2_with (refine wpList_load_row rfl 84 _ rfl w.heap.size rfl 84 A (0, 0) _ (unhide HB1) Try.underlying84 rfl (unhide HSZ) ?_)
    exact bodyPost_ret (results_cell_slot 4 84 5 Try.results70 _ _ _ _ _ rfl (unhide HL) rfl) rfl ⟨.inl ⟨hx9, rfl⟩, hW3⟩
  · have hne : (x == 1000000000) = false := by simpa using hx9
    have hsb := unhide HSB Try.prog w2 w.heap.size 84 (x + 1) (fun _ => zeroPg) hb1
    obtain ⟨m2, hm2⟩ : ∃ m2, m2 = (m.setWear k (x + 1)).setPages k (fun _ => zeroPg) := ⟨_, rfl⟩
    rw [← hm2, bcA_zero] at hsb
    have h21 := ccA_one m2
    have hs22 := ccA_size m2
    have HSZ2 := hide (sizeCC m2)
    obtain ⟨A2, hA2⟩ : ∃ A2, A2 = ccA m2 := ⟨_, rfl⟩
    rw [← hA2] at hsb h21 hs22 HSZ2
    have hr3 : (w2.setRow w.heap.size A2).heap[w.heap.size]? = some (.cells A2 84 (0, 0)) := setRow_heap _ _ _ _ _ _ hb1
    have hz3 : (w2.setRow w.heap.size A2).heap[w.heap.size + 1]? = some (.cells Try.zeroCells84 84 (0, 0)) := by rw [setRow_other _ _ _ _ (by omega)]; exact hb2
    have hW3 := Below.setRow hW2 (g := w.heap.size) (Nat.le_refl _) A2
    generalize w2.setRow w.heap.size A2 = W3 at hsb hr3 hz3 hW3
    have hst := store_row Try.prog W3 (w.heap.size + 1) 84 Try.zeroCells84 A2 hz3 (by rw [zeroCC_size, hs22]) h21
    have hld := run_loadVar_row (P := Try.prog) (W3.setRow (w.heap.size + 1) A2) (w.heap.size + 1) 84 84 A2 (0, 0) _ (setRow_heap _ _ _ _ _ _ hz3) Try.underlying84 rfl (unhide HSZ2)
    have hW4 := Below.setRow hW3 (g := w.heap.size + 1) (by omega) A2
    generalize W3.setRow (w.heap.size + 1) A2 = W4 at hst hld hW4
    have HL := hide hld
    have HR3 := hide hr3
    have HSB2 := hide hsb
    have HE : Hid (A2 = ccA ((m.setWear k (x + 1)).setPages k (fun _ => zeroPg))) := by rw [hA2, hm2]; rfl
    clear hb1 hb2 hz3 hr3 hld hsb h21 hA2 hm2 hW2 hW3
    go_wp2_with (first
      | (refine wpList_store_agg rfl 81 _ _ rfl w.heap.size (1 + k * 17) #[.int .i64 (x + 1), .bool false, .int .i64 0, .int .i64 0, .string ByteArray.empty, .bool false, .int .i64 0, .int .i64 0, .string ByteArray.empty, .bool false, .int .i64 0, .int .i64 0, .string ByteArray.empty, .bool false, .int .i64 0, .int .i64 0, .string ByteArray.empty] rfl rfl W3 (unhide HSB2) sizeBC ?_)
      | (refine wpList_load_row rfl 84 _ rfl w.heap.size rfl 84 A2 (0, 0) _ (unhide HR3) Try.underlying84 rfl (unhide HSZ2) ?_))
    exact bodyPost_ret (v := .tuple #[.agg A2, .int .i64 0]) (results_cell_slot 4 84 5 Try.results70 _ _ _ _ _ rfl (unhide HL) rfl) rfl ⟨.inr ⟨hx9, by rw [unhide HE]⟩, hW4⟩
end Go.Proofs.Ytageolbmplhgaaa
