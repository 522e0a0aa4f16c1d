/- Whether a member is right, and its cells: the program's rightCells. -/
import Derived.Test.YtageolbmplhgaaaMapI
import Derived.Test.YtageolbmplhgaaaTopI
import Derived.Test.YtageolbmplhgaaaSetI
import Derived.Test.YtageolbmplhgaaaQt
import Derived.Test.YtageolbmplhgaaaMapS
import Derived.Test.YtageolbmplhgaaaFreeI
namespace Go.Proofs.Ytageolbmplhgaaa
open Go.RowKit
set_option linter.unusedVariables false
set_option linter.unusedSimpArgs false
open Classical

/-- The cells of a member and whether it is right. -/
def RightRet (bs : List Bk) (L : List Int) (seq o : Int) (e : Ending) : Prop := ∃ (m : CC) (r : Bool), e = .returned (.tuple #[.agg (ccA m), .bool r]) ∧ (r = true ↔ FtlOk bs L seq o) ∧ (r = true → m.count = bs.length ∧ ccBs m bs.length = bs)
theorem RightRet.no {bs : List Bk} {L : List Int} {seq o : Int} (h : ¬ FtlOk bs L seq o) : RightRet bs L seq o (.returned (.tuple #[.agg Try.zeroCells84, .bool false])) :=
  ⟨newCC 0, false, by rw [zeroCC], by simp [h], by simp⟩
theorem RightRet.yes {bs : List Bk} {L : List Int} {seq o : Int} (h : FtlOk bs L seq o) (m : CC) (h1 : m.count = bs.length) (h2 : ccBs m bs.length = bs) : RightRet bs L seq o (.returned (.tuple #[.agg (ccA m), .bool true])) :=
  ⟨m, true, rfl, by simp [h], fun _ => ⟨h1, h2⟩⟩

set_option maxRecDepth 100000 in
set_option maxHeartbeats 4000000 in
theorem rightCells_any (a : Option Addr) (c : Nat) (bs : List Bk) (n : Nat) (hl : bs.length = n) (ma : Option Addr) (mc : Nat) (L : List Int) (mn : Nat) (hL : L.length = mn) (seq o : Int) (w : World) (h : BlocksAt w a bs) (hn : Lens 9223372036854775807 bs) (hI : IntsAt w ma L) (hmn : mn ≤ 9223372036854775807) :
    Calls Try.prog 77 #[.agg #[.slice a n c, .slice ma mn mc, .int .i64 seq, .int .i64 o]] w fun e w' => RightRet bs L seq o e ∧ Below w.heap.size w w' := by
  subst hl
  have hb0 : ∀ o1 o2, Below w.heap.size w ((w.alloc o1).alloc o2) := fun o1 o2 => ((Below.refl _ w).alloc (Nat.le_refl _) _).alloc (by simp) _
  go_enter Try.func77, Try.ntmps77
  go_wp2_with fail
  refine (cellsOf_any a c bs _ (h.below (hb0 _ _) (Nat.le_refl _)) hn).mono ?_
  rintro e w1 ⟨⟨m, r, rfl, hr, hm⟩, hB1⟩
  have hW1 : Below w.heap.size w w1 := (hb0 _ _).trans (hB1.mono (by simp; omega))
  have hs1 := hB1.size
  simp at hs1
  have hz1 : w1.heap[w.heap.size + 1]? = some (.cells Try.zeroCells84 84 (0, 0)) := (hB1.block _ (by simp)).trans (heap_alloc2_new _ _ _)
  have hx1 : ∀ i, w1.cell? ⟨w.heap.size, i, none⟩ = (#[Value.slice a bs.length c, .slice ma mn mc, .int .i64 seq, .int .i64 o])[i]? := fun i => by
    rw [hB1.cell (p := ⟨w.heap.size, i, none⟩) (by simp; omega), cell_alloc_lt _ _ _ _ (by simp)]
    simp
  have hsc := store_cc m w1
  have hAs := ccA_size m
  have h1A := ccA_one m
  have hA0 := ccA_count m
  have HSZ := hide (sizeCC m)
  have HAB := hide (fun b i hb hi => ccA_block m (b := b) (i := i) hb hi)
  have HR := hide hr
  have HM := hide hm
  have HI := hide hI
  have HL := hide hL
  have HX1 := hide hx1
  have HZ1 := hide hz1
  clear hr hm hn hB1 hb0 hI hL hx1 hz1 h
  cases r with
  | false =>
    have hnok : ¬ ChipOk bs := fun hc => by have := (unhide HR).2 hc; cases this
    have hz2 : ∀ o', (w1.alloc o').heap[w.heap.size + 1]? = some (.cells Try.zeroCells84 84 (0, 0)) := fun o' => (Below.heap_alloc w1 o' (w.heap.size + 1) (by omega)).trans (unhide HZ1)
    have hstF := fun o' => store_same Try.prog (w1.alloc o') (w.heap.size + 1) 84 Try.zeroCells84 (hz2 o') zeroCC_one
    have hldF := fun o' => run_loadVar_row (P := Try.prog) (w1.alloc o') (w.heap.size + 1) 84 84 Try.zeroCells84 (0, 0) _ (hz2 o') Try.underlying84 rfl (by rw [zeroCC_size]; exact sizeCC')
    have HLF := hide hldF
    have HNK := hide hnok
    clear hldF hnok hz2 hA0
    generalize ccA m = A at *
    go_wp2
    exact bodyPost_ret (results_cell_slot 2 84 3 Try.results77 _ _ _ _ _ rfl (unhide HLF _) rfl) rfl ⟨RightRet.no (fun hf => unhide HNK hf.chip), hW1.alloc hW1.size _⟩
  | true =>
    have hok := (unhide HR).1 rfl
    have hc12 := hok.count
    obtain ⟨hct, hbss⟩ := unhide HM rfl
    rw [hct] at hA0
    have HTOP : Hid (∀ W, Calls Try.prog 99 #[.agg (ccA m)] W fun e w' => e = .returned (.agg #[.int .i64 (topOf (usedOf bs)).1, .int .i64 (topOf (usedOf bs)).2]) ∧ Below W.heap.size W w') := fun W => by
      have := top_any m bs.length hct hc12.2 W
      rwa [usedOf_cc hbss] at this
    have HNP : Hid (∀ W, Calls Try.prog 86 #[.agg (ccA m)] W fun e w' => MapRet bs 2 W.heap.size e w' ∧ Below W.heap.size W w') := fun W => newestPlaces_any m bs.length hct hc12.1 hc12.2 bs rfl hbss hok W
    have HST : Hid (∀ W, Calls Try.prog 100 #[.agg (ccA m), .int .i64 o] W fun e w' => RetIff (Settled bs o) e ∧ Below W.heap.size W w') := fun W => settledBut_any (ccA m) m bs bs.length rfl hbss hA0 (unhide HAB) hc12.2 o W
    have htb := hok.top
    have HYES : Hid (FtlOk bs L seq o → RightRet bs L seq o (.returned (.tuple #[.agg (ccA m), .bool true]))) := fun hf => RightRet.yes hf m hct hbss
    obtain ⟨T, hT⟩ : ∃ T, T = (topOf (usedOf bs)).1 := ⟨_, rfl⟩
    obtain ⟨T2, hT2⟩ : ∃ T2, T2 = (topOf (usedOf bs)).2 := ⟨_, rfl⟩
    rw [← hT, ← hT2] at HTOP
    have hTS : topSeq bs = T := hT.symm
    rw [hTS] at htb
    have HTS := hide hTS
    obtain ⟨A, hA⟩ : ∃ A, A = ccA m := ⟨_, rfl⟩
    rw [← hA] at hsc hAs h1A HSZ hA0 HTOP HNP HST HYES ⊢
    have HOK := hide hok
    have HA0 := hide hA0
    have H1A := hide h1A
    obtain ⟨n, hnn⟩ : ∃ n, n = bs.length := ⟨_, rfl⟩
    rw [← hnn] at hc12 HA0 HX1 ⊢
    have HNN := hide hnn
    clear hok hct hbss hT hT2 hTS hA hA0 h1A HM HAB hnn
    go_wp2_with fail
    refine wp_load_row 84 _ rfl w1.heap.size rfl 84 A (0, 0) _ (Go.Deep.blk_alloc_new _ _) Try.underlying84 rfl (unhide HSZ) ?_
    clear hsc
    go_wp2_with fail
    refine (unhide HNP _).mono ?_
    rintro e w6 ⟨⟨v, r2, L2, rfl, hM, hv⟩, hB6⟩
    obtain ⟨a2, c2, rfl, hI2, _⟩ := hv.form
    have hs6 := hB6.size
    simp at hs6
    have hrow6 : w6.heap[w1.heap.size]? = some (.cells A 84 (0, 0)) := (hB6.block _ (by simp)).trans (Go.Deep.blk_alloc_new _ _)
    have hB16 : Below w1.heap.size w1 w6 := ((Below.refl _ w1).alloc (Nat.le_refl _) _).trans (hB6.mono (by simp))
    have hW6 := hW1.trans (hB16.mono hW1.size)
    have hz6 : w6.heap[w.heap.size + 1]? = some (.cells Try.zeroCells84 84 (0, 0)) := (hB16.block _ (by omega)).trans (unhide HZ1)
    have hx6 : ∀ i, w6.cell? ⟨w.heap.size, i, none⟩ = (#[Value.slice a n c, .slice ma mn mc, .int .i64 seq, .int .i64 o])[i]? := fun i => (hB16.cell (p := ⟨w.heap.size, i, none⟩) (by show w.heap.size < _; omega)).trans (unhide HX1 i)
    have HZ6 := hide hz6
    have hm6 := hx6 1
    have hq2 := hx6 2
    have hq3 := hx6 3
    simp at hm6 hq2 hq3
    have HI2 := hide hI2
    have HMM := hide hM
    have HR6 := hide hrow6
    have HI6 := hide ((unhide HI).below hW6 (Nat.le_refl _))
    clear hv hB6 hM hI2 hrow6 hz6 hx6 hB16 hW1 HX1 HZ1 HNP HI
    cases r2 with
    | false =>
      have hnf : ¬ Fits bs := fun hf => by have := (unhide HMM).1.2 hf; cases this
      have hstF := store_same Try.prog w6 (w.heap.size + 1) 84 Try.zeroCells84 (unhide HZ6) zeroCC_one
      have hldF := run_loadVar_row (P := Try.prog) w6 (w.heap.size + 1) 84 84 Try.zeroCells84 (0, 0) _ (unhide HZ6) Try.underlying84 rfl (by rw [zeroCC_size]; exact sizeCC')
      have HLF := hide hldF
      have HNF := hide hnf
      clear hldF hnf
      go_wp2
      exact bodyPost_ret (results_cell_slot 2 84 3 Try.results77 _ _ _ _ _ rfl (unhide HLF) rfl) rfl ⟨RightRet.no (fun hf => unhide HNF hf.fits), hW6⟩
    | true =>
      have hfit := (unhide HMM).1.1 rfl
      have hL2 : L2 = placesOf (usedOf bs) (roomOf bs) := by have := (unhide HMM).2; simpa using this
      have hl36 : L2.length ≤ 36 := (unhide HMM).length (by have := unhide HNN; omega)
      have HFT := hide hfit
      have HL2 := hide hL2
      clear hfit hL2 HMM
      obtain ⟨len, hlen⟩ : ∃ len, L2.length = len := ⟨_, rfl⟩
      rw [hlen] at hl36 ⊢
      have HLEN := hide hlen
      clear hlen
      go_wp2_with fail
      refine (slicesEqual_any ma a2 mc c2 L L2 mn len (unhide HL) (unhide HLEN) _ (unhide HI6) (unhide HI2) hmn (by omega)).mono ?_
      rintro e w7 ⟨⟨r3, rfl, hr3⟩, hB7⟩
      have hs7 := hB7.size
      have hW7 := hW6.trans (hB7.mono hW6.size)
      have HZ7 := hide ((hB7.block _ (by omega)).trans (unhide HZ6))
      have HR7 := hide ((hB7.block _ (by omega)).trans (unhide HR6))
      have hq2' := (hB7.cell (p := ⟨w.heap.size, 2, none⟩) (by show w.heap.size < _; omega)).trans hq2
      have hq3' := (hB7.cell (p := ⟨w.heap.size, 3, none⟩) (by show w.heap.size < _; omega)).trans hq3
      have HR3 := hide hr3
      clear hB7 hr3 hq2 hq3 hm6 HZ6 HR6 HI2 HI6 hW6
      cases r3 with
      | false =>
        have hstF := store_same Try.prog w7 (w.heap.size + 1) 84 Try.zeroCells84 (unhide HZ7) zeroCC_one
        have hldF := run_loadVar_row (P := Try.prog) w7 (w.heap.size + 1) 84 84 Try.zeroCells84 (0, 0) _ (unhide HZ7) Try.underlying84 rfl (by rw [zeroCC_size]; exact sizeCC')
        have HLF := hide hldF
        clear hldF
        go_wp2
        exact bodyPost_ret (results_cell_slot 2 84 3 Try.results77 _ _ _ _ _ rfl (unhide HLF) rfl) rfl ⟨RightRet.no (fun hf => by have := (unhide HR3).2 (hf.map.trans (unhide HL2).symm); cases this), hW7⟩
      | true =>
        have hLL : L = L2 := (unhide HR3).1 rfl
        have HLL : Hid (L = placesOf (usedOf bs) (roomOf bs)) := hLL.trans (unhide HL2)
        have HLD : Hid (∀ j, j < 205 → w7.cell? ⟨w1.heap.size, 0 + j, none⟩ = A[j]?) := fun j hj => by rw [Nat.zero_add]; exact cell_of_row _ _ j _ _ _ (unhide HR7)
        have hfld := run_field_np
        have hmix : Try.prog.follows .mixedOrders = true := by kernel_rfl
        have hLF : ∀ W, Below w7.heap.size w7 W → W.heap[w.heap.size + 1]? = some (.cells Try.zeroCells84 84 (0, 0)) := fun W hW => (hW.block _ (by omega)).trans (unhide HZ7)
        have HLFF := hide hLF
        have hTw : T + 1 ≤ 1000000001 := by omega
        clear hLL HR3 hLF HL2
        go_wp2_with fail
        by_cases hc1 : T + 1 ≤ seq ∧ seq ≤ 1000000000
        · have hd1 : decide (T + 1 ≤ seq ∧ seq ≤ 1000000000) = true := by simpa using hc1
          by_cases hc2 : 0 ≤ o ∧ o ≤ (n : Int) - 1
          · have hd2 : decide ((0 : Int) ≤ o ∧ o ≤ (n : Int) - 1) = true := by simpa using hc2
            by_cases hc3 : Settled bs o
            · have hd3 : ∀ r : Bool, (r = true ↔ Settled bs o) → r = true := fun r h => h.2 hc3
              refine wp_region_grown (Below w7.heap.size w7) hmix (by kernel_rfl) (below_drawn w7) ?_
              go_big_quiet_step (exact fun _ => rfl)
              refine wpQuiet_val rfl (.int .i64 seq) (fun W hC => ?_) ?_
              · have hcl := (hC.cell (p := ⟨w.heap.size, 2, none⟩) (by show w.heap.size < _; omega)).trans hq2'
                go_simp
              simp only [Act.put, List.setIfInBounds_toArray, List.set_cons_zero, List.set_cons_succ]
              refine wpQuiet_val rfl (.agg A) (fun W hC => quietAt_load_mid 84 _ rfl w1.heap.size 0 rfl A 205 hAs (fun j hj => (hC.cell (p := ⟨w1.heap.size, 0 + j, none⟩) (by show w1.heap.size < _; omega)).trans (unhide HLD j hj)) _ Try.underlying84 rfl sizeCC') ?_
              simp only [Act.put, List.setIfInBounds_toArray, List.set_cons_zero, List.set_cons_succ]
              refine wpQuiet_val rfl (.agg #[.int .i64 T, .int .i64 T2]) (fun W hC => ?_) ?_
              · go_simp
                refine (unhide HTOP W).mono ?_
                rintro e w' ⟨rfl, hB'⟩
                exact ⟨rfl, hC.trans (hB'.mono hC.size)⟩
              simp only [Act.put, List.setIfInBounds_toArray, List.set_cons_zero, List.set_cons_succ]
              go_big_quiet_step (exact fun _ => rfl)
              go_big_quiet_step (exact fun _ => rfl)
              refine wpQuiet_val rfl (.bool true) (fun W hC => ?_) ?_
              · go_simp
                refine (within_any seq (T + 1) 1000000000 W).mono ?_
                rintro e w' ⟨rfl, rfl⟩
                exact ⟨by rw [hd1], hC⟩
              simp only [Act.put, List.setIfInBounds_toArray, List.set_cons_zero, List.set_cons_succ]
              go_big_quiet_step (exact fun _ => rfl)
              go_big_quiet_step (exact fun _ => rfl)
              refine wpQuiet_val rfl (.agg A) (fun W hC => quietAt_load_mid 84 _ rfl w1.heap.size 0 rfl A 205 hAs (fun j hj => (hC.cell (p := ⟨w1.heap.size, 0 + j, none⟩) (by show w1.heap.size < _; omega)).trans (unhide HLD j hj)) _ Try.underlying84 rfl sizeCC') ?_
              simp only [Act.put, List.setIfInBounds_toArray, List.set_cons_zero, List.set_cons_succ]
              go_big_quiet_step (exact fun _ => rfl)
              refine wpQuiet_val rfl (.int .i64 o) (fun W hC => ?_) ?_
              · have hcl := (hC.cell (p := ⟨w.heap.size, 3, none⟩) (by show w.heap.size < _; omega)).trans hq3'
                go_simp
              simp only [Act.put, List.setIfInBounds_toArray, List.set_cons_zero, List.set_cons_succ]
              refine wpQuiet_val rfl (.bool true) (fun W hC => ?_) ?_
              · go_simp
                refine (has_any A (n : Int) (unhide HA0) (by omega) (by omega) o W).mono ?_
                rintro e w' ⟨rfl, hB'⟩
                exact ⟨by rw [hd2], hC.trans (hB'.mono hC.size)⟩
              simp only [Act.put, List.setIfInBounds_toArray, List.set_cons_zero, List.set_cons_succ]
              go_big_quiet_step (exact fun _ => rfl)
              go_big_quiet_step (exact fun _ => rfl)
              go_big_quiet_step (exact fun _ => rfl)
              refine wpQuiet_val rfl (.agg A) (fun W hC => quietAt_load_mid 84 _ rfl w1.heap.size 0 rfl A 205 hAs (fun j hj => (hC.cell (p := ⟨w1.heap.size, 0 + j, none⟩) (by show w1.heap.size < _; omega)).trans (unhide HLD j hj)) _ Try.underlying84 rfl sizeCC') ?_
              simp only [Act.put, List.setIfInBounds_toArray, List.set_cons_zero, List.set_cons_succ]
              go_big_quiet_step (exact fun _ => rfl)
              refine wpQuiet_val rfl (.int .i64 o) (fun W hC => ?_) ?_
              · have hcl := (hC.cell (p := ⟨w.heap.size, 3, none⟩) (by show w.heap.size < _; omega)).trans hq3'
                go_simp
              simp only [Act.put, List.setIfInBounds_toArray, List.set_cons_zero, List.set_cons_succ]
              refine wpQuiet_val rfl (.bool true) (fun W hC => ?_) ?_
              · go_simp
                refine (unhide HST W).mono ?_
                rintro e w' ⟨⟨r9, rfl, hr9⟩, hB'⟩
                refine ⟨?_, hC.trans (hB'.mono hC.size)⟩
                have := hd3 r9 hr9
                rw [this]
              simp only [Act.put, List.setIfInBounds_toArray, List.set_cons_zero, List.set_cons_succ]
              go_big_quiet_step (exact fun _ => rfl)
              go_big_quiet_step (exact fun _ => rfl)
              refine wpQuiet_nil ?_
              intro w8 hC8
              have hz8 := unhide HLFF w8 hC8
              have hr8 : w8.heap[w1.heap.size]? = some (.cells A 84 (0, 0)) := (hC8.block _ (by omega)).trans (unhide HR7)
              have hW8 := hW7.trans (hC8.mono hW7.size)
              have hstT := store_row Try.prog w8 (w.heap.size + 1) 84 Try.zeroCells84 A hz8 (by rw [zeroCC_size, hAs]) (unhide H1A)
              have hldT := run_loadVar_row (P := Try.prog) (w8.setRow (w.heap.size + 1) A) (w.heap.size + 1) 84 84 A (0, 0) _ (setRow_heap _ _ _ _ _ _ hz8) Try.underlying84 rfl (unhide HSZ)
              have hB9 : Below w.heap.size w (w8.setRow (w.heap.size + 1) A) := Below.setRow hW8 (by omega) _
              obtain ⟨W9, hW9⟩ : ∃ W9, W9 = w8.setRow (w.heap.size + 1) A := ⟨_, rfl⟩
              rw [← hW9] at hstT hldT hB9
              clear hW9
              have HLT := hide hldT
              have HR8 := hide hr8
              have HFIN : Hid (RightRet bs L seq o (.returned (.tuple #[.agg A, .bool true]))) := unhide HYES ⟨unhide HOK, unhide HFT, unhide HLL, by rw [unhide HTS]; exact hc1, by rw [← unhide HNN]; exact hc2, hc3⟩
              clear hldT hz8 hr8 hC8 hW8 hq2' hq3' HLD HR7 HLFF HTOP HST hW7 hfld
              go_wp2_with fail
              refine wp_load_row 84 _ rfl w1.heap.size rfl 84 A (0, 0) _ (unhide HR8) Try.underlying84 rfl (unhide HSZ) ?_
              go_wp2
              exact bodyPost_ret (results_cell_slot 2 84 3 Try.results77 _ _ _ _ _ rfl (unhide HLT) rfl) rfl ⟨unhide HFIN, hB9⟩
            · have hd3 : ∀ r : Bool, (r = true ↔ Settled bs o) → r = false := fun r h => by cases r; rfl; exact absurd (h.1 rfl) hc3
              refine wp_region_grown (Below w7.heap.size w7) hmix (by kernel_rfl) (below_drawn w7) ?_
              go_big_quiet_step (exact fun _ => rfl)
              refine wpQuiet_val rfl (.int .i64 seq) (fun W hC => ?_) ?_
              · have hcl := (hC.cell (p := ⟨w.heap.size, 2, none⟩) (by show w.heap.size < _; omega)).trans hq2'
                go_simp
              simp only [Act.put, List.setIfInBounds_toArray, List.set_cons_zero, List.set_cons_succ]
              refine wpQuiet_val rfl (.agg A) (fun W hC => quietAt_load_mid 84 _ rfl w1.heap.size 0 rfl A 205 hAs (fun j hj => (hC.cell (p := ⟨w1.heap.size, 0 + j, none⟩) (by show w1.heap.size < _; omega)).trans (unhide HLD j hj)) _ Try.underlying84 rfl sizeCC') ?_
              simp only [Act.put, List.setIfInBounds_toArray, List.set_cons_zero, List.set_cons_succ]
              refine wpQuiet_val rfl (.agg #[.int .i64 T, .int .i64 T2]) (fun W hC => ?_) ?_
              · go_simp
                refine (unhide HTOP W).mono ?_
                rintro e w' ⟨rfl, hB'⟩
                exact ⟨rfl, hC.trans (hB'.mono hC.size)⟩
              simp only [Act.put, List.setIfInBounds_toArray, List.set_cons_zero, List.set_cons_succ]
              go_big_quiet_step (exact fun _ => rfl)
              go_big_quiet_step (exact fun _ => rfl)
              refine wpQuiet_val rfl (.bool true) (fun W hC => ?_) ?_
              · go_simp
                refine (within_any seq (T + 1) 1000000000 W).mono ?_
                rintro e w' ⟨rfl, rfl⟩
                exact ⟨by rw [hd1], hC⟩
              simp only [Act.put, List.setIfInBounds_toArray, List.set_cons_zero, List.set_cons_succ]
              go_big_quiet_step (exact fun _ => rfl)
              go_big_quiet_step (exact fun _ => rfl)
              refine wpQuiet_val rfl (.agg A) (fun W hC => quietAt_load_mid 84 _ rfl w1.heap.size 0 rfl A 205 hAs (fun j hj => (hC.cell (p := ⟨w1.heap.size, 0 + j, none⟩) (by show w1.heap.size < _; omega)).trans (unhide HLD j hj)) _ Try.underlying84 rfl sizeCC') ?_
              simp only [Act.put, List.setIfInBounds_toArray, List.set_cons_zero, List.set_cons_succ]
              go_big_quiet_step (exact fun _ => rfl)
              refine wpQuiet_val rfl (.int .i64 o) (fun W hC => ?_) ?_
              · have hcl := (hC.cell (p := ⟨w.heap.size, 3, none⟩) (by show w.heap.size < _; omega)).trans hq3'
                go_simp
              simp only [Act.put, List.setIfInBounds_toArray, List.set_cons_zero, List.set_cons_succ]
              refine wpQuiet_val rfl (.bool true) (fun W hC => ?_) ?_
              · go_simp
                refine (has_any A (n : Int) (unhide HA0) (by omega) (by omega) o W).mono ?_
                rintro e w' ⟨rfl, hB'⟩
                exact ⟨by rw [hd2], hC.trans (hB'.mono hC.size)⟩
              simp only [Act.put, List.setIfInBounds_toArray, List.set_cons_zero, List.set_cons_succ]
              go_big_quiet_step (exact fun _ => rfl)
              go_big_quiet_step (exact fun _ => rfl)
              go_big_quiet_step (exact fun _ => rfl)
              refine wpQuiet_val rfl (.agg A) (fun W hC => quietAt_load_mid 84 _ rfl w1.heap.size 0 rfl A 205 hAs (fun j hj => (hC.cell (p := ⟨w1.heap.size, 0 + j, none⟩) (by show w1.heap.size < _; omega)).trans (unhide HLD j hj)) _ Try.underlying84 rfl sizeCC') ?_
              simp only [Act.put, List.setIfInBounds_toArray, List.set_cons_zero, List.set_cons_succ]
              go_big_quiet_step (exact fun _ => rfl)
              refine wpQuiet_val rfl (.int .i64 o) (fun W hC => ?_) ?_
              · have hcl := (hC.cell (p := ⟨w.heap.size, 3, none⟩) (by show w.heap.size < _; omega)).trans hq3'
                go_simp
              simp only [Act.put, List.setIfInBounds_toArray, List.set_cons_zero, List.set_cons_succ]
              refine wpQuiet_val rfl (.bool false) (fun W hC => ?_) ?_
              · go_simp
                refine (unhide HST W).mono ?_
                rintro e w' ⟨⟨r9, rfl, hr9⟩, hB'⟩
                refine ⟨?_, hC.trans (hB'.mono hC.size)⟩
                have := hd3 r9 hr9
                rw [this]
              simp only [Act.put, List.setIfInBounds_toArray, List.set_cons_zero, List.set_cons_succ]
              go_big_quiet_step (exact fun _ => rfl)
              go_big_quiet_step (exact fun _ => rfl)
              refine wpQuiet_nil ?_
              intro w8 hC8
              have hz8 := unhide HLFF w8 hC8
              have hW8 := hW7.trans (hC8.mono hW7.size)
              have hstF := store_same Try.prog w8 (w.heap.size + 1) 84 Try.zeroCells84 hz8 zeroCC_one
              have hldF := run_loadVar_row (P := Try.prog) w8 (w.heap.size + 1) 84 84 Try.zeroCells84 (0, 0) _ hz8 Try.underlying84 rfl (by rw [zeroCC_size]; exact sizeCC')
              have HLF := hide hldF
              have HNO : Hid (¬ FtlOk bs L seq o) := fun hf => hc3 hf.settled
              clear hldF hz8 hC8 hq2' hq3' HLD HR7 HLFF HTOP HST hW7 hfld
              go_wp2
              exact bodyPost_ret (results_cell_slot 2 84 3 Try.results77 _ _ _ _ _ rfl (unhide HLF) rfl) rfl ⟨RightRet.no (unhide HNO), hW8⟩
          · have hd2 : decide ((0 : Int) ≤ o ∧ o ≤ (n : Int) - 1) = false := by simpa using hc2
            refine wp_region_grown (Below w7.heap.size w7) hmix (by kernel_rfl) (below_drawn w7) ?_
            go_big_quiet_step (exact fun _ => rfl)
            refine wpQuiet_val rfl (.int .i64 seq) (fun W hC => ?_) ?_
            · have hcl := (hC.cell (p := ⟨w.heap.size, 2, none⟩) (by show w.heap.size < _; omega)).trans hq2'
              go_simp
            simp only [Act.put, List.setIfInBounds_toArray, List.set_cons_zero, List.set_cons_succ]
            refine wpQuiet_val rfl (.agg A) (fun W hC => quietAt_load_mid 84 _ rfl w1.heap.size 0 rfl A 205 hAs (fun j hj => (hC.cell (p := ⟨w1.heap.size, 0 + j, none⟩) (by show w1.heap.size < _; omega)).trans (unhide HLD j hj)) _ Try.underlying84 rfl sizeCC') ?_
            simp only [Act.put, List.setIfInBounds_toArray, List.set_cons_zero, List.set_cons_succ]
            refine wpQuiet_val rfl (.agg #[.int .i64 T, .int .i64 T2]) (fun W hC => ?_) ?_
            · go_simp
              refine (unhide HTOP W).mono ?_
              rintro e w' ⟨rfl, hB'⟩
              exact ⟨rfl, hC.trans (hB'.mono hC.size)⟩
            simp only [Act.put, List.setIfInBounds_toArray, List.set_cons_zero, List.set_cons_succ]
            go_big_quiet_step (exact fun _ => rfl)
            go_big_quiet_step (exact fun _ => rfl)
            refine wpQuiet_val rfl (.bool true) (fun W hC => ?_) ?_
            · go_simp
              refine (within_any seq (T + 1) 1000000000 W).mono ?_
              rintro e w' ⟨rfl, rfl⟩
              exact ⟨by rw [hd1], hC⟩
            simp only [Act.put, List.setIfInBounds_toArray, List.set_cons_zero, List.set_cons_succ]
            go_big_quiet_step (exact fun _ => rfl)
            go_big_quiet_step (exact fun _ => rfl)
            refine wpQuiet_val rfl (.agg A) (fun W hC => quietAt_load_mid 84 _ rfl w1.heap.size 0 rfl A 205 hAs (fun j hj => (hC.cell (p := ⟨w1.heap.size, 0 + j, none⟩) (by show w1.heap.size < _; omega)).trans (unhide HLD j hj)) _ Try.underlying84 rfl sizeCC') ?_
            simp only [Act.put, List.setIfInBounds_toArray, List.set_cons_zero, List.set_cons_succ]
            go_big_quiet_step (exact fun _ => rfl)
            refine wpQuiet_val rfl (.int .i64 o) (fun W hC => ?_) ?_
            · have hcl := (hC.cell (p := ⟨w.heap.size, 3, none⟩) (by show w.heap.size < _; omega)).trans hq3'
              go_simp
            simp only [Act.put, List.setIfInBounds_toArray, List.set_cons_zero, List.set_cons_succ]
            refine wpQuiet_val rfl (.bool false) (fun W hC => ?_) ?_
            · go_simp
              refine (has_any A (n : Int) (unhide HA0) (by omega) (by omega) o W).mono ?_
              rintro e w' ⟨rfl, hB'⟩
              exact ⟨by rw [hd2], hC.trans (hB'.mono hC.size)⟩
            simp only [Act.put, List.setIfInBounds_toArray, List.set_cons_zero, List.set_cons_succ]
            go_big_quiet_step (exact fun _ => rfl)
            go_big_quiet_step (exact fun _ => rfl)
            go_big_quiet_step (exact fun _ => rfl)
            go_big_quiet_step (exact fun _ => rfl)
            go_big_quiet_step (exact fun _ => rfl)
            go_big_quiet_step (exact fun _ => rfl)
            go_big_quiet_step (exact fun _ => rfl)
            go_big_quiet_step (exact fun _ => rfl)
            go_big_quiet_step (exact fun _ => rfl)
            refine wpQuiet_nil ?_
            intro w8 hC8
            have hz8 := unhide HLFF w8 hC8
            have hW8 := hW7.trans (hC8.mono hW7.size)
            have hstF := store_same Try.prog w8 (w.heap.size + 1) 84 Try.zeroCells84 hz8 zeroCC_one
            have hldF := run_loadVar_row (P := Try.prog) w8 (w.heap.size + 1) 84 84 Try.zeroCells84 (0, 0) _ hz8 Try.underlying84 rfl (by rw [zeroCC_size]; exact sizeCC')
            have HLF := hide hldF
            have HNO : Hid (¬ FtlOk bs L seq o) := fun hf => hc2 (by rw [unhide HNN]; exact hf.opn)
            clear hldF hz8 hC8 hq2' hq3' HLD HR7 HLFF HTOP HST hW7 hfld
            go_wp2
            exact bodyPost_ret (results_cell_slot 2 84 3 Try.results77 _ _ _ _ _ rfl (unhide HLF) rfl) rfl ⟨RightRet.no (unhide HNO), hW8⟩
        · have hd1 : decide (T + 1 ≤ seq ∧ seq ≤ 1000000000) = false := by simpa using hc1
          refine wp_region_grown (Below w7.heap.size w7) hmix (by kernel_rfl) (below_drawn w7) ?_
          go_big_quiet_step (exact fun _ => rfl)
          refine wpQuiet_val rfl (.int .i64 seq) (fun W hC => ?_) ?_
          · have hcl := (hC.cell (p := ⟨w.heap.size, 2, none⟩) (by show w.heap.size < _; omega)).trans hq2'
            go_simp
          simp only [Act.put, List.setIfInBounds_toArray, List.set_cons_zero, List.set_cons_succ]
          refine wpQuiet_val rfl (.agg A) (fun W hC => quietAt_load_mid 84 _ rfl w1.heap.size 0 rfl A 205 hAs (fun j hj => (hC.cell (p := ⟨w1.heap.size, 0 + j, none⟩) (by show w1.heap.size < _; omega)).trans (unhide HLD j hj)) _ Try.underlying84 rfl sizeCC') ?_
          simp only [Act.put, List.setIfInBounds_toArray, List.set_cons_zero, List.set_cons_succ]
          refine wpQuiet_val rfl (.agg #[.int .i64 T, .int .i64 T2]) (fun W hC => ?_) ?_
          · go_simp
            refine (unhide HTOP W).mono ?_
            rintro e w' ⟨rfl, hB'⟩
            exact ⟨rfl, hC.trans (hB'.mono hC.size)⟩
          simp only [Act.put, List.setIfInBounds_toArray, List.set_cons_zero, List.set_cons_succ]
          go_big_quiet_step (exact fun _ => rfl)
          go_big_quiet_step (exact fun _ => rfl)
          refine wpQuiet_val rfl (.bool false) (fun W hC => ?_) ?_
          · go_simp
            refine (within_any seq (T + 1) 1000000000 W).mono ?_
            rintro e w' ⟨rfl, rfl⟩
            exact ⟨by rw [hd1], hC⟩
          simp only [Act.put, List.setIfInBounds_toArray, List.set_cons_zero, List.set_cons_succ]
          go_big_quiet_step (exact fun _ => rfl)
          go_big_quiet_step (exact fun _ => rfl)
          go_big_quiet_step (exact fun _ => rfl)
          go_big_quiet_step (exact fun _ => rfl)
          go_big_quiet_step (exact fun _ => rfl)
          go_big_quiet_step (exact fun _ => rfl)
          go_big_quiet_step (exact fun _ => rfl)
          go_big_quiet_step (exact fun _ => rfl)
          go_big_quiet_step (exact fun _ => rfl)
          go_big_quiet_step (exact fun _ => rfl)
          go_big_quiet_step (exact fun _ => rfl)
          go_big_quiet_step (exact fun _ => rfl)
          go_big_quiet_step (exact fun _ => rfl)
          go_big_quiet_step (exact fun _ => rfl)
          go_big_quiet_step (exact fun _ => rfl)
          refine wpQuiet_nil ?_
          intro w8 hC8
          have hz8 := unhide HLFF w8 hC8
          have hW8 := hW7.trans (hC8.mono hW7.size)
          have hstF := store_same Try.prog w8 (w.heap.size + 1) 84 Try.zeroCells84 hz8 zeroCC_one
          have hldF := run_loadVar_row (P := Try.prog) w8 (w.heap.size + 1) 84 84 Try.zeroCells84 (0, 0) _ hz8 Try.underlying84 rfl (by rw [zeroCC_size]; exact sizeCC')
          have HLF := hide hldF
          have HNO : Hid (¬ FtlOk bs L seq o) := fun hf => hc1 (by rw [← unhide HTS]; exact hf.seq)
          clear hldF hz8 hC8 hq2' hq3' HLD HR7 HLFF HTOP HST hW7 hfld
          go_wp2
          exact bodyPost_ret (results_cell_slot 2 84 3 Try.results77 _ _ _ _ _ rfl (unhide HLF) rfl) rfl ⟨RightRet.no (unhide HNO), hW8⟩
end Go.Proofs.Ytageolbmplhgaaa
