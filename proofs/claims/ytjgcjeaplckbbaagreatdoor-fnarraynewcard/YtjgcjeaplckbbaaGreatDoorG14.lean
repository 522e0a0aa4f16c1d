/- 6 texts in one. -/
import Derived.Test.YtjgcjeaplckbbaaGreatDoorG03
import Derived.Test.YtjgcjeaplckbbaaGreatDoorG13
import Derived.Test.YtjgcjeaplckbbaaGreatDoorG12
import Derived.Test.YtjgcjeaplckbbaaGreatDoorG06
import Derived.Shelf.Strings.Repeat
import Derived.Test.YtjgcjeaplckbbaaGreatDoorProg
import Derived.BigQuiet
import Derived.Test.YtjgcjeaplckbbaaGreatDoorChecked
import Derived.Test.YtjgcjeaplckbbaaGreatDoorG02
import Derived.WalkKit
import Derived.Outline
import Derived.ProofKit
import Derived.OpenShut
import Derived.Test.YtjgcjeaplckbbaaGreatDoorG04

/- Whether a member is right, and its cells: the program's rightCells. -/
namespace Go.Proofs.YtjgcjeaplckbbaaGreatDoor
open Go.RowKit
set_option linter.unusedVariables false
set_option linter.unusedSimpArgs false
open Classical

/-- The cells of a member and whether it is right. -/
def RightRet (bs : List Bk) (L : List Int) (seq o : Int) (e : Ending) : Prop := ∃ (m : CC) (r : Bool), e = .returned (.tuple #[.agg (ccA m), .bool r]) ∧ (r = true ↔ FtlOk bs L seq o) ∧ (r = true → m.count = bs.length ∧ ccBs m bs.length = bs)
theorem RightRet.no {bs : List Bk} {L : List Int} {seq o : Int} (h : ¬ FtlOk bs L seq o) : RightRet bs L seq o (.returned (.tuple #[.agg Tryz.zeroCells128, .bool false])) :=
  ⟨newCC 0, false, by rw [zeroCC], by simp [h], by simp⟩
theorem RightRet.yes {bs : List Bk} {L : List Int} {seq o : Int} (h : FtlOk bs L seq o) (m : CC) (h1 : m.count = bs.length) (h2 : ccBs m bs.length = bs) : RightRet bs L seq o (.returned (.tuple #[.agg (ccA m), .bool true])) :=
  ⟨m, true, rfl, by simp [h], fun _ => ⟨h1, h2⟩⟩

set_option maxRecDepth 100000 in
set_option maxHeartbeats 4000000 in
theorem rightCells_any (a : Option Addr) (c : Nat) (bs : List Bk) (n : Nat) (hl : bs.length = n) (ma : Option Addr) (mc : Nat) (L : List Int) (mn : Nat) (hL : L.length = mn) (seq o : Int) (w : World) (h : BlocksAt w a bs) (hn : Lens 9223372036854775807 bs) (hI : IntsAt w ma L) (hmn : mn ≤ 9223372036854775807) :
    Calls Tryz.prog 72 #[.agg #[.slice a n c, .slice ma mn mc, .int .i64 seq, .int .i64 o]] w fun e w' => RightRet bs L seq o e ∧ Below w.heap.size w w' := by
  subst hl
  have hb0 : ∀ o1 o2, Below w.heap.size w ((w.alloc o1).alloc o2) := fun o1 o2 => ((Below.refl _ w).alloc (Nat.le_refl _) _).alloc (by simp) _
  go_enter Tryz.func72, Tryz.ntmps72
  go_wp2_with fail
  refine (cellsOf_any a c bs _ (h.below (hb0 _ _) (Nat.le_refl _)) hn).mono ?_
  rintro e w1 ⟨⟨m, r, rfl, hr, hm⟩, hB1⟩
  have hW1 : Below w.heap.size w w1 := (hb0 _ _).trans (hB1.mono (by simp; omega))
  have hs1 := hB1.size
  simp at hs1
  have hz1 : w1.heap[w.heap.size + 1]? = some (.cells Tryz.zeroCells128 128 (0, 0)) := (hB1.block _ (by simp)).trans (heap_alloc2_new _ _ _)
  have hx1 : ∀ i, w1.cell? ⟨w.heap.size, i, none⟩ = (#[Value.slice a bs.length c, .slice ma mn mc, .int .i64 seq, .int .i64 o])[i]? := fun i => by
    rw [hB1.cell (p := ⟨w.heap.size, i, none⟩) (by simp; omega), cell_alloc_lt _ _ _ _ (by simp)]
    simp
  have hsc := store_cc m w1
  have hAs := ccA_size m
  have h1A := ccA_one m
  have hA0 := ccA_count m
  have HSZ := hide (sizeCC m)
  have HAB := hide (fun b i hb hi => ccA_block m (b := b) (i := i) hb hi)
  have HR := hide hr
  have HM := hide hm
  have HI := hide hI
  have HL := hide hL
  have HX1 := hide hx1
  have HZ1 := hide hz1
  clear hr hm hn hB1 hb0 hI hL hx1 hz1 h
  cases r with
  | false =>
    have hnok : ¬ ChipOk bs := fun hc => by have := (unhide HR).2 hc; cases this
    have hz2 : ∀ o', (w1.alloc o').heap[w.heap.size + 1]? = some (.cells Tryz.zeroCells128 128 (0, 0)) := fun o' => (Below.heap_alloc w1 o' (w.heap.size + 1) (by omega)).trans (unhide HZ1)
    have hstF := fun o' => store_same Tryz.prog (w1.alloc o') (w.heap.size + 1) 128 Tryz.zeroCells128 (hz2 o') zeroCC_one
    have hldF := fun o' => run_loadVar_row (P := Tryz.prog) (w1.alloc o') (w.heap.size + 1) 128 128 Tryz.zeroCells128 (0, 0) _ (hz2 o') Tryz.underlying128 rfl (by rw [zeroCC_size]; exact sizeCC')
    have HLF := hide hldF
    have HNK := hide hnok
    clear hldF hnok hz2 hA0
    generalize ccA m = A at *
    go_wp2
    exact bodyPost_ret (results_cell_slot 2 128 3 Tryz.results72 _ _ _ _ _ rfl (unhide HLF _) rfl) rfl ⟨RightRet.no (fun hf => unhide HNK hf.chip), hW1.alloc hW1.size _⟩
  | true =>
    have hok := (unhide HR).1 rfl
    have hc12 := hok.count
    obtain ⟨hct, hbss⟩ := unhide HM rfl
    rw [hct] at hA0
    have HTOP : Hid (∀ W, Calls Tryz.prog 139 #[.agg (ccA m)] W fun e w' => e = .returned (.agg #[.int .i64 (topOf (usedOf bs)).1, .int .i64 (topOf (usedOf bs)).2]) ∧ Below W.heap.size W w') := fun W => by
      have := top_any m bs.length hct hc12.2 W
      rwa [usedOf_cc hbss] at this
    have HNP : Hid (∀ W, Calls Tryz.prog 137 #[.agg (ccA m)] W fun e w' => MapRet bs 2 W.heap.size e w' ∧ Below W.heap.size W w') := fun W => newestPlaces_any m bs.length hct hc12.1 hc12.2 bs rfl hbss hok W
    have HST : Hid (∀ W, Calls Tryz.prog 141 #[.agg (ccA m), .int .i64 o] W fun e w' => RetIff (Settled bs o) e ∧ Below W.heap.size W w') := fun W => settledBut_any (ccA m) m bs bs.length rfl hbss hA0 (unhide HAB) hc12.2 o W
    have htb := hok.top
    have HYES : Hid (FtlOk bs L seq o → RightRet bs L seq o (.returned (.tuple #[.agg (ccA m), .bool true]))) := fun hf => RightRet.yes hf m hct hbss
    obtain ⟨T, hT⟩ : ∃ T, T = (topOf (usedOf bs)).1 := ⟨_, rfl⟩
    obtain ⟨T2, hT2⟩ : ∃ T2, T2 = (topOf (usedOf bs)).2 := ⟨_, rfl⟩
    rw [← hT, ← hT2] at HTOP
    have hTS : topSeq bs = T := hT.symm
    rw [hTS] at htb
    have HTS := hide hTS
    obtain ⟨A, hA⟩ : ∃ A, A = ccA m := ⟨_, rfl⟩
    rw [← hA] at hsc hAs h1A HSZ hA0 HTOP HNP HST HYES ⊢
    have HOK := hide hok
    have HA0 := hide hA0
    have H1A := hide h1A
    obtain ⟨n, hnn⟩ : ∃ n, n = bs.length := ⟨_, rfl⟩
    rw [← hnn] at hc12 HA0 HX1 ⊢
    have HNN := hide hnn
    clear hok hct hbss hT hT2 hTS hA hA0 h1A HM HAB hnn
    go_wp2_with fail
    refine wp_load_row 128 _ rfl w1.heap.size rfl 128 A (0, 0) _ (Go.Deep.blk_alloc_new _ _) Tryz.underlying128 rfl (unhide HSZ) ?_
    clear hsc
    go_wp2_with fail
    refine (unhide HNP _).mono ?_
    rintro e w6 ⟨⟨v, r2, L2, rfl, hM, hv⟩, hB6⟩
    obtain ⟨a2, c2, rfl, hI2, _⟩ := hv.form
    have hs6 := hB6.size
    simp at hs6
    have hrow6 : w6.heap[w1.heap.size]? = some (.cells A 128 (0, 0)) := (hB6.block _ (by simp)).trans (Go.Deep.blk_alloc_new _ _)
    have hB16 : Below w1.heap.size w1 w6 := ((Below.refl _ w1).alloc (Nat.le_refl _) _).trans (hB6.mono (by simp))
    have hW6 := hW1.trans (hB16.mono hW1.size)
    have hz6 : w6.heap[w.heap.size + 1]? = some (.cells Tryz.zeroCells128 128 (0, 0)) := (hB16.block _ (by omega)).trans (unhide HZ1)
    have hx6 : ∀ i, w6.cell? ⟨w.heap.size, i, none⟩ = (#[Value.slice a n c, .slice ma mn mc, .int .i64 seq, .int .i64 o])[i]? := fun i => (hB16.cell (p := ⟨w.heap.size, i, none⟩) (by show w.heap.size < _; omega)).trans (unhide HX1 i)
    have HZ6 := hide hz6
    have hm6 := hx6 1
    have hq2 := hx6 2
    have hq3 := hx6 3
    simp at hm6 hq2 hq3
    have HI2 := hide hI2
    have HMM := hide hM
    have HR6 := hide hrow6
    have HI6 := hide ((unhide HI).below hW6 (Nat.le_refl _))
    clear hv hB6 hM hI2 hrow6 hz6 hx6 hB16 hW1 HX1 HZ1 HNP HI
    cases r2 with
    | false =>
      have hnf : ¬ Fits bs := fun hf => by have := (unhide HMM).1.2 hf; cases this
      have hstF := store_same Tryz.prog w6 (w.heap.size + 1) 128 Tryz.zeroCells128 (unhide HZ6) zeroCC_one
      have hldF := run_loadVar_row (P := Tryz.prog) w6 (w.heap.size + 1) 128 128 Tryz.zeroCells128 (0, 0) _ (unhide HZ6) Tryz.underlying128 rfl (by rw [zeroCC_size]; exact sizeCC')
      have HLF := hide hldF
      have HNF := hide hnf
      clear hldF hnf
      go_wp2
      exact bodyPost_ret (results_cell_slot 2 128 3 Tryz.results72 _ _ _ _ _ rfl (unhide HLF) rfl) rfl ⟨RightRet.no (fun hf => unhide HNF hf.fits), hW6⟩
    | true =>
      have hfit := (unhide HMM).1.1 rfl
      have hL2 : L2 = placesOf (usedOf bs) (roomOf bs) := by have := (unhide HMM).2; simpa using this
      have hl36 : L2.length ≤ 36 := (unhide HMM).length (by have := unhide HNN; omega)
      have HFT := hide hfit
      have HL2 := hide hL2
      clear hfit hL2 HMM
      obtain ⟨len, hlen⟩ : ∃ len, L2.length = len := ⟨_, rfl⟩
      rw [hlen] at hl36 ⊢
      have HLEN := hide hlen
      clear hlen
      go_wp2_with fail
      refine (slicesEqual_any ma a2 mc c2 L L2 mn len (unhide HL) (unhide HLEN) _ (unhide HI6) (unhide HI2) hmn (by omega)).mono ?_
      rintro e w7 ⟨⟨r3, rfl, hr3⟩, hB7⟩
      have hs7 := hB7.size
      have hW7 := hW6.trans (hB7.mono hW6.size)
      have HZ7 := hide ((hB7.block _ (by omega)).trans (unhide HZ6))
      have HR7 := hide ((hB7.block _ (by omega)).trans (unhide HR6))
      have hq2' := (hB7.cell (p := ⟨w.heap.size, 2, none⟩) (by show w.heap.size < _; omega)).trans hq2
      have hq3' := (hB7.cell (p := ⟨w.heap.size, 3, none⟩) (by show w.heap.size < _; omega)).trans hq3
      have HR3 := hide hr3
      clear hB7 hr3 hq2 hq3 hm6 HZ6 HR6 HI2 HI6 hW6
      cases r3 with
      | false =>
        have hstF := store_same Tryz.prog w7 (w.heap.size + 1) 128 Tryz.zeroCells128 (unhide HZ7) zeroCC_one
        have hldF := run_loadVar_row (P := Tryz.prog) w7 (w.heap.size + 1) 128 128 Tryz.zeroCells128 (0, 0) _ (unhide HZ7) Tryz.underlying128 rfl (by rw [zeroCC_size]; exact sizeCC')
        have HLF := hide hldF
        clear hldF
        go_wp2
        exact bodyPost_ret (results_cell_slot 2 128 3 Tryz.results72 _ _ _ _ _ rfl (unhide HLF) rfl) rfl ⟨RightRet.no (fun hf => by have := (unhide HR3).2 (hf.map.trans (unhide HL2).symm); cases this), hW7⟩
      | true =>
        have hLL : L = L2 := (unhide HR3).1 rfl
        have HLL : Hid (L = placesOf (usedOf bs) (roomOf bs)) := hLL.trans (unhide HL2)
        have HLD : Hid (∀ j, j < 205 → w7.cell? ⟨w1.heap.size, 0 + j, none⟩ = A[j]?) := fun j hj => by rw [Nat.zero_add]; exact cell_of_row _ _ j _ _ _ (unhide HR7)
        have hfld := run_field_np
        have hmix : Tryz.prog.follows .mixedOrders = true := by kernel_rfl
        have hLF : ∀ W, Below w7.heap.size w7 W → W.heap[w.heap.size + 1]? = some (.cells Tryz.zeroCells128 128 (0, 0)) := fun W hW => (hW.block _ (by omega)).trans (unhide HZ7)
        have HLFF := hide hLF
        have hTw : T + 1 ≤ 1000000001 := by omega
        clear hLL HR3 hLF HL2
        go_wp2_with fail
        by_cases hc1 : T + 1 ≤ seq ∧ seq ≤ 1000000000
        · have hd1 : decide (T + 1 ≤ seq ∧ seq ≤ 1000000000) = true := by simpa using hc1
          by_cases hc2 : 0 ≤ o ∧ o ≤ (n : Int) - 1
          · have hd2 : decide ((0 : Int) ≤ o ∧ o ≤ (n : Int) - 1) = true := by simpa using hc2
            by_cases hc3 : Settled bs o
            · have hd3 : ∀ r : Bool, (r = true ↔ Settled bs o) → r = true := fun r h => h.2 hc3
              refine wp_region_grown (Below w7.heap.size w7) hmix (by kernel_rfl) (below_drawn w7) ?_
              go_big_quiet_step (exact fun _ => rfl)
              refine wpQuiet_val rfl (.int .i64 seq) (fun W hC => ?_) ?_
              · have hcl := (hC.cell (p := ⟨w.heap.size, 2, none⟩) (by show w.heap.size < _; omega)).trans hq2'
                go_simp
              simp only [Act.put, List.setIfInBounds_toArray, List.set_cons_zero, List.set_cons_succ]
              refine wpQuiet_val rfl (.agg A) (fun W hC => quietAt_load_mid 128 _ rfl w1.heap.size 0 rfl A 205 hAs (fun j hj => (hC.cell (p := ⟨w1.heap.size, 0 + j, none⟩) (by show w1.heap.size < _; omega)).trans (unhide HLD j hj)) _ Tryz.underlying128 rfl sizeCC') ?_
              simp only [Act.put, List.setIfInBounds_toArray, List.set_cons_zero, List.set_cons_succ]
              refine wpQuiet_val rfl (.agg #[.int .i64 T, .int .i64 T2]) (fun W hC => ?_) ?_
              · go_simp
                refine (unhide HTOP W).mono ?_
                rintro e w' ⟨rfl, hB'⟩
                exact ⟨rfl, hC.trans (hB'.mono hC.size)⟩
              simp only [Act.put, List.setIfInBounds_toArray, List.set_cons_zero, List.set_cons_succ]
              go_big_quiet_step (exact fun _ => rfl)
              go_big_quiet_step (exact fun _ => rfl)
              refine wpQuiet_val rfl (.bool true) (fun W hC => ?_) ?_
              · go_simp
                refine (within_any seq (T + 1) 1000000000 W).mono ?_
                rintro e w' ⟨rfl, rfl⟩
                exact ⟨by rw [hd1], hC⟩
              simp only [Act.put, List.setIfInBounds_toArray, List.set_cons_zero, List.set_cons_succ]
              go_big_quiet_step (exact fun _ => rfl)
              go_big_quiet_step (exact fun _ => rfl)
              refine wpQuiet_val rfl (.agg A) (fun W hC => quietAt_load_mid 128 _ rfl w1.heap.size 0 rfl A 205 hAs (fun j hj => (hC.cell (p := ⟨w1.heap.size, 0 + j, none⟩) (by show w1.heap.size < _; omega)).trans (unhide HLD j hj)) _ Tryz.underlying128 rfl sizeCC') ?_
              simp only [Act.put, List.setIfInBounds_toArray, List.set_cons_zero, List.set_cons_succ]
              go_big_quiet_step (exact fun _ => rfl)
              refine wpQuiet_val rfl (.int .i64 o) (fun W hC => ?_) ?_
              · have hcl := (hC.cell (p := ⟨w.heap.size, 3, none⟩) (by show w.heap.size < _; omega)).trans hq3'
                go_simp
              simp only [Act.put, List.setIfInBounds_toArray, List.set_cons_zero, List.set_cons_succ]
              refine wpQuiet_val rfl (.bool true) (fun W hC => ?_) ?_
              · go_simp
                refine (has_any A (n : Int) (unhide HA0) (by omega) (by omega) o W).mono ?_
                rintro e w' ⟨rfl, hB'⟩
                exact ⟨by rw [hd2], hC.trans (hB'.mono hC.size)⟩
              simp only [Act.put, List.setIfInBounds_toArray, List.set_cons_zero, List.set_cons_succ]
              go_big_quiet_step (exact fun _ => rfl)
              go_big_quiet_step (exact fun _ => rfl)
              go_big_quiet_step (exact fun _ => rfl)
              refine wpQuiet_val rfl (.agg A) (fun W hC => quietAt_load_mid 128 _ rfl w1.heap.size 0 rfl A 205 hAs (fun j hj => (hC.cell (p := ⟨w1.heap.size, 0 + j, none⟩) (by show w1.heap.size < _; omega)).trans (unhide HLD j hj)) _ Tryz.underlying128 rfl sizeCC') ?_
              simp only [Act.put, List.setIfInBounds_toArray, List.set_cons_zero, List.set_cons_succ]
              go_big_quiet_step (exact fun _ => rfl)
              refine wpQuiet_val rfl (.int .i64 o) (fun W hC => ?_) ?_
              · have hcl := (hC.cell (p := ⟨w.heap.size, 3, none⟩) (by show w.heap.size < _; omega)).trans hq3'
                go_simp
              simp only [Act.put, List.setIfInBounds_toArray, List.set_cons_zero, List.set_cons_succ]
              refine wpQuiet_val rfl (.bool true) (fun W hC => ?_) ?_
              · go_simp
                refine (unhide HST W).mono ?_
                rintro e w' ⟨⟨r9, rfl, hr9⟩, hB'⟩
                refine ⟨?_, hC.trans (hB'.mono hC.size)⟩
                have := hd3 r9 hr9
                rw [this]
              simp only [Act.put, List.setIfInBounds_toArray, List.set_cons_zero, List.set_cons_succ]
              go_big_quiet_step (exact fun _ => rfl)
              go_big_quiet_step (exact fun _ => rfl)
              refine wpQuiet_nil ?_
              intro w8 hC8
              have hz8 := unhide HLFF w8 hC8
              have hr8 : w8.heap[w1.heap.size]? = some (.cells A 128 (0, 0)) := (hC8.block _ (by omega)).trans (unhide HR7)
              have hW8 := hW7.trans (hC8.mono hW7.size)
              have hstT := store_row Tryz.prog w8 (w.heap.size + 1) 128 Tryz.zeroCells128 A hz8 (by rw [zeroCC_size, hAs]) (unhide H1A)
              have hldT := run_loadVar_row (P := Tryz.prog) (w8.setRow (w.heap.size + 1) A) (w.heap.size + 1) 128 128 A (0, 0) _ (setRow_heap _ _ _ _ _ _ hz8) Tryz.underlying128 rfl (unhide HSZ)
              have hB9 : Below w.heap.size w (w8.setRow (w.heap.size + 1) A) := Below.setRow hW8 (by omega) _
              obtain ⟨W9, hW9⟩ : ∃ W9, W9 = w8.setRow (w.heap.size + 1) A := ⟨_, rfl⟩
              rw [← hW9] at hstT hldT hB9
              clear hW9
              have HLT := hide hldT
              have HR8 := hide hr8
              have HFIN : Hid (RightRet bs L seq o (.returned (.tuple #[.agg A, .bool true]))) := unhide HYES ⟨unhide HOK, unhide HFT, unhide HLL, by rw [unhide HTS]; exact hc1, by rw [← unhide HNN]; exact hc2, hc3⟩
              clear hldT hz8 hr8 hC8 hW8 hq2' hq3' HLD HR7 HLFF HTOP HST hW7 hfld
              go_wp2_with fail
              refine wp_load_row 128 _ rfl w1.heap.size rfl 128 A (0, 0) _ (unhide HR8) Tryz.underlying128 rfl (unhide HSZ) ?_
              go_wp2
              exact bodyPost_ret (results_cell_slot 2 128 3 Tryz.results72 _ _ _ _ _ rfl (unhide HLT) rfl) rfl ⟨unhide HFIN, hB9⟩
            · have hd3 : ∀ r : Bool, (r = true ↔ Settled bs o) → r = false := fun r h => by cases r; rfl; exact absurd (h.1 rfl) hc3
              refine wp_region_grown (Below w7.heap.size w7) hmix (by kernel_rfl) (below_drawn w7) ?_
              go_big_quiet_step (exact fun _ => rfl)
              refine wpQuiet_val rfl (.int .i64 seq) (fun W hC => ?_) ?_
              · have hcl := (hC.cell (p := ⟨w.heap.size, 2, none⟩) (by show w.heap.size < _; omega)).trans hq2'
                go_simp
              simp only [Act.put, List.setIfInBounds_toArray, List.set_cons_zero, List.set_cons_succ]
              refine wpQuiet_val rfl (.agg A) (fun W hC => quietAt_load_mid 128 _ rfl w1.heap.size 0 rfl A 205 hAs (fun j hj => (hC.cell (p := ⟨w1.heap.size, 0 + j, none⟩) (by show w1.heap.size < _; omega)).trans (unhide HLD j hj)) _ Tryz.underlying128 rfl sizeCC') ?_
              simp only [Act.put, List.setIfInBounds_toArray, List.set_cons_zero, List.set_cons_succ]
              refine wpQuiet_val rfl (.agg #[.int .i64 T, .int .i64 T2]) (fun W hC => ?_) ?_
              · go_simp
                refine (unhide HTOP W).mono ?_
                rintro e w' ⟨rfl, hB'⟩
                exact ⟨rfl, hC.trans (hB'.mono hC.size)⟩
              simp only [Act.put, List.setIfInBounds_toArray, List.set_cons_zero, List.set_cons_succ]
              go_big_quiet_step (exact fun _ => rfl)
              go_big_quiet_step (exact fun _ => rfl)
              refine wpQuiet_val rfl (.bool true) (fun W hC => ?_) ?_
              · go_simp
                refine (within_any seq (T + 1) 1000000000 W).mono ?_
                rintro e w' ⟨rfl, rfl⟩
                exact ⟨by rw [hd1], hC⟩
              simp only [Act.put, List.setIfInBounds_toArray, List.set_cons_zero, List.set_cons_succ]
              go_big_quiet_step (exact fun _ => rfl)
              go_big_quiet_step (exact fun _ => rfl)
              refine wpQuiet_val rfl (.agg A) (fun W hC => quietAt_load_mid 128 _ rfl w1.heap.size 0 rfl A 205 hAs (fun j hj => (hC.cell (p := ⟨w1.heap.size, 0 + j, none⟩) (by show w1.heap.size < _; omega)).trans (unhide HLD j hj)) _ Tryz.underlying128 rfl sizeCC') ?_
              simp only [Act.put, List.setIfInBounds_toArray, List.set_cons_zero, List.set_cons_succ]
              go_big_quiet_step (exact fun _ => rfl)
              refine wpQuiet_val rfl (.int .i64 o) (fun W hC => ?_) ?_
              · have hcl := (hC.cell (p := ⟨w.heap.size, 3, none⟩) (by show w.heap.size < _; omega)).trans hq3'
                go_simp
              simp only [Act.put, List.setIfInBounds_toArray, List.set_cons_zero, List.set_cons_succ]
              refine wpQuiet_val rfl (.bool true) (fun W hC => ?_) ?_
              · go_simp
                refine (has_any A (n : Int) (unhide HA0) (by omega) (by omega) o W).mono ?_
                rintro e w' ⟨rfl, hB'⟩
                exact ⟨by rw [hd2], hC.trans (hB'.mono hC.size)⟩
              simp only [Act.put, List.setIfInBounds_toArray, List.set_cons_zero, List.set_cons_succ]
              go_big_quiet_step (exact fun _ => rfl)
              go_big_quiet_step (exact fun _ => rfl)
              go_big_quiet_step (exact fun _ => rfl)
              refine wpQuiet_val rfl (.agg A) (fun W hC => quietAt_load_mid 128 _ rfl w1.heap.size 0 rfl A 205 hAs (fun j hj => (hC.cell (p := ⟨w1.heap.size, 0 + j, none⟩) (by show w1.heap.size < _; omega)).trans (unhide HLD j hj)) _ Tryz.underlying128 rfl sizeCC') ?_
              simp only [Act.put, List.setIfInBounds_toArray, List.set_cons_zero, List.set_cons_succ]
              go_big_quiet_step (exact fun _ => rfl)
              refine wpQuiet_val rfl (.int .i64 o) (fun W hC => ?_) ?_
              · have hcl := (hC.cell (p := ⟨w.heap.size, 3, none⟩) (by show w.heap.size < _; omega)).trans hq3'
                go_simp
              simp only [Act.put, List.setIfInBounds_toArray, List.set_cons_zero, List.set_cons_succ]
              refine wpQuiet_val rfl (.bool false) (fun W hC => ?_) ?_
              · go_simp
                refine (unhide HST W).mono ?_
                rintro e w' ⟨⟨r9, rfl, hr9⟩, hB'⟩
                refine ⟨?_, hC.trans (hB'.mono hC.size)⟩
                have := hd3 r9 hr9
                rw [this]
              simp only [Act.put, List.setIfInBounds_toArray, List.set_cons_zero, List.set_cons_succ]
              go_big_quiet_step (exact fun _ => rfl)
              go_big_quiet_step (exact fun _ => rfl)
              refine wpQuiet_nil ?_
              intro w8 hC8
              have hz8 := unhide HLFF w8 hC8
              have hW8 := hW7.trans (hC8.mono hW7.size)
              have hstF := store_same Tryz.prog w8 (w.heap.size + 1) 128 Tryz.zeroCells128 hz8 zeroCC_one
              have hldF := run_loadVar_row (P := Tryz.prog) w8 (w.heap.size + 1) 128 128 Tryz.zeroCells128 (0, 0) _ hz8 Tryz.underlying128 rfl (by rw [zeroCC_size]; exact sizeCC')
              have HLF := hide hldF
              have HNO : Hid (¬ FtlOk bs L seq o) := fun hf => hc3 hf.settled
              clear hldF hz8 hC8 hq2' hq3' HLD HR7 HLFF HTOP HST hW7 hfld
              go_wp2
              exact bodyPost_ret (results_cell_slot 2 128 3 Tryz.results72 _ _ _ _ _ rfl (unhide HLF) rfl) rfl ⟨RightRet.no (unhide HNO), hW8⟩
          · have hd2 : decide ((0 : Int) ≤ o ∧ o ≤ (n : Int) - 1) = false := by simpa using hc2
            refine wp_region_grown (Below w7.heap.size w7) hmix (by kernel_rfl) (below_drawn w7) ?_
            go_big_quiet_step (exact fun _ => rfl)
            refine wpQuiet_val rfl (.int .i64 seq) (fun W hC => ?_) ?_
            · have hcl := (hC.cell (p := ⟨w.heap.size, 2, none⟩) (by show w.heap.size < _; omega)).trans hq2'
              go_simp
            simp only [Act.put, List.setIfInBounds_toArray, List.set_cons_zero, List.set_cons_succ]
            refine wpQuiet_val rfl (.agg A) (fun W hC => quietAt_load_mid 128 _ rfl w1.heap.size 0 rfl A 205 hAs (fun j hj => (hC.cell (p := ⟨w1.heap.size, 0 + j, none⟩) (by show w1.heap.size < _; omega)).trans (unhide HLD j hj)) _ Tryz.underlying128 rfl sizeCC') ?_
            simp only [Act.put, List.setIfInBounds_toArray, List.set_cons_zero, List.set_cons_succ]
            refine wpQuiet_val rfl (.agg #[.int .i64 T, .int .i64 T2]) (fun W hC => ?_) ?_
            · go_simp
              refine (unhide HTOP W).mono ?_
              rintro e w' ⟨rfl, hB'⟩
              exact ⟨rfl, hC.trans (hB'.mono hC.size)⟩
            simp only [Act.put, List.setIfInBounds_toArray, List.set_cons_zero, List.set_cons_succ]
            go_big_quiet_step (exact fun _ => rfl)
            go_big_quiet_step (exact fun _ => rfl)
            refine wpQuiet_val rfl (.bool true) (fun W hC => ?_) ?_
            · go_simp
              refine (within_any seq (T + 1) 1000000000 W).mono ?_
              rintro e w' ⟨rfl, rfl⟩
              exact ⟨by rw [hd1], hC⟩
            simp only [Act.put, List.setIfInBounds_toArray, List.set_cons_zero, List.set_cons_succ]
            go_big_quiet_step (exact fun _ => rfl)
            go_big_quiet_step (exact fun _ => rfl)
            refine wpQuiet_val rfl (.agg A) (fun W hC => quietAt_load_mid 128 _ rfl w1.heap.size 0 rfl A 205 hAs (fun j hj => (hC.cell (p := ⟨w1.heap.size, 0 + j, none⟩) (by show w1.heap.size < _; omega)).trans (unhide HLD j hj)) _ Tryz.underlying128 rfl sizeCC') ?_
            simp only [Act.put, List.setIfInBounds_toArray, List.set_cons_zero, List.set_cons_succ]
            go_big_quiet_step (exact fun _ => rfl)
            refine wpQuiet_val rfl (.int .i64 o) (fun W hC => ?_) ?_
            · have hcl := (hC.cell (p := ⟨w.heap.size, 3, none⟩) (by show w.heap.size < _; omega)).trans hq3'
              go_simp
            simp only [Act.put, List.setIfInBounds_toArray, List.set_cons_zero, List.set_cons_succ]
            refine wpQuiet_val rfl (.bool false) (fun W hC => ?_) ?_
            · go_simp
              refine (has_any A (n : Int) (unhide HA0) (by omega) (by omega) o W).mono ?_
              rintro e w' ⟨rfl, hB'⟩
              exact ⟨by rw [hd2], hC.trans (hB'.mono hC.size)⟩
            simp only [Act.put, List.setIfInBounds_toArray, List.set_cons_zero, List.set_cons_succ]
            go_big_quiet_step (exact fun _ => rfl)
            go_big_quiet_step (exact fun _ => rfl)
            go_big_quiet_step (exact fun _ => rfl)
            go_big_quiet_step (exact fun _ => rfl)
            go_big_quiet_step (exact fun _ => rfl)
            go_big_quiet_step (exact fun _ => rfl)
            go_big_quiet_step (exact fun _ => rfl)
            go_big_quiet_step (exact fun _ => rfl)
            go_big_quiet_step (exact fun _ => rfl)
            refine wpQuiet_nil ?_
            intro w8 hC8
            have hz8 := unhide HLFF w8 hC8
            have hW8 := hW7.trans (hC8.mono hW7.size)
            have hstF := store_same Tryz.prog w8 (w.heap.size + 1) 128 Tryz.zeroCells128 hz8 zeroCC_one
            have hldF := run_loadVar_row (P := Tryz.prog) w8 (w.heap.size + 1) 128 128 Tryz.zeroCells128 (0, 0) _ hz8 Tryz.underlying128 rfl (by rw [zeroCC_size]; exact sizeCC')
            have HLF := hide hldF
            have HNO : Hid (¬ FtlOk bs L seq o) := fun hf => hc2 (by rw [unhide HNN]; exact hf.opn)
            clear hldF hz8 hC8 hq2' hq3' HLD HR7 HLFF HTOP HST hW7 hfld
            go_wp2
            exact bodyPost_ret (results_cell_slot 2 128 3 Tryz.results72 _ _ _ _ _ rfl (unhide HLF) rfl) rfl ⟨RightRet.no (unhide HNO), hW8⟩
        · have hd1 : decide (T + 1 ≤ seq ∧ seq ≤ 1000000000) = false := by simpa using hc1
          refine wp_region_grown (Below w7.heap.size w7) hmix (by kernel_rfl) (below_drawn w7) ?_
          go_big_quiet_step (exact fun _ => rfl)
          refine wpQuiet_val rfl (.int .i64 seq) (fun W hC => ?_) ?_
          · have hcl := (hC.cell (p := ⟨w.heap.size, 2, none⟩) (by show w.heap.size < _; omega)).trans hq2'
            go_simp
          simp only [Act.put, List.setIfInBounds_toArray, List.set_cons_zero, List.set_cons_succ]
          refine wpQuiet_val rfl (.agg A) (fun W hC => quietAt_load_mid 128 _ rfl w1.heap.size 0 rfl A 205 hAs (fun j hj => (hC.cell (p := ⟨w1.heap.size, 0 + j, none⟩) (by show w1.heap.size < _; omega)).trans (unhide HLD j hj)) _ Tryz.underlying128 rfl sizeCC') ?_
          simp only [Act.put, List.setIfInBounds_toArray, List.set_cons_zero, List.set_cons_succ]
          refine wpQuiet_val rfl (.agg #[.int .i64 T, .int .i64 T2]) (fun W hC => ?_) ?_
          · go_simp
            refine (unhide HTOP W).mono ?_
            rintro e w' ⟨rfl, hB'⟩
            exact ⟨rfl, hC.trans (hB'.mono hC.size)⟩
          simp only [Act.put, List.setIfInBounds_toArray, List.set_cons_zero, List.set_cons_succ]
          go_big_quiet_step (exact fun _ => rfl)
          go_big_quiet_step (exact fun _ => rfl)
          refine wpQuiet_val rfl (.bool false) (fun W hC => ?_) ?_
          · go_simp
            refine (within_any seq (T + 1) 1000000000 W).mono ?_
            rintro e w' ⟨rfl, rfl⟩
            exact ⟨by rw [hd1], hC⟩
          simp only [Act.put, List.setIfInBounds_toArray, List.set_cons_zero, List.set_cons_succ]
          go_big_quiet_step (exact fun _ => rfl)
          go_big_quiet_step (exact fun _ => rfl)
          go_big_quiet_step (exact fun _ => rfl)
          go_big_quiet_step (exact fun _ => rfl)
          go_big_quiet_step (exact fun _ => rfl)
          go_big_quiet_step (exact fun _ => rfl)
          go_big_quiet_step (exact fun _ => rfl)
          go_big_quiet_step (exact fun _ => rfl)
          go_big_quiet_step (exact fun _ => rfl)
          go_big_quiet_step (exact fun _ => rfl)
          go_big_quiet_step (exact fun _ => rfl)
          go_big_quiet_step (exact fun _ => rfl)
          go_big_quiet_step (exact fun _ => rfl)
          go_big_quiet_step (exact fun _ => rfl)
          go_big_quiet_step (exact fun _ => rfl)
          refine wpQuiet_nil ?_
          intro w8 hC8
          have hz8 := unhide HLFF w8 hC8
          have hW8 := hW7.trans (hC8.mono hW7.size)
          have hstF := store_same Tryz.prog w8 (w.heap.size + 1) 128 Tryz.zeroCells128 hz8 zeroCC_one
          have hldF := run_loadVar_row (P := Tryz.prog) w8 (w.heap.size + 1) 128 128 Tryz.zeroCells128 (0, 0) _ hz8 Tryz.underlying128 rfl (by rw [zeroCC_size]; exact sizeCC')
          have HLF := hide hldF
          have HNO : Hid (¬ FtlOk bs L seq o) := fun hf => hc1 (by rw [← unhide HTS]; exact hf.seq)
          clear hldF hz8 hC8 hq2' hq3' HLD HR7 HLFF HTOP HST hW7 hfld
          go_wp2
          exact bodyPost_ret (results_cell_slot 2 128 3 Tryz.results72 _ _ _ _ _ rfl (unhide HLF) rfl) rfl ⟨RightRet.no (unhide HNO), hW8⟩
end Go.Proofs.YtjgcjeaplckbbaaGreatDoor

/- What the library's contract of strings.Repeat asks of this program: its numbers. -/
namespace Go.Proofs.YtjgcjeaplckbbaaGreatDoor
open Go.Shelf
def rep_ren : Go.Shelf.Ren := ⟨fun | 105 => 191 | 212 => 247 | 99 => 248 | 165 => 249 | 166 => 250 | 170 => 251 | 169 => 252 | 263 => 273 | 264 => 274 | 206 => 275 | 240 => 276 | 241 => 277 | 276 => 284 | 277 => 285 | n => n, fun | 9 => 9 | 3 => 3 | 4 => 4 | 20 => 20 | 0 => 0 | 46 => 234 | 109 => 327 | 5 => 5 | 72 => 332 | 76 => 333 | 51 => 91 | 146 => 353 | 53 => 88 | 148 => 355 | 70 => 330 | 37 => 22 | 75 => 111 | 127 => 357 | 164 => 257 | 80 => 120 | n => n, fun | n => n⟩
theorem rep_lays : Go.Proofs.Lays.n105 Tryz.prog rep_ren := {
  mixed := by kernel_rfl
  f99 := Tryz.func248.trans (congrArg some (by kernel_rfl))
  f105 := Tryz.func191.trans (congrArg some (by kernel_rfl))
  f165 := Tryz.func249.trans (congrArg some (by kernel_rfl))
  f166 := Tryz.func250.trans (congrArg some (by kernel_rfl))
  f169 := Tryz.func252.trans (congrArg some (by kernel_rfl))
  f170 := Tryz.func251.trans (congrArg some (by kernel_rfl))
  f206 := Tryz.func275.trans (congrArg some (by kernel_rfl))
  f212 := Tryz.func247.trans (congrArg some (by kernel_rfl))
  f240 := Tryz.func276.trans (congrArg some (by kernel_rfl))
  f241 := Tryz.func277.trans (congrArg some (by kernel_rfl))
  f263 := Tryz.func273.trans (congrArg some (by kernel_rfl))
  f264 := Tryz.func274.trans (congrArg some (by kernel_rfl))
  f276 := Tryz.func284.trans (congrArg some (by kernel_rfl))
  f277 := Tryz.func285.trans (congrArg some (by kernel_rfl))
  t0 := Tryz.underlying0
  a0 := Tryz.isAgg0
  z0 := Tryz.sizeOf0
  v0 := Tryz.zeroValue0
  t3 := Tryz.underlying3
  a3 := Tryz.isAgg3
  z3 := Tryz.sizeOf3
  v3 := Tryz.zeroValue3
  t4 := Tryz.underlying4
  a4 := Tryz.isAgg4
  z4 := Tryz.sizeOf4
  v4 := Tryz.zeroValue4
  t5 := Tryz.underlying5
  a5 := Tryz.isAgg5
  z5 := Tryz.sizeOf5
  v5 := Tryz.zeroValue5
  t9 := Tryz.underlying9
  a9 := Tryz.isAgg9
  z9 := Tryz.sizeOf9
  v9 := Tryz.zeroValue9
  t20 := Tryz.underlying20
  a20 := Tryz.isAgg20
  z20 := Tryz.sizeOf20
  v20 := Tryz.zeroValue20
  t37 := Tryz.underlying22
  a37 := Tryz.isAgg22
  z37 := Tryz.sizeOf22
  v37 := Tryz.zeroValue22
  t46 := Tryz.underlying234
  a46 := Tryz.isAgg234
  z46 := Tryz.sizeOf234
  v46 := Tryz.zeroValue234
  t51 := Tryz.underlying91
  a51 := Tryz.isAgg91
  z51 := Tryz.sizeOf91
  v51 := Tryz.zeroValue91
  t53 := Tryz.underlying88
  a53 := Tryz.isAgg88
  z53 := Tryz.sizeOf88
  v53 := Tryz.zeroValue88
  t70 := Tryz.underlying330
  a70 := Tryz.isAgg330
  z70 := Tryz.sizeOf330
  v70 := Tryz.zeroValue330
  t72 := Tryz.underlying332
  a72 := Tryz.isAgg332
  z72 := Tryz.sizeOf332
  v72 := Tryz.zeroValue332
  t75 := Tryz.underlying111
  a75 := Tryz.isAgg111
  z75 := Tryz.sizeOf111
  v75 := Tryz.zeroValue111
  t76 := Tryz.underlying333
  a76 := Tryz.isAgg333
  z76 := Tryz.sizeOf333
  v76 := Tryz.zeroValue333
  t109 := Tryz.underlying327
  a109 := Tryz.isAgg327
  z109 := Tryz.sizeOf327
  v109 := Tryz.zeroValue327
  t127 := Tryz.underlying357
  a127 := Tryz.isAgg357
  z127 := Tryz.sizeOf357
  v127 := Tryz.zeroValue357
  t146 := Tryz.underlying353
  a146 := Tryz.isAgg353
  z146 := Tryz.sizeOf353
  v146 := Tryz.zeroValue353
  t148 := Tryz.underlying355
  a148 := Tryz.isAgg355
  z148 := Tryz.sizeOf355
  v148 := Tryz.zeroValue355
  t164 := Tryz.underlying257
  a164 := Tryz.isAgg257
  z164 := Tryz.sizeOf257
  v164 := Tryz.zeroValue257 }
theorem rep_extra : Builder.Extra Tryz.prog rep_ren := {
  sizeBuilder := by kernel_rfl
  liesBuilder := by kernel_rfl
  t5 := Tryz.underlying5
  a5 := Tryz.isAgg5
  z5 := Tryz.sizeOf5
  v5 := Tryz.zeroValue5
  infoByte := by kernel_rfl
  cellsByte := by kernel_rfl
  sizeByte := by kernel_rfl
  neB5 := by decide }
end Go.Proofs.YtjgcjeaplckbbaaGreatDoor

/- What is read of a log: the program's dataAt and PageAt. -/
namespace Go.Proofs.YtjgcjeaplckbbaaGreatDoor
open Go.RowKit
set_option linter.unusedVariables false
set_option linter.unusedSimpArgs false

theorem repeat4 (w : World) : Calls Tryz.prog 191 #[.string ⟨#[0]⟩, .int .i64 4] w fun e w' => e = .returned (.string zeros4) ∧ Below w.heap.size w w' := by
  refine (Any.strings_Repeat rep_lays rep_extra ⟨#[0]⟩ 4 w (by omega) (by decide)).mono ?_
  rintro e w1 ⟨rfl, hB⟩
  exact ⟨by rfl, hB⟩

theorem blankData_any (w : World) : Calls Tryz.prog 134 #[] w fun e w' => e = .returned (.string zeros4) ∧ Below w.heap.size w w' := by
  go_enter Tryz.func134, Tryz.ntmps134
  go_wp2_with fail
  refine (repeat4 _).mono ?_
  rintro e w1 ⟨rfl, hB⟩
  go_wp2
  go_ret
  exact ⟨rfl, hB⟩

set_option maxRecDepth 100000 in
set_option maxHeartbeats 1000000 in
theorem dataAt_any (A : Array Value) (m : CC) (bs : List Bk) (hbs : ccBs m bs.length = bs) (hAp : ∀ b k j, b < 12 → k < 4 → j < 4 → A[1 + b * 17 + 1 + k * 4 + j]? = some (pgV (m.page b k) j)) (L : List Int) (seq o : Int) (hok : FtlOk bs L seq o) (x : Int) (hx : x ∈ L) (w : World) :
    Calls Tryz.prog 73 #[.agg A, .int .i64 x] w fun e w' => e = .returned (.string (dataOf bs x)) ∧ Below w.heap.size w w' := by
  have hb0 : ∀ o, Below w.heap.size w (w.alloc o) := fun o => (Below.refl _ w).alloc (Nat.le_refl _) _
  have hpl := hok.places x hx
  by_cases h0 : x < 0
  · obtain rfl : x = -1 := by omega
    have HD := hide (dataOf_none (bs := bs) h0)
    clear hok hx hpl hAp hbs
    go_enter Tryz.func73, Tryz.ntmps73
    go_wp2_with fail
    refine (blankData_any _).mono ?_
    rintro e w1 ⟨rfl, hB⟩
    go_wp2
    go_ret
    exact ⟨by rw [unhide HD]; rfl, (hb0 _).trans (hB.mono (by simp))⟩
  · have hc := hok.chip.count
    obtain ⟨q, t, y, p, hq, ht, hqb, ht4, hy, hp⟩ := hok.placed hx (by omega)
    have HD := hide (dataOf_at (bs := bs) (by omega) hq ht hy hp)
    have hcd := hAp q t 3 (by omega) ht4 (by omega)
    have hpg : m.page q t = p := by
      have e := ccBs_at m hqb
      rw [hbs, hy] at e
      cases e
      have e2 := ccPs_at m q ht4
      rw [hp] at e2
      cases e2
      rfl
    rw [hpg] at hcd
    have hcw : ∀ ty, (w.alloc (.cells A ty)).cell? ⟨w.heap.size, 1 + q * 17 + 1 + t * 4 + 3, none⟩ = some (.string p.data) := fun ty => (cell_of_row _ _ _ _ _ _ (Go.Deep.blk_alloc_new _ _)).trans hcd
    have hq12 : (q : Int) < 12 := by omega
    have ht4' : (t : Int) < 4 := by omega
    have hx48 : x < 48 := by omega
    have hx0 : 0 ≤ x := by omega
    have hne : (x == -1) = false := by simp; omega
    clear hok hx hpl hAp hbs hcd hpg hy hp h0 hc hqb
    go_enter Tryz.func73, Tryz.ntmps73
    go_wp2
    go_ret
    exact ⟨by rw [unhide HD]; rfl, hb0 _⟩

set_option maxRecDepth 100000 in
set_option maxHeartbeats 1000000 in
theorem implPageAt_any (a : Option Addr) (c : Nat) (bs : List Bk) (n : Nat) (hl : bs.length = n) (ma : Option Addr) (mc : Nat) (L : List Int) (mn : Nat) (hL : L.length = mn) (seq o lg : Int) (w : World) (h : BlocksAt w a bs) (hn : Lens 9223372036854775807 bs) (hI : IntsAt w ma L) (hmn : mn ≤ 9223372036854775807) :
    Calls Tryz.prog 28 #[.agg #[.slice a n c, .slice ma mn mc, .int .i64 seq, .int .i64 o], .int .i64 lg] w fun e w' => ∃ (d : ByteArray) (r : Bool), e = .returned (.tuple #[.string d, .bool r]) ∧ PageIs bs L seq o lg d r ∧ Below w.heap.size w w' := by
  have hb0 : ∀ o, Below w.heap.size w (w.alloc o) := fun o => (Below.refl _ w).alloc (Nat.le_refl _) _
  have hmix : Tryz.prog.follows .mixedOrders = true := by kernel_rfl
  go_enter Tryz.func28, Tryz.ntmps28
  go_wp2_with fail
  refine (rightCells_any a c bs n hl ma mc L mn hL seq o _ (h.below (hb0 _) (Nat.le_refl _)) hn (hI.below (hb0 _) (Nat.le_refl _)) hmn).mono ?_
  rintro e w1 ⟨⟨m, r, rfl, hr, hm⟩, hB1⟩
  have hW1 : Below w.heap.size w w1 := (hb0 _).trans (hB1.mono (by simp))
  have hs1 := hB1.size
  simp at hs1
  have hx1 : ∀ o', (w1.alloc o').cell? ⟨w.heap.size, 1, none⟩ = some (.slice ma mn mc) := fun o' => by
    rw [cell_alloc_lt _ _ _ _ (by omega), hB1.cell (p := ⟨w.heap.size, 1, none⟩) (by simp)]
    simp
  have hsc := store_cc m w1
  have hAs := ccA_size m
  have hA0 := ccA_count m
  have HSZ := hide (sizeCC m)
  have HAP := hide (fun b k j hb hk hj => ccA_page m (b := b) (k := k) (j := j) hb hk hj)
  have HR := hide hr
  have HM := hide hm
  have HI := hide (hI.below hW1 (Nat.le_refl _))
  have HL := hide hl
  have HLL := hide hL
  generalize ccA m = A at hsc hAs hA0 HSZ HAP
  have HA0 := hide hA0
  clear hr hm hA0 h hn hB1 hb0 hI hl hL
  cases r with
  | false =>
    go_wp2
    exact bodyPost_ret (v := .tuple #[.string ⟨#[]⟩, .bool false]) (by simp [results, Tryz.results28, go_sem]) rfl ⟨_, _, rfl, .inr ⟨(fun hc => by have := (unhide HR).2 hc.1; cases this), rfl, rfl⟩, hW1.alloc hW1.size _⟩
  | true =>
    have hok := (unhide HR).1 (by trivial)
    have hc12 : 4 ≤ n ∧ n ≤ 12 := by have := hok.chip.count; have := unhide HL; omega
    have hmn4 : (mn : Int) = 4 * ((n : Int) - 3) := by have := hok.len; have := unhide HLL; have := unhide HL; omega
    obtain ⟨hct, hbss⟩ := unhide HM (by trivial)
    have hA0 := unhide HA0
    rw [hct, unhide HL] at hA0
    have hc0 : (w1.alloc (.cells A 128)).cell? ⟨w1.heap.size, 0, none⟩ = some (.int .i64 (n : Int)) := (cell_of_row _ _ 0 _ _ _ (Go.Deep.blk_alloc_new _ _)).trans hA0
    have HS := hide hbss
    have HO := hide hok
    have HMN := hide hmn4
    obtain ⟨w2, hw2⟩ : ∃ w2, w2 = w1.alloc (.cells A 128) := ⟨_, rfl⟩
    have hx2 := hx1 (.cells A 128)
    rw [← hw2] at hc0 hsc hx2
    have hs2 : w1.heap.size < w2.heap.size := by rw [hw2]; simp
    have HLD : Hid (∀ j, j < 205 → w2.cell? ⟨w1.heap.size, 0 + j, none⟩ = A[j]?) := fun j hj => by rw [hw2, Nat.zero_add]; exact cell_of_row _ _ j _ _ _ (Go.Deep.blk_alloc_new _ _)
    have hW2 : Below w.heap.size w w2 := by rw [hw2]; exact hW1.alloc hW1.size _
    have HI2 : Hid (IntsAt w2 ma L) := by rw [hw2]; exact (unhide HI).below ((Below.refl _ w1).alloc (Nat.le_refl _) _) (Nat.le_refl _)
    clear hok hA0 HA0 HM hct hbss hw2 hx1 HI hW1 hmn4
    go_wp2_with fail
    refine (implRoomFor_any (n : Int) _).mono ?_
    rintro e w3 ⟨rfl, rfl⟩
    rw [roomI_in (by omega), ← unhide HMN]
    have hmn36 : mn ≤ 36 := by have := unhide HMN; omega
    go_wp2_with fail
    refine (within_any _ _ _ _).mono ?_
    rintro e w4 ⟨rfl, rfl⟩
    by_cases hin : 0 ≤ lg ∧ lg ≤ (mn : Int) - 1
    · obtain ⟨k, rfl⟩ := Int.eq_ofNat_of_zero_le hin.1
      obtain ⟨x, hx⟩ := getElem?_ex (l := L) (k := k) (by have := unhide HLL; omega)
      have hd : decide ((0 : Int) ≤ (k : Int) ∧ (k : Int) ≤ (mn : Int) - 1) = true := by simpa using hin
      rw [hd]
      have hkm : (k : Int) < (mn : Int) := by omega
      obtain ⟨b1, o1, rfl, hcx⟩ := (unhide HI2) k x hx
      have hb1 : b1 < w4.heap.size := World.block_lt_of_cell? _ _ hcx
      have HDA : Hid (∀ W, Calls Tryz.prog 73 #[.agg A, .int .i64 x] W fun e w' => e = .returned (.string (dataOf bs x)) ∧ Below W.heap.size W w') := fun W => dataAt_any A m bs (unhide HS) (unhide HAP) L seq o (unhide HO) x (List.mem_of_getElem? hx) W
      have HX := hide hx
      have HIN := hide hin
      obtain ⟨D, hD⟩ : ∃ D, D = dataOf bs x := ⟨_, rfl⟩
      rw [← hD] at HDA
      have HDD := hide hD
      clear hx hin hd hc0 hsc hD
      go_wp2_with fail
      refine wp_region_grown (Below w4.heap.size w4) hmix (by kernel_rfl) (below_drawn w4) ?_
      refine wpQuiet_val rfl (.agg A) (fun W hC => quietAt_load_mid 128 _ rfl w1.heap.size 0 rfl A 205 hAs (fun j hj => (hC.cell (p := ⟨w1.heap.size, 0 + j, none⟩) (by show w1.heap.size < _; omega)).trans (unhide HLD j hj)) _ Tryz.underlying128 rfl sizeCC') ?_
      simp only [Act.put, List.setIfInBounds_toArray, List.set_cons_zero, List.set_cons_succ]
      go_big_quiet_step (exact fun _ => rfl)
      refine wpQuiet_val rfl (.slice (some ⟨b1, o1, none⟩) mn mc) (fun W hC => ?_) ?_
      · have hcl := (hC.cell (p := ⟨w.heap.size, 1, none⟩) (by show w.heap.size < _; omega)).trans hx2
        go_simp
      simp only [Act.put, List.setIfInBounds_toArray, List.set_cons_zero, List.set_cons_succ]
      go_big_quiet_step (exact fun _ => rfl)
      go_big_quiet_step (exact fun _ => rfl)
      refine wpQuiet_val rfl (.int .i64 x) (fun W hC => ?_) ?_
      · have hcl := (hC.cell (p := ⟨b1, o1 + k, none⟩) hb1).trans hcx
        go_simp
      simp only [Act.put, List.setIfInBounds_toArray, List.set_cons_zero, List.set_cons_succ]
      refine wpQuiet_val rfl (.string D) (fun W hC => ?_) ?_
      · go_simp
        refine (unhide HDA W).mono ?_
        rintro e w' ⟨rfl, hB'⟩
        exact ⟨rfl, hC.trans (hB'.mono hC.size)⟩
      simp only [Act.put, List.setIfInBounds_toArray, List.set_cons_zero, List.set_cons_succ]
      go_big_quiet_step (exact fun _ => rfl)
      go_big_quiet_step (exact fun _ => rfl)
      refine wpQuiet_nil ?_
      intro w8 hC8
      have hW8 := hW2.trans (hC8.mono hW2.size)
      clear hC8 hx2 hcx HDA
      go_wp2
      exact bodyPost_ret (v := .tuple #[.string D, .bool true]) (by simp [results, Tryz.results28, go_sem]) rfl ⟨_, _, rfl, .inl ⟨⟨unhide HO, (unhide HIN).1, by rw [unhide HLL]; exact (unhide HIN).2⟩, rfl, x, by simpa using unhide HX, unhide HDD⟩, hW8⟩
    · have hd : decide ((0 : Int) ≤ lg ∧ lg ≤ (mn : Int) - 1) = false := by simpa using hin
      rw [hd]
      clear hc0 hsc hx2
      go_wp2
      exact bodyPost_ret (v := .tuple #[.string ⟨#[]⟩, .bool false]) (by simp [results, Tryz.results28, go_sem]) rfl ⟨_, _, rfl, .inr ⟨fun hc => hin (by rw [← unhide HLL]; exact hc.2), rfl, rfl⟩, hW2⟩
end Go.Proofs.YtjgcjeaplckbbaaGreatDoor

/- The reader that draws: next, below, once, word, near, off. -/
namespace Go.Proofs.YtjgcjeaplckbbaaGreatDoor
open Go.RowKit
set_option linter.unusedVariables false
set_option linter.unusedSimpArgs false

/-- n bytes lie from the address a on, in a block ahead of r. -/
def BytesAt (w : World) (a : Option Addr) (n r : Nat) : Prop :=
  ∀ i, i < n → ∃ b o x, a = some ⟨b, o, none⟩ ∧ b < r ∧ w.cell? ⟨b, o + i, none⟩ = some (.int .u8 x) ∧ 0 ≤ x ∧ x < 256

theorem BytesAt.touch {w w' : World} {a : Option Addr} {n r : Nat} (h : BytesAt w a n r) (hT : Touch (· = r) w w') : BytesAt w' a n r := by
  intro i hi
  obtain ⟨b, o, x, ha, hb, hc, h0, h1⟩ := h i hi
  exact ⟨b, o, x, ha, hb, (World.cell?_of_block (w := w) (a := ⟨b, o + i, none⟩) (hT.block b (World.block_lt_of_cell? _ _ hc) (Nat.ne_of_lt hb))).trans hc, h0, h1⟩

/-- A reader over n bytes in block r. -/
def RdAt (w : World) (r : Nat) : Prop :=
  ∃ (a : Option Addr) (n c p : Nat), w.cell? ⟨r, 0, none⟩ = some (.slice a n c) ∧ w.cell? ⟨r, 1, none⟩ = some (.int .i64 (p : Int)) ∧ ((∀ i, w.frozen? ⟨r, i, none⟩ = false) ∧ ∀ i, w.cell? ⟨r, i + 2, none⟩ = none) ∧ p ≤ n ∧ n ≤ 1048576 ∧ BytesAt w a n r

theorem RdAt.lt {w : World} {r : Nat} (h : RdAt w r) : r < w.heap.size := by
  obtain ⟨a, n, c, p, h0, _⟩ := h
  exact World.block_lt_of_cell? _ _ h0

/-- What leaves the reader and all that is older as it was. -/
theorem RdAt.past {w w' : World} {r B : Nat} (h : RdAt w r) (hb : Below B w w') (hlt : r < B) : RdAt w' r := by
  obtain ⟨a, n, c, p, h0, h1, hf, h2, h3, h4⟩ := h
  refine ⟨a, n, c, p, (hb.cell (p := ⟨r, 0, none⟩) hlt).trans h0, (hb.cell (p := ⟨r, 1, none⟩) hlt).trans h1, ⟨fun i => (hb.frozen (p := ⟨r, i, none⟩) hlt).trans (hf.1 i), fun i => (hb.cell (p := ⟨r, i + 2, none⟩) hlt).trans (hf.2 i)⟩, h2, h3, fun i hi => ?_⟩
  obtain ⟨b, o, x, ha, hb', hc, hx⟩ := h4 i hi
  exact ⟨b, o, x, ha, hb', (hb.cell (p := ⟨b, o + i, none⟩) (Nat.lt_trans hb' hlt)).trans hc, hx⟩

theorem RdAt.below {w w' : World} {r : Nat} (h : RdAt w r) (hb : Below w.heap.size w w') : RdAt w' r := h.past hb h.lt

set_option maxHeartbeats 1000000 in
theorem rdNext_any (r : Nat) (w : World) (h : RdAt w r) :
    Calls Tryz.prog 142 #[.pointer (some ⟨r, 0, none⟩)] w fun e w' => ∃ x : Int, e = .returned (.int .i64 x) ∧ 0 ≤ x ∧ x < 256 ∧ RdAt w' r ∧ Touch (· = r) w w' := by
  obtain ⟨a, n, c, p, h0, h1, ⟨hf, hz⟩, hp, hn, hb⟩ := h
  have HZ := hide hz
  clear hz
  by_cases hlt : p < n
  · obtain ⟨b, o, x, rfl, hbr, hc, hx0, hx1⟩ := hb p hlt
    have HB := hide hb
    have hrb : ¬ r = b := by omega
    have hbr2 : ¬ b = r := by omega
    clear hb
    go_enter Tryz.func142, Tryz.ntmps142
    go_wp2
    go_region
    all_goals (
      go_wp2
      go_region
      all_goals (
        go_wp2
        go_ret
        have hT : Touch (· = r) w (w.setCell ⟨r, 1, none⟩ (.int .i64 ((p : Int) + 1))).drew.drew := ((Touch.setCell (S := fun x => x = r) (Touch.refl _ w) (p := ⟨r, 1, none⟩) rfl _).drew).drew
        refine ⟨x, rfl, hx0, hx1, ⟨_, n, c, p + 1, ?_, ?_, ⟨?_, ?_⟩, by omega, hn, (unhide HB).touch hT⟩, hT⟩
        · show (w.setCell ⟨r, 1, none⟩ _).cell? ⟨r, 0, none⟩ = _
          rw [World.cell?_setCell_other _ _ _ _ (by simp)]; exact h0
        · show (w.setCell ⟨r, 1, none⟩ _).cell? ⟨r, 1, none⟩ = _
          rw [World.cell?_setCell_same' _ _ _ (by rw [h1]; rfl)]; simp
        · intro i
          show (w.setCell ⟨r, 1, none⟩ _).frozen? ⟨r, i, none⟩ = _
          simpa using hf i
        · intro i
          show (w.setCell ⟨r, 1, none⟩ _).cell? ⟨r, i + 2, none⟩ = _
          rw [World.cell?_setCell_other _ _ _ _ (by simp <;> omega)]; exact unhide HZ i))
  · have HB := hide hb
    clear hb
    go_enter Tryz.func142, Tryz.ntmps142
    go_wp2
    go_region
    all_goals (
      go_wp2
      go_ret
      exact ⟨0, rfl, by omega, by omega, ⟨a, n, c, p, h0, h1, ⟨hf, unhide HZ⟩, hp, hn, (unhide HB).touch (Touch.refl _ w).drew⟩, (Touch.refl _ w).drew⟩)

set_option maxHeartbeats 1000000 in
theorem below_any (r : Nat) (m : Int) (w : World) (h : RdAt w r) (hm1 : 1 < m) (hm2 : m ≤ 1000000000000) :
    Calls Tryz.prog 75 #[.pointer (some ⟨r, 0, none⟩), .int .i64 m] w fun e w' => ∃ x : Int, e = .returned (.int .i64 x) ∧ 0 ≤ x ∧ x < m ∧ RdAt w' r ∧ Touch (· = r) w w' := by
  have hm0 : ¬ m = 0 := by omega
  go_enter Tryz.func75, Tryz.ntmps75
  by_cases hb : m ≤ 256
  · go_wp2_with fail
    refine (rdNext_any r _ h).mono ?_
    rintro e w1 ⟨x, rfl, hx0, hx1, hR, hT⟩
    have hq0 : 0 ≤ x % m := Int.emod_nonneg _ hm0
    have hq1 : x % m < m := Int.emod_lt_of_pos _ (by omega)
    have HR := hide hR
    clear h hR
    go_wp2
    go_ret
    exact ⟨_, rfl, hq0, hq1, unhide HR, hT⟩
  · go_wp2_with fail
    refine (rdNext_any r _ h).mono ?_
    rintro e w1 ⟨x, rfl, hx0, hx1, hR, hT⟩
    have HR := hide hR
    clear h hR
    go_wp2_with fail
    refine (rdNext_any r _ (unhide HR)).mono ?_
    rintro e w2 ⟨y, rfl, hy0, hy1, hR2, hT2⟩
    have hq0 : 0 ≤ (x * 256 + y) % m := Int.emod_nonneg _ hm0
    have hq1 : (x * 256 + y) % m < m := Int.emod_lt_of_pos _ (by omega)
    have HR2 := hide hR2
    clear hR2 HR
    go_wp2
    go_ret
    exact ⟨_, rfl, hq0, hq1, unhide HR2, hT.trans hT2⟩

set_option maxHeartbeats 1000000 in
theorem once_any (r : Nat) (m : Int) (w : World) (h : RdAt w r) (hm1 : 1 < m) (hm2 : m ≤ 1000000000000) :
    Calls Tryz.prog 97 #[.pointer (some ⟨r, 0, none⟩), .int .i64 m] w fun e w' => ∃ x : Int, e = .returned (.bool (x == m - 1)) ∧ RdAt w' r ∧ Touch (· = r) w w' := by
  go_enter Tryz.func97, Tryz.ntmps97
  go_wp2_with fail
  refine (below_any r m _ h hm1 hm2).mono ?_
  rintro e w1 ⟨x, rfl, hx0, hx1, hR, hT⟩
  have HR := hide hR
  clear h hR
  go_wp2
  go_ret
  exact ⟨x, rfl, unhide HR, hT⟩

set_option maxHeartbeats 1000000 in
theorem word_any (r : Nat) (w : World) (h : RdAt w r) :
    Calls Tryz.prog 162 #[.pointer (some ⟨r, 0, none⟩)] w fun e w' => ∃ x : Int, e = .returned (.int .u64 x) ∧ RdAt w' r ∧ Touch (· = r) w w' := by
  go_enter Tryz.func162, Tryz.ntmps162
  go_wp2
  go_loopw [3, 4] (fun v i wr => ∃ (k : Nat) (x : Int), k ≤ 8 ∧ i = .int .i64 k ∧ v = .int .u64 x ∧ RdAt wr r ∧ Touch (· = r) w wr) (fun _ i _ => 8 - (intOf i).toNat)
  case atStart => exact ⟨0, 0, by omega, rfl, rfl, h, Touch.refl _ _⟩
  case round =>
    obtain ⟨k, x, hk, rfl, rfl, hR, hT⟩ := hrel
    have HR := hide hR
    clear hR h
    by_cases hlt : k < 8
    · go_wp2_with fail
      refine (rdNext_any r _ (unhide HR)).mono ?_
      rintro e w1 ⟨y, rfl, hy0, hy1, hR1, hT1⟩
      have HR1 := hide hR1
      clear hR1 HR
      go_wp2
      go_roundw
      case rel => exact ⟨k + 1, _, by omega, by go_num, rfl, unhide HR1, hT.trans hT1⟩
      case measure => simp [intOf]; omega
    · go_wp2
      go_ret
      exact ⟨x, rfl, unhide HR, hT⟩

set_option maxHeartbeats 1000000 in
theorem near_any (r : Nat) (lo hi : Int) (w : World) (h : RdAt w r) (h0 : -1000000000000 ≤ lo) (h1 : lo ≤ hi) (h2 : hi ≤ 1000000000000) :
    Calls Tryz.prog 98 #[.pointer (some ⟨r, 0, none⟩), .int .i64 lo, .int .i64 hi] w fun e w' => ∃ x : Int, e = .returned (.int .i64 x) ∧ RdAt w' r ∧ Touch (· = r) w w' := by
  go_enter Tryz.func98, Tryz.ntmps98
  go_wp2_with fail
  refine (below_any r 8 _ h (by omega) (by omega)).mono ?_
  rintro e w1 ⟨x, rfl, hx0, hx1, hR, hT⟩
  have HR := hide hR
  clear h hR
  by_cases e0 : x = 0
  · have hb : (x == 0) = true := by simpa using e0
    go_wp2
    go_ret
    exact ⟨_, rfl, unhide HR, hT⟩
  · have hb : (x == 0) = false := by simpa using e0
    by_cases e1 : x = 1
    · have hb : (x == 1) = true := by simpa using e1
      go_wp2
      go_ret
      exact ⟨_, rfl, unhide HR, hT⟩
    · have hb : (x == 1) = false := by simpa using e1
      have hnz : ¬ hi - lo + 1 = 0 := by omega
      go_wp2_with fail
      refine (word_any r _ (unhide HR)).mono ?_
      rintro e w2 ⟨y, rfl, hR2, hT2⟩
      have HR2 := hide hR2
      clear hR2 HR
      go_wp2
      go_ret
      exact ⟨_, rfl, unhide HR2, hT.trans hT2⟩

theorem Touch.cell {S : Nat → Prop} {w w' : World} (h : Touch S w w') {b o : Nat} (hb : b < w.heap.size) (hs : ¬ S b) : w'.cell? ⟨b, o, none⟩ = w.cell? ⟨b, o, none⟩ :=
  World.cell?_of_block (w := w) (a := ⟨b, o, none⟩) (h.block b hb hs)

theorem Touch.frozen {S : Nat → Prop} {w w' : World} (h : Touch S w w') {b o : Nat} (hb : b < w.heap.size) (hs : ¬ S b) : w'.frozen? ⟨b, o, none⟩ = w.frozen? ⟨b, o, none⟩ := by
  simp [World.frozen?, h.block b hb hs]

theorem Touch.past {S : Nat → Prop} {w w' w2 : World} (h : Touch S w w') {B : Nat} (hb : Below B w' w2) (hB : w.heap.size ≤ B) : Touch S w w2 :=
  ⟨hb.os.trans h.os, hb.tape.trans h.tape, hb.output.trans h.output, Nat.le_trans h.size hb.size, fun k hk hs => (hb.block k (Nat.lt_of_lt_of_le hk hB)).trans (h.block k hk hs)⟩

theorem Touch.alloc {S : Nat → Prop} {w w' : World} (h : Touch S w w') (o : Obj) : Touch S w (w'.alloc o) :=
  h.trans (Touch.of_below ((Below.refl _ _).alloc (Nat.le_refl _) _))

set_option maxHeartbeats 1000000 in
theorem off_any (r : Nat) (lo hi : Int) (w : World) (h : RdAt w r) (h0 : -1000000000000 ≤ lo) (h1 : lo ≤ hi) (h2 : hi ≤ 1000000000000) :
    Calls Tryz.prog 46 #[.pointer (some ⟨r, 0, none⟩), .int .i64 lo, .int .i64 hi] w fun e w' => ∃ x : Int, e = .returned (.int .i64 x) ∧ RdAt w' r ∧ Touch (· = r) w w' := by
  go_enter Tryz.func46, Tryz.ntmps46
  go_wp2_with fail
  refine (once_any r 24 _ h (by omega) (by omega)).mono ?_
  rintro e w1 ⟨x, rfl, hR, hT⟩
  have HR := hide hR
  have hrl := hR.lt
  clear h hR
  cases hb : (x == (24 : Int) - 1) with
  | false =>
    go_wp2_with fail
    refine (near_any r lo hi _ (unhide HR) h0 h1 h2).mono ?_
    rintro e w2 ⟨y, rfl, hR2, hT2⟩
    have HR2 := hide hR2
    clear hR2 HR
    go_wp2
    go_ret
    exact ⟨_, rfl, unhide HR2, hT.trans hT2⟩
  | true =>
    go_wp2_with fail
    have hB1 : ∀ o, Below w1.heap.size w1 (w1.alloc o) := fun o => (Below.refl _ _).alloc (Nat.le_refl _) _
    refine (below_any r 4 _ ((unhide HR).below (hB1 _)) (by omega) (by omega)).mono ?_
    rintro e w2 ⟨y, rfl, hy0, hy1, hR2, hT2⟩
    have HR2 := hide hR2
    have hT3 := (hT.alloc _).trans hT2
    have hc : ∀ o, w2.cell? ⟨w1.heap.size, o, none⟩ = (w1.alloc (.cells #[.int .i64 (lo - 1), .int .i64 (hi + 1), .int .i64 (-9223372036854775808), .int .i64 9223372036854775807] 2)).cell? ⟨w1.heap.size, o, none⟩ := fun o => hT2.cell (by simp) (by show ¬ w1.heap.size = r; omega)
    have c0 : w2.cell? ⟨w1.heap.size, 0, none⟩ = some (.int .i64 (lo - 1)) := by rw [hc]; simp
    have c1 : w2.cell? ⟨w1.heap.size, 1, none⟩ = some (.int .i64 (hi + 1)) := by rw [hc]; simp
    have c2 : w2.cell? ⟨w1.heap.size, 2, none⟩ = some (.int .i64 (-9223372036854775808)) := by rw [hc]; simp
    have c3 : w2.cell? ⟨w1.heap.size, 3, none⟩ = some (.int .i64 9223372036854775807) := by rw [hc]; simp
    have h4 : y = 0 ∨ y = 1 ∨ y = 2 ∨ y = 3 := by omega
    clear hR2 HR hT2 hc hT hB1
    rcases h4 with rfl | rfl | rfl | rfl
    all_goals (
      go_wp2
      go_ret
      exact ⟨_, rfl, unhide HR2, hT3⟩)

end Go.Proofs.YtjgcjeaplckbbaaGreatDoor

/- A reader is opened over a code; whether a code is too long. -/
namespace Go.Proofs.YtjgcjeaplckbbaaGreatDoor
open Go.RowKit Go.ChangeShapes Go.WideShapes
set_option linter.unusedVariables false
set_option linter.unusedSimpArgs false

/-- A code of n bytes from the address a on. -/
def CodeAt (w : World) (a : Option Addr) (n : Nat) : Prop :=
  ∀ i, i < n → ∃ b o x, a = some ⟨b, o, none⟩ ∧ w.cell? ⟨b, o + i, none⟩ = some (.int .u8 x) ∧ 0 ≤ x ∧ x < 256

theorem CodeAt.below {w w' : World} {a : Option Addr} {n B : Nat} (h : CodeAt w a n) (hb : Below B w w') (hB : w.heap.size ≤ B) : CodeAt w' a n := by
  intro i hi
  obtain ⟨b, o, x, ha, hc, hx⟩ := h i hi
  exact ⟨b, o, x, ha, (hb.cell (p := ⟨b, o + i, none⟩) (Nat.lt_of_lt_of_le (World.block_lt_of_cell? _ _ hc) hB)).trans hc, hx⟩

theorem big_any (a : Option Addr) (n c : Nat) (w : World) (hn : n ≤ 9223372036854775807) :
    Calls Tryz.prog 12 #[.slice a n c] w fun e w' => e = .returned (.bool (decide ((1048576 : Int) < (n : Int)))) ∧ w' = w := by
  go_enter Tryz.func12, Tryz.ntmps12
  by_cases h : (1048576 : Int) < (n : Int)
  · go_wp2
    go_ret
    exact ⟨by simp; omega, rfl⟩
  · go_wp2
    go_ret
    exact ⟨by simp; omega, rfl⟩

theorem l1Open_any (a : Option Addr) (n c : Nat) (w : World) (h : CodeAt w a n) (hn : n ≤ 1048576) :
    Calls Tryz.prog 44 #[.slice a n c] w fun e w' => e = .returned (.pointer (some ⟨w.heap.size, 0, none⟩)) ∧ RdAt w' w.heap.size ∧ Below w.heap.size w w' := by
  go_enter Tryz.func44, Tryz.ntmps44
  go_wp2
  go_ret
  have hB : ∀ o, Below w.heap.size w (w.alloc o) := fun o => (Below.refl _ _).alloc (Nat.le_refl _) _
  refine ⟨rfl, ⟨a, n, c, 0, by simp, by simp, ⟨fun i => ?_, fun i => ?_⟩, Nat.zero_le _, hn, fun i hi => ?_⟩, hB _⟩
  · exact (World.rowIs_alloc w #[.slice a n c, .int .i64 0] 158 (fun i => if i = 0 then .slice a n c else .int .i64 0) (fun j hj => by
      have h2 : j = 0 ∨ j = 1 := by simp at hj; omega
      rcases h2 with rfl | rfl <;> rfl)).frozen i
  · exact (cell_of_row _ _ (i + 2) _ _ _ (Go.Deep.blk_alloc_new _ _)).trans (by simp)
  · obtain ⟨b, o, x, ha, hc, hx⟩ := (h.below (hB _) (Nat.le_refl _)) i hi
    obtain ⟨b', o', x', ha', hc', _⟩ := h i hi
    rw [ha] at ha'
    cases ha'
    exact ⟨b, o, x, ha, World.block_lt_of_cell? _ _ hc', hc, hx⟩

theorem open_code {H : Type} {enc : TypeId × Value → H} {P : Program} {w : World} {base b0 : Nat} {spare : Nat → Bool} {held : Bool} {t e : TypeId} {v : Value} {d : DataW H} {p : List MemPlace}
    (ht : P.underlying t = some (.slice e)) (he : P.underlying e = some (.int .u8)) (hc : P.cellsOf e = 1) (hv : Value.okWide P w .any b0 t v) (h : DataW.Trod enc P w base spare held t v d p) :
    ∃ (a : Option Addr) (n c : Nat), v = .slice a n c ∧ CodeAt w a n ∧ n ≤ 9223372036854775807 := by
  obtain ⟨a, len, cap, rfl⟩ := okWide_slice ht hv
  obtain ⟨fuel, hf⟩ := h
  rcases open_ints ht he hc hf with ⟨h0, _⟩ | ⟨a', len', cap', zs, h0, hb, hl, hm, hz, _, hcell, hwf⟩
  · cases h0
    exact ⟨none, 0, 0, rfl, fun i hi => absurd hi (Nat.not_lt_zero _), by omega⟩
  · cases h0
    have hle : len ≤ zs.length := by rw [hz]; split <;> omega
    refine ⟨some a', len, cap, rfl, fun i hi => ?_, by simp [maxLen] at hm; omega⟩
    have h1 := hcell i (by omega)
    obtain ⟨b, o, spot⟩ := a'
    have hs : spot = none := by have := World.cell?_spot (hcell 0 (by omega)); simpa [Addr.add] using this
    subst hs
    rw [add_plain] at h1
    obtain ⟨x, hx⟩ := getElem?_ex (l := zs) (k := i) (by omega)
    have hw := hwf x (List.mem_of_getElem? hx)
    refine ⟨b, o, x, rfl, by rw [h1]; simp [hx], ?_⟩
    have e0 : IntKind.u8.min = 0 := by decide
    have e1 : IntKind.u8.max = 255 := by decide
    simp only [Lit.wf, Bool.and_eq_true, decide_eq_true_eq, e0, e1] at hw
    omega

end Go.Proofs.YtjgcjeaplckbbaaGreatDoor

/- Lists of texts that a call has built itself; drawn texts. -/
namespace Go.Proofs.YtjgcjeaplckbbaaGreatDoor
open Go.RowKit
set_option linter.unusedVariables false
set_option linter.unusedSimpArgs false

def texts (T : List ByteArray) : List Value := T.map Value.string
theorem texts_length (T : List ByteArray) : (texts T).length = T.length := by simp [texts]

/-- The slice v holds the texts T, in a row that was made from block B on and may be written. -/
def OwnTexts (w : World) (t : TypeId) (B : Nat) (v : Value) (T : List ByteArray) : Prop := w.ownsRow B t 1 v T.length (texts T)

theorem OwnTexts.touch {w w' : World} {t : TypeId} {B r : Nat} {v : Value} {T : List ByteArray} (h : OwnTexts w t B v T) (hr : r < B) (hT : Touch (· = r) w w') : OwnTexts w' t B v T := by
  refine ⟨h.1, ?_⟩
  rcases h.2 with ⟨hv, hl⟩ | ⟨g, cap, cur, rfl, hb, hg, hrest⟩
  · exact .inl ⟨hv, hl⟩
  · refine .inr ⟨g, cap, cur, rfl, hb, ?_, hrest⟩
    rw [hT.block g (Array.getElem?_eq_some_iff.1 hg).1 (by show ¬ g = r; omega)]
    exact hg

theorem OwnTexts.below {w w' : World} {t : TypeId} {B : Nat} {v : Value} {T : List ByteArray} (h : OwnTexts w t B v T) (hb : Below w.heap.size w w') : OwnTexts w' t B v T := by
  refine ⟨h.1, ?_⟩
  rcases h.2 with ⟨hv, hl⟩ | ⟨g, cap, cur, rfl, hB, hg, hrest⟩
  · exact .inl ⟨hv, hl⟩
  · refine .inr ⟨g, cap, cur, rfl, hB, ?_, hrest⟩
    rw [hb.block g (Array.getElem?_eq_some_iff.1 hg).1]
    exact hg

theorem OwnTexts.form {w : World} {t : TypeId} {B : Nat} {v : Value} {T : List ByteArray} (h : OwnTexts w t B v T) : ∃ a c, v = .slice a T.length c ∧ TextsAt w a T ∧ T.length ≤ c := by
  have h0 := h
  rcases h.2 with ⟨hv, hl⟩ | ⟨g, cap, cur, rfl, hb, hg, hn, hm, _⟩
  · exact ⟨none, 0, by rw [hv, hl], fun i x hx => by have := (List.getElem?_eq_some_iff.1 hx).1; omega, by omega⟩
  · refine ⟨_, _, rfl, fun i x hx => ⟨g, 0, rfl, ?_⟩, hn⟩
    have hi := (List.getElem?_eq_some_iff.1 hx).1
    rw [Nat.zero_add, World.ownsRow.cellAt h0 i (by omega)]
    simp [texts, hx]

theorem OwnTexts.nil (w : World) (t : TypeId) (B : Nat) (hB : B ≤ w.heap.size) : OwnTexts (w.alloc (.cells #[] t)) t B (.slice (some ⟨w.heap.size, 0, none⟩) 0 0) [] := by
  have := World.ownsRow_lit (base := B) (e := t) (size := 1) w #[] 0 hB (by unfold maxLen; omega) rfl
  simpa [OwnTexts, texts] using this

theorem infoText : (Tryz.prog.info? 9).map (fun i => (i.zero, i.size, i.bytes)) = some (some (.string ByteArray.empty), 1, 16) := by kernel_rfl

theorem info_got {P : Program} {t : TypeId} {z : Value} {s b : Nat} (h : (P.info? t).map (fun i => (i.zero, i.size, i.bytes)) = some (some z, s, b)) : ∃ i, P.info? t = some i ∧ i.zero = some z ∧ i.size = s ∧ i.bytes = b := by
  obtain ⟨i, hi, hz⟩ := Option.map_eq_some_iff.1 h
  simp only [Prod.mk.injEq] at hz
  exact ⟨i, hi, hz.1, hz.2.1, hz.2.2⟩

set_option maxHeartbeats 1000000 in
theorem data_any (r : Nat) (w : World) (h : RdAt w r) :
    Calls Tryz.prog 111 #[.pointer (some ⟨r, 0, none⟩)] w fun e w' => ∃ x : ByteArray, e = .returned (.string x) ∧ x.size = 4 ∧ RdAt w' r ∧ Touch (· = r) w w' := by
  have hrl := h.lt
  have hB1 : ∀ o, Below w.heap.size w (w.alloc o) := fun o => (Below.refl _ _).alloc (Nat.le_refl _) _
  go_enter Tryz.func111, Tryz.ntmps111
  go_wp2_with fail
  refine (below_any r 6 _ (h.below (hB1 _)) (by omega) (by omega)).mono ?_
  rintro e w2 ⟨y, rfl, hy0, hy1, hR2, hT2⟩
  have HR2 := hide hR2
  have hT3 := ((Touch.refl (· = r) w).alloc _).trans hT2
  have hc := fun o => hT2.cell (b := w.heap.size) (o := o) (by simp) (by show ¬ w.heap.size = r; omega)
  have c0 := (hc 0).trans (by simp; rfl)
  have c1 := (hc 1).trans (by simp; rfl)
  have c2 := (hc 2).trans (by simp; rfl)
  have c3 := (hc 3).trans (by simp; rfl)
  have c4 := (hc 4).trans (by simp; rfl)
  have c5 := (hc 5).trans (by simp; rfl)
  have h4 : y = 0 ∨ y = 1 ∨ y = 2 ∨ y = 3 ∨ y = 4 ∨ y = 5 := by omega
  clear hR2 hT2 hc h hB1
  rcases h4 with rfl | rfl | rfl | rfl | rfl | rfl
  all_goals (
    go_wp2
    go_ret
    exact ⟨_, rfl, rfl, unhide HR2, hT3⟩)

end Go.Proofs.YtjgcjeaplckbbaaGreatDoor
