/- The program's programmed cells. -/
import Derived.Test.YtageolbmplhgaaaProgP
import Derived.Test.YtageolbmplhgaaaHasSeq
import Derived.Test.YtageolbmplhgaaaNextI
import Derived.WalkKit
import Derived.Outline
namespace Go.Proofs.Ytageolbmplhgaaa
open Go.RowKit
set_option linter.unusedVariables false
set_option linter.unusedSimpArgs false

/-- Blocks of three new ones, whatever came behind. -/
theorem rows3 {w W : World} {o1 o2 o3 : Obj} (hB : Below (w.heap.size + 1 + 1 + 1) (((w.alloc o1).alloc o2).alloc o3) W) : W.heap[w.heap.size]? = some o1 ∧ W.heap[w.heap.size + 1]? = some o2 ∧ W.heap[w.heap.size + 1 + 1]? = some o3 := by
  have h := heap3 w o1 o2 o3
  exact ⟨(hB.block _ (by omega)).trans h.1, (hB.block _ (by omega)).trans h.2.1, (hB.block _ (by omega)).trans h.2.2⟩

set_option maxRecDepth 100000 in
set_option maxHeartbeats 4000000 in
theorem programmed_any (bs : List Bk) (hok : ChipOk bs) (m : CC) (hct : m.count = bs.length) (hbs : ccBs m bs.length = bs) (blk : Int) (u : Bool) (l s : Int) (d : ByteArray) (w : World) :
    Calls Try.prog 69 #[.agg (ccA m), .int .i64 blk, .agg #[.bool u, .int .i64 l, .int .i64 s, .string d]] w fun e w' => ∃ m2 code, e = .returned (.tuple #[.agg (ccA m2), .int .i64 code]) ∧ m2.count = bs.length ∧ ProgIs bs blk ⟨u, l, s, d⟩ (ccBs m2 bs.length) code ∧ Below w.heap.size w w' := by
  have hc := hok.count
  have hA0 := ccA_count m
  rw [hct] at hA0
  have hAs := ccA_size m
  have h1 := ccA_one m
  have HSZ := hide (sizeCC m)
  have HAB := hide (fun b i hb hi => ccA_block m (b := b) (i := i) hb hi)
  have HHS := hide (fun W => hasSeq_any m bs.length hct hc.2 s W)
  have HPUT := hide (fun b j hb hj => ccA_putPage m b j ⟨u, l, s, d⟩ hb hj)
  have HSQ : Hid (usedSeqs (usedAll m bs.length) = seqs bs) := by rw [Hid, usedSeqs_all, hbs]
  obtain ⟨A, hA⟩ : ∃ A, A = ccA m := ⟨_, rfl⟩
  rw [← hA] at hA0 hAs h1 HSZ HAB HHS HPUT ⊢
  have HAM : Hid (A = ccA m) := hA
  obtain ⟨n, hn⟩ : ∃ n, n = bs.length := ⟨_, rfl⟩
  have HNN : Hid (bs.length = n) := hn.symm
  have HCT : Hid (m.count = (n : Int)) := by rw [Hid, hct, hn]
  rw [← hn] at hA0 hc HHS HSQ
  have HA0 := hide hA0
  have H1 := hide h1
  have HOK := hide hok
  have HBS : Hid (ccBs m bs.length = bs) := hbs
  clear hA0 h1 hA hn hok hbs hct
  go_enter Try.func69, Try.ntmps69
  go_wp2_with (refine wpList_load_row rfl 84 _ rfl w.heap.size rfl 84 A (0, 0) _ (by exact (heap3 w _ _ _).1) Try.underlying84 rfl (unhide HSZ) ?_)
  refine (has_any A (n : Int) (unhide HA0) (by omega) (by omega) blk _).mono ?_
  rintro e w2 ⟨rfl, hB2⟩
  have hs2 := hB2.size
  simp at hs2
  have hr2 := rows3 (hB2.mono (by simp))
  have HRw2 := hide hr2.1
  have HPw2 := hide hr2.2.1
  have HZw2 := hide hr2.2.2
  have hW2 : Below w.heap.size w w2 := ((((Below.refl _ w).alloc (Nat.le_refl _) _).alloc (by simp) _).alloc (by simp; omega) _).trans (hB2.mono (by simp; omega))
  clear hB2 hr2
  by_cases hin : 0 ≤ blk ∧ blk ≤ (n : Int) - 1
  · have hd : decide ((0 : Int) ≤ blk ∧ blk ≤ (n : Int) - 1) = true := by simpa using hin
    rw [hd]
    have HIN : Hid (InB bs blk) := ⟨hin.1, by rw [unhide HNN]; exact hin.2⟩
    have p0 := cell_of_row _ _ 0 _ _ _ (unhide HPw2)
    have p1 := cell_of_row _ _ 1 _ _ _ (unhide HPw2)
    have p2 := cell_of_row _ _ 2 _ _ _ (unhide HPw2)
    have p3 := cell_of_row _ _ 3 _ _ _ (unhide HPw2)
    simp at p0 p1 p2 p3
    clear hd
    go_wp2_with fail
    refine (isRightUsed_any ⟨u, l, s, d⟩ _).mono ?_
    rintro e w3 ⟨rfl, hB3⟩
    have hs3 := hB3.size
    have HRw3 := hide ((hB3.block _ (by omega)).trans (unhide HRw2))
    have HPw3 := hide ((hB3.block _ (by omega)).trans (unhide HPw2))
    have HZw3 := hide ((hB3.block _ (by omega)).trans (unhide HZw2))
    have hW3 := hW2.trans (hB3.mono hW2.size)
    clear hB3 p0 p1 p2 p3 HRw2 HPw2 HZw2
    cases hru : rightUsed ⟨u, l, s, d⟩ with
    | false =>
      have hst := store_row Try.prog w3 (w.heap.size + 1 + 1) 84 Try.zeroCells84 A (unhide HZw3) (by rw [zeroCC_size, hAs]) (unhide H1)
      have hld := run_loadVar_row (P := Try.prog) (w3.setRow (w.heap.size + 1 + 1) A) (w.heap.size + 1 + 1) 84 84 A (0, 0) _ (setRow_heap _ _ _ _ _ _ (unhide HZw3)) Try.underlying84 rfl (unhide HSZ)
      have hWt := Below.setRow hW3 (g := w.heap.size + 1 + 1) (by omega) A
      generalize w3.setRow (w.heap.size + 1 + 1) A = WT at hst hld hWt
      have HLD := hide hld
      clear hld
      go_wp2_with (refine wpList_load_row rfl 84 _ rfl w.heap.size rfl 84 A (0, 0) _ (unhide HRw3) Try.underlying84 rfl (unhide HSZ) ?_)
      exact bodyPost_ret (v := .tuple #[.agg A, .int .i64 2]) (results_cell_slot 6 84 7 Try.results69 _ _ _ _ _ rfl (unhide HLD) rfl) rfl ⟨m, 2, by rw [unhide HAM], by rw [unhide HNN]; exact unhide HCT, .inr (.inl ⟨unhide HOK, (fun hc => by have := hc.2.1; rw [hru] at this; cases this), unhide HBS, rfl⟩), hWt⟩
    | true =>
      have q2 := cell_of_row _ _ 2 _ _ _ (unhide HPw3)
      simp at q2
      go_wp2_with fail
      refine wp_load_row 84 _ rfl w.heap.size rfl 84 A (0, 0) _ (unhide HRw3) Try.underlying84 rfl (unhide HSZ) ?_
      go_wp2_with fail
      refine (unhide HHS _).mono ?_
      rintro e w4 ⟨⟨r, rfl, hr⟩, hB4⟩
      rw [unhide HSQ] at hr
      have HRR := hide hr
      have hs4 := hB4.size
      have HRw4 := hide ((hB4.block _ (by omega)).trans (unhide HRw3))
      have HPw4 := hide ((hB4.block _ (by omega)).trans (unhide HPw3))
      have HZw4 := hide ((hB4.block _ (by omega)).trans (unhide HZw3))
      have hW4 := hW3.trans (hB4.mono hW3.size)
      clear hB4 hr q2 HRw3 HPw3 HZw3 HHS
      cases r with
      | true =>
        have hst := store_row Try.prog w4 (w.heap.size + 1 + 1) 84 Try.zeroCells84 A (unhide HZw4) (by rw [zeroCC_size, hAs]) (unhide H1)
        have hld := run_loadVar_row (P := Try.prog) (w4.setRow (w.heap.size + 1 + 1) A) (w.heap.size + 1 + 1) 84 84 A (0, 0) _ (setRow_heap _ _ _ _ _ _ (unhide HZw4)) Try.underlying84 rfl (unhide HSZ)
        have hWt := Below.setRow hW4 (g := w.heap.size + 1 + 1) (by omega) A
        generalize w4.setRow (w.heap.size + 1 + 1) A = WT at hst hld hWt
        have HLD := hide hld
        clear hld
        go_wp2_with (refine wpList_load_row rfl 84 _ rfl w.heap.size rfl 84 A (0, 0) _ (unhide HRw4) Try.underlying84 rfl (unhide HSZ) ?_)
        exact bodyPost_ret (v := .tuple #[.agg A, .int .i64 2]) (results_cell_slot 6 84 7 Try.results69 _ _ _ _ _ rfl (unhide HLD) rfl) rfl ⟨m, 2, by rw [unhide HAM], by rw [unhide HNN]; exact unhide HCT, .inr (.inl ⟨unhide HOK, (fun hc => hc.2.2 ((unhide HRR).1 (by trivial))), unhide HBS, rfl⟩), hWt⟩
      | false =>
        have HPO : Hid (ProgOk bs blk ⟨u, l, s, d⟩) := ⟨unhide HIN, hru, fun hc => by have := (unhide HRR).2 hc; cases this⟩
        obtain ⟨k, rfl⟩ := Int.eq_ofNat_of_zero_le hin.1
        have hk12 : k < 12 := by omega
        have hki : (k : Int) < 12 := by omega
        have hkn : k < bs.length := by have := unhide HNN; omega
        have hbk : bs[k]? = some ⟨m.wear k, ccPs m k⟩ := by have := ccBs_at m hkn; rwa [unhide HBS] at this
        have HBK := hide hbk
        have hblk : ∀ j, j < 17 → w4.cell? ⟨w.heap.size, 1 + k * 17 + j, none⟩ = (bcA (m.wear k) (m.page k))[j]? := fun j hj => by
          rw [cell_of_row _ _ _ _ _ _ (unhide HRw4)]
          exact unhide HAB k j hk12 hj
        have HB := hide hblk
        clear hblk hbk hin HRR
        go_wp2_with (refine wpList_load_mid rfl 81 _ rfl w.heap.size (1 + k * 17) rfl (bcA (m.wear k) (m.page k)) 17 (bcA_size _ _) (unhide HB) _ Try.underlying81 rfl sizeBC ?_)
        refine (next_any _ _ _).mono ?_
        rintro e w5 ⟨r, rfl, hr, hB5⟩
        have hnx : NextIs (fun t => (pagesF (ccPs m k) t).used) 4 r := hr.congr (fun t ht => by
          show _ = (pagesF (ccPs m k) t).used
          simp only [pagesF]
          rw [ccPs_at m k ht]
          rfl)
        have HNX := hide hnx
        have hs5 := hB5.size
        have HRw5 := hide ((hB5.block _ (by omega)).trans (unhide HRw4))
        have HPw5 := hide ((hB5.block _ (by omega)).trans (unhide HPw4))
        have HZw5 := hide ((hB5.block _ (by omega)).trans (unhide HZw4))
        have hW5 := hW4.trans (hB5.mono hW4.size)
        clear hB5 HRw4 HPw4 HZw4 hnx HB
        rcases hr with ⟨j, hj4, rfl, _⟩ | ⟨rfl, _⟩
        · have p0 := cell_of_row _ _ 0 _ _ _ (unhide HPw5)
          have p1 := cell_of_row _ _ 1 _ _ _ (unhide HPw5)
          have p2 := cell_of_row _ _ 2 _ _ _ (unhide HPw5)
          have p3 := cell_of_row _ _ 3 _ _ _ (unhide HPw5)
          simp at p0 p1 p2 p3
          have hcl : ∀ t, t < 205 → ∃ v, w5.cell? ⟨w.heap.size, t, none⟩ = some v := fun t ht => by
            rw [cell_of_row _ _ _ _ _ _ (unhide HRw5)]
            exact ⟨A[t]'(by rw [hAs]; exact ht), by simp [hAs, ht]⟩
          obtain ⟨v0, c0⟩ := hcl (1 + k * 17 + 1 + j * 4) (by omega)
          obtain ⟨v1, c1⟩ := hcl (1 + k * 17 + 1 + j * 4 + 1) (by omega)
          obtain ⟨v2, c2⟩ := hcl (1 + k * 17 + 1 + j * 4 + 2) (by omega)
          obtain ⟨v3, c3⟩ := hcl (1 + k * 17 + 1 + j * 4 + 3) (by omega)
          have fz : ∀ t, w5.frozen? ⟨w.heap.size, t, none⟩ = false := fun t => frozen_of_row _ _ t _ _ (unhide HRw5)
          have hji : (j : Int) < 4 := by omega
          clear hcl
          go_wp2
          go_region
          all_goals (
            obtain ⟨W, hW⟩ : ∃ W, W = (((w5.setCell ⟨w.heap.size, 1 + k * 17 + 1 + j * 4, none⟩ (.bool u)).setCell ⟨w.heap.size, 1 + k * 17 + 1 + j * 4 + 1, none⟩ (.int .i64 l)).setCell ⟨w.heap.size, 1 + k * 17 + 1 + j * 4 + 2, none⟩ (.int .i64 s)).setCell ⟨w.heap.size, 1 + k * 17 + 1 + j * 4 + 3, none⟩ (.string d) := ⟨_, rfl⟩
            have hrow : W.heap[w.heap.size]? = some (.cells (ccA (m.putPage k j ⟨u, l, s, d⟩)) 84 (0, 0)) := by
              rw [hW, ← unhide HPUT k j hk12 hj4]
              exact blk_setCell_same _ _ (blk_setCell_same _ _ (blk_setCell_same _ _ (blk_setCell_same _ _ (unhide HRw5))))
            have hzero : W.heap[w.heap.size + 1 + 1]? = some (.cells Try.zeroCells84 84 (0, 0)) := by
              rw [hW, Go.Deep.blk_setCell_other _ _ _ _ (by simp; omega), Go.Deep.blk_setCell_other _ _ _ _ (by simp; omega), Go.Deep.blk_setCell_other _ _ _ _ (by simp; omega), Go.Deep.blk_setCell_other _ _ _ _ (by simp; omega)]
              exact unhide HZw5
            have hWW : Below w.heap.size w W := by
              rw [hW]
              exact (((hW5.setCell (Nat.le_refl _) _).setCell (Nat.le_refl _) _).setCell (Nat.le_refl _) _).setCell (Nat.le_refl _) _
            have h1' := ccA_one (m.putPage k j ⟨u, l, s, d⟩)
            have hs' := ccA_size (m.putPage k j ⟨u, l, s, d⟩)
            have HSZ' := hide (sizeCC (m.putPage k j ⟨u, l, s, d⟩))
            obtain ⟨A2, hA2⟩ : ∃ A2, A2 = ccA (m.putPage k j ⟨u, l, s, d⟩) := ⟨_, rfl⟩
            rw [← hA2] at hrow h1' hs' HSZ'
            have HA2 := hide hA2
            rw [← hW]
            have hst := store_row Try.prog W.drew (w.heap.size + 1 + 1) 84 Try.zeroCells84 A2 hzero (by rw [zeroCC_size, hs']) h1'
            have hld := run_loadVar_row (P := Try.prog) (W.drew.setRow (w.heap.size + 1 + 1) A2) (w.heap.size + 1 + 1) 84 84 A2 (0, 0) _ (setRow_heap _ _ _ _ _ _ hzero) Try.underlying84 rfl (unhide HSZ')
            have hWt := Below.setRow hWW.drew (g := w.heap.size + 1 + 1) (by omega) A2
            have HRW : Hid (W.drew.heap[w.heap.size]? = some (.cells A2 84 (0, 0))) := hrow
            generalize W.drew.setRow (w.heap.size + 1 + 1) A2 = WT at hst hld hWt
            have HLD := hide hld
            clear hld hrow hzero hWW hA2 hW p0 p1 p2 p3 c0 c1 c2 c3 fz
            go_wp2_with (refine wpList_load_row rfl 84 _ rfl w.heap.size rfl 84 A2 (0, 0) _ (unhide HRW) Try.underlying84 rfl (unhide HSZ') ?_)
            refine bodyPost_ret (v := .tuple #[.agg A2, .int .i64 0]) (results_cell_slot 6 84 7 Try.results69 _ _ _ _ _ rfl (unhide HLD) rfl) rfl ⟨m.putPage k j ⟨u, l, s, d⟩, 0, by rw [unhide HA2], by rw [unhide HNN]; exact unhide HCT, .inr (.inr ⟨unhide HOK, unhide HPO, _, (j : Int), by simpa using unhide HBK, unhide HNX, .inr ⟨by omega, ?_, rfl⟩⟩), hWt⟩
            rw [ccBs_putPage m _ k j _ hkn hj4, unhide HBS]
            simp)
        · have hst := store_row Try.prog w5 (w.heap.size + 1 + 1) 84 Try.zeroCells84 A (unhide HZw5) (by rw [zeroCC_size, hAs]) (unhide H1)
          have hld := run_loadVar_row (P := Try.prog) (w5.setRow (w.heap.size + 1 + 1) A) (w.heap.size + 1 + 1) 84 84 A (0, 0) _ (setRow_heap _ _ _ _ _ _ (unhide HZw5)) Try.underlying84 rfl (unhide HSZ)
          have hWt := Below.setRow hW5 (g := w.heap.size + 1 + 1) (by omega) A
          generalize w5.setRow (w.heap.size + 1 + 1) A = WT at hst hld hWt
          have HLD := hide hld
          clear hld
          go_wp2_with (refine wpList_load_row rfl 84 _ rfl w.heap.size rfl 84 A (0, 0) _ (unhide HRw5) Try.underlying84 rfl (unhide HSZ) ?_)
          exact bodyPost_ret (v := .tuple #[.agg A, .int .i64 3]) (results_cell_slot 6 84 7 Try.results69 _ _ _ _ _ rfl (unhide HLD) rfl) rfl ⟨m, 3, by rw [unhide HAM], by rw [unhide HNN]; exact unhide HCT, .inr (.inr ⟨unhide HOK, unhide HPO, _, -1, by simpa using unhide HBK, unhide HNX, .inl ⟨by omega, unhide HBS, rfl⟩⟩), hWt⟩
  · have hd : decide ((0 : Int) ≤ blk ∧ blk ≤ (n : Int) - 1) = false := by simpa using hin
    rw [hd]
    have HIN : Hid (¬ InB bs blk) := fun hc => hin ⟨hc.1, by have := hc.2; rw [unhide HNN] at this; exact this⟩
    clear hd hin
    have hst := store_row Try.prog w2 (w.heap.size + 1 + 1) 84 Try.zeroCells84 A (unhide HZw2) (by rw [zeroCC_size, hAs]) (unhide H1)
    have hld := run_loadVar_row (P := Try.prog) (w2.setRow (w.heap.size + 1 + 1) A) (w.heap.size + 1 + 1) 84 84 A (0, 0) _ (setRow_heap _ _ _ _ _ _ (unhide HZw2)) Try.underlying84 rfl (unhide HSZ)
    have hWt := Below.setRow hW2 (g := w.heap.size + 1 + 1) (by omega) A
    generalize w2.setRow (w.heap.size + 1 + 1) A = WT at hst hld hWt
    have HLD := hide hld
    clear hld
    go_wp2_with (refine wpList_load_row rfl 84 _ rfl w.heap.size rfl 84 A (0, 0) _ (unhide HRw2) Try.underlying84 rfl (unhide HSZ) ?_)
    exact bodyPost_ret (v := .tuple #[.agg A, .int .i64 2]) (results_cell_slot 6 84 7 Try.results69 _ _ _ _ _ rfl (unhide HLD) rfl) rfl ⟨m, 2, by rw [unhide HAM], by rw [unhide HNN]; exact unhide HCT, .inr (.inl ⟨unhide HOK, fun hc => unhide HIN hc.1, unhide HBS, rfl⟩), hWt⟩

end Go.Proofs.Ytageolbmplhgaaa
