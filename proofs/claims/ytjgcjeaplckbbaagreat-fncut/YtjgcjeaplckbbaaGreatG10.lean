/- 3 texts in one. -/
import Derived.Test.YtjgcjeaplckbbaaGreatG09
import Derived.Test.YtjgcjeaplckbbaaGreatG08
import Derived.WalkKit
import Derived.Outline

/- The program's programmed cells. -/
namespace Go.Proofs.YtjgcjeaplckbbaaGreat
open Go.RowKit
set_option linter.unusedVariables false
set_option linter.unusedSimpArgs false

/-- Blocks of three new ones, whatever came behind. -/
theorem rows3 {w W : World} {o1 o2 o3 : Obj} (hB : Below (w.heap.size + 1 + 1 + 1) (((w.alloc o1).alloc o2).alloc o3) W) : W.heap[w.heap.size]? = some o1 ∧ W.heap[w.heap.size + 1]? = some o2 ∧ W.heap[w.heap.size + 1 + 1]? = some o3 := by
  have h := heap3 w o1 o2 o3
  exact ⟨(hB.block _ (by omega)).trans h.1, (hB.block _ (by omega)).trans h.2.1, (hB.block _ (by omega)).trans h.2.2⟩

set_option maxRecDepth 100000 in
set_option maxHeartbeats 4000000 in
theorem programmed_any (bs : List Bk) (hok : ChipOk bs) (m : CC) (hct : m.count = bs.length) (hbs : ccBs m bs.length = bs) (blk : Int) (u : Bool) (l s : Int) (d : ByteArray) (w : World) :
    Calls Tryz.prog 87 #[.agg (ccA m), .int .i64 blk, .agg #[.bool u, .int .i64 l, .int .i64 s, .string d]] w fun e w' => ∃ m2 code, e = .returned (.tuple #[.agg (ccA m2), .int .i64 code]) ∧ m2.count = bs.length ∧ ProgIs bs blk ⟨u, l, s, d⟩ (ccBs m2 bs.length) code ∧ Below w.heap.size w w' := by
  have hc := hok.count
  have hA0 := ccA_count m
  rw [hct] at hA0
  have hAs := ccA_size m
  have h1 := ccA_one m
  have HSZ := hide (sizeCC m)
  have HAB := hide (fun b i hb hi => ccA_block m (b := b) (i := i) hb hi)
  have HHS := hide (fun W => hasSeq_any m bs.length hct hc.2 s W)
  have HPUT := hide (fun b j hb hj => ccA_putPage m b j ⟨u, l, s, d⟩ hb hj)
  have HSQ : Hid (usedSeqs (usedAll m bs.length) = seqs bs) := by rw [Hid, usedSeqs_all, hbs]
  obtain ⟨A, hA⟩ : ∃ A, A = ccA m := ⟨_, rfl⟩
  rw [← hA] at hA0 hAs h1 HSZ HAB HHS HPUT ⊢
  have HAM : Hid (A = ccA m) := hA
  obtain ⟨n, hn⟩ : ∃ n, n = bs.length := ⟨_, rfl⟩
  have HNN : Hid (bs.length = n) := hn.symm
  have HCT : Hid (m.count = (n : Int)) := by rw [Hid, hct, hn]
  rw [← hn] at hA0 hc HHS HSQ
  have HA0 := hide hA0
  have H1 := hide h1
  have HOK := hide hok
  have HBS : Hid (ccBs m bs.length = bs) := hbs
  clear hA0 h1 hA hn hok hbs hct
  go_enter Tryz.func87, Tryz.ntmps87
  go_wp2_with (refine wpList_load_row rfl 57 _ rfl w.heap.size rfl 57 A (0, 0) _ (by exact (heap3 w _ _ _).1) Tryz.underlying57 rfl (unhide HSZ) ?_)
  refine (has_any A (n : Int) (unhide HA0) (by omega) (by omega) blk _).mono ?_
  rintro e w2 ⟨rfl, hB2⟩
  have hs2 := hB2.size
  simp at hs2
  have hr2 := rows3 (hB2.mono (by simp))
  have HRw2 := hide hr2.1
  have HPw2 := hide hr2.2.1
  have HZw2 := hide hr2.2.2
  have hW2 : Below w.heap.size w w2 := ((((Below.refl _ w).alloc (Nat.le_refl _) _).alloc (by simp) _).alloc (by simp; omega) _).trans (hB2.mono (by simp; omega))
  clear hB2 hr2
  by_cases hin : 0 ≤ blk ∧ blk ≤ (n : Int) - 1
  · have hd : decide ((0 : Int) ≤ blk ∧ blk ≤ (n : Int) - 1) = true := by simpa using hin
    rw [hd]
    have HIN : Hid (InB bs blk) := ⟨hin.1, by rw [unhide HNN]; exact hin.2⟩
    have p0 := cell_of_row _ _ 0 _ _ _ (unhide HPw2)
    have p1 := cell_of_row _ _ 1 _ _ _ (unhide HPw2)
    have p2 := cell_of_row _ _ 2 _ _ _ (unhide HPw2)
    have p3 := cell_of_row _ _ 3 _ _ _ (unhide HPw2)
    simp at p0 p1 p2 p3
    clear hd
    go_wp2_with fail
    refine (isRightUsed_any ⟨u, l, s, d⟩ _).mono ?_
    rintro e w3 ⟨rfl, hB3⟩
    have hs3 := hB3.size
    have HRw3 := hide ((hB3.block _ (by omega)).trans (unhide HRw2))
    have HPw3 := hide ((hB3.block _ (by omega)).trans (unhide HPw2))
    have HZw3 := hide ((hB3.block _ (by omega)).trans (unhide HZw2))
    have hW3 := hW2.trans (hB3.mono hW2.size)
    clear hB3 p0 p1 p2 p3 HRw2 HPw2 HZw2
    cases hru : rightUsed ⟨u, l, s, d⟩ with
    | false =>
      have hst := store_row Tryz.prog w3 (w.heap.size + 1 + 1) 57 Tryz.zeroCells57 A (unhide HZw3) (by rw [zeroCC_size, hAs]) (unhide H1)
      have hld := run_loadVar_row (P := Tryz.prog) (w3.setRow (w.heap.size + 1 + 1) A) (w.heap.size + 1 + 1) 57 57 A (0, 0) _ (setRow_heap _ _ _ _ _ _ (unhide HZw3)) Tryz.underlying57 rfl (unhide HSZ)
      have hWt := Below.setRow hW3 (g := w.heap.size + 1 + 1) (by omega) A
      generalize w3.setRow (w.heap.size + 1 + 1) A = WT at hst hld hWt
      have HLD := hide hld
      clear hld
      go_wp2_with (refine wpList_load_row rfl 57 _ rfl w.heap.size rfl 57 A (0, 0) _ (unhide HRw3) Tryz.underlying57 rfl (unhide HSZ) ?_)
      exact bodyPost_ret (v := .tuple #[.agg A, .int .i64 2]) (results_cell_slot 6 57 7 Tryz.results87 _ _ _ _ _ rfl (unhide HLD) rfl) rfl ⟨m, 2, by rw [unhide HAM], by rw [unhide HNN]; exact unhide HCT, .inr (.inl ⟨unhide HOK, (fun hc => by have := hc.2.1; rw [hru] at this; cases this), unhide HBS, rfl⟩), hWt⟩
    | true =>
      have q2 := cell_of_row _ _ 2 _ _ _ (unhide HPw3)
      simp at q2
      go_wp2_with fail
      refine wp_load_row 57 _ rfl w.heap.size rfl 57 A (0, 0) _ (unhide HRw3) Tryz.underlying57 rfl (unhide HSZ) ?_
      go_wp2_with fail
      refine (unhide HHS _).mono ?_
      rintro e w4 ⟨⟨r, rfl, hr⟩, hB4⟩
      rw [unhide HSQ] at hr
      have HRR := hide hr
      have hs4 := hB4.size
      have HRw4 := hide ((hB4.block _ (by omega)).trans (unhide HRw3))
      have HPw4 := hide ((hB4.block _ (by omega)).trans (unhide HPw3))
      have HZw4 := hide ((hB4.block _ (by omega)).trans (unhide HZw3))
      have hW4 := hW3.trans (hB4.mono hW3.size)
      clear hB4 hr q2 HRw3 HPw3 HZw3 HHS
      cases r with
      | true =>
        have hst := store_row Tryz.prog w4 (w.heap.size + 1 + 1) 57 Tryz.zeroCells57 A (unhide HZw4) (by rw [zeroCC_size, hAs]) (unhide H1)
        have hld := run_loadVar_row (P := Tryz.prog) (w4.setRow (w.heap.size + 1 + 1) A) (w.heap.size + 1 + 1) 57 57 A (0, 0) _ (setRow_heap _ _ _ _ _ _ (unhide HZw4)) Tryz.underlying57 rfl (unhide HSZ)
        have hWt := Below.setRow hW4 (g := w.heap.size + 1 + 1) (by omega) A
        generalize w4.setRow (w.heap.size + 1 + 1) A = WT at hst hld hWt
        have HLD := hide hld
        clear hld
        go_wp2_with (refine wpList_load_row rfl 57 _ rfl w.heap.size rfl 57 A (0, 0) _ (unhide HRw4) Tryz.underlying57 rfl (unhide HSZ) ?_)
        exact bodyPost_ret (v := .tuple #[.agg A, .int .i64 2]) (results_cell_slot 6 57 7 Tryz.results87 _ _ _ _ _ rfl (unhide HLD) rfl) rfl ⟨m, 2, by rw [unhide HAM], by rw [unhide HNN]; exact unhide HCT, .inr (.inl ⟨unhide HOK, (fun hc => hc.2.2 ((unhide HRR).1 (by trivial))), unhide HBS, rfl⟩), hWt⟩
      | false =>
        have HPO : Hid (ProgOk bs blk ⟨u, l, s, d⟩) := ⟨unhide HIN, hru, fun hc => by have := (unhide HRR).2 hc; cases this⟩
        obtain ⟨k, rfl⟩ := Int.eq_ofNat_of_zero_le hin.1
        have hk12 : k < 12 := by omega
        have hki : (k : Int) < 12 := by omega
        have hkn : k < bs.length := by have := unhide HNN; omega
        have hbk : bs[k]? = some ⟨m.wear k, ccPs m k⟩ := by have := ccBs_at m hkn; rwa [unhide HBS] at this
        have HBK := hide hbk
        have hblk : ∀ j, j < 17 → w4.cell? ⟨w.heap.size, 1 + k * 17 + j, none⟩ = (bcA (m.wear k) (m.page k))[j]? := fun j hj => by
          rw [cell_of_row _ _ _ _ _ _ (unhide HRw4)]
          exact unhide HAB k j hk12 hj
        have HB := hide hblk
        clear hblk hbk hin HRR
        go_wp2_with (refine wpList_load_mid rfl 54 _ rfl w.heap.size (1 + k * 17) rfl (bcA (m.wear k) (m.page k)) 17 (bcA_size _ _) (unhide HB) _ Tryz.underlying54 rfl sizeBC ?_)
        refine (next_any _ _ _).mono ?_
        rintro e w5 ⟨r, rfl, hr, hB5⟩
        have hnx : NextIs (fun t => (pagesF (ccPs m k) t).used) 4 r := hr.congr (fun t ht => by
          show _ = (pagesF (ccPs m k) t).used
          simp only [pagesF]
          rw [ccPs_at m k ht]
          rfl)
        have HNX := hide hnx
        have hs5 := hB5.size
        have HRw5 := hide ((hB5.block _ (by omega)).trans (unhide HRw4))
        have HPw5 := hide ((hB5.block _ (by omega)).trans (unhide HPw4))
        have HZw5 := hide ((hB5.block _ (by omega)).trans (unhide HZw4))
        have hW5 := hW4.trans (hB5.mono hW4.size)
        clear hB5 HRw4 HPw4 HZw4 hnx HB
        rcases hr with ⟨j, hj4, rfl, _⟩ | ⟨rfl, _⟩
        · have p0 := cell_of_row _ _ 0 _ _ _ (unhide HPw5)
          have p1 := cell_of_row _ _ 1 _ _ _ (unhide HPw5)
          have p2 := cell_of_row _ _ 2 _ _ _ (unhide HPw5)
          have p3 := cell_of_row _ _ 3 _ _ _ (unhide HPw5)
          simp at p0 p1 p2 p3
          have hcl : ∀ t, t < 205 → ∃ v, w5.cell? ⟨w.heap.size, t, none⟩ = some v := fun t ht => by
            rw [cell_of_row _ _ _ _ _ _ (unhide HRw5)]
            exact ⟨A[t]'(by rw [hAs]; exact ht), by simp [hAs, ht]⟩
          obtain ⟨v0, c0⟩ := hcl (1 + k * 17 + 1 + j * 4) (by omega)
          obtain ⟨v1, c1⟩ := hcl (1 + k * 17 + 1 + j * 4 + 1) (by omega)
          obtain ⟨v2, c2⟩ := hcl (1 + k * 17 + 1 + j * 4 + 2) (by omega)
          obtain ⟨v3, c3⟩ := hcl (1 + k * 17 + 1 + j * 4 + 3) (by omega)
          have fz : ∀ t, w5.frozen? ⟨w.heap.size, t, none⟩ = false := fun t => frozen_of_row _ _ t _ _ (unhide HRw5)
          have hji : (j : Int) < 4 := by omega
          clear hcl
          go_wp2
          go_region
          all_goals (
            obtain ⟨W, hW⟩ : ∃ W, W = (((w5.setCell ⟨w.heap.size, 1 + k * 17 + 1 + j * 4, none⟩ (.bool u)).setCell ⟨w.heap.size, 1 + k * 17 + 1 + j * 4 + 1, none⟩ (.int .i64 l)).setCell ⟨w.heap.size, 1 + k * 17 + 1 + j * 4 + 2, none⟩ (.int .i64 s)).setCell ⟨w.heap.size, 1 + k * 17 + 1 + j * 4 + 3, none⟩ (.string d) := ⟨_, rfl⟩
            have hrow : W.heap[w.heap.size]? = some (.cells (ccA (m.putPage k j ⟨u, l, s, d⟩)) 57 (0, 0)) := by
              rw [hW, ← unhide HPUT k j hk12 hj4]
              exact blk_setCell_same _ _ (blk_setCell_same _ _ (blk_setCell_same _ _ (blk_setCell_same _ _ (unhide HRw5))))
            have hzero : W.heap[w.heap.size + 1 + 1]? = some (.cells Tryz.zeroCells57 57 (0, 0)) := by
              rw [hW, Go.Deep.blk_setCell_other _ _ _ _ (by simp; omega), Go.Deep.blk_setCell_other _ _ _ _ (by simp; omega), Go.Deep.blk_setCell_other _ _ _ _ (by simp; omega), Go.Deep.blk_setCell_other _ _ _ _ (by simp; omega)]
              exact unhide HZw5
            have hWW : Below w.heap.size w W := by
              rw [hW]
              exact (((hW5.setCell (Nat.le_refl _) _).setCell (Nat.le_refl _) _).setCell (Nat.le_refl _) _).setCell (Nat.le_refl _) _
            have h1' := ccA_one (m.putPage k j ⟨u, l, s, d⟩)
            have hs' := ccA_size (m.putPage k j ⟨u, l, s, d⟩)
            have HSZ' := hide (sizeCC (m.putPage k j ⟨u, l, s, d⟩))
            obtain ⟨A2, hA2⟩ : ∃ A2, A2 = ccA (m.putPage k j ⟨u, l, s, d⟩) := ⟨_, rfl⟩
            rw [← hA2] at hrow h1' hs' HSZ'
            have HA2 := hide hA2
            rw [← hW]
            have hst := store_row Tryz.prog W.drew (w.heap.size + 1 + 1) 57 Tryz.zeroCells57 A2 hzero (by rw [zeroCC_size, hs']) h1'
            have hld := run_loadVar_row (P := Tryz.prog) (W.drew.setRow (w.heap.size + 1 + 1) A2) (w.heap.size + 1 + 1) 57 57 A2 (0, 0) _ (setRow_heap _ _ _ _ _ _ hzero) Tryz.underlying57 rfl (unhide HSZ')
            have hWt := Below.setRow hWW.drew (g := w.heap.size + 1 + 1) (by omega) A2
            have HRW : Hid (W.drew.heap[w.heap.size]? = some (.cells A2 57 (0, 0))) := hrow
            generalize W.drew.setRow (w.heap.size + 1 + 1) A2 = WT at hst hld hWt
            have HLD := hide hld
            clear hld hrow hzero hWW hA2 hW p0 p1 p2 p3 c0 c1 c2 c3 fz
            go_wp2_with (refine wpList_load_row rfl 57 _ rfl w.heap.size rfl 57 A2 (0, 0) _ (unhide HRW) Tryz.underlying57 rfl (unhide HSZ') ?_)
            refine bodyPost_ret (v := .tuple #[.agg A2, .int .i64 0]) (results_cell_slot 6 57 7 Tryz.results87 _ _ _ _ _ rfl (unhide HLD) rfl) rfl ⟨m.putPage k j ⟨u, l, s, d⟩, 0, by rw [unhide HA2], by rw [unhide HNN]; exact unhide HCT, .inr (.inr ⟨unhide HOK, unhide HPO, _, (j : Int), by simpa using unhide HBK, unhide HNX, .inr ⟨by omega, ?_, rfl⟩⟩), hWt⟩
            rw [ccBs_putPage m _ k j _ hkn hj4, unhide HBS]
            simp)
        · have hst := store_row Tryz.prog w5 (w.heap.size + 1 + 1) 57 Tryz.zeroCells57 A (unhide HZw5) (by rw [zeroCC_size, hAs]) (unhide H1)
          have hld := run_loadVar_row (P := Tryz.prog) (w5.setRow (w.heap.size + 1 + 1) A) (w.heap.size + 1 + 1) 57 57 A (0, 0) _ (setRow_heap _ _ _ _ _ _ (unhide HZw5)) Tryz.underlying57 rfl (unhide HSZ)
          have hWt := Below.setRow hW5 (g := w.heap.size + 1 + 1) (by omega) A
          generalize w5.setRow (w.heap.size + 1 + 1) A = WT at hst hld hWt
          have HLD := hide hld
          clear hld
          go_wp2_with (refine wpList_load_row rfl 57 _ rfl w.heap.size rfl 57 A (0, 0) _ (unhide HRw5) Tryz.underlying57 rfl (unhide HSZ) ?_)
          exact bodyPost_ret (v := .tuple #[.agg A, .int .i64 3]) (results_cell_slot 6 57 7 Tryz.results87 _ _ _ _ _ rfl (unhide HLD) rfl) rfl ⟨m, 3, by rw [unhide HAM], by rw [unhide HNN]; exact unhide HCT, .inr (.inr ⟨unhide HOK, unhide HPO, _, -1, by simpa using unhide HBK, unhide HNX, .inl ⟨by omega, unhide HBS, rfl⟩⟩), hWt⟩
  · have hd : decide ((0 : Int) ≤ blk ∧ blk ≤ (n : Int) - 1) = false := by simpa using hin
    rw [hd]
    have HIN : Hid (¬ InB bs blk) := fun hc => hin ⟨hc.1, by have := hc.2; rw [unhide HNN] at this; exact this⟩
    clear hd hin
    have hst := store_row Tryz.prog w2 (w.heap.size + 1 + 1) 57 Tryz.zeroCells57 A (unhide HZw2) (by rw [zeroCC_size, hAs]) (unhide H1)
    have hld := run_loadVar_row (P := Tryz.prog) (w2.setRow (w.heap.size + 1 + 1) A) (w.heap.size + 1 + 1) 57 57 A (0, 0) _ (setRow_heap _ _ _ _ _ _ (unhide HZw2)) Tryz.underlying57 rfl (unhide HSZ)
    have hWt := Below.setRow hW2 (g := w.heap.size + 1 + 1) (by omega) A
    generalize w2.setRow (w.heap.size + 1 + 1) A = WT at hst hld hWt
    have HLD := hide hld
    clear hld
    go_wp2_with (refine wpList_load_row rfl 57 _ rfl w.heap.size rfl 57 A (0, 0) _ (unhide HRw2) Tryz.underlying57 rfl (unhide HSZ) ?_)
    exact bodyPost_ret (v := .tuple #[.agg A, .int .i64 2]) (results_cell_slot 6 57 7 Tryz.results87 _ _ _ _ _ rfl (unhide HLD) rfl) rfl ⟨m, 2, by rw [unhide HAM], by rw [unhide HNN]; exact unhide HCT, .inr (.inl ⟨unhide HOK, fun hc => unhide HIN hc.1, unhide HBS, rfl⟩), hWt⟩

end Go.Proofs.YtjgcjeaplckbbaaGreat

/- The model's Erased. -/

namespace Go.Proofs.YtjgcjeaplckbbaaGreat
open Go.RowKit
set_option linter.unusedVariables false
set_option linter.unusedSimpArgs false

theorem PagesAt.of_block {w w' : World} {q : Nat} {ps : List Pg} (h : PagesAt w (some ⟨q, 0, none⟩) ps) (e : w'.heap[q]? = w.heap[q]?) : PagesAt w' (some ⟨q, 0, none⟩) ps := by
  intro i p hp
  obtain ⟨b, o, ha, h0, h1, h2, h3⟩ := h i p hp
  cases ha
  exact ⟨q, 0, rfl, (World.cell?_of_block (w := w) (a := ⟨q, 0 + i * 4, none⟩) e).trans h0, (World.cell?_of_block (w := w) (a := ⟨q, 0 + i * 4 + 1, none⟩) e).trans h1, (World.cell?_of_block (w := w) (a := ⟨q, 0 + i * 4 + 2, none⟩) e).trans h2, (World.cell?_of_block (w := w) (a := ⟨q, 0 + i * 4 + 3, none⟩) e).trans h3⟩

theorem zeroPagesAt (w : World) (tP : TypeId) : PagesAt (w.alloc (.cells (madeCells #[.bool false, .int .i64 0, .int .i64 0, .string ByteArray.empty] 16) tP)) (some ⟨w.heap.size, 0, none⟩) zeroBk.pages :=
  ownsRow_pagesAt (newPages w w.heap.size tP (Nat.le_refl _))

/-- A block is put in another's place, with pages that are new; W: whatever came behind it. -/
theorem SpecBlocks.setBlk2 {w W : World} {tB tP : TypeId} {base gB n c : Nat} {Q C : Nat → Nat} {bs : List Bk} (h : SpecBlocks w tB tP base (.slice (some ⟨gB, 0, none⟩) n c) Q C bs) {k : Nat} (hk : k < bs.length) (x : Int) (q : Nat)
    (hB : ∀ b, base ≤ b → b < w.heap.size → W.heap[b]? = ((w.setCell ⟨gB, k * 2, none⟩ (.int .i64 x)).setCell ⟨gB, k * 2 + 1, none⟩ (.slice (some ⟨q, 0, none⟩) 4 4)).heap[b]?) (hP : PagesAt W (some ⟨q, 0, none⟩) zeroBk.pages) :
    BlocksAt W (some ⟨gB, 0, none⟩) (bs.set k ⟨x, zeroBk.pages⟩) := by
  have hgB : gB < w.heap.size := (h.row.lt gB rfl).2
  have hgb : base ≤ gB := (h.row.lt gB rfl).1
  have hBc : ∀ j, W.cell? ⟨gB, j, none⟩ = ((w.setCell ⟨gB, k * 2, none⟩ (.int .i64 x)).setCell ⟨gB, k * 2 + 1, none⟩ (.slice (some ⟨q, 0, none⟩) 4 4)).cell? ⟨gB, j, none⟩ := fun j => World.cell?_of_block (a := ⟨gB, j, none⟩) (hB gB hgb hgB)
  have hlen : n = bs.length := by
    rcases h.row.2 with ⟨hv, _⟩ | ⟨g, cap, cur, hv, _⟩
    · cases hv
    · simp at hv; omega
  subst hlen
  have hcell : ∀ j u, (bkCells Q C 0 bs)[j]? = some u → w.cell? ⟨gB, j, none⟩ = some u := fun j u hu => ownsRow_cell h.row hu
  intro i b hb
  by_cases e : i = k
  · subst e
    rw [List.getElem?_set_self hk] at hb
    cases hb
    obtain ⟨b0, hb0⟩ := getElem?_ex hk
    have hc := bkCells_at Q C 0 hb0
    have c0 := hcell _ _ hc.1
    have c1 := hcell _ _ hc.2
    refine ⟨gB, 0, some ⟨q, 0, none⟩, 4, rfl, ?_, ?_, hP⟩
    · rw [Nat.zero_add, hBc, World.cell?_setCell_other _ _ _ _ (by simp), World.cell?_setCell_same' _ _ _ (by rw [c0]; rfl)]
    · rw [Nat.zero_add, hBc, World.cell?_setCell_same' _ _ _ (by rw [World.cell?_setCell_other _ _ _ _ (by simp), c1]; rfl)]
      rfl
  · rw [List.getElem?_set_ne (fun x => e x.symm)] at hb
    have hi := (List.getElem?_eq_some_iff.1 hb).1
    have hc := bkCells_at Q C 0 hb
    have hQ := h.Qlt hi
    have hQg : Q i ≠ gB := fun x => h.ne i hi (by rw [x]; rfl)
    refine ⟨gB, 0, some ⟨Q i, 0, none⟩, C i, rfl, ?_, ?_, ?_⟩
    · rw [Nat.zero_add, hBc, World.cell?_setCell_other _ _ _ _ (by simp <;> omega), World.cell?_setCell_other _ _ _ _ (by simp <;> omega)]
      exact hcell _ _ hc.1
    · rw [Nat.zero_add, hBc, World.cell?_setCell_other _ _ _ _ (by simp <;> omega), World.cell?_setCell_other _ _ _ _ (by simp <;> omega)]
      have := hcell _ _ hc.2
      rwa [Nat.zero_add] at this
    · exact (ownsRow_pagesAt (h.pages i b hb)).of_block ((hB _ hQ.1 hQ.2).trans ((Go.Deep.blk_setCell_other _ _ _ _ hQg).trans (Go.Deep.blk_setCell_other _ _ _ _ hQg)))

end Go.Proofs.YtjgcjeaplckbbaaGreat

/- Chips whose rows may be written, and where they lie. No program is named here. -/
namespace Go.Proofs.YtjgcjeaplckbbaaGreat
open Go.RowKit
set_option linter.unusedVariables false
set_option linter.unusedSimpArgs false

/-- The blocks bs lie from the address a on, in rows of S that may be written. -/
def ChipS (S : Nat → Prop) (w : World) (a : Option Addr) (bs : List Bk) : Prop :=
  ∀ i b, bs[i]? = some b → ∃ g o q qo pc, a = some ⟨g, o, none⟩ ∧ S g ∧ S q ∧ (∀ j, w.frozen? ⟨g, j, none⟩ = false) ∧ (∀ j, w.frozen? ⟨q, j, none⟩ = false) ∧
    w.cell? ⟨g, o + i * 2, none⟩ = some (.int .i64 b.wear) ∧ w.cell? ⟨g, o + i * 2 + 1, none⟩ = some (.slice (some ⟨q, qo, none⟩) b.pages.length pc) ∧ PagesAt w (some ⟨q, qo, none⟩) b.pages

theorem ChipS.blocksAt {S : Nat → Prop} {w : World} {a : Option Addr} {bs : List Bk} (h : ChipS S w a bs) : BlocksAt w a bs := by
  intro i b hb
  obtain ⟨g, o, q, qo, pc, ha, _, _, _, _, h0, h1, h2⟩ := h i b hb
  exact ⟨g, o, _, pc, ha, h0, h1, h2⟩

theorem ChipS.mono {S T : Nat → Prop} {w : World} {a : Option Addr} {bs : List Bk} (h : ChipS S w a bs) (hS : ∀ k, S k → T k) : ChipS T w a bs := by
  intro i b hb
  obtain ⟨g, o, q, qo, pc, ha, h1, h2, hr⟩ := h i b hb
  exact ⟨g, o, q, qo, pc, ha, hS _ h1, hS _ h2, hr⟩

theorem pagesAt_cells4 {w : World} {q qo : Nat} {ps : List Pg} (h : PagesAt w (some ⟨q, qo, none⟩) ps) {i : Nat} {p : Pg} (hp : ps[i]? = some p) :
    w.cell? ⟨q, qo + i * 4, none⟩ = some (.bool p.used) ∧ w.cell? ⟨q, qo + i * 4 + 1, none⟩ = some (.int .i64 p.log) ∧ w.cell? ⟨q, qo + i * 4 + 2, none⟩ = some (.int .i64 p.seq) ∧ w.cell? ⟨q, qo + i * 4 + 3, none⟩ = some (.string p.data) := by
  obtain ⟨b, o, e, h0, h1, h2, h3⟩ := h i p hp
  cases e
  exact ⟨h0, h1, h2, h3⟩

theorem frozen_of_block {w w' : World} {b j : Nat} (e : w'.heap[b]? = w.heap[b]?) : w'.frozen? ⟨b, j, none⟩ = w.frozen? ⟨b, j, none⟩ := by
  simp [World.frozen?, e]

theorem ChipS.of_blocks {S : Nat → Prop} {w w' : World} {a : Option Addr} {bs : List Bk} (h : ChipS S w a bs) (h4 : ∀ b ∈ bs, b.pages.length = 4) (e : ∀ k, S k → k < w.heap.size → w'.heap[k]? = w.heap[k]?) : ChipS S w' a bs := by
  intro i b hb
  obtain ⟨g, o, q, qo, pc, ha, h1, h2, f1, f2, c0, c1, hP⟩ := h i b hb
  have eg := e g h1 (World.block_lt_of_cell? _ _ c0)
  obtain ⟨p, hp⟩ := getElem?_ex (l := b.pages) (k := 0) (by rw [h4 b (List.mem_of_getElem? hb)]; omega)
  have eq := e q h2 (World.block_lt_of_cell? _ _ (pagesAt_cells4 hP hp).1)
  refine ⟨g, o, q, qo, pc, ha, h1, h2, fun j => (frozen_of_block eg).trans (f1 j), fun j => (frozen_of_block eq).trans (f2 j), (World.cell?_of_block (w := w) (a := ⟨g, _, none⟩) eg).trans c0, (World.cell?_of_block (w := w) (a := ⟨g, _, none⟩) eg).trans c1, fun j p hp => ?_⟩
  obtain ⟨d0, d1, d2, d3⟩ := pagesAt_cells4 hP hp
  exact ⟨q, qo, rfl, (World.cell?_of_block (w := w) (a := ⟨q, _, none⟩) eq).trans d0, (World.cell?_of_block (w := w) (a := ⟨q, _, none⟩) eq).trans d1, (World.cell?_of_block (w := w) (a := ⟨q, _, none⟩) eq).trans d2, (World.cell?_of_block (w := w) (a := ⟨q, _, none⟩) eq).trans d3⟩

theorem ChipS.touch {S T : Nat → Prop} {w w' : World} {a : Option Addr} {bs : List Bk} (h : ChipS S w a bs) (h4 : ∀ b ∈ bs, b.pages.length = 4) (hT : Touch T w w') (hS : ∀ k, S k → ¬ T k) : ChipS S w' a bs :=
  h.of_blocks h4 fun k hk hl => hT.block k hl (hS k hk)

theorem ChipS.below {S : Nat → Prop} {w w' : World} {a : Option Addr} {bs : List Bk} (h : ChipS S w a bs) (h4 : ∀ b ∈ bs, b.pages.length = 4) (hB : Below w.heap.size w w') : ChipS S w' a bs :=
  h.of_blocks h4 fun k _ hl => hB.block k hl

theorem cell_apartS {w : World} {P : Nat} {x : Option Addr} {y z : Nat} (hP : w.cell? ⟨P, 0, none⟩ = some (.slice x y z)) {g off : Nat} {v : Value} (hc : w.cell? ⟨g, off, none⟩ = some v) (hv : off ≠ 0 ∨ ∀ a b c, v ≠ .slice a b c) (u : Value) : (w.setCell ⟨P, 0, none⟩ u).cell? ⟨g, off, none⟩ = some v := by
  rw [World.cell?_setCell_other _ _ _ _ ?_]
  · exact hc
  · intro e
    simp at e
    obtain ⟨rfl, rfl⟩ := e
    rcases hv with h | h
    · exact h rfl
    · rw [hP] at hc
      cases hc
      exact h _ _ _ rfl

/-- A store into a variable of its own that holds a list turns no chip. -/
theorem ChipS.setApart {S : Nat → Prop} {w : World} {P : Nat} {x : Option Addr} {y z : Nat} (hP : w.cell? ⟨P, 0, none⟩ = some (.slice x y z)) {a : Option Addr} {bs : List Bk} (h : ChipS S w a bs) (u : Value) : ChipS S (w.setCell ⟨P, 0, none⟩ u) a bs := by
  intro i b hb
  obtain ⟨g, o, q, qo, pc, ha, h1, h2, f1, f2, c0, c1, hA⟩ := h i b hb
  refine ⟨g, o, q, qo, pc, ha, h1, h2, fun j => by simpa using f1 j, fun j => by simpa using f2 j, cell_apartS hP c0 (.inr fun _ _ _ e => by cases e) u, cell_apartS hP c1 (.inl (by omega)) u, fun j p hp => ?_⟩
  obtain ⟨d0, d1, d2, d3⟩ := pagesAt_cells4 hA hp
  exact ⟨q, qo, rfl, cell_apartS hP d0 (.inr fun _ _ _ e => by cases e) u, cell_apartS hP d1 (.inr fun _ _ _ e => by cases e) u, cell_apartS hP d2 (.inr fun _ _ _ e => by cases e) u, cell_apartS hP d3 (.inr fun _ _ _ e => by cases e) u⟩

theorem list_of {α : Type} {P : Nat → α → Prop} : ∀ n, (∀ i, i < n → ∃ x, P i x) → ∃ l : List α, l.length = n ∧ ∀ i x, l[i]? = some x → P i x := by
  intro n
  induction n with
  | zero => exact fun _ => ⟨[], rfl, fun i x h => by simp at h⟩
  | succ n ih =>
    intro h
    obtain ⟨l, hl, hP⟩ := ih fun i hi => h i (by omega)
    obtain ⟨x, hx⟩ := h n (by omega)
    refine ⟨l ++ [x], by simp [hl], fun i y hy => ?_⟩
    by_cases e : i < n
    · rw [List.getElem?_append_left (by omega)] at hy
      exact hP i y hy
    · have hi := (List.getElem?_eq_some_iff.1 hy).1
      simp at hi
      obtain rfl : i = n := by omega
      rw [List.getElem?_append_right (by omega), hl] at hy
      simp at hy
      subst hy
      exact hx

theorem keep_int {w : World} {t : Addr} {y : Int} (ht : w.cell? t = some (.int .i64 y)) (x : Int) {p : Addr} {v : Value} (hp : w.cell? p = some v) (hv : ∀ k z, v ≠ .int k z) : (w.setCell t (.int .i64 x)).cell? p = some v := by
  rw [World.cell?_setCell_other _ _ _ _ ?_]
  · exact hp
  · intro e
    subst e
    rw [ht] at hp
    cases hp
    exact hv _ _ rfl

theorem turn_int {w : World} {t : Addr} {y : Int} (ht : w.cell? t = some (.int .i64 y)) (x : Int) {p : Addr} {z : Int} (hp : w.cell? p = some (.int .i64 z)) : ∃ z', (w.setCell t (.int .i64 x)).cell? p = some (.int .i64 z') := by
  by_cases e : t = p
  · subst e
    exact ⟨x, World.cell?_setCell_same' _ _ _ (by rw [ht]; rfl)⟩
  · exact ⟨z, by rw [World.cell?_setCell_other _ _ _ _ (by first | exact e | exact fun h => e h.symm)]; exact hp⟩

/-- A number is written into some cell that holds a number: the chip has other numbers, its form is the same. -/
theorem ChipS.store {S : Nat → Prop} {w : World} {a : Option Addr} {bs : List Bk} (h : ChipS S w a bs) {t : Addr} {y : Int} (ht : w.cell? t = some (.int .i64 y)) (x : Int) :
    ∃ bs' : List Bk, bs'.length = bs.length ∧ (∀ (i : Nat) (b' : Bk), bs'[i]? = some b' → ∃ b : Bk, bs[i]? = some b ∧ b'.pages.length = b.pages.length) ∧ ChipS S (w.setCell t (.int .i64 x)) a bs' := by
  have key : ∀ i, i < bs.length → ∃ b' : Bk, ∃ b, bs[i]? = some b ∧ b'.pages.length = b.pages.length ∧ ∃ g o q qo pc, a = some ⟨g, o, none⟩ ∧ S g ∧ S q ∧ (∀ j, (w.setCell t (.int .i64 x)).frozen? ⟨g, j, none⟩ = false) ∧ (∀ j, (w.setCell t (.int .i64 x)).frozen? ⟨q, j, none⟩ = false) ∧
    (w.setCell t (.int .i64 x)).cell? ⟨g, o + i * 2, none⟩ = some (.int .i64 b'.wear) ∧ (w.setCell t (.int .i64 x)).cell? ⟨g, o + i * 2 + 1, none⟩ = some (.slice (some ⟨q, qo, none⟩) b'.pages.length pc) ∧ PagesAt (w.setCell t (.int .i64 x)) (some ⟨q, qo, none⟩) b'.pages := by
    intro i hi
    obtain ⟨b, hb⟩ := getElem?_ex hi
    obtain ⟨g, o, q, qo, pc, ha, h1, h2, f1, f2, c0, c1, hA⟩ := h i b hb
    obtain ⟨z, hz⟩ := turn_int ht x c0
    obtain ⟨ps, hpl, hps⟩ := list_of (P := fun j (p' : Pg) => (w.setCell t (.int .i64 x)).cell? ⟨q, qo + j * 4, none⟩ = some (.bool p'.used) ∧ (w.setCell t (.int .i64 x)).cell? ⟨q, qo + j * 4 + 1, none⟩ = some (.int .i64 p'.log) ∧ (w.setCell t (.int .i64 x)).cell? ⟨q, qo + j * 4 + 2, none⟩ = some (.int .i64 p'.seq) ∧ (w.setCell t (.int .i64 x)).cell? ⟨q, qo + j * 4 + 3, none⟩ = some (.string p'.data)) b.pages.length (fun j hj => by
      obtain ⟨p, hp⟩ := getElem?_ex hj
      obtain ⟨d0, d1, d2, d3⟩ := pagesAt_cells4 hA hp
      obtain ⟨z1, hz1⟩ := turn_int ht x d1
      obtain ⟨z2, hz2⟩ := turn_int ht x d2
      exact ⟨⟨p.used, z1, z2, p.data⟩, keep_int ht x d0 (fun _ _ e => by cases e), hz1, hz2, keep_int ht x d3 (fun _ _ e => by cases e)⟩)
    refine ⟨⟨z, ps⟩, b, hb, hpl, g, o, q, qo, pc, ha, h1, h2, fun j => by simpa using f1 j, fun j => by simpa using f2 j, hz, ?_, fun j p hp => ⟨q, qo, rfl, hps j p hp⟩⟩
    show _ = some (Value.slice (some ⟨q, qo, none⟩) ps.length pc)
    rw [hpl]
    exact keep_int ht x c1 (fun _ _ e => by cases e)
  obtain ⟨bs', hl, hP⟩ := list_of _ key
  refine ⟨bs', hl, fun i b' hb' => ?_, fun i b' hb' => ?_⟩
  · obtain ⟨b, h1, h2, _⟩ := hP i b' hb'
    exact ⟨b, h1, h2⟩
  · obtain ⟨b, h1, h2, h3⟩ := hP i b' hb'
    exact h3

theorem SpecBlocks.chipS {w : World} {tB tP : TypeId} {base : Nat} {a : Option Addr} {n c : Nat} {Q C : Nat → Nat} {bs : List Bk} (h : SpecBlocks w tB tP base (.slice a n c) Q C bs) : ChipS (fun k => base ≤ k ∧ k < w.heap.size) w a bs := by
  have hn : ∀ {g cap : Nat}, (Value.slice a n c) = .slice (some ⟨g, 0, none⟩) bs.length cap → w.ownsRow base tB 2 (.slice (some ⟨g, 0, none⟩) bs.length cap) bs.length (bkCells Q C 0 bs) := fun e => by rw [← e]; exact h.row
  rcases h.row.2 with ⟨hv, h0⟩ | ⟨g, cap, cur, hv, hb, hg, _⟩
  · intro i b hb
    have := (List.getElem?_eq_some_iff.1 hb).1
    omega
  · have hr := hn hv
    cases hv
    intro i b hb'
    have hc := bkCells_at Q C 0 hb'
    have hi := (List.getElem?_eq_some_iff.1 hb').1
    refine ⟨g, 0, Q i, 0, C i, rfl, ⟨hb, (Array.getElem?_eq_some_iff.1 hg).1⟩, h.Qlt hi, ownsRow_frozen hr, ownsRow_frozen (h.pages i b hb'), ?_, ?_, ownsRow_pagesAt (h.pages i b hb')⟩
    · rw [show 0 + i * 2 = i * 2 by omega]; exact ownsRow_cell hr hc.1
    · rw [show 0 + i * 2 + 1 = i * 2 + 1 by omega]
      have := ownsRow_cell hr hc.2
      rwa [Nat.zero_add] at this

theorem newPages_frozen (w : World) (tP : TypeId) (j : Nat) : (w.alloc (.cells (madeCells #[.bool false, .int .i64 0, .int .i64 0, .string ByteArray.empty] 16) tP)).frozen? ⟨w.heap.size, j, none⟩ = false :=
  ownsRow_frozen (newPages w w.heap.size tP (Nat.le_refl _)) j

/-- BlocksAt with what is known of the rows. -/
theorem chipS_of {S : Nat → Prop} {w : World} {g : Nat} {bs : List Bk} (h : BlocksAt w (some ⟨g, 0, none⟩) bs) (hg : S g ∧ ∀ j, w.frozen? ⟨g, j, none⟩ = false)
    (hq : ∀ i, i < bs.length → ∀ pa n c, w.cell? ⟨g, i * 2 + 1, none⟩ = some (.slice pa n c) → ∃ q qo, pa = some ⟨q, qo, none⟩ ∧ S q ∧ ∀ j, w.frozen? ⟨q, j, none⟩ = false) : ChipS S w (some ⟨g, 0, none⟩) bs := by
  intro i b hb
  obtain ⟨g', o, pa, pc, e, c0, c1, hP⟩ := h i b hb
  cases e
  obtain ⟨q, qo, rfl, hS, hf⟩ := hq i (List.getElem?_eq_some_iff.1 hb).1 pa _ _ (by rw [← c1]; congr 2; omega)
  exact ⟨g, 0, q, qo, pc, rfl, hg.1, hS, hg.2, hf, c0, c1, hP⟩

theorem SpecBlocks.setBlkS {w W : World} {tB tP : TypeId} {base gB n c : Nat} {Q C : Nat → Nat} {bs : List Bk} (h : SpecBlocks w tB tP base (.slice (some ⟨gB, 0, none⟩) n c) Q C bs) {k : Nat} (hk : k < bs.length) (x : Int) (q : Nat)
    (hB : ∀ b, base ≤ b → b < w.heap.size → W.heap[b]? = ((w.setCell ⟨gB, k * 2, none⟩ (.int .i64 x)).setCell ⟨gB, k * 2 + 1, none⟩ (.slice (some ⟨q, 0, none⟩) 4 4)).heap[b]?) (hP : PagesAt W (some ⟨q, 0, none⟩) zeroBk.pages)
    (hq : base ≤ q ∧ q < W.heap.size) (hqf : ∀ j, W.frozen? ⟨q, j, none⟩ = false) (hsz : w.heap.size ≤ W.heap.size) : ChipS (fun k => base ≤ k ∧ k < W.heap.size) W (some ⟨gB, 0, none⟩) (bs.set k ⟨x, zeroBk.pages⟩) := by
  have hgB : gB < w.heap.size := (h.row.lt gB rfl).2
  have hgb : base ≤ gB := (h.row.lt gB rfl).1
  have hlen : n = bs.length := by
    rcases h.row.2 with ⟨hv, _⟩ | ⟨g, cap, cur, hv, _⟩
    · cases hv
    · simp at hv; omega
  subst hlen
  have hfr : ∀ b j, base ≤ b → b < w.heap.size → W.frozen? ⟨b, j, none⟩ = w.frozen? ⟨b, j, none⟩ := fun b j h1 h2 => (frozen_of_block (hB b h1 h2)).trans (by simp)
  refine chipS_of (h.setBlk2 hk x q hB hP) ⟨⟨hgb, by omega⟩, fun j => (hfr _ _ hgb hgB).trans (ownsRow_frozen h.row j)⟩ fun i hi pa m d hc => ?_
  rw [List.length_set] at hi
  rw [World.cell?_of_block (a := ⟨gB, i * 2 + 1, none⟩) (hB gB hgb hgB)] at hc
  obtain ⟨b, hb⟩ := getElem?_ex hi
  have hcw := ownsRow_cell h.row (bkCells_at Q C 0 hb).2
  by_cases e : i = k
  · subst e
    rw [World.cell?_setCell_same' _ _ _ (by rw [World.cell?_setCell_other _ _ _ _ (by simp), hcw]; rfl)] at hc
    cases hc
    exact ⟨q, 0, rfl, hq, hqf⟩
  · rw [World.cell?_setCell_other _ _ _ _ (by simp <;> omega), World.cell?_setCell_other _ _ _ _ (by simp <;> omega), hcw] at hc
    cases hc
    have hQ := h.Qlt hi
    rw [Nat.zero_add]
    exact ⟨Q i, 0, rfl, ⟨hQ.1, by omega⟩, fun j => (hfr _ _ hQ.1 hQ.2).trans (ownsRow_frozen (h.pages i b hb) j)⟩

end Go.Proofs.YtjgcjeaplckbbaaGreat
