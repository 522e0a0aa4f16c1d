/- The program's NextOf. -/
import Derived.Test.YtageolbmplhgaaaNextP
import Derived.Test.YtageolbmplhgaaaCells
import Derived.WalkKit
import Derived.Outline
namespace Go.Proofs.Ytageolbmplhgaaa
open Go.RowKit
set_option linter.unusedVariables false
set_option linter.unusedSimpArgs false

set_option maxRecDepth 100000 in
set_option maxHeartbeats 1000000 in
theorem next_any (x : Int) (f : Nat → Pg) (w : World) :
    Calls Try.prog 67 #[.agg (bcA x f)] w fun e w' => ∃ r : Int, e = .returned (.int .i64 r) ∧ NextIs (fun k => (f k).used) 4 r ∧ Below w.heap.size w w' := by
  go_enter Try.func67, Try.ntmps67
  go_wp2_with (refine wpList_load_mid rfl 79 _ rfl w.heap.size 1 rfl (paA f) 16 (paA_size f) (fun j hj => by simp; rw [bcA_page x f hj, paA_get f hj]) _ Try.underlying79 rfl sizePages ?_)
  go_loopw [7] (fun i wr => ∃ (k : Nat), k ≤ 4 ∧ i = .int .i64 k ∧ (∀ t, t < k → (f t).used = true) ∧ Below (w.heap.size + 1) (w.alloc (.cells (bcA x f) 81)) wr) (fun i _ => 4 - (intOf i).toNat)
  case atStart => exact ⟨0, by omega, rfl, fun t ht => absurd ht (Nat.not_lt_zero _), Below.refl _ _⟩
  case round =>
    obtain ⟨k, hk, rfl, h1, hB⟩ := hrel
    have hsz := hB.size
    simp at hsz
    have hout : ∀ W, Below wr.heap.size wr W → Below w.heap.size w W := fun W hW => ((((Below.refl _ w).alloc (Nat.le_refl _) _).trans (hB.mono (by omega))).trans (hW.mono (by omega)))
    by_cases hlt : k < 4
    · have hidx := fun W => run_index_pages (P := Try.prog) W 79 44 f k hlt Try.underlying79 _ Try.underlying44 rfl sizePage
      obtain ⟨p, hp⟩ : ∃ p, f k = p := ⟨_, rfl⟩
      rw [hp] at hidx
      obtain ⟨u, l, s, d⟩ := p
      simp only at hidx
      have hk4 : (k : Int) < 4 := by omega
      have HP := hide hp
      have H1 := hide h1
      clear h1 hp
      cases u with
      | true =>
        go_wp2
        go_roundw
        case rel =>
          refine ⟨k + 1, by omega, by go_num, fun t ht => ?_, hB.alloc (by omega) _⟩
          by_cases e : t = k
          · subst e; rw [unhide HP]
          · exact unhide H1 t (by omega)
        case measure => simp [intOf]; omega
      | false =>
        go_wp2
        go_ret
        exact ⟨_, rfl, .inl ⟨k, hlt, by go_num, by show (f k).used = false; rw [unhide HP], unhide H1⟩, hout _ ((Below.refl _ _).alloc (Nat.le_refl _) _)⟩
    · have hk4 : k = 4 := by omega
      subst hk4
      have H1 := hide h1
      clear h1
      go_wp2
      go_ret
      exact ⟨_, rfl, .inr ⟨rfl, unhide H1⟩, hout _ (Below.refl _ _)⟩

set_option maxRecDepth 100000 in
theorem has_any (A : Array Value) (n : Int) (hA : A[0]? = some (.int .i64 n)) (h0 : 0 ≤ n) (h1 : n ≤ 12) (blk : Int) (w : World) :
    Calls Try.prog 66 #[.agg A, .int .i64 blk] w fun e w' => e = .returned (.bool (decide (0 ≤ blk ∧ blk ≤ n - 1))) ∧ Below w.heap.size w w' := by
  go_enter Try.func66, Try.ntmps66
  go_wp2_with fail
  refine (within_any _ _ _ _).mono ?_
  rintro e w1 ⟨rfl, rfl⟩
  go_wp2
  go_ret
  exact ⟨by simp, (Below.refl _ w).alloc (Nat.le_refl _) _⟩

set_option maxRecDepth 100000 in
set_option maxHeartbeats 1000000 in
theorem implNextOf_any (a : Option Addr) (c : Nat) (bs : List Bk) (n : Nat) (hl : bs.length = n) (blk : Int) (w : World) (h : BlocksAt w a bs) (hn : Lens 9223372036854775807 bs) :
    Calls Try.prog 25 #[.agg #[.slice a n c], .int .i64 blk] w fun e w' => ∃ r : Int, e = .returned (.int .i64 r) ∧ NextOfIs bs blk r ∧ Below w.heap.size w w' := by
  subst hl
  have hb0 : ∀ o, Below w.heap.size w (w.alloc o) := fun o => (Below.refl _ w).alloc (Nat.le_refl _) _
  go_enter Try.func25, Try.ntmps25
  go_wp2_with fail
  refine (cellsOf_any a c bs _ (h.below (hb0 _) (Nat.le_refl _)) hn).mono ?_
  rintro e w1 ⟨⟨m, r, rfl, hr, hm⟩, hB1⟩
  have hW1 : Below w.heap.size w w1 := (hb0 _).trans (hB1.mono (by simp))
  have hs1 := hB1.size
  simp at hs1
  have hsc := store_cc m w1
  have hAs := ccA_size m
  have hA0 := ccA_count m
  have hAb := fun b i hb hi => ccA_block m (b := b) (i := i) hb hi
  have HSZ := hide (sizeCC m)
  have HR := hide hr
  have HM := hide hm
  generalize ccA m = A at hsc hAs hA0 hAb HSZ
  have HA0 := hide hA0
  have HAB := hide hAb
  clear hr hm hA0 hAb h hn hB1 hb0
  cases r with
  | false =>
    go_wp2
    go_ret
    exact ⟨_, rfl, .inl ⟨(fun hc => by have := (unhide HR).2 hc.1; cases this), rfl⟩, hW1.alloc hW1.size _⟩
  | true =>
    have hok := (unhide HR).1 rfl
    have hc12 := hok.count
    obtain ⟨hct, hbss⟩ := unhide HM rfl
    have HO := hide hok
    have HS := hide hbss
    have hA0 := unhide HA0
    rw [hct] at hA0
    have HA0' := hide hA0
    clear hok hbss hA0 HA0 HM
    go_wp2_with fail
    refine wp_load_row 84 _ rfl w1.heap.size rfl 84 A (0, 0) _ (Go.Deep.blk_alloc_new _ _) Try.underlying84 rfl (unhide HSZ) ?_
    clear hsc
    go_wp2_with fail
    refine (has_any A (bs.length : Int) (unhide HA0') (by omega) (by omega) blk _).mono ?_
    rintro e w2 ⟨rfl, hB2⟩
    have hs2 := hB2.size
    simp at hs2
    have hW2 : Below w.heap.size w w2 := (hW1.alloc hW1.size _).trans (hB2.mono (by simp; omega))
    by_cases hin : 0 ≤ blk ∧ blk ≤ (bs.length : Int) - 1
    · obtain ⟨k, rfl⟩ := Int.eq_ofNat_of_zero_le hin.1
      have hk12 : k < 12 := by omega
      have hki : (k : Int) < 12 := by omega
      have hd : decide ((0 : Int) ≤ (k : Int) ∧ (k : Int) ≤ (bs.length : Int) - 1) = true := by simp; omega
      rw [hd]
      have hblk : ∀ j, j < 17 → w2.cell? ⟨w1.heap.size, 1 + k * 17 + j, none⟩ = (bcA (m.wear k) (m.page k))[j]? := fun j hj => by
        rw [hB2.cell (p := ⟨w1.heap.size, 1 + k * 17 + j, none⟩) (by simp), cell_of_row _ _ _ _ _ _ (Go.Deep.blk_alloc_new _ _)]
        exact unhide HAB k j hk12 hj
      have HB := hide hblk
      have hkl : k < bs.length := by omega
      clear hblk hd hin hB2
      go_wp2_with (refine wpList_load_mid rfl 81 _ rfl w1.heap.size (1 + k * 17) rfl (bcA (m.wear k) (m.page k)) 17 (bcA_size _ _) (unhide HB) _ Try.underlying81 rfl sizeBC ?_)
      refine (next_any _ _ _).mono ?_
      rintro e w3 ⟨r, rfl, hr, hB3⟩
      have HR3 := hide hr
      have hW3 := hW2.trans (hB3.mono hW2.size)
      clear hr hB3
      go_wp2
      go_ret
      refine ⟨_, rfl, .inr ⟨⟨unhide HO, by omega, by omega⟩, ⟨m.wear k, ccPs m k⟩, ?_, ?_⟩, hW3⟩
      · have := ccBs_at m hkl
        rw [unhide HS] at this
        simpa using this
      · refine (unhide HR3).congr (fun t ht => ?_)
        show _ = (pagesF (ccPs m k) t).used
        simp only [pagesF]
        rw [ccPs_at m k ht]
        rfl
    · have hd : decide ((0 : Int) ≤ blk ∧ blk ≤ (bs.length : Int) - 1) = false := by simpa using hin
      rw [hd]
      have HIN := hide hin
      clear hin hd
      go_wp2
      go_ret
      exact ⟨_, rfl, .inl ⟨fun hc => unhide HIN hc.2, rfl⟩, hW2⟩
end Go.Proofs.Ytageolbmplhgaaa
