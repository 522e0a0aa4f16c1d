/- The program's FreeOf. -/
import Derived.Test.YtaelbmilicfkhaaFreeP
import Derived.Test.YtaelbmilicfkhaaNextI
import Derived.WalkKit
import Derived.Outline
namespace Go.Proofs.Ytaelbmilicfkhaa
open Go.RowKit
set_option linter.unusedVariables false
set_option linter.unusedSimpArgs false

theorem infoInt64I : (Try.prog.info? 2).map (fun i => (i.zero, i.size, i.bytes)) = some (some (.int .i64 0), 1, 8) := by kernel_rfl

set_option maxRecDepth 100000 in
set_option maxHeartbeats 1000000 in
theorem free_any (x : Int) (f : Nat → Pg) (w : World) :
    Calls Try.prog 78 #[.agg (bcA x f)] w fun e w' => e = .returned (.bool (!(f 0).used)) ∧ Below w.heap.size w w' := by
  have hb0 : ∀ o, Below w.heap.size w (w.alloc o) := fun o => (Below.refl _ w).alloc (Nat.le_refl _) _
  go_enter Try.func78, Try.ntmps78
  go_wp2_with (refine wpList_load_row rfl 71 _ rfl w.heap.size rfl 71 (bcA x f) (0, 0) _ (Go.Deep.blk_alloc_new _ _) Try.underlying71 rfl (by rw [bcA_size]; exact sizeBC) ?_)
  refine (next_any x f _).mono ?_
  rintro e w1 ⟨r, rfl, hr, hB⟩
  have hd : (r == 0) = !(f 0).used := by
    rcases hr with ⟨k, hk, rfl, h1, h2⟩ | ⟨rfl, h1⟩
    · cases k with
      | zero => simp only at h1; simp [h1]
      | succ k => have := h2 0 (by omega); simp only at this; simp [this]; omega
    · have := h1 0 (by omega); simp only at this; simp [this]
  have HD := hide hd
  clear hr hd
  generalize bcA x f = A at *
  go_wp2
  go_ret
  exact ⟨by rw [← unhide HD]; simp, (hb0 _).trans (hB.mono (by simp))⟩

set_option maxRecDepth 100000 in
set_option maxHeartbeats 1000000 in
theorem freeBlocks_any (A : Array Value) (m : CC) (n : Nat) (hA0 : A[0]? = some (.int .i64 (n : Int))) (hAb : ∀ b i, b < 12 → i < 17 → A[1 + b * 17 + i]? = (bcA (m.wear b) (m.page b))[i]?) (hn : n ≤ 12) (w : World) :
    Calls Try.prog 58 #[.agg A] w fun e w' => ∃ v, e = .returned v ∧ OwnInts w' 2 (w.heap.size + 1) v (freeTo (ccBs m n) n) ∧ Below w.heap.size w w' := by
  have HAB := hide hAb
  clear hAb
  go_enter Try.func58, Try.ntmps58
  go_wp2
  go_loopw [3, 7] (fun v i wr => ∃ k : Nat, k ≤ n ∧ i = .int .i64 k ∧ OwnInts wr 2 (w.heap.size + 1) v (freeTo (ccBs m n) k) ∧ Below (w.heap.size + 1) (w.alloc (.cells A 74)) wr) (fun _ i _ => n - (intOf i).toNat)
  case atStart =>
    refine ⟨0, Nat.zero_le _, rfl, ?_, Below.refl _ _⟩
    have := World.ownsRow_nil (w.alloc (.cells A 74)) (w.heap.size + 1) 2 1
    simpa [OwnInts, ints, freeTo] using this
  case round =>
    obtain ⟨k, hk, rfl, hO, hB⟩ := hrel
    have hsz := hB.size
    simp at hsz
    by_cases hlt : k < n
    · have hblk : ∀ j, j < 17 → wr.cell? ⟨w.heap.size, 1 + k * 17 + j, none⟩ = (bcA (m.wear k) (m.page k))[j]? := fun j hj => by
        rw [hB.cell (p := ⟨w.heap.size, 1 + k * 17 + j, none⟩) (by simp), cell_of_row _ _ _ _ _ _ (Go.Deep.blk_alloc_new _ _)]
        exact unhide HAB k j (by omega) hj
      have HB := hide hblk
      have hki : (k : Int) < 12 := by omega
      have hbg : begun (ccBs m n) k = (m.page k 0).used := by
        have e0 : pagesF (ccPs m k) 0 = m.page k 0 := rfl
        simp [begun, ccBs_at m hlt, pu, e0]
      have hst := freeTo_succ (ccBs m n) k
      have hln := freeTo_length (ccBs m n) k
      rw [hbg] at hst
      have HO := hide hO
      have HS := hide hst
      clear hO hst hbg hblk hA0
      go_wp2_with (refine wpList_load_mid rfl 71 _ rfl w.heap.size (1 + k * 17) rfl (bcA (m.wear k) (m.page k)) 17 (bcA_size _ _) (unhide HB) _ Try.underlying71 rfl sizeBC ?_)
      refine (free_any _ _ _).mono ?_
      rintro e w2 ⟨rfl, hB2⟩
      have hs2 := hB2.size
      have hBB : Below (w.heap.size + 1) (w.alloc (.cells A 74)) w2 := hB.trans (hB2.mono (by omega))
      have HO2 := hide ((unhide HO).kept hB2)
      have HS2 := HS
      clear HB HS HO hB2 hB
      generalize bcA (m.wear k) (m.page k) = A2 at *
      cases hu : (m.page k 0).used with
      | true =>
        rw [hu] at HS2
        clear hu
        simp only [Bool.not_true]
        go_wp2
        go_roundw
        case rel =>
          refine ⟨k + 1, by omega, by go_num, ?_, hBB⟩
          rw [unhide HS2]
          simpa using unhide HO2
        case measure => simp [intOf]; omega
      | false =>
        rw [hu] at HS2
        clear hu
        simp only [Bool.not_false]
        obtain ⟨i0, hi, hz0, hz1, hz2⟩ := info_parts infoInt64I
        obtain ⟨X, hX⟩ : ∃ X, X = ints (freeTo (ccBs m n) k) := ⟨_, rfl⟩
        obtain ⟨q, hm⟩ : ∃ q, q = (freeTo (ccBs m n) k).length := ⟨_, rfl⟩
        have hR : w2.ownsRow (w.heap.size + 1) 2 1 u3 q X := by rw [hX, hm]; exact unhide HO2
        rw [← hm] at hln
        have HX := hide (And.intro hX hm)
        clear hX hm
        go_wp2_with (refine wpList_append_lies _ rfl (.tmp 15) (.tmp 17) 30 rfl (w.heap.size + 1) 2 i0 _ 1 8 Try.underlying30 hi hz0 hz1 hz2 rfl (by decide) u3 q X (by simp [Act.eval]) (by exact hR.alloc _) ⟨w2.heap.size, 0, none⟩ 1 1 [.int .i64 (k : Int)] (by simp [Act.eval]) rfl (World.news_of_block (cs := #[.int .i64 (k : Int)]) (t := 2) (fr := (0, 0)) (by exact Go.Deep.blk_alloc_new _ _)) (by simp [Value.oneCell']) (by omega) (by unfold maxLen; omega) (by omega) (by simp; omega) (w2.heap.size + 1) (by simp) ?_; intro g1 cap w3 hown hgrow hat hlt1)
        go_roundw
        case rel =>
          refine ⟨k + 1, by omega, by go_num, ?_, ?_⟩
          · rw [unhide HS2]
            obtain ⟨e1, e2⟩ := unhide HX
            rw [e1, e2] at hown
            rw [e2]
            simpa [OwnInts, ints] using hown
          · refine Below.grown (hBB.alloc (by omega) _) hgrow (by simp; omega) (fun j e => ?_)
            exact (hR.lt j e).1
        case measure => simp [intOf]; omega
    · have hk' : k = n := by omega
      subst hk'
      have HO := hide hO
      clear hO
      go_wp2
      go_ret
      exact ⟨_, rfl, unhide HO, ((Below.refl _ w).alloc (Nat.le_refl _) _).trans (hB.mono (by omega))⟩

set_option maxRecDepth 100000 in
set_option maxHeartbeats 1000000 in
theorem implFreeOf_any (a : Option Addr) (c : Nat) (bs : List Bk) (n : Nat) (hl : bs.length = n) (w : World) (h : BlocksAt w a bs) (hn : Lens 9223372036854775807 bs) :
    Calls Try.prog 25 #[.agg #[.slice a n c]] w fun e w' => ∃ v L, e = .returned v ∧ FreeIs bs L ∧ OwnInts w' 2 w.heap.size v L ∧ Below w.heap.size w w' := by
  subst hl
  have hb0 : ∀ o, Below w.heap.size w (w.alloc o) := fun o => (Below.refl _ w).alloc (Nat.le_refl _) _
  go_enter Try.func25, Try.ntmps25
  go_wp2_with fail
  refine (cellsOf_any a c bs _ (h.below (hb0 _) (Nat.le_refl _)) hn).mono ?_
  rintro e w1 ⟨⟨m, r, rfl, hr, hm⟩, hB1⟩
  have hW1 : Below w.heap.size w w1 := (hb0 _).trans (hB1.mono (by simp))
  have hs1 := hB1.size
  simp at hs1
  have hsc := store_cc m w1
  have hAs := ccA_size m
  have hA0 := ccA_count m
  have hAb := fun b i hb hi => ccA_block m (b := b) (i := i) hb hi
  have HSZ := hide (sizeCC m)
  have HR := hide hr
  have HM := hide hm
  generalize ccA m = A at hsc hAs hA0 hAb HSZ
  have HA0 := hide hA0
  have HAB := hide hAb
  clear hr hm hA0 hAb h hn hB1 hb0
  cases r with
  | false =>
    go_wp2
    go_ret
    refine ⟨_, [], rfl, .inr ⟨(fun hc => by have := (unhide HR).2 hc; cases this), rfl⟩, ?_, hW1.alloc hW1.size _⟩
    exact World.ownsRow_nil _ _ _ _
  | true =>
    have hok := (unhide HR).1 rfl
    have hc12 := hok.count
    obtain ⟨hct, hbss⟩ := unhide HM rfl
    have HO := hide hok
    have HS := hide hbss
    have hA0 := unhide HA0
    rw [hct] at hA0
    have HA0' := hide hA0
    clear hok hbss hA0 HA0 HM
    go_wp2_with fail
    refine wp_load_row 74 _ rfl w1.heap.size rfl 74 A (0, 0) _ (Go.Deep.blk_alloc_new _ _) Try.underlying74 rfl (unhide HSZ) ?_
    clear hsc
    go_wp2_with fail
    refine (freeBlocks_any A m bs.length (unhide HA0') (unhide HAB) (by omega) _).mono ?_
    rintro e w2 ⟨v, rfl, hv, hB2⟩
    have HV := hide hv
    have hW2 : Below w.heap.size w w2 := (hW1.alloc hW1.size _).trans (hB2.mono (by simp; omega))
    clear hv hB2
    go_wp2
    go_ret
    refine ⟨_, freeTo bs bs.length, rfl, .inl ⟨unhide HO, rfl⟩, ?_, hW2⟩
    have hV := unhide HV
    rw [unhide HS] at hV
    obtain ⟨q1, q2⟩ := hV
    refine ⟨q1, ?_⟩
    rcases q2 with q | ⟨g, cap, cur, e1, e2, e3⟩
    · exact .inl q
    · exact .inr ⟨g, cap, cur, e1, by have := hW1.size; simp at e2; omega, e3⟩
end Go.Proofs.Ytaelbmilicfkhaa
