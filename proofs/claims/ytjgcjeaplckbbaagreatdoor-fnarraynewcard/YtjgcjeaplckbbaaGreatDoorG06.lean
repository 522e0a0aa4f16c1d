/- 2 texts in one. -/
import Derived.Test.YtjgcjeaplckbbaaGreatDoorG02
import Derived.Test.YtjgcjeaplckbbaaGreatDoorG05
import Derived.WalkKit
import Derived.Outline

/- The program's NextOf. -/
namespace Go.Proofs.YtjgcjeaplckbbaaGreatDoor
open Go.RowKit
set_option linter.unusedVariables false
set_option linter.unusedSimpArgs false

set_option maxRecDepth 100000 in
set_option maxHeartbeats 1000000 in
theorem next_any (x : Int) (f : Nat → Pg) (w : World) :
    Calls Tryz.prog 200 #[.agg (bcA x f)] w fun e w' => ∃ r : Int, e = .returned (.int .i64 r) ∧ NextIs (fun k => (f k).used) 4 r ∧ Below w.heap.size w w' := by
  go_enter Tryz.func200, Tryz.ntmps200
  go_wp2_with (refine wpList_load_mid rfl 123 _ rfl w.heap.size 1 rfl (paA f) 16 (paA_size f) (fun j hj => by simp; rw [bcA_page x f hj, paA_get f hj]) _ Tryz.underlying123 rfl sizePages ?_)
  go_loopw [7] (fun i wr => ∃ (k : Nat), k ≤ 4 ∧ i = .int .i64 k ∧ (∀ t, t < k → (f t).used = true) ∧ Below (w.heap.size + 1) (w.alloc (.cells (bcA x f) 125)) wr) (fun i _ => 4 - (intOf i).toNat)
  case atStart => exact ⟨0, by omega, rfl, fun t ht => absurd ht (Nat.not_lt_zero _), Below.refl _ _⟩
  case round =>
    obtain ⟨k, hk, rfl, h1, hB⟩ := hrel
    have hsz := hB.size
    simp at hsz
    have hout : ∀ W, Below wr.heap.size wr W → Below w.heap.size w W := fun W hW => ((((Below.refl _ w).alloc (Nat.le_refl _) _).trans (hB.mono (by omega))).trans (hW.mono (by omega)))
    by_cases hlt : k < 4
    · have hidx := fun W => run_index_pages (P := Tryz.prog) W 123 122 f k hlt Tryz.underlying123 _ Tryz.underlying122 rfl sizePage
      obtain ⟨p, hp⟩ : ∃ p, f k = p := ⟨_, rfl⟩
      rw [hp] at hidx
      obtain ⟨u, l, s, d⟩ := p
      simp only at hidx
      have hk4 : (k : Int) < 4 := by omega
      have HP := hide hp
      have H1 := hide h1
      clear h1 hp
      cases u with
      | true =>
        go_wp2
        go_roundw
        case rel =>
          refine ⟨k + 1, by omega, by go_num, fun t ht => ?_, hB.alloc (by omega) _⟩
          by_cases e : t = k
          · subst e; rw [unhide HP]
          · exact unhide H1 t (by omega)
        case measure => simp [intOf]; omega
      | false =>
        go_wp2
        go_ret
        exact ⟨_, rfl, .inl ⟨k, hlt, by go_num, by show (f k).used = false; rw [unhide HP], unhide H1⟩, hout _ ((Below.refl _ _).alloc (Nat.le_refl _) _)⟩
    · have hk4 : k = 4 := by omega
      subst hk4
      have H1 := hide h1
      clear h1
      go_wp2
      go_ret
      exact ⟨_, rfl, .inr ⟨rfl, unhide H1⟩, hout _ (Below.refl _ _)⟩

set_option maxRecDepth 100000 in
theorem has_any (A : Array Value) (n : Int) (hA : A[0]? = some (.int .i64 n)) (h0 : 0 ≤ n) (h1 : n ≤ 12) (blk : Int) (w : World) :
    Calls Tryz.prog 140 #[.agg A, .int .i64 blk] w fun e w' => e = .returned (.bool (decide (0 ≤ blk ∧ blk ≤ n - 1))) ∧ Below w.heap.size w w' := by
  go_enter Tryz.func140, Tryz.ntmps140
  go_wp2_with fail
  refine (within_any _ _ _ _).mono ?_
  rintro e w1 ⟨rfl, rfl⟩
  go_wp2
  go_ret
  exact ⟨by simp, (Below.refl _ w).alloc (Nat.le_refl _) _⟩

end Go.Proofs.YtjgcjeaplckbbaaGreatDoor

/- The program's FreeOf. -/
namespace Go.Proofs.YtjgcjeaplckbbaaGreatDoor
open Go.RowKit
set_option linter.unusedVariables false
set_option linter.unusedSimpArgs false

theorem infoInt64I : (Tryz.prog.info? 2).map (fun i => (i.zero, i.size, i.bytes)) = some (some (.int .i64 0), 1, 8) := by kernel_rfl

set_option maxRecDepth 100000 in
set_option maxHeartbeats 1000000 in
theorem free_any (x : Int) (f : Nat → Pg) (w : World) :
    Calls Tryz.prog 196 #[.agg (bcA x f)] w fun e w' => e = .returned (.bool (!(f 0).used)) ∧ Below w.heap.size w w' := by
  have hb0 : ∀ o, Below w.heap.size w (w.alloc o) := fun o => (Below.refl _ w).alloc (Nat.le_refl _) _
  go_enter Tryz.func196, Tryz.ntmps196
  go_wp2_with (refine wpList_load_row rfl 125 _ rfl w.heap.size rfl 125 (bcA x f) (0, 0) _ (Go.Deep.blk_alloc_new _ _) Tryz.underlying125 rfl (by rw [bcA_size]; exact sizeBC) ?_)
  refine (next_any x f _).mono ?_
  rintro e w1 ⟨r, rfl, hr, hB⟩
  have hd : (r == 0) = !(f 0).used := by
    rcases hr with ⟨k, hk, rfl, h1, h2⟩ | ⟨rfl, h1⟩
    · cases k with
      | zero => simp only at h1; simp [h1]
      | succ k => have := h2 0 (by omega); simp only at this; simp [this]; omega
    · have := h1 0 (by omega); simp only at this; simp [this]
  have HD := hide hd
  clear hr hd
  generalize bcA x f = A at *
  go_wp2
  go_ret
  exact ⟨by rw [← unhide HD]; simp, (hb0 _).trans (hB.mono (by simp))⟩

set_option maxRecDepth 100000 in
set_option maxHeartbeats 1000000 in
theorem freeBlocks_any (A : Array Value) (m : CC) (n : Nat) (hA0 : A[0]? = some (.int .i64 (n : Int))) (hAb : ∀ b i, b < 12 → i < 17 → A[1 + b * 17 + i]? = (bcA (m.wear b) (m.page b))[i]?) (hn : n ≤ 12) (w : World) :
    Calls Tryz.prog 150 #[.agg A] w fun e w' => ∃ v, e = .returned v ∧ OwnInts w' 2 (w.heap.size + 1) v (freeTo (ccBs m n) n) ∧ Below w.heap.size w w' := by
  have HAB := hide hAb
  clear hAb
  go_enter Tryz.func150, Tryz.ntmps150
  go_wp2
  go_loopw [3, 7] (fun v i wr => ∃ k : Nat, k ≤ n ∧ i = .int .i64 k ∧ OwnInts wr 2 (w.heap.size + 1) v (freeTo (ccBs m n) k) ∧ Below (w.heap.size + 1) (w.alloc (.cells A 128)) wr) (fun _ i _ => n - (intOf i).toNat)
  case atStart =>
    refine ⟨0, Nat.zero_le _, rfl, ?_, Below.refl _ _⟩
    have := World.ownsRow_nil (w.alloc (.cells A 128)) (w.heap.size + 1) 2 1
    simpa [OwnInts, ints, freeTo] using this
  case round =>
    obtain ⟨k, hk, rfl, hO, hB⟩ := hrel
    have hsz := hB.size
    simp at hsz
    by_cases hlt : k < n
    · have hblk : ∀ j, j < 17 → wr.cell? ⟨w.heap.size, 1 + k * 17 + j, none⟩ = (bcA (m.wear k) (m.page k))[j]? := fun j hj => by
        rw [hB.cell (p := ⟨w.heap.size, 1 + k * 17 + j, none⟩) (by simp), cell_of_row _ _ _ _ _ _ (Go.Deep.blk_alloc_new _ _)]
        exact unhide HAB k j (by omega) hj
      have HB := hide hblk
      have hki : (k : Int) < 12 := by omega
      have hbg : begun (ccBs m n) k = (m.page k 0).used := by
        have e0 : pagesF (ccPs m k) 0 = m.page k 0 := rfl
        simp [begun, ccBs_at m hlt, pu, e0]
      have hst := freeTo_succ (ccBs m n) k
      have hln := freeTo_length (ccBs m n) k
      rw [hbg] at hst
      have HO := hide hO
      have HS := hide hst
      clear hO hst hbg hblk hA0
      go_wp2_with (refine wpList_load_mid rfl 125 _ rfl w.heap.size (1 + k * 17) rfl (bcA (m.wear k) (m.page k)) 17 (bcA_size _ _) (unhide HB) _ Tryz.underlying125 rfl sizeBC ?_)
      refine (free_any _ _ _).mono ?_
      rintro e w2 ⟨rfl, hB2⟩
      have hs2 := hB2.size
      have hBB : Below (w.heap.size + 1) (w.alloc (.cells A 128)) w2 := hB.trans (hB2.mono (by omega))
      have HO2 := hide ((unhide HO).kept hB2)
      have HS2 := HS
      clear HB HS HO hB2 hB
      generalize bcA (m.wear k) (m.page k) = A2 at *
      cases hu : (m.page k 0).used with
      | true =>
        rw [hu] at HS2
        clear hu
        simp only [Bool.not_true]
        go_wp2
        go_roundw
        case rel =>
          refine ⟨k + 1, by omega, by go_num, ?_, hBB⟩
          rw [unhide HS2]
          simpa using unhide HO2
        case measure => simp [intOf]; omega
      | false =>
        rw [hu] at HS2
        clear hu
        simp only [Bool.not_false]
        obtain ⟨i0, hi, hz0, hz1, hz2⟩ := info_parts infoInt64I
        obtain ⟨X, hX⟩ : ∃ X, X = ints (freeTo (ccBs m n) k) := ⟨_, rfl⟩
        obtain ⟨q, hm⟩ : ∃ q, q = (freeTo (ccBs m n) k).length := ⟨_, rfl⟩
        have hR : w2.ownsRow (w.heap.size + 1) 2 1 u3 q X := by rw [hX, hm]; exact unhide HO2
        rw [← hm] at hln
        have HX := hide (And.intro hX hm)
        clear hX hm
        go_wp2_with (refine wpList_append_lies _ rfl (.tmp 15) (.tmp 17) 24 rfl (w.heap.size + 1) 2 i0 _ 1 8 Tryz.underlying24 hi hz0 hz1 hz2 rfl (by decide) u3 q X (by simp [Act.eval]) (by exact hR.alloc _) ⟨w2.heap.size, 0, none⟩ 1 1 [.int .i64 (k : Int)] (by simp [Act.eval]) rfl (World.news_of_block (cs := #[.int .i64 (k : Int)]) (t := 2) (fr := (0, 0)) (by exact Go.Deep.blk_alloc_new _ _)) (by simp [Value.oneCell']) (by omega) (by unfold maxLen; omega) (by omega) (by simp; omega) (w2.heap.size + 1) (by simp) ?_; intro g1 cap w3 hown hgrow hat hlt1)
        go_roundw
        case rel =>
          refine ⟨k + 1, by omega, by go_num, ?_, ?_⟩
          · rw [unhide HS2]
            obtain ⟨e1, e2⟩ := unhide HX
            rw [e1, e2] at hown
            rw [e2]
            simpa [OwnInts, ints] using hown
          · refine Below.grown (hBB.alloc (by omega) _) hgrow (by simp; omega) (fun j e => ?_)
            exact (hR.lt j e).1
        case measure => simp [intOf]; omega
    · have hk' : k = n := by omega
      subst hk'
      have HO := hide hO
      clear hO
      go_wp2
      go_ret
      exact ⟨_, rfl, unhide HO, ((Below.refl _ w).alloc (Nat.le_refl _) _).trans (hB.mono (by omega))⟩

end Go.Proofs.YtjgcjeaplckbbaaGreatDoor
