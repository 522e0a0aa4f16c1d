/- The program's NextOf. -/
import Derived.Test.YtaelbmilicfkhaaNextP
import Derived.Test.YtaelbmilicfkhaaCells
import Derived.WalkKit
import Derived.Outline
namespace Go.Proofs.Ytaelbmilicfkhaa
open Go.RowKit
set_option linter.unusedVariables false
set_option linter.unusedSimpArgs false

set_option maxRecDepth 100000 in
set_option maxHeartbeats 1000000 in
theorem next_any (x : Int) (f : Nat → Pg) (w : World) :
    Calls Try.prog 87 #[.agg (bcA x f)] w fun e w' => ∃ r : Int, e = .returned (.int .i64 r) ∧ NextIs (fun k => (f k).used) 4 r ∧ Below w.heap.size w w' := by
  go_enter Try.func87, Try.ntmps87
  go_wp2_with (refine wpList_load_mid rfl 69 _ rfl w.heap.size 1 rfl (paA f) 16 (paA_size f) (fun j hj => by simp; rw [bcA_page x f hj, paA_get f hj]) _ Try.underlying69 rfl sizePages ?_)
  go_loopw [7] (fun i wr => ∃ (k : Nat), k ≤ 4 ∧ i = .int .i64 k ∧ (∀ t, t < k → (f t).used = true) ∧ Below (w.heap.size + 1) (w.alloc (.cells (bcA x f) 71)) wr) (fun i _ => 4 - (intOf i).toNat)
  case atStart => exact ⟨0, by omega, rfl, fun t ht => absurd ht (Nat.not_lt_zero _), Below.refl _ _⟩
  case round =>
    obtain ⟨k, hk, rfl, h1, hB⟩ := hrel
    have hsz := hB.size
    simp at hsz
    have hout : ∀ W, Below wr.heap.size wr W → Below w.heap.size w W := fun W hW => ((((Below.refl _ w).alloc (Nat.le_refl _) _).trans (hB.mono (by omega))).trans (hW.mono (by omega)))
    by_cases hlt : k < 4
    · have hidx := fun W => run_index_pages (P := Try.prog) W 69 68 f k hlt Try.underlying69 _ Try.underlying68 rfl sizePage
      obtain ⟨p, hp⟩ : ∃ p, f k = p := ⟨_, rfl⟩
      rw [hp] at hidx
      obtain ⟨u, l, s, d⟩ := p
      simp only at hidx
      have hk4 : (k : Int) < 4 := by omega
      have HP := hide hp
      have H1 := hide h1
      clear h1 hp
      cases u with
      | true =>
        go_wp2
        go_roundw
        case rel =>
          refine ⟨k + 1, by omega, by go_num, fun t ht => ?_, hB.alloc (by omega) _⟩
          by_cases e : t = k
          · subst e; rw [unhide HP]
          · exact unhide H1 t (by omega)
        case measure => simp [intOf]; omega
      | false =>
        go_wp2
        go_ret
        exact ⟨_, rfl, .inl ⟨k, hlt, by go_num, by show (f k).used = false; rw [unhide HP], unhide H1⟩, hout _ ((Below.refl _ _).alloc (Nat.le_refl _) _)⟩
    · have hk4 : k = 4 := by omega
      subst hk4
      have H1 := hide h1
      clear h1
      go_wp2
      go_ret
      exact ⟨_, rfl, .inr ⟨rfl, unhide H1⟩, hout _ (Below.refl _ _)⟩

set_option maxRecDepth 100000 in
theorem has_any (A : Array Value) (n : Int) (hA : A[0]? = some (.int .i64 n)) (h0 : 0 ≤ n) (h1 : n ≤ 12) (blk : Int) (w : World) :
    Calls Try.prog 73 #[.agg A, .int .i64 blk] w fun e w' => e = .returned (.bool (decide (0 ≤ blk ∧ blk ≤ n - 1))) ∧ Below w.heap.size w w' := by
  go_enter Try.func73, Try.ntmps73
  go_wp2_with fail
  refine (within_any _ _ _ _).mono ?_
  rintro e w1 ⟨rfl, rfl⟩
  go_wp2
  go_ret
  exact ⟨by simp, (Below.refl _ w).alloc (Nat.le_refl _) _⟩

end Go.Proofs.Ytaelbmilicfkhaa
