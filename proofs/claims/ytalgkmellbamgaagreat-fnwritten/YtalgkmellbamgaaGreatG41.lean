/- 1 texts in one. -/
import Derived.Test.YtalgkmellbamgaaGreatG35
import Derived.WalkKit
import Derived.Outline

/- The reader's near and off, for whatever bounds. -/
namespace Go.Proofs.YtalgkmellbamgaaGreat
open Go.RowKit
set_option linter.unusedVariables false
set_option linter.unusedSimpArgs false

set_option maxHeartbeats 1000000 in
theorem near2_any (r : Nat) (lo hi : Int) (w : World) (h : RdAt w r) (h0 : -1000000000000 ≤ lo) (h3 : lo ≤ 1000000000000) (h1 : -1000000000000 ≤ hi) (h2 : hi ≤ 1000000000000) :
    Calls Tryz.prog 88 #[.pointer (some ⟨r, 0, none⟩), .int .i64 lo, .int .i64 hi] w fun e w' => ∃ x : Int, e = .returned (.int .i64 x) ∧ RdAt w' r ∧ Touch (· = r) w w' := by
  go_enter Tryz.func88, Tryz.ntmps88
  go_wp2_with fail
  refine (below_any r 8 _ h (by omega) (by omega)).mono ?_
  rintro e w1 ⟨x, rfl, hx0, hx1, hR, hT⟩
  have HR := hide hR
  clear h hR
  by_cases e0 : x = 0
  · have hb : (x == 0) = true := by simpa using e0
    go_wp2
    go_ret
    exact ⟨_, rfl, unhide HR, hT⟩
  · have hb : (x == 0) = false := by simpa using e0
    by_cases e1 : x = 1
    · have hb : (x == 1) = true := by simpa using e1
      go_wp2
      go_ret
      exact ⟨_, rfl, unhide HR, hT⟩
    · have hb : (x == 1) = false := by simpa using e1
      by_cases hlt : hi < lo
      · go_wp2
        go_ret
        exact ⟨_, rfl, unhide HR, hT⟩
      have hnz : ¬ hi - lo + 1 = 0 := by omega
      go_wp2_with fail
      refine (word_any r _ (unhide HR)).mono ?_
      rintro e w2 ⟨y, rfl, hR2, hT2⟩
      have HR2 := hide hR2
      clear hR2 HR
      go_wp2
      go_ret
      exact ⟨_, rfl, unhide HR2, hT.trans hT2⟩

set_option maxHeartbeats 1000000 in
theorem off2_any (r : Nat) (lo hi : Int) (w : World) (h : RdAt w r) (h0 : -1000000000000 ≤ lo) (h3 : lo ≤ 1000000000000) (h1 : -1000000000000 ≤ hi) (h2 : hi ≤ 1000000000000) :
    Calls Tryz.prog 51 #[.pointer (some ⟨r, 0, none⟩), .int .i64 lo, .int .i64 hi] w fun e w' => ∃ x : Int, e = .returned (.int .i64 x) ∧ RdAt w' r ∧ Touch (· = r) w w' := by
  go_enter Tryz.func51, Tryz.ntmps51
  go_wp2_with fail
  refine (once_any r 24 _ h (by omega) (by omega)).mono ?_
  rintro e w1 ⟨x, rfl, hR, hT⟩
  have HR := hide hR
  have hrl := hR.lt
  clear h hR
  cases hb : (x == (24 : Int) - 1) with
  | false =>
    go_wp2_with fail
    refine (near2_any r lo hi _ (unhide HR) h0 h3 h1 h2).mono ?_
    rintro e w2 ⟨y, rfl, hR2, hT2⟩
    have HR2 := hide hR2
    clear hR2 HR
    go_wp2
    go_ret
    exact ⟨_, rfl, unhide HR2, hT.trans hT2⟩
  | true =>
    go_wp2_with fail
    have hB1 : ∀ o, Below w1.heap.size w1 (w1.alloc o) := fun o => (Below.refl _ _).alloc (Nat.le_refl _) _
    refine (below_any r 4 _ ((unhide HR).below (hB1 _)) (by omega) (by omega)).mono ?_
    rintro e w2 ⟨y, rfl, hy0, hy1, hR2, hT2⟩
    have HR2 := hide hR2
    have hT3 := (hT.alloc _).trans hT2
    have hc : ∀ o, w2.cell? ⟨w1.heap.size, o, none⟩ = (w1.alloc (.cells #[.int .i64 (lo - 1), .int .i64 (hi + 1), .int .i64 (-9223372036854775808), .int .i64 9223372036854775807] 2)).cell? ⟨w1.heap.size, o, none⟩ := fun o => hT2.cell (by simp) (by show ¬ w1.heap.size = r; omega)
    have c0 : w2.cell? ⟨w1.heap.size, 0, none⟩ = some (.int .i64 (lo - 1)) := by rw [hc]; simp
    have c1 : w2.cell? ⟨w1.heap.size, 1, none⟩ = some (.int .i64 (hi + 1)) := by rw [hc]; simp
    have c2 : w2.cell? ⟨w1.heap.size, 2, none⟩ = some (.int .i64 (-9223372036854775808)) := by rw [hc]; simp
    have c3 : w2.cell? ⟨w1.heap.size, 3, none⟩ = some (.int .i64 9223372036854775807) := by rw [hc]; simp
    have h4 : y = 0 ∨ y = 1 ∨ y = 2 ∨ y = 3 := by omega
    clear hR2 HR hT2 hc hT hB1
    rcases h4 with rfl | rfl | rfl | rfl
    all_goals (
      go_wp2
      go_ret
      exact ⟨_, rfl, unhide HR2, hT3⟩)

end Go.Proofs.YtalgkmellbamgaaGreat
