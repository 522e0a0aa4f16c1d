/- How many logs have room: the model's and the program's RoomFor. -/
import Derived.Test.YtaelbmilicfkhaaIn
namespace Go.Proofs.Ytaelbmilicfkhaa
open Go.RowKit
set_option linter.unusedVariables false
set_option linter.unusedSimpArgs false

def roomI (n : Int) : Int := if 4 ≤ n ∧ n ≤ 12 then 4 * (n - 3) else 0
theorem roomI_in {n : Int} (h : 4 ≤ n ∧ n ≤ 12) : roomI n = 4 * (n - 3) := if_pos h
theorem roomI_out {n : Int} (h : ¬ (4 ≤ n ∧ n ≤ 12)) : roomI n = 0 := if_neg h

theorem specRoomFor_any (n : Int) (w : World) : Calls Try.prog 20 #[.int .i64 n] w fun e w' => e = .returned (.int .i64 (roomI n)) ∧ w' = w := by
  by_cases h : 4 ≤ n ∧ n ≤ 12
  · have hd : decide (4 ≤ n ∧ n ≤ 12) = true := by simpa using h
    go_enter Try.func20, Try.ntmps20
    go_wp2_with fail
    refine (l1In_any _ _ _ _).mono ?_
    rintro e w1 ⟨rfl, rfl⟩
    rw [hd]
    obtain ⟨h1, h2⟩ := h
    clear hd
    go_wp2
    go_ret
    refine ⟨?_, rfl⟩
    rw [roomI_in ⟨h1, h2⟩]
    show Ending.returned (.int .i64 ((n - 3) * 4)) = _
    rw [Int.mul_comm]
  · have hd : decide (4 ≤ n ∧ n ≤ 12) = false := by simpa using h
    go_enter Try.func20, Try.ntmps20
    go_wp2_with fail
    refine (l1In_any _ _ _ _).mono ?_
    rintro e w1 ⟨rfl, rfl⟩
    rw [hd]
    clear hd
    go_wp2
    go_ret
    exact ⟨by rw [roomI_out h]; rfl, rfl⟩

theorem isBlockCount_room (n : Int) (w : World) : Calls Try.prog 48 #[.int .i64 n] w fun e w' => e = .returned (.bool (decide (4 ≤ n ∧ n ≤ 12))) ∧ w' = w := by
  go_enter Try.func48, Try.ntmps48
  go_wp2_with fail
  refine (within_any _ _ _ _).mono ?_
  rintro e w1 ⟨rfl, rfl⟩
  go_wp2
  go_ret
  exact ⟨by simp, rfl⟩

theorem implRoomFor_any (n : Int) (w : World) : Calls Try.prog 18 #[.int .i64 n] w fun e w' => e = .returned (.int .i64 (roomI n)) ∧ w' = w := by
  by_cases h : 4 ≤ n ∧ n ≤ 12
  · have hd : decide (4 ≤ n ∧ n ≤ 12) = true := by simpa using h
    go_enter Try.func18, Try.ntmps18
    go_wp2_with fail
    refine (isBlockCount_room _ _).mono ?_
    rintro e w1 ⟨rfl, rfl⟩
    rw [hd]
    obtain ⟨h1, h2⟩ := h
    clear hd
    go_wp2
    go_ret
    refine ⟨?_, rfl⟩
    rw [roomI_in ⟨h1, h2⟩]
    rfl
  · have hd : decide (4 ≤ n ∧ n ≤ 12) = false := by simpa using h
    go_enter Try.func18, Try.ntmps18
    go_wp2_with fail
    refine (isBlockCount_room _ _).mono ?_
    rintro e w1 ⟨rfl, rfl⟩
    rw [hd]
    clear hd
    go_wp2
    go_ret
    exact ⟨by rw [roomI_out h]; rfl, rfl⟩
end Go.Proofs.Ytaelbmilicfkhaa
