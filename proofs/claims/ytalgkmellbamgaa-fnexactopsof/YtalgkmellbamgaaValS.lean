/- How many pages of a block are the newest of their log: the model's l2Valid and ValidOf. -/
import Derived.Test.YtalgkmellbamgaaValP
import Derived.Test.YtalgkmellbamgaaFtlS
import Derived.WalkKit
namespace Go.Proofs.Ytalgkmellbamgaa
open Go.RowKit
set_option linter.unusedVariables false
set_option linter.unusedSimpArgs false

set_option maxRecDepth 100000 in
set_option maxHeartbeats 1000000 in
theorem l2Valid_any (a : Option Addr) (c : Nat) (L : List Int) (n : Nat) (hl : L.length = n) (blk : Int) (w : World) (h : IntsAt w a L) (hn : n ≤ 1048576) (hP : ∀ x ∈ L, x = -1 ∨ (0 ≤ x ∧ x < 48)) :
    Calls Try.prog 127 #[.slice a n c, .int .i64 blk] w fun e w' => e = .returned (.int .i64 (validIn L blk)) ∧ w' = w := by
  go_enter Try.func127, Try.ntmps127
  go_wp2
  go_loopw [5, 6] (fun v i wr => ∃ k : Nat, k ≤ n ∧ i = .int .i64 k ∧ v = .int .i64 (validIn (L.take k) blk) ∧ wr = w) (fun _ i _ => n - (intOf i).toNat)
  case atStart => exact ⟨0, Nat.zero_le _, rfl, rfl, rfl⟩
  case round =>
    obtain ⟨k, hk, rfl, rfl, rfl⟩ := hrel
    by_cases hlt : k < n
    · obtain ⟨x, hx⟩ := getElem?_ex (l := L) (k := k) (by omega)
      obtain ⟨b1, o1, rfl, c1⟩ := h k x hx
      have hst := validIn_take hx blk
      have hp := hP x (List.mem_of_getElem? hx)
      have hle := validIn_le (L.take k) blk
      have hle2 : validIn (L.take k) blk ≤ k := by rw [List.length_take] at hle; omega
      obtain ⟨T, hT⟩ : ∃ T, T = validIn (L.take k) blk := ⟨_, rfl⟩
      rw [← hT] at hst hle2 ⊢
      have HS := hide hst
      have HL := hide hl
      clear hst hle hT hx h hl hP
      by_cases h0 : 0 ≤ x
      · have hp48 : x < 48 := by omega
        clear hp
        by_cases he : x / 4 = blk
        · have hh : hit blk x = true := by simp [hit, h0, he]
          have heq : (x / 4 == blk) = true := by simpa using he
          go_wp2
          go_roundw
          case rel => exact ⟨k + 1, by omega, by go_num, by rw [unhide HS, hh]; simp, trivial⟩
          case measure => simp [intOf]; omega
        · have hh : hit blk x = false := by simp [hit, he]
          have heq : (x / 4 == blk) = false := by simpa using he
          go_wp2
          go_roundw
          case rel => exact ⟨k + 1, by omega, by go_num, by rw [unhide HS, hh]; simp, trivial⟩
          case measure => simp [intOf]; omega
      · have hh : hit blk x = false := by simp [hit, h0]
        clear hp
        go_wp2
        go_roundw
        case rel => exact ⟨k + 1, by omega, by go_num, by rw [unhide HS, hh]; simp, trivial⟩
        case measure => simp [intOf]; omega
    · obtain rfl : k = n := by omega
      have e : L.take k = L := by rw [← hl]; exact List.take_length
      rw [e]
      clear h hP
      go_wp2
      go_ret
      exact ⟨rfl, rfl⟩

end Go.Proofs.Ytalgkmellbamgaa
