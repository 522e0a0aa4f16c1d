/- Lists of int64: the laws' own heldInt64S. -/
import Derived.Test.YtageolbmplhgaaaChecked
import Derived.Test.YtageolbmplhgaaaInts
import Derived.Test.YtageolbmplhgaaaIntT
import Derived.Test.YtageolbmplhgaaaOwnI
import Derived.Test.YtageolbmplhgaaaOwn
import Derived.WalkKit
import Derived.Outline
namespace Go.Proofs.Ytageolbmplhgaaa
open Go.RowKit
set_option linter.unusedVariables false
set_option linter.unusedSimpArgs false

set_option maxHeartbeats 1000000 in
theorem heldInt64S_any (a : Option Addr) (c n : Nat) (k : Int) (w : World) (h : IntsAt w a (marksI k n)) (hn : n ≤ 1048576) (h0 : 0 < k) (h1 : k + n ≤ 1125899906842624) :
    Calls Try.prog 36 #[.slice a n c, .int .i64 k] w fun e w' => e = .returned (.int .i64 (k + n)) ∧ w' = w := by
  go_enter Try.func36, Try.ntmps36
  go_wp2
  go_loop [1, 5] (fun v i => ∃ j : Nat, j ≤ n ∧ i = .int .i64 j ∧ v = .int .i64 (k + (j : Int))) (fun _ i => n - (intOf i).toNat)
  case atStart => exact ⟨0, Nat.zero_le _, rfl, by simp⟩
  case round =>
    obtain ⟨j, hj, rfl, rfl⟩ := hrel
    by_cases hlt : j < n
    · obtain ⟨b, o, rfl, g⟩ := h j (k + (j : Int)) (by simp [marksI, hlt])
      have hne : (k + (j : Int) != k + (j : Int)) = false := by simp
      clear h
      go_wp2
      go_round
      case rel => exact ⟨j + 1, by omega, by go_num, by go_num⟩
      case measure => simp [intOf]; omega
    · have hk' : j = n := by omega
      subst hk'
      clear h
      go_wp2
      go_ret
      exact ⟨rfl, rfl⟩
end Go.Proofs.Ytageolbmplhgaaa
