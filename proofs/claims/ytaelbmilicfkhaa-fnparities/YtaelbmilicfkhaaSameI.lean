/- The laws' own comparison of two lists of numbers. -/
import Derived.Test.YtaelbmilicfkhaaChecked
import Derived.Test.YtaelbmilicfkhaaIntA
import Derived.WalkKit
import Derived.Outline
namespace Go.Proofs.Ytaelbmilicfkhaa
open Go.RowKit
set_option linter.unusedVariables false
set_option linter.unusedSimpArgs false

set_option maxHeartbeats 1000000 in
theorem sameInts_same (a1 a2 : Option Addr) (c1 c2 : Nat) (L : List Int) (n : Nat) (hl : L.length = n) (w : World) (h1 : IntsAt w a1 L) (h2 : IntsAt w a2 L) (hn : n ≤ 1048576) :
    Calls Try.prog 37 #[.slice a1 n c1, .slice a2 n c2] w fun e w' => e = .returned (.bool true) ∧ Below w.heap.size w w' := by
  go_enter Try.func37, Try.ntmps37
  go_wp2
  go_loopw [5] (fun i wr => ∃ k : Nat, k ≤ n ∧ i = .int .i64 k ∧ Below w.heap.size w wr) (fun i _ => n - (intOf i).toNat)
  case atStart => exact ⟨0, Nat.zero_le _, rfl, Below.refl _ _⟩
  case round =>
    obtain ⟨k, hk, rfl, hB⟩ := hrel
    by_cases hlt : k < n
    · obtain ⟨x, hx⟩ := getElem?_ex (l := L) (k := k) (by omega)
      obtain ⟨b1, o1, rfl, g1⟩ := (h1.below hB (Nat.le_refl _)) k x hx
      obtain ⟨b2, o2, rfl, g2⟩ := (h2.below hB (Nat.le_refl _)) k x hx
      have hne : (x != x) = false := by simp
      clear hx h1 h2 hl
      go_wp2
      go_region
      all_goals (
        go_wp2
        go_roundw
        case rel => exact ⟨k + 1, by omega, by go_num, hB.drew⟩
        case measure => simp [intOf]; omega)
    · go_wp2
      go_ret
      exact ⟨rfl, hB⟩

end Go.Proofs.Ytaelbmilicfkhaa
