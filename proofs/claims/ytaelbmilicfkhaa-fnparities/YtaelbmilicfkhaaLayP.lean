/- Where a block lies: the program's place. -/
import Derived.Test.YtaelbmilicfkhaaChecked
import Derived.Test.YtaelbmilicfkhaaLayI
import Derived.WalkKit
import Derived.Outline
import Derived.Laws.EntriesVeiled
namespace Go.Proofs.Ytaelbmilicfkhaa
open Go.RowKit
set_option linter.unusedVariables false
set_option linter.unusedSimpArgs false

set_option maxHeartbeats 1000000 in
theorem place_any (bt be : Nat) (L : List Int) (n : Nat) (hl : L.length = n) (lba : Int) (w : World) (hT : Taken w bt be L) (ho : LayOk L) (hs : 0 ≤ lba) (hs9 : lba ≤ 1000000000) :
    Calls Try.prog 60 #[.agg #[.int .i64 n, .func (.func 79) #[] #[.pointer (some ⟨bt, 0, none⟩), .pointer (some ⟨be, 0, none⟩)]], .int .i64 lba] w fun e w' => ∃ m s : Int, e = .returned (.tuple #[.int .i64 m, .int .i64 s]) ∧ PutIs L lba m s ∧ Below w.heap.size w w' := by
  have HT := hide hT
  have HO := hide ho
  have hn5 : 3 ≤ n ∧ n ≤ 5 := by have := ho.1; omega
  have HL := hide hl
  have hne : ¬ (n : Int) - 1 = 0 := by omega
  have hq0 : 0 ≤ lba / ((n : Int) - 1) := Int.ediv_nonneg hs (by omega)
  have hq1 : lba / ((n : Int) - 1) ≤ 1000000000 := Int.le_trans (Int.ediv_le_self _ hs) hs9
  have hr0 : 0 ≤ lba % ((n : Int) - 1) := Int.emod_nonneg _ (by omega)
  have hr1 : lba % ((n : Int) - 1) < (n : Int) - 1 := Int.emod_lt_of_pos _ (by omega)
  have h3 : 0 < L.length := by omega
  clear hT ho hl
  go_enter Try.func60, Try.ntmps60
  go_wp2
  go_region
  all_goals (
    go_wp2_with (go_at_call 79; refine (parity_any bt be L _ _ ((unhide HT).below h3 ((Below.refl w.heap.size w).alloc (Nat.le_refl _) _).drew (Nat.le_refl _)) (unhide HO) hq0 hq1).mono ?_; rintro e w1 ⟨p, rfl, hp, rfl⟩; have HP := hide hp; clear hp)
    all_goals (
      go_ret2
      exact ⟨_, _, rfl, ⟨by rw [unhide HL], p, unhide HP, by rw [unhide HL]; first | rw [if_pos (by assumption)] | rw [if_neg (by omega)]⟩, ((Below.refl w.heap.size w).alloc (Nat.le_refl _) _).drew⟩))

end Go.Proofs.Ytaelbmilicfkhaa
