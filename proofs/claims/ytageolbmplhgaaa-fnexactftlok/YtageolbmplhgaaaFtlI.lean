/- Whether a member is right: the program's FtlOk. -/
import Derived.Test.YtageolbmplhgaaaRightI
namespace Go.Proofs.Ytageolbmplhgaaa
open Go.RowKit
set_option linter.unusedVariables false
set_option linter.unusedSimpArgs false

set_option maxRecDepth 100000 in
set_option maxHeartbeats 1000000 in
theorem implFtlOk_any (a : Option Addr) (c : Nat) (bs : List Bk) (n : Nat) (hl : bs.length = n) (ma : Option Addr) (mc : Nat) (L : List Int) (mn : Nat) (hL : L.length = mn) (seq o : Int) (w : World) (h : BlocksAt w a bs) (hn : Lens 9223372036854775807 bs) (hI : IntsAt w ma L) (hmn : mn ≤ 9223372036854775807) :
    Calls Try.prog 40 #[.agg #[.slice a n c, .slice ma mn mc, .int .i64 seq, .int .i64 o]] w fun e w' => RetIff (FtlOk bs L seq o) e ∧ Below w.heap.size w w' := by
  have hb0 : ∀ o, Below w.heap.size w (w.alloc o) := fun o => (Below.refl _ w).alloc (Nat.le_refl _) _
  go_enter Try.func40, Try.ntmps40
  go_wp2_with fail
  refine (rightCells_any a c bs n hl ma mc L mn hL seq o _ (h.below (hb0 _) (Nat.le_refl _)) hn (hI.below (hb0 _) (Nat.le_refl _)) hmn).mono ?_
  rintro e w1 ⟨⟨m, r, rfl, hr, _⟩, hB⟩
  have HR := hide hr
  have hsc := store_cc m w1
  have hAs := ccA_size m
  clear hr h hI hn
  generalize ccA m = A at hsc hAs
  go_wp2
  go_ret
  exact ⟨⟨r, rfl, unhide HR⟩, ((hb0 _).trans (hB.mono (by simp))).alloc (by have := hB.size; simp at this; omega) _⟩
end Go.Proofs.Ytageolbmplhgaaa
