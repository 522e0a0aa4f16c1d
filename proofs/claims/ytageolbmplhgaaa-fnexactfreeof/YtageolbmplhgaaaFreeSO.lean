/- The model's FreeOf. -/
import Derived.Test.YtageolbmplhgaaaFreeS
import Derived.WalkKit
import Derived.Outline
namespace Go.Proofs.Ytageolbmplhgaaa
open Go.RowKit
set_option linter.unusedVariables false
set_option linter.unusedSimpArgs false

set_option maxRecDepth 100000 in
set_option maxHeartbeats 1000000 in
theorem specFreeOf_any (a : Option Addr) (c : Nat) (bs : List Bk) (n : Nat) (hl : bs.length = n) (w : World) (h : BlocksAt w a bs) (hn : Lens 1048576 bs) :
    Calls Try.prog 32 #[.agg #[.slice a n c]] w fun e w' => ∃ v L, e = .returned v ∧ FreeIs bs L ∧ OwnInts w' 2 w.heap.size v L ∧ Below w.heap.size w w' := by
  have hb0 : ∀ o, Below w.heap.size w (w.alloc o) := fun o => (Below.refl _ w).alloc (Nat.le_refl _) _
  subst hl
  go_enter Try.func32, Try.ntmps32
  go_wp2_with fail
  refine (specChipOk_any a c bs _ (h.below (hb0 _) (Nat.le_refl _)) hn).mono ?_
  rintro e w1 ⟨r, rfl, hr, hB1⟩
  have hs1 := hB1.size
  simp at hs1
  have hx1 : w1.cell? ⟨w.heap.size, 0, none⟩ = some (.slice a bs.length c) := by
    rw [hB1.cell (p := ⟨w.heap.size, 0, none⟩) (by simp)]
    simp
  have hW1 : Below w.heap.size w w1 := (hb0 _).trans (hB1.mono (by simp))
  have HR := hide hr
  have HA := hide (h.below hW1 (Nat.le_refl _))
  clear hr hB1 hb0 h hn
  cases r with
  | false =>
    go_wp2
    go_ret
    refine ⟨_, [], rfl, .inr ⟨(fun hc => by have := (unhide HR).2 hc; cases this), rfl⟩, ?_, hW1.alloc hW1.size _⟩
    have := World.ownsRow_lit (base := w.heap.size) (e := 2) (size := 1) w1 #[] 0 hW1.size (by unfold maxLen; omega) rfl
    simpa [OwnInts, ints] using this
  | true =>
    have hok := (unhide HR).1 rfl
    have HO := hide hok
    clear hok
    go_wp2_with fail
    refine (l1Free_any a c bs _ rfl (unhide HO) _ (unhide HA)).mono ?_
    rintro e w2 ⟨v, rfl, hv, hB2⟩
    have HV := hide hv
    have hW2 := hW1.trans (hB2.mono hW1.size)
    clear hv
    go_wp2
    go_ret
    refine ⟨_, _, rfl, .inl ⟨unhide HO, rfl⟩, ?_, hW2⟩
    obtain ⟨q1, q2⟩ := unhide HV
    refine ⟨q1, ?_⟩
    rcases q2 with q | ⟨g, cap, cur, e1, e2, e3⟩
    · exact .inl q
    · exact .inr ⟨g, cap, cur, e1, by have := hW1.size; omega, e3⟩
end Go.Proofs.Ytageolbmplhgaaa
