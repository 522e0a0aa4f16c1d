/- An argument of the laws that is a chip, opened. -/
import Derived.Test.YtageolbmplhgaaaChecked
import Derived.Test.YtageolbmplhgaaaOpen
import Derived.WalkKit
import Derived.ProofKit
import Derived.OpenShut
import Derived.ChangeOld
namespace Go.Proofs.Ytageolbmplhgaaa
open Go.RowKit Go.ChangeShapes Go.WideShapes Go.Deep
set_option linter.unusedVariables false
set_option linter.unusedSimpArgs false

set_option maxRecDepth 100000 in
/-- An argument of the type Chip, opened. -/
theorem open_chip {H : Type} {enc : TypeId × Value → H} {w : World} {base b0 : Nat} {spare : Nat → Bool} {held : Bool} {v : Value} {d : DataW H} {p : List MemPlace}
    (hv : Value.okWide Try.prog w .any b0 24 v) (h : DataW.Trod enc Try.prog w base spare held 24 v d p) :
    ∃ (a : Option Addr) (c : Nat) (bs : List Bk), v = .agg #[.slice a bs.length c] ∧ BlocksAt w a bs ∧ Lens 9223372036854775807 bs ∧ Texts bs := by
  obtain ⟨cs, rfl, hsz⟩ := okWide_struct Try.underlying24 hv
  have h1 : cs.size = 1 := hsz.trans (by kernel_rfl)
  obtain ⟨l⟩ := cs
  match l, h1 with
  | [v0], _ =>
    obtain ⟨fuel, hf⟩ := h
    obtain ⟨y0, n, _, _, hy⟩ := trod_struct1 Try.underlying24 hf
    have hc : Try.prog.cellsOf 22 = 1 := by kernel_rfl
    simp [Value.cells, hc] at hy
    obtain ⟨a, c, bs, rfl, hbs, hl, ht⟩ := open_blocks (tp := 110) Try.underlying22 Try.underlying112 (by kernel_rfl) (by kernel_rfl) Try.underlying2 Try.underlying110 Try.underlying40 (by kernel_rfl) (by kernel_rfl)
      Try.underlying4 Try.underlying2 Try.underlying2 Try.underlying9 hy
    exact ⟨a, c, bs, rfl, hbs, hl, ht⟩

end Go.Proofs.Ytageolbmplhgaaa
