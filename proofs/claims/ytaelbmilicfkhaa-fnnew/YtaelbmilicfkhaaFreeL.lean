/- For laws whose answer is a list of int64: its form, its marks. -/
import Derived.Test.YtaelbmilicfkhaaFreeP
import Derived.Test.YtaelbmilicfkhaaInts
import Derived.Test.YtaelbmilicfkhaaMark
import Derived.Test.YtaelbmilicfkhaaLawC
namespace Go.Proofs.Ytaelbmilicfkhaa
open Go.RowKit
set_option linter.unusedVariables false
set_option linter.unusedSimpArgs false



theorem kAfter_upto (bs : List Bk) : ∀ k, (∀ b ∈ bs, b.pages.length ≤ 1048576) → k ≤ kAfter k bs ∧ kAfter k bs ≤ k + (bs.length : Int) * 4194305 := by
  induction bs with
  | nil => intro k _; simp [kAfter]
  | cons b bs ih =>
    intro k h
    have h1 := ih (k + 1 + 4 * (b.pages.length : Int)) (fun c hc => h c (by simp [hc]))
    have h2 := h b (by simp)
    have e : kAfter k (b :: bs) = kAfter (k + 1 + 4 * (b.pages.length : Int)) bs := rfl
    rw [e, List.length_cons]
    have e2 : ((bs.length + 1 : Nat) : Int) * 4194305 = (bs.length : Int) * 4194305 + 4194305 := by omega
    rw [e2]
    omega

end Go.Proofs.Ytaelbmilicfkhaa
