/- The blocks that are free, as plain lists say it; lists of int64 that append has built. No program is named here. -/
import Derived.Test.YtaelbmilicfkhaaNextP
import Derived.Test.YtaelbmilicfkhaaSpc
import Derived.Test.YtaelbmilicfkhaaOwnI
import Derived.Laws.OwnMore
import Derived.Deep.AppendLies
namespace Go.Proofs.Ytaelbmilicfkhaa
open Go.RowKit
set_option linter.unusedVariables false

/-- Block i has a first page that is used. -/
def begun (bs : List Bk) (i : Nat) : Bool := (bs[i]?.map fun b => pu b 0).getD false
def freeTo (bs : List Bk) (k : Nat) : List Int := ((List.range k).filter fun i => !begun bs i).map fun (i : Nat) => (i : Int)
theorem freeTo_succ (bs : List Bk) (k : Nat) : freeTo bs (k + 1) = freeTo bs k ++ if begun bs k then [] else [(k : Int)] := by
  unfold freeTo
  rw [List.range_succ, List.filter_append, List.map_append]
  congr 1
  by_cases h : begun bs k <;> simp [h]
theorem freeTo_length (bs : List Bk) (k : Nat) : (freeTo bs k).length ≤ k := by
  have := List.length_filter_le (fun i => !begun bs i) (List.range k)
  simpa [freeTo] using this

/-- What FreeOf answers. -/
def FreeIs (bs : List Bk) (L : List Int) : Prop := (ChipOk bs ∧ L = freeTo bs bs.length) ∨ (¬ ChipOk bs ∧ L = [])
theorem FreeIs.one {bs : List Bk} {L M : List Int} (h : FreeIs bs L) (k : FreeIs bs M) : L = M := by
  rcases h with ⟨h1, rfl⟩ | ⟨h1, rfl⟩
  · rcases k with ⟨_, rfl⟩ | ⟨k1, _⟩
    · rfl
    · exact absurd h1 k1
  · rcases k with ⟨k1, _⟩ | ⟨_, rfl⟩
    · exact absurd k1 h1
    · rfl
theorem FreeIs.length {bs : List Bk} {L : List Int} (h : FreeIs bs L) : L.length ≤ 12 := by
  rcases h with ⟨h1, rfl⟩ | ⟨h1, rfl⟩
  · have := freeTo_length bs bs.length
    have := h1.count
    omega
  · simp

end Go.Proofs.Ytaelbmilicfkhaa
