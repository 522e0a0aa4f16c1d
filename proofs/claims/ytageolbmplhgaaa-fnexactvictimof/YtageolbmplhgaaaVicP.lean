/- The block that is emptied, as plain lists say it. No program is named here. -/
import Derived.Test.YtageolbmplhgaaaValP
namespace Go.Proofs.Ytageolbmplhgaaa
open Go.RowKit
set_option linter.unusedVariables false
set_option linter.unusedSimpArgs false

def wearAt (bs : List Bk) (i : Int) : Int := (bs[i.toNat]?.map (·.wear)).getD 0
theorem wearAt_of {bs : List Bk} {k : Nat} {x : Bk} (hx : bs[k]? = some x) : wearAt bs (k : Int) = x.wear := by simp [wearAt, hx]
/-- Is block i, of the wear x, to be emptied rather than best? -/
def beats (bs : List Bk) (L : List Int) (best : Int) (i : Int) (x : Int) : Bool :=
  decide (best < 0) || decide (validIn L i < validIn L best) || (decide (validIn L i = validIn L best) && decide (x < wearAt bs best))
theorem beats_neg {bs : List Bk} {L : List Int} {best i x : Int} (h : best < 0) : beats bs L best i x = true := by simp [beats, h]
theorem beats_few {bs : List Bk} {L : List Int} {best i x : Int} (h : validIn L i < validIn L best) : beats bs L best i x = true := by simp [beats, h]
theorem beats_wear {bs : List Bk} {L : List Int} {best i x y : Int} (h : validIn L i = validIn L best) (hy : wearAt bs best = y) (hw : x < y) : beats bs L best i x = true := by simp [beats, h, hy, hw]
theorem beats_worn {bs : List Bk} {L : List Int} {best i x y : Int} (h0 : 0 ≤ best) (h : validIn L i = validIn L best) (hy : wearAt bs best = y) (hw : y ≤ x) : beats bs L best i x = false := by
  have h1 : ¬ best < 0 := by omega
  have h2 : ¬ x < y := by omega
  simp [beats, h, hy, h1, h2]
theorem beats_more {bs : List Bk} {L : List Int} {best i x : Int} (h0 : 0 ≤ best) (h : validIn L best < validIn L i) : beats bs L best i x = false := by
  have h1 : ¬ best < 0 := by omega
  have h2 : ¬ validIn L i < validIn L best := by omega
  have h3 : ¬ validIn L i = validIn L best := by omega
  simp [beats, h1, h2, h3]
def vicStep (bs : List Bk) (L : List Int) (o : Int) (best : Int) (i : Nat) : Int :=
  match bs[i]? with
  | none => best
  | some x => if (i : Int) = o ∨ fullB x = false then best else if beats bs L best (i : Int) x.wear = true then (i : Int) else best
def vicTo (bs : List Bk) (L : List Int) (o : Int) (k : Nat) : Int := (List.range k).foldl (vicStep bs L o) (-1)
theorem vicTo_succ (bs : List Bk) (L : List Int) (o : Int) (k : Nat) : vicTo bs L o (k + 1) = vicStep bs L o (vicTo bs L o k) k := by simp [vicTo, List.range_succ]
theorem vicTo_bounds (bs : List Bk) (L : List Int) (o : Int) (k : Nat) : -1 ≤ vicTo bs L o k ∧ vicTo bs L o k < (k : Int) := by
  induction k with
  | zero => exact ⟨Int.le_refl _, by show (-1 : Int) < 0; decide⟩
  | succ k ih =>
    rw [vicTo_succ]
    unfold vicStep
    split
    · omega
    · split
      · omega
      · split <;> omega
theorem vicTo_skip {bs : List Bk} {L : List Int} {o : Int} {k : Nat} {x : Bk} (hx : bs[k]? = some x) (h : (k : Int) = o ∨ fullB x = false) : vicTo bs L o (k + 1) = vicTo bs L o k := by
  rw [vicTo_succ]; unfold vicStep; rw [hx]; simp only; rw [if_pos h]
theorem vicTo_take {bs : List Bk} {L : List Int} {o : Int} {k : Nat} {x : Bk} (hx : bs[k]? = some x) (h1 : (k : Int) ≠ o) (h2 : fullB x = true) (hb : beats bs L (vicTo bs L o k) (k : Int) x.wear = true) : vicTo bs L o (k + 1) = (k : Int) := by
  rw [vicTo_succ]; unfold vicStep; rw [hx]; simp only; rw [if_neg (by rw [h2]; simp [h1]), if_pos hb]
theorem vicTo_keep {bs : List Bk} {L : List Int} {o : Int} {k : Nat} {x : Bk} (hx : bs[k]? = some x) (h1 : (k : Int) ≠ o) (h2 : fullB x = true) (hb : beats bs L (vicTo bs L o k) (k : Int) x.wear = false) : vicTo bs L o (k + 1) = vicTo bs L o k := by
  rw [vicTo_succ]; unfold vicStep; rw [hx]; simp only; rw [if_neg (by rw [h2]; simp [h1]), if_neg (by rw [hb]; simp)]
/-- The victim of a member. -/
def vicOf (bs : List Bk) (L : List Int) (o : Int) : Int := vicTo bs L o bs.length

/-- What VictimOf answers. -/
def VictimIs (bs : List Bk) (L : List Int) (seq o r : Int) : Prop := (FtlOk bs L seq o ∧ r = vicOf bs L o) ∨ (¬ FtlOk bs L seq o ∧ r = -1)
theorem VictimIs.one {bs : List Bk} {L : List Int} {seq o r s : Int} (h : VictimIs bs L seq o r) (k : VictimIs bs L seq o s) : r = s := by
  rcases h with ⟨h1, rfl⟩ | ⟨h1, rfl⟩
  · rcases k with ⟨_, rfl⟩ | ⟨k1, _⟩
    · rfl
    · exact absurd h1 k1
  · rcases k with ⟨k1, _⟩ | ⟨_, rfl⟩
    · exact absurd k1 h1
    · rfl
end Go.Proofs.Ytageolbmplhgaaa
