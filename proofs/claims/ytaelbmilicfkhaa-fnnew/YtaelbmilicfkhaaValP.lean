/- How many pages of a block are the newest of their log, as plain lists say it. No program is named here. -/
import Derived.Test.YtaelbmilicfkhaaFtlP
namespace Go.Proofs.Ytaelbmilicfkhaa
open Go.RowKit
set_option linter.unusedVariables false
set_option linter.unusedSimpArgs false

def hit (blk x : Int) : Bool := decide (0 ≤ x) && decide (x / 4 = blk)
def validIn (L : List Int) (blk : Int) : Nat := (L.filter (hit blk)).length
theorem validIn_nil (blk : Int) : validIn [] blk = 0 := rfl
theorem validIn_snoc (L : List Int) (x blk : Int) : validIn (L ++ [x]) blk = validIn L blk + if hit blk x = true then 1 else 0 := by
  unfold validIn
  rw [List.filter_append, List.length_append]
  cases h : hit blk x <;> simp [h]
theorem take_succ_of {α : Type} {L : List α} {k : Nat} {x : α} (hx : L[k]? = some x) : L.take (k + 1) = L.take k ++ [x] := by rw [List.take_add_one, hx]; rfl
theorem validIn_take {L : List Int} {k : Nat} {x : Int} (hx : L[k]? = some x) (blk : Int) : validIn (L.take (k + 1)) blk = validIn (L.take k) blk + if hit blk x = true then 1 else 0 := by
  rw [take_succ_of hx, validIn_snoc]
theorem validIn_le (L : List Int) (blk : Int) : validIn L blk ≤ L.length := List.length_filter_le _ _
/-- The places that are named. -/
def namedOf (L : List Int) : List Int := L.filter fun x => decide (x ≠ -1)
theorem namedOf_take {L : List Int} {k : Nat} {x : Int} (hx : L[k]? = some x) : namedOf (L.take (k + 1)) = namedOf (L.take k) ++ if x = -1 then [] else [x] := by
  rw [take_succ_of hx]
  unfold namedOf
  rw [List.filter_append]
  by_cases e : x = -1 <;> simp [e]
theorem namedOf_length (L : List Int) : (namedOf L).length ≤ L.length := List.length_filter_le _ _
theorem namedOf_prefix (L : List Int) (k : Nat) : namedOf (L.take k) <+: namedOf L := by
  unfold namedOf
  exact List.IsPrefix.filter _ (List.take_prefix k L)
theorem validIn_named (L : List Int) (blk : Int) : validIn (namedOf L) blk = validIn L blk := by
  unfold validIn namedOf
  rw [List.filter_filter]
  congr 1
  refine List.filter_congr (fun x _ => ?_)
  by_cases e : x = -1
  · subst e; simp [hit]
  · simp [e]

theorem FtlOk.places {bs : List Bk} {L : List Int} {seq o : Int} (h : FtlOk bs L seq o) : ∀ x ∈ L, x = -1 ∨ (0 ≤ x ∧ x < 4 * (bs.length : Int)) := by
  intro x hx
  rw [h.map] at hx
  unfold placesOf at hx
  simp only [List.mem_map, List.mem_range] at hx
  obtain ⟨i, hi, rfl⟩ := hx
  cases e : newestAt (usedOf bs) (i : Int) with
  | none => left; rfl
  | some y =>
    right
    obtain ⟨hm, _⟩ := newestAt_mem e
    obtain ⟨_, _, _, _, _, b, k, z, hb, _, hk, hy, _⟩ := h.chip.usedRight hm
    have hlt := (List.getElem?_eq_some_iff.1 hb).1
    simp only [placeIn]
    rw [hy]
    omega
theorem FtlOk.len {bs : List Bk} {L : List Int} {seq o : Int} (h : FtlOk bs L seq o) : L.length = 4 * (bs.length - 3) := by
  rw [h.map, placesOf_length]; rfl
theorem FtlOk.len36 {bs : List Bk} {L : List Int} {seq o : Int} (h : FtlOk bs L seq o) : L.length ≤ 36 := by
  have := h.len; have := h.chip.count; omega

/-- What ValidOf answers. -/
def ValidIs (bs : List Bk) (L : List Int) (seq o blk r : Int) : Prop :=
  ((FtlOk bs L seq o ∧ 0 ≤ blk ∧ blk ≤ (bs.length : Int) - 1) ∧ r = (validIn L blk : Int)) ∨ (¬ (FtlOk bs L seq o ∧ 0 ≤ blk ∧ blk ≤ (bs.length : Int) - 1) ∧ r = -1)
theorem ValidIs.one {bs : List Bk} {L : List Int} {seq o blk r s : Int} (h : ValidIs bs L seq o blk r) (k : ValidIs bs L seq o blk s) : r = s := by
  rcases h with ⟨h1, rfl⟩ | ⟨h1, rfl⟩
  · rcases k with ⟨_, rfl⟩ | ⟨k1, _⟩
    · rfl
    · exact absurd h1 k1
  · rcases k with ⟨k1, _⟩ | ⟨_, rfl⟩
    · exact absurd k1 h1
    · rfl
end Go.Proofs.Ytaelbmilicfkhaa
