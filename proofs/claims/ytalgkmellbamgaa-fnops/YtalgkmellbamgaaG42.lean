/- 1 texts in one. -/
import Derived.Test.YtalgkmellbamgaaG28

/- The ops of a write: five at most, and a block that they erase has no newest page when it is erased. In plain lists; no program is named here. -/
namespace Go.Proofs.Ytalgkmellbamgaa
open Go.RowKit
set_option linter.unusedVariables false
set_option linter.unusedSimpArgs false

theorem kind_moved (bs : List Bk) (L : List Int) (v into seq : Int) (k : Nat) : ∀ x ∈ movedTo bs L v into seq k, x.kind = 1 := by
  induction k with
  | zero => intro x hx; simp [movedTo] at hx
  | succ k ih =>
    intro x hx
    simp only [movedTo, List.mem_append] at hx
    rcases hx with hx | hx
    · exact ih x hx
    · split at hx
      · simp at hx; rw [hx]
      · simp at hx
theorem FtlOk.opsFew {bs : List Bk} {L : List Int} {seq o lg : Int} {data : ByteArray} (h : FtlOk bs L seq o) : (writeOps bs L seq o lg data).length ≤ 5 := by
  cases h.way with
  | room ob wf ps ho hx hlt hu hops => rw [hops lg data]; simp
  | fresh ob x fi wf j y ho hx hfu hfx hne hj hjf hjn hops => rw [hops lg data]; simp
  | move ob x fi fx v y ho hx hfu hfx hff hy hvn hj3 hv3 hvic hall hops =>
    rw [hops lg data]
    simp [moveOps]
    omega
/-- The number of the block of the newest page is in no erased block. -/
theorem FtlOk.erases {bs : List Bk} {L : List Int} {seq o lg : Int} {data : ByteArray} (h : FtlOk bs L seq o) (hq : seq ≤ 999999990) {i : Nat} {x : Opn} (hx : (writeOps bs L seq o lg data)[i]? = some x) (hk : x.kind ≠ 1) :
    ∃ mid, Runs bs ((writeOps bs L seq o lg data).take i) mid ∧ ChipOk mid ∧ mid.length = bs.length ∧ ∀ l z, newestAt (usedOf mid) l = some z → ¬ z.1 / 4 = x.block := by
  cases h.way with
  | room ob wf ps ho hx1 hlt hu hops =>
    rw [hops lg data] at hx
    obtain ⟨hi, rfl⟩ := List.getElem?_eq_some_iff.1 hx
    simp at hi
    subst hi
    exact absurd rfl hk
  | fresh ob x1 fi wf j y ho hx1 hfu hfx hne hj hjf hjn hops =>
    rw [hops lg data] at hx
    obtain ⟨hi, rfl⟩ := List.getElem?_eq_some_iff.1 hx
    simp at hi
    subst hi
    exact absurd rfl hk
  | move ob x1 fi fx v y ho hx1 hfu hfx hff hy hvn hj3 hv3 hvic hall hops =>
    rw [hops lg data] at hx ⊢
    have hvl := (List.getElem?_eq_some_iff.1 hy).1
    have hM := moves_moved h hq hfx hff hvl 4 (Nat.le_refl _)
    obtain ⟨m1, _, _⟩ := runs_moves h hq hfx hff hvl 4 (Nat.le_refl _)
    have hkm := kind_moved bs L (v : Int) (fi : Int) seq 4
    unfold moveOps at hx ⊢
    generalize movedTo bs L (v : Int) (fi : Int) seq 4 = ms at *
    rcases Nat.lt_trichotomy i ms.length with hi | hi | hi
    · rw [List.append_assoc, List.getElem?_append_left hi] at hx
      exact absurd (hkm x (List.mem_of_getElem? hx)) hk
    · subst hi
      rw [List.append_assoc, List.getElem?_append_right (Nat.le_refl _)] at hx
      simp at hx
      subst hx
      refine ⟨_, ?_, hM.ok, by simp, fun l z hz => hM.left h.chip hvn l z hz⟩
      rw [List.append_assoc, List.take_left]
      exact m1
    · rw [List.append_assoc, List.getElem?_append_right (by omega)] at hx
      obtain ⟨hi2, rfl⟩ := List.getElem?_eq_some_iff.1 hx
      simp at hi2
      obtain ⟨d, hd⟩ : ∃ d, d = i - ms.length := ⟨_, rfl⟩
      have hd1 : i - ms.length = 1 := by omega
      refine absurd ?_ hk
      simp [hd1]
/-- So the map of that chip names no page of it. -/
theorem noneNamed {mid : List Bk} {v : Int} (h : ∀ l z, newestAt (usedOf mid) l = some z → ¬ z.1 / 4 = v) {r : Bool} {L : List Int} (hM : MapIs mid r L) {k : Nat} {m : Int} (hk : L[k]? = some m) (hm : 0 ≤ m) : ¬ m / 4 = v := by
  have hL := hM.2
  cases r with
  | false =>
    rw [hL] at hk
    simp at hk
  | true =>
    rw [hL, if_pos rfl] at hk
    have hkl : k < roomOf mid := by
      have := (List.getElem?_eq_some_iff.1 hk).1
      rwa [placesOf_length] at this
    rw [placesOf_at _ _ hkl] at hk
    cases hn : newestAt (usedOf mid) (k : Int) with
    | none =>
      rw [hn] at hk
      simp [placeIn] at hk
      omega
    | some z =>
      rw [hn] at hk
      simp [placeIn] at hk
      subst hk
      exact h _ z hn
end Go.Proofs.Ytalgkmellbamgaa
