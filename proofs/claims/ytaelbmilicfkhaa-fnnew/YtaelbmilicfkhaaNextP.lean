/- The first page that is not used: plain words. No program is named here. -/
import Derived.Test.YtaelbmilicfkhaaPut
namespace Go.Proofs.Ytaelbmilicfkhaa
open Go.RowKit
set_option linter.unusedVariables false

/-- r is the first k of n with u k false, or -1. -/
def NextIs (u : Nat → Bool) (n : Nat) (r : Int) : Prop := (∃ k : Nat, k < n ∧ r = k ∧ u k = false ∧ ∀ j, j < k → u j = true) ∨ (r = -1 ∧ ∀ j, j < n → u j = true)
theorem NextIs.one {u : Nat → Bool} {n : Nat} {r s : Int} (h : NextIs u n r) (k : NextIs u n s) : r = s := by
  rcases h with ⟨i, hi, rfl, h1, h2⟩ | ⟨rfl, h1⟩
  · rcases k with ⟨j, hj, rfl, k1, k2⟩ | ⟨rfl, k1⟩
    · by_cases e : i < j
      · have := k2 i e; rw [h1] at this; cases this
      · by_cases e2 : j < i
        · have := h2 j e2; rw [k1] at this; cases this
        · omega
    · have := k1 i hi; rw [h1] at this; cases this
  · rcases k with ⟨j, hj, rfl, k1, k2⟩ | ⟨rfl, k1⟩
    · have := h1 j hj; rw [k1] at this; cases this
    · rfl

theorem NextIs.congr {u v : Nat → Bool} {n : Nat} {r : Int} (h : NextIs u n r) (e : ∀ k, k < n → u k = v k) : NextIs v n r := by
  rcases h with ⟨i, hi, rfl, h1, h2⟩ | ⟨rfl, h1⟩
  · exact .inl ⟨i, hi, rfl, (e i hi) ▸ h1, fun j hj => (e j (by omega)) ▸ h2 j hj⟩
  · exact .inr ⟨rfl, fun j hj => (e j hj) ▸ h1 j hj⟩

def pu (b : Bk) (k : Nat) : Bool := (pagesF b.pages k).used

/-- What NextOf answers. -/
def NextOfIs (bs : List Bk) (blk r : Int) : Prop :=
  (¬ (ChipOk bs ∧ 0 ≤ blk ∧ blk ≤ (bs.length : Int) - 1) ∧ r = -1) ∨ ((ChipOk bs ∧ 0 ≤ blk ∧ blk ≤ (bs.length : Int) - 1) ∧ ∃ b, bs[blk.toNat]? = some b ∧ NextIs (pu b) 4 r)
theorem NextOfIs.one {bs : List Bk} {blk r s : Int} (h : NextOfIs bs blk r) (k : NextOfIs bs blk s) : r = s := by
  rcases h with ⟨h1, rfl⟩ | ⟨h1, b, hb, h2⟩
  · rcases k with ⟨_, rfl⟩ | ⟨k1, _⟩
    · rfl
    · exact absurd k1 h1
  · rcases k with ⟨k1, _⟩ | ⟨_, c, hc, k2⟩
    · exact absurd h1 k1
    · rw [hb] at hc; cases hc; exact h2.one k2
end Go.Proofs.Ytaelbmilicfkhaa
