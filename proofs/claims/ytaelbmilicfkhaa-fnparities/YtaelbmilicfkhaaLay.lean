/- Layouts in plain words: right weights, which member has the parity of a stripe, where a block lies. No program is named here. -/
import Derived.Test.YtaelbmilicfkhaaIntA
import Derived.WalkKit
namespace Go.Proofs.Ytaelbmilicfkhaa
open Go.RowKit
set_option linter.unusedVariables false
set_option linter.unusedSimpArgs false

/-- The first k weights together. -/
def upto (L : List Int) (k : Nat) : Int := (L.take k).sum

theorem upto_zero (L : List Int) : upto L 0 = 0 := by simp [upto]
theorem upto_step {L : List Int} {k : Nat} {x : Int} (h : L[k]? = some x) : upto L (k + 1) = upto L k + x := by
  unfold upto
  rw [List.take_add_one, h]
  simp
theorem upto_all (L : List Int) : upto L L.length = L.sum := by simp [upto]

/-- Weights that are each within 0 and 5. -/
def Small (L : List Int) : Prop := ∀ x ∈ L, 0 ≤ x ∧ x ≤ 5
instance (L : List Int) : Decidable (Small L) := by unfold Small; infer_instance

theorem Small.at {L : List Int} (h : Small L) {k : Nat} {x : Int} (hx : L[k]? = some x) : 0 ≤ x ∧ x ≤ 5 := h x (List.mem_of_getElem? hx)

theorem Small.upto {L : List Int} (h : Small L) : ∀ k, k ≤ L.length → 0 ≤ upto L k ∧ upto L k ≤ 5 * (k : Int) := by
  intro k
  induction k with
  | zero => intro _; simp [upto_zero]
  | succ k ih =>
    intro hk
    obtain ⟨x, hx⟩ := getElem?_ex (l := L) (k := k) (by omega)
    have := ih (by omega)
    have := h.at hx
    rw [upto_step hx]
    omega

/-- A right layout. -/
def LayOk (L : List Int) : Prop := (3 ≤ L.length ∧ L.length ≤ 5) ∧ Small L ∧ 0 < L.sum
instance (L : List Int) : Decidable (LayOk L) := by unfold LayOk; infer_instance

theorem LayOk.sum {L : List Int} (h : LayOk L) : 0 < L.sum ∧ L.sum ≤ 25 := by
  refine ⟨h.2.2, ?_⟩
  have := h.2.1.upto L.length (Nat.le_refl _)
  rw [upto_all] at this
  have := h.1.2
  omega

/-- The member m has the parity of the stripe s: the first whose end is above what is left. -/
structure ParIs (L : List Int) (s : Int) (m : Nat) : Prop where
  lt : m < L.length
  above : s % L.sum < upto L (m + 1)
  first : ∀ j, j < m → upto L (j + 1) ≤ s % L.sum

theorem ParIs.one {L : List Int} {s : Int} {m n : Nat} (h : ParIs L s m) (k : ParIs L s n) : m = n := by
  rcases Nat.lt_trichotomy m n with e | e | e
  · have := k.first m e; have := h.above; omega
  · exact e
  · have := h.first n e; have := k.above; omega

/-- What ParityOf answers. -/
def ParityIs (L : List Int) (s r : Int) : Prop :=
  (LayOk L ∧ (0 ≤ s ∧ s ≤ 1000000000) ∧ ∃ m : Nat, r = (m : Int) ∧ ParIs L s m) ∨ (¬ (LayOk L ∧ (0 ≤ s ∧ s ≤ 1000000000)) ∧ r = -1)

theorem ParityIs.one {L : List Int} {s r q : Int} (h : ParityIs L s r) (k : ParityIs L s q) : r = q := by
  rcases h with ⟨h1, h2, m, rfl, h3⟩ | ⟨h1, rfl⟩
  · rcases k with ⟨_, _, n, rfl, k3⟩ | ⟨k1, _⟩
    · rw [h3.one k3]
    · exact absurd ⟨h1, h2⟩ k1
  · rcases k with ⟨k1, k2, _⟩ | ⟨_, rfl⟩
    · exact absurd ⟨k1, k2⟩ h1
    · rfl

/-- Where a block of a right layout lies. -/
structure PutIs (L : List Int) (lba mem stripe : Int) : Prop where
  quo : stripe = lba / ((L.length : Int) - 1)
  rest : ∃ m : Nat, ParIs L stripe m ∧ mem = if (m : Int) ≤ lba % ((L.length : Int) - 1) then lba % ((L.length : Int) - 1) + 1 else lba % ((L.length : Int) - 1)

theorem PutIs.one {L : List Int} {lba m s m' s' : Int} (h : PutIs L lba m s) (k : PutIs L lba m' s') : m = m' ∧ s = s' := by
  obtain ⟨rfl, p, hp, rfl⟩ := h
  obtain ⟨rfl, q, hq, rfl⟩ := k
  rw [hp.one hq]
  exact ⟨rfl, rfl⟩

/-- What PlaceOf answers. -/
def PlaceIs (L : List Int) (lba m s : Int) : Prop :=
  (LayOk L ∧ (0 ≤ lba ∧ lba ≤ 1000000000) ∧ PutIs L lba m s) ∨ (¬ (LayOk L ∧ (0 ≤ lba ∧ lba ≤ 1000000000)) ∧ m = -1 ∧ s = 0)

theorem PlaceIs.one {L : List Int} {lba m s m' s' : Int} (h : PlaceIs L lba m s) (k : PlaceIs L lba m' s') : m = m' ∧ s = s' := by
  rcases h with ⟨h1, h2, h3⟩ | ⟨h1, rfl, rfl⟩
  · rcases k with ⟨_, _, k3⟩ | ⟨k1, _⟩
    · exact h3.one k3
    · exact absurd ⟨h1, h2⟩ k1
  · rcases k with ⟨k1, k2, _⟩ | ⟨_, rfl, rfl⟩
    · exact absurd ⟨k1, k2⟩ h1
    · exact ⟨rfl, rfl⟩

/-- What LbaOf answers. -/
def LbaIs (L : List Int) (mem stripe r : Int) : Prop :=
  (LayOk L ∧ (0 ≤ stripe ∧ stripe ≤ 249999999) ∧ (0 ≤ mem ∧ mem ≤ (L.length : Int) - 1) ∧ ∃ p : Nat, ParIs L stripe p ∧
    r = if mem = (p : Int) then -1 else if (p : Int) < mem then stripe * ((L.length : Int) - 1) + (mem - 1) else stripe * ((L.length : Int) - 1) + mem) ∨
  (¬ (LayOk L ∧ (0 ≤ stripe ∧ stripe ≤ 249999999) ∧ (0 ≤ mem ∧ mem ≤ (L.length : Int) - 1)) ∧ r = -1)

theorem LbaIs.one {L : List Int} {m s r q : Int} (h : LbaIs L m s r) (k : LbaIs L m s q) : r = q := by
  rcases h with ⟨h1, h2, h3, p, hp, rfl⟩ | ⟨h1, rfl⟩
  · rcases k with ⟨_, _, _, p', hp', rfl⟩ | ⟨k1, _⟩
    · rw [hp.one hp']
    · exact absurd ⟨h1, h2, h3⟩ k1
  · rcases k with ⟨k1, k2, k3, _⟩ | ⟨_, rfl⟩
    · exact absurd ⟨k1, k2, k3⟩ h1
    · rfl

theorem ofNat_lt_tmod {L : List Int} (h : LayOk L) {s : Int} (hs : 0 ≤ s) : 0 ≤ s % L.sum ∧ s % L.sum < L.sum :=
  ⟨Int.emod_nonneg _ (by have := h.2.2; omega), Int.emod_lt_of_pos _ h.2.2⟩

end Go.Proofs.Ytaelbmilicfkhaa
