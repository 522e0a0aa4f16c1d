/- How many parities a member has, stripe by stripe, in numbers. No program is named here. -/
import Derived.Test.YtaelbmilicfkhaaLay
namespace Go.Proofs.Ytaelbmilicfkhaa
open Go.RowKit
set_option linter.unusedVariables false

/-- How much of a member's piece lies below x. -/
def jOf (L : List Int) (m : Nat) (x : Int) : Int := min x (upto L (m + 1)) - min x (upto L m)

/-- How many of the first i stripes, from one whose rest is a on, are the member's. -/
def seenOf (L : List Int) (a : Int) (i : Nat) (m : Nat) : Int :=
  if a + (i : Int) ≤ L.sum then jOf L m (a + (i : Int)) - jOf L m a else jOf L m L.sum - jOf L m a + jOf L m (a + (i : Int) - L.sum)

theorem upto_mono {L : List Int} (h : Small L) : ∀ j k, j ≤ k → k ≤ L.length → upto L j ≤ upto L k := by
  intro j k hjk
  induction hjk with
  | refl => intro _; exact Int.le_refl _
  | step hle ih =>
    intro hk
    rename_i k
    obtain ⟨x, hx⟩ := getElem?_ex (l := L) (k := k) (by omega)
    have := ih (by omega)
    have := h.at hx
    rw [upto_step hx]
    omega

theorem upto_le_sum {L : List Int} (h : Small L) {k : Nat} (hk : k ≤ L.length) : upto L k ≤ L.sum := by
  rw [← upto_all]
  exact upto_mono h k L.length hk (Nat.le_refl _)

theorem rest_add {s S : Int} {i : Nat} (hS : 0 < S) (hi : (i : Int) < S) : (s + (i : Int)) % S = if s % S + (i : Int) < S then s % S + (i : Int) else s % S + (i : Int) - S := by
  have h0 := Int.emod_nonneg s (b := S) (by omega)
  have h1 := Int.emod_lt_of_pos s hS
  rw [← Int.emod_add_emod]
  split
  · rw [Int.emod_eq_of_lt (by omega) (by assumption)]
  · have e : (s % S + (i : Int)) % S = (s % S + (i : Int) - S) % S := by rw [Int.sub_emod_right]
    rw [e, Int.emod_eq_of_lt (by omega) (by omega)]

theorem seenOf_zero {L : List Int} {a : Int} (ha : a < L.sum) (m : Nat) : seenOf L a 0 m = 0 := by
  unfold seenOf
  rw [if_pos (by simp; omega)]
  simp

theorem seenOf_step {L : List Int} (ho : LayOk L) {s : Int} {i p : Nat} (hi : (i : Int) < L.sum) (hp : ParIs L (s + (i : Int)) p) {m : Nat} (hm : m < L.length) :
    seenOf L (s % L.sum) (i + 1) m = if m = p then seenOf L (s % L.sum) i m + 1 else seenOf L (s % L.sum) i m := by
  have hS := ho.2.2
  have h0 := Int.emod_nonneg s (b := L.sum) (by omega)
  have h1 := Int.emod_lt_of_pos s hS
  have hab := hp.above
  have hfi := hp.first
  have hpl := hp.lt
  rw [rest_add hS hi] at hab hfi
  have u1 := ho.2.1.upto m (by omega)
  have u2 := upto_mono ho.2.1 m (m + 1) (by omega) (by omega)
  have u3 := upto_le_sum ho.2.1 (k := m + 1) (by omega)
  have key : ∀ x, x = (if s % L.sum + (i : Int) < L.sum then s % L.sum + (i : Int) else s % L.sum + (i : Int) - L.sum) → jOf L m (x + 1) = if m = p then jOf L m x + 1 else jOf L m x := by
    intro x hx
    rw [← hx] at hab
    by_cases e : m = p
    · subst e
      have hlow : upto L m ≤ x := by
        cases m with
        | zero =>
          rw [upto_zero, hx]
          split <;> omega
        | succ k =>
          have := hfi k (by omega)
          rw [← hx] at this
          exact this
      rw [if_pos rfl]
      unfold jOf
      omega
    · rw [if_neg e]
      unfold jOf
      rcases Nat.lt_or_ge m p with l | l
      · have := hfi m l
        rw [← hx] at this
        omega
      · have := upto_mono ho.2.1 (p + 1) m (by omega) (by omega)
        omega
  unfold seenOf
  by_cases c : s % L.sum + (i : Int) < L.sum
  · have k1 := key (s % L.sum + (i : Int)) (by rw [if_pos c])
    have e1 : s % L.sum + ((i + 1 : Nat) : Int) = s % L.sum + (i : Int) + 1 := by omega
    rw [if_pos (show s % L.sum + ((i + 1 : Nat) : Int) ≤ L.sum by omega), if_pos (show s % L.sum + (i : Int) ≤ L.sum by omega), e1, k1]
    split <;> omega
  · have k1 := key (s % L.sum + (i : Int) - L.sum) (by rw [if_neg c])
    have e1 : s % L.sum + ((i + 1 : Nat) : Int) - L.sum = s % L.sum + (i : Int) - L.sum + 1 := by omega
    rw [if_neg (show ¬ s % L.sum + ((i + 1 : Nat) : Int) ≤ L.sum by omega), e1, k1]
    by_cases c2 : s % L.sum + (i : Int) ≤ L.sum
    · have e2 : s % L.sum + (i : Int) = L.sum := by omega
      rw [if_pos c2, e2]
      have j0 : jOf L m (L.sum - L.sum) = 0 := by
        unfold jOf
        omega
      rw [j0]
      split <;> omega
    · rw [if_neg c2]
      split <;> omega

theorem seenOf_all {L : List Int} (ho : LayOk L) {s : Int} {n m : Nat} {x : Int} (hn : (n : Int) = L.sum) (hx : L[m]? = some x) : seenOf L (s % L.sum) n m = x := by
  have hS := ho.2.2
  have hm := (List.getElem?_eq_some_iff.1 hx).1
  have h0 := Int.emod_nonneg s (b := L.sum) (by omega)
  have h1 := Int.emod_lt_of_pos s hS
  have u1 := ho.2.1.upto m (by omega)
  have u2 := upto_mono ho.2.1 m (m + 1) (by omega) (by omega)
  have u3 := upto_le_sum ho.2.1 (k := m + 1) (by omega)
  have u4 := upto_step hx
  unfold seenOf jOf
  split <;> omega

end Go.Proofs.Ytaelbmilicfkhaa
