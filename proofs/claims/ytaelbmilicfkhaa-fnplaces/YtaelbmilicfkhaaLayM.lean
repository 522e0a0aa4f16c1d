/- Places and parities, in numbers: a place leads back to its block, and a block's place is no parity's. No program is named here. -/
import Derived.Test.YtaelbmilicfkhaaLay
namespace Go.Proofs.Ytaelbmilicfkhaa
open Go.RowKit
set_option linter.unusedVariables false

theorem len3 {L : List Int} (h : LayOk L) : ((L.length : Int) - 1 = 2 ∨ (L.length : Int) - 1 = 3 ∨ (L.length : Int) - 1 = 4) ∧ (L.length : Int) = (L.length : Int) - 1 + 1 := by
  have := h.1
  omega

/-- A block's place has the block again, and is no parity's. -/
theorem PlaceIs.back {L : List Int} {lba m s r p : Int} (h : PlaceIs L lba m s) (hm : 0 ≤ m) (hs : s < 250000000) (hr : LbaIs L m s r) (hp : ParityIs L s p) : r = lba ∧ p ≠ m := by
  rcases h with ⟨ho, hl, hq⟩ | ⟨_, rfl, _⟩
  · obtain ⟨q1, q, hpar, q2⟩ := hq
    have h3 := len3 ho
    have hlt := hpar.lt
    have hlt' : (q : Int) < (L.length : Int) := by omega
    have hs0 : 0 ≤ s ∧ s ≤ 249999999 := by
      refine ⟨?_, by omega⟩
      rw [q1]
      exact Int.ediv_nonneg hl.1 (by omega)
    have hm1 : (q : Int) ≠ m := by
      rw [q2]; split <;> omega
    generalize hd : (L.length : Int) - 1 = d at *
    have hm2 : 0 ≤ m ∧ m ≤ d := by
      have e1 := Int.emod_nonneg lba (b := d) (by omega)
      have e2 := Int.emod_lt_of_pos lba (b := d) (by omega)
      rw [q2]; split <;> omega
    refine ⟨?_, ?_⟩
    · rcases hr with ⟨_, _, _, p', hp', rfl⟩ | ⟨hn, _⟩
      · obtain rfl := hp'.one hpar
        rw [if_neg (by omega), hd]
        rw [q1, q2]
        rcases h3.1 with rfl | rfl | rfl <;> (split <;> split at * <;> omega)
      · exact absurd ⟨ho, hs0, by rw [hd]; exact hm2⟩ hn
    · rcases hp with ⟨_, _, p', rfl, hp'⟩ | ⟨hn, _⟩
      · obtain rfl := hp'.one hpar
        exact hm1
      · exact absurd ⟨ho, by omega⟩ hn
  · omega

theorem PlaceIs.backR {L : List Int} {lba m s r : Int} (h : PlaceIs L lba m s) (hm : 0 ≤ m) (hs : s < 250000000) (hr : LbaIs L m s r) : r = lba := by
  have h0 := h
  rcases h with ⟨ho, hl, hq⟩ | ⟨_, rfl, _⟩
  · obtain ⟨q1, q, hpar, q2⟩ := hq
    have h3 := len3 ho
    have hs0 : 0 ≤ s := by
      rw [q1]
      exact Int.ediv_nonneg hl.1 (by omega)
    exact (h0.back hm hs hr (.inl ⟨ho, ⟨hs0, by omega⟩, q, rfl, hpar⟩)).1
  · omega

/-- A place that has a block is that block's. -/
theorem LbaIs.back {L : List Int} {m s l x y : Int} (h : LbaIs L m s l) (hl : 0 ≤ l) (hp : PlaceIs L l x y) : x = m ∧ y = s := by
  rcases h with ⟨ho, hs, hm, p, hpar, hr⟩ | ⟨_, rfl⟩
  · have h3 := len3 ho
    have hlt := hpar.lt
    have hlt' : (p : Int) < (L.length : Int) := by omega
    generalize hd : (L.length : Int) - 1 = d at *
    have hne : m ≠ (p : Int) := by
      intro e
      rw [if_pos e] at hr
      omega
    rw [if_neg hne] at hr
    have key : l / d = s ∧ l % d = (if (p : Int) < m then m - 1 else m) := by
      rcases h3.1 with rfl | rfl | rfl <;> (split at hr <;> rename_i hc <;> simp only [hc, if_true, if_false] <;> omega)
    have hl9 : l ≤ 1000000000 := by
      rcases h3.1 with rfl | rfl | rfl <;> (split at hr <;> omega)
    rcases hp with ⟨_, _, q1, q, hq, q2⟩ | ⟨hn, _⟩
    · rw [hd] at q1 q2
      obtain rfl : y = s := q1.trans key.1
      obtain rfl := hq.one hpar
      refine ⟨?_, rfl⟩
      rw [q2, key.2]
      split <;> split <;> omega
    · exact absurd ⟨ho, hl, hl9⟩ hn
  · omega

end Go.Proofs.Ytaelbmilicfkhaa
