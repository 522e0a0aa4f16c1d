/- What Programmed answers, in plain lists. No program is named here. -/
import Derived.Test.YtageolbmplhgaaaEraC
import Derived.Test.YtageolbmplhgaaaNextP
namespace Go.Proofs.Ytageolbmplhgaaa
open Go.RowKit
set_option linter.unusedVariables false
set_option linter.unusedSimpArgs false

/-- The page may be programmed into the block, as far as its form goes. -/
def ProgOk (bs : List Bk) (blk : Int) (p : Pg) : Prop := InB bs blk ∧ rightUsed p = true ∧ p.seq ∉ seqs bs

def ProgIs (bs : List Bk) (blk : Int) (p : Pg) (out : List Bk) (code : Int) : Prop :=
  (¬ ChipOk bs ∧ out = [] ∧ code = 1) ∨ (ChipOk bs ∧ ¬ ProgOk bs blk p ∧ out = bs ∧ code = 2) ∨
  (ChipOk bs ∧ ProgOk bs blk p ∧ ∃ b r, bs[blk.toNat]? = some b ∧ NextIs (fun k => (pagesF b.pages k).used) 4 r ∧ ((r < 0 ∧ out = bs ∧ code = 3) ∨ (0 ≤ r ∧ out = bs.set blk.toNat ⟨b.wear, b.pages.set r.toNat p⟩ ∧ code = 0)))

theorem ProgIs.one {bs : List Bk} {blk : Int} {p : Pg} {o1 o2 : List Bk} {c1 c2 : Int} (h : ProgIs bs blk p o1 c1) (k : ProgIs bs blk p o2 c2) : o1 = o2 ∧ c1 = c2 := by
  rcases h with ⟨h1, rfl, rfl⟩ | ⟨h1, h2, rfl, rfl⟩ | ⟨h1, h2, b, r, hb, hr, h3⟩
  · rcases k with ⟨k1, rfl, rfl⟩ | ⟨k1, _⟩ | ⟨k1, _⟩
    · exact ⟨rfl, rfl⟩
    · exact absurd k1 h1
    · exact absurd k1 h1
  · rcases k with ⟨k1, _⟩ | ⟨k1, k2, rfl, rfl⟩ | ⟨k1, k2, _⟩
    · exact absurd h1 k1
    · exact ⟨rfl, rfl⟩
    · exact absurd k2 h2
  · rcases k with ⟨k1, _⟩ | ⟨k1, k2, _⟩ | ⟨k1, k2, d, q, hd, hq, k3⟩
    · exact absurd h1 k1
    · exact absurd h2 k2
    · rw [hb] at hd
      cases hd
      obtain rfl := hr.one hq
      rcases h3 with ⟨e1, rfl, rfl⟩ | ⟨e1, rfl, rfl⟩
      · rcases k3 with ⟨f1, rfl, rfl⟩ | ⟨f1, _⟩
        · exact ⟨rfl, rfl⟩
        · omega
      · rcases k3 with ⟨f1, _⟩ | ⟨f1, rfl, rfl⟩
        · omega
        · exact ⟨rfl, rfl⟩

theorem ProgIs.lens {bs : List Bk} {blk : Int} {p : Pg} {out : List Bk} {code : Int} (h : ProgIs bs blk p out code) (hn : Lens 1048576 bs) : Lens 1048576 out := by
  rcases h with ⟨_, rfl, _⟩ | ⟨_, _, rfl, _⟩ | ⟨_, _, b, r, hb, _, ⟨_, rfl, _⟩ | ⟨_, rfl, _⟩⟩
  · exact ⟨by simp, fun b hb => by simp at hb⟩
  · exact hn
  · exact hn
  · refine ⟨by rw [List.length_set]; exact hn.1, fun c hc => ?_⟩
    rcases List.mem_or_eq_of_mem_set hc with h1 | rfl
    · exact hn.2 c h1
    · show (b.pages.set r.toNat p).length ≤ _
      rw [List.length_set]
      exact hn.at hb

/-- A page is put into a block's cells. -/
def CC.putPage (m : CC) (b j : Nat) (p : Pg) : CC := m.setPages b (fun i => if i = j then p else m.page b i)

theorem ccA_putPage (m : CC) (b j : Nat) (p : Pg) (hb : b < 12) (hj : j < 4) :
    ((((ccA m).setIfInBounds (1 + b * 17 + 1 + j * 4) (.bool p.used)).setIfInBounds (1 + b * 17 + 1 + j * 4 + 1) (.int .i64 p.log)).setIfInBounds (1 + b * 17 + 1 + j * 4 + 2) (.int .i64 p.seq)).setIfInBounds (1 + b * 17 + 1 + j * 4 + 3) (.string p.data) = ccA (m.putPage b j p) := by
  apply Array.ext_getElem?
  intro i
  by_cases hi : i < 205
  · rw [ccA_get _ hi]
    simp only [Array.getElem?_setIfInBounds, Array.size_setIfInBounds, ccA_size]
    have hF : ¬ (1 + b * 17 + 1 + j * 4 ≤ i ∧ i < 1 + b * 17 + 1 + j * 4 + 4) → ccF (m.putPage b j p) i = ccF m i := by
      intro hn
      unfold ccF CC.putPage CC.setPages
      by_cases h0 : i = 0
      · simp [h0]
      · simp only [if_neg h0]
        by_cases h1 : (i - 1) % 17 = 0
        · simp only [if_pos h1]
        · simp only [if_neg h1]
          by_cases h2 : (i - 1) / 17 = b
          · have h3 : ¬ ((i - 1) % 17 - 1) / 4 = j := by omega
            simp [h2, h3]
          · simp [h2]
    have hT : ∀ t, t < 4 → i = 1 + b * 17 + 1 + j * 4 + t → ccF (m.putPage b j p) i = pgV p t := by
      intro t ht e
      subst e
      unfold ccF CC.putPage CC.setPages
      have h0 : ¬ 1 + b * 17 + 1 + j * 4 + t = 0 := by omega
      have e9 : 1 + b * 17 + 1 + j * 4 + t - 1 = 17 * b + (1 + j * 4 + t) := by omega
      have e8 : (17 * b + (1 + j * 4 + t)) % 17 = 1 + j * 4 + t := by rw [Nat.mul_add_mod, Nat.mod_eq_of_lt (by omega)]
      have h1 : ¬ (1 + b * 17 + 1 + j * 4 + t - 1) % 17 = 0 := by rw [e9, e8]; omega
      have h2 : (1 + b * 17 + 1 + j * 4 + t - 1) / 17 = b := by rw [e9, Nat.mul_add_div (by omega), Nat.div_eq_of_lt (by omega)]; rfl
      have h3 : ((1 + b * 17 + 1 + j * 4 + t - 1) % 17 - 1) / 4 = j := by rw [e9, e8]; omega
      have h4 : ((1 + b * 17 + 1 + j * 4 + t - 1) % 17 - 1) % 4 = t := by rw [e9, e8]; omega
      simp only [if_neg h0, if_neg h1, h2, h3, h4, if_true]
    by_cases e3 : 1 + b * 17 + 1 + j * 4 + 3 = i
    · rw [if_pos e3, if_pos (by omega), hT 3 (by omega) e3.symm]; rfl
    · rw [if_neg e3]
      by_cases e2 : 1 + b * 17 + 1 + j * 4 + 2 = i
      · rw [if_pos e2, if_pos (by omega), hT 2 (by omega) e2.symm]; rfl
      · rw [if_neg e2]
        by_cases e1 : 1 + b * 17 + 1 + j * 4 + 1 = i
        · rw [if_pos e1, if_pos (by omega), hT 1 (by omega) e1.symm]; rfl
        · rw [if_neg e1]
          by_cases e0 : 1 + b * 17 + 1 + j * 4 = i
          · rw [if_pos e0, if_pos (by omega), hT 0 (by omega) e0.symm]; rfl
          · rw [if_neg e0, ccA_get _ hi, hF (by omega)]
  · rw [Array.getElem?_eq_none (by simp [ccA_size]; omega), Array.getElem?_eq_none (by simp [ccA_size]; omega)]

theorem ccBs_putPage (m : CC) (n k j : Nat) (p : Pg) (hk : k < n) (hj : j < 4) : ccBs (m.putPage k j p) n = (ccBs m n).set k ⟨m.wear k, (ccPs m k).set j p⟩ := by
  apply List.ext_getElem?
  intro i
  rw [List.getElem?_set]
  by_cases hi : i < n
  · rw [ccBs_at _ hi, ccBs_at _ hi]
    by_cases e : k = i
    · subst e
      rw [if_pos rfl, if_pos (by rw [ccBs_length]; exact hi)]
      have h4 : j = 0 ∨ j = 1 ∨ j = 2 ∨ j = 3 := by omega
      rcases h4 with rfl | rfl | rfl | rfl <;> simp [CC.putPage, CC.setPages, ccPs]
    · rw [if_neg e]
      have e' : ¬ i = k := fun x => e x.symm
      simp [CC.putPage, CC.setPages, ccPs, e']
  · rw [List.getElem?_eq_none (by rw [ccBs_length]; omega), List.getElem?_eq_none (by rw [ccBs_length]; omega), if_neg (by omega)]

end Go.Proofs.Ytageolbmplhgaaa
