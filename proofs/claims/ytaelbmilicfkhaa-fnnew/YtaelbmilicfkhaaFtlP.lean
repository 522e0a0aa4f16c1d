/- What a right member is, as plain lists say it. No program is named here. -/
import Derived.Test.YtaelbmilicfkhaaMapP
import Derived.Test.YtaelbmilicfkhaaNextP
namespace Go.Proofs.Ytaelbmilicfkhaa
open Go.RowKit
set_option linter.unusedVariables false
set_option linter.unusedSimpArgs false

/-- The greatest number so far, and its place. -/
def topStep (cur : Int × Int) (x : Int × Pg) : Int × Int := if cur.1 < x.2.seq then (x.2.seq, x.1) else cur
def topOf (xs : List (Int × Pg)) : Int × Int := xs.foldl topStep (0, 0)
theorem topOf_snoc (xs : List (Int × Pg)) (x : Int × Pg) : topOf (xs ++ [x]) = topStep (topOf xs) x := by simp [topOf]
theorem topOf_bounds (xs : List (Int × Pg)) (h : ∀ x ∈ xs, x.2.seq ≤ 1000000000) : 0 ≤ (topOf xs).1 ∧ (topOf xs).1 ≤ 1000000000 := by
  suffices H : ∀ (xs : List (Int × Pg)) (c : Int × Int), 0 ≤ c.1 → c.1 ≤ 1000000000 → (∀ x ∈ xs, x.2.seq ≤ 1000000000) → 0 ≤ (xs.foldl topStep c).1 ∧ (xs.foldl topStep c).1 ≤ 1000000000 from H xs (0, 0) (Int.le_refl _) (by decide) h
  intro xs
  induction xs with
  | nil => intro c h0 h1 _; exact ⟨h0, h1⟩
  | cons x xs ih =>
    intro c h0 h1 hx
    have h2 := hx x (by simp)
    simp only [List.foldl_cons]
    refine ih _ ?_ ?_ (fun y hy => hx y (by simp [hy]))
    · unfold topStep; split <;> (try simp) <;> omega
    · unfold topStep; split <;> (try simp) <;> omega
def topSeq (bs : List Bk) : Int := (topOf (usedOf bs)).1
theorem ChipOk.top {bs : List Bk} (h : ChipOk bs) : 0 ≤ topSeq bs ∧ topSeq bs ≤ 1000000000 :=
  topOf_bounds _ (fun x hx => (h.usedRight hx).2.2.2.1)

def freeB (b : Bk) : Bool := !pu b 0
def fullB (b : Bk) : Bool := pu b 0 && pu b 1 && pu b 2 && pu b 3
/-- Begun, and not full. -/
def halfB (b : Bk) : Bool := pu b 0 && !fullB b
theorem NextIs.kinds {b : Bk} {r : Int} (h : NextIs (pu b) 4 r) : decide (r = 0) = freeB b ∧ decide (0 < r) = halfB b ∧ decide (r < 0) = fullB b := by
  unfold halfB freeB fullB
  rcases h with ⟨k, hk, rfl, h1, h2⟩ | ⟨rfl, h1⟩
  · have h4 : k = 0 ∨ k = 1 ∨ k = 2 ∨ k = 3 := by omega
    rcases h4 with rfl | rfl | rfl | rfl
    · simp [h1]
    · have := h2 0 (by omega); simp [h1, this]
    · have a0 := h2 0 (by omega); have a1 := h2 1 (by omega); simp [h1, a0, a1]
    · have a0 := h2 0 (by omega); have a1 := h2 1 (by omega); have a2 := h2 2 (by omega); simp [h1, a0, a1, a2]
  · have a0 := h1 0 (by omega); have a1 := h1 1 (by omega); have a2 := h1 2 (by omega); have a3 := h1 3 (by omega)
    simp [a0, a1, a2, a3]

/-- No block of the first k but the open one is begun only; one of them is free. -/
def noHalf (bs : List Bk) (o : Int) (k : Nat) : Prop := ∀ i x, i < k → bs[i]? = some x → (i : Int) ≠ o → halfB x = false
def oneFree (bs : List Bk) (o : Int) (k : Nat) : Prop := ∃ i x, i < k ∧ bs[i]? = some x ∧ (i : Int) ≠ o ∧ freeB x = true
def Settled (bs : List Bk) (o : Int) : Prop := noHalf bs o bs.length ∧ oneFree bs o bs.length
theorem noHalf_succ {bs : List Bk} {o : Int} {k : Nat} {x : Bk} (hx : bs[k]? = some x) : noHalf bs o (k + 1) ↔ noHalf bs o k ∧ ((k : Int) ≠ o → halfB x = false) := by
  constructor
  · intro h
    exact ⟨fun i y hi hy hn => h i y (by omega) hy hn, fun hn => h k x (by omega) hx hn⟩
  · rintro ⟨h1, h2⟩ i y hi hy hn
    by_cases e : i = k
    · subst e; rw [hx] at hy; cases hy; exact h2 hn
    · exact h1 i y (by omega) hy hn
theorem oneFree_succ {bs : List Bk} {o : Int} {k : Nat} {x : Bk} (hx : bs[k]? = some x) : oneFree bs o (k + 1) ↔ oneFree bs o k ∨ ((k : Int) ≠ o ∧ freeB x = true) := by
  constructor
  · rintro ⟨i, y, hi, hy, hn, hf⟩
    by_cases e : i = k
    · subst e; rw [hx] at hy; cases hy; exact .inr ⟨hn, hf⟩
    · exact .inl ⟨i, y, by omega, hy, hn, hf⟩
  · rintro (⟨i, y, hi, hy, hn, hf⟩ | ⟨hn, hf⟩)
    · exact ⟨i, y, by omega, hy, hn, hf⟩
    · exact ⟨k, x, by omega, hx, hn, hf⟩

/-- A right member. -/
structure FtlOk (bs : List Bk) (L : List Int) (seq o : Int) : Prop where
  chip : ChipOk bs
  fits : Fits bs
  map : L = placesOf (usedOf bs) (roomOf bs)
  seq : topSeq bs + 1 ≤ seq ∧ seq ≤ 1000000000
  opn : 0 ≤ o ∧ o ≤ (bs.length : Int) - 1
  settled : Settled bs o
end Go.Proofs.Ytaelbmilicfkhaa
