/- The newest page of each log, as plain lists say it. No program is named here. -/
import Derived.Test.YtaelbmilicfkhaaUsed
import Derived.Test.YtaelbmilicfkhaaPut
namespace Go.Proofs.Ytaelbmilicfkhaa
open Go.RowKit
set_option linter.unusedVariables false
set_option linter.unusedSimpArgs false

def newer (cur : Option (Int × Pg)) (s : Int) : Bool := match cur with | none => true | some y => decide (y.2.seq < s)
def pick (log : Int) (cur : Option (Int × Pg)) (x : Int × Pg) : Option (Int × Pg) := if x.2.log = log ∧ newer cur x.2.seq = true then some x else cur
/-- The newest page of a log, and its place. -/
def newestAt (xs : List (Int × Pg)) (log : Int) : Option (Int × Pg) := xs.foldl (pick log) none
theorem newestAt_snoc (xs : List (Int × Pg)) (x : Int × Pg) (log : Int) : newestAt (xs ++ [x]) log = pick log (newestAt xs log) x := by simp [newestAt]
theorem newestAt_mem {xs : List (Int × Pg)} {log : Int} {y : Int × Pg} (h : newestAt xs log = some y) : y ∈ xs ∧ y.2.log = log := by
  suffices H : ∀ n (xs : List (Int × Pg)), xs.length = n → ∀ y, newestAt xs log = some y → y ∈ xs ∧ y.2.log = log from H _ xs rfl y h
  intro n
  induction n with
  | zero =>
    intro xs hl y hy
    cases xs with
    | nil => simp [newestAt] at hy
    | cons a t => simp at hl
  | succ n ih =>
    intro xs hl y hy
    obtain ⟨ys, x, rfl⟩ : ∃ ys x, xs = ys ++ [x] := ⟨xs.dropLast, xs.getLast (by intro e; subst e; cases hl), (List.dropLast_concat_getLast _).symm⟩
    rw [newestAt_snoc] at hy
    unfold pick at hy
    split at hy
    · rename_i hc
      cases hy
      exact ⟨by simp, hc.1⟩
    · obtain ⟨h1, h2⟩ := ih ys (by simpa using hl) y hy
      exact ⟨by simp [h1], h2⟩

def placeIn : Option (Int × Pg) → Int
  | none => -1
  | some y => y.1
def placesOf (xs : List (Int × Pg)) (room : Nat) : List Int := (List.range room).map fun (i : Nat) => placeIn (newestAt xs (i : Int))
theorem placesOf_length (xs : List (Int × Pg)) (room : Nat) : (placesOf xs room).length = room := by simp [placesOf]
theorem placesOf_at (xs : List (Int × Pg)) (room : Nat) {i : Nat} (hi : i < room) : (placesOf xs room)[i]? = some (placeIn (newestAt xs (i : Int))) := by simp [placesOf, hi]
theorem placesOf_nil (room : Nat) : placesOf [] room = List.replicate room (-1) := by
  refine List.ext_getElem? (fun i => ?_)
  by_cases hi : i < room
  · rw [placesOf_at _ _ hi]; simp [hi, newestAt, placeIn]
  · rw [List.getElem?_eq_none (by rw [placesOf_length]; omega), List.getElem?_eq_none (by simp; omega)]
theorem placesOf_snoc (xs : List (Int × Pg)) (x : Int × Pg) (room l : Nat) (hx : x.2.log = (l : Int)) :
    placesOf (xs ++ [x]) room = if newer (newestAt xs (l : Int)) x.2.seq = true then (placesOf xs room).set l x.1 else placesOf xs room := by
  refine List.ext_getElem? (fun i => ?_)
  by_cases hi : i < room
  · rw [placesOf_at _ _ hi, newestAt_snoc]
    by_cases e : i = l
    · subst e
      unfold pick
      by_cases hn : newer (newestAt xs (i : Int)) x.2.seq = true
      · rw [if_pos ⟨hx, hn⟩, if_pos hn, List.getElem?_set_self (by rw [placesOf_length]; exact hi)]
        rfl
      · rw [if_neg (fun h => hn h.2), if_neg hn, placesOf_at _ _ hi]
    · have hne : ¬ x.2.log = (i : Int) := by rw [hx]; omega
      unfold pick
      rw [if_neg (fun h => hne h.1)]
      split
      · rw [List.getElem?_set_ne (fun h => e h.symm), placesOf_at _ _ hi]
      · rw [placesOf_at _ _ hi]
  · rw [List.getElem?_eq_none (by rw [placesOf_length]; omega)]
    split
    · rw [List.getElem?_eq_none (by rw [List.length_set, placesOf_length]; omega)]
    · rw [List.getElem?_eq_none (by rw [placesOf_length]; omega)]

theorem mem_usedB {m : CC} {b k : Nat} {x : Int × Pg} (h : x ∈ usedB m b k) : ∃ j, j < k ∧ x = ((b : Int) * 4 + (j : Int), m.page b j) ∧ (m.page b j).used = true := by
  unfold usedB at h
  simp at h
  obtain ⟨j, ⟨hj, hu⟩, rfl⟩ := h
  exact ⟨j, hj, rfl, hu⟩
theorem mem_usedAll {m : CC} {n : Nat} {x : Int × Pg} (h : x ∈ usedAll m n) : ∃ (b k : Nat), b < n ∧ k < 4 ∧ x = ((b : Int) * 4 + (k : Int), m.page b k) ∧ (m.page b k).used = true := by
  unfold usedAll at h
  simp only [List.mem_flatMap, List.mem_range] at h
  obtain ⟨b, hb, hx⟩ := h
  obtain ⟨k, hk, e, hu⟩ := mem_usedB hx
  exact ⟨b, k, hb, hk, e, hu⟩

/-- The chip's pages by their numbers. -/
def mOf (bs : List Bk) : CC := ⟨bs.length, fun b => (bs[b]?.map (·.wear)).getD 0, fun b k => pagesF ((bs[b]?.map (·.pages)).getD []) k⟩
theorem mOf_page {bs : List Bk} {b : Nat} {x : Bk} (hb : bs[b]? = some x) {k : Nat} {p : Pg} (hp : x.pages[k]? = some p) : (mOf bs).page b k = p := by
  simp [mOf, hb, pagesF, hp]
theorem usedB_congr {m m' : CC} {b : Nat} (h : ∀ k, k < 4 → m.page b k = m'.page b k) {k : Nat} (hk : k ≤ 4) : usedB m b k = usedB m' b k := by
  induction k with
  | zero => rfl
  | succ k ih => rw [usedB_succ, usedB_succ, ih (by omega), h k (by omega)]
theorem usedAll_congr {m m' : CC} {n : Nat} (h : ∀ b k, b < n → k < 4 → m.page b k = m'.page b k) : usedAll m n = usedAll m' n := by
  induction n with
  | zero => rfl
  | succ n ih => rw [usedAll_succ, usedAll_succ, ih (fun b k hb hk => h b k (by omega) hk), usedB_congr (fun k hk => h n k (by omega) hk) (Nat.le_refl _)]

/-- The used pages of a chip with their places. -/
def usedOf (bs : List Bk) : List (Int × Pg) := usedAll (mOf bs) bs.length
theorem usedOf_cc {m : CC} {bs : List Bk} (h : ccBs m bs.length = bs) : usedAll m bs.length = usedOf bs := by
  refine usedAll_congr (fun b k hb hk => ?_)
  have e := ccBs_at m hb
  rw [h] at e
  exact (mOf_page e (ccPs_at m b hk)).symm

/-- How many logs have room. -/
def roomOf (bs : List Bk) : Nat := 4 * (bs.length - 3)
def Fits (bs : List Bk) : Prop := ∀ x ∈ usedOf bs, x.2.log < (roomOf bs : Int)
/-- What the map of a right chip is: its newest pages, or none. -/
def MapIs (bs : List Bk) (r : Bool) (L : List Int) : Prop := (r = true ↔ Fits bs) ∧ L = if r then placesOf (usedOf bs) (roomOf bs) else []
theorem MapIs.one {bs : List Bk} {r s : Bool} {L M : List Int} (h : MapIs bs r L) (k : MapIs bs s M) : r = s ∧ L = M := by
  have e : r = s := by
    have := h.1.trans k.1.symm
    cases r <;> cases s <;> simp_all
  subst e
  exact ⟨rfl, h.2.trans k.2.symm⟩
theorem MapIs.length {bs : List Bk} {r : Bool} {L : List Int} (h : MapIs bs r L) (hc : bs.length ≤ 12) : L.length ≤ 36 := by
  rw [h.2]
  split
  · rw [placesOf_length]; unfold roomOf; omega
  · simp

/-- What is known of a used page of a right chip. -/
theorem ChipOk.usedRight {bs : List Bk} (h : ChipOk bs) {x : Int × Pg} (hx : x ∈ usedOf bs) : 0 ≤ x.2.log ∧ x.2.log ≤ 39 ∧ 1 ≤ x.2.seq ∧ x.2.seq ≤ 1000000000 ∧ x.2.data.size = 4 ∧
    ∃ (b k : Nat) (y : Bk), bs[b]? = some y ∧ y.pages[k]? = some x.2 ∧ k < 4 ∧ x.1 = (b : Int) * 4 + (k : Int) ∧ x.2.used = true := by
  obtain ⟨b, k, hb, hk, e, hu⟩ := mem_usedAll hx
  obtain ⟨y, hy⟩ := getElem?_ex (l := bs) (k := b) hb
  have hB := h.block y (List.mem_of_getElem? hy)
  obtain ⟨p, hp⟩ := getElem?_ex (l := y.pages) (k := k) (by have := hB.four; omega)
  rw [mOf_page hy hp] at e hu
  subst e
  have hok := hB.page k p hp
  simp only [pgOk, hu, if_true, rightUsed, Bool.and_eq_true, decide_eq_true_eq, Bool.true_and] at hok
  obtain ⟨⟨⟨h1, h2⟩, h3, h4⟩, h5⟩ := hok
  exact ⟨h1, h2, h3, h4, h5, b, k, y, hy, hp, hk, rfl, hu⟩
end Go.Proofs.Ytaelbmilicfkhaa
