/- 7 texts in one. -/
import Derived.Test.YtalgkmellbamgaaGreatG04
import Derived.Test.YtalgkmellbamgaaGreatG03
import Derived.Test.YtalgkmellbamgaaGreatG05
import Derived.WalkKit
import Derived.Outline
import Derived.Deep.RegionHeld3
import Derived.Deep.AppendLies
import Derived.Test.YtalgkmellbamgaaGreatG01
import Derived.Test.YtalgkmellbamgaaGreatG02

/- What a right member is, as plain lists say it. No program is named here. -/
namespace Go.Proofs.YtalgkmellbamgaaGreat
open Go.RowKit
set_option linter.unusedVariables false
set_option linter.unusedSimpArgs false

/-- The greatest number so far, and its place. -/
def topStep (cur : Int × Int) (x : Int × Pg) : Int × Int := if cur.1 < x.2.seq then (x.2.seq, x.1) else cur
def topOf (xs : List (Int × Pg)) : Int × Int := xs.foldl topStep (0, 0)
theorem topOf_snoc (xs : List (Int × Pg)) (x : Int × Pg) : topOf (xs ++ [x]) = topStep (topOf xs) x := by simp [topOf]
theorem topOf_bounds (xs : List (Int × Pg)) (h : ∀ x ∈ xs, x.2.seq ≤ 1000000000) : 0 ≤ (topOf xs).1 ∧ (topOf xs).1 ≤ 1000000000 := by
  suffices H : ∀ (xs : List (Int × Pg)) (c : Int × Int), 0 ≤ c.1 → c.1 ≤ 1000000000 → (∀ x ∈ xs, x.2.seq ≤ 1000000000) → 0 ≤ (xs.foldl topStep c).1 ∧ (xs.foldl topStep c).1 ≤ 1000000000 from H xs (0, 0) (Int.le_refl _) (by decide) h
  intro xs
  induction xs with
  | nil => intro c h0 h1 _; exact ⟨h0, h1⟩
  | cons x xs ih =>
    intro c h0 h1 hx
    have h2 := hx x (by simp)
    simp only [List.foldl_cons]
    refine ih _ ?_ ?_ (fun y hy => hx y (by simp [hy]))
    · unfold topStep; split <;> (try simp) <;> omega
    · unfold topStep; split <;> (try simp) <;> omega
def topSeq (bs : List Bk) : Int := (topOf (usedOf bs)).1
theorem ChipOk.top {bs : List Bk} (h : ChipOk bs) : 0 ≤ topSeq bs ∧ topSeq bs ≤ 1000000000 :=
  topOf_bounds _ (fun x hx => (h.usedRight hx).2.2.2.1)

def freeB (b : Bk) : Bool := !pu b 0
def fullB (b : Bk) : Bool := pu b 0 && pu b 1 && pu b 2 && pu b 3
/-- Begun, and not full. -/
def halfB (b : Bk) : Bool := pu b 0 && !fullB b
theorem NextIs.kinds {b : Bk} {r : Int} (h : NextIs (pu b) 4 r) : decide (r = 0) = freeB b ∧ decide (0 < r) = halfB b ∧ decide (r < 0) = fullB b := by
  unfold halfB freeB fullB
  rcases h with ⟨k, hk, rfl, h1, h2⟩ | ⟨rfl, h1⟩
  · have h4 : k = 0 ∨ k = 1 ∨ k = 2 ∨ k = 3 := by omega
    rcases h4 with rfl | rfl | rfl | rfl
    · simp [h1]
    · have := h2 0 (by omega); simp [h1, this]
    · have a0 := h2 0 (by omega); have a1 := h2 1 (by omega); simp [h1, a0, a1]
    · have a0 := h2 0 (by omega); have a1 := h2 1 (by omega); have a2 := h2 2 (by omega); simp [h1, a0, a1, a2]
  · have a0 := h1 0 (by omega); have a1 := h1 1 (by omega); have a2 := h1 2 (by omega); have a3 := h1 3 (by omega)
    simp [a0, a1, a2, a3]

/-- No block of the first k but the open one is begun only; one of them is free. -/
def noHalf (bs : List Bk) (o : Int) (k : Nat) : Prop := ∀ i x, i < k → bs[i]? = some x → (i : Int) ≠ o → halfB x = false
def oneFree (bs : List Bk) (o : Int) (k : Nat) : Prop := ∃ i x, i < k ∧ bs[i]? = some x ∧ (i : Int) ≠ o ∧ freeB x = true
def Settled (bs : List Bk) (o : Int) : Prop := noHalf bs o bs.length ∧ oneFree bs o bs.length
theorem noHalf_succ {bs : List Bk} {o : Int} {k : Nat} {x : Bk} (hx : bs[k]? = some x) : noHalf bs o (k + 1) ↔ noHalf bs o k ∧ ((k : Int) ≠ o → halfB x = false) := by
  constructor
  · intro h
    exact ⟨fun i y hi hy hn => h i y (by omega) hy hn, fun hn => h k x (by omega) hx hn⟩
  · rintro ⟨h1, h2⟩ i y hi hy hn
    by_cases e : i = k
    · subst e; rw [hx] at hy; cases hy; exact h2 hn
    · exact h1 i y (by omega) hy hn
theorem oneFree_succ {bs : List Bk} {o : Int} {k : Nat} {x : Bk} (hx : bs[k]? = some x) : oneFree bs o (k + 1) ↔ oneFree bs o k ∨ ((k : Int) ≠ o ∧ freeB x = true) := by
  constructor
  · rintro ⟨i, y, hi, hy, hn, hf⟩
    by_cases e : i = k
    · subst e; rw [hx] at hy; cases hy; exact .inr ⟨hn, hf⟩
    · exact .inl ⟨i, y, by omega, hy, hn, hf⟩
  · rintro (⟨i, y, hi, hy, hn, hf⟩ | ⟨hn, hf⟩)
    · exact ⟨i, y, by omega, hy, hn, hf⟩
    · exact ⟨k, x, by omega, hx, hn, hf⟩

/-- A right member. -/
structure FtlOk (bs : List Bk) (L : List Int) (seq o : Int) : Prop where
  chip : ChipOk bs
  fits : Fits bs
  map : L = placesOf (usedOf bs) (roomOf bs)
  seq : topSeq bs + 1 ≤ seq ∧ seq ≤ 1000000000
  opn : 0 ≤ o ∧ o ≤ (bs.length : Int) - 1
  settled : Settled bs o
end Go.Proofs.YtalgkmellbamgaaGreat

/- How many pages of a block are the newest of their log, as plain lists say it. No program is named here. -/
namespace Go.Proofs.YtalgkmellbamgaaGreat
open Go.RowKit
set_option linter.unusedVariables false
set_option linter.unusedSimpArgs false

def hit (blk x : Int) : Bool := decide (0 ≤ x) && decide (x / 4 = blk)
def validIn (L : List Int) (blk : Int) : Nat := (L.filter (hit blk)).length
theorem validIn_nil (blk : Int) : validIn [] blk = 0 := rfl
theorem validIn_snoc (L : List Int) (x blk : Int) : validIn (L ++ [x]) blk = validIn L blk + if hit blk x = true then 1 else 0 := by
  unfold validIn
  rw [List.filter_append, List.length_append]
  cases h : hit blk x <;> simp [h]
theorem take_succ_of {α : Type} {L : List α} {k : Nat} {x : α} (hx : L[k]? = some x) : L.take (k + 1) = L.take k ++ [x] := by rw [List.take_add_one, hx]; rfl
theorem validIn_take {L : List Int} {k : Nat} {x : Int} (hx : L[k]? = some x) (blk : Int) : validIn (L.take (k + 1)) blk = validIn (L.take k) blk + if hit blk x = true then 1 else 0 := by
  rw [take_succ_of hx, validIn_snoc]
theorem validIn_le (L : List Int) (blk : Int) : validIn L blk ≤ L.length := List.length_filter_le _ _
/-- The places that are named. -/
def namedOf (L : List Int) : List Int := L.filter fun x => decide (x ≠ -1)
theorem namedOf_take {L : List Int} {k : Nat} {x : Int} (hx : L[k]? = some x) : namedOf (L.take (k + 1)) = namedOf (L.take k) ++ if x = -1 then [] else [x] := by
  rw [take_succ_of hx]
  unfold namedOf
  rw [List.filter_append]
  by_cases e : x = -1 <;> simp [e]
theorem namedOf_length (L : List Int) : (namedOf L).length ≤ L.length := List.length_filter_le _ _
theorem namedOf_prefix (L : List Int) (k : Nat) : namedOf (L.take k) <+: namedOf L := by
  unfold namedOf
  exact List.IsPrefix.filter _ (List.take_prefix k L)
theorem validIn_named (L : List Int) (blk : Int) : validIn (namedOf L) blk = validIn L blk := by
  unfold validIn namedOf
  rw [List.filter_filter]
  congr 1
  refine List.filter_congr (fun x _ => ?_)
  by_cases e : x = -1
  · subst e; simp [hit]
  · simp [e]

theorem FtlOk.places {bs : List Bk} {L : List Int} {seq o : Int} (h : FtlOk bs L seq o) : ∀ x ∈ L, x = -1 ∨ (0 ≤ x ∧ x < 4 * (bs.length : Int)) := by
  intro x hx
  rw [h.map] at hx
  unfold placesOf at hx
  simp only [List.mem_map, List.mem_range] at hx
  obtain ⟨i, hi, rfl⟩ := hx
  cases e : newestAt (usedOf bs) (i : Int) with
  | none => left; rfl
  | some y =>
    right
    obtain ⟨hm, _⟩ := newestAt_mem e
    obtain ⟨_, _, _, _, _, b, k, z, hb, _, hk, hy, _⟩ := h.chip.usedRight hm
    have hlt := (List.getElem?_eq_some_iff.1 hb).1
    simp only [placeIn]
    rw [hy]
    omega
theorem FtlOk.len {bs : List Bk} {L : List Int} {seq o : Int} (h : FtlOk bs L seq o) : L.length = 4 * (bs.length - 3) := by
  rw [h.map, placesOf_length]; rfl
theorem FtlOk.len36 {bs : List Bk} {L : List Int} {seq o : Int} (h : FtlOk bs L seq o) : L.length ≤ 36 := by
  have := h.len; have := h.chip.count; omega

/-- What ValidOf answers. -/
def ValidIs (bs : List Bk) (L : List Int) (seq o blk r : Int) : Prop :=
  ((FtlOk bs L seq o ∧ 0 ≤ blk ∧ blk ≤ (bs.length : Int) - 1) ∧ r = (validIn L blk : Int)) ∨ (¬ (FtlOk bs L seq o ∧ 0 ≤ blk ∧ blk ≤ (bs.length : Int) - 1) ∧ r = -1)
theorem ValidIs.one {bs : List Bk} {L : List Int} {seq o blk r s : Int} (h : ValidIs bs L seq o blk r) (k : ValidIs bs L seq o blk s) : r = s := by
  rcases h with ⟨h1, rfl⟩ | ⟨h1, rfl⟩
  · rcases k with ⟨_, rfl⟩ | ⟨k1, _⟩
    · rfl
    · exact absurd h1 k1
  · rcases k with ⟨k1, _⟩ | ⟨_, rfl⟩
    · exact absurd k1 h1
    · rfl
end Go.Proofs.YtalgkmellbamgaaGreat

/- A member is copied: the model's l3Copy. -/
namespace Go.Proofs.YtalgkmellbamgaaGreat
open Go.RowKit
set_option linter.unusedVariables false
set_option linter.unusedSimpArgs false

theorem ownsRow_grown {w w' : World} {base : Nat} {e : TypeId} {size : Nat} {v : Value} {n : Nat} {xs : List Value} (h : w.ownsRow base e size v n xs) {P : Nat} (hg : w.grownBy w' (some P)) (hP : P < base) : w'.ownsRow base e size v n xs := by
  refine World.ownsRow.kept h hg ?_
  cases hv : v.ownBlock with
  | none => exact Or.inl rfl
  | some k => exact Or.inr (by have := (h.lt k hv).1; simp; omega)
theorem SpecBlocks.grown {w w' : World} {tB tP : TypeId} {base : Nat} {v : Value} {Q C : Nat → Nat} {bs : List Bk} (h : SpecBlocks w tB tP base v Q C bs) {P : Nat} (hg : w.grownBy w' (some P)) (hP : P < base) : SpecBlocks w' tB tP base v Q C bs :=
  ⟨ownsRow_grown h.row hg hP, fun i b hb => ownsRow_grown (h.pages i b hb) hg hP, h.ne, h.inj⟩

set_option maxRecDepth 100000 in
set_option maxHeartbeats 4000000 in
theorem l3Copy_any (a : Option Addr) (c : Nat) (bs : List Bk) (n : Nat) (hl : bs.length = n) (ma : Option Addr) (mc : Nat) (L : List Int) (mn : Nat) (hL : L.length = mn) (seq o : Int) (hok : FtlOk bs L seq o) (w : World) (h : BlocksAt w a bs) (hI : IntsAt w ma L) :
    Calls Tryz.prog 38 #[.agg #[.slice a n c, .slice ma mn mc, .int .i64 seq, .int .i64 o]] w fun e w' => ∃ a2 c2 ma2 mc2, e = .returned (.agg #[.slice a2 n c2, .slice ma2 mn mc2, .int .i64 seq, .int .i64 o]) ∧ BlocksAt w' a2 bs ∧ IntsAt w' ma2 L ∧ MineFrom w' ma2 mn w.heap.size ∧ Below w.heap.size w w' := by
  obtain ⟨i0, hi, hz0, hz1, hz2⟩ := info_parts infoInt64
  have hlen := hok.len
  have hc := hok.chip.count
  have hm4 : 4 ≤ mn ∧ mn ≤ 36 := by omega
  obtain ⟨x, hx⟩ := getElem?_ex (l := L) (k := 0) (by omega)
  obtain ⟨b1, o1, rfl, _⟩ := hI 0 x hx
  have HCH := hide hok.chip
  have HA := hide h
  have HI := hide hI
  have HL := hide hL
  have HLB := hide hl
  obtain ⟨X, hX⟩ : ∃ X, X = ints L := ⟨_, rfl⟩
  have hXl : X.length = mn * 1 := by rw [hX, ints_length]; omega
  have hX1 : ∀ u ∈ X, u.oneCell' = true := fun u hu => by rw [hX] at hu; simp [ints] at hu; obtain ⟨y, _, rfl⟩ := hu; rfl
  have HXN : Hid (∀ W, IntsAt W (some ⟨b1, o1, none⟩) L → ∀ j u, X[j]? = some u → W.cell? ((⟨b1, o1, none⟩ : Addr).add j) = some u) := fun W hW j u hu => by
    rw [hX] at hu
    simp only [ints, List.getElem?_map, Option.map_eq_some_iff] at hu
    obtain ⟨y, hy, rfl⟩ := hu
    obtain ⟨b2, o2, e2, hcy⟩ := hW j y hy
    cases e2
    rw [Go.WideShapes.add_plain]
    exact hcy
  have HX := hide hX
  clear hok h hI hx hL hl hX hlen hc
  go_enter Tryz.func38, Tryz.ntmps38
  go_wp2_with fail
  obtain ⟨w0, hw0⟩ : ∃ w0, w0 = (w.alloc (.cells #[.slice a n c, .slice (some ⟨b1, o1, none⟩) mn mc, .int .i64 seq, .int .i64 o] 29)).alloc (.cells #[.slice none 0 0, .slice none 0 0, .int .i64 0, .int .i64 0] 29) := ⟨_, rfl⟩
  have hs0 : w0.heap.size = w.heap.size + 1 + 1 := by rw [hw0]; simp
  have hB0 : Below w.heap.size w w0 := by rw [hw0]; exact ((Below.refl _ w).alloc (Nat.le_refl _) _).alloc (by simp) _
  have hx0 : ∀ i, w0.cell? ⟨w.heap.size, i, none⟩ = (#[Value.slice a n c, .slice (some ⟨b1, o1, none⟩) mn mc, .int .i64 seq, .int .i64 o])[i]? := fun i => by
    rw [hw0, cell_alloc_lt _ _ _ _ (by simp)]
    simp
  have hr0 : w0.heap[w.heap.size + 1]? = some (.cells #[.slice none 0 0, .slice none 0 0, .int .i64 0, .int .i64 0] 29 (0, 0)) := by rw [hw0]; exact heap_alloc2_new _ _ _
  rw [← hw0]
  have c0 := hx0 0
  have c1 := hx0 1
  have c2 := hx0 2
  have c3 := hx0 3
  simp at c0 c1 c2 c3
  have HA0 := hide ((unhide HA).below hB0 (Nat.le_refl _))
  have HI0 := hide ((unhide HI).below hB0 (Nat.le_refl _))
  have HS0 := hide hs0
  have hsl : w.heap.size + 1 < w0.heap.size := by omega
  have HLC : Hid (∀ W, Below w0.heap.size w0 W → Calls Tryz.prog 80 #[.agg #[.slice a n c]] W fun e w' => ∃ a2 c2 Q C, e = .returned (.agg #[.slice a2 n c2]) ∧ SpecBlocks w' 120 59 (W.heap.size + 3) (.slice a2 n c2) Q C bs ∧ Below W.heap.size W w') := fun W hW =>
    (l1Copy_any a c bs n (unhide HLB) (unhide HCH) W ((unhide HA0).below hW (Nat.le_refl _))).mono fun e w' ⟨v, Q, C, he, hS, hB⟩ => by
      obtain ⟨a2, c2, rfl, hA2⟩ := hS.form
      rw [unhide HLB] at he hS
      exact ⟨a2, c2, Q, C, he, hS, hB⟩
  have HBD : Hid (Below w0.heap.size w0 w0.drew) := (Below.refl _ _).drew
  have HBL : Hid (Below w0.heap.size w0 (w0.alloc (.cells #[] 2)).drew) := ((Below.refl w0.heap.size w0).alloc (Nat.le_refl _) _).drew
  have HZL : Hid (∀ W : World, w0.heap.size ≤ W.heap.size → (W.alloc (.cells #[] 2)).ownsRow w0.heap.size 2 1 (.slice (some ⟨W.heap.size, 0, none⟩) 0 0) 0 []) := fun W hW => by
    have := World.ownsRow_lit (base := w0.heap.size) (e := 2) (size := 1) W #[] 0 hW (by unfold maxLen; omega) rfl
    simpa using this
  have HZR : Hid (∀ W, Below w0.heap.size w0 W → (∀ i, W.cell? ⟨w.heap.size + 1, i, none⟩ = (#[Value.slice none 0 0, .slice none 0 0, .int .i64 0, .int .i64 0])[i]?) ∧ ∀ i, W.frozen? ⟨w.heap.size + 1, i, none⟩ = false) := fun W hW => by
    have hr := (hW.block (w.heap.size + 1) hsl).trans hr0
    exact ⟨fun i => cell_of_row _ _ i _ _ _ hr, fun i => frozen_of_row _ _ i _ _ hr⟩
  have HZD : Hid ((w0.alloc (.cells #[] 2)).drew.ownsRow w0.heap.size 2 1 (.slice (some ⟨w0.heap.size, 0, none⟩) 0 0) 0 []) := unhide HZL w0 (Nat.le_refl _)
  clear hw0 hx0 hs0 hr0
  go_region_held3 (fun W => ∀ b o, b < w.heap.size + 1 → W.cell? ⟨b, o, none⟩ = w0.cell? ⟨b, o, none⟩)
    (first
      | (intro b o hb; rw [World.cell?_setCell_other _ _ _ _ (by simp <;> omega), World.cell?_setCell_other _ _ _ _ (by simp <;> omega), World.cell?_setCell_other _ _ _ _ (by simp <;> omega), World.cell?_setCell_other _ _ _ _ (by simp <;> omega)]; exact (unhide HBF).cell (p := ⟨b, o, none⟩) (by show b < _; omega))
      | (intro b o hb; rw [cell_drew]; done)
      | (intro b o hb; rw [cell_drew, cell_alloc_lt _ _ _ _ (by omega)])
      | (intro b o hb; rw [cell_alloc_lt _ _ _ _ (by omega)]; exact (unhide HBC).cell (p := ⟨b, o, none⟩) (by show b < _; omega))
      | (intro b o hb; exact (unhide HBF).cell (p := ⟨b, o, none⟩) (by show b < _; omega))
      | (intro b o hb; exact (unhide HBC).cell (p := ⟨b, o, none⟩) (by show b < _; omega)))
    (first
      | (go_at_call 80
         refine (unhide HLC _ (unhide HBD)).mono ?_
         rintro e wC ⟨a2, c2, Q, C, rfl, hSC, hBC⟩
         have HBC := hide ((unhide HBD).trans hBC)
         have hsC := (unhide HBC).size
         have HRA := hide (unhide HZL wC hsC)
         have HWA := hide ((unhide HBC).alloc (unhide HBC).size (.cells #[] 2))
         have HSE : Hid (∀ wF, (wC.alloc (.cells #[] 2)).grownBy wF (some wC.heap.size) → SpecBlocks wF 120 59 (w0.heap.size + 3) (.slice a2 n c2) Q C bs) := fun wF hg => hSC.kept (Below.grown ((Below.refl wC.heap.size wC).alloc (Nat.le_refl _) _) hg (by simp) (fun j e => by cases e; exact Nat.le_refl _))
         clear hSC hBC)
      | (go_at_call 80
         refine (unhide HLC _ (unhide HBL)).mono ?_
         rintro e wC ⟨a2, c2, Q, C, rfl, hSC, hBC⟩
         have HBC := hide ((unhide HBL).trans (hBC.mono (unhide HBL).size))
         have hsC := (unhide HBC).size
         have HSE : Hid (∀ wF, wC.grownBy wF (some w0.heap.size) → SpecBlocks wF 120 59 ((w0.alloc (.cells #[] 2)).drew.heap.size + 3) (.slice a2 n c2) Q C bs) := fun wF hg => hSC.grown hg (by show w0.heap.size < (w0.alloc (.cells #[] 2)).heap.size + 3; simp; omega)
         have HRA : Hid (wC.ownsRow w0.heap.size 2 1 (.slice (some ⟨w0.heap.size, 0, none⟩) 0 0) 0 []) := OwnInts.kept (L := []) (unhide HZD) hBC
         have HWA := HBC
         clear hSC hBC)
      | (go_at_call 80
         refine (unhide HLC _ (unhide HBA)).mono ?_
         rintro e wF ⟨a2, c2, Q, C, rfl, hSC, hBC⟩
         have HBF := hide ((unhide HBA).trans (hBC.mono (unhide HBA).size))
         have HAF : Hid (∃ base, w.heap.size + 1 < base ∧ SpecBlocks wF 120 59 base (.slice a2 n c2) Q C bs) := ⟨_, by have := (unhide HBA).size; omega, hSC⟩
         have HIF := hide ((unhide HIA).kept hBC)
         obtain ⟨hzc, hzf⟩ := unhide HZR wF (unhide HBF)
         have z0 := hzc 0
         have z1 := hzc 1
         have z2 := hzc 2
         have z3 := hzc 3
         simp at z0 z1 z2 z3
         have f0 := hzf 0
         have f1 := hzf 1
         have f2 := hzf 2
         have f3 := hzf 3
         clear hSC hBC hzc hzf hX1 hXl HXN hi hz0 hz1 hz2 HLC HZL HZR)
      | (refine step_append_lies _ rfl (.tmp 6) (.tmp 8) 27 rfl w0.heap.size 2 i0 _ 1 8 Tryz.underlying27 hi hz0 hz1 hz2 rfl (by decide) _ 0 [] (by simp [Act.eval]) (unhide HZD) ⟨b1, o1, none⟩ mn mc X (by simp [Act.eval]) hXl (unhide HXN _ ((unhide HI0).below (unhide HBL) (Nat.le_refl _))) hX1 (by omega) (by unfold maxLen; omega) (by omega) (unhide HBL).size _ rfl ?_
         intro g1 cap wA hown hgrow hat hlt1
         have HIA : Hid (OwnInts wA 2 w0.heap.size (.slice (some ⟨g1, 0, none⟩) (0 + mn) cap) L) := by refine hide ?_; unfold OwnInts; rw [unhide HL, ← unhide HX]; simpa using hown
         have HBA : Hid (Below w0.heap.size w0 wA) := Below.grown (unhide HBL) hgrow (by simp) (fun j e => by simp [Value.ownBlock] at e; omega)
         have HBC := HBA
         clear hown hgrow hat)
      | (refine step_append_lies _ rfl (.tmp 6) (.tmp 8) 27 rfl w0.heap.size 2 i0 _ 1 8 Tryz.underlying27 hi hz0 hz1 hz2 rfl (by decide) _ 0 [] (by simp [Act.eval]) (unhide HRA) ⟨b1, o1, none⟩ mn mc X (by simp [Act.eval]) hXl (unhide HXN _ ((unhide HI0).below (unhide HWA) (Nat.le_refl _))) hX1 (by omega) (by unfold maxLen; omega) (by omega) (unhide HWA).size _ rfl ?_
         intro g1 cap wF hown hgrow hat hlt1
         have HIF : Hid (OwnInts wF 2 w0.heap.size (.slice (some ⟨g1, 0, none⟩) (0 + mn) cap) L) := by refine hide ?_; unfold OwnInts; rw [unhide HL, ← unhide HX]; simpa using hown
         have HBF : Hid (Below w0.heap.size w0 wF) := Below.grown (unhide HWA) hgrow (by have := (unhide HWA).size; omega) (fun j e => ((unhide HRA).lt j e).1)
         have HAF : Hid (∃ base, w.heap.size + 1 < base ∧ SpecBlocks wF 120 59 base (.slice a2 n c2) Q C bs) := ⟨_, by first | omega | (show _ < (w0.alloc (.cells #[] 2)).heap.size + 3; simp; omega), unhide HSE wF hgrow⟩
         obtain ⟨hzc, hzf⟩ := unhide HZR wF (unhide HBF)
         have z0 := hzc 0
         have z1 := hzc 1
         have z2 := hzc 2
         have z3 := hzc 3
         simp at z0 z1 z2 z3
         have f0 := hzf 0
         have f1 := hzf 1
         have f2 := hzf 2
         have f3 := hzf 3
         clear hown hgrow hat hzc hzf hX1 hXl HXN hi hz0 hz1 hz2 HLC HZL HZR))
  all_goals (
    obtain ⟨base, hbase, hSF⟩ := unhide HAF
    have hB5 := (((((unhide HBF).mono (show w.heap.size + 1 ≤ w0.heap.size by omega)).setCell (show w.heap.size + 1 ≤ (⟨w.heap.size + 1, 0, none⟩ : Addr).block from Nat.le_refl _) (.slice a2 n c2)).setCell (show w.heap.size + 1 ≤ (⟨w.heap.size + 1, 1, none⟩ : Addr).block from Nat.le_refl _) (.slice (some ⟨g1, 0, none⟩) mn cap)).setCell (show w.heap.size + 1 ≤ (⟨w.heap.size + 1, 2, none⟩ : Addr).block from Nat.le_refl _) (.int .i64 seq)).setCell (show w.heap.size + 1 ≤ (⟨w.heap.size + 1, 3, none⟩ : Addr).block from Nat.le_refl _) (.int .i64 o)
    have hS5 := (((hSF.setLow (a := ⟨w.heap.size + 1, 0, none⟩) hbase (.slice a2 n c2)).setLow (a := ⟨w.heap.size + 1, 1, none⟩) hbase (.slice (some ⟨g1, 0, none⟩) mn cap)).setLow (a := ⟨w.heap.size + 1, 2, none⟩) hbase (.int .i64 seq)).setLow (a := ⟨w.heap.size + 1, 3, none⟩) hbase (.int .i64 o)
    have hI5 := ownsRow_setCell_below (ownsRow_setCell_below (ownsRow_setCell_below (ownsRow_setCell_below (unhide HIF) (a := ⟨w.heap.size + 1, 0, none⟩) hsl (.slice a2 n c2)) (a := ⟨w.heap.size + 1, 1, none⟩) hsl (.slice (some ⟨g1, 0, none⟩) mn cap)) (a := ⟨w.heap.size + 1, 2, none⟩) hsl (.int .i64 seq)) (a := ⟨w.heap.size + 1, 3, none⟩) hsl (.int .i64 o)
    obtain ⟨W5, hW5⟩ : ∃ W5, W5 = (((wF.setCell ⟨w.heap.size + 1, 0, none⟩ (.slice a2 n c2)).setCell ⟨w.heap.size + 1, 1, none⟩ (.slice (some ⟨g1, 0, none⟩) mn cap)).setCell ⟨w.heap.size + 1, 2, none⟩ (.int .i64 seq)).setCell ⟨w.heap.size + 1, 3, none⟩ (.int .i64 o) := ⟨_, rfl⟩
    have y0 : W5.cell? ⟨w.heap.size + 1, 0, none⟩ = some (.slice a2 n c2) := by rw [hW5, World.cell?_setCell_other _ _ _ _ (by simp), World.cell?_setCell_other _ _ _ _ (by simp), World.cell?_setCell_other _ _ _ _ (by simp), World.cell?_setCell_same' _ _ _ (by rw [z0]; rfl)]
    have y1 : W5.cell? ⟨w.heap.size + 1, 1, none⟩ = some (.slice (some ⟨g1, 0, none⟩) mn cap) := by rw [hW5, World.cell?_setCell_other _ _ _ _ (by simp), World.cell?_setCell_other _ _ _ _ (by simp), World.cell?_setCell_same' _ _ _ (by rw [World.cell?_setCell_other _ _ _ _ (by simp), z1]; rfl)]
    have y2 : W5.cell? ⟨w.heap.size + 1, 2, none⟩ = some (.int .i64 seq) := by rw [hW5, World.cell?_setCell_other _ _ _ _ (by simp), World.cell?_setCell_same' _ _ _ (by rw [World.cell?_setCell_other _ _ _ _ (by simp), World.cell?_setCell_other _ _ _ _ (by simp), z2]; rfl)]
    have y3 : W5.cell? ⟨w.heap.size + 1, 3, none⟩ = some (.int .i64 o) := by rw [hW5, World.cell?_setCell_same' _ _ _ (by rw [World.cell?_setCell_other _ _ _ _ (by simp), World.cell?_setCell_other _ _ _ _ (by simp), World.cell?_setCell_other _ _ _ _ (by simp), z3]; rfl)]
    rw [← hW5] at hB5 hS5 hI5 ⊢
    have hA5 : BlocksAt W5 a2 bs := by
      obtain ⟨a9, c9, e9, h9⟩ := hS5.form
      injection e9 with e1 _ _
      rw [e1]
      exact h9
    have hI6 : IntsAt W5 (some ⟨g1, 0, none⟩) L ∧ MineFrom W5 (some ⟨g1, 0, none⟩) mn w.heap.size := by
      obtain ⟨a9, c9, e9, h9, h8⟩ := OwnInts.form (L := L) hI5
      injection e9 with e1 _ _
      rw [unhide HL] at h8
      rw [e1]
      refine ⟨h9, ?_⟩
      rcases h8 with h8 | ⟨g, q1, q2, q3⟩
      · exact .inl h8
      · exact .inr ⟨g, q1, by omega, q3⟩
    have hWW : Below w.heap.size w W5 := hB0.trans (hB5.mono (by omega))
    have HA5 := hide hA5
    have HI6 := hide hI6
    clear hA5 hI6 hI5 hS5 hB5 hSF hW5 z0 z1 z2 z3 f0 f1 f2 f3
    go_wp2
    exact bodyPost_ret (v := .agg #[.slice a2 n c2, .slice (some ⟨g1, 0, none⟩) mn cap, .int .i64 seq, .int .i64 o]) (by simp [results, Tryz.results38, go_sem, y0, y1, y2, y3]) rfl ⟨a2, c2, _, cap, rfl, unhide HA5, (unhide HI6).1, (unhide HI6).2, hWW⟩)
end Go.Proofs.YtalgkmellbamgaaGreat

/- The block that is emptied, as plain lists say it. No program is named here. -/
namespace Go.Proofs.YtalgkmellbamgaaGreat
open Go.RowKit
set_option linter.unusedVariables false
set_option linter.unusedSimpArgs false

def wearAt (bs : List Bk) (i : Int) : Int := (bs[i.toNat]?.map (·.wear)).getD 0
theorem wearAt_of {bs : List Bk} {k : Nat} {x : Bk} (hx : bs[k]? = some x) : wearAt bs (k : Int) = x.wear := by simp [wearAt, hx]
/-- Is block i, of the wear x, to be emptied rather than best? -/
def beats (bs : List Bk) (L : List Int) (best : Int) (i : Int) (x : Int) : Bool :=
  decide (best < 0) || decide (validIn L i < validIn L best) || (decide (validIn L i = validIn L best) && decide (x < wearAt bs best))
theorem beats_neg {bs : List Bk} {L : List Int} {best i x : Int} (h : best < 0) : beats bs L best i x = true := by simp [beats, h]
theorem beats_few {bs : List Bk} {L : List Int} {best i x : Int} (h : validIn L i < validIn L best) : beats bs L best i x = true := by simp [beats, h]
theorem beats_wear {bs : List Bk} {L : List Int} {best i x y : Int} (h : validIn L i = validIn L best) (hy : wearAt bs best = y) (hw : x < y) : beats bs L best i x = true := by simp [beats, h, hy, hw]
theorem beats_worn {bs : List Bk} {L : List Int} {best i x y : Int} (h0 : 0 ≤ best) (h : validIn L i = validIn L best) (hy : wearAt bs best = y) (hw : y ≤ x) : beats bs L best i x = false := by
  have h1 : ¬ best < 0 := by omega
  have h2 : ¬ x < y := by omega
  simp [beats, h, hy, h1, h2]
theorem beats_more {bs : List Bk} {L : List Int} {best i x : Int} (h0 : 0 ≤ best) (h : validIn L best < validIn L i) : beats bs L best i x = false := by
  have h1 : ¬ best < 0 := by omega
  have h2 : ¬ validIn L i < validIn L best := by omega
  have h3 : ¬ validIn L i = validIn L best := by omega
  simp [beats, h1, h2, h3]
def vicStep (bs : List Bk) (L : List Int) (o : Int) (best : Int) (i : Nat) : Int :=
  match bs[i]? with
  | none => best
  | some x => if (i : Int) = o ∨ fullB x = false then best else if beats bs L best (i : Int) x.wear = true then (i : Int) else best
def vicTo (bs : List Bk) (L : List Int) (o : Int) (k : Nat) : Int := (List.range k).foldl (vicStep bs L o) (-1)
theorem vicTo_succ (bs : List Bk) (L : List Int) (o : Int) (k : Nat) : vicTo bs L o (k + 1) = vicStep bs L o (vicTo bs L o k) k := by simp [vicTo, List.range_succ]
theorem vicTo_bounds (bs : List Bk) (L : List Int) (o : Int) (k : Nat) : -1 ≤ vicTo bs L o k ∧ vicTo bs L o k < (k : Int) := by
  induction k with
  | zero => exact ⟨Int.le_refl _, by show (-1 : Int) < 0; decide⟩
  | succ k ih =>
    rw [vicTo_succ]
    unfold vicStep
    split
    · omega
    · split
      · omega
      · split <;> omega
theorem vicTo_skip {bs : List Bk} {L : List Int} {o : Int} {k : Nat} {x : Bk} (hx : bs[k]? = some x) (h : (k : Int) = o ∨ fullB x = false) : vicTo bs L o (k + 1) = vicTo bs L o k := by
  rw [vicTo_succ]; unfold vicStep; rw [hx]; simp only; rw [if_pos h]
theorem vicTo_take {bs : List Bk} {L : List Int} {o : Int} {k : Nat} {x : Bk} (hx : bs[k]? = some x) (h1 : (k : Int) ≠ o) (h2 : fullB x = true) (hb : beats bs L (vicTo bs L o k) (k : Int) x.wear = true) : vicTo bs L o (k + 1) = (k : Int) := by
  rw [vicTo_succ]; unfold vicStep; rw [hx]; simp only; rw [if_neg (by rw [h2]; simp [h1]), if_pos hb]
theorem vicTo_keep {bs : List Bk} {L : List Int} {o : Int} {k : Nat} {x : Bk} (hx : bs[k]? = some x) (h1 : (k : Int) ≠ o) (h2 : fullB x = true) (hb : beats bs L (vicTo bs L o k) (k : Int) x.wear = false) : vicTo bs L o (k + 1) = vicTo bs L o k := by
  rw [vicTo_succ]; unfold vicStep; rw [hx]; simp only; rw [if_neg (by rw [h2]; simp [h1]), if_neg (by rw [hb]; simp)]
/-- The victim of a member. -/
def vicOf (bs : List Bk) (L : List Int) (o : Int) : Int := vicTo bs L o bs.length

/-- What VictimOf answers. -/
def VictimIs (bs : List Bk) (L : List Int) (seq o r : Int) : Prop := (FtlOk bs L seq o ∧ r = vicOf bs L o) ∨ (¬ FtlOk bs L seq o ∧ r = -1)
theorem VictimIs.one {bs : List Bk} {L : List Int} {seq o r s : Int} (h : VictimIs bs L seq o r) (k : VictimIs bs L seq o s) : r = s := by
  rcases h with ⟨h1, rfl⟩ | ⟨h1, rfl⟩
  · rcases k with ⟨_, rfl⟩ | ⟨k1, _⟩
    · rfl
    · exact absurd h1 k1
  · rcases k with ⟨k1, _⟩ | ⟨_, rfl⟩
    · exact absurd k1 h1
    · rfl
end Go.Proofs.YtalgkmellbamgaaGreat

/- Ops as they lie in memory, and rows of them that a call has made itself: no program is named here. -/
namespace Go.Proofs.YtalgkmellbamgaaGreat
open Go.RowKit
set_option linter.unusedVariables false
set_option linter.unusedSimpArgs false

structure Opn where
  kind : Int
  block : Int
  page : Pg

/-- The ops xs lie, one behind the other, from the address a on. -/
def OpsAt (w : World) (a : Option Addr) (xs : List Opn) : Prop :=
  ∀ i x, xs[i]? = some x → ∃ b o, a = some ⟨b, o, none⟩ ∧ w.cell? ⟨b, o + i * 6, none⟩ = some (.int .i64 x.kind) ∧ w.cell? ⟨b, o + i * 6 + 1, none⟩ = some (.int .i64 x.block) ∧ w.cell? ⟨b, o + i * 6 + 2, none⟩ = some (.bool x.page.used) ∧
    w.cell? ⟨b, o + i * 6 + 3, none⟩ = some (.int .i64 x.page.log) ∧ w.cell? ⟨b, o + i * 6 + 4, none⟩ = some (.int .i64 x.page.seq) ∧ w.cell? ⟨b, o + i * 6 + 5, none⟩ = some (.string x.page.data)

theorem OpsAt.below {w w' : World} {a : Option Addr} {xs : List Opn} (h : OpsAt w a xs) {B : Nat} (hb : Below B w w') (hB : w.heap.size ≤ B) : OpsAt w' a xs := by
  intro i x hx
  obtain ⟨b, o, ha, h0, h1, h2, h3, h4, h5⟩ := h i x hx
  have hlt : b < B := Nat.lt_of_lt_of_le (World.block_lt_of_cell? _ _ h0) hB
  have e : ∀ j, w'.cell? ⟨b, j, none⟩ = w.cell? ⟨b, j, none⟩ := fun j => hb.cell (p := ⟨b, j, none⟩) hlt
  exact ⟨b, o, ha, (e _).trans h0, (e _).trans h1, (e _).trans h2, (e _).trans h3, (e _).trans h4, (e _).trans h5⟩

def zeroOp : Opn := ⟨0, 0, zeroPg⟩
def opV (x : Opn) : Nat → Value
  | 0 => .int .i64 x.kind
  | 1 => .int .i64 x.block
  | j + 2 => pgV x.page j
/-- What stands in cell i of a row of ops (zero ops behind the last). -/
def opsF (xs : List Opn) (i : Nat) : Value := opV ((xs[i / 6]?).getD zeroOp) (i % 6)
theorem opsF_at {xs : List Opn} {k : Nat} {x : Opn} (h : xs[k]? = some x) (j : Nat) (hj : j < 6) : opsF xs (k * 6 + j) = opV x j := by
  unfold opsF
  rw [show (k * 6 + j) / 6 = k by omega, show (k * 6 + j) % 6 = j by omega, h]
  rfl
def OwnOps (w : World) (t : TypeId) (b : Nat) (n : Nat) (xs : List Opn) : Prop := w.rowIs b t (n * 6) (opsF xs)
theorem OwnOps.opsAt {w : World} {t : TypeId} {b n : Nat} {xs : List Opn} (h : OwnOps w t b n xs) (hn : xs.length ≤ n) : OpsAt w (some ⟨b, 0, none⟩) xs := by
  intro i x hx
  have hi := (List.getElem?_eq_some_iff.1 hx).1
  have c : ∀ j, j < 6 → w.cell? ⟨b, 0 + i * 6 + j, none⟩ = some (opV x j) := fun j hj => by
    rw [Nat.zero_add, World.rowIs.cell h (i := i * 6 + j) (by omega), opsF_at hx j hj]
  exact ⟨b, 0, rfl, c 0 (by omega), c 1 (by omega), c 2 (by omega), c 3 (by omega), c 4 (by omega), c 5 (by omega)⟩
theorem OwnOps.below {w w' : World} {t : TypeId} {b n : Nat} {xs : List Opn} (h : OwnOps w t b n xs) {B : Nat} (hb : Below B w w') (hB : b < B) : OwnOps w' t b n xs :=
  World.rowIs.of_block h (hb.block b hB)
theorem OwnOps.cells {w : World} {t : TypeId} {b n : Nat} {xs : List Opn} (h : OwnOps w t b n xs) {k : Nat} (hk : k < n) : ∀ j, j < 6 → ∃ v, w.cell? ⟨b, k * 6 + j, none⟩ = some v :=
  fun j hj => ⟨_, World.rowIs.cell h (by omega)⟩
theorem OwnOps.made (w : World) (t : TypeId) (n : Nat) : OwnOps (w.alloc (.cells (madeCells #[.int .i64 0, .int .i64 0, .bool false, .int .i64 0, .int .i64 0, .string ByteArray.empty] (n * 6)) t)) t w.heap.size n [] := by
  refine ⟨_, Go.Deep.blk_alloc_new _ _, size_madeCells _ _, fun i hi => ?_⟩
  simp only [madeCells, Array.getElem?_map, Array.getElem?_range, hi, if_true, Option.map_some]
  unfold opsF
  have h6 : i % 6 = 0 ∨ i % 6 = 1 ∨ i % 6 = 2 ∨ i % 6 = 3 ∨ i % 6 = 4 ∨ i % 6 = 5 := by omega
  rcases h6 with e | e | e | e | e | e <;> simp [e, opV, pgV, zeroOp, zeroPg]
theorem opsF_put {xs : List Opn} {k : Nat} {x : Opn} (ys : List Opn) (hy : ys[k]? = some x) (hother : ∀ i, i ≠ k → ys[i]? = xs[i]?) (j : Nat) :
    (if j = k * 6 + 5 then Value.string x.page.data else if j = k * 6 + 4 then .int .i64 x.page.seq else if j = k * 6 + 3 then .int .i64 x.page.log else if j = k * 6 + 2 then .bool x.page.used else if j = k * 6 + 1 then .int .i64 x.block else if j = k * 6 then .int .i64 x.kind else opsF xs j) = opsF ys j := by
  by_cases e5 : j = k * 6 + 5
  · subst e5; rw [if_pos rfl, opsF_at hy 5 (by omega)]; rfl
  rw [if_neg e5]
  by_cases e4 : j = k * 6 + 4
  · subst e4; rw [if_pos rfl, opsF_at hy 4 (by omega)]; rfl
  rw [if_neg e4]
  by_cases e3 : j = k * 6 + 3
  · subst e3; rw [if_pos rfl, opsF_at hy 3 (by omega)]; rfl
  rw [if_neg e3]
  by_cases e2 : j = k * 6 + 2
  · subst e2; rw [if_pos rfl, opsF_at hy 2 (by omega)]; rfl
  rw [if_neg e2]
  by_cases e1 : j = k * 6 + 1
  · subst e1; rw [if_pos rfl, opsF_at hy 1 (by omega)]; rfl
  rw [if_neg e1]
  by_cases e0 : j = k * 6
  · subst e0; rw [if_pos rfl, show k * 6 = k * 6 + 0 by omega, opsF_at hy 0 (by omega)]; rfl
  rw [if_neg e0]
  unfold opsF
  rw [hother (j / 6) (by omega)]
theorem take_put {xs : List Opn} {k : Nat} {x : Opn} (h : xs[k]? = some x) : (xs.take (k + 1))[k]? = some x ∧ ∀ i, i ≠ k → (xs.take (k + 1))[i]? = (xs.take k)[i]? := by
  refine ⟨by rw [List.getElem?_take, if_pos (by omega)]; exact h, fun i hi => ?_⟩
  rw [List.getElem?_take, List.getElem?_take]
  by_cases hlt : i < k
  · rw [if_pos hlt, if_pos (by omega)]
  · rw [if_neg hlt, if_neg (by omega)]
/-- Six cells are written: op k is x. -/
theorem OwnOps.put {w : World} {t : TypeId} {b n k : Nat} {xs ys : List Opn} {x : Opn} (h : OwnOps w t b n xs) (hy : ys[k]? = some x) (hother : ∀ i, i ≠ k → ys[i]? = xs[i]?) :
    OwnOps ((((((w.setCell ⟨b, k * 6, none⟩ (.int .i64 x.kind)).setCell ⟨b, k * 6 + 1, none⟩ (.int .i64 x.block)).setCell ⟨b, k * 6 + 2, none⟩ (.bool x.page.used)).setCell ⟨b, k * 6 + 3, none⟩ (.int .i64 x.page.log)).setCell ⟨b, k * 6 + 4, none⟩ (.int .i64 x.page.seq)).setCell ⟨b, k * 6 + 5, none⟩ (.string x.page.data)) t b n ys :=
  ((((((World.rowIs.set h (k * 6) _).set (k * 6 + 1) _).set (k * 6 + 2) _).set (k * 6 + 3) _).set (k * 6 + 4) _).set (k * 6 + 5) _).congr (fun j _ => opsF_put ys hy hother j)

/-- No text of an op is longer than a machine's number can say. -/
def OpTexts (xs : List Opn) : Prop := ∀ x ∈ xs, x.page.data.size ≤ 9223372036854775807
end Go.Proofs.YtalgkmellbamgaaGreat

/- The ops of a write, as plain lists say them. No program is named here. -/
namespace Go.Proofs.YtalgkmellbamgaaGreat
open Go.RowKit
set_option linter.unusedVariables false
set_option linter.unusedSimpArgs false

/-- Is the free block f to be taken rather than best? -/
def fresher (bs : List Bk) (but best f : Int) : Bool := decide (f ≠ but) && (decide (best < 0) || decide (wearAt bs f < wearAt bs best))
def freshStep (bs : List Bk) (but best f : Int) : Int := if fresher bs but best f = true then f else best
def freshIn (bs : List Bk) (but : Int) (L : List Int) : Int := L.foldl (freshStep bs but) (-1)
/-- The free block, but one, that is worn the least. -/
def freshOf (bs : List Bk) (but : Int) : Int := freshIn bs but (freeTo bs bs.length)
theorem freshIn_take {bs : List Bk} {but : Int} {L : List Int} {k : Nat} {x : Int} (hx : L[k]? = some x) : freshIn bs but (L.take (k + 1)) = freshStep bs but (freshIn bs but (L.take k)) x := by
  rw [take_succ_of hx]; simp [freshIn]
theorem freshStep_yes {bs : List Bk} {but best f : Int} (h : fresher bs but best f = true) : freshStep bs but best f = f := by simp [freshStep, h]
theorem freshStep_no {bs : List Bk} {but best f : Int} (h : fresher bs but best f = false) : freshStep bs but best f = best := by simp [freshStep, h]
theorem mem_freeTo {bs : List Bk} {k : Nat} {x : Int} (h : x ∈ freeTo bs k) : ∃ i : Nat, i < k ∧ x = (i : Int) ∧ begun bs i = false := by
  unfold freeTo at h
  simp only [List.mem_map, List.mem_filter, List.mem_range] at h
  obtain ⟨i, ⟨hi, hb⟩, rfl⟩ := h
  exact ⟨i, hi, rfl, by simpa using hb⟩
theorem freeTo_mem {bs : List Bk} {k i : Nat} (hi : i < k) (hb : begun bs i = false) : (i : Int) ∈ freeTo bs k := by
  unfold freeTo
  simp only [List.mem_map, List.mem_filter, List.mem_range]
  exact ⟨i, ⟨hi, by simpa using hb⟩, rfl⟩
theorem freeTo_nodup (bs : List Bk) (k : Nat) : (freeTo bs k).Nodup := by
  unfold freeTo
  refine List.Pairwise.map _ (fun a b h => ?_) (List.Pairwise.filter _ List.nodup_range)
  intro e
  exact h (by omega)
theorem freshIn_some (bs : List Bk) (but : Int) (L : List Int) : ∀ b, (L.foldl (freshStep bs but) b = b) ∨ (L.foldl (freshStep bs but) b ∈ L ∧ L.foldl (freshStep bs but) b ≠ but) := by
  induction L with
  | nil => intro b; exact .inl rfl
  | cons x L ih =>
    intro b
    simp only [List.foldl_cons]
    rcases ih (freshStep bs but b x) with h | ⟨h1, h2⟩
    · rw [h]
      by_cases hf : fresher bs but b x = true
      · rw [freshStep_yes hf]
        refine .inr ⟨by simp, ?_⟩
        unfold fresher at hf
        simp at hf
        exact hf.1
      · rw [freshStep_no (by simpa using hf)]; exact .inl rfl
    · exact .inr ⟨by simp [h1], h2⟩
theorem freshIn_neg {bs : List Bk} {but : Int} {L : List Int} (h0 : ∀ x ∈ L, 0 ≤ x) : (freshIn bs but L < 0 ↔ ∀ x ∈ L, x = but) := by
  suffices H : ∀ (L : List Int) (b : Int), (∀ x ∈ L, 0 ≤ x) → (L.foldl (freshStep bs but) b < 0 ↔ b < 0 ∧ ∀ x ∈ L, x = but) by
    have := H L (-1) h0
    unfold freshIn
    rw [this]
    simp
  intro L
  induction L with
  | nil => intro b _; simp
  | cons x L ih =>
    intro b h0
    simp only [List.foldl_cons]
    rw [ih _ (fun y hy => h0 y (by simp [hy]))]
    have hx := h0 x (by simp)
    by_cases hf : fresher bs but b x = true
    · rw [freshStep_yes hf]
      constructor
      · rintro ⟨h, _⟩; omega
      · rintro ⟨_, h⟩
        unfold fresher at hf
        simp at hf
        exact absurd (h x (by simp)) hf.1
    · rw [freshStep_no (by simpa using hf)]
      constructor
      · rintro ⟨h1, h2⟩
        refine ⟨h1, fun y hy => ?_⟩
        rcases List.mem_cons.1 hy with rfl | hy
        · by_cases e : y = but
          · exact e
          · exfalso; exact hf (by unfold fresher; simp [e, h1])
        · exact h2 y hy
      · rintro ⟨h1, h2⟩
        exact ⟨h1, fun y hy => h2 y (by simp [hy])⟩

/-- The least worn of a list that has one at least, the first of those alike. -/
def leastStep (bs : List Bk) (m y : Int) : Int := if wearAt bs y < wearAt bs m then y else m
def leastIn (bs : List Bk) : List Int → Int
  | [] => 0
  | x :: xs => xs.foldl (leastStep bs) x
theorem leastIn_fresh {bs : List Bk} {L : List Int} (h0 : ∀ x ∈ L, 0 ≤ x) (hL : L ≠ []) : leastIn bs L = freshIn bs (-1) L := by
  cases L with
  | nil => exact absurd rfl hL
  | cons x xs =>
    unfold leastIn freshIn
    simp only [List.foldl_cons]
    have e : freshStep bs (-1) (-1) x = x := freshStep_yes (by have := h0 x (by simp); unfold fresher; simp; omega)
    rw [e]
    have hx := h0 x (by simp)
    have hxs : ∀ y ∈ xs, 0 ≤ y := fun y hy => h0 y (by simp [hy])
    clear e h0 hL
    induction xs generalizing x with
    | nil => rfl
    | cons y ys ih =>
      simp only [List.foldl_cons]
      have hy := hxs y (by simp)
      have hn : ¬ x < 0 := by omega
      have hn1 : ¬ y = -1 := by omega
      have e2 : freshStep bs (-1) x y = leastStep bs x y := by
        unfold freshStep leastStep fresher
        simp [hn, hn1]
      rw [e2]
      refine ih _ ?_ (fun z hz => hxs z (by simp [hz]))
      unfold leastStep
      split <;> omega
theorem leastIn_take {bs : List Bk} {L : List Int} {k : Nat} {x : Int} (hk : 0 < k) (hx : L[k]? = some x) : leastIn bs (L.take (k + 1)) = leastStep bs (leastIn bs (L.take k)) x := by
  rw [take_succ_of hx]
  cases L with
  | nil => simp at hx
  | cons y ys =>
    obtain ⟨j, rfl⟩ : ∃ j, k = j + 1 := ⟨k - 1, by omega⟩
    simp [leastIn]
theorem leastIn_one {bs : List Bk} {L : List Int} {x : Int} (hx : L[0]? = some x) : leastIn bs (L.take 1) = x := by
  cases L with
  | nil => simp at hx
  | cons y ys => simp at hx; simp [leastIn, hx]
theorem leastIn_mem {bs : List Bk} {L : List Int} (hL : L ≠ []) : leastIn bs L ∈ L := by
  cases L with
  | nil => exact absurd rfl hL
  | cons x xs =>
    clear hL
    show xs.foldl (leastStep bs) x ∈ x :: xs
    induction xs generalizing x with
    | nil => simp
    | cons y ys ih =>
      simp only [List.foldl_cons]
      have := ih (leastStep bs x y)
      rcases List.mem_cons.1 this with h | h
      · rw [h]; unfold leastStep; split <;> simp
      · exact List.mem_cons_of_mem _ (List.mem_cons_of_mem _ h)
/-- Is there one free block alone? -/
theorem fresh_alone {bs : List Bk} (hL : freeTo bs bs.length ≠ []) : (freshOf bs (freshOf bs (-1)) < 0 ↔ (freeTo bs bs.length).length = 1) := by
  have h0 : ∀ x ∈ freeTo bs bs.length, 0 ≤ x := fun x hx => by obtain ⟨i, _, rfl, _⟩ := mem_freeTo hx; omega
  have hm : freshOf bs (-1) ∈ freeTo bs bs.length := by
    unfold freshOf
    rw [← leastIn_fresh h0 hL]
    exact leastIn_mem hL
  have hd := freeTo_nodup bs bs.length
  unfold freshOf at hm ⊢
  rw [freshIn_neg h0]
  generalize freshIn bs (-1) (freeTo bs bs.length) = f at hm ⊢
  generalize freeTo bs bs.length = L at hL h0 hm hd ⊢
  constructor
  · intro h
    match L, hL, hd, h with
    | [x], _, _, _ => rfl
    | x :: y :: t, _, hd, h =>
      exfalso
      have h1 := h x (by simp)
      have h2 := h y (by simp)
      simp at hd
      exact hd.1.1 (h1.trans h2.symm)
  · intro h
    match L, h, hm with
    | [x], _, hm =>
      intro y hy
      simp at hy hm
      exact hy.trans hm.symm

theorem begun_pu {bs : List Bk} {i : Nat} {x : Bk} (hx : bs[i]? = some x) : begun bs i = pu x 0 := by simp [begun, hx]
theorem Settled.some {bs : List Bk} {o : Int} (h : Settled bs o) : freeTo bs bs.length ≠ [] := by
  obtain ⟨i, x, hi, hx, _, hf⟩ := h.2
  intro e
  have := freeTo_mem hi (show begun bs i = false by rw [begun_pu hx]; unfold freeB at hf; simpa using hf)
  rw [e] at this
  simp at this
theorem FtlOk.fresh {bs : List Bk} {L : List Int} {seq o : Int} (h : FtlOk bs L seq o) : ∃ (i : Nat) (x : Bk), freshOf bs (-1) = (i : Int) ∧ bs[i]? = .some x ∧ freeB x = true ∧ i < bs.length ∧ leastIn bs (freeTo bs bs.length) = (i : Int) := by
  have hL := h.settled.some
  have h0 : ∀ x ∈ freeTo bs bs.length, 0 ≤ x := fun x hx => by obtain ⟨i, _, rfl, _⟩ := mem_freeTo hx; omega
  have hm := leastIn_mem (bs := bs) hL
  have e := leastIn_fresh (bs := bs) h0 hL
  obtain ⟨i, hi, hx, hb⟩ := mem_freeTo hm
  obtain ⟨y, hy⟩ := getElem?_ex (l := bs) (k := i) hi
  refine ⟨i, y, e.symm.trans hx, hy, ?_, hi, hx⟩
  rw [begun_pu hy] at hb
  unfold freeB
  simp [hb]

theorem vicTo_full {bs : List Bk} {L : List Int} {o : Int} {i : Nat} {x : Bk} (hx : bs[i]? = some x) (hn : (i : Int) ≠ o) (hf : fullB x = true) : ∀ k, i < k → 0 ≤ vicTo bs L o k := by
  intro k
  induction k with
  | zero => intro h; omega
  | succ k ih =>
    intro hk
    by_cases e : i = k
    · subst e
      by_cases hb : beats bs L (vicTo bs L o i) (i : Int) x.wear = true
      · rw [vicTo_take hx hn hf hb]; omega
      · rw [vicTo_keep hx hn hf (by simpa using hb)]
        have h1 : ¬ vicTo bs L o i < 0 := fun h => hb (beats_neg h)
        omega
    · have h0 := ih (by omega)
      rw [vicTo_succ]
      unfold vicStep
      split
      · exact h0
      · split
        · exact h0
        · split
          · omega
          · exact h0
theorem fullB_pu {x : Bk} (h : fullB x = true) : pu x 0 = true := by unfold fullB at h; simp at h; exact h.1.1.1
theorem FtlOk.victim {bs : List Bk} {L : List Int} {seq o : Int} (h : FtlOk bs L seq o) {x : Bk} (hx : bs[o.toNat]? = some x) (hf : fullB x = true) : 0 ≤ vicOf bs L (freshOf bs (-1)) ∧ vicOf bs L (freshOf bs (-1)) < (bs.length : Int) := by
  refine ⟨?_, (vicTo_bounds bs L _ bs.length).2⟩
  obtain ⟨i, y, e, hy, hfy, _⟩ := h.fresh
  have ho := h.opn
  refine vicTo_full (i := o.toNat) hx ?_ hf _ (by omega)
  rw [e]
  intro e2
  have e3 : o.toNat = i := by omega
  rw [e3, hy] at hx
  cases hx
  have := fullB_pu hf
  unfold freeB at hfy
  rw [this] at hfy
  cases hfy

/-- Page k of block v. -/
def pageIn (bs : List Bk) (v : Int) (k : Nat) : Pg := (mOf bs).page v.toNat k
theorem pageIn_of {bs : List Bk} {v : Nat} {x : Bk} (hx : bs[v]? = some x) {k : Nat} {p : Pg} (hp : x.pages[k]? = some p) : pageIn bs (v : Int) k = p := by
  unfold pageIn
  rw [Int.toNat_natCast]
  exact mOf_page hx hp
/-- Is page k of block v the newest of its log? -/
def movesAt (bs : List Bk) (L : List Int) (v : Int) (k : Nat) : Bool := (pageIn bs v k).used && decide (L[(pageIn bs v k).log.toNat]? = some (v * 4 + (k : Int)))
theorem FtlOk.moves {bs : List Bk} {L : List Int} {seq o : Int} (h : FtlOk bs L seq o) {v : Int} (hv : 0 ≤ v) {k : Nat} (hk : k < 4) : movesAt bs L v k = decide ((v * 4 + (k : Int)) ∈ L) := by
  rw [Bool.eq_iff_iff]
  unfold movesAt
  simp only [Bool.and_eq_true, decide_eq_true_eq]
  constructor
  · rintro ⟨_, h2⟩
    exact List.mem_of_getElem? h2
  · intro hm
    have hm2 := hm
    rw [h.map] at hm
    unfold placesOf at hm
    simp only [List.mem_map, List.mem_range] at hm
    obtain ⟨i, hi, he⟩ := hm
    cases e : newestAt (usedOf bs) (i : Int) with
    | none => rw [e] at he; simp only [placeIn] at he; omega
    | some y =>
      rw [e] at he
      simp only [placeIn] at he
      obtain ⟨hmm, hlg⟩ := newestAt_mem e
      obtain ⟨_, _, _, _, _, b, k', z, hb, hp, hk', hy, hu⟩ := h.chip.usedRight hmm
      have e1 : v.toNat = b := by omega
      have e2 : k' = k := by omega
      subst e2
      have e3 : pageIn bs v k' = y.2 := by unfold pageIn; rw [e1]; exact mOf_page hb hp
      rw [e3]
      refine ⟨hu, ?_⟩
      rw [hlg, Int.toNat_natCast, h.map, placesOf_at _ _ hi, e]
      simp only [placeIn, he]
/-- The newest pages of the first k of block v, as they are written into another. -/
def movedTo (bs : List Bk) (L : List Int) (v into seq : Int) : Nat → List Opn
  | 0 => []
  | k + 1 => movedTo bs L v into seq k ++ if movesAt bs L v k then [⟨1, into, { pageIn bs v k with seq := seq + ((movedTo bs L v into seq k).length : Int) }⟩] else []
theorem movedTo_length (bs : List Bk) (L : List Int) (v into seq : Int) (k : Nat) : (movedTo bs L v into seq k).length ≤ k := by
  induction k with
  | zero => simp [movedTo]
  | succ k ih =>
    simp only [movedTo, List.length_append]
    split
    · simp; omega
    · simp; omega
/-- A block is emptied: its newest pages are written into another, and it is erased. -/
def moveOps (bs : List Bk) (L : List Int) (v into seq : Int) : List Opn := movedTo bs L v into seq 4 ++ [⟨2, v, zeroPg⟩]
theorem moveOps_length (bs : List Bk) (L : List Int) (v into seq : Int) : (moveOps bs L v into seq).length = (movedTo bs L v into seq 4).length + 1 := by simp [moveOps]
def fullAt (bs : List Bk) (o : Int) : Bool := ((bs[o.toNat]?).map fullB).getD false
theorem fullAt_of {bs : List Bk} {o : Int} {x : Bk} (hx : bs[o.toNat]? = some x) : fullAt bs o = fullB x := by simp [fullAt, hx]
/-- The ops of a write of a right member. -/
def writeOps (bs : List Bk) (L : List Int) (seq o log : Int) (data : ByteArray) : List Opn :=
  if fullAt bs o = true then
    if freshOf bs (freshOf bs (-1)) < 0 then moveOps bs L (vicOf bs L (freshOf bs (-1))) (freshOf bs (-1)) seq ++ [⟨1, freshOf bs (-1), ⟨true, log, seq + ((movedTo bs L (vicOf bs L (freshOf bs (-1))) (freshOf bs (-1)) seq 4).length : Int), data⟩⟩]
    else [⟨1, freshOf bs (-1), ⟨true, log, seq, data⟩⟩]
  else [⟨1, o, ⟨true, log, seq, data⟩⟩]
theorem writeOps_length (bs : List Bk) (L : List Int) (seq o log : Int) (data : ByteArray) : 1 ≤ (writeOps bs L seq o log data).length ∧ (writeOps bs L seq o log data).length ≤ 6 := by
  have h := movedTo_length bs L (vicOf bs L (freshOf bs (-1))) (freshOf bs (-1)) seq 4
  unfold writeOps moveOps
  split
  · split <;> simp <;> omega
  · simp
/-- Is there a block that is worn out? -/
def wornTo (bs : List Bk) (k : Nat) : Prop := ∃ i x, i < k ∧ bs[i]? = some x ∧ x.wear = 1000000000
def worn (bs : List Bk) : Prop := wornTo bs bs.length
theorem wornTo_succ {bs : List Bk} {k : Nat} {x : Bk} (hx : bs[k]? = some x) : wornTo bs (k + 1) ↔ wornTo bs k ∨ x.wear = 1000000000 := by
  constructor
  · rintro ⟨i, y, hi, hy, hw⟩
    by_cases e : i = k
    · subst e; rw [hx] at hy; cases hy; exact .inr hw
    · exact .inl ⟨i, y, by omega, hy, hw⟩
  · rintro (⟨i, y, hi, hy, hw⟩ | hw)
    · exact ⟨i, y, by omega, hy, hw⟩
    · exact ⟨k, x, by omega, hx, hw⟩
def formOk (bs : List Bk) (log : Int) (data : ByteArray) : Prop := 0 ≤ log ∧ log < (roomOf bs : Int) ∧ data.size = 4
def roomy (bs : List Bk) (seq : Int) : Prop := ¬ worn bs ∧ seq ≤ 999999990
/-- What OpsOf answers. -/
def OpsOfIs (bs : List Bk) (L : List Int) (seq o log : Int) (data : ByteArray) (xs : List Opn) (r : Bool) : Prop :=
  (r = true ∧ (FtlOk bs L seq o ∧ formOk bs log data ∧ roomy bs seq) ∧ xs = writeOps bs L seq o log data) ∨ (r = false ∧ xs = [] ∧ ¬ (FtlOk bs L seq o ∧ formOk bs log data ∧ roomy bs seq))
theorem OpsOfIs.one {bs : List Bk} {L : List Int} {seq o log : Int} {data : ByteArray} {x1 x2 : List Opn} {r1 r2 : Bool} (h : OpsOfIs bs L seq o log data x1 r1) (k : OpsOfIs bs L seq o log data x2 r2) : x1 = x2 ∧ r1 = r2 := by
  rcases h with ⟨rfl, h1, rfl⟩ | ⟨rfl, rfl, h1⟩
  · rcases k with ⟨rfl, _, rfl⟩ | ⟨_, _, k1⟩
    · exact ⟨rfl, rfl⟩
    · exact absurd h1 k1
  · rcases k with ⟨_, k1, _⟩ | ⟨rfl, rfl, _⟩
    · exact absurd k1 h1
    · exact ⟨rfl, rfl⟩
theorem OpsOfIs.length {bs : List Bk} {L : List Int} {seq o log : Int} {data : ByteArray} {xs : List Opn} {r : Bool} (h : OpsOfIs bs L seq o log data xs r) : xs.length ≤ 6 := by
  rcases h with ⟨_, _, rfl⟩ | ⟨_, rfl, _⟩
  · exact (writeOps_length ..).2
  · simp
end Go.Proofs.YtalgkmellbamgaaGreat

/- May a log be written? The model's l3Form and l3Room. -/
namespace Go.Proofs.YtalgkmellbamgaaGreat
open Go.RowKit
set_option linter.unusedVariables false
set_option linter.unusedSimpArgs false

set_option maxHeartbeats 1000000 in
theorem l3Form_any (va : Value) (ma : Option Addr) (mc mn : Nat) (seq o lg : Int) (data : ByteArray) (w : World) (hmn : mn ≤ 1048576) (hd : data.size ≤ 1048576) :
    Calls Tryz.prog 37 #[.agg #[va, .slice ma mn mc, .int .i64 seq, .int .i64 o], .int .i64 lg, .string data] w fun e w' => RetIff (0 ≤ lg ∧ lg < (mn : Int) ∧ data.size = 4) e ∧ Below w.heap.size w w' := by
  have hb0 : ∀ o, Below w.heap.size w (w.alloc o) := fun o => (Below.refl _ w).alloc (Nat.le_refl _) _
  by_cases hin : 0 ≤ lg ∧ lg ≤ (mn : Int) - 1
  · have hdd : decide (0 ≤ lg ∧ lg ≤ (mn : Int) - 1) = true := by simpa using hin
    by_cases h4 : data.size = 4
    · have e4 : ((data.size : Int) == 4) = true := by simp; omega
      go_enter Tryz.func37, Tryz.ntmps37
      go_wp2_with fail
      refine (l1In_any _ _ _ _).mono ?_
      rintro e w1 ⟨rfl, rfl⟩
      rw [hdd]
      go_wp2
      go_ret
      exact ⟨RetIff.yes ⟨hin.1, by omega, h4⟩, hb0 _⟩
    · have e4 : ((data.size : Int) == 4) = false := by simp; omega
      go_enter Tryz.func37, Tryz.ntmps37
      go_wp2_with fail
      refine (l1In_any _ _ _ _).mono ?_
      rintro e w1 ⟨rfl, rfl⟩
      rw [hdd]
      go_wp2
      go_ret
      exact ⟨RetIff.no (fun h => h4 h.2.2), hb0 _⟩
  · have hdd : decide (0 ≤ lg ∧ lg ≤ (mn : Int) - 1) = false := by simpa using hin
    go_enter Tryz.func37, Tryz.ntmps37
    go_wp2_with fail
    refine (l1In_any _ _ _ _).mono ?_
    rintro e w1 ⟨rfl, rfl⟩
    rw [hdd]
    go_wp2
    go_ret
    exact ⟨RetIff.no (fun h => hin ⟨h.1, by omega⟩), hb0 _⟩

set_option maxRecDepth 100000 in
set_option maxHeartbeats 1000000 in
theorem l3Room_any (a : Option Addr) (c : Nat) (bs : List Bk) (n : Nat) (hl : bs.length = n) (hn12 : n ≤ 12) (ma : Option Addr) (mc mn : Nat) (seq o : Int) (w : World) (h : BlocksAt w a bs) :
    Calls Tryz.prog 39 #[.agg #[.slice a n c, .slice ma mn mc, .int .i64 seq, .int .i64 o]] w fun e w' => RetIff (roomy bs seq) e ∧ Below w.heap.size w w' := by
  have hb0 : ∀ o, Below w.heap.size w (w.alloc o) := fun o => (Below.refl _ w).alloc (Nat.le_refl _) _
  have HL := hide hl
  clear hl
  go_enter Tryz.func39, Tryz.ntmps39
  go_wp2
  go_loop [3] (fun i => ∃ k : Nat, k ≤ n ∧ i = .int .i64 k ∧ ¬ wornTo bs k) (fun i => n - (intOf i).toNat)
  case atStart => exact ⟨0, Nat.zero_le _, rfl, fun ⟨i, _, hi, _⟩ => absurd hi (Nat.not_lt_zero _)⟩
  case round =>
    obtain ⟨k, hk, rfl, hall⟩ := hrel
    have HA := hide hall
    clear hall
    by_cases hlt : k < n
    · obtain ⟨x, hx⟩ := getElem?_ex (l := bs) (k := k) (by have := unhide HL; omega)
      obtain ⟨g, og, pa, pc, rfl, hcw, _, _⟩ := h k x hx
      have hgl : g < w.heap.size := World.block_lt_of_cell? _ _ hcw
      have HX := hide hx
      clear hx h
      by_cases hw : x.wear = 1000000000
      · have ew : (x.wear == 1000000000) = true := by simpa using hw
        go_wp2
        go_ret
        exact ⟨RetIff.no (fun hr => hr.1 ⟨k, x, by have := unhide HL; omega, unhide HX, hw⟩), hb0 _⟩
      · have ew : (x.wear == 1000000000) = false := by simpa using hw
        go_wp2
        go_round
        case rel =>
          refine ⟨k + 1, by omega, by go_num, fun h => ?_⟩
          rcases (wornTo_succ (unhide HX)).1 h with h | h
          · exact unhide HA h
          · exact hw h
        case measure => simp [intOf]; omega
    · obtain rfl : k = n := by omega
      have HW : Hid (¬ worn bs) := fun h => unhide HA (by have := unhide HL; unfold worn at h; rwa [this] at h)
      clear h
      by_cases hs : seq ≤ 999999990
      · go_wp2
        go_ret
        exact ⟨⟨_, rfl, by simp [hs, roomy, unhide HW]⟩, hb0 _⟩
      · go_wp2
        go_ret
        exact ⟨⟨_, rfl, by simp [hs, roomy]⟩, hb0 _⟩
end Go.Proofs.YtalgkmellbamgaaGreat
