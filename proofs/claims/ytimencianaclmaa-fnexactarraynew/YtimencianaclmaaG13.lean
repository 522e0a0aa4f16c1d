/- 4 texts in one. -/
import Derived.Test.YtimencianaclmaaG07
import Derived.Test.YtimencianaclmaaG02
import Derived.Test.YtimencianaclmaaG12
import Derived.Test.YtimencianaclmaaG11
import Derived.WalkKit
import Derived.Outline
import Derived.Test.YtimencianaclmaaG01

/- The program's workers: newWorker and settle. -/
namespace Go.Proofs.Ytimencianaclmaa
open Go.RowKit
set_option linter.unusedVariables false
set_option linter.unusedSimpArgs false

/-- A worker lies in block g: the cells of its chip, and its member but for the chip. -/
structure WorkAt (w : World) (g : Nat) (m : CC) (va : Value) (ma : Option Addr) (mn mc : Nat) (seq o : Int) : Prop where
  cells : ∀ j, j < 205 → w.cell? ⟨g, j, none⟩ = (ccA m)[j]?
  chip : w.cell? ⟨g, 205, none⟩ = some va
  map : w.cell? ⟨g, 206, none⟩ = some (.slice ma mn mc)
  seq : w.cell? ⟨g, 207, none⟩ = some (.int .i64 seq)
  opn : w.cell? ⟨g, 208, none⟩ = some (.int .i64 o)
  free : ∀ j, w.frozen? ⟨g, j, none⟩ = false
theorem WorkAt.lt {w : World} {g : Nat} {m : CC} {va : Value} {ma : Option Addr} {mn mc : Nat} {seq o : Int} (h : WorkAt w g m va ma mn mc seq o) : g < w.heap.size := World.block_lt_of_cell? _ _ h.chip
theorem WorkAt.of_block {w w' : World} {g : Nat} {m : CC} {va : Value} {ma : Option Addr} {mn mc : Nat} {seq o : Int} (h : WorkAt w g m va ma mn mc seq o) (e : w'.heap[g]? = w.heap[g]?) : WorkAt w' g m va ma mn mc seq o := by
  have hc : ∀ j, w'.cell? ⟨g, j, none⟩ = w.cell? ⟨g, j, none⟩ := fun j => World.cell?_of_block (w := w) (a := ⟨g, j, none⟩) e
  exact ⟨fun j hj => (hc j).trans (h.cells j hj), (hc _).trans h.chip, (hc _).trans h.map, (hc _).trans h.seq, (hc _).trans h.opn, fun j => (by simp only [World.frozen?, e] : w'.frozen? ⟨g, j, none⟩ = w.frozen? ⟨g, j, none⟩).trans (h.free j)⟩
theorem WorkAt.below {w w' : World} {g : Nat} {m : CC} {va : Value} {ma : Option Addr} {mn mc : Nat} {seq o : Int} (h : WorkAt w g m va ma mn mc seq o) {B : Nat} (hb : Below B w w') (hg : g < B) : WorkAt w' g m va ma mn mc seq o := h.of_block (hb.block g hg)

set_option maxRecDepth 100000 in
set_option maxHeartbeats 2000000 in
theorem settle_any (g : Nat) (m : CC) (bs : List Bk) (n : Nat) (hl : bs.length = n) (hct : m.count = n) (hbs : ccBs m n = bs) (hok : ChipOk bs) (va : Value) (hva : ∃ x y z, va = .slice x y z) (ma : Option Addr) (mn mc : Nat) (seq0 o0 seq o : Int) (w : World) (h : WorkAt w g m va ma mn mc seq0 o0) :
    Calls Try.prog 166 #[.pointer (some ⟨g, 0, none⟩), .int .i64 seq, .int .i64 o] w fun e w' => e = .returned (.tuple #[]) ∧ ∃ ma2 mn2 mc2 L r, WorkAt w' g m (.slice none 0 0) ma2 mn2 mc2 seq o ∧ MapIs bs r L ∧ L.length = mn2 ∧ IntsAt w' ma2 L ∧ MineFrom w' ma2 mn2 w.heap.size ∧ Touch (· = g) w w' := by
  obtain ⟨vx, vy, vz, rfl⟩ := hva
  have hc := hok.count
  have hn4 : 4 ≤ n ∧ n ≤ 12 := by omega
  have HNP := hide (fun W => newestPlaces_any m n hct hn4.1 hn4.2 bs hl hbs hok W)
  have hgl := h.lt
  have HC : Hid (∀ j, j < 205 → w.cell? ⟨g, 0 + j, none⟩ = (ccA m)[j]?) := fun j hj => by rw [Nat.zero_add]; exact h.cells j hj
  have H := hide h
  have HAS := hide (ccA_size m)
  obtain ⟨A, hA⟩ : ∃ A, A = ccA m := ⟨_, rfl⟩
  have HA := hide hA
  rw [← hA] at HNP HC HAS
  clear hA h hok hbs hct hl hc
  go_enter Try.func166, Try.ntmps166
  go_wp2_with (refine wpList_load_mid rfl 109 _ rfl g 0 rfl A 205 (unhide HAS) (unhide HC) _ Try.underlying109 rfl sizeCC' ?_)
  refine (unhide HNP _).mono ?_
  rintro e w1 ⟨⟨v, r, L, rfl, hM, hv⟩, hB⟩
  obtain ⟨a2, c2, rfl, hI, hmine⟩ := hv.form
  have hW := (unhide H).below hB hgl
  have hs1 := hB.size
  have z0 := hW.chip
  have z1 := hW.map
  have z2 := hW.seq
  have z3 := hW.opn
  have f0 := hW.free 205
  have f1 := hW.free 206
  have f2 := hW.free 207
  have f3 := hW.free 208
  have HW := hide hW
  have HI := hide hI
  have HMN := hide hmine
  have HMI := hide hM
  have HB := hide hB
  obtain ⟨ln, hln⟩ : ∃ ln, ln = L.length := ⟨_, rfl⟩
  rw [← hln] at HMN ⊢
  have HLN := hide hln.symm
  obtain ⟨W5, hW5⟩ : ∃ W5, W5 = (((w1.setCell ⟨g, 205, none⟩ (.slice none 0 0)).setCell ⟨g, 206, none⟩ (.slice a2 ln c2)).setCell ⟨g, 207, none⟩ (.int .i64 seq)).setCell ⟨g, 208, none⟩ (.int .i64 o) := ⟨_, rfl⟩
  have y0 : W5.cell? ⟨g, 205, none⟩ = some (.slice none 0 0) := by rw [hW5, World.cell?_setCell_other _ _ _ _ (by simp), World.cell?_setCell_other _ _ _ _ (by simp), World.cell?_setCell_other _ _ _ _ (by simp), World.cell?_setCell_same' _ _ _ (by rw [z0]; rfl)]
  have y1 : W5.cell? ⟨g, 206, none⟩ = some (.slice a2 ln c2) := by rw [hW5, World.cell?_setCell_other _ _ _ _ (by simp), World.cell?_setCell_other _ _ _ _ (by simp), World.cell?_setCell_same' _ _ _ (by rw [World.cell?_setCell_other _ _ _ _ (by simp), z1]; rfl)]
  have y2 : W5.cell? ⟨g, 207, none⟩ = some (.int .i64 seq) := by rw [hW5, World.cell?_setCell_other _ _ _ _ (by simp), World.cell?_setCell_same' _ _ _ (by rw [World.cell?_setCell_other _ _ _ _ (by simp), World.cell?_setCell_other _ _ _ _ (by simp), z2]; rfl)]
  have y3 : W5.cell? ⟨g, 208, none⟩ = some (.int .i64 o) := by rw [hW5, World.cell?_setCell_same' _ _ _ (by rw [World.cell?_setCell_other _ _ _ _ (by simp), World.cell?_setCell_other _ _ _ _ (by simp), World.cell?_setCell_other _ _ _ _ (by simp), z3]; rfl)]
  have hblk : ∀ k, k ≠ g → W5.heap[k]? = w1.heap[k]? := fun k hk => by
    rw [hW5, Go.Deep.blk_setCell_other _ _ _ _ hk, Go.Deep.blk_setCell_other _ _ _ _ hk, Go.Deep.blk_setCell_other _ _ _ _ hk, Go.Deep.blk_setCell_other _ _ _ _ hk]
  have hs5 : W5.heap.size = w1.heap.size := by rw [hW5]; simp [World.setCell]
  have hT0 : Touch (fun k => k = g) w w1 := Touch.of_below hB
  have hT5 : Touch (fun k => k = g) w W5 := by
    rw [hW5]
    exact Touch.setCell (p := ⟨g, 208, none⟩) (Touch.setCell (p := ⟨g, 207, none⟩) (Touch.setCell (p := ⟨g, 206, none⟩) (Touch.setCell (p := ⟨g, 205, none⟩) hT0 rfl _) rfl _) rfl _) rfl _
  have hcl : ∀ j, j < 205 → W5.cell? ⟨g, j, none⟩ = (ccA m)[j]? := fun j hj => by
    rw [hW5, World.cell?_setCell_other _ _ _ _ (by simp <;> omega), World.cell?_setCell_other _ _ _ _ (by simp <;> omega), World.cell?_setCell_other _ _ _ _ (by simp <;> omega), World.cell?_setCell_other _ _ _ _ (by simp <;> omega)]
    exact (unhide HW).cells j hj
  have hfr : ∀ j, W5.frozen? ⟨g, j, none⟩ = false := fun j => by rw [hW5]; simpa using (unhide HW).free j
  have HWF : Hid (WorkAt W5 g m (.slice none 0 0) a2 ln c2 seq o) := ⟨hcl, y0, y1, y2, y3, hfr⟩
  have HIF : Hid (IntsAt W5 a2 L) := fun i x hx => by
    obtain ⟨b, oo, hb, hcx⟩ := (unhide HI) i x hx
    have hbg : b ≠ g := by
      rcases unhide HMN with ⟨e, _⟩ | ⟨g', e, h1, _⟩
      · rw [e] at hb; cases hb
      · rw [e] at hb; cases hb; omega
    exact ⟨b, oo, hb, (World.cell?_of_block (w := w1) (a := ⟨b, oo + i, none⟩) (hblk b hbg)).trans hcx⟩
  have HMF : Hid (MineFrom W5 a2 ln w.heap.size) := by
    rcases unhide HMN with h | ⟨g', e, h1, h2, h3⟩
    · exact .inl h
    · exact .inr ⟨g', e, h1, by rw [hs5]; exact h2, h3.of_block (hblk g' (by omega))⟩
  have HT5 := hide hT5
  clear y0 y1 y2 y3 hblk hT0 hT5 hcl hfr hv hmine hM hB hI hW hln
  go_wp2
  try rw [← hW5]
  exact bodyPost_end (v := .tuple #[]) (by simp [results, Try.results166, go_sem]) rfl ⟨rfl, a2, ln, c2, L, r, unhide HWF, unhide HMI, unhide HLN, unhide HIF, unhide HMF, unhide HT5⟩
end Go.Proofs.Ytimencianaclmaa

/- How many pages of a block are the newest of their log, as plain lists say it. No program is named here. -/
namespace Go.Proofs.Ytimencianaclmaa
open Go.RowKit
set_option linter.unusedVariables false
set_option linter.unusedSimpArgs false

def hit (blk x : Int) : Bool := decide (0 ≤ x) && decide (x / 4 = blk)
def validIn (L : List Int) (blk : Int) : Nat := (L.filter (hit blk)).length
theorem validIn_nil (blk : Int) : validIn [] blk = 0 := rfl
theorem validIn_snoc (L : List Int) (x blk : Int) : validIn (L ++ [x]) blk = validIn L blk + if hit blk x = true then 1 else 0 := by
  unfold validIn
  rw [List.filter_append, List.length_append]
  cases h : hit blk x <;> simp [h]
theorem take_succ_of {α : Type} {L : List α} {k : Nat} {x : α} (hx : L[k]? = some x) : L.take (k + 1) = L.take k ++ [x] := by rw [List.take_add_one, hx]; rfl
theorem validIn_take {L : List Int} {k : Nat} {x : Int} (hx : L[k]? = some x) (blk : Int) : validIn (L.take (k + 1)) blk = validIn (L.take k) blk + if hit blk x = true then 1 else 0 := by
  rw [take_succ_of hx, validIn_snoc]
theorem validIn_le (L : List Int) (blk : Int) : validIn L blk ≤ L.length := List.length_filter_le _ _
/-- The places that are named. -/
def namedOf (L : List Int) : List Int := L.filter fun x => decide (x ≠ -1)
theorem namedOf_take {L : List Int} {k : Nat} {x : Int} (hx : L[k]? = some x) : namedOf (L.take (k + 1)) = namedOf (L.take k) ++ if x = -1 then [] else [x] := by
  rw [take_succ_of hx]
  unfold namedOf
  rw [List.filter_append]
  by_cases e : x = -1 <;> simp [e]
theorem namedOf_length (L : List Int) : (namedOf L).length ≤ L.length := List.length_filter_le _ _
theorem namedOf_prefix (L : List Int) (k : Nat) : namedOf (L.take k) <+: namedOf L := by
  unfold namedOf
  exact List.IsPrefix.filter _ (List.take_prefix k L)
theorem validIn_named (L : List Int) (blk : Int) : validIn (namedOf L) blk = validIn L blk := by
  unfold validIn namedOf
  rw [List.filter_filter]
  congr 1
  refine List.filter_congr (fun x _ => ?_)
  by_cases e : x = -1
  · subst e; simp [hit]
  · simp [e]

theorem FtlOk.places {bs : List Bk} {L : List Int} {seq o : Int} (h : FtlOk bs L seq o) : ∀ x ∈ L, x = -1 ∨ (0 ≤ x ∧ x < 4 * (bs.length : Int)) := by
  intro x hx
  rw [h.map] at hx
  unfold placesOf at hx
  simp only [List.mem_map, List.mem_range] at hx
  obtain ⟨i, hi, rfl⟩ := hx
  cases e : newestAt (usedOf bs) (i : Int) with
  | none => left; rfl
  | some y =>
    right
    obtain ⟨hm, _⟩ := newestAt_mem e
    obtain ⟨_, _, _, _, _, b, k, z, hb, _, hk, hy, _⟩ := h.chip.usedRight hm
    have hlt := (List.getElem?_eq_some_iff.1 hb).1
    simp only [placeIn]
    rw [hy]
    omega
theorem FtlOk.len {bs : List Bk} {L : List Int} {seq o : Int} (h : FtlOk bs L seq o) : L.length = 4 * (bs.length - 3) := by
  rw [h.map, placesOf_length]; rfl
theorem FtlOk.len36 {bs : List Bk} {L : List Int} {seq o : Int} (h : FtlOk bs L seq o) : L.length ≤ 36 := by
  have := h.len; have := h.chip.count; omega

/-- What ValidOf answers. -/
def ValidIs (bs : List Bk) (L : List Int) (seq o blk r : Int) : Prop :=
  ((FtlOk bs L seq o ∧ 0 ≤ blk ∧ blk ≤ (bs.length : Int) - 1) ∧ r = (validIn L blk : Int)) ∨ (¬ (FtlOk bs L seq o ∧ 0 ≤ blk ∧ blk ≤ (bs.length : Int) - 1) ∧ r = -1)
theorem ValidIs.one {bs : List Bk} {L : List Int} {seq o blk r s : Int} (h : ValidIs bs L seq o blk r) (k : ValidIs bs L seq o blk s) : r = s := by
  rcases h with ⟨h1, rfl⟩ | ⟨h1, rfl⟩
  · rcases k with ⟨_, rfl⟩ | ⟨k1, _⟩
    · rfl
    · exact absurd h1 k1
  · rcases k with ⟨k1, _⟩ | ⟨_, rfl⟩
    · exact absurd k1 h1
    · rfl
end Go.Proofs.Ytimencianaclmaa

/- The block that is emptied, as plain lists say it. No program is named here. -/
namespace Go.Proofs.Ytimencianaclmaa
open Go.RowKit
set_option linter.unusedVariables false
set_option linter.unusedSimpArgs false

def wearAt (bs : List Bk) (i : Int) : Int := (bs[i.toNat]?.map (·.wear)).getD 0
theorem wearAt_of {bs : List Bk} {k : Nat} {x : Bk} (hx : bs[k]? = some x) : wearAt bs (k : Int) = x.wear := by simp [wearAt, hx]
/-- Is block i, of the wear x, to be emptied rather than best? -/
def beats (bs : List Bk) (L : List Int) (best : Int) (i : Int) (x : Int) : Bool :=
  decide (best < 0) || decide (validIn L i < validIn L best) || (decide (validIn L i = validIn L best) && decide (x < wearAt bs best))
theorem beats_neg {bs : List Bk} {L : List Int} {best i x : Int} (h : best < 0) : beats bs L best i x = true := by simp [beats, h]
theorem beats_few {bs : List Bk} {L : List Int} {best i x : Int} (h : validIn L i < validIn L best) : beats bs L best i x = true := by simp [beats, h]
theorem beats_wear {bs : List Bk} {L : List Int} {best i x y : Int} (h : validIn L i = validIn L best) (hy : wearAt bs best = y) (hw : x < y) : beats bs L best i x = true := by simp [beats, h, hy, hw]
theorem beats_worn {bs : List Bk} {L : List Int} {best i x y : Int} (h0 : 0 ≤ best) (h : validIn L i = validIn L best) (hy : wearAt bs best = y) (hw : y ≤ x) : beats bs L best i x = false := by
  have h1 : ¬ best < 0 := by omega
  have h2 : ¬ x < y := by omega
  simp [beats, h, hy, h1, h2]
theorem beats_more {bs : List Bk} {L : List Int} {best i x : Int} (h0 : 0 ≤ best) (h : validIn L best < validIn L i) : beats bs L best i x = false := by
  have h1 : ¬ best < 0 := by omega
  have h2 : ¬ validIn L i < validIn L best := by omega
  have h3 : ¬ validIn L i = validIn L best := by omega
  simp [beats, h1, h2, h3]
def vicStep (bs : List Bk) (L : List Int) (o : Int) (best : Int) (i : Nat) : Int :=
  match bs[i]? with
  | none => best
  | some x => if (i : Int) = o ∨ fullB x = false then best else if beats bs L best (i : Int) x.wear = true then (i : Int) else best
def vicTo (bs : List Bk) (L : List Int) (o : Int) (k : Nat) : Int := (List.range k).foldl (vicStep bs L o) (-1)
theorem vicTo_succ (bs : List Bk) (L : List Int) (o : Int) (k : Nat) : vicTo bs L o (k + 1) = vicStep bs L o (vicTo bs L o k) k := by simp [vicTo, List.range_succ]
theorem vicTo_bounds (bs : List Bk) (L : List Int) (o : Int) (k : Nat) : -1 ≤ vicTo bs L o k ∧ vicTo bs L o k < (k : Int) := by
  induction k with
  | zero => exact ⟨Int.le_refl _, by show (-1 : Int) < 0; decide⟩
  | succ k ih =>
    rw [vicTo_succ]
    unfold vicStep
    split
    · omega
    · split
      · omega
      · split <;> omega
theorem vicTo_skip {bs : List Bk} {L : List Int} {o : Int} {k : Nat} {x : Bk} (hx : bs[k]? = some x) (h : (k : Int) = o ∨ fullB x = false) : vicTo bs L o (k + 1) = vicTo bs L o k := by
  rw [vicTo_succ]; unfold vicStep; rw [hx]; simp only; rw [if_pos h]
theorem vicTo_take {bs : List Bk} {L : List Int} {o : Int} {k : Nat} {x : Bk} (hx : bs[k]? = some x) (h1 : (k : Int) ≠ o) (h2 : fullB x = true) (hb : beats bs L (vicTo bs L o k) (k : Int) x.wear = true) : vicTo bs L o (k + 1) = (k : Int) := by
  rw [vicTo_succ]; unfold vicStep; rw [hx]; simp only; rw [if_neg (by rw [h2]; simp [h1]), if_pos hb]
theorem vicTo_keep {bs : List Bk} {L : List Int} {o : Int} {k : Nat} {x : Bk} (hx : bs[k]? = some x) (h1 : (k : Int) ≠ o) (h2 : fullB x = true) (hb : beats bs L (vicTo bs L o k) (k : Int) x.wear = false) : vicTo bs L o (k + 1) = vicTo bs L o k := by
  rw [vicTo_succ]; unfold vicStep; rw [hx]; simp only; rw [if_neg (by rw [h2]; simp [h1]), if_neg (by rw [hb]; simp)]
/-- The victim of a member. -/
def vicOf (bs : List Bk) (L : List Int) (o : Int) : Int := vicTo bs L o bs.length

/-- What VictimOf answers. -/
def VictimIs (bs : List Bk) (L : List Int) (seq o r : Int) : Prop := (FtlOk bs L seq o ∧ r = vicOf bs L o) ∨ (¬ FtlOk bs L seq o ∧ r = -1)
theorem VictimIs.one {bs : List Bk} {L : List Int} {seq o r s : Int} (h : VictimIs bs L seq o r) (k : VictimIs bs L seq o s) : r = s := by
  rcases h with ⟨h1, rfl⟩ | ⟨h1, rfl⟩
  · rcases k with ⟨_, rfl⟩ | ⟨k1, _⟩
    · rfl
    · exact absurd h1 k1
  · rcases k with ⟨k1, _⟩ | ⟨_, rfl⟩
    · exact absurd k1 h1
    · rfl
end Go.Proofs.Ytimencianaclmaa

/- Ops as they lie in memory, and rows of them that a call has made itself: no program is named here. -/
namespace Go.Proofs.Ytimencianaclmaa
open Go.RowKit
set_option linter.unusedVariables false
set_option linter.unusedSimpArgs false

structure Opn where
  kind : Int
  block : Int
  page : Pg

/-- The ops xs lie, one behind the other, from the address a on. -/
def OpsAt (w : World) (a : Option Addr) (xs : List Opn) : Prop :=
  ∀ i x, xs[i]? = some x → ∃ b o, a = some ⟨b, o, none⟩ ∧ w.cell? ⟨b, o + i * 6, none⟩ = some (.int .i64 x.kind) ∧ w.cell? ⟨b, o + i * 6 + 1, none⟩ = some (.int .i64 x.block) ∧ w.cell? ⟨b, o + i * 6 + 2, none⟩ = some (.bool x.page.used) ∧
    w.cell? ⟨b, o + i * 6 + 3, none⟩ = some (.int .i64 x.page.log) ∧ w.cell? ⟨b, o + i * 6 + 4, none⟩ = some (.int .i64 x.page.seq) ∧ w.cell? ⟨b, o + i * 6 + 5, none⟩ = some (.string x.page.data)

theorem OpsAt.below {w w' : World} {a : Option Addr} {xs : List Opn} (h : OpsAt w a xs) {B : Nat} (hb : Below B w w') (hB : w.heap.size ≤ B) : OpsAt w' a xs := by
  intro i x hx
  obtain ⟨b, o, ha, h0, h1, h2, h3, h4, h5⟩ := h i x hx
  have hlt : b < B := Nat.lt_of_lt_of_le (World.block_lt_of_cell? _ _ h0) hB
  have e : ∀ j, w'.cell? ⟨b, j, none⟩ = w.cell? ⟨b, j, none⟩ := fun j => hb.cell (p := ⟨b, j, none⟩) hlt
  exact ⟨b, o, ha, (e _).trans h0, (e _).trans h1, (e _).trans h2, (e _).trans h3, (e _).trans h4, (e _).trans h5⟩

def zeroOp : Opn := ⟨0, 0, zeroPg⟩
def opV (x : Opn) : Nat → Value
  | 0 => .int .i64 x.kind
  | 1 => .int .i64 x.block
  | j + 2 => pgV x.page j
/-- What stands in cell i of a row of ops (zero ops behind the last). -/
def opsF (xs : List Opn) (i : Nat) : Value := opV ((xs[i / 6]?).getD zeroOp) (i % 6)
theorem opsF_at {xs : List Opn} {k : Nat} {x : Opn} (h : xs[k]? = some x) (j : Nat) (hj : j < 6) : opsF xs (k * 6 + j) = opV x j := by
  unfold opsF
  rw [show (k * 6 + j) / 6 = k by omega, show (k * 6 + j) % 6 = j by omega, h]
  rfl
def OwnOps (w : World) (t : TypeId) (b : Nat) (n : Nat) (xs : List Opn) : Prop := w.rowIs b t (n * 6) (opsF xs)
theorem OwnOps.opsAt {w : World} {t : TypeId} {b n : Nat} {xs : List Opn} (h : OwnOps w t b n xs) (hn : xs.length ≤ n) : OpsAt w (some ⟨b, 0, none⟩) xs := by
  intro i x hx
  have hi := (List.getElem?_eq_some_iff.1 hx).1
  have c : ∀ j, j < 6 → w.cell? ⟨b, 0 + i * 6 + j, none⟩ = some (opV x j) := fun j hj => by
    rw [Nat.zero_add, World.rowIs.cell h (i := i * 6 + j) (by omega), opsF_at hx j hj]
  exact ⟨b, 0, rfl, c 0 (by omega), c 1 (by omega), c 2 (by omega), c 3 (by omega), c 4 (by omega), c 5 (by omega)⟩
theorem OwnOps.below {w w' : World} {t : TypeId} {b n : Nat} {xs : List Opn} (h : OwnOps w t b n xs) {B : Nat} (hb : Below B w w') (hB : b < B) : OwnOps w' t b n xs :=
  World.rowIs.of_block h (hb.block b hB)
theorem OwnOps.cells {w : World} {t : TypeId} {b n : Nat} {xs : List Opn} (h : OwnOps w t b n xs) {k : Nat} (hk : k < n) : ∀ j, j < 6 → ∃ v, w.cell? ⟨b, k * 6 + j, none⟩ = some v :=
  fun j hj => ⟨_, World.rowIs.cell h (by omega)⟩
theorem OwnOps.made (w : World) (t : TypeId) (n : Nat) : OwnOps (w.alloc (.cells (madeCells #[.int .i64 0, .int .i64 0, .bool false, .int .i64 0, .int .i64 0, .string ByteArray.empty] (n * 6)) t)) t w.heap.size n [] := by
  refine ⟨_, Go.Deep.blk_alloc_new _ _, size_madeCells _ _, fun i hi => ?_⟩
  simp only [madeCells, Array.getElem?_map, Array.getElem?_range, hi, if_true, Option.map_some]
  unfold opsF
  have h6 : i % 6 = 0 ∨ i % 6 = 1 ∨ i % 6 = 2 ∨ i % 6 = 3 ∨ i % 6 = 4 ∨ i % 6 = 5 := by omega
  rcases h6 with e | e | e | e | e | e <;> simp [e, opV, pgV, zeroOp, zeroPg]
theorem opsF_put {xs : List Opn} {k : Nat} {x : Opn} (ys : List Opn) (hy : ys[k]? = some x) (hother : ∀ i, i ≠ k → ys[i]? = xs[i]?) (j : Nat) :
    (if j = k * 6 + 5 then Value.string x.page.data else if j = k * 6 + 4 then .int .i64 x.page.seq else if j = k * 6 + 3 then .int .i64 x.page.log else if j = k * 6 + 2 then .bool x.page.used else if j = k * 6 + 1 then .int .i64 x.block else if j = k * 6 then .int .i64 x.kind else opsF xs j) = opsF ys j := by
  by_cases e5 : j = k * 6 + 5
  · subst e5; rw [if_pos rfl, opsF_at hy 5 (by omega)]; rfl
  rw [if_neg e5]
  by_cases e4 : j = k * 6 + 4
  · subst e4; rw [if_pos rfl, opsF_at hy 4 (by omega)]; rfl
  rw [if_neg e4]
  by_cases e3 : j = k * 6 + 3
  · subst e3; rw [if_pos rfl, opsF_at hy 3 (by omega)]; rfl
  rw [if_neg e3]
  by_cases e2 : j = k * 6 + 2
  · subst e2; rw [if_pos rfl, opsF_at hy 2 (by omega)]; rfl
  rw [if_neg e2]
  by_cases e1 : j = k * 6 + 1
  · subst e1; rw [if_pos rfl, opsF_at hy 1 (by omega)]; rfl
  rw [if_neg e1]
  by_cases e0 : j = k * 6
  · subst e0; rw [if_pos rfl, show k * 6 = k * 6 + 0 by omega, opsF_at hy 0 (by omega)]; rfl
  rw [if_neg e0]
  unfold opsF
  rw [hother (j / 6) (by omega)]
theorem take_put {xs : List Opn} {k : Nat} {x : Opn} (h : xs[k]? = some x) : (xs.take (k + 1))[k]? = some x ∧ ∀ i, i ≠ k → (xs.take (k + 1))[i]? = (xs.take k)[i]? := by
  refine ⟨by rw [List.getElem?_take, if_pos (by omega)]; exact h, fun i hi => ?_⟩
  rw [List.getElem?_take, List.getElem?_take]
  by_cases hlt : i < k
  · rw [if_pos hlt, if_pos (by omega)]
  · rw [if_neg hlt, if_neg (by omega)]
/-- Six cells are written: op k is x. -/
theorem OwnOps.put {w : World} {t : TypeId} {b n k : Nat} {xs ys : List Opn} {x : Opn} (h : OwnOps w t b n xs) (hy : ys[k]? = some x) (hother : ∀ i, i ≠ k → ys[i]? = xs[i]?) :
    OwnOps ((((((w.setCell ⟨b, k * 6, none⟩ (.int .i64 x.kind)).setCell ⟨b, k * 6 + 1, none⟩ (.int .i64 x.block)).setCell ⟨b, k * 6 + 2, none⟩ (.bool x.page.used)).setCell ⟨b, k * 6 + 3, none⟩ (.int .i64 x.page.log)).setCell ⟨b, k * 6 + 4, none⟩ (.int .i64 x.page.seq)).setCell ⟨b, k * 6 + 5, none⟩ (.string x.page.data)) t b n ys :=
  ((((((World.rowIs.set h (k * 6) _).set (k * 6 + 1) _).set (k * 6 + 2) _).set (k * 6 + 3) _).set (k * 6 + 4) _).set (k * 6 + 5) _).congr (fun j _ => opsF_put ys hy hother j)

/-- No text of an op is longer than a machine's number can say. -/
def OpTexts (xs : List Opn) : Prop := ∀ x ∈ xs, x.page.data.size ≤ 9223372036854775807
end Go.Proofs.Ytimencianaclmaa
