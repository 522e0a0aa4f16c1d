/- Pages and blocks that a call has made itself: each list in a row of its own. No program is named here. -/
import Derived.Test.YtaelbmilicfkhaaMem
import Derived.Laws.MakeOwn
namespace Go.Proofs.Ytaelbmilicfkhaa
open Go.RowKit
set_option linter.unusedVariables false

def zeroPg : Pg := ⟨false, 0, 0, ByteArray.empty⟩
def pgV (p : Pg) : Nat → Value
  | 0 => .bool p.used
  | 1 => .int .i64 p.log
  | 2 => .int .i64 p.seq
  | _ => .string p.data
/-- What stands in cell i of a row of pages (zero pages behind the last). -/
def pgsF (ps : List Pg) (i : Nat) : Value := pgV ((ps[i / 4]?).getD zeroPg) (i % 4)

theorem pgsF_at {ps : List Pg} {k : Nat} {p : Pg} (h : ps[k]? = some p) (j : Nat) (hj : j < 4) : pgsF ps (k * 4 + j) = pgV p j := by
  unfold pgsF
  rw [show (k * 4 + j) / 4 = k by omega, show (k * 4 + j) % 4 = j by omega, h]
  rfl

theorem set4 {w : World} {b : Nat} {t : TypeId} {N : Nat} {f : Nat → Value} (h : w.rowIs b t N f) (i : Nat) (v0 v1 v2 v3 : Value) :
    ((((w.setCell ⟨b, i, none⟩ v0).setCell ⟨b, i + 1, none⟩ v1).setCell ⟨b, i + 2, none⟩ v2).setCell ⟨b, i + 3, none⟩ v3).rowIs b t N
      (fun j => if j = i + 3 then v3 else if j = i + 2 then v2 else if j = i + 1 then v1 else if j = i then v0 else f j) :=
  (((h.set i v0).set (i + 1) v1).set (i + 2) v2).set (i + 3) v3

theorem pgsF_step {ps : List Pg} {k : Nat} {p : Pg} (h : ps[k]? = some p) (j : Nat) :
    (if j = k * 4 + 3 then Value.string p.data else if j = k * 4 + 2 then .int .i64 p.seq else if j = k * 4 + 1 then .int .i64 p.log else if j = k * 4 then .bool p.used else pgsF (ps.take k) j) = pgsF (ps.take (k + 1)) j := by
  have hk : k < ps.length := (List.getElem?_eq_some_iff.1 h).1
  have ht : (ps.take (k + 1))[k]? = some p := by rw [List.getElem?_take, if_pos (by omega)]; exact h
  by_cases e3 : j = k * 4 + 3
  · subst e3; rw [if_pos rfl, pgsF_at ht 3 (by omega)]; rfl
  rw [if_neg e3]
  by_cases e2 : j = k * 4 + 2
  · subst e2; rw [if_pos rfl, pgsF_at ht 2 (by omega)]; rfl
  rw [if_neg e2]
  by_cases e1 : j = k * 4 + 1
  · subst e1; rw [if_pos rfl, pgsF_at ht 1 (by omega)]; rfl
  rw [if_neg e1]
  by_cases e0 : j = k * 4
  · subst e0; rw [if_pos rfl, show k * 4 = k * 4 + 0 by omega, pgsF_at ht 0 (by omega)]; rfl
  rw [if_neg e0]
  unfold pgsF
  rw [List.getElem?_take, List.getElem?_take]
  by_cases hlt : j / 4 < k
  · rw [if_pos hlt, if_pos (by omega)]
  · rw [if_neg hlt, if_neg (by omega)]

/-- A row of pages that is the call's own. -/
def OwnPages (w : World) (t : TypeId) (b : Nat) (n : Nat) (ps : List Pg) : Prop := w.rowIs b t (n * 4) (pgsF ps)

theorem OwnPages.pagesAt {w : World} {t : TypeId} {b : Nat} {n : Nat} {ps : List Pg} (h : OwnPages w t b n ps) (hn : ps.length ≤ n) : PagesAt w (some ⟨b, 0, none⟩) ps := by
  intro i p hp
  have hi : i < ps.length := (List.getElem?_eq_some_iff.1 hp).1
  have c : ∀ j, j < 4 → w.cell? ⟨b, i * 4 + j, none⟩ = some (pgV p j) := fun j hj => by
    rw [World.rowIs.cell h (i := i * 4 + j) (by omega), pgsF_at hp j hj]
  refine ⟨b, 0, rfl, ?_, ?_, ?_, ?_⟩
  · rw [show 0 + i * 4 = i * 4 + 0 by omega]; exact c 0 (by omega)
  · rw [show 0 + i * 4 + 1 = i * 4 + 1 by omega]; exact c 1 (by omega)
  · rw [show 0 + i * 4 + 2 = i * 4 + 2 by omega]; exact c 2 (by omega)
  · rw [show 0 + i * 4 + 3 = i * 4 + 3 by omega]; exact c 3 (by omega)

theorem OwnPages.below {w w' : World} {t : TypeId} {b n : Nat} {ps : List Pg} (h : OwnPages w t b n ps) {B : Nat} (hb : Below B w w') (hB : b < B) : OwnPages w' t b n ps :=
  World.rowIs.of_block h (hb.block b hB)

theorem OwnPages.put {w : World} {t : TypeId} {b n k : Nat} {ps : List Pg} {p : Pg} (h : OwnPages w t b n (ps.take k)) (hp : ps[k]? = some p) :
    OwnPages ((((w.setCell ⟨b, k * 4, none⟩ (.bool p.used)).setCell ⟨b, k * 4 + 1, none⟩ (.int .i64 p.log)).setCell ⟨b, k * 4 + 2, none⟩ (.int .i64 p.seq)).setCell ⟨b, k * 4 + 3, none⟩ (.string p.data)) t b n (ps.take (k + 1)) :=
  (set4 h (k * 4) _ _ _ _).congr (fun j _ => pgsF_step hp j)

theorem OwnPages.cells {w : World} {t : TypeId} {b n : Nat} {ps : List Pg} (h : OwnPages w t b n ps) {k : Nat} (hk : k < n) :
    (∃ v, w.cell? ⟨b, k * 4, none⟩ = some v) ∧ (∃ v, w.cell? ⟨b, k * 4 + 1, none⟩ = some v) ∧ (∃ v, w.cell? ⟨b, k * 4 + 2, none⟩ = some v) ∧ (∃ v, w.cell? ⟨b, k * 4 + 3, none⟩ = some v) :=
  ⟨⟨_, World.rowIs.cell h (by omega)⟩, ⟨_, World.rowIs.cell h (by omega)⟩, ⟨_, World.rowIs.cell h (by omega)⟩, ⟨_, World.rowIs.cell h (by omega)⟩⟩

theorem OwnPages.made (w : World) (t : TypeId) (n : Nat) : OwnPages (w.alloc (.cells (madeCells #[.bool false, .int .i64 0, .int .i64 0, .string ByteArray.empty] (n * 4)) t)) t w.heap.size n [] := by
  refine ⟨_, Go.Deep.blk_alloc_new _ _, size_madeCells _ _, fun i hi => ?_⟩
  simp only [madeCells, Array.getElem?_map, Array.getElem?_range, hi, if_true, Option.map_some]
  unfold pgsF
  have h4 : i % 4 = 0 ∨ i % 4 = 1 ∨ i % 4 = 2 ∨ i % 4 = 3 := by omega
  rcases h4 with e | e | e | e <;> simp [e, pgV, zeroPg]

/-- What stands in cell j of a row of blocks whose i-th pages lie in block H i (zero blocks behind the last). -/
def bkV (H : Nat) (b : Bk) : Nat → Value
  | 0 => .int .i64 b.wear
  | _ => .slice (some ⟨H, 0, none⟩) b.pages.length b.pages.length
def zbV : Nat → Value
  | 0 => .int .i64 0
  | _ => .slice none 0 0
def bksF (H : Nat → Nat) (bs : List Bk) (j : Nat) : Value :=
  match bs[j / 2]? with
  | some b => bkV (H (j / 2)) b (j % 2)
  | none => zbV (j % 2)

theorem bksF_at (H : Nat → Nat) {bs : List Bk} {k : Nat} {b : Bk} (h : bs[k]? = some b) (j : Nat) (hj : j < 2) : bksF H bs (k * 2 + j) = bkV (H k) b j := by
  unfold bksF
  rw [show (k * 2 + j) / 2 = k by omega, show (k * 2 + j) % 2 = j by omega, h]

theorem bksF_step (H : Nat → Nat) {bs : List Bk} {k : Nat} {b : Bk} (h : bs[k]? = some b) (g : Nat) (j : Nat) :
    (if j = k * 2 + 1 then Value.slice (some ⟨g, 0, none⟩) b.pages.length b.pages.length else if j = k * 2 then .int .i64 b.wear else bksF H (bs.take k) j) = bksF (fun i => if i = k then g else H i) (bs.take (k + 1)) j := by
  have hk : k < bs.length := (List.getElem?_eq_some_iff.1 h).1
  have ht : (bs.take (k + 1))[k]? = some b := by rw [List.getElem?_take, if_pos (by omega)]; exact h
  by_cases e1 : j = k * 2 + 1
  · subst e1; rw [if_pos rfl, bksF_at _ ht 1 (by omega)]; simp [bkV]
  rw [if_neg e1]
  by_cases e0 : j = k * 2
  · subst e0; rw [if_pos rfl, show k * 2 = k * 2 + 0 by omega, bksF_at _ ht 0 (by omega)]; rfl
  rw [if_neg e0]
  unfold bksF
  have hne : j / 2 ≠ k := by omega
  simp only [if_neg hne]
  rw [List.getElem?_take, List.getElem?_take]
  by_cases hlt : j / 2 < k
  · rw [if_pos hlt, if_pos (by omega)]
  · rw [if_neg hlt, if_neg (by omega)]

/-- Rows that are the call's own: the blocks in row g (room for n), the pages of the i-th in row H i: g ahead of all of them, and they in order. -/
structure OwnBlocks (w : World) (tB tP : TypeId) (g : Nat) (H : Nat → Nat) (n : Nat) (bs : List Bk) : Prop where
  row : w.rowIs g tB (n * 2) (bksF H bs)
  pages : ∀ i b, bs[i]? = some b → OwnPages w tP (H i) b.pages.length b.pages
  ahead : ∀ i, i < bs.length → g < H i
  order : ∀ i j, i < j → j < bs.length → H i < H j

theorem OwnBlocks.lt {w : World} {tB tP : TypeId} {g : Nat} {H : Nat → Nat} {n : Nat} {bs : List Bk} (h : OwnBlocks w tB tP g H n bs) {i : Nat} (hi : i < bs.length) : H i < w.heap.size := by
  obtain ⟨b, hb⟩ := getElem?_ex hi
  exact World.rowIs.lt (h.pages i b hb)

theorem OwnBlocks.below {w w' : World} {tB tP : TypeId} {g : Nat} {H : Nat → Nat} {n : Nat} {bs : List Bk} (h : OwnBlocks w tB tP g H n bs) {B : Nat} (hb : Below B w w') (hB : w.heap.size ≤ B) : OwnBlocks w' tB tP g H n bs :=
  ⟨h.row.of_block (hb.block g (Nat.lt_of_lt_of_le h.row.lt hB)), fun i b hi => (h.pages i b hi).below hb (Nat.lt_of_lt_of_le (World.rowIs.lt (h.pages i b hi)) hB), h.ahead, h.order⟩

theorem OwnBlocks.blocksAt {w : World} {tB tP : TypeId} {g : Nat} {H : Nat → Nat} {n : Nat} {bs : List Bk} (h : OwnBlocks w tB tP g H n bs) (hn : bs.length ≤ n) : BlocksAt w (some ⟨g, 0, none⟩) bs := by
  intro i b hb
  have hi : i < bs.length := (List.getElem?_eq_some_iff.1 hb).1
  have c : ∀ j, j < 2 → w.cell? ⟨g, i * 2 + j, none⟩ = some (bkV (H i) b j) := fun j hj => by
    rw [h.row.cell (i := i * 2 + j) (by omega), bksF_at H hb j hj]
  refine ⟨g, 0, some ⟨H i, 0, none⟩, b.pages.length, rfl, ?_, ?_, (h.pages i b hb).pagesAt (Nat.le_refl _)⟩
  · rw [show 0 + i * 2 = i * 2 + 0 by omega]; exact c 0 (by omega)
  · rw [show 0 + i * 2 + 1 = i * 2 + 1 by omega]; exact c 1 (by omega)

theorem madeBlocks (w : World) (t : TypeId) (H : Nat → Nat) (n : Nat) : (w.alloc (.cells (madeCells #[.int .i64 0, .slice none 0 0] (n * 2)) t)).rowIs w.heap.size t (n * 2) (bksF H []) := by
  refine ⟨_, Go.Deep.blk_alloc_new _ _, size_madeCells _ _, fun i hi => ?_⟩
  simp only [madeCells, Array.getElem?_map, Array.getElem?_range, hi, if_true, Option.map_some]
  unfold bksF
  have h2 : i % 2 = 0 ∨ i % 2 = 1 := by omega
  rcases h2 with e | e <;> simp [e, zbV]

theorem OwnBlocks.made (w : World) (tB tP : TypeId) (H : Nat → Nat) (n : Nat) : OwnBlocks (w.alloc (.cells (madeCells #[.int .i64 0, .slice none 0 0] (n * 2)) tB)) tB tP w.heap.size H n [] :=
  ⟨madeBlocks w tB H n, fun i b h => by simp at h, fun i h => absurd h (Nat.not_lt_zero _), fun i j _ h => absurd h (Nat.not_lt_zero _)⟩

/-- One block more, its pages in a row that lies behind all the others. -/
theorem OwnBlocks.put {w : World} {tB tP : TypeId} {g : Nat} {H : Nat → Nat} {n k : Nat} {bs : List Bk} {b : Bk} {q : Nat} (h : OwnBlocks w tB tP g H n (bs.take k)) (hb : bs[k]? = some b)
    (hq : OwnPages w tP q b.pages.length b.pages) (hg : g < q) (hlt : ∀ i, i < k → H i < q) :
    OwnBlocks ((w.setCell ⟨g, k * 2, none⟩ (.int .i64 b.wear)).setCell ⟨g, k * 2 + 1, none⟩ (.slice (some ⟨q, 0, none⟩) b.pages.length b.pages.length)) tB tP g (fun i => if i = k then q else H i) n (bs.take (k + 1)) := by
  have hk : k < bs.length := (List.getElem?_eq_some_iff.1 hb).1
  have hl : (bs.take (k + 1)).length = k + 1 := by simp; omega
  have hl0 : (bs.take k).length = k := by simp; omega
  refine ⟨((h.row.set (k * 2) _).set (k * 2 + 1) _).congr (fun j _ => bksF_step H hb q j), ?_, ?_, ?_⟩
  · intro i c hc
    rw [List.getElem?_take] at hc
    by_cases e : i = k
    · subst e
      rw [if_pos (by omega), hb] at hc
      cases hc
      simp only [if_true]
      exact (World.rowIs.setOther (World.rowIs.setOther hq (by show q ≠ g; omega) _) (by show q ≠ g; omega) _)
    · simp only [if_neg e]
      by_cases hi : i < k + 1
      · rw [if_pos hi] at hc
        have hc' : (bs.take k)[i]? = some c := by rw [List.getElem?_take, if_pos (by omega)]; exact hc
        have hne : g < H i := h.ahead i (by omega)
        exact (World.rowIs.setOther (World.rowIs.setOther (h.pages i c hc') (by show H i ≠ g; omega) _) (by show H i ≠ g; omega) _)
      · rw [if_neg hi] at hc; cases hc
  · intro i hi
    by_cases e : i = k
    · simp only [if_pos e]; exact hg
    · simp only [if_neg e]; exact h.ahead i (by omega)
  · intro i j hij hj
    rw [hl] at hj
    by_cases e : j = k
    · simp only [if_pos e, if_neg (show ¬ i = k by omega)]; exact hlt i (by omega)
    · simp only [if_neg e, if_neg (show ¬ i = k by omega)]; exact h.order i j hij (by omega)

/-- A store into a row that lies ahead of all of them. -/
theorem OwnBlocks.setOther {w : World} {tB tP : TypeId} {g : Nat} {H : Nat → Nat} {n : Nat} {bs : List Bk} (h : OwnBlocks w tB tP g H n bs) {a : Addr} (ha : a.block < g) (v : Value) : OwnBlocks (w.setCell a v) tB tP g H n bs :=
  ⟨h.row.setOther (by omega) v, fun i b hb => World.rowIs.setOther (h.pages i b hb) (by have := h.ahead i (List.getElem?_eq_some_iff.1 hb).1; omega) v, h.ahead, h.order⟩

/-- Of what was there only the rows of S may have turned. -/
structure Touch (S : Nat → Prop) (w w' : World) : Prop where
  os : w'.os = w.os
  tape : w'.tape = w.tape
  output : w'.output = w.output
  size : w.heap.size ≤ w'.heap.size
  block : ∀ k, k < w.heap.size → ¬ S k → w'.heap[k]? = w.heap[k]?

theorem Touch.refl (S : Nat → Prop) (w : World) : Touch S w w := ⟨rfl, rfl, rfl, Nat.le_refl _, fun _ _ _ => rfl⟩
theorem Touch.trans {S : Nat → Prop} {a b c : World} (h : Touch S a b) (k : Touch S b c) : Touch S a c :=
  ⟨k.os.trans h.os, k.tape.trans h.tape, k.output.trans h.output, Nat.le_trans h.size k.size, fun i hi hs => (k.block i (Nat.lt_of_lt_of_le hi h.size) hs).trans (h.block i hi hs)⟩
theorem Touch.of_below {S : Nat → Prop} {w w' : World} (h : Below w.heap.size w w') : Touch S w w' := ⟨h.os, h.tape, h.output, h.size, fun k hk _ => h.block k hk⟩
theorem Touch.mono {S S' : Nat → Prop} {w w' : World} (h : Touch S w w') (hS : ∀ k, S k → S' k) : Touch S' w w' := ⟨h.os, h.tape, h.output, h.size, fun k hk hs => h.block k hk (fun x => hs (hS k x))⟩
theorem Touch.setCell {S : Nat → Prop} {a w : World} (h : Touch S a w) {p : Addr} (hp : S p.block) (u : Value) : Touch S a (w.setCell p u) :=
  h.trans ⟨rfl, rfl, rfl, by simp [World.setCell], fun k hk hs => Below.heap_setCell _ _ _ _ (fun e => hs (by rw [e]; exact hp))⟩
theorem Touch.drew {S : Nat → Prop} {a w : World} (h : Touch S a w) : Touch S a w.drew := ⟨h.os, h.tape, h.output, h.size, h.block⟩
theorem Touch.below {S : Nat → Prop} {w w' : World} (h : Touch S w w') {B : Nat} (hB : B ≤ w.heap.size) (hS : ∀ k, S k → B ≤ k) : Below B w w' :=
  ⟨h.os, h.tape, h.output, h.size, fun k hk => h.block k (Nat.lt_of_lt_of_le hk hB) (fun x => by have := hS k x; omega)⟩

theorem pgsF_set {L : List Pg} {k : Nat} {p : Pg} (hk : k < L.length) (j : Nat) :
    (if j = k * 4 + 3 then Value.string p.data else if j = k * 4 + 2 then .int .i64 p.seq else if j = k * 4 + 1 then .int .i64 p.log else if j = k * 4 then .bool p.used else pgsF L j) = pgsF (L.set k p) j := by
  have ht : (L.set k p)[k]? = some p := by simp [hk]
  by_cases e3 : j = k * 4 + 3
  · subst e3; rw [if_pos rfl, pgsF_at ht 3 (by omega)]; rfl
  rw [if_neg e3]
  by_cases e2 : j = k * 4 + 2
  · subst e2; rw [if_pos rfl, pgsF_at ht 2 (by omega)]; rfl
  rw [if_neg e2]
  by_cases e1 : j = k * 4 + 1
  · subst e1; rw [if_pos rfl, pgsF_at ht 1 (by omega)]; rfl
  rw [if_neg e1]
  by_cases e0 : j = k * 4
  · subst e0; rw [if_pos rfl, show k * 4 = k * 4 + 0 by omega, pgsF_at ht 0 (by omega)]; rfl
  rw [if_neg e0]
  unfold pgsF
  rw [List.getElem?_set, if_neg (by omega)]

theorem bksF_setWear (H : Nat → Nat) {L : List Bk} {k : Nat} {b : Bk} (hb : L[k]? = some b) (x : Int) (j : Nat) :
    (if j = k * 2 then Value.int .i64 x else bksF H L j) = bksF H (L.set k ⟨x, b.pages⟩) j := by
  have hk : k < L.length := (List.getElem?_eq_some_iff.1 hb).1
  have ht : (L.set k ⟨x, b.pages⟩)[k]? = some ⟨x, b.pages⟩ := by simp [hk]
  by_cases e0 : j = k * 2
  · subst e0; rw [if_pos rfl, show k * 2 = k * 2 + 0 by omega, bksF_at H ht 0 (by omega)]; rfl
  rw [if_neg e0]
  by_cases e1 : j = k * 2 + 1
  · subst e1; rw [bksF_at H hb 1 (by omega), bksF_at H ht 1 (by omega)]; rfl
  unfold bksF
  rw [List.getElem?_set, if_neg (by omega)]

theorem bksF_setPages (H : Nat → Nat) {L : List Bk} {k : Nat} {b : Bk} (hb : L[k]? = some b) (ps : List Pg) (hl : ps.length = b.pages.length) (j : Nat) :
    bksF H L j = bksF H (L.set k ⟨b.wear, ps⟩) j := by
  have hk : k < L.length := (List.getElem?_eq_some_iff.1 hb).1
  have ht : (L.set k ⟨b.wear, ps⟩)[k]? = some ⟨b.wear, ps⟩ := by simp [hk]
  by_cases e0 : j = k * 2
  · subst e0; rw [show k * 2 = k * 2 + 0 by omega, bksF_at H hb 0 (by omega), bksF_at H ht 0 (by omega)]; rfl
  by_cases e1 : j = k * 2 + 1
  · subst e1; rw [bksF_at H hb 1 (by omega), bksF_at H ht 1 (by omega)]; simp [bkV, hl]
  unfold bksF
  rw [List.getElem?_set, if_neg (by omega)]

/-- The i-th pages are written anew, in their own row. -/
theorem OwnBlocks.setPages {w w' : World} {tB tP : TypeId} {g : Nat} {H : Nat → Nat} {n k : Nat} {L : List Bk} {b : Bk} (h : OwnBlocks w tB tP g H n L) (hb : L[k]? = some b) {ps : List Pg} (hl : ps.length = b.pages.length)
    (hO : OwnPages w' tP (H k) b.pages.length ps) (ht : Touch (· = H k) w w') : OwnBlocks w' tB tP g H n (L.set k ⟨b.wear, ps⟩) := by
  have hk : k < L.length := (List.getElem?_eq_some_iff.1 hb).1
  have hgk := h.ahead k hk
  refine ⟨(h.row.of_block (ht.block g h.row.lt (by omega))).congr (fun j _ => bksF_setPages H hb ps hl j), ?_, ?_, ?_⟩
  · intro i c hc
    rw [List.getElem?_set] at hc
    by_cases e : k = i
    · subst e
      rw [if_pos rfl, if_pos hk] at hc
      cases hc
      show OwnPages w' tP (H k) ps.length ps
      rw [hl]; exact hO
    · rw [if_neg e] at hc
      have hi : i < L.length := (List.getElem?_eq_some_iff.1 hc).1
      have hne : H i ≠ H k := by
        rcases Nat.lt_or_gt_of_ne e with h1 | h1
        · have := h.order k i h1 hi; omega
        · have := h.order i k h1 hk; omega
      exact World.rowIs.of_block (h.pages i c hc) (ht.block (H i) (h.lt hi) hne)
  · intro i hi; exact h.ahead i (by simpa using hi)
  · intro i j hij hj; exact h.order i j hij (by simpa using hj)

/-- The i-th block's wear is written anew. -/
theorem OwnBlocks.setWear {w : World} {tB tP : TypeId} {g : Nat} {H : Nat → Nat} {n k : Nat} {L : List Bk} {b : Bk} (h : OwnBlocks w tB tP g H n L) (hb : L[k]? = some b) (x : Int) :
    OwnBlocks (w.setCell ⟨g, k * 2, none⟩ (.int .i64 x)) tB tP g H n (L.set k ⟨x, b.pages⟩) := by
  have hk : k < L.length := (List.getElem?_eq_some_iff.1 hb).1
  refine ⟨(h.row.set (k * 2) _).congr (fun j _ => bksF_setWear H hb x j), ?_, ?_, ?_⟩
  · intro i c hc
    rw [List.getElem?_set] at hc
    by_cases e : k = i
    · subst e
      rw [if_pos rfl, if_pos hk] at hc
      cases hc
      have hgk := h.ahead k hk
      exact World.rowIs.setOther (h.pages k b hb) (by show H k ≠ g; omega) _
    · rw [if_neg e] at hc
      have hgi := h.ahead i (List.getElem?_eq_some_iff.1 hc).1
      exact World.rowIs.setOther (h.pages i c hc) (by show H i ≠ g; omega) _
  · intro i hi; exact h.ahead i (by simpa using hi)
  · intro i j hij hj; exact h.order i j hij (by simpa using hj)

end Go.Proofs.Ytaelbmilicfkhaa
