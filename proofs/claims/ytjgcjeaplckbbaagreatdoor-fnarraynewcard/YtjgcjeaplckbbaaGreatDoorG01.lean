/- 12 texts in one. -/
import Derived.WalkKit
import Derived.Deep.OwnRows
import Derived.Laws.MakeOwn
import Derived.Deep.AppendLies
import Derived.Test.YtjgcjeaplckbbaaGreatDoorChecked
import Derived.Outline
import Derived.Deep.RegionHeld3
import Derived.Deep.RegionLaw
import Derived.Laws.Tables
import Derived.Laws.Rows
import Derived.Laws.CopyRow
import Derived.Laws.Closers25b

/- Plain words for pages, blocks and chips as they lie in memory: no program is named here. -/
namespace Go.Proofs.YtjgcjeaplckbbaaGreatDoor
open Go.RowKit
set_option linter.unusedVariables false

theorem hide {p : Prop} (h : p) : Hid p := h
theorem unhide {p : Prop} (h : Hid p) : p := h

structure Pg where
  used : Bool
  log : Int
  seq : Int
  data : ByteArray

structure Bk where
  wear : Int
  pages : List Pg

/-- The pages ps lie, one behind the other, from the address a on. -/
def PagesAt (w : World) (a : Option Addr) (ps : List Pg) : Prop :=
  ∀ i p, ps[i]? = some p → ∃ b o, a = some ⟨b, o, none⟩ ∧ w.cell? ⟨b, o + i * 4, none⟩ = some (.bool p.used) ∧ w.cell? ⟨b, o + i * 4 + 1, none⟩ = some (.int .i64 p.log) ∧
    w.cell? ⟨b, o + i * 4 + 2, none⟩ = some (.int .i64 p.seq) ∧ w.cell? ⟨b, o + i * 4 + 3, none⟩ = some (.string p.data)

theorem PagesAt.below {w w' : World} {a : Option Addr} {ps : List Pg} (h : PagesAt w a ps) {B : Nat} (hb : Below B w w') (hB : w.heap.size ≤ B) : PagesAt w' a ps := by
  intro i p hp
  obtain ⟨b, o, ha, h0, h1, h2, h3⟩ := h i p hp
  have hlt : b < B := Nat.lt_of_lt_of_le (World.block_lt_of_cell? _ _ h0) hB
  exact ⟨b, o, ha, by rw [hb.cell (p := ⟨b, _, none⟩) hlt]; exact h0, by rw [hb.cell (p := ⟨b, _, none⟩) hlt]; exact h1, by rw [hb.cell (p := ⟨b, _, none⟩) hlt]; exact h2, by rw [hb.cell (p := ⟨b, _, none⟩) hlt]; exact h3⟩

/-- The blocks bs lie, one behind the other, from the address a on, each with its pages. -/
def BlocksAt (w : World) (a : Option Addr) (bs : List Bk) : Prop :=
  ∀ i b, bs[i]? = some b → ∃ g o pa pc, a = some ⟨g, o, none⟩ ∧ w.cell? ⟨g, o + i * 2, none⟩ = some (.int .i64 b.wear) ∧ w.cell? ⟨g, o + i * 2 + 1, none⟩ = some (.slice pa b.pages.length pc) ∧ PagesAt w pa b.pages

theorem BlocksAt.below {w w' : World} {a : Option Addr} {bs : List Bk} (h : BlocksAt w a bs) {B : Nat} (hb : Below B w w') (hB : w.heap.size ≤ B) : BlocksAt w' a bs := by
  intro i b hp
  obtain ⟨g, o, pa, pc, ha, h0, h1, h2⟩ := h i b hp
  have hlt : g < B := Nat.lt_of_lt_of_le (World.block_lt_of_cell? _ _ h0) hB
  exact ⟨g, o, pa, pc, ha, by rw [hb.cell (p := ⟨g, _, none⟩) hlt]; exact h0, by rw [hb.cell (p := ⟨g, _, none⟩) hlt]; exact h1, h2.below hb hB⟩

/-- No list of the chip is longer than n. -/
def Lens (n : Nat) (bs : List Bk) : Prop := bs.length ≤ n ∧ ∀ b ∈ bs, b.pages.length ≤ n

theorem Lens.at {n : Nat} {bs : List Bk} (h : Lens n bs) {i : Nat} {b : Bk} (hb : bs[i]? = some b) : b.pages.length ≤ n := h.2 b (List.mem_of_getElem? hb)

/-- No text of the chip is longer than a machine's number can say. -/
def Texts (bs : List Bk) : Prop := ∀ b ∈ bs, ∀ p ∈ b.pages, p.data.size ≤ 9223372036854775807

theorem Texts.at {bs : List Bk} (h : Texts bs) {i : Nat} {b : Bk} (hb : bs[i]? = some b) : ∀ p ∈ b.pages, p.data.size ≤ 9223372036854775807 := h b (List.mem_of_getElem? hb)

/-- What lay below reads as it did, cell by cell: two rules for the walk. -/
theorem bcell {W w1 : World} (hb : Below W.heap.size W w1) : (∀ b o, b < W.heap.size → w1.cell? ⟨b, o, none⟩ = W.cell? ⟨b, o, none⟩) ∧ (∀ b o, b < W.heap.size → w1.frozen? ⟨b, o, none⟩ = W.frozen? ⟨b, o, none⟩) :=
  ⟨fun b o h => hb.cell (p := ⟨b, o, none⟩) h, fun b o h => hb.frozen (p := ⟨b, o, none⟩) h⟩

theorem frozen_alloc_lt (w : World) (o : Obj) (b off : Nat) (h : b < w.heap.size) : (w.alloc o).frozen? ⟨b, off, none⟩ = w.frozen? ⟨b, off, none⟩ :=
  ((Below.refl w.heap.size w).alloc (Nat.le_refl _) o).frozen (p := ⟨b, off, none⟩) h
theorem cell_alloc_lt (w : World) (o : Obj) (b off : Nat) (h : b < w.heap.size) : (w.alloc o).cell? ⟨b, off, none⟩ = w.cell? ⟨b, off, none⟩ :=
  ((Below.refl w.heap.size w).alloc (Nat.le_refl _) o).cell (p := ⟨b, off, none⟩) h
theorem frozen_drew (w : World) (a : Addr) : w.drew.frozen? a = w.frozen? a := rfl
theorem cell_drew (w : World) (a : Addr) : w.drew.cell? a = w.cell? a := rfl

theorem getElem?_ex {α : Type} {l : List α} {k : Nat} (h : k < l.length) : ∃ p, l[k]? = some p := ⟨l[k], by simp [h]⟩

end Go.Proofs.YtjgcjeaplckbbaaGreatDoor

/- Pages and blocks that a call has made itself: each list in a row of its own. No program is named here. -/
namespace Go.Proofs.YtjgcjeaplckbbaaGreatDoor
open Go.RowKit
set_option linter.unusedVariables false

def zeroPg : Pg := ⟨false, 0, 0, ByteArray.empty⟩
def pgV (p : Pg) : Nat → Value
  | 0 => .bool p.used
  | 1 => .int .i64 p.log
  | 2 => .int .i64 p.seq
  | _ => .string p.data
/-- What stands in cell i of a row of pages (zero pages behind the last). -/
def pgsF (ps : List Pg) (i : Nat) : Value := pgV ((ps[i / 4]?).getD zeroPg) (i % 4)

theorem pgsF_at {ps : List Pg} {k : Nat} {p : Pg} (h : ps[k]? = some p) (j : Nat) (hj : j < 4) : pgsF ps (k * 4 + j) = pgV p j := by
  unfold pgsF
  rw [show (k * 4 + j) / 4 = k by omega, show (k * 4 + j) % 4 = j by omega, h]
  rfl

theorem set4 {w : World} {b : Nat} {t : TypeId} {N : Nat} {f : Nat → Value} (h : w.rowIs b t N f) (i : Nat) (v0 v1 v2 v3 : Value) :
    ((((w.setCell ⟨b, i, none⟩ v0).setCell ⟨b, i + 1, none⟩ v1).setCell ⟨b, i + 2, none⟩ v2).setCell ⟨b, i + 3, none⟩ v3).rowIs b t N
      (fun j => if j = i + 3 then v3 else if j = i + 2 then v2 else if j = i + 1 then v1 else if j = i then v0 else f j) :=
  (((h.set i v0).set (i + 1) v1).set (i + 2) v2).set (i + 3) v3

theorem pgsF_step {ps : List Pg} {k : Nat} {p : Pg} (h : ps[k]? = some p) (j : Nat) :
    (if j = k * 4 + 3 then Value.string p.data else if j = k * 4 + 2 then .int .i64 p.seq else if j = k * 4 + 1 then .int .i64 p.log else if j = k * 4 then .bool p.used else pgsF (ps.take k) j) = pgsF (ps.take (k + 1)) j := by
  have hk : k < ps.length := (List.getElem?_eq_some_iff.1 h).1
  have ht : (ps.take (k + 1))[k]? = some p := by rw [List.getElem?_take, if_pos (by omega)]; exact h
  by_cases e3 : j = k * 4 + 3
  · subst e3; rw [if_pos rfl, pgsF_at ht 3 (by omega)]; rfl
  rw [if_neg e3]
  by_cases e2 : j = k * 4 + 2
  · subst e2; rw [if_pos rfl, pgsF_at ht 2 (by omega)]; rfl
  rw [if_neg e2]
  by_cases e1 : j = k * 4 + 1
  · subst e1; rw [if_pos rfl, pgsF_at ht 1 (by omega)]; rfl
  rw [if_neg e1]
  by_cases e0 : j = k * 4
  · subst e0; rw [if_pos rfl, show k * 4 = k * 4 + 0 by omega, pgsF_at ht 0 (by omega)]; rfl
  rw [if_neg e0]
  unfold pgsF
  rw [List.getElem?_take, List.getElem?_take]
  by_cases hlt : j / 4 < k
  · rw [if_pos hlt, if_pos (by omega)]
  · rw [if_neg hlt, if_neg (by omega)]

/-- A row of pages that is the call's own. -/
def OwnPages (w : World) (t : TypeId) (b : Nat) (n : Nat) (ps : List Pg) : Prop := w.rowIs b t (n * 4) (pgsF ps)

theorem OwnPages.pagesAt {w : World} {t : TypeId} {b : Nat} {n : Nat} {ps : List Pg} (h : OwnPages w t b n ps) (hn : ps.length ≤ n) : PagesAt w (some ⟨b, 0, none⟩) ps := by
  intro i p hp
  have hi : i < ps.length := (List.getElem?_eq_some_iff.1 hp).1
  have c : ∀ j, j < 4 → w.cell? ⟨b, i * 4 + j, none⟩ = some (pgV p j) := fun j hj => by
    rw [World.rowIs.cell h (i := i * 4 + j) (by omega), pgsF_at hp j hj]
  refine ⟨b, 0, rfl, ?_, ?_, ?_, ?_⟩
  · rw [show 0 + i * 4 = i * 4 + 0 by omega]; exact c 0 (by omega)
  · rw [show 0 + i * 4 + 1 = i * 4 + 1 by omega]; exact c 1 (by omega)
  · rw [show 0 + i * 4 + 2 = i * 4 + 2 by omega]; exact c 2 (by omega)
  · rw [show 0 + i * 4 + 3 = i * 4 + 3 by omega]; exact c 3 (by omega)

theorem OwnPages.below {w w' : World} {t : TypeId} {b n : Nat} {ps : List Pg} (h : OwnPages w t b n ps) {B : Nat} (hb : Below B w w') (hB : b < B) : OwnPages w' t b n ps :=
  World.rowIs.of_block h (hb.block b hB)

theorem OwnPages.put {w : World} {t : TypeId} {b n k : Nat} {ps : List Pg} {p : Pg} (h : OwnPages w t b n (ps.take k)) (hp : ps[k]? = some p) :
    OwnPages ((((w.setCell ⟨b, k * 4, none⟩ (.bool p.used)).setCell ⟨b, k * 4 + 1, none⟩ (.int .i64 p.log)).setCell ⟨b, k * 4 + 2, none⟩ (.int .i64 p.seq)).setCell ⟨b, k * 4 + 3, none⟩ (.string p.data)) t b n (ps.take (k + 1)) :=
  (set4 h (k * 4) _ _ _ _).congr (fun j _ => pgsF_step hp j)

theorem OwnPages.cells {w : World} {t : TypeId} {b n : Nat} {ps : List Pg} (h : OwnPages w t b n ps) {k : Nat} (hk : k < n) :
    (∃ v, w.cell? ⟨b, k * 4, none⟩ = some v) ∧ (∃ v, w.cell? ⟨b, k * 4 + 1, none⟩ = some v) ∧ (∃ v, w.cell? ⟨b, k * 4 + 2, none⟩ = some v) ∧ (∃ v, w.cell? ⟨b, k * 4 + 3, none⟩ = some v) :=
  ⟨⟨_, World.rowIs.cell h (by omega)⟩, ⟨_, World.rowIs.cell h (by omega)⟩, ⟨_, World.rowIs.cell h (by omega)⟩, ⟨_, World.rowIs.cell h (by omega)⟩⟩

theorem OwnPages.made (w : World) (t : TypeId) (n : Nat) : OwnPages (w.alloc (.cells (madeCells #[.bool false, .int .i64 0, .int .i64 0, .string ByteArray.empty] (n * 4)) t)) t w.heap.size n [] := by
  refine ⟨_, Go.Deep.blk_alloc_new _ _, size_madeCells _ _, fun i hi => ?_⟩
  simp only [madeCells, Array.getElem?_map, Array.getElem?_range, hi, if_true, Option.map_some]
  unfold pgsF
  have h4 : i % 4 = 0 ∨ i % 4 = 1 ∨ i % 4 = 2 ∨ i % 4 = 3 := by omega
  rcases h4 with e | e | e | e <;> simp [e, pgV, zeroPg]

/-- What stands in cell j of a row of blocks whose i-th pages lie in block H i (zero blocks behind the last). -/
def bkV (H : Nat) (b : Bk) : Nat → Value
  | 0 => .int .i64 b.wear
  | _ => .slice (some ⟨H, 0, none⟩) b.pages.length b.pages.length
def zbV : Nat → Value
  | 0 => .int .i64 0
  | _ => .slice none 0 0
def bksF (H : Nat → Nat) (bs : List Bk) (j : Nat) : Value :=
  match bs[j / 2]? with
  | some b => bkV (H (j / 2)) b (j % 2)
  | none => zbV (j % 2)

theorem bksF_at (H : Nat → Nat) {bs : List Bk} {k : Nat} {b : Bk} (h : bs[k]? = some b) (j : Nat) (hj : j < 2) : bksF H bs (k * 2 + j) = bkV (H k) b j := by
  unfold bksF
  rw [show (k * 2 + j) / 2 = k by omega, show (k * 2 + j) % 2 = j by omega, h]

theorem bksF_step (H : Nat → Nat) {bs : List Bk} {k : Nat} {b : Bk} (h : bs[k]? = some b) (g : Nat) (j : Nat) :
    (if j = k * 2 + 1 then Value.slice (some ⟨g, 0, none⟩) b.pages.length b.pages.length else if j = k * 2 then .int .i64 b.wear else bksF H (bs.take k) j) = bksF (fun i => if i = k then g else H i) (bs.take (k + 1)) j := by
  have hk : k < bs.length := (List.getElem?_eq_some_iff.1 h).1
  have ht : (bs.take (k + 1))[k]? = some b := by rw [List.getElem?_take, if_pos (by omega)]; exact h
  by_cases e1 : j = k * 2 + 1
  · subst e1; rw [if_pos rfl, bksF_at _ ht 1 (by omega)]; simp [bkV]
  rw [if_neg e1]
  by_cases e0 : j = k * 2
  · subst e0; rw [if_pos rfl, show k * 2 = k * 2 + 0 by omega, bksF_at _ ht 0 (by omega)]; rfl
  rw [if_neg e0]
  unfold bksF
  have hne : j / 2 ≠ k := by omega
  simp only [if_neg hne]
  rw [List.getElem?_take, List.getElem?_take]
  by_cases hlt : j / 2 < k
  · rw [if_pos hlt, if_pos (by omega)]
  · rw [if_neg hlt, if_neg (by omega)]

/-- Rows that are the call's own: the blocks in row g (room for n), the pages of the i-th in row H i: g ahead of all of them, and they in order. -/
structure OwnBlocks (w : World) (tB tP : TypeId) (g : Nat) (H : Nat → Nat) (n : Nat) (bs : List Bk) : Prop where
  row : w.rowIs g tB (n * 2) (bksF H bs)
  pages : ∀ i b, bs[i]? = some b → OwnPages w tP (H i) b.pages.length b.pages
  ahead : ∀ i, i < bs.length → g < H i
  order : ∀ i j, i < j → j < bs.length → H i < H j

theorem OwnBlocks.lt {w : World} {tB tP : TypeId} {g : Nat} {H : Nat → Nat} {n : Nat} {bs : List Bk} (h : OwnBlocks w tB tP g H n bs) {i : Nat} (hi : i < bs.length) : H i < w.heap.size := by
  obtain ⟨b, hb⟩ := getElem?_ex hi
  exact World.rowIs.lt (h.pages i b hb)

theorem OwnBlocks.below {w w' : World} {tB tP : TypeId} {g : Nat} {H : Nat → Nat} {n : Nat} {bs : List Bk} (h : OwnBlocks w tB tP g H n bs) {B : Nat} (hb : Below B w w') (hB : w.heap.size ≤ B) : OwnBlocks w' tB tP g H n bs :=
  ⟨h.row.of_block (hb.block g (Nat.lt_of_lt_of_le h.row.lt hB)), fun i b hi => (h.pages i b hi).below hb (Nat.lt_of_lt_of_le (World.rowIs.lt (h.pages i b hi)) hB), h.ahead, h.order⟩

theorem OwnBlocks.blocksAt {w : World} {tB tP : TypeId} {g : Nat} {H : Nat → Nat} {n : Nat} {bs : List Bk} (h : OwnBlocks w tB tP g H n bs) (hn : bs.length ≤ n) : BlocksAt w (some ⟨g, 0, none⟩) bs := by
  intro i b hb
  have hi : i < bs.length := (List.getElem?_eq_some_iff.1 hb).1
  have c : ∀ j, j < 2 → w.cell? ⟨g, i * 2 + j, none⟩ = some (bkV (H i) b j) := fun j hj => by
    rw [h.row.cell (i := i * 2 + j) (by omega), bksF_at H hb j hj]
  refine ⟨g, 0, some ⟨H i, 0, none⟩, b.pages.length, rfl, ?_, ?_, (h.pages i b hb).pagesAt (Nat.le_refl _)⟩
  · rw [show 0 + i * 2 = i * 2 + 0 by omega]; exact c 0 (by omega)
  · rw [show 0 + i * 2 + 1 = i * 2 + 1 by omega]; exact c 1 (by omega)

theorem madeBlocks (w : World) (t : TypeId) (H : Nat → Nat) (n : Nat) : (w.alloc (.cells (madeCells #[.int .i64 0, .slice none 0 0] (n * 2)) t)).rowIs w.heap.size t (n * 2) (bksF H []) := by
  refine ⟨_, Go.Deep.blk_alloc_new _ _, size_madeCells _ _, fun i hi => ?_⟩
  simp only [madeCells, Array.getElem?_map, Array.getElem?_range, hi, if_true, Option.map_some]
  unfold bksF
  have h2 : i % 2 = 0 ∨ i % 2 = 1 := by omega
  rcases h2 with e | e <;> simp [e, zbV]

theorem OwnBlocks.made (w : World) (tB tP : TypeId) (H : Nat → Nat) (n : Nat) : OwnBlocks (w.alloc (.cells (madeCells #[.int .i64 0, .slice none 0 0] (n * 2)) tB)) tB tP w.heap.size H n [] :=
  ⟨madeBlocks w tB H n, fun i b h => by simp at h, fun i h => absurd h (Nat.not_lt_zero _), fun i j _ h => absurd h (Nat.not_lt_zero _)⟩

/-- One block more, its pages in a row that lies behind all the others. -/
theorem OwnBlocks.put {w : World} {tB tP : TypeId} {g : Nat} {H : Nat → Nat} {n k : Nat} {bs : List Bk} {b : Bk} {q : Nat} (h : OwnBlocks w tB tP g H n (bs.take k)) (hb : bs[k]? = some b)
    (hq : OwnPages w tP q b.pages.length b.pages) (hg : g < q) (hlt : ∀ i, i < k → H i < q) :
    OwnBlocks ((w.setCell ⟨g, k * 2, none⟩ (.int .i64 b.wear)).setCell ⟨g, k * 2 + 1, none⟩ (.slice (some ⟨q, 0, none⟩) b.pages.length b.pages.length)) tB tP g (fun i => if i = k then q else H i) n (bs.take (k + 1)) := by
  have hk : k < bs.length := (List.getElem?_eq_some_iff.1 hb).1
  have hl : (bs.take (k + 1)).length = k + 1 := by simp; omega
  have hl0 : (bs.take k).length = k := by simp; omega
  refine ⟨((h.row.set (k * 2) _).set (k * 2 + 1) _).congr (fun j _ => bksF_step H hb q j), ?_, ?_, ?_⟩
  · intro i c hc
    rw [List.getElem?_take] at hc
    by_cases e : i = k
    · subst e
      rw [if_pos (by omega), hb] at hc
      cases hc
      simp only [if_true]
      exact (World.rowIs.setOther (World.rowIs.setOther hq (by show q ≠ g; omega) _) (by show q ≠ g; omega) _)
    · simp only [if_neg e]
      by_cases hi : i < k + 1
      · rw [if_pos hi] at hc
        have hc' : (bs.take k)[i]? = some c := by rw [List.getElem?_take, if_pos (by omega)]; exact hc
        have hne : g < H i := h.ahead i (by omega)
        exact (World.rowIs.setOther (World.rowIs.setOther (h.pages i c hc') (by show H i ≠ g; omega) _) (by show H i ≠ g; omega) _)
      · rw [if_neg hi] at hc; cases hc
  · intro i hi
    by_cases e : i = k
    · simp only [if_pos e]; exact hg
    · simp only [if_neg e]; exact h.ahead i (by omega)
  · intro i j hij hj
    rw [hl] at hj
    by_cases e : j = k
    · simp only [if_pos e, if_neg (show ¬ i = k by omega)]; exact hlt i (by omega)
    · simp only [if_neg e, if_neg (show ¬ i = k by omega)]; exact h.order i j hij (by omega)

/-- A store into a row that lies ahead of all of them. -/
theorem OwnBlocks.setOther {w : World} {tB tP : TypeId} {g : Nat} {H : Nat → Nat} {n : Nat} {bs : List Bk} (h : OwnBlocks w tB tP g H n bs) {a : Addr} (ha : a.block < g) (v : Value) : OwnBlocks (w.setCell a v) tB tP g H n bs :=
  ⟨h.row.setOther (by omega) v, fun i b hb => World.rowIs.setOther (h.pages i b hb) (by have := h.ahead i (List.getElem?_eq_some_iff.1 hb).1; omega) v, h.ahead, h.order⟩

/-- Of what was there only the rows of S may have turned. -/
structure Touch (S : Nat → Prop) (w w' : World) : Prop where
  os : w'.os = w.os
  tape : w'.tape = w.tape
  output : w'.output = w.output
  size : w.heap.size ≤ w'.heap.size
  block : ∀ k, k < w.heap.size → ¬ S k → w'.heap[k]? = w.heap[k]?

theorem Touch.refl (S : Nat → Prop) (w : World) : Touch S w w := ⟨rfl, rfl, rfl, Nat.le_refl _, fun _ _ _ => rfl⟩
theorem Touch.trans {S : Nat → Prop} {a b c : World} (h : Touch S a b) (k : Touch S b c) : Touch S a c :=
  ⟨k.os.trans h.os, k.tape.trans h.tape, k.output.trans h.output, Nat.le_trans h.size k.size, fun i hi hs => (k.block i (Nat.lt_of_lt_of_le hi h.size) hs).trans (h.block i hi hs)⟩
theorem Touch.of_below {S : Nat → Prop} {w w' : World} (h : Below w.heap.size w w') : Touch S w w' := ⟨h.os, h.tape, h.output, h.size, fun k hk _ => h.block k hk⟩
theorem Touch.mono {S S' : Nat → Prop} {w w' : World} (h : Touch S w w') (hS : ∀ k, S k → S' k) : Touch S' w w' := ⟨h.os, h.tape, h.output, h.size, fun k hk hs => h.block k hk (fun x => hs (hS k x))⟩
theorem Touch.setCell {S : Nat → Prop} {a w : World} (h : Touch S a w) {p : Addr} (hp : S p.block) (u : Value) : Touch S a (w.setCell p u) :=
  h.trans ⟨rfl, rfl, rfl, by simp [World.setCell], fun k hk hs => Below.heap_setCell _ _ _ _ (fun e => hs (by rw [e]; exact hp))⟩
theorem Touch.drew {S : Nat → Prop} {a w : World} (h : Touch S a w) : Touch S a w.drew := ⟨h.os, h.tape, h.output, h.size, h.block⟩
theorem Touch.below {S : Nat → Prop} {w w' : World} (h : Touch S w w') {B : Nat} (hB : B ≤ w.heap.size) (hS : ∀ k, S k → B ≤ k) : Below B w w' :=
  ⟨h.os, h.tape, h.output, h.size, fun k hk => h.block k (Nat.lt_of_lt_of_le hk hB) (fun x => by have := hS k x; omega)⟩

theorem pgsF_set {L : List Pg} {k : Nat} {p : Pg} (hk : k < L.length) (j : Nat) :
    (if j = k * 4 + 3 then Value.string p.data else if j = k * 4 + 2 then .int .i64 p.seq else if j = k * 4 + 1 then .int .i64 p.log else if j = k * 4 then .bool p.used else pgsF L j) = pgsF (L.set k p) j := by
  have ht : (L.set k p)[k]? = some p := by simp [hk]
  by_cases e3 : j = k * 4 + 3
  · subst e3; rw [if_pos rfl, pgsF_at ht 3 (by omega)]; rfl
  rw [if_neg e3]
  by_cases e2 : j = k * 4 + 2
  · subst e2; rw [if_pos rfl, pgsF_at ht 2 (by omega)]; rfl
  rw [if_neg e2]
  by_cases e1 : j = k * 4 + 1
  · subst e1; rw [if_pos rfl, pgsF_at ht 1 (by omega)]; rfl
  rw [if_neg e1]
  by_cases e0 : j = k * 4
  · subst e0; rw [if_pos rfl, show k * 4 = k * 4 + 0 by omega, pgsF_at ht 0 (by omega)]; rfl
  rw [if_neg e0]
  unfold pgsF
  rw [List.getElem?_set, if_neg (by omega)]

theorem bksF_setWear (H : Nat → Nat) {L : List Bk} {k : Nat} {b : Bk} (hb : L[k]? = some b) (x : Int) (j : Nat) :
    (if j = k * 2 then Value.int .i64 x else bksF H L j) = bksF H (L.set k ⟨x, b.pages⟩) j := by
  have hk : k < L.length := (List.getElem?_eq_some_iff.1 hb).1
  have ht : (L.set k ⟨x, b.pages⟩)[k]? = some ⟨x, b.pages⟩ := by simp [hk]
  by_cases e0 : j = k * 2
  · subst e0; rw [if_pos rfl, show k * 2 = k * 2 + 0 by omega, bksF_at H ht 0 (by omega)]; rfl
  rw [if_neg e0]
  by_cases e1 : j = k * 2 + 1
  · subst e1; rw [bksF_at H hb 1 (by omega), bksF_at H ht 1 (by omega)]; rfl
  unfold bksF
  rw [List.getElem?_set, if_neg (by omega)]

theorem bksF_setPages (H : Nat → Nat) {L : List Bk} {k : Nat} {b : Bk} (hb : L[k]? = some b) (ps : List Pg) (hl : ps.length = b.pages.length) (j : Nat) :
    bksF H L j = bksF H (L.set k ⟨b.wear, ps⟩) j := by
  have hk : k < L.length := (List.getElem?_eq_some_iff.1 hb).1
  have ht : (L.set k ⟨b.wear, ps⟩)[k]? = some ⟨b.wear, ps⟩ := by simp [hk]
  by_cases e0 : j = k * 2
  · subst e0; rw [show k * 2 = k * 2 + 0 by omega, bksF_at H hb 0 (by omega), bksF_at H ht 0 (by omega)]; rfl
  by_cases e1 : j = k * 2 + 1
  · subst e1; rw [bksF_at H hb 1 (by omega), bksF_at H ht 1 (by omega)]; simp [bkV, hl]
  unfold bksF
  rw [List.getElem?_set, if_neg (by omega)]

/-- The i-th pages are written anew, in their own row. -/
theorem OwnBlocks.setPages {w w' : World} {tB tP : TypeId} {g : Nat} {H : Nat → Nat} {n k : Nat} {L : List Bk} {b : Bk} (h : OwnBlocks w tB tP g H n L) (hb : L[k]? = some b) {ps : List Pg} (hl : ps.length = b.pages.length)
    (hO : OwnPages w' tP (H k) b.pages.length ps) (ht : Touch (· = H k) w w') : OwnBlocks w' tB tP g H n (L.set k ⟨b.wear, ps⟩) := by
  have hk : k < L.length := (List.getElem?_eq_some_iff.1 hb).1
  have hgk := h.ahead k hk
  refine ⟨(h.row.of_block (ht.block g h.row.lt (by omega))).congr (fun j _ => bksF_setPages H hb ps hl j), ?_, ?_, ?_⟩
  · intro i c hc
    rw [List.getElem?_set] at hc
    by_cases e : k = i
    · subst e
      rw [if_pos rfl, if_pos hk] at hc
      cases hc
      show OwnPages w' tP (H k) ps.length ps
      rw [hl]; exact hO
    · rw [if_neg e] at hc
      have hi : i < L.length := (List.getElem?_eq_some_iff.1 hc).1
      have hne : H i ≠ H k := by
        rcases Nat.lt_or_gt_of_ne e with h1 | h1
        · have := h.order k i h1 hi; omega
        · have := h.order i k h1 hk; omega
      exact World.rowIs.of_block (h.pages i c hc) (ht.block (H i) (h.lt hi) hne)
  · intro i hi; exact h.ahead i (by simpa using hi)
  · intro i j hij hj; exact h.order i j hij (by simpa using hj)

/-- The i-th block's wear is written anew. -/
theorem OwnBlocks.setWear {w : World} {tB tP : TypeId} {g : Nat} {H : Nat → Nat} {n k : Nat} {L : List Bk} {b : Bk} (h : OwnBlocks w tB tP g H n L) (hb : L[k]? = some b) (x : Int) :
    OwnBlocks (w.setCell ⟨g, k * 2, none⟩ (.int .i64 x)) tB tP g H n (L.set k ⟨x, b.pages⟩) := by
  have hk : k < L.length := (List.getElem?_eq_some_iff.1 hb).1
  refine ⟨(h.row.set (k * 2) _).congr (fun j _ => bksF_setWear H hb x j), ?_, ?_, ?_⟩
  · intro i c hc
    rw [List.getElem?_set] at hc
    by_cases e : k = i
    · subst e
      rw [if_pos rfl, if_pos hk] at hc
      cases hc
      have hgk := h.ahead k hk
      exact World.rowIs.setOther (h.pages k b hb) (by show H k ≠ g; omega) _
    · rw [if_neg e] at hc
      have hgi := h.ahead i (List.getElem?_eq_some_iff.1 hc).1
      exact World.rowIs.setOther (h.pages i c hc) (by show H i ≠ g; omega) _
  · intro i hi; exact h.ahead i (by simpa using hi)
  · intro i j hij hj; exact h.order i j hij (by simpa using hj)

end Go.Proofs.YtjgcjeaplckbbaaGreatDoor

/- Blocks and pages that were put together by append: each list at the head of a row of its own. No program is named here. -/
namespace Go.Proofs.YtjgcjeaplckbbaaGreatDoor
open Go.RowKit
set_option linter.unusedVariables false

def pgCells (ps : List Pg) : List Value := ps.flatMap fun p => [.bool p.used, .int .i64 p.log, .int .i64 p.seq, .string p.data]
def bkCells (Q C : Nat → Nat) : Nat → List Bk → List Value
  | _, [] => []
  | i, b :: r => .int .i64 b.wear :: .slice (some ⟨Q i, 0, none⟩) b.pages.length (C i) :: bkCells Q C (i + 1) r

theorem pgCells_length (ps : List Pg) : (pgCells ps).length = ps.length * 4 := by
  induction ps with
  | nil => rfl
  | cons p ps ih => simp only [pgCells, List.flatMap_cons, List.length_append] at ih ⊢; simp [ih]; omega
theorem pgCells_at {ps : List Pg} : ∀ {i : Nat} {p : Pg}, ps[i]? = some p → ∀ j, j < 4 → (pgCells ps)[i * 4 + j]? = some (pgV p j) := by
  induction ps with
  | nil => intro i p h; simp at h
  | cons q ps ih =>
    intro i p h j hj
    have e : pgCells (q :: ps) = [.bool q.used, .int .i64 q.log, .int .i64 q.seq, .string q.data] ++ pgCells ps := rfl
    cases i with
    | zero =>
      simp at h; subst h
      rw [e, List.getElem?_append_left (by simp; omega)]
      have h4 : j = 0 ∨ j = 1 ∨ j = 2 ∨ j = 3 := by omega
      rcases h4 with rfl | rfl | rfl | rfl <;> rfl
    | succ i =>
      rw [e, List.getElem?_append_right (by simp; omega)]
      rw [show (i + 1) * 4 + j - [Value.bool q.used, .int .i64 q.log, .int .i64 q.seq, .string q.data].length = i * 4 + j by simp; omega]
      exact ih (by simpa using h) j hj
theorem bkCells_length (Q C : Nat → Nat) (bs : List Bk) : ∀ i, (bkCells Q C i bs).length = bs.length * 2 := by
  induction bs with
  | nil => intro i; rfl
  | cons b bs ih => intro i; simp only [bkCells, List.length_cons, ih]; omega
theorem bkCells_at (Q C : Nat → Nat) {bs : List Bk} : ∀ {i : Nat} {b : Bk} (s : Nat), bs[i]? = some b →
    (bkCells Q C s bs)[i * 2]? = some (.int .i64 b.wear) ∧ (bkCells Q C s bs)[i * 2 + 1]? = some (.slice (some ⟨Q (s + i), 0, none⟩) b.pages.length (C (s + i))) := by
  induction bs with
  | nil => intro i b s h; simp at h
  | cons c bs ih =>
    intro i b s h
    cases i with
    | zero => simp at h; subst h; simp [bkCells]
    | succ i =>
      have := ih (s + 1) (i := i) (b := b) (by simpa using h)
      rw [show s + 1 + i = s + (i + 1) by omega] at this
      simp only [bkCells]
      rw [show (i + 1) * 2 = i * 2 + 1 + 1 by omega]
      simpa using this
theorem bkCells_append (Q C : Nat → Nat) (l m : List Bk) : ∀ s, bkCells Q C s (l ++ m) = bkCells Q C s l ++ bkCells Q C (s + l.length) m := by
  induction l with
  | nil => intro s; simp [bkCells]
  | cons b l ih => intro s; simp only [List.cons_append, bkCells, ih, List.length_cons]; rw [show s + 1 + l.length = s + (l.length + 1) by omega]
theorem bkCells_congr {Q C Q' C' : Nat → Nat} (l : List Bk) : ∀ s, (∀ i, s ≤ i → i < s + l.length → Q i = Q' i ∧ C i = C' i) → bkCells Q C s l = bkCells Q' C' s l := by
  induction l with
  | nil => intro s _; rfl
  | cons b l ih =>
    intro s h
    have h0 := h s (Nat.le_refl _) (by simp)
    simp only [bkCells, h0.1, h0.2]
    rw [ih (s + 1) (fun i h1 h2 => h i (by omega) (by simp; omega))]

/-- The cells of a row that is owned. -/
theorem ownsRow_cell {w : World} {base : Nat} {e : TypeId} {size : Nat} {g n cap : Nat} {xs : List Value} (h : w.ownsRow base e size (.slice (some ⟨g, 0, none⟩) n cap) n xs) {j : Nat} {u : Value} (hj : xs[j]? = some u) : w.cell? ⟨g, j, none⟩ = some u := by
  have := h.cells (g := g) rfl j u hj
  have hadd : (⟨g, 0, none⟩ : Addr).add j = ⟨g, j, none⟩ := by unfold Addr.add; split <;> simp_all
  rwa [hadd] at this
theorem ownsRow_frozen {w : World} {base : Nat} {e : TypeId} {size : Nat} {g n cap : Nat} {xs : List Value} (h : w.ownsRow base e size (.slice (some ⟨g, 0, none⟩) n cap) n xs) (j : Nat) : w.frozen? ⟨g, j, none⟩ = false := by
  rcases h.2 with ⟨h0, _⟩ | ⟨g', c', cur, hv, _, hh, _⟩
  · cases h0
  · simp at hv
    obtain ⟨rfl, rfl⟩ := hv
    simp [World.frozen?, hh]
theorem ownsRow_pagesAt {w : World} {base : Nat} {e : TypeId} {g n cap : Nat} {ps : List Pg} (h : w.ownsRow base e 4 (.slice (some ⟨g, 0, none⟩) n cap) n (pgCells ps)) : PagesAt w (some ⟨g, 0, none⟩) ps := by
  intro i p hp
  refine ⟨g, 0, rfl, ?_, ?_, ?_, ?_⟩
  · rw [show 0 + i * 4 = i * 4 + 0 by omega]; exact ownsRow_cell h (pgCells_at hp 0 (by omega))
  · rw [show 0 + i * 4 + 1 = i * 4 + 1 by omega]; exact ownsRow_cell h (pgCells_at hp 1 (by omega))
  · rw [show 0 + i * 4 + 2 = i * 4 + 2 by omega]; exact ownsRow_cell h (pgCells_at hp 2 (by omega))
  · rw [show 0 + i * 4 + 3 = i * 4 + 3 by omega]; exact ownsRow_cell h (pgCells_at hp 3 (by omega))

/-- Blocks put together by append: v their slice, the pages of the i-th in row Q i, with room for C i. -/
structure SpecBlocks (w : World) (tB tP : TypeId) (base : Nat) (v : Value) (Q C : Nat → Nat) (bs : List Bk) : Prop where
  row : w.ownsRow base tB 2 v bs.length (bkCells Q C 0 bs)
  pages : ∀ i b, bs[i]? = some b → w.ownsRow base tP 4 (.slice (some ⟨Q i, 0, none⟩) b.pages.length (C i)) b.pages.length (pgCells b.pages)
  ne : ∀ i, i < bs.length → v.ownBlock ≠ some (Q i)
  inj : ∀ i j, i < bs.length → j < bs.length → i ≠ j → Q i ≠ Q j

theorem SpecBlocks.nil (w : World) (tB tP : TypeId) (base : Nat) (Q C : Nat → Nat) : SpecBlocks w tB tP base (.slice none 0 0) Q C [] :=
  ⟨World.ownsRow_nil _ _ _ _, fun i b h => by simp at h, fun i h => absurd h (Nat.not_lt_zero _), fun i j h => absurd h (Nat.not_lt_zero _)⟩

theorem SpecBlocks.Qlt {w : World} {tB tP : TypeId} {base : Nat} {v : Value} {Q C : Nat → Nat} {bs : List Bk} (h : SpecBlocks w tB tP base v Q C bs) {i : Nat} (hi : i < bs.length) : base ≤ Q i ∧ Q i < w.heap.size := by
  obtain ⟨b, hb⟩ := getElem?_ex hi
  exact (h.pages i b hb).lt (Q i) rfl

theorem SpecBlocks.form {w : World} {tB tP : TypeId} {base : Nat} {v : Value} {Q C : Nat → Nat} {bs : List Bk} (h : SpecBlocks w tB tP base v Q C bs) : ∃ a c, v = .slice a bs.length c ∧ BlocksAt w a bs := by
  rcases h.row.2 with ⟨hv, h0⟩ | ⟨g, cap, cur, hv, _⟩
  · exact ⟨none, 0, by rw [hv, h0], fun i b hb => by have := (List.getElem?_eq_some_iff.1 hb).1; omega⟩
  · subst hv
    refine ⟨_, _, rfl, fun i b hb => ?_⟩
    have hc := bkCells_at Q C 0 hb
    refine ⟨g, 0, some ⟨Q i, 0, none⟩, C i, rfl, ?_, ?_, ownsRow_pagesAt (h.pages i b hb)⟩
    · rw [show 0 + i * 2 = i * 2 by omega]; exact ownsRow_cell h.row hc.1
    · rw [show 0 + i * 2 + 1 = i * 2 + 1 by omega]
      have := ownsRow_cell h.row hc.2
      rwa [Nat.zero_add] at this

theorem SpecBlocks.kept {w w' : World} {tB tP : TypeId} {base : Nat} {v : Value} {Q C : Nat → Nat} {bs : List Bk} (h : SpecBlocks w tB tP base v Q C bs) (hb : Below w.heap.size w w') : SpecBlocks w' tB tP base v Q C bs := by
  have hg : w.grownBy w' none := ⟨hb.os, hb.tape, hb.output, hb.size, fun k hk _ => hb.block k hk⟩
  refine ⟨h.row.kept hg ?_, fun i b hi => (h.pages i b hi).kept hg (Or.inr (by simp [Value.ownBlock])), h.ne, h.inj⟩
  cases hv : v.ownBlock with
  | none => exact Or.inl rfl
  | some k => exact Or.inr (by simp)

/-- One block more, by append. W: the world ahead of the append, in which the new block's pages lie already. -/
theorem SpecBlocks.push {w W w1 : World} {tB tP : TypeId} {base : Nat} {v : Value} {Q C : Nat → Nat} {bs : List Bk} {b : Bk} {q c g cap : Nat} (h : SpecBlocks w tB tP base v Q C bs) (hW : Below w.heap.size w W)
    (hq : W.ownsRow base tP 4 (.slice (some ⟨q, 0, none⟩) b.pages.length c) b.pages.length (pgCells b.pages)) (hq0 : w.heap.size ≤ q)
    (hown : w1.ownsRow base tB 2 (.slice (some ⟨g, 0, none⟩) (bs.length + 1) cap) (bs.length + 1) (bkCells Q C 0 bs ++ [.int .i64 b.wear, .slice (some ⟨q, 0, none⟩) b.pages.length c]))
    (hgrow : W.grownBy w1 v.ownBlock) (hat : v.ownBlock = some g ∨ g = W.heap.size) :
    SpecBlocks w1 tB tP base (.slice (some ⟨g, 0, none⟩) (bs.length + 1) cap) (fun i => if i = bs.length then q else Q i) (fun i => if i = bs.length then c else C i) (bs ++ [b]) := by
  have hWs := h.kept hW
  have hqlt := (hq.lt q rfl).2
  have hvq : v.ownBlock ≠ some q := by
    intro e
    have := (h.row.lt q e).2
    omega
  have hcells : bkCells (fun i => if i = bs.length then q else Q i) (fun i => if i = bs.length then c else C i) 0 (bs ++ [b]) = bkCells Q C 0 bs ++ [.int .i64 b.wear, .slice (some ⟨q, 0, none⟩) b.pages.length c] := by
    rw [bkCells_append, bkCells_congr bs 0 (Q' := Q) (C' := C) (fun i _ hi => by
      have : ¬ i = bs.length := by omega
      simp [this])]
    simp [bkCells]
  have hgq : ∀ i, i < bs.length → g ≠ Q i := fun i hi => by
    rcases hat with e | e
    · intro x; exact h.ne i hi (by rw [e, x])
    · have := (hWs.Qlt hi).2; omega
  refine ⟨?_, ?_, ?_, ?_⟩
  · rw [hcells]; simpa using hown
  · intro i d hd
    by_cases e : i = bs.length
    · subst e
      simp at hd
      subst hd
      simp only [if_true]
      exact hq.kept hgrow (Or.inr (by simpa [Value.ownBlock] using fun x => hvq x.symm))
    · have hi : i < bs.length := by
        have := (List.getElem?_eq_some_iff.1 hd).1
        simp at this; omega
      rw [List.getElem?_append_left hi] at hd
      simp only [if_neg e]
      exact (hWs.pages i d hd).kept hgrow (Or.inr (by simpa [Value.ownBlock] using fun x => h.ne i hi x.symm))
  · intro i hi
    by_cases e : i = bs.length
    · simp only [if_pos e, Value.ownBlock]
      intro x
      simp at x
      rcases hat with e' | e'
      · exact hvq (by rw [e', x])
      · omega
    · simp only [if_neg e, Value.ownBlock]
      intro x
      simp at x hi
      exact hgq i (by omega) x
  · intro i j hi hj hij
    simp at hi hj
    by_cases ei : i = bs.length
    · have ej : ¬ j = bs.length := by omega
      simp only [if_pos ei, if_neg ej]
      have := (h.Qlt (i := j) (by omega)).2
      omega
    · by_cases ej : j = bs.length
      · simp only [if_neg ei, if_pos ej]
        have := (h.Qlt (i := i) (by omega)).2
        omega
      · simp only [if_neg ei, if_neg ej]
        exact h.inj i j (by omega) (by omega) hij

/-- A store below all of it. -/
theorem SpecBlocks.setLow {w : World} {tB tP : TypeId} {base : Nat} {v : Value} {Q C : Nat → Nat} {bs : List Bk} (h : SpecBlocks w tB tP base v Q C bs) {a : Addr} (ha : a.block < base) (u : Value) : SpecBlocks (w.setCell a u) tB tP base v Q C bs :=
  ⟨ownsRow_setCell_below h.row ha u, fun i b hb => ownsRow_setCell_below (h.pages i b hb) ha u, h.ne, h.inj⟩

def zeroBk : Bk := ⟨0, [zeroPg, zeroPg, zeroPg, zeroPg]⟩

theorem newPages (w : World) (base : Nat) (tP : TypeId) (hb : base ≤ w.heap.size) : (w.alloc (.cells (madeCells #[.bool false, .int .i64 0, .int .i64 0, .string ByteArray.empty] 16) tP)).ownsRow base tP 4 (.slice (some ⟨w.heap.size, 0, none⟩) 4 4) 4 (pgCells zeroBk.pages) :=
  ⟨rfl, Or.inr ⟨w.heap.size, 4, _, rfl, hb, Go.Deep.blk_alloc_new _ _, Nat.le_refl _, by unfold maxLen; omega, size_madeCells _ _, by simp [madeCells, pgCells, zeroBk, zeroPg, List.range, List.range.loop]⟩⟩

/-- One new block more, by append. -/
theorem newStep {w w1 : World} {tB tP : TypeId} {base k g cap : Nat} {v : Value} {Q C : Nat → Nat} {o : Obj} (h : SpecBlocks w tB tP base v Q C (List.replicate k zeroBk)) (hb : base ≤ w.heap.size)
    (hown : w1.ownsRow base tB 2 (.slice (some ⟨g, 0, none⟩) (k + 1) cap) (k + 1) (bkCells Q C 0 (List.replicate k zeroBk) ++ [.int .i64 0, .slice (some ⟨w.heap.size, 0, none⟩) 4 4]))
    (hgrow : ((w.alloc (.cells (madeCells #[.bool false, .int .i64 0, .int .i64 0, .string ByteArray.empty] 16) tP)).alloc o).drew.grownBy w1 v.ownBlock) (hat : v.ownBlock = some g ∨ g = w.heap.size + 1 + 1) :
    ∃ Q' C', SpecBlocks w1 tB tP base (.slice (some ⟨g, 0, none⟩) (k + 1) cap) Q' C' (List.replicate (k + 1) zeroBk) := by
  have hl : (List.replicate k zeroBk).length = k := by simp
  have hp := (newPages w base tP hb).alloc o
  have hW : Below w.heap.size w ((w.alloc (.cells (madeCells #[.bool false, .int .i64 0, .int .i64 0, .string ByteArray.empty] 16) tP)).alloc o).drew := (((Below.refl _ w).alloc (Nat.le_refl _) _).alloc (by simp) _).drew
  have := h.push (b := zeroBk) (q := w.heap.size) (c := 4) (g := g) (cap := cap) (w1 := w1) hW hp (Nat.le_refl _) (by rw [hl]; exact hown) hgrow (by
    rcases hat with e | e
    · exact Or.inl e
    · exact Or.inr (by simpa using e))
  rw [hl, ← List.replicate_succ'] at this
  exact ⟨_, _, this⟩

end Go.Proofs.YtjgcjeaplckbbaaGreatDoor

/- Whether a number is within two others: the model's and the program's. -/
namespace Go.Proofs.YtjgcjeaplckbbaaGreatDoor
open Go.RowKit
set_option linter.unusedVariables false
set_option linter.unusedSimpArgs false

theorem l1In_any (n lo hi : Int) (w : World) : Calls Tryz.prog 62 #[.int .i64 n, .int .i64 lo, .int .i64 hi] w fun e w' => e = .returned (.bool (decide (lo ≤ n ∧ n ≤ hi))) ∧ w' = w := by
  by_cases h1 : lo ≤ n
  · by_cases h2 : n ≤ hi
    · go_enter Tryz.func62, Tryz.ntmps62
      go_wp2
      go_ret
      exact ⟨by simp [h1, h2], rfl⟩
    · go_enter Tryz.func62, Tryz.ntmps62
      go_wp2
      go_ret
      exact ⟨by simp [h2], rfl⟩
  · go_enter Tryz.func62, Tryz.ntmps62
    go_wp2
    go_ret
    exact ⟨by simp; omega, rfl⟩

theorem within_any (n lo hi : Int) (w : World) : Calls Tryz.prog 67 #[.int .i64 n, .int .i64 lo, .int .i64 hi] w fun e w' => e = .returned (.bool (decide (lo ≤ n ∧ n ≤ hi))) ∧ w' = w := by
  by_cases h1 : lo ≤ n
  · by_cases h2 : n ≤ hi
    · go_enter Tryz.func67, Tryz.ntmps67
      go_wp2
      go_ret
      exact ⟨by simp [h1, h2], rfl⟩
    · go_enter Tryz.func67, Tryz.ntmps67
      go_wp2
      go_ret
      exact ⟨by simp [h2], rfl⟩
  · go_enter Tryz.func67, Tryz.ntmps67
    go_wp2
    go_ret
    exact ⟨by simp; omega, rfl⟩
end Go.Proofs.YtjgcjeaplckbbaaGreatDoor

/- The laws' own copies: what was handed in, in rows that are new. -/
namespace Go.Proofs.YtjgcjeaplckbbaaGreatDoor
open Go.RowKit
set_option linter.unusedVariables false

theorem toPage_any (u : Bool) (l s : Int) (d : ByteArray) (w : World) :
    Calls Tryz.prog 291 #[.agg #[.bool u, .int .i64 l, .int .i64 s, .string d]] w fun e w' => e = .returned (.agg #[.bool u, .int .i64 l, .int .i64 s, .string d]) ∧ Below w.heap.size w w' := by
  go_enter Tryz.func291, Tryz.ntmps291
  go_wp2
  refine bodyPost_ret (v := .agg #[.bool u, .int .i64 l, .int .i64 s, .string d]) (by simp [results, Tryz.results291, go_sem]) rfl ⟨rfl, ?_⟩
  repeat (first | exact Below.refl _ _ | refine Below.drew ?_ | refine Below.alloc ?_ (by simp <;> omega) _ | refine Below.setCell ?_ (by simp <;> omega) _)

theorem infoPage : (Tryz.prog.info? 122).map (fun i => (i.zero, i.size, i.bytes)) = some (some (.agg #[.bool false, .int .i64 0, .int .i64 0, .string ByteArray.empty]), 4, 40) := by kernel_rfl
theorem infoBlock : (Tryz.prog.info? 220).map (fun i => (i.zero, i.size, i.bytes)) = some (some (.agg #[.int .i64 0, .slice none 0 0]), 2, 32) := by kernel_rfl

theorem make_pages (n : Nat) (hn : n ≤ 1048576) (w : World) :
    (Instr.makeSlice 218 (.int .i64 (n : Int)) (.int .i64 (n : Int))).run Tryz.prog w = .ok (.slice (some ⟨w.heap.size, 0, none⟩) n n) (w.alloc (.cells (madeCells #[.bool false, .int .i64 0, .int .i64 0, .string ByteArray.empty] (n * 4)) 122)) := by
  obtain ⟨i, hi, hz⟩ := Option.map_eq_some_iff.1 infoPage
  simp only [Prod.mk.injEq] at hz
  obtain ⟨hz0, hz1, hz2⟩ := hz
  have h := run_make (P := Tryz.prog) w 218 122 i _ Tryz.underlying218 hi hz0 .i64 .i64 (n : Int) (n : Int) (by omega) (Int.le_refl _) (by rw [hz2]; omega) (by omega)
  rw [hz1] at h
  simpa [Value.cells] using h

theorem make_pages4 (w : World) : (Instr.makeSlice 218 (.int .i64 4) (.int .i64 4)).run Tryz.prog w = .ok (.slice (some ⟨w.heap.size, 0, none⟩) 4 4) (w.alloc (.cells (madeCells #[.bool false, .int .i64 0, .int .i64 0, .string ByteArray.empty] 16) 122)) :=
  make_pages 4 (by omega) w

theorem make_blocks (n : Nat) (hn : n ≤ 1048576) (w : World) :
    (Instr.makeSlice 49 (.int .i64 (n : Int)) (.int .i64 (n : Int))).run Tryz.prog w = .ok (.slice (some ⟨w.heap.size, 0, none⟩) n n) (w.alloc (.cells (madeCells #[.int .i64 0, .slice none 0 0] (n * 2)) 220)) := by
  obtain ⟨i, hi, hz⟩ := Option.map_eq_some_iff.1 infoBlock
  simp only [Prod.mk.injEq] at hz
  obtain ⟨hz0, hz1, hz2⟩ := hz
  have h := run_make (P := Tryz.prog) w 49 220 i _ Tryz.underlying49 hi hz0 .i64 .i64 (n : Int) (n : Int) (by omega) (Int.le_refl _) (by rw [hz2]; omega) (by omega)
  rw [hz1] at h
  simpa [Value.cells] using h

set_option maxHeartbeats 1000000 in
theorem toPageS_any (a : Option Addr) (c : Nat) (ps : List Pg) (w : World) (h : PagesAt w a ps) (hn : ps.length ≤ 1048576) :
    Calls Tryz.prog 287 #[.slice a ps.length c] w fun e w' => e = .returned (.slice (some ⟨w.heap.size, 0, none⟩) ps.length ps.length) ∧ OwnPages w' 122 w.heap.size ps.length ps ∧ Below w.heap.size w w' := by
  have hmk := make_pages ps.length hn
  go_enter Tryz.func287, Tryz.ntmps287
  go_wp2
  clear hmk
  go_loopw [4] (fun i wr => ∃ k : Nat, k ≤ ps.length ∧ i = .int .i64 k ∧ OwnPages wr 122 w.heap.size ps.length (ps.take k) ∧ Below w.heap.size w wr) (fun i _ => ps.length - (intOf i).toNat)
  case atStart => exact ⟨0, Nat.zero_le _, rfl, by simpa using OwnPages.made w _ _, (Below.refl _ _).alloc (Nat.le_refl _) _⟩
  case round =>
    obtain ⟨k, hk, rfl, hO, hB⟩ := hrel
    by_cases hlt : k < ps.length
    · obtain ⟨p, hp⟩ := getElem?_ex hlt
      obtain ⟨b1, o1, rfl, g10, g11, g12, g13⟩ := (h.below hB (Nat.le_refl _)) k p hp
      have HP := hide hp
      clear hp h
      go_wp2_with fail
      refine (toPage_any _ _ _ _ _).mono ?_
      rintro e w1 ⟨rfl, hc⟩
      clear g10 g11 g12 g13
      have hO1 : OwnPages w1 _ _ _ _ := hO.below hc (World.rowIs.lt hO)
      obtain ⟨⟨v0, c0⟩, ⟨v1, c1⟩, ⟨v2, c2⟩, ⟨v3, c3⟩⟩ := hO1.cells hlt
      have f0 := World.rowIs.frozen hO1
      clear hO
      go_wp2
      go_roundw
      case rel => exact ⟨k + 1, by omega, by go_num, hO1.put (unhide HP), ((((hB.trans (hc.mono hB.size)).setCell (Nat.le_refl _) _).setCell (Nat.le_refl _) _).setCell (Nat.le_refl _) _).setCell (Nat.le_refl _) _⟩
      case measure => simp [intOf]; omega
    · have hk' : k = ps.length := by omega
      subst hk'
      rw [List.take_length] at hO
      go_wp2
      go_ret
      exact ⟨rfl, hO, hB⟩

set_option maxHeartbeats 1000000 in
theorem toBlock_any (x : Int) (a : Option Addr) (c : Nat) (ps : List Pg) (w : World) (h : PagesAt w a ps) (hn : ps.length ≤ 1048576) :
    Calls Tryz.prog 280 #[.agg #[.int .i64 x, .slice a ps.length c]] w fun e w' => ∃ q, e = .returned (.agg #[.int .i64 x, .slice (some ⟨q, 0, none⟩) ps.length ps.length]) ∧ w.heap.size ≤ q ∧ OwnPages w' 122 q ps.length ps ∧ Below w.heap.size w w' := by
  go_enter Tryz.func280, Tryz.ntmps280
  go_wp2_with fail
  have hb0 : ∀ o1 o2 o3, Below w.heap.size w (((w.alloc o1).alloc o2).alloc o3) := fun o1 o2 o3 => (((Below.refl _ w).alloc (Nat.le_refl _) _).alloc (by simp) _).alloc (by simp; omega) _
  refine (toPageS_any a c ps _ (h.below (hb0 _ _ _) (Nat.le_refl _)) hn).mono ?_
  rintro e w1 ⟨rfl, hO, hc⟩
  clear h
  obtain ⟨hcc, hcf⟩ := bcell hc
  have hsz := hc.size
  simp at hsz hO
  go_wp2
  refine bodyPost_ret (v := .agg #[.int .i64 x, .slice (some ⟨w.heap.size + 1 + 1 + 1, 0, none⟩) ps.length ps.length]) (by simp [results, Tryz.results280, go_sem, hcc]) rfl ⟨_, rfl, by omega, ?_, ?_⟩
  · exact World.rowIs.setOther (World.rowIs.setOther (World.rowIs.setOther hO (by simp) _) (by simp <;> omega) _) (by simp <;> omega) _
  · exact ((((hb0 _ _ _).trans (hc.mono (by simp <;> omega))).setCell (by simp <;> omega) _).setCell (by simp <;> omega) _).setCell (by simp <;> omega) _

set_option maxHeartbeats 1000000 in
theorem toBlockS_any (a : Option Addr) (c : Nat) (bs : List Bk) (w : World) (h : BlocksAt w a bs) (hn : Lens 1048576 bs) :
    Calls Tryz.prog 261 #[.slice a bs.length c] w fun e w' => ∃ H, e = .returned (.slice (some ⟨w.heap.size, 0, none⟩) bs.length bs.length) ∧ OwnBlocks w' 220 122 w.heap.size H bs.length bs ∧ Below w.heap.size w w' := by
  have hn1 := hn.1
  have hmk := make_blocks bs.length hn.1
  go_enter Tryz.func261, Tryz.ntmps261
  go_wp2
  clear hmk
  go_loopw [4] (fun i wr => ∃ (k : Nat) (H : Nat → Nat), k ≤ bs.length ∧ i = .int .i64 k ∧ OwnBlocks wr 220 122 w.heap.size H bs.length (bs.take k) ∧ Below w.heap.size w wr) (fun i _ => bs.length - (intOf i).toNat)
  case atStart => exact ⟨0, fun _ => 0, Nat.zero_le _, rfl, by simpa using OwnBlocks.made w _ _ _ _, (Below.refl _ _).alloc (Nat.le_refl _) _⟩
  case round =>
    obtain ⟨k, H, hk, rfl, hO, hB⟩ := hrel
    by_cases hlt : k < bs.length
    · obtain ⟨p, hp⟩ := getElem?_ex hlt
      obtain ⟨b1, o1, pa, pc, rfl, g10, g11, q1⟩ := (h.below hB (Nat.le_refl _)) k p hp
      have hl := hn.at hp
      have HP := hide hp
      have hgs := hO.row.lt
      have hHs : ∀ i, i < k → H i < wr.heap.size := fun i hi => hO.lt (by simp; omega)
      have HH := hide hHs
      clear hp h hHs
      go_wp2_with fail
      refine (toBlock_any _ _ _ _ _ q1 hl).mono ?_
      rintro e w1 ⟨q, rfl, hq, hOp, hc⟩
      clear g10 g11 q1
      have hO1 : OwnBlocks w1 _ _ _ _ _ _ := hO.below hc (Nat.le_refl _)
      have c0 := hO1.row.cell (i := k * 2) (by omega)
      have c1 := hO1.row.cell (i := k * 2 + 1) (by omega)
      have f0 := hO1.row.frozen
      clear hO
      go_wp2
      go_roundw
      case rel => exact ⟨k + 1, _, by omega, by go_num, hO1.put (unhide HP) hOp (by omega) (fun i hi => Nat.lt_of_lt_of_le (unhide HH i hi) hq), ((hB.trans (hc.mono hB.size)).setCell (Nat.le_refl _) _).setCell (Nat.le_refl _) _⟩
      case measure => simp [intOf]; omega
    · have hk' : k = bs.length := by omega
      subst hk'
      rw [List.take_length] at hO
      go_wp2
      go_ret
      exact ⟨H, rfl, hO, hB⟩

set_option maxHeartbeats 1000000 in
theorem toChip_any (a : Option Addr) (c : Nat) (bs : List Bk) (w : World) (h : BlocksAt w a bs) (hn : Lens 1048576 bs) :
    Calls Tryz.prog 209 #[.agg #[.slice a bs.length c]] w fun e w' => ∃ g H, e = .returned (.agg #[.slice (some ⟨g, 0, none⟩) bs.length bs.length]) ∧ w.heap.size ≤ g ∧ OwnBlocks w' 220 122 g H bs.length bs ∧ Below w.heap.size w w' := by
  go_enter Tryz.func209, Tryz.ntmps209
  go_wp2_with fail
  have hb0 : ∀ o1 o2 o3, Below w.heap.size w (((w.alloc o1).alloc o2).alloc o3) := fun o1 o2 o3 => (((Below.refl _ w).alloc (Nat.le_refl _) _).alloc (by simp) _).alloc (by simp; omega) _
  refine (toBlockS_any a c bs _ (h.below (hb0 _ _ _) (Nat.le_refl _)) hn).mono ?_
  rintro e w1 ⟨H, rfl, hO, hc⟩
  clear h
  obtain ⟨hcc, hcf⟩ := bcell hc
  have hsz := hc.size
  simp at hsz hO
  go_wp2
  refine bodyPost_ret (v := .agg #[.slice (some ⟨w.heap.size + 1 + 1 + 1, 0, none⟩) bs.length bs.length]) (by simp [results, Tryz.results209, go_sem, hcc]) rfl ⟨_, H, rfl, by omega, ?_, ?_⟩
  · exact (hO.setOther (by simp) _).setOther (by simp) _
  · exact (((hb0 _ _ _).trans (hc.mono (by simp <;> omega))).setCell (by simp <;> omega) _).setCell (by simp <;> omega) _
end Go.Proofs.YtjgcjeaplckbbaaGreatDoor

/- New chips: the model's and the program's. -/
namespace Go.Proofs.YtjgcjeaplckbbaaGreatDoor
open Go.RowKit
set_option linter.unusedVariables false
set_option linter.unusedSimpArgs false

set_option maxRecDepth 100000 in
set_option maxHeartbeats 1000000 in
theorem specChipNew_yes (n : Nat) (w : World) (h1 : 4 ≤ n) (h2 : n ≤ 12) :
    Calls Tryz.prog 105 #[.int .i64 n] w fun e w' => ∃ a c, e = .returned (.tuple #[.agg #[.slice a n c], .bool true]) ∧ BlocksAt w' a (List.replicate n zeroBk) ∧ Below w.heap.size w w' := by
  go_enter Tryz.func105, Tryz.ntmps105
  go_wp2_with fail
  refine (l1In_any _ _ _ _).mono ?_
  rintro e w1 ⟨rfl, rfl⟩
  have hd : decide (4 ≤ (n : Int) ∧ (n : Int) ≤ 12) = true := by simp; omega
  rw [hd]
  go_wp2
  go_loopw [5] (fun i wr => ∃ (k : Nat) (v : Value) (Q C : Nat → Nat), k ≤ n ∧ i = .int .i64 k ∧ wr.heap[w.heap.size + 1]? = some (.cells #[v] 51 (0, 0)) ∧ SpecBlocks wr 220 122 (w.heap.size + 2) v Q C (List.replicate k zeroBk) ∧ Below (w.heap.size + 1) (w.alloc (.cells #[.slice none 0 0] 51)) wr ∧ w.heap.size + 2 ≤ wr.heap.size) (fun i _ => n - (intOf i).toNat)
  case atStart =>
    refine ⟨0, .slice none 0 0, fun _ => 0, fun _ => 0, Nat.zero_le _, rfl, ?_, SpecBlocks.nil _ _ _ _ _ _, ?_, by simp⟩
    · exact heap_alloc2_new _ _ _
    · exact (Below.refl _ _).alloc (by simp) _
  case round =>
    obtain ⟨k, v, Q, C, hk, rfl, hv, hS, hB, hsz⟩ := hrel
    by_cases hlt : k < n
    · have hcv := cell_of_one hv
      have hfv := free_of_one hv
      have hvl : w.heap.size + 1 < wr.heap.size := by omega
      have hne : some (w.heap.size + 1) ≠ v.ownBlock := fun e => by have := (hS.row.lt _ e.symm).1; omega
      have hR : wr.ownsRow (w.heap.size + 2) 220 2 v k (bkCells Q C 0 (List.replicate k zeroBk)) := by have := hS.row; rwa [List.length_replicate] at this
      have HS := hide hS
      clear hS
      obtain ⟨X, hX⟩ : ∃ X, X = bkCells Q C 0 (List.replicate k zeroBk) := ⟨_, rfl⟩
      rw [← hX] at hR
      have HX := hide hX
      clear hX
      obtain ⟨i0, hi, hz0, hz1, hz2⟩ := info_parts infoBlock
      have hvl0 : w.heap.size < wr.heap.size := by omega
      have hmk := make_pages4
      go_wp2
      go_region_law
        (first | (refine step_append_lies _ rfl (.tmp 17) (.tmp 20) 49 rfl (w.heap.size + 2) 220 i0 _ 2 32 Tryz.underlying49 hi hz0 hz1 hz2 rfl (by decide) v k X (by simp [Act.eval]) (by exact (hR.alloc _).alloc _) ⟨wr.heap.size + 1, 0, none⟩ 1 1 [.int .i64 0, .slice (some ⟨wr.heap.size, 0, none⟩) 4 4] (by simp [Act.eval]) rfl (World.news_of_block (cs := #[.int .i64 0, .slice (some ⟨wr.heap.size, 0, none⟩) 4 4]) (t := 220) (fr := (0, 0)) (by exact heap_alloc2_new _ _ _)) (by simp [Value.oneCell']) (by omega) (by unfold maxLen; omega) (by omega) (by simp; omega) (wr.heap.size + 1 + 1) (by simp) ?_; intro g cap w1 hown hgrow hat hlt1; have hk1 : w1.cell? ⟨w.heap.size + 1, 0, none⟩ = some v := (hgrow.cell_far ⟨w.heap.size + 1, 0, none⟩ (by simp; omega) hne).trans (by simp [*, frozen_alloc_lt, cell_alloc_lt, frozen_drew, cell_drew]); have hk2 : w1.frozen? ⟨w.heap.size + 1, 0, none⟩ = false := (hgrow.frozen_far ⟨w.heap.size + 1, 0, none⟩ (by simp; omega) hne).trans (by simp [*, frozen_alloc_lt, cell_alloc_lt, frozen_drew, cell_drew])))
      all_goals go_wp2
      all_goals
        go_roundw
        case rel =>
          rw [unhide HX] at hown
          obtain ⟨Q', C', h2⟩ := newStep (unhide HS) hsz hown hgrow hat
          have hbl : w1.heap[w.heap.size + 1]? = some (.cells #[v] 51 (0, 0)) := by
            rw [hgrow.block _ (by simp; omega) hne]
            show (((wr.heap.push _).push _))[w.heap.size + 1]? = _
            rw [Array.getElem?_push, if_neg (by simp; omega), Array.getElem?_push, if_neg (by omega)]
            exact hv
          have hsz1 := hgrow.size
          simp at hsz1
          refine ⟨k + 1, _, Q', C', by omega, by go_num, one_setCell hbl, h2.setLow (by show w.heap.size + 1 < w.heap.size + 2; omega) _, ?_, by simp [World.setCell]; omega⟩
          refine (Below.setCell ?_ (by simp) _)
          refine Below.grown (((hB.alloc (by omega) _).alloc (by simp; omega) _).drew) hgrow (by simp; omega) (fun j e => ?_)
          have := ((unhide HS).row.lt j e).1
          omega
        case measure => simp [intOf]; omega
    · have hk' : k = n := by omega
      subst hk'
      obtain ⟨a, c, rfl, hBA⟩ := hS.form
      have hcv := cell_of_one hv
      have hfv := free_of_one hv
      have hcell0 : wr.cell? ⟨w.heap.size, 0, none⟩ = some (.slice none 0 0) := by rw [hB.cell (p := ⟨w.heap.size, 0, none⟩) (by simp)]; simp
      have hfr0 : wr.frozen? ⟨w.heap.size, 0, none⟩ = false := by rw [hB.frozen (p := ⟨w.heap.size, 0, none⟩) (by simp)]; simp
      have HBA := hide hBA
      have HSS := hide hS
      clear hBA hS
      simp only [List.length_replicate] at hcv hv
      go_wp2
      refine bodyPost_ret (v := .tuple #[.agg #[.slice a k c], .bool true]) (by simp [results, Tryz.results105, go_sem, hcell0]) rfl ⟨a, c, rfl, ?_, ?_⟩
      · have hx : SpecBlocks (wr.setCell ⟨w.heap.size, 0, none⟩ (.slice a k c)) _ _ _ _ _ _ _ := (unhide HSS).setLow (a := ⟨w.heap.size, 0, none⟩) (by show w.heap.size < w.heap.size + 2; omega) (.slice a k c)
        obtain ⟨a', c', e', hB'⟩ := hx.form
        simp at e'
        obtain ⟨rfl, _⟩ := e'
        exact hB'
      · refine (((Below.refl _ w).alloc (Nat.le_refl _) _).trans (hB.mono (by omega))).setCell (by simp) _

theorem specChipNew_no (n : Int) (w : World) (h : ¬ (4 ≤ n ∧ n ≤ 12)) :
    Calls Tryz.prog 105 #[.int .i64 n] w fun e w' => e = .returned (.tuple #[.agg #[.slice none 0 0], .bool false]) ∧ Below w.heap.size w w' := by
  go_enter Tryz.func105, Tryz.ntmps105
  go_wp2_with fail
  refine (l1In_any _ _ _ _).mono ?_
  rintro e w1 ⟨rfl, rfl⟩
  have hd : decide (4 ≤ n ∧ n ≤ 12) = false := by simpa using h
  rw [hd]
  go_wp2
  refine bodyPost_ret (v := .tuple #[.agg #[.slice none 0 0], .bool false]) (by simp [results, Tryz.results105, go_sem]) rfl ⟨rfl, ?_⟩
  repeat (first | exact Below.refl _ _ | refine Below.drew ?_ | refine Below.alloc ?_ (by simp <;> omega) _ | refine Below.setCell ?_ (by simp <;> omega) _)
end Go.Proofs.YtjgcjeaplckbbaaGreatDoor

/- A chip held in arrays: 205 cells in one row. No program is named here. -/
namespace Go.Proofs.YtjgcjeaplckbbaaGreatDoor
open Go.RowKit
set_option linter.unusedVariables false
set_option linter.unusedSimpArgs false

structure CC where
  count : Int
  wear : Nat → Int
  page : Nat → Nat → Pg

/-- What stands in cell i. -/
def ccF (m : CC) (i : Nat) : Value :=
  if i = 0 then .int .i64 m.count
  else if (i - 1) % 17 = 0 then .int .i64 (m.wear ((i - 1) / 17))
  else pgV (m.page ((i - 1) / 17) (((i - 1) % 17 - 1) / 4)) (((i - 1) % 17 - 1) % 4)
def ccA (m : CC) : Array Value := Array.ofFn (n := 205) fun i => ccF m i.val

theorem ccA_size (m : CC) : (ccA m).size = 205 := by simp [ccA]
theorem ccA_get (m : CC) {i : Nat} (hi : i < 205) : (ccA m)[i]? = some (ccF m i) := by simp [ccA, hi]
theorem ccA_count (m : CC) : (ccA m)[0]? = some (.int .i64 m.count) := by rw [ccA_get m (by omega)]; rfl
theorem ccA_wear (m : CC) {b : Nat} (hb : b < 12) : (ccA m)[1 + b * 17]? = some (.int .i64 (m.wear b)) := by
  rw [ccA_get m (by omega)]
  unfold ccF
  rw [if_neg (by omega), if_pos (by omega), show (1 + b * 17 - 1) / 17 = b by omega]
theorem ccA_page (m : CC) {b k j : Nat} (hb : b < 12) (hk : k < 4) (hj : j < 4) : (ccA m)[1 + b * 17 + 1 + k * 4 + j]? = some (pgV (m.page b k) j) := by
  rw [ccA_get m (by omega)]
  unfold ccF
  have h4 : k = 0 ∨ k = 1 ∨ k = 2 ∨ k = 3 := by omega
  have e1 : (1 + b * 17 + 1 + k * 4 + j - 1) / 17 = b := by rcases h4 with rfl | rfl | rfl | rfl <;> omega
  have e2 : (1 + b * 17 + 1 + k * 4 + j - 1) % 17 = 1 + k * 4 + j := by rcases h4 with rfl | rfl | rfl | rfl <;> omega
  rw [if_neg (by omega), if_neg (by omega), e1, e2, show (1 + k * 4 + j - 1) / 4 = k by omega, show (1 + k * 4 + j - 1) % 4 = j by omega]

theorem pgV_one (p : Pg) (j : Nat) : (pgV p j).oneCell' = true := by
  match j with
  | 0 => rfl
  | 1 => rfl
  | 2 => rfl
  | _ + 3 => rfl
theorem ccF_one (m : CC) (i : Nat) : (ccF m i).oneCell' = true := by
  unfold ccF
  split
  · rfl
  · split
    · rfl
    · exact pgV_one _ _
theorem ccA_one (m : CC) : ∀ v ∈ (ccA m).toList, v.oneCell' = true := by
  intro v hv
  have hv' : v ∈ ccA m := by simpa using hv
  obtain ⟨i, hi, rfl⟩ := Array.mem_iff_getElem.1 hv'
  simp only [ccA, Array.getElem_ofFn]
  exact ccF_one _ _

/-- A new row is written from end to end. -/
theorem storeNew (P : Program) (W : World) (G : Nat) (hG : W.heap.size = G) (cur : Array Value) (t : TypeId) (vs : List Value) (hl : vs.length = cur.size) (h1 : ∀ v ∈ vs, v.oneCell' = true) :
    (storeCells ⟨G, 0, none⟩ vs).run P (W.alloc (.cells cur t)) = .ok () (W.alloc (.cells vs.toArray t)) := by
  subst hG
  have hg : (W.alloc (.cells cur t)).heap[W.heap.size]? = some (.cells cur t (0, 0)) := Go.Deep.blk_alloc_new _ _
  rw [run_storeCells_at P W.heap.size 0 t vs 0 cur _ hg (by omega) h1]
  congr 1
  simp only [Nat.zero_add, List.take_zero, List.nil_append]
  rw [List.drop_eq_nil_of_le (by simp [hl]), List.append_nil]
  unfold World.setRow World.alloc
  congr 1
  apply Array.ext
  · simp
  · intro i h1 h2
    simp only [Array.getElem_modify, Array.getElem_push]
    by_cases e : W.heap.size = i
    · subst e; simp
    · have : i < W.heap.size := by simp at h2; omega
      simp [e, this]

/-- The pages of a block, as a list. -/
def ccPs (m : CC) (b : Nat) : List Pg := [m.page b 0, m.page b 1, m.page b 2, m.page b 3]
/-- The blocks that are there, as a list. -/
def ccBs (m : CC) (n : Nat) : List Bk := (List.range n).map fun b => ⟨m.wear b, ccPs m b⟩
theorem ccBs_length (m : CC) (n : Nat) : (ccBs m n).length = n := by simp [ccBs]
theorem ccBs_at (m : CC) {n b : Nat} (hb : b < n) : (ccBs m n)[b]? = some ⟨m.wear b, ccPs m b⟩ := by simp [ccBs, hb]
theorem ccPs_at (m : CC) (b : Nat) {k : Nat} (hk : k < 4) : (ccPs m b)[k]? = some (m.page b k) := by
  have h4 : k = 0 ∨ k = 1 ∨ k = 2 ∨ k = 3 := by omega
  rcases h4 with rfl | rfl | rfl | rfl <;> rfl

/-- copy of four pages out of the middle of a row into a row that was made for them. -/
theorem copy_pages (P : Program) (w : World) (dT sT ty elem : TypeId) (g b : Nat) (o : Nat) (cur : Array Value) (t : TypeId) (ps : List Pg) (hps : ps.length = 4)
    (hu : P.underlying dT = some (.slice elem)) (hs : (P.info? elem).map (·.size) = some 4)
    (hg : w.heap[g]? = some (.cells cur t (0, 0))) (hcur : cur.size = 16)
    (hsrc : ∀ k p, ps[k]? = some p → ∀ j, j < 4 → w.cell? ⟨b, o + (k * 4 + j), none⟩ = some (pgV p j)) :
    ∃ C : Array Value, C.size = 16 ∧ (∀ i, i < 16 → C[i]? = some (pgsF ps i)) ∧
    (Builtin.copy_ #[dT, sT] ty #[.slice (some ⟨g, 0, none⟩) 4 4, .slice (some ⟨b, o, none⟩) 4 4]).run P w = .ok (goInt 4) (w.setRow g C) := by
  have hsrc' : ∀ j, j < 16 → w.cell? ((⟨b, o, none⟩ : Addr).add j) = some (pgsF ps j) := fun j hj => by
    have hadd : (⟨b, o, none⟩ : Addr).add j = ⟨b, o + j, none⟩ := by unfold Addr.add; split <;> simp_all
    obtain ⟨p, hp⟩ := getElem?_ex (l := ps) (k := j / 4) (by omega)
    have := hsrc (j / 4) p hp (j % 4) (by omega)
    rw [show j / 4 * 4 + j % 4 = j by omega] at this
    rw [hadd, this]
    unfold pgsF
    rw [hp]
    rfl
  have hl := run_loadCells (P := P) w ⟨b, o, none⟩ 16 (pgsF ps) hsrc'
  have hst := run_storeCells_at P g 0 t ((List.range 16).map (pgsF ps)) 0 cur w hg (by simp [hcur]) (fun v hv => by
    obtain ⟨i, _, rfl⟩ := List.mem_map.1 hv
    exact pgV_one _ _)
  refine ⟨((List.range 16).map (pgsF ps)).toArray, by simp, fun i hi => by simp [hi], ?_⟩
  cases hq : P.info? elem with
  | none => simp [hq] at hs
  | some i =>
    have hi : i.size = 4 := by simpa [hq] using hs
    have hst' : (storeCells ⟨g, 0, none⟩ ((List.range 16).map (pgsF ps))).run P w = .ok () (w.setRow g ((List.range 16).map (pgsF ps)).toArray) := by
      rw [hst]
      congr 2
      simp [hcur]
    simp [Builtin.copy_, run_underlying hu, Builtin.lenOf, Builtin.firstCells, sizeOf, typeInfo, hq, hi, hl, hst']

theorem rowIs_setRow {w : World} {g : Nat} {t : TypeId} {cur C : Array Value} {n : Nat} {f : Nat → Value} (hg : w.heap[g]? = some (.cells cur t (0, 0))) (hC : C.size = n) (hf : ∀ i, i < n → C[i]? = some (f i)) : (w.setRow g C).rowIs g t n f :=
  ⟨C, setRow_heap w g cur C t (0, 0) hg, hC, hf⟩

theorem setRow_alloc (W : World) (cur C : Array Value) (t : TypeId) : (W.alloc (.cells cur t)).setRow W.heap.size C = W.alloc (.cells C t) := by
  unfold World.setRow World.alloc
  congr 1
  apply Array.ext
  · simp
  · intro i h1 h2
    simp only [Array.getElem_modify, Array.getElem_push]
    by_cases e : W.heap.size = i
    · subst e; simp
    · have : i < W.heap.size := by simp at h2; omega
      simp [e, this]

/-- copy of four pages into the row that was made last. -/
theorem copy_new (P : Program) (W : World) (dT sT ty elem : TypeId) (b o : Nat) (cur : Array Value) (t : TypeId) (ps : List Pg) (hps : ps.length = 4)
    (hu : P.underlying dT = some (.slice elem)) (hs : (P.info? elem).map (·.size) = some 4) (hcur : cur.size = 16) (hb : b < W.heap.size)
    (hsrc : ∀ k p, ps[k]? = some p → ∀ j, j < 4 → W.cell? ⟨b, o + (k * 4 + j), none⟩ = some (pgV p j)) :
    ∃ C : Array Value, (W.alloc (.cells C t)).rowIs W.heap.size t 16 (pgsF ps) ∧
    (Builtin.copy_ #[dT, sT] ty #[.slice (some ⟨W.heap.size, 0, none⟩) 4 4, .slice (some ⟨b, o, none⟩) 4 4]).run P (W.alloc (.cells cur t)) = .ok (goInt 4) (W.alloc (.cells C t)) := by
  obtain ⟨C, h1, h2, h3⟩ := copy_pages P (W.alloc (.cells cur t)) dT sT ty elem W.heap.size b o cur t ps hps hu hs (Go.Deep.blk_alloc_new _ _) hcur (fun k p hp j hj => by
    rw [cell_alloc_lt _ _ _ _ hb]; exact hsrc k p hp j hj)
  refine ⟨C, ⟨C, Go.Deep.blk_alloc_new _ _, h1, h2⟩, ?_⟩
  rw [h3, setRow_alloc]

/-- Four pages in sixteen cells; a block in seventeen. -/
def paA (f : Nat → Pg) : Array Value := Array.ofFn (n := 16) fun i => pgV (f (i.val / 4)) (i.val % 4)
def bcF (x : Int) (f : Nat → Pg) (i : Nat) : Value := if i = 0 then .int .i64 x else pgV (f ((i - 1) / 4)) ((i - 1) % 4)
def bcA (x : Int) (f : Nat → Pg) : Array Value := Array.ofFn (n := 17) fun i => bcF x f i.val
theorem paA_size (f : Nat → Pg) : (paA f).size = 16 := by simp [paA]
theorem bcA_size (x : Int) (f : Nat → Pg) : (bcA x f).size = 17 := by simp [bcA]
theorem paA_get (f : Nat → Pg) {i : Nat} (h : i < 16) : (paA f)[i]? = some (pgV (f (i / 4)) (i % 4)) := by simp [paA, h]
theorem bcA_get (x : Int) (f : Nat → Pg) {i : Nat} (h : i < 17) : (bcA x f)[i]? = some (bcF x f i) := by simp [bcA, h]
theorem paA_page (f : Nat → Pg) {k j : Nat} (hk : k < 4) (hj : j < 4) : (paA f)[k * 4 + j]? = some (pgV (f k) j) := by
  rw [paA_get f (by omega), show (k * 4 + j) / 4 = k by omega, show (k * 4 + j) % 4 = j by omega]
theorem bcA_page (x : Int) (f : Nat → Pg) {i : Nat} (h : i < 16) : (bcA x f)[1 + i]? = some (pgV (f (i / 4)) (i % 4)) := by
  rw [bcA_get x f (by omega)]
  unfold bcF
  rw [if_neg (by omega), show 1 + i - 1 = i by omega]
theorem ccA_block (m : CC) {b i : Nat} (hb : b < 12) (hi : i < 17) : (ccA m)[1 + b * 17 + i]? = (bcA (m.wear b) (m.page b))[i]? := by
  rw [bcA_get _ _ hi]
  unfold bcF
  by_cases e : i = 0
  · subst e; rw [if_pos rfl]; exact ccA_wear m hb
  · rw [if_neg e]
    have := ccA_page m (b := b) (k := (i - 1) / 4) (j := (i - 1) % 4) hb (by omega) (by omega)
    rw [show 1 + b * 17 + 1 + (i - 1) / 4 * 4 + (i - 1) % 4 = 1 + b * 17 + i by omega] at this
    exact this
theorem ccA_pages (m : CC) {b i : Nat} (hb : b < 12) (hi : i < 16) : (ccA m)[1 + b * 17 + 1 + i]? = (paA (m.page b))[i]? := by
  rw [paA_get _ hi]
  have := ccA_page m (b := b) (k := i / 4) (j := i % 4) hb (by omega) (by omega)
  rw [show 1 + b * 17 + 1 + i / 4 * 4 + i % 4 = 1 + b * 17 + 1 + i by omega] at this
  exact this

/-- A struct or an array is read out of the middle of a row. -/
theorem run_loadVar_mid {P : Program} (w : World) (g off : Nat) (ty : TypeId) (A : Array Value) (s : Nat) (hA : A.size = s) (hc : ∀ j, j < s → w.cell? ⟨g, off + j, none⟩ = A[j]?) (d : TypeDesc)
    (hu : P.underlying ty = some d) (hd : (match d with | .struct _ | .array _ _ => true | _ => false) = true) (hi : (P.info? ty).map (·.size) = some s) :
    (loadVar ty ⟨g, off, none⟩).run P w = .ok (.agg A) w := by
  have hl : (loadCells ⟨g, off, none⟩ A.toList.length).run P w = .ok A.toList.toArray w :=
    run_loadCells_list (P := P) w ⟨g, off, none⟩ A.toList (fun j v hv => by
      have hadd : (⟨g, off, none⟩ : Addr).add j = ⟨g, off + j, none⟩ := by unfold Addr.add; split <;> simp_all
      have hj : j < s := by rw [← hA, ← Array.length_toList]; exact (List.getElem?_eq_some_iff.1 hv).1
      rw [hadd, hc j hj, ← hv, Array.getElem?_toList])
  cases hq : P.info? ty with
  | none => simp [hq] at hi
  | some i =>
    have hs : i.size = A.size := by rw [hA]; simpa [hq] using hi
    have hagg : (isAgg ty).run P w = .ok true w := by
      unfold isAgg
      rw [Sem.run_bind, run_underlying hu w]
      cases d <;> simp_all
    simp only [Array.length_toList, Array.toArray_toList] at hl
    simp [loadVar, Sem.run_bind, hagg, sizeOf, typeInfo, hq, hs, hl]

theorem wp_load_mid {P : Program} {o : Oper} {a : Act} {w : World} {K : Act → World → Prop} {Q : Exit → Act → World → Prop} (ty : TypeId) (x : Operand) (ho : o.op = .load ty x)
    (g off : Nat) (hx : a.eval x = .pointer (some ⟨g, off, none⟩)) (A : Array Value) (s : Nat) (hA : A.size = s) (hc : ∀ j, j < s → w.cell? ⟨g, off + j, none⟩ = A[j]?) (d : TypeDesc)
    (hu : P.underlying ty = some d) (hd : (match d with | .struct _ | .array _ _ => true | _ => false) = true) (hi : (P.info? ty).map (·.size) = some s)
    (h : K (a.put o.dst (.agg A)) w) : o.wp P a w K Q := by
  unfold Oper.wp execOp
  simp only [ho, hx, Instr.loadAt, Instr.sureAddr, Sem.run_bind, Sem.run_pure, Result.andThen_ok, run_loadVar_mid w g off ty A s hA hc d hu hd hi]
  exact h

theorem wpList_load_mid {P : Program} {ops : Array Oper} {rest : List Oper} {o : Oper} {a : Act} {w : World} {Q : Exit → Act → World → Prop} (hgd : o.guard = none) (ty : TypeId) (x : Operand) (ho : o.op = .load ty x)
    (g off : Nat) (hx : a.eval x = .pointer (some ⟨g, off, none⟩)) (A : Array Value) (s : Nat) (hA : A.size = s) (hc : ∀ j, j < s → w.cell? ⟨g, off + j, none⟩ = A[j]?) (d : TypeDesc)
    (hu : P.underlying ty = some d) (hd : (match d with | .struct _ | .array _ _ => true | _ => false) = true) (hi : (P.info? ty).map (·.size) = some s)
    (h : wpList P ops Q rest (a.put o.dst (.agg A)) w) : wpList P ops Q (o :: rest) a w :=
  wpList_plain hgd fun _ hK => wp_load_mid ty x ho g off hx A s hA hc d hu hd hi (hK _ _ h)

/-- A page out of four in an array. -/
theorem run_index_pages {P : Program} (w : World) (ty e : TypeId) (f : Nat → Pg) (k : Nat) (hk : k < 4) (hu : P.underlying ty = some (.array 4 e)) (d : TypeDesc) (hue : P.underlying e = some d) (hd : (match d with | .struct _ | .array _ _ => true | _ => false) = true) (hi : (P.info? e).map (·.size) = some 4) :
    (Instr.index ty (.agg (paA f)) (.int .i64 (k : Int))).run P w = .ok (.agg #[.bool (f k).used, .int .i64 (f k).log, .int .i64 (f k).seq, .string (f k).data]) w := by
  cases hq : P.info? e with
  | none => simp [hq] at hi
  | some i =>
    have hs : i.size = 4 := by simpa [hq] using hi
    have hagg : (isAgg e).run P w = .ok true w := by
      unfold isAgg
      rw [Sem.run_bind, run_underlying hue w]
      cases d <;> simp_all
    have hx : (paA f).extract (k * 4) (k * 4 + 4) = #[.bool (f k).used, .int .i64 (f k).log, .int .i64 (f k).seq, .string (f k).data] := by
      apply Array.ext_getElem?
      intro j
      rw [Array.getElem?_extract, paA_size]
      by_cases hj : j < 4
      · rw [if_pos (by omega), paA_page f hk hj]
        have h4 : j = 0 ∨ j = 1 ∨ j = 2 ∨ j = 3 := by omega
        rcases h4 with rfl | rfl | rfl | rfl <;> rfl
      · rw [if_neg (by omega)]
        simp; omega
    have hlt : (0 : Int) ≤ (k : Int) ∧ (k : Int) < (4 : Nat) := by omega
    simp [Instr.index, asIntOf, run_underlying hu, hlt, part, hagg, sizeOf, typeInfo, hq, hs, hx, hk]

end Go.Proofs.YtjgcjeaplckbbaaGreatDoor

/- Chips held in arrays: the program's new chip, and the chip that is told out of the arrays. -/
namespace Go.Proofs.YtjgcjeaplckbbaaGreatDoor
open Go.RowKit
set_option linter.unusedVariables false
set_option linter.unusedSimpArgs false

theorem isBlockCount_any (n : Int) (w : World) : Calls Tryz.prog 48 #[.int .i64 n] w fun e w' => e = .returned (.bool (decide (4 ≤ n ∧ n ≤ 12))) ∧ w' = w := by
  go_enter Tryz.func48, Tryz.ntmps48
  go_wp2_with fail
  refine (within_any _ _ _ _).mono ?_
  rintro e w1 ⟨rfl, rfl⟩
  go_wp2
  go_ret
  exact ⟨by simp, rfl⟩

theorem sizePage : (Tryz.prog.info? 122).map (·.size) = some 4 := by kernel_rfl

set_option maxRecDepth 100000 in
set_option maxHeartbeats 1000000 in
theorem chip_any (m : CC) (n : Nat) (hm : m.count = n) (h1 : n ≤ 12) (w : World) :
    Calls Tryz.prog 148 #[.agg (ccA m)] w fun e w' => ∃ g H, e = .returned (.agg #[.slice (some ⟨g, 0, none⟩) n n]) ∧ w.heap.size ≤ g ∧ OwnBlocks w' 220 122 g H n (ccBs m n) ∧ Below w.heap.size w w' := by
  have hc0 := ccA_count m
  rw [hm] at hc0
  have hmk := make_blocks n (by omega)
  go_enter Tryz.func148, Tryz.ntmps148
  go_wp2
  clear hmk
  go_loopw [11] (fun i wr => ∃ (k : Nat) (H : Nat → Nat), k ≤ n ∧ i = .int .i64 k ∧ OwnBlocks wr 220 122 (w.heap.size + 1 + 1) H n ((ccBs m n).take k) ∧ Below (w.heap.size + 1 + 1) ((w.alloc (.cells (ccA m) 128)).alloc (.cells #[.slice none 0 0] 51)) wr) (fun i _ => n - (intOf i).toNat)
  case atStart =>
    refine ⟨0, fun _ => 0, Nat.zero_le _, rfl, ?_, (Below.refl _ _).alloc (by simp) _⟩
    have := OwnBlocks.made ((w.alloc (.cells (ccA m) 128)).alloc (.cells #[.slice none 0 0] 51)) 220 122 (fun _ => 0) n
    simpa using this
  case round =>
    obtain ⟨k, H, hk, rfl, hO, hB⟩ := hrel
    have hsz := hB.size
    simp at hsz
    by_cases hlt : k < n
    · have hbox : ∀ o, wr.cell? ⟨w.heap.size, o, none⟩ = (ccA m)[o]? := fun o => by
        rw [hB.cell (p := ⟨w.heap.size, o, none⟩) (by simp <;> omega)]
        simp
      have hgs := hO.row.lt
      obtain ⟨C, hC, hcp⟩ := copy_new Tryz.prog wr 218 218 3 122 w.heap.size (1 + k * 17 + 1) (madeCells #[.bool false, .int .i64 0, .int .i64 0, .string ByteArray.empty] 16) 122 (ccPs m k) rfl Tryz.underlying218 sizePage (size_madeCells _ _) (by omega) (fun q p hp j hj => by
        have hq : q < 4 := (List.getElem?_eq_some_iff.1 hp).1
        rw [ccPs_at m k hq] at hp
        cases hp
        rw [hbox, ← Nat.add_assoc]
        exact ccA_page m (by omega) hq hj)
      have hw := ccA_wear m (b := k) (by omega)
      have hmk4 := make_pages4
      have hbk := ccBs_at m hlt
      have c0 := hO.row.cell (i := k * 2) (by omega)
      have c1 := hO.row.cell (i := k * 2 + 1) (by omega)
      have f0 := hO.row.frozen
      have HB := hide hbk
      have HC := hide hC
      clear hbk hC
      have HCP := hide hcp
      obtain ⟨x0, hx0⟩ : ∃ x0, x0 = bksF H (List.take k (ccBs m n)) (k * 2) := ⟨_, rfl⟩
      obtain ⟨x1, hx1⟩ : ∃ x1, x1 = bksF H (List.take k (ccBs m n)) (k * 2 + 1) := ⟨_, rfl⟩
      rw [← hx0] at c0
      rw [← hx1] at c1
      clear hcp hx0 hx1
      go_wp2_with fail
      rw [unhide HCP]
      clear HCP hmk4
      have hcc : ∀ b o, b < wr.heap.size → (wr.alloc (.cells C 122)).cell? ⟨b, o, none⟩ = wr.cell? ⟨b, o, none⟩ := fun b o h => cell_alloc_lt _ _ _ _ h
      have hff : ∀ b o, b < wr.heap.size → (wr.alloc (.cells C 122)).frozen? ⟨b, o, none⟩ = wr.frozen? ⟨b, o, none⟩ := fun b o h => frozen_alloc_lt _ _ _ _ h
      have hgs0 : w.heap.size < wr.heap.size := by omega
      go_wp2
      go_roundw
      case rel =>
        have hO1 : OwnBlocks (wr.alloc (.cells C 122)) _ _ _ _ _ _ := hO.below ((Below.refl _ wr).alloc (Nat.le_refl _) _) (Nat.le_refl _)
        have hp := hO1.put (b := ⟨m.wear k, ccPs m k⟩) (unhide HB) (q := wr.heap.size) (unhide HC) (by omega) (fun i hi => hO.lt (by simp [ccBs_length]; omega))
        rw [World.setCell_alloc_past _ _ _ _ hgs, World.setCell_alloc_past _ _ _ _ (by simpa using hgs)] at hp
        exact ⟨k + 1, _, by omega, by go_num, hp, ((hB.setCell (by simp) _).setCell (by simp) _).alloc (by simp; omega) _⟩
      case measure => simp [intOf]; omega
    · have hk' : k = n := by omega
      subst hk'
      have hO' : OwnBlocks wr 220 122 (w.heap.size + 1 + 1) H k (ccBs m k) := by
        have := hO
        rwa [List.take_of_length_le (by rw [ccBs_length]; exact Nat.le_refl _)] at this
      have hcell : wr.cell? ⟨w.heap.size + 1, 0, none⟩ = some (.slice none 0 0) := by
        rw [hB.cell (p := ⟨w.heap.size + 1, 0, none⟩) (by simp)]
        simp
      have hfro : wr.frozen? ⟨w.heap.size + 1, 0, none⟩ = false := by
        rw [hB.frozen (p := ⟨w.heap.size + 1, 0, none⟩) (by simp)]
        simp
      have HO := hide hO'
      clear hO hO'
      go_wp2
      refine bodyPost_ret (v := .agg #[.slice (some ⟨w.heap.size + 1 + 1, 0, none⟩) k k]) (by simp [results, Tryz.results148, go_sem, hcell]) rfl ⟨_, H, rfl, by omega, (unhide HO).setOther (by simp) _, ?_⟩
      exact ((((Below.refl _ w).alloc (Nat.le_refl _) _).alloc (by simp) _).trans (hB.mono (by omega))).setCell (by simp) _

/-- A chip without pages. -/
def newCC (n : Int) : CC := ⟨n, fun _ => 0, fun _ _ => zeroPg⟩
theorem zeroCC : Tryz.zeroCells128 = ccA (newCC 0) := by kernel_rfl
theorem setCC (n : Int) : (Tryz.zeroCells128.toList.set 0 (.int .i64 n)) = (ccA (newCC n)).toList := by
  rw [zeroCC]
  have hlen : ∀ k, (ccA (newCC k)).toList.length = 205 := fun k => by rw [Array.length_toList, ccA_size]
  apply List.ext_getElem?
  intro i
  have h1 : ∀ k, (ccA (newCC k)).toList[i]? = (ccA (newCC k))[i]? := fun k => by rw [Array.getElem?_toList]
  rw [List.getElem?_set]
  by_cases e : 0 = i
  · subst e
    rw [if_pos rfl, if_pos (by rw [hlen]; omega), h1, ccA_count]
    rfl
  · rw [if_neg e]
    by_cases hi : i < 205
    · rw [h1, h1, ccA_get _ hi, ccA_get _ hi]
      unfold ccF
      simp only [if_neg (show ¬ i = 0 by omega)]
      rfl
    · rw [List.getElem?_eq_none (by rw [hlen]; omega), List.getElem?_eq_none (by rw [hlen]; omega)]

theorem sizeCC' : (Tryz.prog.info? 128).map (·.size) = some 205 := by kernel_rfl

theorem sizeCC (m : CC) : (Tryz.prog.info? 128).map (·.size) = some (ccA m).size := by
  rw [ccA_size]
  kernel_rfl

end Go.Proofs.YtjgcjeaplckbbaaGreatDoor

/- Lists of int64 as they lie in memory: no program is named here. -/
namespace Go.Proofs.YtjgcjeaplckbbaaGreatDoor
open Go.RowKit
set_option linter.unusedVariables false
set_option linter.unusedSimpArgs false

/-- The numbers L lie, one behind the other, from the address a on. -/
def IntsAt (w : World) (a : Option Addr) (L : List Int) : Prop :=
  ∀ i x, L[i]? = some x → ∃ b o, a = some ⟨b, o, none⟩ ∧ w.cell? ⟨b, o + i, none⟩ = some (.int .i64 x)

theorem IntsAt.below {w w' : World} {a : Option Addr} {L : List Int} (h : IntsAt w a L) {B : Nat} (hb : Below B w w') (hB : w.heap.size ≤ B) : IntsAt w' a L := by
  intro i x hx
  obtain ⟨b, o, ha, h0⟩ := h i x hx
  exact ⟨b, o, ha, (hb.cell (p := ⟨b, o + i, none⟩) (Nat.lt_of_lt_of_le (World.block_lt_of_cell? _ _ h0) hB)).trans h0⟩

def intF (L : List Int) (i : Nat) : Value := .int .i64 ((L[i]?).getD 0)

/-- A row of its own of n numbers, L ahead and noughts behind. -/
def RowInts (w : World) (t : TypeId) (b n : Nat) (L : List Int) : Prop := w.rowIs b t n (intF L)

theorem RowInts.intsAt {w : World} {t : TypeId} {b n : Nat} {L : List Int} (h : RowInts w t b n L) (hn : L.length ≤ n) : IntsAt w (some ⟨b, 0, none⟩) L := by
  intro i x hx
  have hi := (List.getElem?_eq_some_iff.1 hx).1
  refine ⟨b, 0, rfl, ?_⟩
  have := World.rowIs.cell h (i := i) (by omega)
  simpa [intF, hx] using this

theorem RowInts.below {w w' : World} {t : TypeId} {b n : Nat} {L : List Int} (h : RowInts w t b n L) {B : Nat} (hb : Below B w w') (hB : b < B) : RowInts w' t b n L :=
  World.rowIs.of_block h (hb.block b hB)

theorem RowInts.put {w : World} {t : TypeId} {b n k : Nat} {L : List Int} {x : Int} (h : RowInts w t b n (L.take k)) (hx : L[k]? = some x) :
    RowInts (w.setCell ⟨b, k, none⟩ (.int .i64 x)) t b n (L.take (k + 1)) := by
  have hk := (List.getElem?_eq_some_iff.1 hx).1
  refine World.rowIs.congr (World.rowIs.set h k (.int .i64 x)) fun i hi => ?_
  unfold intF
  by_cases e : i = k
  · subst e; simp [List.getElem?_take, hx]
  · by_cases l : i < k
    · simp [e, List.getElem?_take, l, Nat.lt_succ_of_lt l]
    · have l2 : ¬ i < k + 1 := by omega
      simp [e, List.getElem?_take, l, l2]

theorem RowInts.made (w : World) (t : TypeId) (n : Nat) : RowInts (w.alloc (.cells (madeCells #[.int .i64 0] n) t)) t w.heap.size n [] :=
  (World.rowIs_made w (.int .i64 0) n t).congr fun i hi => by simp [intF]

end Go.Proofs.YtjgcjeaplckbbaaGreatDoor

/- Right chips, as plain lists say it. No program is named here. -/
namespace Go.Proofs.YtjgcjeaplckbbaaGreatDoor
open Go.RowKit
set_option linter.unusedVariables false
set_option linter.unusedSimpArgs false

def rightUsed (p : Pg) : Bool := p.used && (decide (0 ≤ p.log) && decide (p.log ≤ 39)) && (decide (1 ≤ p.seq) && decide (p.seq ≤ 1000000000)) && decide (p.data.size = 4)
def isZero (p : Pg) : Bool := (!p.used) && decide (p.log = 0) && decide (p.seq = 0) && decide (p.data.size = 0)
def pgOk (p : Pg) : Bool := if p.used then rightUsed p else isZero p

/-- The numbers of the pages that are used. -/
def seqsP (ps : List Pg) : List Int := (ps.filter (·.used)).map (·.seq)
def seqs (bs : List Bk) : List Int := bs.flatMap fun b => seqsP b.pages

theorem seqsP_append (a b : List Pg) : seqsP (a ++ b) = seqsP a ++ seqsP b := by simp [seqsP]
theorem seqsP_snoc {ps : List Pg} {k : Nat} {p : Pg} (h : ps[k]? = some p) : seqsP (ps.take (k + 1)) = seqsP (ps.take k) ++ if p.used then [p.seq] else [] := by
  obtain ⟨hk, rfl⟩ := List.getElem?_eq_some_iff.1 h
  rw [List.take_succ_eq_append_getElem hk, seqsP_append]
  congr 1
  by_cases hu : ps[k].used <;> simp [seqsP, hu]
theorem seqs_append (a b : List Bk) : seqs (a ++ b) = seqs a ++ seqs b := by simp [seqs]
theorem seqs_snoc {bs : List Bk} {k : Nat} {b : Bk} (h : bs[k]? = some b) : seqs (bs.take (k + 1)) = seqs (bs.take k) ++ seqsP b.pages := by
  obtain ⟨hk, rfl⟩ := List.getElem?_eq_some_iff.1 h
  rw [List.take_succ_eq_append_getElem hk, seqs_append]
  simp [seqs]
theorem seqsP_length (ps : List Pg) : (seqsP ps).length ≤ ps.length := by simp [seqsP]; exact List.length_filter_le _ _
theorem seqs_length {n : Nat} {bs : List Bk} (h : ∀ b ∈ bs, b.pages.length ≤ n) : (seqs bs).length ≤ bs.length * n := by
  induction bs with
  | nil => simp [seqs]
  | cons b bs ih =>
    have h1 := ih (fun c hc => h c (by simp [hc]))
    have h2 := h b (by simp)
    have h3 := seqsP_length b.pages
    have e : seqs (b :: bs) = seqsP b.pages ++ seqs bs := rfl
    rw [e, List.length_append, List.length_cons, Nat.add_mul]
    omega

/-- A block is right but for its numbers. -/
structure BkOk (b : Bk) : Prop where
  wear : 0 ≤ b.wear ∧ b.wear ≤ 1000000000
  four : b.pages.length = 4
  page : ∀ (k : Nat) (p : Pg), b.pages[k]? = some p → pgOk p = true
  order : ∀ (k : Nat) (p q : Pg), b.pages[k]? = some q → b.pages[k + 1]? = some p → p.used = true → q.used = true

structure ChipOk (bs : List Bk) : Prop where
  count : 4 ≤ bs.length ∧ bs.length ≤ 12
  block : ∀ b ∈ bs, BkOk b
  nodup : (seqs bs).Nodup

theorem mem_seqsP {ps : List Pg} {k : Nat} {p : Pg} (h : ps[k]? = some p) (hu : p.used = true) : p.seq ∈ seqsP ps :=
  List.mem_map.2 ⟨p, List.mem_filter.2 ⟨List.mem_of_getElem? h, hu⟩, rfl⟩
theorem mem_seqs {bs : List Bk} {i : Nat} {b : Bk} (hb : bs[i]? = some b) {k : Nat} {p : Pg} (h : b.pages[k]? = some p) (hu : p.used = true) : p.seq ∈ seqs bs :=
  List.mem_flatMap.2 ⟨b, List.mem_of_getElem? hb, mem_seqsP h hu⟩
theorem seqs_mem {bs : List Bk} {s : Int} (h : s ∈ seqs bs) : ∃ (i : Nat) (b : Bk) (k : Nat) (p : Pg), bs[i]? = some b ∧ b.pages[k]? = some p ∧ p.used = true ∧ p.seq = s := by
  obtain ⟨b, hb, hs⟩ := List.mem_flatMap.1 h
  obtain ⟨p, hp, rfl⟩ := List.mem_map.1 hs
  obtain ⟨hp1, hu⟩ := List.mem_filter.1 hp
  obtain ⟨i, hi, rfl⟩ := List.getElem_of_mem hb
  obtain ⟨k, hk, rfl⟩ := List.getElem_of_mem hp1
  exact ⟨i, bs[i], k, _, by simp [hi], by simp [hk], hu, rfl⟩

theorem ChipOk.one {bs : List Bk} (h : ChipOk bs) {s : Int} (hs : s ∈ seqs bs) : (seqs bs).count s = 1 := by
  have h1 := (List.nodup_iff_count.1 h.nodup) s
  have h2 := List.count_pos_iff.2 hs
  omega
theorem nodup_of_one {bs : List Bk} (h : ∀ s ∈ seqs bs, (seqs bs).count s = 1) : (seqs bs).Nodup := by
  refine List.nodup_iff_count.2 (fun s => ?_)
  by_cases hs : s ∈ seqs bs
  · exact Nat.le_of_eq (h s hs)
  · rw [List.count_eq_zero_of_not_mem hs]; omega

/-- The call has answered whether C. -/
def RetIff (C : Prop) (e : Ending) : Prop := ∃ r : Bool, e = .returned (.bool r) ∧ (r = true ↔ C)
theorem RetIff.yes {C : Prop} (h : C) : RetIff C (.returned (.bool true)) := ⟨true, rfl, by simp [h]⟩
theorem RetIff.no {C : Prop} (h : ¬ C) : RetIff C (.returned (.bool false)) := ⟨false, rfl, by simp [h]⟩

end Go.Proofs.YtjgcjeaplckbbaaGreatDoor

/- The model's answer whether a chip is right. -/
namespace Go.Proofs.YtjgcjeaplckbbaaGreatDoor
open Go.RowKit
set_option linter.unusedVariables false
set_option linter.unusedSimpArgs false

theorem isEmpty_size (d : ByteArray) : d.toList.isEmpty = decide (d.size = 0) := by
  rw [Bool.eq_iff_iff]
  simp [List.isEmpty_iff, toList_nil_iff_emptyBytes]
theorem size_four (d : ByteArray) : ((d.size : Int) == 4) = decide (d.size = 4) := by
  rw [Bool.eq_iff_iff]
  simp
  omega
theorem ret_bool {a b : Bool} (h : a = b) : Ending.returned (.bool a) = .returned (.bool b) := by rw [h]

set_option maxHeartbeats 1000000 in
theorem l1Page_any (p : Pg) (w : World) : Calls Tryz.prog 238 #[.agg #[.bool p.used, .int .i64 p.log, .int .i64 p.seq, .string p.data]] w fun e w' => e = .returned (.bool (pgOk p)) ∧ Below w.heap.size w w' := by
  obtain ⟨u, l, s, d⟩ := p
  have hB : ∀ o, Below w.heap.size w (w.alloc o) := fun o => (Below.refl _ w).alloc (Nat.le_refl _) _
  cases u with
  | false =>
    by_cases h1 : l = 0
    · subst h1
      by_cases h2 : s = 0
      · subst h2
        go_enter Tryz.func238, Tryz.ntmps238
        go_wp2
        go_ret
        exact ⟨ret_bool (by simp [pgOk, isZero, isEmpty_size]), hB _⟩
      · have h2' : (s == 0) = false := by simpa using h2
        go_enter Tryz.func238, Tryz.ntmps238
        go_wp2
        go_ret
        exact ⟨ret_bool (by simp [pgOk, isZero, h2]), hB _⟩
    · have h1' : (l == 0) = false := by simpa using h1
      go_enter Tryz.func238, Tryz.ntmps238
      go_wp2
      go_ret
      exact ⟨ret_bool (by simp [pgOk, isZero, h1]), hB _⟩
  | true =>
    by_cases h1 : 0 ≤ l ∧ l ≤ 39
    · by_cases h2 : 1 ≤ s ∧ s ≤ 1000000000
      · have e1 : decide (0 ≤ l ∧ l ≤ 39) = true := by simpa using h1
        have e2 : decide (1 ≤ s ∧ s ≤ 1000000000) = true := by simpa using h2
        go_enter Tryz.func238, Tryz.ntmps238
        go_wp2_with (go_at_call 62; refine (l1In_any _ _ _ _).mono ?_; rintro e w1 ⟨rfl, rfl⟩)
        go_ret
        exact ⟨ret_bool (by simp [pgOk, rightUsed, h1, h2, size_four]), hB _⟩
      · have e1 : decide (0 ≤ l ∧ l ≤ 39) = true := by simpa using h1
        have e2 : decide (1 ≤ s ∧ s ≤ 1000000000) = false := by simpa using h2
        go_enter Tryz.func238, Tryz.ntmps238
        go_wp2_with (go_at_call 62; refine (l1In_any _ _ _ _).mono ?_; rintro e w1 ⟨rfl, rfl⟩)
        go_ret
        exact ⟨ret_bool (by simp [pgOk, rightUsed]; omega), hB _⟩
    · have e1 : decide (0 ≤ l ∧ l ≤ 39) = false := by simpa using h1
      go_enter Tryz.func238, Tryz.ntmps238
      go_wp2_with (go_at_call 62; refine (l1In_any _ _ _ _).mono ?_; rintro e w1 ⟨rfl, rfl⟩)
      go_ret
      exact ⟨ret_bool (by simp [pgOk, rightUsed]; omega), hB _⟩

set_option maxRecDepth 100000 in
set_option maxHeartbeats 2000000 in
theorem l1Seq_any (a : Option Addr) (c : Nat) (bs : List Bk) (s : Int) (w : World) (h : BlocksAt w a bs) (hn : Lens 1048576 bs) :
    Calls Tryz.prog 239 #[.agg #[.slice a bs.length c], .int .i64 s] w fun e w' => e = .returned (.int .i64 ((seqs bs).count s)) ∧ Below w.heap.size w w' := by
  have hn1 := hn.1
  go_enter Tryz.func239, Tryz.ntmps239
  go_wp2
  go_loopw [5, 6] (fun v i wr => ∃ (k : Nat), k ≤ bs.length ∧ i = .int .i64 k ∧ v = .int .i64 ((seqs (bs.take k)).count s) ∧ wr = w.alloc (.cells #[.slice a bs.length c] 51)) (fun _ i _ => bs.length - (intOf i).toNat)
  case atStart => exact ⟨0, Nat.zero_le _, rfl, by simp [seqs], rfl⟩
  case round =>
    obtain ⟨k, hk, rfl, rfl, rfl⟩ := hrel
    by_cases hlt : k < bs.length
    · obtain ⟨b, hb⟩ := getElem?_ex hlt
      obtain ⟨b1, o1, pa, pc, rfl, g10, g11, q⟩ := h k b hb
      have hb1 : b1 < w.heap.size := World.block_lt_of_cell? _ _ g10
      have hpl := hn.at hb
      have hsum : (seqs (bs.take k)).count s ≤ k * 1048576 := Nat.le_trans List.count_le_length (Nat.le_trans (seqs_length (fun b hb => hn.2 b (List.mem_of_mem_take hb))) (Nat.mul_le_mul_right _ (by simp; omega)))
      have hsnoc : (seqs (bs.take (k + 1))).count s = (seqs (bs.take k)).count s + (seqsP b.pages).count s := by rw [seqs_snoc hb, List.count_append]
      have HN := hide hsnoc
      have HB := hide hb
      generalize hm : (seqs (bs.take k)).count s = m at *
      have HM := hide hm
      clear hsnoc hb hm h
      go_wp2
      go_loopw [5, 7] (fun v i wr => ∃ (j : Nat), j ≤ b.pages.length ∧ i = .int .i64 j ∧ v = .int .i64 ((m : Int) + ((seqsP (b.pages.take j)).count s : Nat)) ∧ wr = w.alloc (.cells #[.slice (some ⟨b1, o1, none⟩) bs.length c] 51)) (fun _ i _ => b.pages.length - (intOf i).toNat)
      case atStart => exact ⟨0, Nat.zero_le _, rfl, by simp [seqsP], rfl⟩
      case round =>
        obtain ⟨j, hj, rfl, rfl, rfl⟩ := hrel
        by_cases hlt2 : j < b.pages.length
        · obtain ⟨p, hp⟩ := getElem?_ex hlt2
          obtain ⟨b2, o2, rfl, p0, p1, p2, p3⟩ := q j p hp
          have hb2 : b2 < w.heap.size := World.block_lt_of_cell? _ _ p0
          have hc : (seqsP (b.pages.take j)).count s ≤ 1048576 := Nat.le_trans List.count_le_length (Nat.le_trans (seqsP_length _) (by simp; omega))
          have hsn := congrArg (List.count s) (seqsP_snoc hp)
          rw [List.count_append] at hsn
          have HP := hide hsn
          generalize hr : (seqsP (b.pages.take j)).count s = r at *
          have HR := hide hr
          clear hsn hp hr q
          by_cases hu : p.used = true
          · rw [hu] at p0
            by_cases hs : p.seq = s
            · have hs' : (p.seq == s) = true := by simpa using hs
              go_wp2
              go_roundw
              case rel =>
                refine ⟨j + 1, by omega, by go_num, ?_, trivial⟩
                have := unhide HP
                rw [if_pos hu, hs] at this
                simp at this
                rw [this]
                go_num
              case measure => simp [intOf]; omega
            · have hs' : (p.seq == s) = false := by simpa using hs
              go_wp2
              go_roundw
              case rel =>
                refine ⟨j + 1, by omega, by go_num, ?_, trivial⟩
                have := unhide HP
                rw [if_pos hu, List.count_singleton, hs'] at this
                simp at this
                rw [this]
              case measure => simp [intOf]; omega
          · have hu' : p.used = false := by simpa using hu
            rw [hu'] at p0
            go_wp2
            go_roundw
            case rel =>
              refine ⟨j + 1, by omega, by go_num, ?_, trivial⟩
              have := unhide HP
              rw [if_neg hu] at this
              simp at this
              rw [this]
            case measure => simp [intOf]; omega
        · have hj' : j = b.pages.length := by omega
          subst hj'
          rw [List.take_length]
          have hc : (seqsP b.pages).count s ≤ 1048576 := Nat.le_trans List.count_le_length (Nat.le_trans (seqsP_length _) hpl)
          generalize hr : (seqsP b.pages).count s = r at *
          have HR := hide hr
          clear hr
          go_wp2
          go_roundw
          case rel =>
            refine ⟨k + 1, by omega, by go_num, ?_, trivial⟩
            rw [unhide HN]
            go_num
          case measure => simp [intOf]; omega
    · have hk' : k = bs.length := by omega
      subst hk'
      rw [List.take_length]
      generalize hm : (seqs bs).count s = m at *
      have HM := hide hm
      clear hm
      go_wp2
      go_ret
      refine ⟨?_, (Below.refl _ w).alloc (Nat.le_refl _) _⟩
      rw [unhide HM]
      rfl

set_option maxRecDepth 100000 in
set_option maxHeartbeats 4000000 in
theorem specChipOk_any (a : Option Addr) (c : Nat) (bs : List Bk) (w : World) (h : BlocksAt w a bs) (hn : Lens 1048576 bs) :
    Calls Tryz.prog 185 #[.agg #[.slice a bs.length c]] w fun e w' => ∃ r : Bool, e = .returned (.bool r) ∧ (r = true ↔ ChipOk bs) ∧ Below w.heap.size w w' := by
  have hn1 := hn.1
  have hb0 : ∀ o, Below w.heap.size w (w.alloc o) := fun o => (Below.refl _ w).alloc (Nat.le_refl _) _
  by_cases hcnt : 4 ≤ bs.length ∧ bs.length ≤ 12
  · go_enter Tryz.func185, Tryz.ntmps185
    go_wp2_with fail
    refine (l1In_any _ _ _ _).mono ?_
    rintro e w1 ⟨rfl, rfl⟩
    have hd : decide (4 ≤ (bs.length : Int) ∧ (bs.length : Int) ≤ 12) = true := by simp; omega
    rw [hd]
    go_wp2
    go_loopw [3] (fun i wr => ∃ (k : Nat), k ≤ bs.length ∧ i = .int .i64 k ∧ (∀ j b, j < k → bs[j]? = some b → BkOk b ∧ ∀ s ∈ seqsP b.pages, (seqs bs).count s = 1) ∧ wr.cell? ⟨w.heap.size, 0, none⟩ = some (.slice a bs.length c) ∧ Below w.heap.size w wr ∧ w.heap.size < wr.heap.size) (fun i _ => bs.length - (intOf i).toNat)
    case atStart => exact ⟨0, Nat.zero_le _, rfl, fun j b hj => absurd hj (Nat.not_lt_zero _), by simp, hb0 _, by simp⟩
    case round =>
      obtain ⟨k, hk, rfl, hall, hbox, hB, hsz⟩ := hrel
      by_cases hlt : k < bs.length
      · obtain ⟨b, hb⟩ := getElem?_ex hlt
        obtain ⟨b1, o1, pa, pc, rfl, g10, g11, q⟩ := (h.below hB (Nat.le_refl _)) k b hb
        have hb1 : b1 < wr.heap.size := World.block_lt_of_cell? _ _ g10
        have hpl := hn.at hb
        have HB := hide hb
        have HA := hide hall
        have hno : ¬ (BkOk b ∧ ∀ s ∈ seqsP b.pages, (seqs bs).count s = 1) → ¬ ChipOk bs := fun h1 h2 =>
          h1 ⟨h2.block b (List.mem_of_getElem? hb), fun s hs => h2.one (List.mem_flatMap.2 ⟨b, List.mem_of_getElem? hb, hs⟩)⟩
        have HNO := hide hno
        clear hb hall hno
        have hBout : ∀ W, Below wr.heap.size wr W → Below w.heap.size w W := fun W hW => hB.trans (hW.mono hB.size)
        by_cases hw : 0 ≤ b.wear ∧ b.wear ≤ 1000000000
        · have hd1 : decide (0 ≤ b.wear ∧ b.wear ≤ 1000000000) = true := by simpa using hw
          by_cases h4 : b.pages.length = 4
          · rw [h4] at g11
            have H4 := hide h4
            clear h4
            go_wp2_with fail
            refine (l1In_any _ _ _ _).mono ?_
            rintro e w1 ⟨rfl, rfl⟩
            rw [hd1]
            obtain ⟨W0, hW0⟩ : ∃ W0, W0 = wr.alloc (.cells #[.int .i64 b.wear, .slice pa 4 pc] 220) := ⟨_, rfl⟩
            have hBW : Below wr.heap.size wr W0 := by rw [hW0]; exact (Below.refl _ _).alloc (Nat.le_refl _) _
            have hsW : W0.heap.size = wr.heap.size + 1 := by rw [hW0]; simp
            have y1 : W0.cell? ⟨w.heap.size, 0, none⟩ = some (.slice (some ⟨b1, o1, none⟩) bs.length c) := by rw [hBW.cell (p := ⟨w.heap.size, 0, none⟩) hsz]; exact hbox
            have y2 : W0.cell? ⟨wr.heap.size, 1, none⟩ = some (.slice pa 4 pc) := by rw [hW0]; simp
            have HSW := hide hsW
            clear hsW
            go_wp2
            rw [← hW0]
            have HW0 := hide hW0
            have hltW : w.heap.size < W0.heap.size := by have := unhide HSW; omega
            have hltO : wr.heap.size < W0.heap.size := by have := unhide HSW; omega
            have HbaW := hide ((h.below hB (Nat.le_refl _)).below hBW (Nat.le_refl _))
            have HqW := hide (q.below hBW (Nat.le_refl _))
            have HoutW : Hid (∀ W, Below W0.heap.size W0 W → Below w.heap.size w W) := fun W hW => hBout W (hBW.trans (hW.mono hBW.size))
            clear hW0 g10 g11 h q hbox hB hBW hBout
            obtain ⟨wo, rfl⟩ : ∃ wo : World, wo = wr := ⟨_, rfl⟩
            go_loopw [5] (fun i wr2 => ∃ (j : Nat), j ≤ 4 ∧ i = .int .i64 j ∧ (∀ t p, t < j → b.pages[t]? = some p → pgOk p = true ∧ (p.used = true → (∀ t' q, t = t' + 1 → b.pages[t']? = some q → q.used = true) ∧ (seqs bs).count p.seq = 1)) ∧ Below W0.heap.size W0 wr2) (fun i _ => 4 - (intOf i).toNat)
            case atStart => exact ⟨0, by omega, rfl, fun t p ht => absurd ht (Nat.not_lt_zero _), Below.refl _ _⟩
            case round =>
              obtain ⟨j, hj, rfl, hpg, hB2⟩ := hrel
              have HPG := hide hpg
              clear hpg
              have hs2 := hB2.size
              have z1 := (hB2.cell (p := ⟨w.heap.size, 0, none⟩) hltW).trans y1
              have z2 := (hB2.cell (p := ⟨wo.heap.size, 1, none⟩) hltO).trans y2
              have hl1 : w.heap.size < wr.heap.size := by omega
              have hl2 : wo.heap.size < wr.heap.size := by omega
              by_cases hlt2 : j < 4
              · obtain ⟨p, hp⟩ := getElem?_ex (l := b.pages) (k := j) (by rw [unhide H4]; exact hlt2)
                obtain ⟨b2, o2, rfl, p0, p1, p2, p3⟩ := ((unhide HqW).below hB2 (Nat.le_refl _)) j p hp
                have hb2 : b2 < wr.heap.size := World.block_lt_of_cell? _ _ p0
                have HP := hide hp
                clear hp
                go_wp2_with fail
                refine (l1Page_any p _).mono ?_
                rintro e w1 ⟨rfl, hB3⟩
                clear p0 p1 p2 p3
                have hs3 := hB3.size
                simp at hs3
                have x1 : w1.cell? ⟨w.heap.size, 0, none⟩ = some (.slice (some ⟨b1, o1, none⟩) bs.length c) := by
                  rw [hB3.cell (p := ⟨w.heap.size, 0, none⟩) (by simp; omega), cell_alloc_lt _ _ _ _ hl1]; exact z1
                have x2 : w1.cell? ⟨wo.heap.size, 1, none⟩ = some (.slice (some ⟨b2, o2, none⟩) 4 pc) := by
                  rw [hB3.cell (p := ⟨wo.heap.size, 1, none⟩) (by simp; omega), cell_alloc_lt _ _ _ _ hl2]; exact z2
                have x3 : ∀ i, w1.cell? ⟨wr.heap.size, i, none⟩ = (#[Value.bool p.used, .int .i64 p.log, .int .i64 p.seq, .string p.data])[i]? := fun i => by
                  rw [hB3.cell (p := ⟨wr.heap.size, i, none⟩) (by simp)]; simp
                have x30 := x3 0
                have x32 := x3 2
                simp at x30 x32
                have hBw1 : Below W0.heap.size W0 w1 := (hB2.trans (((Below.refl _ wr).alloc (Nat.le_refl _) _).mono hB2.size)).trans (hB3.mono (by simp; omega))
                have HBW1 := hide hBw1
                have HX3 := hide x3
                clear x3 hBw1 z1 z2
                cases hpk : pgOk p with
                | false =>
                  go_wp2
                  go_ret
                  refine ⟨false, rfl, ?_, unhide HoutW _ (unhide HBW1)⟩
                  simp only [Bool.false_eq_true, false_iff]
                  refine unhide HNO (fun hx => ?_)
                  have := hx.1.page j p (unhide HP)
                  rw [hpk] at this
                  cases this
                | true =>
                  cases hu : p.used with
                  | false =>
                    rw [hu] at x30
                    go_wp2
                    go_roundw
                    case rel =>
                      refine ⟨j + 1, by omega, by go_num, ?_, unhide HBW1⟩
                      intro t p' ht hp'
                      by_cases e : t = j
                      · subst e
                        rw [unhide HP] at hp'
                        cases hp'
                        exact ⟨hpk, fun h => by rw [hu] at h; cases h⟩
                      · exact unhide HPG t p' (by omega) hp'
                    case measure => simp [intOf]; omega
                  | true =>
                    rw [hu] at x30
                    have hfin : ∀ (W : World), Below W0.heap.size W0 W → (∀ t' q, j = t' + 1 → b.pages[t']? = some q → q.used = true) → (seqs bs).count p.seq = 1 → ∀ t p', t < j + 1 → b.pages[t]? = some p' → pgOk p' = true ∧ (p'.used = true → (∀ t' q, t = t' + 1 → b.pages[t']? = some q → q.used = true) ∧ (seqs bs).count p'.seq = 1) := by
                      intro W _ h1 h2 t p' ht hp'
                      by_cases e : t = j
                      · subst e
                        rw [unhide HP] at hp'
                        cases hp'
                        exact ⟨hpk, fun _ => ⟨h1, h2⟩⟩
                      · exact unhide HPG t p' (by omega) hp'
                    have HFIN := hide hfin
                    clear hfin
                    have hseq : p.seq ∈ seqsP b.pages := mem_seqsP (unhide HP) hu
                    have HSEQ := hide hseq
                    clear hseq
                    cases j with
                    | zero =>
                      go_wp2_with fail
                      refine (l1Seq_any _ _ bs _ _ ((unhide HbaW).below (unhide HBW1) (Nat.le_refl _)) hn).mono ?_
                      rintro e w2 ⟨rfl, hB4⟩
                      have HB4 : Hid (Below W0.heap.size W0 w2) := (unhide HBW1).trans (hB4.mono (by have := (unhide HBW1).size; omega))
                      by_cases hc1 : (seqs bs).count p.seq = 1
                      · have hc1' : ((((seqs bs).count p.seq : Nat) : Int) != 1) = false := by simp [hc1]
                        have HC := hide hc1
                        clear hc1 hB4
                        go_wp2
                        go_roundw
                        case rel => exact ⟨0 + 1, by omega, by go_num, unhide HFIN w2 (unhide HB4) (fun t' q ht => by omega) (unhide HC), unhide HB4⟩
                        case measure => simp [intOf]
                      · have hc1' : ((((seqs bs).count p.seq : Nat) : Int) != 1) = true := by rw [bne_iff_ne]; omega
                        have HC := hide hc1
                        clear hc1 hB4
                        go_wp2
                        go_ret
                        refine ⟨false, rfl, ?_, unhide HoutW _ (unhide HB4)⟩
                        simp only [Bool.false_eq_true, false_iff]
                        exact unhide HNO (fun hx => unhide HC (hx.2 _ (unhide HSEQ)))
                    | succ t =>
                      obtain ⟨q', hq'⟩ := getElem?_ex (l := b.pages) (k := t) (by rw [unhide H4]; omega)
                      obtain ⟨b3, o3, e3, q0, _, _, _⟩ := ((unhide HqW).below (unhide HBW1) (Nat.le_refl _)) t q' hq'
                      simp at e3
                      obtain ⟨rfl, rfl⟩ := e3
                      have HQ := hide hq'
                      clear hq'
                      cases hu2 : q'.used with
                      | false =>
                        rw [hu2] at q0
                        go_wp2
                        go_ret
                        refine ⟨false, rfl, ?_, unhide HoutW _ (unhide HBW1)⟩
                        simp only [Bool.false_eq_true, false_iff]
                        refine unhide HNO (fun hx => ?_)
                        have := hx.1.order t p q' (unhide HQ) (unhide HP) hu
                        rw [hu2] at this
                        cases this
                      | true =>
                        rw [hu2] at q0
                        go_wp2_with fail
                        refine (l1Seq_any _ _ bs _ _ ((unhide HbaW).below (unhide HBW1) (Nat.le_refl _)) hn).mono ?_
                        rintro e w2 ⟨rfl, hB4⟩
                        have HB4 : Hid (Below W0.heap.size W0 w2) := (unhide HBW1).trans (hB4.mono (by have := (unhide HBW1).size; omega))
                        by_cases hc1 : (seqs bs).count p.seq = 1
                        · have hc1' : ((((seqs bs).count p.seq : Nat) : Int) != 1) = false := by simp [hc1]
                          have HC := hide hc1
                          clear hc1 hB4
                          go_wp2
                          go_roundw
                          case rel =>
                            refine ⟨t + 1 + 1, by omega, by go_num, unhide HFIN w2 (unhide HB4) (fun t' q ht hq => ?_) (unhide HC), unhide HB4⟩
                            have e : t' = t := by omega
                            subst e
                            rw [unhide HQ] at hq
                            cases hq
                            exact hu2
                          case measure => simp [intOf]; omega
                        · have hc1' : ((((seqs bs).count p.seq : Nat) : Int) != 1) = true := by rw [bne_iff_ne]; omega
                          have HC := hide hc1
                          clear hc1 hB4
                          go_wp2
                          go_ret
                          refine ⟨false, rfl, ?_, unhide HoutW _ (unhide HB4)⟩
                          simp only [Bool.false_eq_true, false_iff]
                          exact unhide HNO (fun hx => unhide HC (hx.2 _ (unhide HSEQ)))
              · have hj4 : j = 4 := by omega
                subst hj4
                go_wp2
                go_roundw
                case rel =>
                  refine ⟨k + 1, by omega, by go_num, ?_, z1, unhide HoutW _ hB2, hl1⟩
                  intro i b' hi hb'
                  by_cases e : i = k
                  · subst e
                    rw [unhide HB] at hb'
                    cases hb'
                    refine ⟨⟨hw, unhide H4, fun t p hp => (unhide HPG t p ?_ hp).1, fun t p q hq hp hu => ?_⟩, fun s hs => ?_⟩
                    · have := (List.getElem?_eq_some_iff.1 hp).1
                      rw [unhide H4] at this
                      exact this
                    · have := (List.getElem?_eq_some_iff.1 hp).1
                      rw [unhide H4] at this
                      exact ((unhide HPG (t + 1) p this hp).2 hu).1 t q rfl hq
                    · obtain ⟨p, hp, rfl⟩ := List.mem_map.1 hs
                      obtain ⟨hp1, hu⟩ := List.mem_filter.1 hp
                      obtain ⟨t, ht, rfl⟩ := List.getElem_of_mem hp1
                      exact ((unhide HPG t _ (by rw [← unhide H4]; exact ht) (by simp [ht])).2 hu).2
                  · exact unhide HA i b' (by omega) hb'
                case measure => simp [intOf]; omega
          · have h4' : ((b.pages.length : Int) != 4) = true := by rw [bne_iff_ne]; omega
            go_wp2_with fail
            refine (l1In_any _ _ _ _).mono ?_
            rintro e w1 ⟨rfl, rfl⟩
            rw [hd1]
            have HH := hide h4
            clear h4
            go_wp2
            go_ret
            refine ⟨false, rfl, ?_, hBout _ ((Below.refl _ _).alloc (Nat.le_refl _) _)⟩
            simp only [Bool.false_eq_true, false_iff]
            exact unhide HNO (fun hx => unhide HH hx.1.four)
        · have hd1 : decide (0 ≤ b.wear ∧ b.wear ≤ 1000000000) = false := by simpa using hw
          go_wp2_with fail
          refine (l1In_any _ _ _ _).mono ?_
          rintro e w1 ⟨rfl, rfl⟩
          rw [hd1]
          have HH := hide hw
          clear hw
          go_wp2
          go_ret
          refine ⟨false, rfl, ?_, hBout _ ((Below.refl _ _).alloc (Nat.le_refl _) _)⟩
          simp only [Bool.false_eq_true, false_iff]
          exact unhide HNO (fun hx => unhide HH hx.1.wear)
      · have hyes : ChipOk bs := by
          have hk' : k = bs.length := by omega
          subst hk'
          refine ⟨hcnt, fun b hb => ?_, nodup_of_one (fun s hs => ?_)⟩
          · obtain ⟨i, hi, rfl⟩ := List.getElem_of_mem hb
            exact (hall i _ hi (by simp [hi])).1
          · obtain ⟨b, hb, hs'⟩ := List.mem_flatMap.1 hs
            obtain ⟨i, hi, rfl⟩ := List.getElem_of_mem hb
            exact (hall i _ hi (by simp [hi])).2 s hs'
        have HY := hide hyes
        clear hyes hall
        go_wp2
        go_ret
        exact ⟨true, rfl, by simp [unhide HY], hB⟩
  · go_enter Tryz.func185, Tryz.ntmps185
    go_wp2_with fail
    refine (l1In_any _ _ _ _).mono ?_
    rintro e w1 ⟨rfl, rfl⟩
    have hd : decide (4 ≤ (bs.length : Int) ∧ (bs.length : Int) ≤ 12) = false := by simp; omega
    rw [hd]
    have HH := hide hcnt
    clear hcnt
    go_wp2
    go_ret
    refine ⟨false, rfl, ?_, hb0 _⟩
    simp only [Bool.false_eq_true, false_iff]
    exact fun hx => unhide HH hx.count
end Go.Proofs.YtjgcjeaplckbbaaGreatDoor

/- The program's answer whether a block held in arrays is right; whether a number is in a list. -/
namespace Go.Proofs.YtjgcjeaplckbbaaGreatDoor
open Go.RowKit
set_option linter.unusedVariables false
set_option linter.unusedSimpArgs false

set_option maxHeartbeats 1000000 in
theorem isRightUsed_any (p : Pg) (w : World) : Calls Tryz.prog 253 #[.agg #[.bool p.used, .int .i64 p.log, .int .i64 p.seq, .string p.data]] w fun e w' => e = .returned (.bool (rightUsed p)) ∧ Below w.heap.size w w' := by
  obtain ⟨u, l, s, d⟩ := p
  have hB : ∀ o, Below w.heap.size w (w.alloc o) := fun o => (Below.refl _ w).alloc (Nat.le_refl _) _
  cases u with
  | false =>
    go_enter Tryz.func253, Tryz.ntmps253
    go_wp2
    go_ret
    exact ⟨ret_bool (by simp [rightUsed]), hB _⟩
  | true =>
    by_cases h1 : 0 ≤ l ∧ l ≤ 39
    · by_cases h2 : 1 ≤ s ∧ s ≤ 1000000000
      · have e1 : decide (0 ≤ l ∧ l ≤ 39) = true := by simpa using h1
        have e2 : decide (1 ≤ s ∧ s ≤ 1000000000) = true := by simpa using h2
        go_enter Tryz.func253, Tryz.ntmps253
        go_wp2_with (go_at_call 67; refine (within_any _ _ _ _).mono ?_; rintro e w1 ⟨rfl, rfl⟩)
        go_ret
        exact ⟨ret_bool (by simp [rightUsed, h1, h2, size_four]), hB _⟩
      · have e1 : decide (0 ≤ l ∧ l ≤ 39) = true := by simpa using h1
        have e2 : decide (1 ≤ s ∧ s ≤ 1000000000) = false := by simpa using h2
        go_enter Tryz.func253, Tryz.ntmps253
        go_wp2_with (go_at_call 67; refine (within_any _ _ _ _).mono ?_; rintro e w1 ⟨rfl, rfl⟩)
        go_ret
        exact ⟨ret_bool (by simp [rightUsed]; omega), hB _⟩
    · have e1 : decide (0 ≤ l ∧ l ≤ 39) = false := by simpa using h1
      go_enter Tryz.func253, Tryz.ntmps253
      go_wp2_with (go_at_call 67; refine (within_any _ _ _ _).mono ?_; rintro e w1 ⟨rfl, rfl⟩)
      go_ret
      exact ⟨ret_bool (by simp [rightUsed]; omega), hB _⟩

/-- The block is right, as its arrays say it. -/
structure BcOk (x : Int) (f : Nat → Pg) : Prop where
  wear : 0 ≤ x ∧ x ≤ 1000000000
  page : ∀ k, k < 4 → pgOk (f k) = true
  order : ∀ k, k + 1 < 4 → (f (k + 1)).used = true → (f k).used = true

theorem sizePages : (Tryz.prog.info? 123).map (·.size) = some 16 := by kernel_rfl

set_option maxRecDepth 100000 in
set_option maxHeartbeats 4000000 in
theorem right_any (x : Int) (f : Nat → Pg) (w : World) : Calls Tryz.prog 192 #[.agg (bcA x f)] w fun e w' => RetIff (BcOk x f) e ∧ Below w.heap.size w w' := by
  go_enter Tryz.func192, Tryz.ntmps192
  go_wp2_with (refine wpList_load_mid rfl 123 _ rfl w.heap.size 1 rfl (paA f) 16 (paA_size f) (fun j hj => by simp; rw [bcA_page x f hj, paA_get f hj]) _ Tryz.underlying123 rfl sizePages ?_)
  go_loopw [3, 8] (fun v i wr => ∃ (k : Nat) (en : Bool), k ≤ 4 ∧ i = .int .i64 k ∧ v = .bool en ∧ (∀ t, t < k → pgOk (f t) = true) ∧ (en = false → ∀ t, t < k → (f t).used = true) ∧ (en = true → ∃ t, t < k ∧ (f t).used = false) ∧ (∀ t, t + 1 < k → (f (t + 1)).used = true → (f t).used = true) ∧ Below (w.heap.size + 1) (w.alloc (.cells (bcA x f) 125)) wr) (fun _ i _ => 4 - (intOf i).toNat)
  case atStart => exact ⟨0, false, by omega, rfl, rfl, fun t ht => absurd ht (Nat.not_lt_zero _), fun _ t ht => absurd ht (Nat.not_lt_zero _), (fun h => by cases h), fun t ht => absurd ht (Nat.not_lt_zero _), Below.refl _ _⟩
  case round =>
    obtain ⟨k, en, hk, rfl, rfl, h1, h2, h3, h4, hB⟩ := hrel
    have hsz := hB.size
    simp at hsz
    have hout : ∀ W, Below wr.heap.size wr W → Below w.heap.size w W := fun W hW => ((((Below.refl _ w).alloc (Nat.le_refl _) _).trans (hB.mono (by omega))).trans (hW.mono (by omega)))
    by_cases hlt : k < 4
    · have hidx := fun W => run_index_pages (P := Tryz.prog) W 123 122 f k hlt Tryz.underlying123 _ Tryz.underlying122 rfl sizePage
      obtain ⟨p, hp⟩ : ∃ p, f k = p := ⟨_, rfl⟩
      rw [hp] at hidx
      obtain ⟨u, l, s, d⟩ := p
      simp only at hidx
      have HP := hide hp
      have H1 := hide h1
      have H2 := hide h2
      have H3 := hide h3
      have H4 := hide h4
      clear h1 h2 h3 h4 hp
      have hup : BcOk x f → ∀ n t, t + n < 4 → (f (t + n)).used = true → (f t).used = true := fun hx n => by
        induction n with
        | zero => intro t _ h; exact h
        | succ n ih => intro t ht h; exact ih t (by omega) (hx.order (t + n) (by omega) h)
      have HUP := hide hup
      clear hup
      cases u with
      | false =>
        by_cases hl : l = 0
        · subst hl
          by_cases hs : s = 0
          · subst hs
            by_cases hd : d = ByteArray.empty
            · subst hd
              go_wp2
              go_roundw
              case rel =>
                refine ⟨k + 1, true, by omega, by go_num, rfl, fun t ht => ?_, (fun h => by cases h), fun _ => ⟨k, by omega, by rw [unhide HP]⟩, fun t ht hu => ?_, (hB.alloc (by omega) _)⟩
                · by_cases e : t = k
                  · subst e; rw [unhide HP]; rfl
                  · exact unhide H1 t (by omega)
                · by_cases e : t + 1 = k
                  · rw [e, unhide HP] at hu; cases hu
                  · exact unhide H4 t (by omega) hu
              case measure => simp [intOf]; omega
            · have hno : pgOk ⟨false, 0, 0, d⟩ = false := by simp [pgOk, isZero, hd]
              have hd' : d.toList.isEmpty = false := by rw [isEmpty_size]; simpa using hd
              go_wp2
              go_ret
              refine ⟨RetIff.no ?_, hout _ ((Below.refl _ _).alloc (Nat.le_refl _) _)⟩
              intro hx
              have := hx.page k hlt
              rw [unhide HP, hno] at this
              cases this
          · have hno : pgOk ⟨false, 0, s, d⟩ = false := by simp [pgOk, isZero, hs]
            have hs' : (s == 0) = false := by simpa using hs
            go_wp2
            go_ret
            refine ⟨RetIff.no ?_, hout _ ((Below.refl _ _).alloc (Nat.le_refl _) _)⟩
            intro hx
            have := hx.page k hlt
            rw [unhide HP, hno] at this
            cases this
        · have hno : pgOk ⟨false, l, s, d⟩ = false := by simp [pgOk, isZero, hl]
          have hl' : (l == 0) = false := by simpa using hl
          go_wp2
          go_ret
          refine ⟨RetIff.no ?_, hout _ ((Below.refl _ _).alloc (Nat.le_refl _) _)⟩
          intro hx
          have := hx.page k hlt
          rw [unhide HP, hno] at this
          cases this
      | true =>
        cases en with
        | true =>
          go_wp2
          go_ret
          refine ⟨RetIff.no ?_, hout _ ((Below.refl _ _).alloc (Nat.le_refl _) _)⟩
          intro hx
          obtain ⟨t, ht, hu⟩ := unhide H3 (by first | rfl | trivial)
          have := unhide HUP hx (k - t) t (by omega) (by rw [show t + (k - t) = k by omega, unhide HP])
          rw [hu] at this
          cases this
        | false =>
          go_wp2_with fail
          refine (isRightUsed_any ⟨true, l, s, d⟩ _).mono ?_
          rintro e w1 ⟨rfl, hB1⟩
          have hB2 : Below wr.heap.size wr w1 := ((Below.refl _ wr).alloc (Nat.le_refl _) _).trans (hB1.mono (by simp))
          have HB2 := hide hB2
          clear hB1 hB2
          have hpk : pgOk ⟨true, l, s, d⟩ = rightUsed ⟨true, l, s, d⟩ := by simp [pgOk]
          have HPK := hide hpk
          clear hpk
          cases hr : rightUsed ⟨true, l, s, d⟩ with
          | false =>
            go_wp2
            go_ret
            refine ⟨RetIff.no ?_, hout _ (unhide HB2)⟩
            intro hx
            have := hx.page k hlt
            rw [unhide HP, unhide HPK, hr] at this
            cases this
          | true =>
            go_wp2
            go_roundw
            case rel =>
              refine ⟨k + 1, false, by omega, by go_num, rfl, fun t ht => ?_, fun _ t ht => ?_, (fun h => by cases h), fun t ht hu => ?_, hB.trans ((unhide HB2).mono (by omega))⟩
              · by_cases e : t = k
                · subst e; rw [unhide HP, unhide HPK]; exact hr
                · exact unhide H1 t (by omega)
              · by_cases e : t = k
                · subst e; rw [unhide HP]
                · exact unhide H2 (by first | rfl | trivial) t (by omega)
              · exact unhide H2 (by first | rfl | trivial) t (by omega)
            case measure => simp [intOf]; omega
    · have hk4 : k = 4 := by omega
      subst hk4
      have hcx : wr.cell? ⟨w.heap.size, 0, none⟩ = some (.int .i64 x) := by
        rw [hB.cell (p := ⟨w.heap.size, 0, none⟩) (by simp)]
        simp
        rw [bcA_get x f (by omega)]
        rfl
      have H1 := hide h1
      have H4 := hide h4
      clear h1 h2 h3 h4
      go_wp2_with fail
      refine (within_any _ _ _ _).mono ?_
      rintro e w1 ⟨rfl, rfl⟩
      go_wp2
      go_ret
      refine ⟨⟨decide (0 ≤ x) && decide (x ≤ 1000000000), rfl, ?_⟩, hout _ (Below.refl _ _)⟩
      simp
      exact ⟨fun h => ⟨h, fun k hk => unhide H1 k hk, fun k hk hu => unhide H4 k hk hu⟩, fun h => h.wear⟩
set_option maxRecDepth 100000 in
set_option maxHeartbeats 1000000 in
theorem index_any (a : Option Addr) (c : Nat) (L : List Int) (s : Int) (w : World) (h : IntsAt w a L) (hn : L.length ≤ 1048576) :
    Calls Tryz.prog 258 #[.slice a L.length c, .int .i64 s] w fun e w' => ∃ r : Int, e = .returned (.int .i64 r) ∧ (0 ≤ r ↔ s ∈ L) ∧ w' = w := by
  go_enter Tryz.func258, Tryz.ntmps258
  go_wp2
  go_loop [8] (fun i => ∃ k : Nat, k ≤ L.length ∧ i = .int .i64 k ∧ ∀ j x, j < k → L[j]? = some x → x ≠ s) (fun i => L.length - (intOf i).toNat)
  case atStart => exact ⟨0, Nat.zero_le _, rfl, fun j x hj => absurd hj (Nat.not_lt_zero _)⟩
  case round =>
    obtain ⟨k, hk, rfl, hno⟩ := hrel
    have HN := hide hno
    clear hno
    by_cases hlt : k < L.length
    · obtain ⟨x, hx⟩ := getElem?_ex hlt
      obtain ⟨b, o, rfl, g⟩ := h k x hx
      have HX := hide hx
      clear hx h
      by_cases e : s = x
      · have e' : (s == x) = true := by simpa using e
        have HE := hide e
        clear e
        go_wp2
        go_ret
        exact ⟨_, rfl, ⟨fun _ => by rw [unhide HE]; exact List.mem_of_getElem? (unhide HX), fun _ => by omega⟩, rfl⟩
      · have e' : (s == x) = false := by simpa using e
        have HE := hide e
        clear e
        go_wp2
        go_round
        case rel =>
          refine ⟨k + 1, by omega, by go_num, fun j y hj hy => ?_⟩
          by_cases ej : j = k
          · subst ej; rw [unhide HX] at hy; cases hy; exact fun h => unhide HE h.symm
          · exact unhide HN j y (by omega) hy
        case measure => simp [intOf]; omega
    · go_wp2
      go_ret
      refine ⟨-1, rfl, ⟨fun h => by omega, fun hm => ?_⟩, rfl⟩
      obtain ⟨j, hj, e⟩ := List.getElem_of_mem hm
      exact absurd e (unhide HN j _ (by omega) (by simp [hj]))

theorem contains_any (a : Option Addr) (c : Nat) (L : List Int) (s : Int) (w : World) (h : IntsAt w a L) (hn : L.length ≤ 1048576) :
    Calls Tryz.prog 205 #[.slice a L.length c, .int .i64 s] w fun e w' => e = .returned (.bool (decide (s ∈ L))) ∧ w' = w := by
  go_enter Tryz.func205, Tryz.ntmps205
  go_wp2_with fail
  refine (index_any a c L s w h hn).mono ?_
  rintro e w1 ⟨r, rfl, hr, rfl⟩
  have HR := hide hr
  clear hr h
  by_cases h0 : 0 ≤ r
  · go_wp2
    go_ret
    exact ⟨ret_bool (by simp [(unhide HR).1 h0]), rfl⟩
  · go_wp2
    go_ret
    have hnm : ¬ s ∈ L := fun hm => by have := (unhide HR).2 hm; omega
    exact ⟨ret_bool (by simp [hnm] <;> omega), rfl⟩
end Go.Proofs.YtjgcjeaplckbbaaGreatDoor
