/- 4 texts in one. -/
import Derived.WalkKit
import Derived.Deep.OwnRows
import Derived.Laws.MakeOwn
import Derived.Deep.AppendLies
import Derived.Test.YtimencianaclmaaChecked
import Derived.Outline

/- Plain words for pages, blocks and chips as they lie in memory: no program is named here. -/
namespace Go.Proofs.Ytimencianaclmaa
open Go.RowKit
set_option linter.unusedVariables false

theorem hide {p : Prop} (h : p) : Hid p := h
theorem unhide {p : Prop} (h : Hid p) : p := h

structure Pg where
  used : Bool
  log : Int
  seq : Int
  data : ByteArray

structure Bk where
  wear : Int
  pages : List Pg

/-- The pages ps lie, one behind the other, from the address a on. -/
def PagesAt (w : World) (a : Option Addr) (ps : List Pg) : Prop :=
  ∀ i p, ps[i]? = some p → ∃ b o, a = some ⟨b, o, none⟩ ∧ w.cell? ⟨b, o + i * 4, none⟩ = some (.bool p.used) ∧ w.cell? ⟨b, o + i * 4 + 1, none⟩ = some (.int .i64 p.log) ∧
    w.cell? ⟨b, o + i * 4 + 2, none⟩ = some (.int .i64 p.seq) ∧ w.cell? ⟨b, o + i * 4 + 3, none⟩ = some (.string p.data)

theorem PagesAt.below {w w' : World} {a : Option Addr} {ps : List Pg} (h : PagesAt w a ps) {B : Nat} (hb : Below B w w') (hB : w.heap.size ≤ B) : PagesAt w' a ps := by
  intro i p hp
  obtain ⟨b, o, ha, h0, h1, h2, h3⟩ := h i p hp
  have hlt : b < B := Nat.lt_of_lt_of_le (World.block_lt_of_cell? _ _ h0) hB
  exact ⟨b, o, ha, by rw [hb.cell (p := ⟨b, _, none⟩) hlt]; exact h0, by rw [hb.cell (p := ⟨b, _, none⟩) hlt]; exact h1, by rw [hb.cell (p := ⟨b, _, none⟩) hlt]; exact h2, by rw [hb.cell (p := ⟨b, _, none⟩) hlt]; exact h3⟩

/-- The blocks bs lie, one behind the other, from the address a on, each with its pages. -/
def BlocksAt (w : World) (a : Option Addr) (bs : List Bk) : Prop :=
  ∀ i b, bs[i]? = some b → ∃ g o pa pc, a = some ⟨g, o, none⟩ ∧ w.cell? ⟨g, o + i * 2, none⟩ = some (.int .i64 b.wear) ∧ w.cell? ⟨g, o + i * 2 + 1, none⟩ = some (.slice pa b.pages.length pc) ∧ PagesAt w pa b.pages

theorem BlocksAt.below {w w' : World} {a : Option Addr} {bs : List Bk} (h : BlocksAt w a bs) {B : Nat} (hb : Below B w w') (hB : w.heap.size ≤ B) : BlocksAt w' a bs := by
  intro i b hp
  obtain ⟨g, o, pa, pc, ha, h0, h1, h2⟩ := h i b hp
  have hlt : g < B := Nat.lt_of_lt_of_le (World.block_lt_of_cell? _ _ h0) hB
  exact ⟨g, o, pa, pc, ha, by rw [hb.cell (p := ⟨g, _, none⟩) hlt]; exact h0, by rw [hb.cell (p := ⟨g, _, none⟩) hlt]; exact h1, h2.below hb hB⟩

/-- No list of the chip is longer than n. -/
def Lens (n : Nat) (bs : List Bk) : Prop := bs.length ≤ n ∧ ∀ b ∈ bs, b.pages.length ≤ n

theorem Lens.at {n : Nat} {bs : List Bk} (h : Lens n bs) {i : Nat} {b : Bk} (hb : bs[i]? = some b) : b.pages.length ≤ n := h.2 b (List.mem_of_getElem? hb)

/-- No text of the chip is longer than a machine's number can say. -/
def Texts (bs : List Bk) : Prop := ∀ b ∈ bs, ∀ p ∈ b.pages, p.data.size ≤ 9223372036854775807

theorem Texts.at {bs : List Bk} (h : Texts bs) {i : Nat} {b : Bk} (hb : bs[i]? = some b) : ∀ p ∈ b.pages, p.data.size ≤ 9223372036854775807 := h b (List.mem_of_getElem? hb)

/-- What lay below reads as it did, cell by cell: two rules for the walk. -/
theorem bcell {W w1 : World} (hb : Below W.heap.size W w1) : (∀ b o, b < W.heap.size → w1.cell? ⟨b, o, none⟩ = W.cell? ⟨b, o, none⟩) ∧ (∀ b o, b < W.heap.size → w1.frozen? ⟨b, o, none⟩ = W.frozen? ⟨b, o, none⟩) :=
  ⟨fun b o h => hb.cell (p := ⟨b, o, none⟩) h, fun b o h => hb.frozen (p := ⟨b, o, none⟩) h⟩

theorem frozen_alloc_lt (w : World) (o : Obj) (b off : Nat) (h : b < w.heap.size) : (w.alloc o).frozen? ⟨b, off, none⟩ = w.frozen? ⟨b, off, none⟩ :=
  ((Below.refl w.heap.size w).alloc (Nat.le_refl _) o).frozen (p := ⟨b, off, none⟩) h
theorem cell_alloc_lt (w : World) (o : Obj) (b off : Nat) (h : b < w.heap.size) : (w.alloc o).cell? ⟨b, off, none⟩ = w.cell? ⟨b, off, none⟩ :=
  ((Below.refl w.heap.size w).alloc (Nat.le_refl _) o).cell (p := ⟨b, off, none⟩) h
theorem frozen_drew (w : World) (a : Addr) : w.drew.frozen? a = w.frozen? a := rfl
theorem cell_drew (w : World) (a : Addr) : w.drew.cell? a = w.cell? a := rfl

theorem getElem?_ex {α : Type} {l : List α} {k : Nat} (h : k < l.length) : ∃ p, l[k]? = some p := ⟨l[k], by simp [h]⟩

end Go.Proofs.Ytimencianaclmaa

/- Pages and blocks that a call has made itself: each list in a row of its own. No program is named here. -/
namespace Go.Proofs.Ytimencianaclmaa
open Go.RowKit
set_option linter.unusedVariables false

def zeroPg : Pg := ⟨false, 0, 0, ByteArray.empty⟩
def pgV (p : Pg) : Nat → Value
  | 0 => .bool p.used
  | 1 => .int .i64 p.log
  | 2 => .int .i64 p.seq
  | _ => .string p.data
/-- What stands in cell i of a row of pages (zero pages behind the last). -/
def pgsF (ps : List Pg) (i : Nat) : Value := pgV ((ps[i / 4]?).getD zeroPg) (i % 4)

theorem pgsF_at {ps : List Pg} {k : Nat} {p : Pg} (h : ps[k]? = some p) (j : Nat) (hj : j < 4) : pgsF ps (k * 4 + j) = pgV p j := by
  unfold pgsF
  rw [show (k * 4 + j) / 4 = k by omega, show (k * 4 + j) % 4 = j by omega, h]
  rfl

theorem set4 {w : World} {b : Nat} {t : TypeId} {N : Nat} {f : Nat → Value} (h : w.rowIs b t N f) (i : Nat) (v0 v1 v2 v3 : Value) :
    ((((w.setCell ⟨b, i, none⟩ v0).setCell ⟨b, i + 1, none⟩ v1).setCell ⟨b, i + 2, none⟩ v2).setCell ⟨b, i + 3, none⟩ v3).rowIs b t N
      (fun j => if j = i + 3 then v3 else if j = i + 2 then v2 else if j = i + 1 then v1 else if j = i then v0 else f j) :=
  (((h.set i v0).set (i + 1) v1).set (i + 2) v2).set (i + 3) v3

theorem pgsF_step {ps : List Pg} {k : Nat} {p : Pg} (h : ps[k]? = some p) (j : Nat) :
    (if j = k * 4 + 3 then Value.string p.data else if j = k * 4 + 2 then .int .i64 p.seq else if j = k * 4 + 1 then .int .i64 p.log else if j = k * 4 then .bool p.used else pgsF (ps.take k) j) = pgsF (ps.take (k + 1)) j := by
  have hk : k < ps.length := (List.getElem?_eq_some_iff.1 h).1
  have ht : (ps.take (k + 1))[k]? = some p := by rw [List.getElem?_take, if_pos (by omega)]; exact h
  by_cases e3 : j = k * 4 + 3
  · subst e3; rw [if_pos rfl, pgsF_at ht 3 (by omega)]; rfl
  rw [if_neg e3]
  by_cases e2 : j = k * 4 + 2
  · subst e2; rw [if_pos rfl, pgsF_at ht 2 (by omega)]; rfl
  rw [if_neg e2]
  by_cases e1 : j = k * 4 + 1
  · subst e1; rw [if_pos rfl, pgsF_at ht 1 (by omega)]; rfl
  rw [if_neg e1]
  by_cases e0 : j = k * 4
  · subst e0; rw [if_pos rfl, show k * 4 = k * 4 + 0 by omega, pgsF_at ht 0 (by omega)]; rfl
  rw [if_neg e0]
  unfold pgsF
  rw [List.getElem?_take, List.getElem?_take]
  by_cases hlt : j / 4 < k
  · rw [if_pos hlt, if_pos (by omega)]
  · rw [if_neg hlt, if_neg (by omega)]

/-- A row of pages that is the call's own. -/
def OwnPages (w : World) (t : TypeId) (b : Nat) (n : Nat) (ps : List Pg) : Prop := w.rowIs b t (n * 4) (pgsF ps)

theorem OwnPages.pagesAt {w : World} {t : TypeId} {b : Nat} {n : Nat} {ps : List Pg} (h : OwnPages w t b n ps) (hn : ps.length ≤ n) : PagesAt w (some ⟨b, 0, none⟩) ps := by
  intro i p hp
  have hi : i < ps.length := (List.getElem?_eq_some_iff.1 hp).1
  have c : ∀ j, j < 4 → w.cell? ⟨b, i * 4 + j, none⟩ = some (pgV p j) := fun j hj => by
    rw [World.rowIs.cell h (i := i * 4 + j) (by omega), pgsF_at hp j hj]
  refine ⟨b, 0, rfl, ?_, ?_, ?_, ?_⟩
  · rw [show 0 + i * 4 = i * 4 + 0 by omega]; exact c 0 (by omega)
  · rw [show 0 + i * 4 + 1 = i * 4 + 1 by omega]; exact c 1 (by omega)
  · rw [show 0 + i * 4 + 2 = i * 4 + 2 by omega]; exact c 2 (by omega)
  · rw [show 0 + i * 4 + 3 = i * 4 + 3 by omega]; exact c 3 (by omega)

theorem OwnPages.below {w w' : World} {t : TypeId} {b n : Nat} {ps : List Pg} (h : OwnPages w t b n ps) {B : Nat} (hb : Below B w w') (hB : b < B) : OwnPages w' t b n ps :=
  World.rowIs.of_block h (hb.block b hB)

theorem OwnPages.put {w : World} {t : TypeId} {b n k : Nat} {ps : List Pg} {p : Pg} (h : OwnPages w t b n (ps.take k)) (hp : ps[k]? = some p) :
    OwnPages ((((w.setCell ⟨b, k * 4, none⟩ (.bool p.used)).setCell ⟨b, k * 4 + 1, none⟩ (.int .i64 p.log)).setCell ⟨b, k * 4 + 2, none⟩ (.int .i64 p.seq)).setCell ⟨b, k * 4 + 3, none⟩ (.string p.data)) t b n (ps.take (k + 1)) :=
  (set4 h (k * 4) _ _ _ _).congr (fun j _ => pgsF_step hp j)

theorem OwnPages.cells {w : World} {t : TypeId} {b n : Nat} {ps : List Pg} (h : OwnPages w t b n ps) {k : Nat} (hk : k < n) :
    (∃ v, w.cell? ⟨b, k * 4, none⟩ = some v) ∧ (∃ v, w.cell? ⟨b, k * 4 + 1, none⟩ = some v) ∧ (∃ v, w.cell? ⟨b, k * 4 + 2, none⟩ = some v) ∧ (∃ v, w.cell? ⟨b, k * 4 + 3, none⟩ = some v) :=
  ⟨⟨_, World.rowIs.cell h (by omega)⟩, ⟨_, World.rowIs.cell h (by omega)⟩, ⟨_, World.rowIs.cell h (by omega)⟩, ⟨_, World.rowIs.cell h (by omega)⟩⟩

theorem OwnPages.made (w : World) (t : TypeId) (n : Nat) : OwnPages (w.alloc (.cells (madeCells #[.bool false, .int .i64 0, .int .i64 0, .string ByteArray.empty] (n * 4)) t)) t w.heap.size n [] := by
  refine ⟨_, Go.Deep.blk_alloc_new _ _, size_madeCells _ _, fun i hi => ?_⟩
  simp only [madeCells, Array.getElem?_map, Array.getElem?_range, hi, if_true, Option.map_some]
  unfold pgsF
  have h4 : i % 4 = 0 ∨ i % 4 = 1 ∨ i % 4 = 2 ∨ i % 4 = 3 := by omega
  rcases h4 with e | e | e | e <;> simp [e, pgV, zeroPg]

/-- What stands in cell j of a row of blocks whose i-th pages lie in block H i (zero blocks behind the last). -/
def bkV (H : Nat) (b : Bk) : Nat → Value
  | 0 => .int .i64 b.wear
  | _ => .slice (some ⟨H, 0, none⟩) b.pages.length b.pages.length
def zbV : Nat → Value
  | 0 => .int .i64 0
  | _ => .slice none 0 0
def bksF (H : Nat → Nat) (bs : List Bk) (j : Nat) : Value :=
  match bs[j / 2]? with
  | some b => bkV (H (j / 2)) b (j % 2)
  | none => zbV (j % 2)

theorem bksF_at (H : Nat → Nat) {bs : List Bk} {k : Nat} {b : Bk} (h : bs[k]? = some b) (j : Nat) (hj : j < 2) : bksF H bs (k * 2 + j) = bkV (H k) b j := by
  unfold bksF
  rw [show (k * 2 + j) / 2 = k by omega, show (k * 2 + j) % 2 = j by omega, h]

theorem bksF_step (H : Nat → Nat) {bs : List Bk} {k : Nat} {b : Bk} (h : bs[k]? = some b) (g : Nat) (j : Nat) :
    (if j = k * 2 + 1 then Value.slice (some ⟨g, 0, none⟩) b.pages.length b.pages.length else if j = k * 2 then .int .i64 b.wear else bksF H (bs.take k) j) = bksF (fun i => if i = k then g else H i) (bs.take (k + 1)) j := by
  have hk : k < bs.length := (List.getElem?_eq_some_iff.1 h).1
  have ht : (bs.take (k + 1))[k]? = some b := by rw [List.getElem?_take, if_pos (by omega)]; exact h
  by_cases e1 : j = k * 2 + 1
  · subst e1; rw [if_pos rfl, bksF_at _ ht 1 (by omega)]; simp [bkV]
  rw [if_neg e1]
  by_cases e0 : j = k * 2
  · subst e0; rw [if_pos rfl, show k * 2 = k * 2 + 0 by omega, bksF_at _ ht 0 (by omega)]; rfl
  rw [if_neg e0]
  unfold bksF
  have hne : j / 2 ≠ k := by omega
  simp only [if_neg hne]
  rw [List.getElem?_take, List.getElem?_take]
  by_cases hlt : j / 2 < k
  · rw [if_pos hlt, if_pos (by omega)]
  · rw [if_neg hlt, if_neg (by omega)]

/-- Rows that are the call's own: the blocks in row g (room for n), the pages of the i-th in row H i: g ahead of all of them, and they in order. -/
structure OwnBlocks (w : World) (tB tP : TypeId) (g : Nat) (H : Nat → Nat) (n : Nat) (bs : List Bk) : Prop where
  row : w.rowIs g tB (n * 2) (bksF H bs)
  pages : ∀ i b, bs[i]? = some b → OwnPages w tP (H i) b.pages.length b.pages
  ahead : ∀ i, i < bs.length → g < H i
  order : ∀ i j, i < j → j < bs.length → H i < H j

theorem OwnBlocks.lt {w : World} {tB tP : TypeId} {g : Nat} {H : Nat → Nat} {n : Nat} {bs : List Bk} (h : OwnBlocks w tB tP g H n bs) {i : Nat} (hi : i < bs.length) : H i < w.heap.size := by
  obtain ⟨b, hb⟩ := getElem?_ex hi
  exact World.rowIs.lt (h.pages i b hb)

theorem OwnBlocks.below {w w' : World} {tB tP : TypeId} {g : Nat} {H : Nat → Nat} {n : Nat} {bs : List Bk} (h : OwnBlocks w tB tP g H n bs) {B : Nat} (hb : Below B w w') (hB : w.heap.size ≤ B) : OwnBlocks w' tB tP g H n bs :=
  ⟨h.row.of_block (hb.block g (Nat.lt_of_lt_of_le h.row.lt hB)), fun i b hi => (h.pages i b hi).below hb (Nat.lt_of_lt_of_le (World.rowIs.lt (h.pages i b hi)) hB), h.ahead, h.order⟩

theorem OwnBlocks.blocksAt {w : World} {tB tP : TypeId} {g : Nat} {H : Nat → Nat} {n : Nat} {bs : List Bk} (h : OwnBlocks w tB tP g H n bs) (hn : bs.length ≤ n) : BlocksAt w (some ⟨g, 0, none⟩) bs := by
  intro i b hb
  have hi : i < bs.length := (List.getElem?_eq_some_iff.1 hb).1
  have c : ∀ j, j < 2 → w.cell? ⟨g, i * 2 + j, none⟩ = some (bkV (H i) b j) := fun j hj => by
    rw [h.row.cell (i := i * 2 + j) (by omega), bksF_at H hb j hj]
  refine ⟨g, 0, some ⟨H i, 0, none⟩, b.pages.length, rfl, ?_, ?_, (h.pages i b hb).pagesAt (Nat.le_refl _)⟩
  · rw [show 0 + i * 2 = i * 2 + 0 by omega]; exact c 0 (by omega)
  · rw [show 0 + i * 2 + 1 = i * 2 + 1 by omega]; exact c 1 (by omega)

theorem madeBlocks (w : World) (t : TypeId) (H : Nat → Nat) (n : Nat) : (w.alloc (.cells (madeCells #[.int .i64 0, .slice none 0 0] (n * 2)) t)).rowIs w.heap.size t (n * 2) (bksF H []) := by
  refine ⟨_, Go.Deep.blk_alloc_new _ _, size_madeCells _ _, fun i hi => ?_⟩
  simp only [madeCells, Array.getElem?_map, Array.getElem?_range, hi, if_true, Option.map_some]
  unfold bksF
  have h2 : i % 2 = 0 ∨ i % 2 = 1 := by omega
  rcases h2 with e | e <;> simp [e, zbV]

theorem OwnBlocks.made (w : World) (tB tP : TypeId) (H : Nat → Nat) (n : Nat) : OwnBlocks (w.alloc (.cells (madeCells #[.int .i64 0, .slice none 0 0] (n * 2)) tB)) tB tP w.heap.size H n [] :=
  ⟨madeBlocks w tB H n, fun i b h => by simp at h, fun i h => absurd h (Nat.not_lt_zero _), fun i j _ h => absurd h (Nat.not_lt_zero _)⟩

/-- One block more, its pages in a row that lies behind all the others. -/
theorem OwnBlocks.put {w : World} {tB tP : TypeId} {g : Nat} {H : Nat → Nat} {n k : Nat} {bs : List Bk} {b : Bk} {q : Nat} (h : OwnBlocks w tB tP g H n (bs.take k)) (hb : bs[k]? = some b)
    (hq : OwnPages w tP q b.pages.length b.pages) (hg : g < q) (hlt : ∀ i, i < k → H i < q) :
    OwnBlocks ((w.setCell ⟨g, k * 2, none⟩ (.int .i64 b.wear)).setCell ⟨g, k * 2 + 1, none⟩ (.slice (some ⟨q, 0, none⟩) b.pages.length b.pages.length)) tB tP g (fun i => if i = k then q else H i) n (bs.take (k + 1)) := by
  have hk : k < bs.length := (List.getElem?_eq_some_iff.1 hb).1
  have hl : (bs.take (k + 1)).length = k + 1 := by simp; omega
  have hl0 : (bs.take k).length = k := by simp; omega
  refine ⟨((h.row.set (k * 2) _).set (k * 2 + 1) _).congr (fun j _ => bksF_step H hb q j), ?_, ?_, ?_⟩
  · intro i c hc
    rw [List.getElem?_take] at hc
    by_cases e : i = k
    · subst e
      rw [if_pos (by omega), hb] at hc
      cases hc
      simp only [if_true]
      exact (World.rowIs.setOther (World.rowIs.setOther hq (by show q ≠ g; omega) _) (by show q ≠ g; omega) _)
    · simp only [if_neg e]
      by_cases hi : i < k + 1
      · rw [if_pos hi] at hc
        have hc' : (bs.take k)[i]? = some c := by rw [List.getElem?_take, if_pos (by omega)]; exact hc
        have hne : g < H i := h.ahead i (by omega)
        exact (World.rowIs.setOther (World.rowIs.setOther (h.pages i c hc') (by show H i ≠ g; omega) _) (by show H i ≠ g; omega) _)
      · rw [if_neg hi] at hc; cases hc
  · intro i hi
    by_cases e : i = k
    · simp only [if_pos e]; exact hg
    · simp only [if_neg e]; exact h.ahead i (by omega)
  · intro i j hij hj
    rw [hl] at hj
    by_cases e : j = k
    · simp only [if_pos e, if_neg (show ¬ i = k by omega)]; exact hlt i (by omega)
    · simp only [if_neg e, if_neg (show ¬ i = k by omega)]; exact h.order i j hij (by omega)

/-- A store into a row that lies ahead of all of them. -/
theorem OwnBlocks.setOther {w : World} {tB tP : TypeId} {g : Nat} {H : Nat → Nat} {n : Nat} {bs : List Bk} (h : OwnBlocks w tB tP g H n bs) {a : Addr} (ha : a.block < g) (v : Value) : OwnBlocks (w.setCell a v) tB tP g H n bs :=
  ⟨h.row.setOther (by omega) v, fun i b hb => World.rowIs.setOther (h.pages i b hb) (by have := h.ahead i (List.getElem?_eq_some_iff.1 hb).1; omega) v, h.ahead, h.order⟩

/-- Of what was there only the rows of S may have turned. -/
structure Touch (S : Nat → Prop) (w w' : World) : Prop where
  os : w'.os = w.os
  tape : w'.tape = w.tape
  output : w'.output = w.output
  size : w.heap.size ≤ w'.heap.size
  block : ∀ k, k < w.heap.size → ¬ S k → w'.heap[k]? = w.heap[k]?

theorem Touch.refl (S : Nat → Prop) (w : World) : Touch S w w := ⟨rfl, rfl, rfl, Nat.le_refl _, fun _ _ _ => rfl⟩
theorem Touch.trans {S : Nat → Prop} {a b c : World} (h : Touch S a b) (k : Touch S b c) : Touch S a c :=
  ⟨k.os.trans h.os, k.tape.trans h.tape, k.output.trans h.output, Nat.le_trans h.size k.size, fun i hi hs => (k.block i (Nat.lt_of_lt_of_le hi h.size) hs).trans (h.block i hi hs)⟩
theorem Touch.of_below {S : Nat → Prop} {w w' : World} (h : Below w.heap.size w w') : Touch S w w' := ⟨h.os, h.tape, h.output, h.size, fun k hk _ => h.block k hk⟩
theorem Touch.mono {S S' : Nat → Prop} {w w' : World} (h : Touch S w w') (hS : ∀ k, S k → S' k) : Touch S' w w' := ⟨h.os, h.tape, h.output, h.size, fun k hk hs => h.block k hk (fun x => hs (hS k x))⟩
theorem Touch.setCell {S : Nat → Prop} {a w : World} (h : Touch S a w) {p : Addr} (hp : S p.block) (u : Value) : Touch S a (w.setCell p u) :=
  h.trans ⟨rfl, rfl, rfl, by simp [World.setCell], fun k hk hs => Below.heap_setCell _ _ _ _ (fun e => hs (by rw [e]; exact hp))⟩
theorem Touch.drew {S : Nat → Prop} {a w : World} (h : Touch S a w) : Touch S a w.drew := ⟨h.os, h.tape, h.output, h.size, h.block⟩
theorem Touch.below {S : Nat → Prop} {w w' : World} (h : Touch S w w') {B : Nat} (hB : B ≤ w.heap.size) (hS : ∀ k, S k → B ≤ k) : Below B w w' :=
  ⟨h.os, h.tape, h.output, h.size, fun k hk => h.block k (Nat.lt_of_lt_of_le hk hB) (fun x => by have := hS k x; omega)⟩

theorem pgsF_set {L : List Pg} {k : Nat} {p : Pg} (hk : k < L.length) (j : Nat) :
    (if j = k * 4 + 3 then Value.string p.data else if j = k * 4 + 2 then .int .i64 p.seq else if j = k * 4 + 1 then .int .i64 p.log else if j = k * 4 then .bool p.used else pgsF L j) = pgsF (L.set k p) j := by
  have ht : (L.set k p)[k]? = some p := by simp [hk]
  by_cases e3 : j = k * 4 + 3
  · subst e3; rw [if_pos rfl, pgsF_at ht 3 (by omega)]; rfl
  rw [if_neg e3]
  by_cases e2 : j = k * 4 + 2
  · subst e2; rw [if_pos rfl, pgsF_at ht 2 (by omega)]; rfl
  rw [if_neg e2]
  by_cases e1 : j = k * 4 + 1
  · subst e1; rw [if_pos rfl, pgsF_at ht 1 (by omega)]; rfl
  rw [if_neg e1]
  by_cases e0 : j = k * 4
  · subst e0; rw [if_pos rfl, show k * 4 = k * 4 + 0 by omega, pgsF_at ht 0 (by omega)]; rfl
  rw [if_neg e0]
  unfold pgsF
  rw [List.getElem?_set, if_neg (by omega)]

theorem bksF_setWear (H : Nat → Nat) {L : List Bk} {k : Nat} {b : Bk} (hb : L[k]? = some b) (x : Int) (j : Nat) :
    (if j = k * 2 then Value.int .i64 x else bksF H L j) = bksF H (L.set k ⟨x, b.pages⟩) j := by
  have hk : k < L.length := (List.getElem?_eq_some_iff.1 hb).1
  have ht : (L.set k ⟨x, b.pages⟩)[k]? = some ⟨x, b.pages⟩ := by simp [hk]
  by_cases e0 : j = k * 2
  · subst e0; rw [if_pos rfl, show k * 2 = k * 2 + 0 by omega, bksF_at H ht 0 (by omega)]; rfl
  rw [if_neg e0]
  by_cases e1 : j = k * 2 + 1
  · subst e1; rw [bksF_at H hb 1 (by omega), bksF_at H ht 1 (by omega)]; rfl
  unfold bksF
  rw [List.getElem?_set, if_neg (by omega)]

theorem bksF_setPages (H : Nat → Nat) {L : List Bk} {k : Nat} {b : Bk} (hb : L[k]? = some b) (ps : List Pg) (hl : ps.length = b.pages.length) (j : Nat) :
    bksF H L j = bksF H (L.set k ⟨b.wear, ps⟩) j := by
  have hk : k < L.length := (List.getElem?_eq_some_iff.1 hb).1
  have ht : (L.set k ⟨b.wear, ps⟩)[k]? = some ⟨b.wear, ps⟩ := by simp [hk]
  by_cases e0 : j = k * 2
  · subst e0; rw [show k * 2 = k * 2 + 0 by omega, bksF_at H hb 0 (by omega), bksF_at H ht 0 (by omega)]; rfl
  by_cases e1 : j = k * 2 + 1
  · subst e1; rw [bksF_at H hb 1 (by omega), bksF_at H ht 1 (by omega)]; simp [bkV, hl]
  unfold bksF
  rw [List.getElem?_set, if_neg (by omega)]

/-- The i-th pages are written anew, in their own row. -/
theorem OwnBlocks.setPages {w w' : World} {tB tP : TypeId} {g : Nat} {H : Nat → Nat} {n k : Nat} {L : List Bk} {b : Bk} (h : OwnBlocks w tB tP g H n L) (hb : L[k]? = some b) {ps : List Pg} (hl : ps.length = b.pages.length)
    (hO : OwnPages w' tP (H k) b.pages.length ps) (ht : Touch (· = H k) w w') : OwnBlocks w' tB tP g H n (L.set k ⟨b.wear, ps⟩) := by
  have hk : k < L.length := (List.getElem?_eq_some_iff.1 hb).1
  have hgk := h.ahead k hk
  refine ⟨(h.row.of_block (ht.block g h.row.lt (by omega))).congr (fun j _ => bksF_setPages H hb ps hl j), ?_, ?_, ?_⟩
  · intro i c hc
    rw [List.getElem?_set] at hc
    by_cases e : k = i
    · subst e
      rw [if_pos rfl, if_pos hk] at hc
      cases hc
      show OwnPages w' tP (H k) ps.length ps
      rw [hl]; exact hO
    · rw [if_neg e] at hc
      have hi : i < L.length := (List.getElem?_eq_some_iff.1 hc).1
      have hne : H i ≠ H k := by
        rcases Nat.lt_or_gt_of_ne e with h1 | h1
        · have := h.order k i h1 hi; omega
        · have := h.order i k h1 hk; omega
      exact World.rowIs.of_block (h.pages i c hc) (ht.block (H i) (h.lt hi) hne)
  · intro i hi; exact h.ahead i (by simpa using hi)
  · intro i j hij hj; exact h.order i j hij (by simpa using hj)

/-- The i-th block's wear is written anew. -/
theorem OwnBlocks.setWear {w : World} {tB tP : TypeId} {g : Nat} {H : Nat → Nat} {n k : Nat} {L : List Bk} {b : Bk} (h : OwnBlocks w tB tP g H n L) (hb : L[k]? = some b) (x : Int) :
    OwnBlocks (w.setCell ⟨g, k * 2, none⟩ (.int .i64 x)) tB tP g H n (L.set k ⟨x, b.pages⟩) := by
  have hk : k < L.length := (List.getElem?_eq_some_iff.1 hb).1
  refine ⟨(h.row.set (k * 2) _).congr (fun j _ => bksF_setWear H hb x j), ?_, ?_, ?_⟩
  · intro i c hc
    rw [List.getElem?_set] at hc
    by_cases e : k = i
    · subst e
      rw [if_pos rfl, if_pos hk] at hc
      cases hc
      have hgk := h.ahead k hk
      exact World.rowIs.setOther (h.pages k b hb) (by show H k ≠ g; omega) _
    · rw [if_neg e] at hc
      have hgi := h.ahead i (List.getElem?_eq_some_iff.1 hc).1
      exact World.rowIs.setOther (h.pages i c hc) (by show H i ≠ g; omega) _
  · intro i hi; exact h.ahead i (by simpa using hi)
  · intro i j hij hj; exact h.order i j hij (by simpa using hj)

end Go.Proofs.Ytimencianaclmaa

/- Blocks and pages that were put together by append: each list at the head of a row of its own. No program is named here. -/
namespace Go.Proofs.Ytimencianaclmaa
open Go.RowKit
set_option linter.unusedVariables false

def pgCells (ps : List Pg) : List Value := ps.flatMap fun p => [.bool p.used, .int .i64 p.log, .int .i64 p.seq, .string p.data]
def bkCells (Q C : Nat → Nat) : Nat → List Bk → List Value
  | _, [] => []
  | i, b :: r => .int .i64 b.wear :: .slice (some ⟨Q i, 0, none⟩) b.pages.length (C i) :: bkCells Q C (i + 1) r

theorem pgCells_length (ps : List Pg) : (pgCells ps).length = ps.length * 4 := by
  induction ps with
  | nil => rfl
  | cons p ps ih => simp only [pgCells, List.flatMap_cons, List.length_append] at ih ⊢; simp [ih]; omega
theorem pgCells_at {ps : List Pg} : ∀ {i : Nat} {p : Pg}, ps[i]? = some p → ∀ j, j < 4 → (pgCells ps)[i * 4 + j]? = some (pgV p j) := by
  induction ps with
  | nil => intro i p h; simp at h
  | cons q ps ih =>
    intro i p h j hj
    have e : pgCells (q :: ps) = [.bool q.used, .int .i64 q.log, .int .i64 q.seq, .string q.data] ++ pgCells ps := rfl
    cases i with
    | zero =>
      simp at h; subst h
      rw [e, List.getElem?_append_left (by simp; omega)]
      have h4 : j = 0 ∨ j = 1 ∨ j = 2 ∨ j = 3 := by omega
      rcases h4 with rfl | rfl | rfl | rfl <;> rfl
    | succ i =>
      rw [e, List.getElem?_append_right (by simp; omega)]
      rw [show (i + 1) * 4 + j - [Value.bool q.used, .int .i64 q.log, .int .i64 q.seq, .string q.data].length = i * 4 + j by simp; omega]
      exact ih (by simpa using h) j hj
theorem bkCells_length (Q C : Nat → Nat) (bs : List Bk) : ∀ i, (bkCells Q C i bs).length = bs.length * 2 := by
  induction bs with
  | nil => intro i; rfl
  | cons b bs ih => intro i; simp only [bkCells, List.length_cons, ih]; omega
theorem bkCells_at (Q C : Nat → Nat) {bs : List Bk} : ∀ {i : Nat} {b : Bk} (s : Nat), bs[i]? = some b →
    (bkCells Q C s bs)[i * 2]? = some (.int .i64 b.wear) ∧ (bkCells Q C s bs)[i * 2 + 1]? = some (.slice (some ⟨Q (s + i), 0, none⟩) b.pages.length (C (s + i))) := by
  induction bs with
  | nil => intro i b s h; simp at h
  | cons c bs ih =>
    intro i b s h
    cases i with
    | zero => simp at h; subst h; simp [bkCells]
    | succ i =>
      have := ih (s + 1) (i := i) (b := b) (by simpa using h)
      rw [show s + 1 + i = s + (i + 1) by omega] at this
      simp only [bkCells]
      rw [show (i + 1) * 2 = i * 2 + 1 + 1 by omega]
      simpa using this
theorem bkCells_append (Q C : Nat → Nat) (l m : List Bk) : ∀ s, bkCells Q C s (l ++ m) = bkCells Q C s l ++ bkCells Q C (s + l.length) m := by
  induction l with
  | nil => intro s; simp [bkCells]
  | cons b l ih => intro s; simp only [List.cons_append, bkCells, ih, List.length_cons]; rw [show s + 1 + l.length = s + (l.length + 1) by omega]
theorem bkCells_congr {Q C Q' C' : Nat → Nat} (l : List Bk) : ∀ s, (∀ i, s ≤ i → i < s + l.length → Q i = Q' i ∧ C i = C' i) → bkCells Q C s l = bkCells Q' C' s l := by
  induction l with
  | nil => intro s _; rfl
  | cons b l ih =>
    intro s h
    have h0 := h s (Nat.le_refl _) (by simp)
    simp only [bkCells, h0.1, h0.2]
    rw [ih (s + 1) (fun i h1 h2 => h i (by omega) (by simp; omega))]

/-- The cells of a row that is owned. -/
theorem ownsRow_cell {w : World} {base : Nat} {e : TypeId} {size : Nat} {g n cap : Nat} {xs : List Value} (h : w.ownsRow base e size (.slice (some ⟨g, 0, none⟩) n cap) n xs) {j : Nat} {u : Value} (hj : xs[j]? = some u) : w.cell? ⟨g, j, none⟩ = some u := by
  have := h.cells (g := g) rfl j u hj
  have hadd : (⟨g, 0, none⟩ : Addr).add j = ⟨g, j, none⟩ := by unfold Addr.add; split <;> simp_all
  rwa [hadd] at this
theorem ownsRow_frozen {w : World} {base : Nat} {e : TypeId} {size : Nat} {g n cap : Nat} {xs : List Value} (h : w.ownsRow base e size (.slice (some ⟨g, 0, none⟩) n cap) n xs) (j : Nat) : w.frozen? ⟨g, j, none⟩ = false := by
  rcases h.2 with ⟨h0, _⟩ | ⟨g', c', cur, hv, _, hh, _⟩
  · cases h0
  · simp at hv
    obtain ⟨rfl, rfl⟩ := hv
    simp [World.frozen?, hh]
theorem ownsRow_pagesAt {w : World} {base : Nat} {e : TypeId} {g n cap : Nat} {ps : List Pg} (h : w.ownsRow base e 4 (.slice (some ⟨g, 0, none⟩) n cap) n (pgCells ps)) : PagesAt w (some ⟨g, 0, none⟩) ps := by
  intro i p hp
  refine ⟨g, 0, rfl, ?_, ?_, ?_, ?_⟩
  · rw [show 0 + i * 4 = i * 4 + 0 by omega]; exact ownsRow_cell h (pgCells_at hp 0 (by omega))
  · rw [show 0 + i * 4 + 1 = i * 4 + 1 by omega]; exact ownsRow_cell h (pgCells_at hp 1 (by omega))
  · rw [show 0 + i * 4 + 2 = i * 4 + 2 by omega]; exact ownsRow_cell h (pgCells_at hp 2 (by omega))
  · rw [show 0 + i * 4 + 3 = i * 4 + 3 by omega]; exact ownsRow_cell h (pgCells_at hp 3 (by omega))

/-- Blocks put together by append: v their slice, the pages of the i-th in row Q i, with room for C i. -/
structure SpecBlocks (w : World) (tB tP : TypeId) (base : Nat) (v : Value) (Q C : Nat → Nat) (bs : List Bk) : Prop where
  row : w.ownsRow base tB 2 v bs.length (bkCells Q C 0 bs)
  pages : ∀ i b, bs[i]? = some b → w.ownsRow base tP 4 (.slice (some ⟨Q i, 0, none⟩) b.pages.length (C i)) b.pages.length (pgCells b.pages)
  ne : ∀ i, i < bs.length → v.ownBlock ≠ some (Q i)
  inj : ∀ i j, i < bs.length → j < bs.length → i ≠ j → Q i ≠ Q j

theorem SpecBlocks.nil (w : World) (tB tP : TypeId) (base : Nat) (Q C : Nat → Nat) : SpecBlocks w tB tP base (.slice none 0 0) Q C [] :=
  ⟨World.ownsRow_nil _ _ _ _, fun i b h => by simp at h, fun i h => absurd h (Nat.not_lt_zero _), fun i j h => absurd h (Nat.not_lt_zero _)⟩

theorem SpecBlocks.Qlt {w : World} {tB tP : TypeId} {base : Nat} {v : Value} {Q C : Nat → Nat} {bs : List Bk} (h : SpecBlocks w tB tP base v Q C bs) {i : Nat} (hi : i < bs.length) : base ≤ Q i ∧ Q i < w.heap.size := by
  obtain ⟨b, hb⟩ := getElem?_ex hi
  exact (h.pages i b hb).lt (Q i) rfl

theorem SpecBlocks.form {w : World} {tB tP : TypeId} {base : Nat} {v : Value} {Q C : Nat → Nat} {bs : List Bk} (h : SpecBlocks w tB tP base v Q C bs) : ∃ a c, v = .slice a bs.length c ∧ BlocksAt w a bs := by
  rcases h.row.2 with ⟨hv, h0⟩ | ⟨g, cap, cur, hv, _⟩
  · exact ⟨none, 0, by rw [hv, h0], fun i b hb => by have := (List.getElem?_eq_some_iff.1 hb).1; omega⟩
  · subst hv
    refine ⟨_, _, rfl, fun i b hb => ?_⟩
    have hc := bkCells_at Q C 0 hb
    refine ⟨g, 0, some ⟨Q i, 0, none⟩, C i, rfl, ?_, ?_, ownsRow_pagesAt (h.pages i b hb)⟩
    · rw [show 0 + i * 2 = i * 2 by omega]; exact ownsRow_cell h.row hc.1
    · rw [show 0 + i * 2 + 1 = i * 2 + 1 by omega]
      have := ownsRow_cell h.row hc.2
      rwa [Nat.zero_add] at this

theorem SpecBlocks.kept {w w' : World} {tB tP : TypeId} {base : Nat} {v : Value} {Q C : Nat → Nat} {bs : List Bk} (h : SpecBlocks w tB tP base v Q C bs) (hb : Below w.heap.size w w') : SpecBlocks w' tB tP base v Q C bs := by
  have hg : w.grownBy w' none := ⟨hb.os, hb.tape, hb.output, hb.size, fun k hk _ => hb.block k hk⟩
  refine ⟨h.row.kept hg ?_, fun i b hi => (h.pages i b hi).kept hg (Or.inr (by simp [Value.ownBlock])), h.ne, h.inj⟩
  cases hv : v.ownBlock with
  | none => exact Or.inl rfl
  | some k => exact Or.inr (by simp)

/-- One block more, by append. W: the world ahead of the append, in which the new block's pages lie already. -/
theorem SpecBlocks.push {w W w1 : World} {tB tP : TypeId} {base : Nat} {v : Value} {Q C : Nat → Nat} {bs : List Bk} {b : Bk} {q c g cap : Nat} (h : SpecBlocks w tB tP base v Q C bs) (hW : Below w.heap.size w W)
    (hq : W.ownsRow base tP 4 (.slice (some ⟨q, 0, none⟩) b.pages.length c) b.pages.length (pgCells b.pages)) (hq0 : w.heap.size ≤ q)
    (hown : w1.ownsRow base tB 2 (.slice (some ⟨g, 0, none⟩) (bs.length + 1) cap) (bs.length + 1) (bkCells Q C 0 bs ++ [.int .i64 b.wear, .slice (some ⟨q, 0, none⟩) b.pages.length c]))
    (hgrow : W.grownBy w1 v.ownBlock) (hat : v.ownBlock = some g ∨ g = W.heap.size) :
    SpecBlocks w1 tB tP base (.slice (some ⟨g, 0, none⟩) (bs.length + 1) cap) (fun i => if i = bs.length then q else Q i) (fun i => if i = bs.length then c else C i) (bs ++ [b]) := by
  have hWs := h.kept hW
  have hqlt := (hq.lt q rfl).2
  have hvq : v.ownBlock ≠ some q := by
    intro e
    have := (h.row.lt q e).2
    omega
  have hcells : bkCells (fun i => if i = bs.length then q else Q i) (fun i => if i = bs.length then c else C i) 0 (bs ++ [b]) = bkCells Q C 0 bs ++ [.int .i64 b.wear, .slice (some ⟨q, 0, none⟩) b.pages.length c] := by
    rw [bkCells_append, bkCells_congr bs 0 (Q' := Q) (C' := C) (fun i _ hi => by
      have : ¬ i = bs.length := by omega
      simp [this])]
    simp [bkCells]
  have hgq : ∀ i, i < bs.length → g ≠ Q i := fun i hi => by
    rcases hat with e | e
    · intro x; exact h.ne i hi (by rw [e, x])
    · have := (hWs.Qlt hi).2; omega
  refine ⟨?_, ?_, ?_, ?_⟩
  · rw [hcells]; simpa using hown
  · intro i d hd
    by_cases e : i = bs.length
    · subst e
      simp at hd
      subst hd
      simp only [if_true]
      exact hq.kept hgrow (Or.inr (by simpa [Value.ownBlock] using fun x => hvq x.symm))
    · have hi : i < bs.length := by
        have := (List.getElem?_eq_some_iff.1 hd).1
        simp at this; omega
      rw [List.getElem?_append_left hi] at hd
      simp only [if_neg e]
      exact (hWs.pages i d hd).kept hgrow (Or.inr (by simpa [Value.ownBlock] using fun x => h.ne i hi x.symm))
  · intro i hi
    by_cases e : i = bs.length
    · simp only [if_pos e, Value.ownBlock]
      intro x
      simp at x
      rcases hat with e' | e'
      · exact hvq (by rw [e', x])
      · omega
    · simp only [if_neg e, Value.ownBlock]
      intro x
      simp at x hi
      exact hgq i (by omega) x
  · intro i j hi hj hij
    simp at hi hj
    by_cases ei : i = bs.length
    · have ej : ¬ j = bs.length := by omega
      simp only [if_pos ei, if_neg ej]
      have := (h.Qlt (i := j) (by omega)).2
      omega
    · by_cases ej : j = bs.length
      · simp only [if_neg ei, if_pos ej]
        have := (h.Qlt (i := i) (by omega)).2
        omega
      · simp only [if_neg ei, if_neg ej]
        exact h.inj i j (by omega) (by omega) hij

/-- A store below all of it. -/
theorem SpecBlocks.setLow {w : World} {tB tP : TypeId} {base : Nat} {v : Value} {Q C : Nat → Nat} {bs : List Bk} (h : SpecBlocks w tB tP base v Q C bs) {a : Addr} (ha : a.block < base) (u : Value) : SpecBlocks (w.setCell a u) tB tP base v Q C bs :=
  ⟨ownsRow_setCell_below h.row ha u, fun i b hb => ownsRow_setCell_below (h.pages i b hb) ha u, h.ne, h.inj⟩

def zeroBk : Bk := ⟨0, [zeroPg, zeroPg, zeroPg, zeroPg]⟩

theorem newPages (w : World) (base : Nat) (tP : TypeId) (hb : base ≤ w.heap.size) : (w.alloc (.cells (madeCells #[.bool false, .int .i64 0, .int .i64 0, .string ByteArray.empty] 16) tP)).ownsRow base tP 4 (.slice (some ⟨w.heap.size, 0, none⟩) 4 4) 4 (pgCells zeroBk.pages) :=
  ⟨rfl, Or.inr ⟨w.heap.size, 4, _, rfl, hb, Go.Deep.blk_alloc_new _ _, Nat.le_refl _, by unfold maxLen; omega, size_madeCells _ _, by simp [madeCells, pgCells, zeroBk, zeroPg, List.range, List.range.loop]⟩⟩

/-- One new block more, by append. -/
theorem newStep {w w1 : World} {tB tP : TypeId} {base k g cap : Nat} {v : Value} {Q C : Nat → Nat} {o : Obj} (h : SpecBlocks w tB tP base v Q C (List.replicate k zeroBk)) (hb : base ≤ w.heap.size)
    (hown : w1.ownsRow base tB 2 (.slice (some ⟨g, 0, none⟩) (k + 1) cap) (k + 1) (bkCells Q C 0 (List.replicate k zeroBk) ++ [.int .i64 0, .slice (some ⟨w.heap.size, 0, none⟩) 4 4]))
    (hgrow : ((w.alloc (.cells (madeCells #[.bool false, .int .i64 0, .int .i64 0, .string ByteArray.empty] 16) tP)).alloc o).drew.grownBy w1 v.ownBlock) (hat : v.ownBlock = some g ∨ g = w.heap.size + 1 + 1) :
    ∃ Q' C', SpecBlocks w1 tB tP base (.slice (some ⟨g, 0, none⟩) (k + 1) cap) Q' C' (List.replicate (k + 1) zeroBk) := by
  have hl : (List.replicate k zeroBk).length = k := by simp
  have hp := (newPages w base tP hb).alloc o
  have hW : Below w.heap.size w ((w.alloc (.cells (madeCells #[.bool false, .int .i64 0, .int .i64 0, .string ByteArray.empty] 16) tP)).alloc o).drew := (((Below.refl _ w).alloc (Nat.le_refl _) _).alloc (by simp) _).drew
  have := h.push (b := zeroBk) (q := w.heap.size) (c := 4) (g := g) (cap := cap) (w1 := w1) hW hp (Nat.le_refl _) (by rw [hl]; exact hown) hgrow (by
    rcases hat with e | e
    · exact Or.inl e
    · exact Or.inr (by simpa using e))
  rw [hl, ← List.replicate_succ'] at this
  exact ⟨_, _, this⟩

end Go.Proofs.Ytimencianaclmaa

/- Whether a number is within two others: the model's and the program's. -/
namespace Go.Proofs.Ytimencianaclmaa
open Go.RowKit
set_option linter.unusedVariables false
set_option linter.unusedSimpArgs false

theorem l1In_any (n lo hi : Int) (w : World) : Calls Try.prog 73 #[.int .i64 n, .int .i64 lo, .int .i64 hi] w fun e w' => e = .returned (.bool (decide (lo ≤ n ∧ n ≤ hi))) ∧ w' = w := by
  by_cases h1 : lo ≤ n
  · by_cases h2 : n ≤ hi
    · go_enter Try.func73, Try.ntmps73
      go_wp2
      go_ret
      exact ⟨by simp [h1, h2], rfl⟩
    · go_enter Try.func73, Try.ntmps73
      go_wp2
      go_ret
      exact ⟨by simp [h2], rfl⟩
  · go_enter Try.func73, Try.ntmps73
    go_wp2
    go_ret
    exact ⟨by simp; omega, rfl⟩

theorem within_any (n lo hi : Int) (w : World) : Calls Try.prog 84 #[.int .i64 n, .int .i64 lo, .int .i64 hi] w fun e w' => e = .returned (.bool (decide (lo ≤ n ∧ n ≤ hi))) ∧ w' = w := by
  by_cases h1 : lo ≤ n
  · by_cases h2 : n ≤ hi
    · go_enter Try.func84, Try.ntmps84
      go_wp2
      go_ret
      exact ⟨by simp [h1, h2], rfl⟩
    · go_enter Try.func84, Try.ntmps84
      go_wp2
      go_ret
      exact ⟨by simp [h2], rfl⟩
  · go_enter Try.func84, Try.ntmps84
    go_wp2
    go_ret
    exact ⟨by simp; omega, rfl⟩
end Go.Proofs.Ytimencianaclmaa
