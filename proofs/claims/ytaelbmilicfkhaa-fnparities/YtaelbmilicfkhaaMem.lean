/- Plain words for pages, blocks and chips as they lie in memory: no program is named here. -/
import Derived.WalkKit
import Derived.Deep.OwnRows
namespace Go.Proofs.Ytaelbmilicfkhaa
open Go.RowKit
set_option linter.unusedVariables false

theorem hide {p : Prop} (h : p) : Hid p := h
theorem unhide {p : Prop} (h : Hid p) : p := h

structure Pg where
  used : Bool
  log : Int
  seq : Int
  data : ByteArray

structure Bk where
  wear : Int
  pages : List Pg

/-- The pages ps lie, one behind the other, from the address a on. -/
def PagesAt (w : World) (a : Option Addr) (ps : List Pg) : Prop :=
  ∀ i p, ps[i]? = some p → ∃ b o, a = some ⟨b, o, none⟩ ∧ w.cell? ⟨b, o + i * 4, none⟩ = some (.bool p.used) ∧ w.cell? ⟨b, o + i * 4 + 1, none⟩ = some (.int .i64 p.log) ∧
    w.cell? ⟨b, o + i * 4 + 2, none⟩ = some (.int .i64 p.seq) ∧ w.cell? ⟨b, o + i * 4 + 3, none⟩ = some (.string p.data)

theorem PagesAt.below {w w' : World} {a : Option Addr} {ps : List Pg} (h : PagesAt w a ps) {B : Nat} (hb : Below B w w') (hB : w.heap.size ≤ B) : PagesAt w' a ps := by
  intro i p hp
  obtain ⟨b, o, ha, h0, h1, h2, h3⟩ := h i p hp
  have hlt : b < B := Nat.lt_of_lt_of_le (World.block_lt_of_cell? _ _ h0) hB
  exact ⟨b, o, ha, by rw [hb.cell (p := ⟨b, _, none⟩) hlt]; exact h0, by rw [hb.cell (p := ⟨b, _, none⟩) hlt]; exact h1, by rw [hb.cell (p := ⟨b, _, none⟩) hlt]; exact h2, by rw [hb.cell (p := ⟨b, _, none⟩) hlt]; exact h3⟩

/-- The blocks bs lie, one behind the other, from the address a on, each with its pages. -/
def BlocksAt (w : World) (a : Option Addr) (bs : List Bk) : Prop :=
  ∀ i b, bs[i]? = some b → ∃ g o pa pc, a = some ⟨g, o, none⟩ ∧ w.cell? ⟨g, o + i * 2, none⟩ = some (.int .i64 b.wear) ∧ w.cell? ⟨g, o + i * 2 + 1, none⟩ = some (.slice pa b.pages.length pc) ∧ PagesAt w pa b.pages

theorem BlocksAt.below {w w' : World} {a : Option Addr} {bs : List Bk} (h : BlocksAt w a bs) {B : Nat} (hb : Below B w w') (hB : w.heap.size ≤ B) : BlocksAt w' a bs := by
  intro i b hp
  obtain ⟨g, o, pa, pc, ha, h0, h1, h2⟩ := h i b hp
  have hlt : g < B := Nat.lt_of_lt_of_le (World.block_lt_of_cell? _ _ h0) hB
  exact ⟨g, o, pa, pc, ha, by rw [hb.cell (p := ⟨g, _, none⟩) hlt]; exact h0, by rw [hb.cell (p := ⟨g, _, none⟩) hlt]; exact h1, h2.below hb hB⟩

/-- No list of the chip is longer than n. -/
def Lens (n : Nat) (bs : List Bk) : Prop := bs.length ≤ n ∧ ∀ b ∈ bs, b.pages.length ≤ n

theorem Lens.at {n : Nat} {bs : List Bk} (h : Lens n bs) {i : Nat} {b : Bk} (hb : bs[i]? = some b) : b.pages.length ≤ n := h.2 b (List.mem_of_getElem? hb)

/-- No text of the chip is longer than a machine's number can say. -/
def Texts (bs : List Bk) : Prop := ∀ b ∈ bs, ∀ p ∈ b.pages, p.data.size ≤ 9223372036854775807

theorem Texts.at {bs : List Bk} (h : Texts bs) {i : Nat} {b : Bk} (hb : bs[i]? = some b) : ∀ p ∈ b.pages, p.data.size ≤ 9223372036854775807 := h b (List.mem_of_getElem? hb)

/-- What lay below reads as it did, cell by cell: two rules for the walk. -/
theorem bcell {W w1 : World} (hb : Below W.heap.size W w1) : (∀ b o, b < W.heap.size → w1.cell? ⟨b, o, none⟩ = W.cell? ⟨b, o, none⟩) ∧ (∀ b o, b < W.heap.size → w1.frozen? ⟨b, o, none⟩ = W.frozen? ⟨b, o, none⟩) :=
  ⟨fun b o h => hb.cell (p := ⟨b, o, none⟩) h, fun b o h => hb.frozen (p := ⟨b, o, none⟩) h⟩

theorem frozen_alloc_lt (w : World) (o : Obj) (b off : Nat) (h : b < w.heap.size) : (w.alloc o).frozen? ⟨b, off, none⟩ = w.frozen? ⟨b, off, none⟩ :=
  ((Below.refl w.heap.size w).alloc (Nat.le_refl _) o).frozen (p := ⟨b, off, none⟩) h
theorem cell_alloc_lt (w : World) (o : Obj) (b off : Nat) (h : b < w.heap.size) : (w.alloc o).cell? ⟨b, off, none⟩ = w.cell? ⟨b, off, none⟩ :=
  ((Below.refl w.heap.size w).alloc (Nat.le_refl _) o).cell (p := ⟨b, off, none⟩) h
theorem frozen_drew (w : World) (a : Addr) : w.drew.frozen? a = w.frozen? a := rfl
theorem cell_drew (w : World) (a : Addr) : w.drew.cell? a = w.cell? a := rfl

theorem getElem?_ex {α : Type} {l : List α} {k : Nat} (h : k < l.length) : ∃ p, l[k]? = some p := ⟨l[k], by simp [h]⟩

end Go.Proofs.Ytaelbmilicfkhaa
