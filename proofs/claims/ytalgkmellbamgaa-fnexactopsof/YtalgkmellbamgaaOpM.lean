/- Ops as they lie in memory, and rows of them that a call has made itself: no program is named here. -/
import Derived.Test.YtalgkmellbamgaaOwn
namespace Go.Proofs.Ytalgkmellbamgaa
open Go.RowKit
set_option linter.unusedVariables false
set_option linter.unusedSimpArgs false

structure Opn where
  kind : Int
  block : Int
  page : Pg

/-- The ops xs lie, one behind the other, from the address a on. -/
def OpsAt (w : World) (a : Option Addr) (xs : List Opn) : Prop :=
  ∀ i x, xs[i]? = some x → ∃ b o, a = some ⟨b, o, none⟩ ∧ w.cell? ⟨b, o + i * 6, none⟩ = some (.int .i64 x.kind) ∧ w.cell? ⟨b, o + i * 6 + 1, none⟩ = some (.int .i64 x.block) ∧ w.cell? ⟨b, o + i * 6 + 2, none⟩ = some (.bool x.page.used) ∧
    w.cell? ⟨b, o + i * 6 + 3, none⟩ = some (.int .i64 x.page.log) ∧ w.cell? ⟨b, o + i * 6 + 4, none⟩ = some (.int .i64 x.page.seq) ∧ w.cell? ⟨b, o + i * 6 + 5, none⟩ = some (.string x.page.data)

theorem OpsAt.below {w w' : World} {a : Option Addr} {xs : List Opn} (h : OpsAt w a xs) {B : Nat} (hb : Below B w w') (hB : w.heap.size ≤ B) : OpsAt w' a xs := by
  intro i x hx
  obtain ⟨b, o, ha, h0, h1, h2, h3, h4, h5⟩ := h i x hx
  have hlt : b < B := Nat.lt_of_lt_of_le (World.block_lt_of_cell? _ _ h0) hB
  have e : ∀ j, w'.cell? ⟨b, j, none⟩ = w.cell? ⟨b, j, none⟩ := fun j => hb.cell (p := ⟨b, j, none⟩) hlt
  exact ⟨b, o, ha, (e _).trans h0, (e _).trans h1, (e _).trans h2, (e _).trans h3, (e _).trans h4, (e _).trans h5⟩

def zeroOp : Opn := ⟨0, 0, zeroPg⟩
def opV (x : Opn) : Nat → Value
  | 0 => .int .i64 x.kind
  | 1 => .int .i64 x.block
  | j + 2 => pgV x.page j
/-- What stands in cell i of a row of ops (zero ops behind the last). -/
def opsF (xs : List Opn) (i : Nat) : Value := opV ((xs[i / 6]?).getD zeroOp) (i % 6)
theorem opsF_at {xs : List Opn} {k : Nat} {x : Opn} (h : xs[k]? = some x) (j : Nat) (hj : j < 6) : opsF xs (k * 6 + j) = opV x j := by
  unfold opsF
  rw [show (k * 6 + j) / 6 = k by omega, show (k * 6 + j) % 6 = j by omega, h]
  rfl
def OwnOps (w : World) (t : TypeId) (b : Nat) (n : Nat) (xs : List Opn) : Prop := w.rowIs b t (n * 6) (opsF xs)
theorem OwnOps.opsAt {w : World} {t : TypeId} {b n : Nat} {xs : List Opn} (h : OwnOps w t b n xs) (hn : xs.length ≤ n) : OpsAt w (some ⟨b, 0, none⟩) xs := by
  intro i x hx
  have hi := (List.getElem?_eq_some_iff.1 hx).1
  have c : ∀ j, j < 6 → w.cell? ⟨b, 0 + i * 6 + j, none⟩ = some (opV x j) := fun j hj => by
    rw [Nat.zero_add, World.rowIs.cell h (i := i * 6 + j) (by omega), opsF_at hx j hj]
  exact ⟨b, 0, rfl, c 0 (by omega), c 1 (by omega), c 2 (by omega), c 3 (by omega), c 4 (by omega), c 5 (by omega)⟩
theorem OwnOps.below {w w' : World} {t : TypeId} {b n : Nat} {xs : List Opn} (h : OwnOps w t b n xs) {B : Nat} (hb : Below B w w') (hB : b < B) : OwnOps w' t b n xs :=
  World.rowIs.of_block h (hb.block b hB)
theorem OwnOps.cells {w : World} {t : TypeId} {b n : Nat} {xs : List Opn} (h : OwnOps w t b n xs) {k : Nat} (hk : k < n) : ∀ j, j < 6 → ∃ v, w.cell? ⟨b, k * 6 + j, none⟩ = some v :=
  fun j hj => ⟨_, World.rowIs.cell h (by omega)⟩
theorem OwnOps.made (w : World) (t : TypeId) (n : Nat) : OwnOps (w.alloc (.cells (madeCells #[.int .i64 0, .int .i64 0, .bool false, .int .i64 0, .int .i64 0, .string ByteArray.empty] (n * 6)) t)) t w.heap.size n [] := by
  refine ⟨_, Go.Deep.blk_alloc_new _ _, size_madeCells _ _, fun i hi => ?_⟩
  simp only [madeCells, Array.getElem?_map, Array.getElem?_range, hi, if_true, Option.map_some]
  unfold opsF
  have h6 : i % 6 = 0 ∨ i % 6 = 1 ∨ i % 6 = 2 ∨ i % 6 = 3 ∨ i % 6 = 4 ∨ i % 6 = 5 := by omega
  rcases h6 with e | e | e | e | e | e <;> simp [e, opV, pgV, zeroOp, zeroPg]
theorem opsF_put {xs : List Opn} {k : Nat} {x : Opn} (ys : List Opn) (hy : ys[k]? = some x) (hother : ∀ i, i ≠ k → ys[i]? = xs[i]?) (j : Nat) :
    (if j = k * 6 + 5 then Value.string x.page.data else if j = k * 6 + 4 then .int .i64 x.page.seq else if j = k * 6 + 3 then .int .i64 x.page.log else if j = k * 6 + 2 then .bool x.page.used else if j = k * 6 + 1 then .int .i64 x.block else if j = k * 6 then .int .i64 x.kind else opsF xs j) = opsF ys j := by
  by_cases e5 : j = k * 6 + 5
  · subst e5; rw [if_pos rfl, opsF_at hy 5 (by omega)]; rfl
  rw [if_neg e5]
  by_cases e4 : j = k * 6 + 4
  · subst e4; rw [if_pos rfl, opsF_at hy 4 (by omega)]; rfl
  rw [if_neg e4]
  by_cases e3 : j = k * 6 + 3
  · subst e3; rw [if_pos rfl, opsF_at hy 3 (by omega)]; rfl
  rw [if_neg e3]
  by_cases e2 : j = k * 6 + 2
  · subst e2; rw [if_pos rfl, opsF_at hy 2 (by omega)]; rfl
  rw [if_neg e2]
  by_cases e1 : j = k * 6 + 1
  · subst e1; rw [if_pos rfl, opsF_at hy 1 (by omega)]; rfl
  rw [if_neg e1]
  by_cases e0 : j = k * 6
  · subst e0; rw [if_pos rfl, show k * 6 = k * 6 + 0 by omega, opsF_at hy 0 (by omega)]; rfl
  rw [if_neg e0]
  unfold opsF
  rw [hother (j / 6) (by omega)]
theorem take_put {xs : List Opn} {k : Nat} {x : Opn} (h : xs[k]? = some x) : (xs.take (k + 1))[k]? = some x ∧ ∀ i, i ≠ k → (xs.take (k + 1))[i]? = (xs.take k)[i]? := by
  refine ⟨by rw [List.getElem?_take, if_pos (by omega)]; exact h, fun i hi => ?_⟩
  rw [List.getElem?_take, List.getElem?_take]
  by_cases hlt : i < k
  · rw [if_pos hlt, if_pos (by omega)]
  · rw [if_neg hlt, if_neg (by omega)]
/-- Six cells are written: op k is x. -/
theorem OwnOps.put {w : World} {t : TypeId} {b n k : Nat} {xs ys : List Opn} {x : Opn} (h : OwnOps w t b n xs) (hy : ys[k]? = some x) (hother : ∀ i, i ≠ k → ys[i]? = xs[i]?) :
    OwnOps ((((((w.setCell ⟨b, k * 6, none⟩ (.int .i64 x.kind)).setCell ⟨b, k * 6 + 1, none⟩ (.int .i64 x.block)).setCell ⟨b, k * 6 + 2, none⟩ (.bool x.page.used)).setCell ⟨b, k * 6 + 3, none⟩ (.int .i64 x.page.log)).setCell ⟨b, k * 6 + 4, none⟩ (.int .i64 x.page.seq)).setCell ⟨b, k * 6 + 5, none⟩ (.string x.page.data)) t b n ys :=
  ((((((World.rowIs.set h (k * 6) _).set (k * 6 + 1) _).set (k * 6 + 2) _).set (k * 6 + 3) _).set (k * 6 + 4) _).set (k * 6 + 5) _).congr (fun j _ => opsF_put ys hy hother j)

/-- No text of an op is longer than a machine's number can say. -/
def OpTexts (xs : List Opn) : Prop := ∀ x ∈ xs, x.page.data.size ≤ 9223372036854775807
end Go.Proofs.Ytalgkmellbamgaa
