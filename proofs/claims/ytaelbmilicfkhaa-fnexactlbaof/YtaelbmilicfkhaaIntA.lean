/- Lists of int64 as they lie in memory: no program is named here. -/
import Derived.Test.YtaelbmilicfkhaaOwn
import Derived.WalkKit
namespace Go.Proofs.Ytaelbmilicfkhaa
open Go.RowKit
set_option linter.unusedVariables false
set_option linter.unusedSimpArgs false

/-- The numbers L lie, one behind the other, from the address a on. -/
def IntsAt (w : World) (a : Option Addr) (L : List Int) : Prop :=
  ∀ i x, L[i]? = some x → ∃ b o, a = some ⟨b, o, none⟩ ∧ w.cell? ⟨b, o + i, none⟩ = some (.int .i64 x)

theorem IntsAt.below {w w' : World} {a : Option Addr} {L : List Int} (h : IntsAt w a L) {B : Nat} (hb : Below B w w') (hB : w.heap.size ≤ B) : IntsAt w' a L := by
  intro i x hx
  obtain ⟨b, o, ha, h0⟩ := h i x hx
  exact ⟨b, o, ha, (hb.cell (p := ⟨b, o + i, none⟩) (Nat.lt_of_lt_of_le (World.block_lt_of_cell? _ _ h0) hB)).trans h0⟩

def intF (L : List Int) (i : Nat) : Value := .int .i64 ((L[i]?).getD 0)

/-- A row of its own of n numbers, L ahead and noughts behind. -/
def RowInts (w : World) (t : TypeId) (b n : Nat) (L : List Int) : Prop := w.rowIs b t n (intF L)

theorem RowInts.intsAt {w : World} {t : TypeId} {b n : Nat} {L : List Int} (h : RowInts w t b n L) (hn : L.length ≤ n) : IntsAt w (some ⟨b, 0, none⟩) L := by
  intro i x hx
  have hi := (List.getElem?_eq_some_iff.1 hx).1
  refine ⟨b, 0, rfl, ?_⟩
  have := World.rowIs.cell h (i := i) (by omega)
  simpa [intF, hx] using this

theorem RowInts.below {w w' : World} {t : TypeId} {b n : Nat} {L : List Int} (h : RowInts w t b n L) {B : Nat} (hb : Below B w w') (hB : b < B) : RowInts w' t b n L :=
  World.rowIs.of_block h (hb.block b hB)

theorem RowInts.put {w : World} {t : TypeId} {b n k : Nat} {L : List Int} {x : Int} (h : RowInts w t b n (L.take k)) (hx : L[k]? = some x) :
    RowInts (w.setCell ⟨b, k, none⟩ (.int .i64 x)) t b n (L.take (k + 1)) := by
  have hk := (List.getElem?_eq_some_iff.1 hx).1
  refine World.rowIs.congr (World.rowIs.set h k (.int .i64 x)) fun i hi => ?_
  unfold intF
  by_cases e : i = k
  · subst e; simp [List.getElem?_take, hx]
  · by_cases l : i < k
    · simp [e, List.getElem?_take, l, Nat.lt_succ_of_lt l]
    · have l2 : ¬ i < k + 1 := by omega
      simp [e, List.getElem?_take, l, l2]

theorem RowInts.made (w : World) (t : TypeId) (n : Nat) : RowInts (w.alloc (.cells (madeCells #[.int .i64 0] n) t)) t w.heap.size n [] :=
  (World.rowIs_made w (.int .i64 0) n t).congr fun i hi => by simp [intF]

end Go.Proofs.Ytaelbmilicfkhaa
