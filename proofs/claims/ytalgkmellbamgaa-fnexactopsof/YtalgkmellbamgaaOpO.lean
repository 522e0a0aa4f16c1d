/- Lists of ops that append has built. -/
import Derived.Test.YtalgkmellbamgaaOpM
import Derived.Test.YtalgkmellbamgaaSpc
import Derived.Test.YtalgkmellbamgaaFreeP
import Derived.Test.YtalgkmellbamgaaChecked
import Derived.WalkKit
namespace Go.Proofs.Ytalgkmellbamgaa
open Go.RowKit
set_option linter.unusedVariables false
set_option linter.unusedSimpArgs false

def opCells (xs : List Opn) : List Value := xs.flatMap fun x => [.int .i64 x.kind, .int .i64 x.block, .bool x.page.used, .int .i64 x.page.log, .int .i64 x.page.seq, .string x.page.data]
theorem opCells_at {xs : List Opn} : ∀ {i : Nat} {x : Opn}, xs[i]? = some x → ∀ j, j < 6 → (opCells xs)[i * 6 + j]? = some (opV x j) := by
  induction xs with
  | nil => intro i x h; simp at h
  | cons y xs ih =>
    intro i x h j hj
    have e : opCells (y :: xs) = [.int .i64 y.kind, .int .i64 y.block, .bool y.page.used, .int .i64 y.page.log, .int .i64 y.page.seq, .string y.page.data] ++ opCells xs := rfl
    cases i with
    | zero =>
      simp at h; subst h
      rw [e, List.getElem?_append_left (by simp; omega)]
      have h6 : j = 0 ∨ j = 1 ∨ j = 2 ∨ j = 3 ∨ j = 4 ∨ j = 5 := by omega
      rcases h6 with rfl | rfl | rfl | rfl | rfl | rfl <;> rfl
    | succ i =>
      rw [e, List.getElem?_append_right (by simp; omega)]
      rw [show (i + 1) * 6 + j - [Value.int .i64 y.kind, .int .i64 y.block, .bool y.page.used, .int .i64 y.page.log, .int .i64 y.page.seq, .string y.page.data].length = i * 6 + j by simp; omega]
      exact ih (by simpa using h) j hj

/-- The slice v holds the ops xs, in a row that was made from block B on and may be written. -/
def OwnsOps (w : World) (B : Nat) (v : Value) (xs : List Opn) : Prop := w.ownsRow B 63 6 v xs.length (opCells xs)
theorem OwnsOps.touch {w w' : World} {B r : Nat} {v : Value} {xs : List Opn} (h : OwnsOps w B v xs) (hr : r < B) (hT : Touch (· = r) w w') : OwnsOps w' B v xs := by
  refine ⟨h.1, ?_⟩
  rcases h.2 with ⟨hv, hl⟩ | ⟨g, cap, cur, rfl, hb, hg, hrest⟩
  · exact .inl ⟨hv, hl⟩
  · refine .inr ⟨g, cap, cur, rfl, hb, ?_, hrest⟩
    rw [hT.block g (Array.getElem?_eq_some_iff.1 hg).1 (by show ¬ g = r; omega)]
    exact hg
theorem OwnsOps.nil (w : World) (B : Nat) (hB : B ≤ w.heap.size) : OwnsOps (w.alloc (.cells #[] 63)) B (.slice (some ⟨w.heap.size, 0, none⟩) 0 0) [] := by
  have := World.ownsRow_lit (base := B) (e := 63) (size := 6) w #[] 0 hB (by unfold maxLen; omega) rfl
  simpa [OwnsOps, opCells] using this
theorem OwnsOps.form {w : World} {B : Nat} {v : Value} {xs : List Opn} (h : OwnsOps w B v xs) : ∃ a c, v = .slice a xs.length c ∧ OpsAt w a xs ∧ xs.length ≤ c := by
  have h0 := h
  rcases h.2 with ⟨hv, hl⟩ | ⟨g, cap, cur, rfl, hb, hg, hn, _⟩
  · exact ⟨none, 0, by rw [hv, hl], fun i x hx => by have := (List.getElem?_eq_some_iff.1 hx).1; omega, by omega⟩
  · refine ⟨_, _, rfl, fun i x hx => ?_, hn⟩
    have c : ∀ j, j < 6 → w.cell? ⟨g, 0 + i * 6 + j, none⟩ = some (opV x j) := fun j hj => by
      rw [Nat.zero_add]
      exact ownsRow_cell h0 (opCells_at hx j hj)
    exact ⟨g, 0, rfl, c 0 (by omega), c 1 (by omega), c 2 (by omega), c 3 (by omega), c 4 (by omega), c 5 (by omega)⟩
theorem infoCOp : (Try.prog.info? 63).map (fun i => (i.zero, i.size, i.bytes)) = some (some (.agg #[.int .i64 0, .int .i64 0, .bool false, .int .i64 0, .int .i64 0, .string ByteArray.empty]), 6, 56) := by kernel_rfl
theorem OwnsOps.kept {w w' : World} {B : Nat} {v : Value} {xs : List Opn} (h : OwnsOps w B v xs) (hb : Below w.heap.size w w') : OwnsOps w' B v xs := by
  have hg : w.grownBy w' none := ⟨hb.os, hb.tape, hb.output, hb.size, fun k hk _ => hb.block k hk⟩
  refine World.ownsRow.kept h hg ?_
  cases hv : v.ownBlock with
  | none => exact Or.inl rfl
  | some k => exact Or.inr (by simp)
theorem OwnsOps.lower {w : World} {B B' : Nat} {v : Value} {xs : List Opn} (h : OwnsOps w B v xs) (hB : B' ≤ B) : OwnsOps w B' v xs := by
  refine ⟨h.1, ?_⟩
  rcases h.2 with h0 | ⟨g, cap, cur, e1, e2, e3⟩
  · exact .inl h0
  · exact .inr ⟨g, cap, cur, e1, by omega, e3⟩
theorem opCells_snoc (xs : List Opn) (x : Opn) : opCells (xs ++ [x]) = opCells xs ++ [.int .i64 x.kind, .int .i64 x.block, .bool x.page.used, .int .i64 x.page.log, .int .i64 x.page.seq, .string x.page.data] := by simp [opCells]
end Go.Proofs.Ytalgkmellbamgaa
