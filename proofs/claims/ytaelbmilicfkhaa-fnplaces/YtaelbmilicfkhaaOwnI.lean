/- Lists of int64 that a call has built itself: no program is named here. -/
import Derived.Test.YtaelbmilicfkhaaIntA
import Derived.WalkKit
import Derived.Laws.OwnMore
import Derived.Deep.AppendLies
namespace Go.Proofs.Ytaelbmilicfkhaa
open Go.RowKit
set_option linter.unusedVariables false
set_option linter.unusedSimpArgs false

def ints (L : List Int) : List Value := L.map (Value.int .i64)
theorem ints_length (L : List Int) : (ints L).length = L.length := by simp [ints]

/-- The slice v holds the numbers L, in a row that was made from block B on and may be written. -/
def OwnInts (w : World) (t : TypeId) (B : Nat) (v : Value) (L : List Int) : Prop := w.ownsRow B t 1 v L.length (ints L)

theorem OwnInts.kept {w w' : World} {t : TypeId} {B : Nat} {v : Value} {L : List Int} (h : OwnInts w t B v L) (hb : Below w.heap.size w w') : OwnInts w' t B v L := by
  have hg : w.grownBy w' none := ⟨hb.os, hb.tape, hb.output, hb.size, fun k hk _ => hb.block k hk⟩
  refine World.ownsRow.kept h hg ?_
  cases hv : v.ownBlock with
  | none => exact Or.inl rfl
  | some k => exact Or.inr (by simp)

/-- The ints from the place on may be written. -/
def IntsMine (w : World) (b o n : Nat) : Prop := ∀ i, i < n → (∃ x : Int, w.cell? ⟨b, o + i, none⟩ = some (.int .i64 x)) ∧ w.frozen? ⟨b, o + i, none⟩ = false

/-- The list may be written, and lies from block B on. -/
def MineFrom (w : World) (a : Option Addr) (n B : Nat) : Prop := (a = none ∧ n = 0) ∨ ∃ g, a = some ⟨g, 0, none⟩ ∧ B ≤ g ∧ g < w.heap.size ∧ IntsMine w g 0 n

theorem OwnInts.form {w : World} {t : TypeId} {B : Nat} {v : Value} {L : List Int} (h : OwnInts w t B v L) : ∃ a c, v = .slice a L.length c ∧ IntsAt w a L ∧ MineFrom w a L.length B := by
  have h0 := h
  rcases h.2 with ⟨hv, hl⟩ | ⟨g, cap, cur, rfl, hb, hg, _⟩
  · exact ⟨none, 0, by rw [hv, hl], fun i x hx => by have := (List.getElem?_eq_some_iff.1 hx).1; omega, .inl ⟨rfl, hl⟩⟩
  · have hcell : ∀ i x, L[i]? = some x → w.cell? ⟨g, 0 + i, none⟩ = some (.int .i64 x) := fun i x hx => by
      have hi := (List.getElem?_eq_some_iff.1 hx).1
      rw [Nat.zero_add, World.ownsRow.cellAt h0 i (by omega)]
      simp [ints, hx]
    refine ⟨_, _, rfl, fun i x hx => ⟨g, 0, rfl, hcell i x hx⟩, .inr ⟨g, rfl, hb, (Array.getElem?_eq_some_iff.1 hg).1, fun i hi => ⟨?_, World.ownsRow.frozenAt h0 _⟩⟩⟩
    obtain ⟨x, hx⟩ := getElem?_ex (l := L) (k := i) hi
    exact ⟨x, hcell i x hx⟩

theorem IntsMine.of_block {w w' : World} {g o n : Nat} (h : IntsMine w g o n) (e : w'.heap[g]? = w.heap[g]?) : IntsMine w' g o n := fun i hi => by
  obtain ⟨⟨x, hx⟩, hf⟩ := h i hi
  refine ⟨⟨x, (World.cell?_of_block (w := w) (a := ⟨g, o + i, none⟩) e).trans hx⟩, ?_⟩
  have : w'.frozen? ⟨g, o + i, none⟩ = w.frozen? ⟨g, o + i, none⟩ := by simp [World.frozen?, e]
  exact this.trans hf

theorem MineFrom.below {w w' : World} {a : Option Addr} {n B : Nat} (h : MineFrom w a n B) (hb : Below w.heap.size w w') : MineFrom w' a n B := by
  rcases h with h | ⟨g, ha, h1, h2, h3⟩
  · exact .inl h
  · exact .inr ⟨g, ha, h1, Nat.lt_of_lt_of_le h2 hb.size, h3.of_block (hb.block g h2)⟩
theorem MineFrom.touch {S : Nat → Prop} {w w' : World} {a : Option Addr} {n B : Nat} (h : MineFrom w a n B) (hT : Touch S w w') (hS : ∀ k, S k → k < B) : MineFrom w' a n B := by
  rcases h with h | ⟨g, ha, h1, h2, h3⟩
  · exact .inl h
  · exact .inr ⟨g, ha, h1, Nat.lt_of_lt_of_le h2 hT.size, h3.of_block (hT.block g h2 (fun hs => by have := hS g hs; omega))⟩
theorem intsAt_touch {S : Nat → Prop} {w w' : World} {a : Option Addr} {L : List Int} {B : Nat} (h : IntsAt w a L) (hM : MineFrom w a L.length B) (hT : Touch S w w') (hS : ∀ k, S k → k < B) : IntsAt w' a L := by
  intro i x hx
  obtain ⟨b, o, ha, hc⟩ := h i x hx
  rcases hM with ⟨hn, _⟩ | ⟨g, ha', h1, h2, _⟩
  · rw [hn] at ha; cases ha
  · rw [ha] at ha'
    cases ha'
    exact ⟨b, 0, ha, (World.cell?_of_block (w := w) (a := ⟨b, 0 + i, none⟩) (hT.block b h2 (fun hs => by have := hS b hs; omega))).trans hc⟩

end Go.Proofs.Ytaelbmilicfkhaa
