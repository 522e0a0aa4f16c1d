/- A chip as an answer: what it owns, its marks. -/
import Derived.Test.YtageolbmplhgaaaLawC
import Derived.Test.YtageolbmplhgaaaMark
import Derived.Test.YtageolbmplhgaaaFreeL
namespace Go.Proofs.Ytageolbmplhgaaa
open Go.RowKit
set_option linter.unusedVariables false
set_option linter.unusedSimpArgs false

theorem OwnBlocks.of_blocks {w w' : World} {tB tP : TypeId} {g : Nat} {H : Nat → Nat} {n : Nat} {bs : List Bk} (h : OwnBlocks w tB tP g H n bs) (e : ∀ k, g ≤ k → k < w.heap.size → w'.heap[k]? = w.heap[k]?) : OwnBlocks w' tB tP g H n bs :=
  ⟨h.row.of_block (e g (Nat.le_refl _) h.row.lt), fun i b hb => World.rowIs.of_block (h.pages i b hb) (e _ (Nat.le_of_lt (h.ahead i (List.getElem?_eq_some_iff.1 hb).1)) (World.rowIs.lt (h.pages i b hb))), h.ahead, h.order⟩

/-- An answer that is a chip: its blocks lie from B on and ahead of K, each in a row of its own. -/
def ChipOwn (w : World) (B K : Nat) (a : Option Addr) (n c : Nat) (out : List Bk) : Prop :=
  out.length = n ∧ ((a = none ∧ n = 0 ∧ c = 0) ∨ ∃ g H, a = some ⟨g, 0, none⟩ ∧ B ≤ g ∧ g < K ∧ (∀ i, i < n → g < H i ∧ H i < K) ∧ OwnBlocks w 75 44 g H n out)

theorem ChipOwn.blocksAt {w : World} {B K : Nat} {a : Option Addr} {n c : Nat} {out : List Bk} (h : ChipOwn w B K a n c out) : BlocksAt w a out := by
  obtain ⟨hl, ⟨_, h0, _⟩ | ⟨g, H, rfl, _, _, _, hO⟩⟩ := h
  · intro i b hb
    have := (List.getElem?_eq_some_iff.1 hb).1
    omega
  · exact hO.blocksAt (by omega)

theorem ChipOwn.below {w w' : World} {B K : Nat} {a : Option Addr} {n c : Nat} {out : List Bk} (h : ChipOwn w B K a n c out) (hb : Below w.heap.size w w') : ChipOwn w' B K a n c out := by
  obtain ⟨hl, h0 | ⟨g, H, rfl, h1, h2, h3, hO⟩⟩ := h
  · exact ⟨hl, .inl h0⟩
  · exact ⟨hl, .inr ⟨g, H, rfl, h1, h2, h3, hO.below hb (Nat.le_refl _)⟩⟩

theorem ChipOwn.touch {S : Nat → Prop} {w w' : World} {B K : Nat} {a : Option Addr} {n c : Nat} {out : List Bk} (h : ChipOwn w B K a n c out) (hT : Touch S w w') (hS : ∀ k, S k → k < B) : ChipOwn w' B K a n c out := by
  obtain ⟨hl, h0 | ⟨g, H, rfl, h1, h2, h3, hO⟩⟩ := h
  · exact ⟨hl, .inl h0⟩
  · exact ⟨hl, .inr ⟨g, H, rfl, h1, h2, h3, hO.of_blocks fun k hk hlt => hT.block k hlt (fun hs => by have := hS k hs; omega)⟩⟩

theorem markChip_own {B K : Nat} (a : Option Addr) (n c : Nat) (out : List Bk) (w : World) (h : ChipOwn w B K a n c out) (hn : Lens 1048576 out) (h1 : kAfter 1 out ≤ 1125899906842624) :
    Calls Try.prog 22 #[.agg #[.slice a n c], .int .i64 1] w fun e w' => e = .returned (.int .i64 (kAfter 1 out)) ∧ BlocksAt w' a (markBs 1 out) ∧ Touch (fun k => B ≤ k ∧ k < K) w w' := by
  obtain ⟨hl, ⟨rfl, rfl, rfl⟩ | ⟨g, H, rfl, hB, hK, hH, hO⟩⟩ := h
  · have h0 : out = [] := List.length_eq_zero_iff.1 hl
    subst h0
    refine (markChip_nil 1 w).mono ?_
    rintro e w' ⟨rfl, hB⟩
    exact ⟨rfl, fun i b hb => by simp [markBs] at hb, Touch.of_below hB⟩
  · refine (markChip_n g H c out hl 1 w hO hn (by omega) h1).mono ?_
    rintro e w' ⟨rfl, hO2, hT⟩
    refine ⟨rfl, hO2.blocksAt ?_, hT.mono fun k hk => ?_⟩
    · rw [markBs_length, hl]
      exact Nat.le_refl _
    · rcases hk with rfl | ⟨i, hi, rfl⟩
      · exact ⟨hB, hK⟩
      · have := hH i hi
        exact ⟨by omega, this.2⟩

theorem heldChip_own (a : Option Addr) (n c : Nat) (out : List Bk) (hl : out.length = n) (w : World) (h : BlocksAt w a (markBs 1 out)) (hn : Lens 1048576 out) (h1 : kAfter 1 out ≤ 1125899906842624) :
    Calls Try.prog 23 #[.agg #[.slice a n c], .int .i64 1] w fun e w' => e = .returned (.int .i64 (kAfter 1 out)) ∧ Below w.heap.size w w' := by
  subst hl; exact heldChip_any a c out 1 w h hn (by omega) h1
end Go.Proofs.Ytageolbmplhgaaa
