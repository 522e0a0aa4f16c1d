/- A member as an answer: what it owns, its marks. -/
import Derived.Test.YtaelbmilicfkhaaIntsH
import Derived.Test.YtaelbmilicfkhaaChipA
import Derived.Test.YtaelbmilicfkhaaFtlT
namespace Go.Proofs.Ytaelbmilicfkhaa
open Go.RowKit
set_option linter.unusedVariables false
set_option linter.unusedSimpArgs false

theorem marksI_length (k : Int) (n : Nat) : (marksI k n).length = n := by simp [marksI]

/-- An answer that is a member: its rows lie from B on and ahead of T: the chip's in [C, K), its map in none of these. -/
def FtlOwn (w : World) (B T : Nat) (a : Option Addr) (n c : Nat) (out : List Bk) (ma : Option Addr) (mn : Nat) (L : List Int) : Prop :=
  L.length = mn ∧ IntsAt w ma L ∧ MineFrom w ma mn B ∧ (∀ g, ma = some ⟨g, 0, none⟩ → g < T) ∧ ∃ C K, B ≤ C ∧ ChipOwn w C K a n c out ∧ K ≤ T ∧ ∀ g, ma = some ⟨g, 0, none⟩ → ¬ (C ≤ g ∧ g < K)
theorem FtlOwn.blocksAt {w : World} {B T : Nat} {a : Option Addr} {n c : Nat} {out : List Bk} {ma : Option Addr} {mn : Nat} {L : List Int} (h : FtlOwn w B T a n c out ma mn L) : BlocksAt w a out := by
  obtain ⟨_, _, _, _, C, K, _, h1, _⟩ := h; exact h1.blocksAt
theorem FtlOwn.length {w : World} {B T : Nat} {a : Option Addr} {n c : Nat} {out : List Bk} {ma : Option Addr} {mn : Nat} {L : List Int} (h : FtlOwn w B T a n c out ma mn L) : out.length = n ∧ L.length = mn := by
  obtain ⟨h0, _, _, _, C, K, _, h1, _⟩ := h; exact ⟨h1.1, h0⟩
theorem FtlOwn.below {w w' : World} {B T : Nat} {a : Option Addr} {n c : Nat} {out : List Bk} {ma : Option Addr} {mn : Nat} {L : List Int} (h : FtlOwn w B T a n c out ma mn L) (hb : Below w.heap.size w w') : FtlOwn w' B T a n c out ma mn L := by
  obtain ⟨h0, h1, h2, h6, C, K, h3, h4, h5⟩ := h
  exact ⟨h0, h1.below hb (Nat.le_refl _), h2.below hb, h6, C, K, h3, h4.below hb, h5⟩
theorem FtlOwn.touch {S : Nat → Prop} {w w' : World} {B T : Nat} {a : Option Addr} {n c : Nat} {out : List Bk} {ma : Option Addr} {mn : Nat} {L : List Int} (h : FtlOwn w B T a n c out ma mn L) (hT : Touch S w w') (hS : ∀ k, S k → k < B) : FtlOwn w' B T a n c out ma mn L := by
  obtain ⟨h0, h1, h2, h6, C, K, h3, h4, h5⟩ := h
  exact ⟨h0, intsAt_touch h1 (by rw [h0]; exact h2) hT hS, h2.touch hT hS, h6, C, K, h3, h4.touch hT (fun k hk => by have := hS k hk; omega), h5⟩

theorem MineFrom.touch' {S : Nat → Prop} {w w' : World} {a : Option Addr} {n B : Nat} (h : MineFrom w a n B) (hT : Touch S w w') (hS : ∀ g, a = some ⟨g, 0, none⟩ → ¬ S g) : MineFrom w' a n B := by
  rcases h with h | ⟨g, ha, h1, h2, h3⟩
  · exact .inl h
  · exact .inr ⟨g, ha, h1, Nat.lt_of_lt_of_le h2 hT.size, h3.of_block (hT.block g h2 (hS g ha))⟩


/-- What marks a member holds. -/
def FtlMarked (w : World) (a : Option Addr) (out : List Bk) (ma : Option Addr) (mn : Nat) : Prop := BlocksAt w a (markBs 1 out) ∧ IntsAt w ma (marksI (kAfter 1 out) mn)
theorem FtlMarked.below {w w' : World} {a : Option Addr} {out : List Bk} {ma : Option Addr} {mn : Nat} (h : FtlMarked w a out ma mn) (hb : Below w.heap.size w w') : FtlMarked w' a out ma mn :=
  ⟨h.1.below hb (Nat.le_refl _), h.2.below hb (Nat.le_refl _)⟩



end Go.Proofs.Ytaelbmilicfkhaa
