/- For the law over Programmed: what its calls leave in variables that may have been made ahead of them. -/
import Derived.Test.YtageolbmplhgaaaProgP
import Derived.Test.YtageolbmplhgaaaChipA
namespace Go.Proofs.Ytageolbmplhgaaa
open Go.RowKit
set_option linter.unusedVariables false
set_option linter.unusedSimpArgs false

theorem cell_apart {w : World} {P : Nat} {x : Option Addr} {y z : Nat} (hP : w.cell? ⟨P, 0, none⟩ = some (.slice x y z)) {g off : Nat} {v : Value} (hc : w.cell? ⟨g, off, none⟩ = some v) (hv : off ≠ 0 ∨ ∀ a b c, v ≠ .slice a b c) (u : Value) : (w.setCell ⟨P, 0, none⟩ u).cell? ⟨g, off, none⟩ = some v := by
  rw [World.cell?_setCell_other _ _ _ _ ?_]
  · exact hc
  · intro e
    simp at e
    obtain ⟨rfl, rfl⟩ := e
    rcases hv with h | h
    · exact h rfl
    · rw [hP] at hc
      cases hc
      exact h _ _ _ rfl

/-- A store into a variable of its own that holds a list turns no chip. -/
theorem BlocksAt.setApart {w : World} {P : Nat} {x : Option Addr} {y z : Nat} (hP : w.cell? ⟨P, 0, none⟩ = some (.slice x y z)) {a : Option Addr} {bs : List Bk} (h : BlocksAt w a bs) (u : Value) : BlocksAt (w.setCell ⟨P, 0, none⟩ u) a bs := by
  intro i b hb
  obtain ⟨g, o, pa, pc, ha, h0, h1, h2⟩ := h i b hb
  refine ⟨g, o, pa, pc, ha, cell_apart hP h0 (.inr fun _ _ _ e => by cases e) u, cell_apart hP h1 (.inl (by omega)) u, fun j p hp => ?_⟩
  obtain ⟨q, r, hq, c0, c1, c2, c3⟩ := h2 j p hp
  exact ⟨q, r, hq, cell_apart hP c0 (.inr fun _ _ _ e => by cases e) u, cell_apart hP c1 (.inr fun _ _ _ e => by cases e) u, cell_apart hP c2 (.inr fun _ _ _ e => by cases e) u, cell_apart hP c3 (.inr fun _ _ _ e => by cases e) u⟩

/-- What the model's call has left: its answer in a variable, its code. -/
def MadeOut (wz : World) (bs : List Bk) (blk : Int) (p : Pg) (v8 v9 : Value) (wx : World) : Prop :=
  ∃ P8 a0 n0 c0 out code, v8 = .pointer (some ⟨P8, 0, none⟩) ∧ v9 = .int .i64 code ∧ wz.heap.size ≤ P8 ∧ P8 < wx.heap.size ∧ wx.cell? ⟨P8, 0, none⟩ = some (.slice a0 n0 c0) ∧ ProgIs bs blk p out code ∧ out.length = n0 ∧ BlocksAt wx a0 out ∧ Below wz.heap.size wz wx

theorem madeOut_new {wz w3 : World} {bs : List Bk} {blk : Int} {p : Pg} {a0 : Option Addr} {n0 c0 : Nat} {out : List Bk} {code : Int} (t : TypeId) (hZ : Below wz.heap.size wz w3) (hE : ProgIs bs blk p out code ∧ out.length = n0 ∧ BlocksAt w3 a0 out) :
    MadeOut wz bs blk p (.pointer (some ⟨w3.heap.size, 0, none⟩)) (.int .i64 code) (w3.alloc (.cells #[.slice a0 n0 c0] t)) :=
  ⟨w3.heap.size, a0, n0, c0, out, code, rfl, rfl, hZ.size, by simp, by simp, hE.1, hE.2.1, hE.2.2.below ((Below.refl _ _).alloc (Nat.le_refl _) _) (Nat.le_refl _), hZ.alloc hZ.size _⟩

theorem madeOut_set {wz w3 : World} {bs : List Bk} {blk : Int} {p : Pg} {a0 : Option Addr} {n0 c0 : Nat} {out : List Bk} {code : Int} {P : Nat} (hc : w3.cell? ⟨P, 0, none⟩ = some (.slice none 0 0)) (hP : wz.heap.size ≤ P) (hZ : Below wz.heap.size wz w3) (hE : ProgIs bs blk p out code ∧ out.length = n0 ∧ BlocksAt w3 a0 out) :
    MadeOut wz bs blk p (.pointer (some ⟨P, 0, none⟩)) (.int .i64 code) (w3.setCell ⟨P, 0, none⟩ (.slice a0 n0 c0)) :=
  ⟨P, a0, n0, c0, out, code, rfl, rfl, hP, by simpa using World.block_lt_of_cell? _ _ hc, World.cell?_setCell_same' _ _ _ (by rw [hc]; rfl), hE.1, hE.2.1, hE.2.2.setApart hc _, hZ.setCell hP _⟩

/-- What the program's call has left: its answer in a variable, its code; B, K: where the answer lies. -/
def MadeIn (wy : World) (bs : List Bk) (blk : Int) (p : Pg) (v11 v12 : Value) (wx : World) : Prop :=
  ∃ P11 a1 n1 c1 out code B K, v11 = .pointer (some ⟨P11, 0, none⟩) ∧ v12 = .int .i64 code ∧ wy.heap.size ≤ P11 ∧ P11 < wx.heap.size ∧ (P11 < B ∨ K ≤ P11) ∧ wy.heap.size ≤ B ∧ K ≤ wx.heap.size ∧ wx.cell? ⟨P11, 0, none⟩ = some (.slice a1 n1 c1) ∧ ProgIs bs blk p out code ∧ ChipOwn wx B K a1 n1 c1 out ∧ Below wy.heap.size wy wx

theorem madeIn_new {wy w5 w6 : World} {bs : List Bk} {blk : Int} {p : Pg} {a1 : Option Addr} {n1 c1 : Nat} {out : List Bk} {code : Int} (t : TypeId) (hZ : Below wy.heap.size wy w6) (h5 : wy.heap.size ≤ w5.heap.size) (hE : ProgIs bs blk p out code ∧ ChipOwn w6 w5.heap.size w6.heap.size a1 n1 c1 out) :
    MadeIn wy bs blk p (.pointer (some ⟨w6.heap.size, 0, none⟩)) (.int .i64 code) (w6.alloc (.cells #[.slice a1 n1 c1] t)) :=
  ⟨w6.heap.size, a1, n1, c1, out, code, w5.heap.size, w6.heap.size, rfl, rfl, hZ.size, by simp, .inr (Nat.le_refl _), h5, by simp, by simp, hE.1, hE.2.below ((Below.refl _ _).alloc (Nat.le_refl _) _), hZ.alloc hZ.size _⟩

theorem madeIn_set {wy w5 w6 : World} {bs : List Bk} {blk : Int} {p : Pg} {a1 : Option Addr} {n1 c1 : Nat} {out : List Bk} {code : Int} {P : Nat} (hc : w6.cell? ⟨P, 0, none⟩ = some (.slice none 0 0)) (hP : wy.heap.size ≤ P) (hP5 : P < w5.heap.size) (hZ : Below wy.heap.size wy w6) (h5 : wy.heap.size ≤ w5.heap.size) (hE : ProgIs bs blk p out code ∧ ChipOwn w6 w5.heap.size w6.heap.size a1 n1 c1 out) :
    MadeIn wy bs blk p (.pointer (some ⟨P, 0, none⟩)) (.int .i64 code) (w6.setCell ⟨P, 0, none⟩ (.slice a1 n1 c1)) :=
  ⟨P, a1, n1, c1, out, code, w5.heap.size, w6.heap.size, rfl, rfl, hP, by simpa using World.block_lt_of_cell? _ _ hc, .inl hP5, h5, by simp, World.cell?_setCell_same' _ _ _ (by rw [hc]; rfl), hE.1, hE.2.touch (Touch.setCell (S := fun x => x = P) (Touch.refl _ w6) (p := ⟨P, 0, none⟩) rfl _) (fun k hk => by subst hk; exact hP5), hZ.setCell hP _⟩
end Go.Proofs.Ytageolbmplhgaaa
