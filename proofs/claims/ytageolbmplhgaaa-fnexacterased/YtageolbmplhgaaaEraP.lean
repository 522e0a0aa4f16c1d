/- The model's Erased. -/
import Derived.Test.YtageolbmplhgaaaEraC

import Derived.WalkKit
import Derived.Outline
namespace Go.Proofs.Ytageolbmplhgaaa
open Go.RowKit
set_option linter.unusedVariables false
set_option linter.unusedSimpArgs false

theorem PagesAt.of_block {w w' : World} {q : Nat} {ps : List Pg} (h : PagesAt w (some ⟨q, 0, none⟩) ps) (e : w'.heap[q]? = w.heap[q]?) : PagesAt w' (some ⟨q, 0, none⟩) ps := by
  intro i p hp
  obtain ⟨b, o, ha, h0, h1, h2, h3⟩ := h i p hp
  cases ha
  exact ⟨q, 0, rfl, (World.cell?_of_block (w := w) (a := ⟨q, 0 + i * 4, none⟩) e).trans h0, (World.cell?_of_block (w := w) (a := ⟨q, 0 + i * 4 + 1, none⟩) e).trans h1, (World.cell?_of_block (w := w) (a := ⟨q, 0 + i * 4 + 2, none⟩) e).trans h2, (World.cell?_of_block (w := w) (a := ⟨q, 0 + i * 4 + 3, none⟩) e).trans h3⟩

theorem zeroPagesAt (w : World) (tP : TypeId) : PagesAt (w.alloc (.cells (madeCells #[.bool false, .int .i64 0, .int .i64 0, .string ByteArray.empty] 16) tP)) (some ⟨w.heap.size, 0, none⟩) zeroBk.pages :=
  ownsRow_pagesAt (newPages w w.heap.size tP (Nat.le_refl _))

/-- A block is put in another's place, with pages that are new; W: whatever came behind it. -/
theorem SpecBlocks.setBlk2 {w W : World} {tB tP : TypeId} {base gB n c : Nat} {Q C : Nat → Nat} {bs : List Bk} (h : SpecBlocks w tB tP base (.slice (some ⟨gB, 0, none⟩) n c) Q C bs) {k : Nat} (hk : k < bs.length) (x : Int) (q : Nat)
    (hB : ∀ b, base ≤ b → b < w.heap.size → W.heap[b]? = ((w.setCell ⟨gB, k * 2, none⟩ (.int .i64 x)).setCell ⟨gB, k * 2 + 1, none⟩ (.slice (some ⟨q, 0, none⟩) 4 4)).heap[b]?) (hP : PagesAt W (some ⟨q, 0, none⟩) zeroBk.pages) :
    BlocksAt W (some ⟨gB, 0, none⟩) (bs.set k ⟨x, zeroBk.pages⟩) := by
  have hgB : gB < w.heap.size := (h.row.lt gB rfl).2
  have hgb : base ≤ gB := (h.row.lt gB rfl).1
  have hBc : ∀ j, W.cell? ⟨gB, j, none⟩ = ((w.setCell ⟨gB, k * 2, none⟩ (.int .i64 x)).setCell ⟨gB, k * 2 + 1, none⟩ (.slice (some ⟨q, 0, none⟩) 4 4)).cell? ⟨gB, j, none⟩ := fun j => World.cell?_of_block (a := ⟨gB, j, none⟩) (hB gB hgb hgB)
  have hlen : n = bs.length := by
    rcases h.row.2 with ⟨hv, _⟩ | ⟨g, cap, cur, hv, _⟩
    · cases hv
    · simp at hv; omega
  subst hlen
  have hcell : ∀ j u, (bkCells Q C 0 bs)[j]? = some u → w.cell? ⟨gB, j, none⟩ = some u := fun j u hu => ownsRow_cell h.row hu
  intro i b hb
  by_cases e : i = k
  · subst e
    rw [List.getElem?_set_self hk] at hb
    cases hb
    obtain ⟨b0, hb0⟩ := getElem?_ex hk
    have hc := bkCells_at Q C 0 hb0
    have c0 := hcell _ _ hc.1
    have c1 := hcell _ _ hc.2
    refine ⟨gB, 0, some ⟨q, 0, none⟩, 4, rfl, ?_, ?_, hP⟩
    · rw [Nat.zero_add, hBc, World.cell?_setCell_other _ _ _ _ (by simp), World.cell?_setCell_same' _ _ _ (by rw [c0]; rfl)]
    · rw [Nat.zero_add, hBc, World.cell?_setCell_same' _ _ _ (by rw [World.cell?_setCell_other _ _ _ _ (by simp), c1]; rfl)]
      rfl
  · rw [List.getElem?_set_ne (fun x => e x.symm)] at hb
    have hi := (List.getElem?_eq_some_iff.1 hb).1
    have hc := bkCells_at Q C 0 hb
    have hQ := h.Qlt hi
    have hQg : Q i ≠ gB := fun x => h.ne i hi (by rw [x]; rfl)
    refine ⟨gB, 0, some ⟨Q i, 0, none⟩, C i, rfl, ?_, ?_, ?_⟩
    · rw [Nat.zero_add, hBc, World.cell?_setCell_other _ _ _ _ (by simp <;> omega), World.cell?_setCell_other _ _ _ _ (by simp <;> omega)]
      exact hcell _ _ hc.1
    · rw [Nat.zero_add, hBc, World.cell?_setCell_other _ _ _ _ (by simp <;> omega), World.cell?_setCell_other _ _ _ _ (by simp <;> omega)]
      have := hcell _ _ hc.2
      rwa [Nat.zero_add] at this
    · exact (ownsRow_pagesAt (h.pages i b hb)).of_block ((hB _ hQ.1 hQ.2).trans ((Go.Deep.blk_setCell_other _ _ _ _ hQg).trans (Go.Deep.blk_setCell_other _ _ _ _ hQg)))

end Go.Proofs.Ytageolbmplhgaaa
