/- Blocks and pages that were put together by append: each list at the head of a row of its own. No program is named here. -/
import Derived.Test.YtaelbmilicfkhaaOwn
import Derived.Deep.AppendLies
namespace Go.Proofs.Ytaelbmilicfkhaa
open Go.RowKit
set_option linter.unusedVariables false

def pgCells (ps : List Pg) : List Value := ps.flatMap fun p => [.bool p.used, .int .i64 p.log, .int .i64 p.seq, .string p.data]
def bkCells (Q C : Nat → Nat) : Nat → List Bk → List Value
  | _, [] => []
  | i, b :: r => .int .i64 b.wear :: .slice (some ⟨Q i, 0, none⟩) b.pages.length (C i) :: bkCells Q C (i + 1) r

theorem pgCells_length (ps : List Pg) : (pgCells ps).length = ps.length * 4 := by
  induction ps with
  | nil => rfl
  | cons p ps ih => simp only [pgCells, List.flatMap_cons, List.length_append] at ih ⊢; simp [ih]; omega
theorem pgCells_at {ps : List Pg} : ∀ {i : Nat} {p : Pg}, ps[i]? = some p → ∀ j, j < 4 → (pgCells ps)[i * 4 + j]? = some (pgV p j) := by
  induction ps with
  | nil => intro i p h; simp at h
  | cons q ps ih =>
    intro i p h j hj
    have e : pgCells (q :: ps) = [.bool q.used, .int .i64 q.log, .int .i64 q.seq, .string q.data] ++ pgCells ps := rfl
    cases i with
    | zero =>
      simp at h; subst h
      rw [e, List.getElem?_append_left (by simp; omega)]
      have h4 : j = 0 ∨ j = 1 ∨ j = 2 ∨ j = 3 := by omega
      rcases h4 with rfl | rfl | rfl | rfl <;> rfl
    | succ i =>
      rw [e, List.getElem?_append_right (by simp; omega)]
      rw [show (i + 1) * 4 + j - [Value.bool q.used, .int .i64 q.log, .int .i64 q.seq, .string q.data].length = i * 4 + j by simp; omega]
      exact ih (by simpa using h) j hj
theorem bkCells_length (Q C : Nat → Nat) (bs : List Bk) : ∀ i, (bkCells Q C i bs).length = bs.length * 2 := by
  induction bs with
  | nil => intro i; rfl
  | cons b bs ih => intro i; simp only [bkCells, List.length_cons, ih]; omega
theorem bkCells_at (Q C : Nat → Nat) {bs : List Bk} : ∀ {i : Nat} {b : Bk} (s : Nat), bs[i]? = some b →
    (bkCells Q C s bs)[i * 2]? = some (.int .i64 b.wear) ∧ (bkCells Q C s bs)[i * 2 + 1]? = some (.slice (some ⟨Q (s + i), 0, none⟩) b.pages.length (C (s + i))) := by
  induction bs with
  | nil => intro i b s h; simp at h
  | cons c bs ih =>
    intro i b s h
    cases i with
    | zero => simp at h; subst h; simp [bkCells]
    | succ i =>
      have := ih (s + 1) (i := i) (b := b) (by simpa using h)
      rw [show s + 1 + i = s + (i + 1) by omega] at this
      simp only [bkCells]
      rw [show (i + 1) * 2 = i * 2 + 1 + 1 by omega]
      simpa using this
theorem bkCells_append (Q C : Nat → Nat) (l m : List Bk) : ∀ s, bkCells Q C s (l ++ m) = bkCells Q C s l ++ bkCells Q C (s + l.length) m := by
  induction l with
  | nil => intro s; simp [bkCells]
  | cons b l ih => intro s; simp only [List.cons_append, bkCells, ih, List.length_cons]; rw [show s + 1 + l.length = s + (l.length + 1) by omega]
theorem bkCells_congr {Q C Q' C' : Nat → Nat} (l : List Bk) : ∀ s, (∀ i, s ≤ i → i < s + l.length → Q i = Q' i ∧ C i = C' i) → bkCells Q C s l = bkCells Q' C' s l := by
  induction l with
  | nil => intro s _; rfl
  | cons b l ih =>
    intro s h
    have h0 := h s (Nat.le_refl _) (by simp)
    simp only [bkCells, h0.1, h0.2]
    rw [ih (s + 1) (fun i h1 h2 => h i (by omega) (by simp; omega))]

/-- The cells of a row that is owned. -/
theorem ownsRow_cell {w : World} {base : Nat} {e : TypeId} {size : Nat} {g n cap : Nat} {xs : List Value} (h : w.ownsRow base e size (.slice (some ⟨g, 0, none⟩) n cap) n xs) {j : Nat} {u : Value} (hj : xs[j]? = some u) : w.cell? ⟨g, j, none⟩ = some u := by
  have := h.cells (g := g) rfl j u hj
  have hadd : (⟨g, 0, none⟩ : Addr).add j = ⟨g, j, none⟩ := by unfold Addr.add; split <;> simp_all
  rwa [hadd] at this
theorem ownsRow_frozen {w : World} {base : Nat} {e : TypeId} {size : Nat} {g n cap : Nat} {xs : List Value} (h : w.ownsRow base e size (.slice (some ⟨g, 0, none⟩) n cap) n xs) (j : Nat) : w.frozen? ⟨g, j, none⟩ = false := by
  rcases h.2 with ⟨h0, _⟩ | ⟨g', c', cur, hv, _, hh, _⟩
  · cases h0
  · simp at hv
    obtain ⟨rfl, rfl⟩ := hv
    simp [World.frozen?, hh]
theorem ownsRow_pagesAt {w : World} {base : Nat} {e : TypeId} {g n cap : Nat} {ps : List Pg} (h : w.ownsRow base e 4 (.slice (some ⟨g, 0, none⟩) n cap) n (pgCells ps)) : PagesAt w (some ⟨g, 0, none⟩) ps := by
  intro i p hp
  refine ⟨g, 0, rfl, ?_, ?_, ?_, ?_⟩
  · rw [show 0 + i * 4 = i * 4 + 0 by omega]; exact ownsRow_cell h (pgCells_at hp 0 (by omega))
  · rw [show 0 + i * 4 + 1 = i * 4 + 1 by omega]; exact ownsRow_cell h (pgCells_at hp 1 (by omega))
  · rw [show 0 + i * 4 + 2 = i * 4 + 2 by omega]; exact ownsRow_cell h (pgCells_at hp 2 (by omega))
  · rw [show 0 + i * 4 + 3 = i * 4 + 3 by omega]; exact ownsRow_cell h (pgCells_at hp 3 (by omega))

/-- Blocks put together by append: v their slice, the pages of the i-th in row Q i, with room for C i. -/
structure SpecBlocks (w : World) (tB tP : TypeId) (base : Nat) (v : Value) (Q C : Nat → Nat) (bs : List Bk) : Prop where
  row : w.ownsRow base tB 2 v bs.length (bkCells Q C 0 bs)
  pages : ∀ i b, bs[i]? = some b → w.ownsRow base tP 4 (.slice (some ⟨Q i, 0, none⟩) b.pages.length (C i)) b.pages.length (pgCells b.pages)
  ne : ∀ i, i < bs.length → v.ownBlock ≠ some (Q i)
  inj : ∀ i j, i < bs.length → j < bs.length → i ≠ j → Q i ≠ Q j

theorem SpecBlocks.nil (w : World) (tB tP : TypeId) (base : Nat) (Q C : Nat → Nat) : SpecBlocks w tB tP base (.slice none 0 0) Q C [] :=
  ⟨World.ownsRow_nil _ _ _ _, fun i b h => by simp at h, fun i h => absurd h (Nat.not_lt_zero _), fun i j h => absurd h (Nat.not_lt_zero _)⟩

theorem SpecBlocks.Qlt {w : World} {tB tP : TypeId} {base : Nat} {v : Value} {Q C : Nat → Nat} {bs : List Bk} (h : SpecBlocks w tB tP base v Q C bs) {i : Nat} (hi : i < bs.length) : base ≤ Q i ∧ Q i < w.heap.size := by
  obtain ⟨b, hb⟩ := getElem?_ex hi
  exact (h.pages i b hb).lt (Q i) rfl

theorem SpecBlocks.form {w : World} {tB tP : TypeId} {base : Nat} {v : Value} {Q C : Nat → Nat} {bs : List Bk} (h : SpecBlocks w tB tP base v Q C bs) : ∃ a c, v = .slice a bs.length c ∧ BlocksAt w a bs := by
  rcases h.row.2 with ⟨hv, h0⟩ | ⟨g, cap, cur, hv, _⟩
  · exact ⟨none, 0, by rw [hv, h0], fun i b hb => by have := (List.getElem?_eq_some_iff.1 hb).1; omega⟩
  · subst hv
    refine ⟨_, _, rfl, fun i b hb => ?_⟩
    have hc := bkCells_at Q C 0 hb
    refine ⟨g, 0, some ⟨Q i, 0, none⟩, C i, rfl, ?_, ?_, ownsRow_pagesAt (h.pages i b hb)⟩
    · rw [show 0 + i * 2 = i * 2 by omega]; exact ownsRow_cell h.row hc.1
    · rw [show 0 + i * 2 + 1 = i * 2 + 1 by omega]
      have := ownsRow_cell h.row hc.2
      rwa [Nat.zero_add] at this

theorem SpecBlocks.kept {w w' : World} {tB tP : TypeId} {base : Nat} {v : Value} {Q C : Nat → Nat} {bs : List Bk} (h : SpecBlocks w tB tP base v Q C bs) (hb : Below w.heap.size w w') : SpecBlocks w' tB tP base v Q C bs := by
  have hg : w.grownBy w' none := ⟨hb.os, hb.tape, hb.output, hb.size, fun k hk _ => hb.block k hk⟩
  refine ⟨h.row.kept hg ?_, fun i b hi => (h.pages i b hi).kept hg (Or.inr (by simp [Value.ownBlock])), h.ne, h.inj⟩
  cases hv : v.ownBlock with
  | none => exact Or.inl rfl
  | some k => exact Or.inr (by simp)

/-- One block more, by append. W: the world ahead of the append, in which the new block's pages lie already. -/
theorem SpecBlocks.push {w W w1 : World} {tB tP : TypeId} {base : Nat} {v : Value} {Q C : Nat → Nat} {bs : List Bk} {b : Bk} {q c g cap : Nat} (h : SpecBlocks w tB tP base v Q C bs) (hW : Below w.heap.size w W)
    (hq : W.ownsRow base tP 4 (.slice (some ⟨q, 0, none⟩) b.pages.length c) b.pages.length (pgCells b.pages)) (hq0 : w.heap.size ≤ q)
    (hown : w1.ownsRow base tB 2 (.slice (some ⟨g, 0, none⟩) (bs.length + 1) cap) (bs.length + 1) (bkCells Q C 0 bs ++ [.int .i64 b.wear, .slice (some ⟨q, 0, none⟩) b.pages.length c]))
    (hgrow : W.grownBy w1 v.ownBlock) (hat : v.ownBlock = some g ∨ g = W.heap.size) :
    SpecBlocks w1 tB tP base (.slice (some ⟨g, 0, none⟩) (bs.length + 1) cap) (fun i => if i = bs.length then q else Q i) (fun i => if i = bs.length then c else C i) (bs ++ [b]) := by
  have hWs := h.kept hW
  have hqlt := (hq.lt q rfl).2
  have hvq : v.ownBlock ≠ some q := by
    intro e
    have := (h.row.lt q e).2
    omega
  have hcells : bkCells (fun i => if i = bs.length then q else Q i) (fun i => if i = bs.length then c else C i) 0 (bs ++ [b]) = bkCells Q C 0 bs ++ [.int .i64 b.wear, .slice (some ⟨q, 0, none⟩) b.pages.length c] := by
    rw [bkCells_append, bkCells_congr bs 0 (Q' := Q) (C' := C) (fun i _ hi => by
      have : ¬ i = bs.length := by omega
      simp [this])]
    simp [bkCells]
  have hgq : ∀ i, i < bs.length → g ≠ Q i := fun i hi => by
    rcases hat with e | e
    · intro x; exact h.ne i hi (by rw [e, x])
    · have := (hWs.Qlt hi).2; omega
  refine ⟨?_, ?_, ?_, ?_⟩
  · rw [hcells]; simpa using hown
  · intro i d hd
    by_cases e : i = bs.length
    · subst e
      simp at hd
      subst hd
      simp only [if_true]
      exact hq.kept hgrow (Or.inr (by simpa [Value.ownBlock] using fun x => hvq x.symm))
    · have hi : i < bs.length := by
        have := (List.getElem?_eq_some_iff.1 hd).1
        simp at this; omega
      rw [List.getElem?_append_left hi] at hd
      simp only [if_neg e]
      exact (hWs.pages i d hd).kept hgrow (Or.inr (by simpa [Value.ownBlock] using fun x => h.ne i hi x.symm))
  · intro i hi
    by_cases e : i = bs.length
    · simp only [if_pos e, Value.ownBlock]
      intro x
      simp at x
      rcases hat with e' | e'
      · exact hvq (by rw [e', x])
      · omega
    · simp only [if_neg e, Value.ownBlock]
      intro x
      simp at x hi
      exact hgq i (by omega) x
  · intro i j hi hj hij
    simp at hi hj
    by_cases ei : i = bs.length
    · have ej : ¬ j = bs.length := by omega
      simp only [if_pos ei, if_neg ej]
      have := (h.Qlt (i := j) (by omega)).2
      omega
    · by_cases ej : j = bs.length
      · simp only [if_neg ei, if_pos ej]
        have := (h.Qlt (i := i) (by omega)).2
        omega
      · simp only [if_neg ei, if_neg ej]
        exact h.inj i j (by omega) (by omega) hij

/-- A store below all of it. -/
theorem SpecBlocks.setLow {w : World} {tB tP : TypeId} {base : Nat} {v : Value} {Q C : Nat → Nat} {bs : List Bk} (h : SpecBlocks w tB tP base v Q C bs) {a : Addr} (ha : a.block < base) (u : Value) : SpecBlocks (w.setCell a u) tB tP base v Q C bs :=
  ⟨ownsRow_setCell_below h.row ha u, fun i b hb => ownsRow_setCell_below (h.pages i b hb) ha u, h.ne, h.inj⟩

def zeroBk : Bk := ⟨0, [zeroPg, zeroPg, zeroPg, zeroPg]⟩

theorem newPages (w : World) (base : Nat) (tP : TypeId) (hb : base ≤ w.heap.size) : (w.alloc (.cells (madeCells #[.bool false, .int .i64 0, .int .i64 0, .string ByteArray.empty] 16) tP)).ownsRow base tP 4 (.slice (some ⟨w.heap.size, 0, none⟩) 4 4) 4 (pgCells zeroBk.pages) :=
  ⟨rfl, Or.inr ⟨w.heap.size, 4, _, rfl, hb, Go.Deep.blk_alloc_new _ _, Nat.le_refl _, by unfold maxLen; omega, size_madeCells _ _, by simp [madeCells, pgCells, zeroBk, zeroPg, List.range, List.range.loop]⟩⟩

/-- One new block more, by append. -/
theorem newStep {w w1 : World} {tB tP : TypeId} {base k g cap : Nat} {v : Value} {Q C : Nat → Nat} {o : Obj} (h : SpecBlocks w tB tP base v Q C (List.replicate k zeroBk)) (hb : base ≤ w.heap.size)
    (hown : w1.ownsRow base tB 2 (.slice (some ⟨g, 0, none⟩) (k + 1) cap) (k + 1) (bkCells Q C 0 (List.replicate k zeroBk) ++ [.int .i64 0, .slice (some ⟨w.heap.size, 0, none⟩) 4 4]))
    (hgrow : ((w.alloc (.cells (madeCells #[.bool false, .int .i64 0, .int .i64 0, .string ByteArray.empty] 16) tP)).alloc o).drew.grownBy w1 v.ownBlock) (hat : v.ownBlock = some g ∨ g = w.heap.size + 1 + 1) :
    ∃ Q' C', SpecBlocks w1 tB tP base (.slice (some ⟨g, 0, none⟩) (k + 1) cap) Q' C' (List.replicate (k + 1) zeroBk) := by
  have hl : (List.replicate k zeroBk).length = k := by simp
  have hp := (newPages w base tP hb).alloc o
  have hW : Below w.heap.size w ((w.alloc (.cells (madeCells #[.bool false, .int .i64 0, .int .i64 0, .string ByteArray.empty] 16) tP)).alloc o).drew := (((Below.refl _ w).alloc (Nat.le_refl _) _).alloc (by simp) _).drew
  have := h.push (b := zeroBk) (q := w.heap.size) (c := 4) (g := g) (cap := cap) (w1 := w1) hW hp (Nat.le_refl _) (by rw [hl]; exact hown) hgrow (by
    rcases hat with e | e
    · exact Or.inl e
    · exact Or.inr (by simpa using e))
  rw [hl, ← List.replicate_succ'] at this
  exact ⟨_, _, this⟩

end Go.Proofs.Ytaelbmilicfkhaa
