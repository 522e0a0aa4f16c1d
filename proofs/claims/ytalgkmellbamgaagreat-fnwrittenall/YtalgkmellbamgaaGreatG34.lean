/- 2 texts in one. -/
import Derived.Test.YtalgkmellbamgaaGreatG18
import Derived.Test.YtalgkmellbamgaaGreatG19

/- Many writes, one by one: in plain lists. No program is named here. -/
namespace Go.Proofs.YtalgkmellbamgaaGreat
open Go.RowKit
set_option linter.unusedVariables false
set_option linter.unusedSimpArgs false

/-- A member, in plain lists. -/
structure Mb where
  bs : List Bk
  L : List Int
  seq : Int
  o : Int
def Mb.Ok (m : Mb) : Prop := FtlOk m.bs m.L m.seq m.o
def Mb.zero : Mb := ⟨[], [], 0, 0⟩
def WrM (m : Mb) (x : Int × ByteArray) (m' : Mb) (code : Int) : Prop := WrittenIs m.bs m.L m.seq m.o x.1 x.2 m'.bs m'.L m'.seq m'.o code
theorem WrM.one {m : Mb} {x : Int × ByteArray} {m1 m2 : Mb} {c1 c2 : Int} (h : WrM m x m1 c1) (k : WrM m x m2 c2) : m1 = m2 ∧ c1 = c2 := by
  obtain ⟨e1, e2, e3, e4, e5⟩ := WrittenIs.one h k
  obtain ⟨b1, l1, s1, o1⟩ := m1
  obtain ⟨b2, l2, s2, o2⟩ := m2
  simp only at e1 e2 e3 e4
  subst e1 e2 e3 e4
  exact ⟨rfl, e5⟩
/-- Writes that are all taken. -/
def Steps : List (Int × ByteArray) → Mb → Mb → Prop
  | [], m, m' => m' = m
  | x :: xs, m, m' => ∃ mid, WrM m x mid 0 ∧ Steps xs mid m'
theorem Steps.one : ∀ {xs : List (Int × ByteArray)} {m m1 m2 : Mb}, Steps xs m m1 → Steps xs m m2 → m1 = m2 := by
  intro xs
  induction xs with
  | nil => intro m m1 m2 h k; exact h.trans k.symm
  | cons x xs ih =>
    rintro m m1 m2 ⟨a, h1, h2⟩ ⟨b, k1, k2⟩
    obtain ⟨rfl, _⟩ := h1.one k1
    exact ih h2 k2
theorem steps_append : ∀ {xs ys : List (Int × ByteArray)} {m m' : Mb}, Steps (xs ++ ys) m m' ↔ ∃ mid, Steps xs m mid ∧ Steps ys mid m' := by
  intro xs
  induction xs with
  | nil =>
    intro ys m m'
    exact ⟨fun h => ⟨m, rfl, h⟩, fun ⟨mid, h1, h2⟩ => by cases h1; exact h2⟩
  | cons x xs ih =>
    intro ys m m'
    constructor
    · rintro ⟨a, h1, h2⟩
      obtain ⟨mid, k1, k2⟩ := ih.1 h2
      exact ⟨mid, ⟨a, h1, k1⟩, k2⟩
    · rintro ⟨mid, ⟨a, h1, k1⟩, k2⟩
      exact ⟨a, h1, ih.2 ⟨mid, k1, k2⟩⟩
theorem steps_snoc {xs : List (Int × ByteArray)} {k : Nat} {x : Int × ByteArray} (hx : xs[k]? = some x) {m mid m' : Mb} (h : Steps (xs.take k) m mid) (hw : WrM mid x m' 0) : Steps (xs.take (k + 1)) m m' := by
  obtain ⟨hk, rfl⟩ := List.getElem?_eq_some_iff.1 hx
  rw [List.take_succ_eq_append_getElem hk]
  exact steps_append.2 ⟨mid, h, m', hw, rfl⟩
theorem Steps.at : ∀ {xs : List (Int × ByteArray)} {m m' : Mb} {k : Nat} {x : Int × ByteArray}, Steps xs m m' → xs[k]? = some x → ∃ a b, Steps (xs.take k) m a ∧ WrM a x b 0 := by
  intro xs m m' k x h hx
  obtain ⟨hk, rfl⟩ := List.getElem?_eq_some_iff.1 hx
  have e : xs = xs.take k ++ (xs[k] :: xs.drop (k + 1)) := by simp
  rw [e] at h
  obtain ⟨mid, h1, b, h2, _⟩ := steps_append.1 h
  exact ⟨mid, b, h1, h2⟩
/-- A write that is not taken, behind others that are. -/
def Stops (xs : List (Int × ByteArray)) (m : Mb) (code : Int) : Prop := code ≠ 0 ∧ ∃ k x mid m', xs[k]? = some x ∧ Steps (xs.take k) m mid ∧ WrM mid x m' code
theorem Stops.not {xs : List (Int × ByteArray)} {m m' : Mb} {code : Int} (h : Stops xs m code) (k : Steps xs m m') : False := by
  obtain ⟨h0, i, x, mid, m2, hx, h1, h2⟩ := h
  obtain ⟨a, b, k1, k2⟩ := k.at hx
  obtain rfl := h1.one k1
  exact h0 (h2.one k2).2
theorem Stops.one {xs : List (Int × ByteArray)} {m : Mb} {c1 c2 : Int} (h : Stops xs m c1) (k : Stops xs m c2) : c1 = c2 := by
  obtain ⟨h0, i, x, mid, m2, hx, h1, h2⟩ := h
  obtain ⟨k0, j, y, mid', m3, hy, k1, k2⟩ := k
  rcases Nat.lt_trichotomy i j with hlt | rfl | hlt
  · exfalso
    obtain ⟨a, b, q1, q2⟩ := k1.at (k := i) (x := x) (by rw [List.getElem?_take, if_pos hlt]; exact hx)
    rw [List.take_take, Nat.min_eq_left (by omega)] at q1
    obtain rfl := h1.one q1
    exact h0 (h2.one q2).2
  · rw [hx] at hy
    cases hy
    obtain rfl := h1.one k1
    exact (h2.one k2).2
  · exfalso
    obtain ⟨a, b, q1, q2⟩ := h1.at (k := j) (x := y) (by rw [List.getElem?_take, if_pos hlt]; exact hy)
    rw [List.take_take, Nat.min_eq_left (by omega)] at q1
    obtain rfl := k1.one q1
    exact k0 (k2.one q2).2
/-- May these be written together? -/
def manyOk (lgs : List Int) (ds : List ByteArray) : Prop := lgs.length = ds.length ∧ lgs.length ≤ 100
/-- What WrittenAll answers. -/
def WAllIs (m : Mb) (lgs : List Int) (ds : List ByteArray) (m' : Mb) (code : Int) : Prop :=
  (¬ m.Ok ∧ m' = Mb.zero ∧ code = 1) ∨ (m.Ok ∧ ¬ manyOk lgs ds ∧ m' = m ∧ code = 2) ∨ (m.Ok ∧ manyOk lgs ds ∧ m' = m ∧ Stops (lgs.zip ds) m code) ∨ (m.Ok ∧ manyOk lgs ds ∧ Steps (lgs.zip ds) m m' ∧ code = 0)
theorem WAllIs.one {m : Mb} {lgs : List Int} {ds : List ByteArray} {m1 m2 : Mb} {c1 c2 : Int} (h : WAllIs m lgs ds m1 c1) (k : WAllIs m lgs ds m2 c2) : m1 = m2 ∧ c1 = c2 := by
  rcases h with ⟨h0, rfl, rfl⟩ | ⟨h0, h1, rfl, rfl⟩ | ⟨h0, h1, rfl, h2⟩ | ⟨h0, h1, h2, rfl⟩
  · rcases k with ⟨_, rfl, rfl⟩ | ⟨k0, _⟩ | ⟨k0, _⟩ | ⟨k0, _⟩
    · exact ⟨rfl, rfl⟩
    · exact absurd k0 h0
    · exact absurd k0 h0
    · exact absurd k0 h0
  · rcases k with ⟨k0, _⟩ | ⟨_, _, rfl, rfl⟩ | ⟨_, k1, _⟩ | ⟨_, k1, _⟩
    · exact absurd h0 k0
    · exact ⟨rfl, rfl⟩
    · exact absurd k1 h1
    · exact absurd k1 h1
  · rcases k with ⟨k0, _⟩ | ⟨_, k1, _⟩ | ⟨_, _, rfl, k2⟩ | ⟨_, _, k2, _⟩
    · exact absurd h0 k0
    · exact absurd h1 k1
    · exact ⟨rfl, h2.one k2⟩
    · exact (h2.not k2).elim
  · rcases k with ⟨k0, _⟩ | ⟨_, k1, _⟩ | ⟨_, _, _, k2⟩ | ⟨_, _, k2, rfl⟩
    · exact absurd h0 k0
    · exact absurd h1 k1
    · exact (k2.not h2).elim
    · exact ⟨h2.one k2, rfl⟩
/-- Of what is written no list is long. -/
def Mb.Short (m : Mb) : Prop := Lens 1048576 m.bs ∧ m.bs.length ≤ 12 ∧ m.L.length ≤ 36
theorem Mb.Ok.short {m : Mb} (h : m.Ok) : m.Short := ⟨lens_of_ok h.chip, h.chip.count.2, h.len36⟩
theorem WrM.short {m : Mb} {x : Int × ByteArray} {m' : Mb} {code : Int} (h : WrM m x m' code) : m'.Short := WrittenIs.short h
theorem Steps.short : ∀ {xs : List (Int × ByteArray)} {m m' : Mb}, Steps xs m m' → m.Short → m'.Short := by
  intro xs
  induction xs with
  | nil => intro m m' h k; cases h; exact k
  | cons x xs ih =>
    rintro m m' ⟨a, h1, h2⟩ _
    exact ih h2 h1.short
theorem Mb.short_zero : Mb.zero.Short := ⟨⟨by simp [Mb.zero], fun b hb => by simp [Mb.zero] at hb⟩, by simp [Mb.zero], by simp [Mb.zero]⟩
theorem WAllIs.short {m : Mb} {lgs : List Int} {ds : List ByteArray} {m' : Mb} {code : Int} (h : WAllIs m lgs ds m' code) : m'.Short := by
  rcases h with ⟨_, rfl, _⟩ | ⟨h0, _, rfl, _⟩ | ⟨h0, _, rfl, _⟩ | ⟨h0, _, h2, _⟩
  · exact Mb.short_zero
  · exact h0.short
  · exact h0.short
  · exact h2.short h0.short
end Go.Proofs.YtalgkmellbamgaaGreat

/- A variable that holds a member: what a store into it turns. No program is named here. -/
namespace Go.Proofs.YtalgkmellbamgaaGreat
open Go.RowKit
set_option linter.unusedVariables false
set_option linter.unusedSimpArgs false

/-- The variable at P holds a member. -/
def BoxAt (w : World) (P : Nat) (a : Option Addr) (n c : Nat) (ma : Option Addr) (mn mc : Nat) (seq o : Int) : Prop :=
  (∀ i, w.cell? ⟨P, i, none⟩ = (#[Value.slice a n c, .slice ma mn mc, .int .i64 seq, .int .i64 o])[i]?) ∧ ∀ i, w.frozen? ⟨P, i, none⟩ = false
theorem BoxAt.cells {w : World} {P : Nat} {a : Option Addr} {n c : Nat} {ma : Option Addr} {mn mc : Nat} {seq o : Int} (h : BoxAt w P a n c ma mn mc seq o) :
    w.cell? ⟨P, 0, none⟩ = some (.slice a n c) ∧ w.cell? ⟨P, 1, none⟩ = some (.slice ma mn mc) ∧ w.cell? ⟨P, 2, none⟩ = some (.int .i64 seq) ∧ w.cell? ⟨P, 3, none⟩ = some (.int .i64 o) := by
  have h0 := h.1 0
  have h1 := h.1 1
  have h2 := h.1 2
  have h3 := h.1 3
  simp at h0 h1 h2 h3
  exact ⟨h0, h1, h2, h3⟩
theorem BoxAt.free {w : World} {P : Nat} {a : Option Addr} {n c : Nat} {ma : Option Addr} {mn mc : Nat} {seq o : Int} (h : BoxAt w P a n c ma mn mc seq o) :
    w.frozen? ⟨P, 0, none⟩ = false ∧ w.frozen? ⟨P, 1, none⟩ = false ∧ w.frozen? ⟨P, 2, none⟩ = false ∧ w.frozen? ⟨P, 3, none⟩ = false := ⟨h.2 0, h.2 1, h.2 2, h.2 3⟩
theorem BoxAt.lt {w : World} {P : Nat} {a : Option Addr} {n c : Nat} {ma : Option Addr} {mn mc : Nat} {seq o : Int} (h : BoxAt w P a n c ma mn mc seq o) : P < w.heap.size := by
  have := h.cells.1
  exact World.block_lt_of_cell? _ _ this
theorem BoxAt.of_block {w w' : World} {P : Nat} {a : Option Addr} {n c : Nat} {ma : Option Addr} {mn mc : Nat} {seq o : Int} (h : BoxAt w P a n c ma mn mc seq o) (e : w'.heap[P]? = w.heap[P]?) : BoxAt w' P a n c ma mn mc seq o :=
  ⟨fun i => (World.cell?_of_block (w := w) (a := ⟨P, i, none⟩) e).trans (h.1 i), fun i => (by simp only [World.frozen?, e] : w'.frozen? ⟨P, i, none⟩ = w.frozen? ⟨P, i, none⟩).trans (h.2 i)⟩
theorem BoxAt.below {w w' : World} {P : Nat} {a : Option Addr} {n c : Nat} {ma : Option Addr} {mn mc : Nat} {seq o : Int} (h : BoxAt w P a n c ma mn mc seq o) {B : Nat} (hb : Below B w w') (hB : P < B) : BoxAt w' P a n c ma mn mc seq o := h.of_block (hb.block P hB)
theorem BoxAt.touch {S : Nat → Prop} {w w' : World} {P : Nat} {a : Option Addr} {n c : Nat} {ma : Option Addr} {mn mc : Nat} {seq o : Int} (h : BoxAt w P a n c ma mn mc seq o) (hT : Touch S w w') (hS : ¬ S P) : BoxAt w' P a n c ma mn mc seq o := h.of_block (hT.block P h.lt hS)
theorem BoxAt.of_row {w : World} {P : Nat} {t : TypeId} {a : Option Addr} {n c : Nat} {ma : Option Addr} {mn mc : Nat} {seq o : Int} (h : w.heap[P]? = some (.cells #[Value.slice a n c, .slice ma mn mc, .int .i64 seq, .int .i64 o] t (0, 0))) : BoxAt w P a n c ma mn mc seq o :=
  ⟨fun i => cell_of_row _ _ i _ _ _ h, fun i => frozen_of_row _ _ i _ _ h⟩
theorem BoxAt.alloc (w : World) (t : TypeId) (a : Option Addr) (n c : Nat) (ma : Option Addr) (mn mc : Nat) (seq o : Int) : BoxAt (w.alloc (.cells #[Value.slice a n c, .slice ma mn mc, .int .i64 seq, .int .i64 o] t)) w.heap.size a n c ma mn mc seq o := .of_row (World.alloc_heap_new _ _)
/-- Four stores into it. -/
def set4B (w : World) (P : Nat) (v0 v1 v2 v3 : Value) : World := (((w.setCell ⟨P, 0, none⟩ v0).setCell ⟨P, 1, none⟩ v1).setCell ⟨P, 2, none⟩ v2).setCell ⟨P, 3, none⟩ v3
theorem BoxAt.store {w : World} {P : Nat} {a : Option Addr} {n c : Nat} {ma : Option Addr} {mn mc : Nat} {seq o : Int} (h : BoxAt w P a n c ma mn mc seq o) (a' : Option Addr) (n' c' : Nat) (ma' : Option Addr) (mn' mc' : Nat) (seq' o' : Int) :
    BoxAt (set4B w P (.slice a' n' c') (.slice ma' mn' mc') (.int .i64 seq') (.int .i64 o')) P a' n' c' ma' mn' mc' seq' o' := by
  obtain ⟨z0, z1, z2, z3⟩ := h.cells
  unfold set4B
  refine ⟨fun i => ?_, fun i => by simpa using h.2 i⟩
  match i with
  | 0 =>
    rw [World.cell?_setCell_other _ _ _ _ (by simp), World.cell?_setCell_other _ _ _ _ (by simp), World.cell?_setCell_other _ _ _ _ (by simp), World.cell?_setCell_same' _ _ _ (by rw [z0]; rfl)]
    rfl
  | 1 =>
    rw [World.cell?_setCell_other _ _ _ _ (by simp), World.cell?_setCell_other _ _ _ _ (by simp), World.cell?_setCell_same' _ _ _ (by rw [World.cell?_setCell_other _ _ _ _ (by simp), z1]; rfl)]
    rfl
  | 2 =>
    rw [World.cell?_setCell_other _ _ _ _ (by simp), World.cell?_setCell_same' _ _ _ (by rw [World.cell?_setCell_other _ _ _ _ (by simp), World.cell?_setCell_other _ _ _ _ (by simp), z2]; rfl)]
    rfl
  | 3 =>
    rw [World.cell?_setCell_same' _ _ _ (by rw [World.cell?_setCell_other _ _ _ _ (by simp), World.cell?_setCell_other _ _ _ _ (by simp), World.cell?_setCell_other _ _ _ _ (by simp), z3]; rfl)]
    rfl
  | i + 4 =>
    rw [World.cell?_setCell_other _ _ _ _ (by simp), World.cell?_setCell_other _ _ _ _ (by simp), World.cell?_setCell_other _ _ _ _ (by simp), World.cell?_setCell_other _ _ _ _ (by simp), h.1 (i + 4)]
    simp
theorem set4B_block (w : World) (P : Nat) (v0 v1 v2 v3 : Value) : ∀ k, k ≠ P → (set4B w P v0 v1 v2 v3).heap[k]? = w.heap[k]? := (heapSet4 w P v0 v1 v2 v3).1
theorem set4B_size (w : World) (P : Nat) (v0 v1 v2 v3 : Value) : (set4B w P v0 v1 v2 v3).heap.size = w.heap.size := (heapSet4 w P v0 v1 v2 v3).2
theorem set4B_touch (w : World) (P : Nat) (v0 v1 v2 v3 : Value) : Touch (fun k => k = P) w (set4B w P v0 v1 v2 v3) := by
  have h0 : Touch (fun k => k = P) w w := Touch.refl _ _
  have h1 := Touch.setCell (p := ⟨P, 0, none⟩) h0 rfl v0
  have h2 := Touch.setCell (p := ⟨P, 1, none⟩) h1 rfl v1
  have h3 := Touch.setCell (p := ⟨P, 2, none⟩) h2 rfl v2
  exact Touch.setCell (p := ⟨P, 3, none⟩) h3 rfl v3
theorem set4B_below {B : Nat} {w0 w : World} (h : Below B w0 w) {P : Nat} (hP : B ≤ P) (v0 v1 v2 v3 : Value) : Below B w0 (set4B w P v0 v1 v2 v3) :=
  (((h.setCell (p := ⟨P, 0, none⟩) hP v0).setCell (p := ⟨P, 1, none⟩) hP v1).setCell (p := ⟨P, 2, none⟩) hP v2).setCell (p := ⟨P, 3, none⟩) hP v3
/-- The variable that holds a member is none of a chip's rows. -/
theorem BoxAt.blocks {w w' : World} {P : Nat} {a : Option Addr} {n c : Nat} {ma : Option Addr} {mn mc : Nat} {seq o : Int} (h : BoxAt w P a n c ma mn mc seq o) {b : Option Addr} {bs : List Bk} (hA : BlocksAt w b bs) (he : ∀ k, k ≠ P → k < w.heap.size → w'.heap[k]? = w.heap[k]?) : BlocksAt w' b bs := by
  have hint : ∀ {i : Nat} {v : Int}, w.cell? ⟨P, i, none⟩ = some (.int .i64 v) → i = 2 ∨ i = 3 := by
    intro i v hv
    rw [h.1 i] at hv
    match i with
    | 0 => simp at hv
    | 1 => simp at hv
    | 2 => exact .inl rfl
    | 3 => exact .inr rfl
    | i + 4 => simp at hv
  have hsl : ∀ {i : Nat} {x : Option Addr} {y z : Nat}, w.cell? ⟨P, i, none⟩ = some (.slice x y z) → i = 0 ∨ i = 1 := by
    intro i x y z hv
    rw [h.1 i] at hv
    match i with
    | 0 => exact .inl rfl
    | 1 => exact .inr rfl
    | 2 => simp at hv
    | 3 => simp at hv
    | i + 4 => simp at hv
  have hbo : ∀ {i : Nat} {x : Bool}, w.cell? ⟨P, i, none⟩ = some (.bool x) → False := by
    intro i x hv
    rw [h.1 i] at hv
    match i with
    | 0 => simp at hv
    | 1 => simp at hv
    | 2 => simp at hv
    | 3 => simp at hv
    | i + 4 => simp at hv
  intro i b hb
  obtain ⟨g, o, pa, pc, ha, c0, c1, hp⟩ := hA i b hb
  have hg : g ≠ P := by
    rintro rfl
    have e0 := hint c0
    have e1 := hsl c1
    omega
  have hc : ∀ j, w'.cell? ⟨g, j, none⟩ = w.cell? ⟨g, j, none⟩ := fun j => World.cell?_of_block (w := w) (a := ⟨g, j, none⟩) (he g hg (World.block_lt_of_cell? _ _ c0))
  refine ⟨g, o, pa, pc, ha, (hc _).trans c0, (hc _).trans c1, fun k p hk => ?_⟩
  obtain ⟨g2, o2, ha2, d0, d1, d2, d3⟩ := hp k p hk
  have hg2 : g2 ≠ P := by
    rintro rfl
    exact hbo d0
  have hc2 : ∀ j, w'.cell? ⟨g2, j, none⟩ = w.cell? ⟨g2, j, none⟩ := fun j => World.cell?_of_block (w := w) (a := ⟨g2, j, none⟩) (he g2 hg2 (World.block_lt_of_cell? _ _ d0))
  exact ⟨g2, o2, ha2, (hc2 _).trans d0, (hc2 _).trans d1, (hc2 _).trans d2, (hc2 _).trans d3⟩
/-- The list of the map lies in no row P. -/
def OffRow (P : Nat) (ma : Option Addr) : Prop := ∀ g o, ma = some ⟨g, o, none⟩ → g ≠ P
theorem OffRow.above {w : World} {ma : Option Addr} {n B P : Nat} (h : MineFrom w ma n B) (hP : P < B) : OffRow P ma := by
  rintro g o rfl
  rcases h with ⟨h1, _⟩ | ⟨g', h1, h2, _⟩
  · cases h1
  · cases h1; omega
theorem OffRow.under {w : World} {ma : Option Addr} {n B P : Nat} (h : MineFrom w ma n B) (hP : w.heap.size ≤ P) : OffRow P ma := by
  rintro g o rfl
  rcases h with ⟨h1, _⟩ | ⟨g', h1, _, h2, _⟩
  · cases h1
  · cases h1; omega
theorem OffRow.ints {w w' : World} {P : Nat} {ma : Option Addr} {L : List Int} (h : OffRow P ma) (hI : IntsAt w ma L) (he : ∀ k, k ≠ P → k < w.heap.size → w'.heap[k]? = w.heap[k]?) : IntsAt w' ma L := by
  intro i x hx
  obtain ⟨b, o, ha, hc⟩ := hI i x hx
  exact ⟨b, o, ha, (World.cell?_of_block (w := w) (a := ⟨b, o + i, none⟩) (he b (h b o ha) (World.block_lt_of_cell? _ _ hc))).trans hc⟩
theorem OffRow.mine {w w' : World} {P : Nat} {ma : Option Addr} {n B : Nat} (h : OffRow P ma) (hM : MineFrom w ma n B) (he : ∀ k, k ≠ P → k < w.heap.size → w'.heap[k]? = w.heap[k]?) (hs : w.heap.size ≤ w'.heap.size) : MineFrom w' ma n B := by
  rcases hM with h1 | ⟨g, h1, h2, h3, h4⟩
  · exact .inl h1
  · exact .inr ⟨g, h1, h2, by omega, h4.of_block (he g (h g 0 h1) h3)⟩
/-- A member that lies in memory, but for its variable. -/
structure MbAt (w : World) (a : Option Addr) (n : Nat) (ma : Option Addr) (mn : Nat) (B : Nat) (m : Mb) : Prop where
  bs : m.bs.length = n
  L : m.L.length = mn
  blocks : BlocksAt w a m.bs
  ints : IntsAt w ma m.L
  mine : MineFrom w ma mn B
theorem MbAt.below {w w' : World} {a : Option Addr} {n : Nat} {ma : Option Addr} {mn B : Nat} {m : Mb} (h : MbAt w a n ma mn B m) (hb : Below w.heap.size w w') : MbAt w' a n ma mn B m :=
  ⟨h.bs, h.L, h.blocks.below hb (Nat.le_refl _), h.ints.below hb (Nat.le_refl _), h.mine.below hb⟩
theorem MbAt.lower {w : World} {a : Option Addr} {n : Nat} {ma : Option Addr} {mn B B' : Nat} {m : Mb} (h : MbAt w a n ma mn B m) (hB : B' ≤ B) : MbAt w a n ma mn B' m := ⟨h.bs, h.L, h.blocks, h.ints, h.mine.lower hB⟩
theorem MbAt.stored {w : World} {P : Nat} {a1 : Option Addr} {n1 c1 : Nat} {ma1 : Option Addr} {mn1 mc1 : Nat} {seq1 o1 : Int} (hP : BoxAt w P a1 n1 c1 ma1 mn1 mc1 seq1 o1) {a : Option Addr} {n : Nat} {ma : Option Addr} {mn B : Nat} {m : Mb} (h : MbAt w a n ma mn B m) (hO : OffRow P ma) (v0 v1 v2 v3 : Value) : MbAt (set4B w P v0 v1 v2 v3) a n ma mn B m :=
  ⟨h.bs, h.L, hP.blocks h.blocks (fun k hk _ => set4B_block _ _ _ _ _ _ k hk), hO.ints h.ints (fun k hk _ => set4B_block _ _ _ _ _ _ k hk), hO.mine h.mine (fun k hk _ => set4B_block _ _ _ _ _ _ k hk) (by rw [set4B_size]; exact Nat.le_refl _)⟩
end Go.Proofs.YtalgkmellbamgaaGreat
