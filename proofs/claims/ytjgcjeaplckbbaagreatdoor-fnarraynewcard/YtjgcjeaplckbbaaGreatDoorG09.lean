/- 6 texts in one. -/
import Derived.Test.YtjgcjeaplckbbaaGreatDoorG07
import Derived.Test.YtjgcjeaplckbbaaGreatDoorG08
import Derived.WalkKit
import Derived.Outline
import Derived.Deep.DeepCutAuto
import Derived.Deep.MidRow
import Derived.Deep.RegionHeld3
import Derived.Test.YtjgcjeaplckbbaaGreatDoorG04
import Derived.Laws.MakeOwn

/- The program's workers: told. -/
namespace Go.Proofs.YtjgcjeaplckbbaaGreatDoor
open Go.RowKit
set_option linter.unusedVariables false
set_option linter.unusedSimpArgs false

set_option maxRecDepth 100000 in
set_option maxHeartbeats 4000000 in
theorem told_any (g : Nat) (m : CC) (bs : List Bk) (n : Nat) (hl : bs.length = n) (hct : m.count = n) (hbs : ccBs m n = bs) (va : Value) (hva : ∃ x y z, va = .slice x y z) (ma : Option Addr) (mn mc : Nat) (L : List Int) (hL : L.length = mn) (seq o : Int) (hok : FtlOk bs L seq o) (w : World) (h : WorkAt w g m va ma mn mc seq o) (hI : IntsAt w ma L) :
    Calls Tryz.prog 101 #[.pointer (some ⟨g, 0, none⟩), .bool false] w fun e w' => ∃ k ma2 mc2, e = .returned (.agg #[.slice (some ⟨k, 0, none⟩) n n, .slice ma2 mn mc2, .int .i64 seq, .int .i64 o]) ∧ FtlOwn w' w.heap.size w'.heap.size (some ⟨k, 0, none⟩) n n bs ma2 mn L ∧ Below w.heap.size w w' := by
  have hcop := copied_any va hva m bs n hl hct hbs ma mc L mn hL seq o hok
  obtain ⟨vx, vy, vz, rfl⟩ := hva
  have hgl := h.lt
  obtain ⟨w0, hw0⟩ : ∃ w0, w0 = w.alloc (.cells #[.slice none 0 0, .slice none 0 0, .int .i64 0, .int .i64 0] 53) := ⟨_, rfl⟩
  have hs0 : w0.heap.size = w.heap.size + 1 := by rw [hw0]; simp
  have hB0 : Below w.heap.size w w0 := by rw [hw0]; exact (Below.refl _ w).alloc (Nat.le_refl _) _
  have hr0 : w0.heap[w.heap.size]? = some (.cells #[.slice none 0 0, .slice none 0 0, .int .i64 0, .int .i64 0] 53 (0, 0)) := by rw [hw0]; exact World.alloc_heap_new w _
  have hW0 := h.below hB0 hgl
  obtain ⟨cs, hcs⟩ : ∃ cs, cs = (ccA m).toList := ⟨_, rfl⟩
  have hcs2 : ccA m = cs.toArray := by rw [hcs]
  have hcl : cs.length = 205 := by rw [hcs]; simp [ccA_size]
  have hi97 : (Tryz.prog.info? 128).map (·.size) = some cs.length := by rw [hcl]; exact sizeCC'
  have HSW : Hid (∀ W, Below w0.heap.size w0 W → W.rangeAt g 0 cs ∧ W.cell? ⟨g, 205, none⟩ = some (.slice vx vy vz) ∧ W.cell? ⟨g, 206, none⟩ = some (.slice ma mn mc) ∧ W.cell? ⟨g, 207, none⟩ = some (.int .i64 seq) ∧ W.cell? ⟨g, 208, none⟩ = some (.int .i64 o)) := fun W hW => by
    have hh := hW0.below hW (by omega)
    refine ⟨fun j v hv => ?_, hh.chip, hh.map, hh.seq, hh.opn⟩
    have hj : j < 205 := by
      rw [← hcl]
      exact (List.getElem?_eq_some_iff.mp hv).1
    rw [Nat.zero_add, hh.cells j hj, hcs2]
    simpa using hv
  have HZR : Hid (∀ W, Below w0.heap.size w0 W → (∀ i, W.cell? ⟨w.heap.size, i, none⟩ = (#[Value.slice none 0 0, .slice none 0 0, .int .i64 0, .int .i64 0])[i]?) ∧ ∀ i, W.frozen? ⟨w.heap.size, i, none⟩ = false) := fun W hW => by
    have hr := (hW.block w.heap.size (by omega)).trans hr0
    exact ⟨fun i => cell_of_row _ _ i _ _ _ hr, fun i => frozen_of_row _ _ i _ _ hr⟩
  have HCOP := hide (fun W (hW : Below w0.heap.size w0 W) => hcop W ((hI.below hB0 (Nat.le_refl _)).below hW (Nat.le_refl _)))
  rw [hcs2] at HCOP
  clear hcop hr0 hW0 hcs hcs2 hcl h hI hok hL hl hct hbs
  go_enter Tryz.func101, Tryz.ntmps101
  go_upto_region 5 with fail
  rw [← hw0]
  clear hw0
  have HBD : Hid (Below w0.heap.size w0 w0.drew) := (Below.refl _ _).drew
  have hmix : Tryz.prog.follows .mixedOrders = true := by kernel_rfl
  refine wp_region_held_drew (S := fun W => W.rangeAt g 0 cs ∧ W.cell? ⟨g, 205, none⟩ = some (.slice vx vy vz) ∧ W.cell? ⟨g, 206, none⟩ = some (.slice ma mn mc) ∧ W.cell? ⟨g, 207, none⟩ = some (.int .i64 seq) ∧ W.cell? ⟨g, 208, none⟩ = some (.int .i64 o)) hmix (unhide HSW _ (unhide HBD)) (fun hHeld => ?_)
  refine wpAnyH_take (i := 0) (v := .pointer (some ⟨g, 0, none⟩)) rfl (by kernel_rfl) (by kernel_rfl) (by kernel_rfl) (fun _ _ _ h => h) (Or.inl ⟨by rfl, ?_⟩) hHeld ?_
  · (intro W hSW; obtain ⟨-, s0, s1, s2, s3⟩ := hSW; go_simp)
  simp only [Act.put, List.setIfInBounds_toArray, List.set_cons_zero, List.set_cons_succ]
  refine wpAnyH_take (i := 1) (v := .pointer (some ⟨g, 0, none⟩)) rfl (by kernel_rfl) (by kernel_rfl) (by kernel_rfl) (fun _ _ _ h => h) (Or.inl ⟨by rfl, ?_⟩) hHeld ?_
  · (intro W hSW; obtain ⟨-, s0, s1, s2, s3⟩ := hSW; go_simp)
  simp only [Act.put, List.setIfInBounds_toArray, List.set_cons_zero, List.set_cons_succ]
  refine wpAnyH_take (i := 2) (v := .pointer (some ⟨g, 205, none⟩)) rfl (by kernel_rfl) (by kernel_rfl) (by kernel_rfl) (fun _ _ _ h => h) (Or.inl ⟨by rfl, ?_⟩) hHeld ?_
  · (intro W hSW; obtain ⟨-, s0, s1, s2, s3⟩ := hSW; go_simp)
  simp only [Act.put, List.setIfInBounds_toArray, List.set_cons_zero, List.set_cons_succ]
  refine wpAnyH_take (i := 3) (v := .agg #[.slice vx vy vz, .slice ma mn mc, .int .i64 seq, .int .i64 o]) rfl (by kernel_rfl) (by kernel_rfl) (by kernel_rfl) (fun _ _ _ h => h) (Or.inl ⟨by rfl, ?_⟩) hHeld ?_
  · (intro W hSW; obtain ⟨-, s0, s1, s2, s3⟩ := hSW; go_simp)
  simp only [Act.put, List.setIfInBounds_toArray, List.set_cons_zero, List.set_cons_succ]
  refine wpAnyH_take (i := 4) (v := .pointer (some ⟨g, 0, none⟩)) rfl (by kernel_rfl) (by kernel_rfl) (by kernel_rfl) (fun _ _ _ h => h) (Or.inl ⟨by rfl, ?_⟩) hHeld ?_
  · (intro W hSW; obtain ⟨-, s0, s1, s2, s3⟩ := hSW; go_simp)
  simp only [Act.put, List.setIfInBounds_toArray, List.set_cons_zero, List.set_cons_succ]
  refine wpAnyH_take (i := 5) (v := .pointer (some ⟨g, 0, none⟩)) rfl (by kernel_rfl) (by kernel_rfl) (by kernel_rfl) (fun _ _ _ h => h) (Or.inl ⟨by rfl, ?_⟩) hHeld ?_
  · (intro W hSW; obtain ⟨-, s0, s1, s2, s3⟩ := hSW; go_simp)
  simp only [Act.put, List.setIfInBounds_toArray, List.set_cons_zero, List.set_cons_succ]
  refine wpAnyH_take (i := 6) (v := .pointer (some ⟨g, 0, none⟩)) rfl (by kernel_rfl) (by kernel_rfl) (by kernel_rfl) (fun _ _ _ h => h) (Or.inl ⟨by rfl, ?_⟩) hHeld ?_
  · (intro W hSW; obtain ⟨-, s0, s1, s2, s3⟩ := hSW; go_simp)
  simp only [Act.put, List.setIfInBounds_toArray, List.set_cons_zero, List.set_cons_succ]
  refine wpAnyH_take (i := 7) (v := .agg cs.toArray) rfl (by kernel_rfl) (by kernel_rfl) (by kernel_rfl) (fun _ _ _ h => h) (yieldsIf_load_mid (by rfl) _ _ rfl _ _ rfl cs _ (fun W hS => hS.1) Tryz.underlying128 rfl hi97) hHeld ?_
  simp only [Act.put, List.setIfInBounds_toArray, List.set_cons_zero, List.set_cons_succ]
  refine wpAnyH_ready (rs := [8]) (by kernel_rfl) (by simp) ?_
  refine AllReadyH.cons rfl (fun K hK => ?_) AllReadyH.nil
  go_simp
  refine (unhide HCOP w0.drew (unhide HBD)).mono ?_
  rintro e wC ⟨k, ma2, mc2, rfl, hF, hB⟩
  have HBC := hide ((unhide HBD).trans hB)
  have hsC := (unhide HBC).size
  have HF2 := hide hF
  clear hF hB
  try go_wp2_with fail
  refine hK.out _ _ ?_ (fun hHeld2 => ?_)
  · exact unhide HSW _ (unhide HBC)
  clear hK K hHeld
  have hHeld := hHeld2
  clear hHeld2
  try simp only [Act.put, List.setIfInBounds_toArray, List.set_cons_zero, List.set_cons_succ]
  obtain ⟨hzc, hzf⟩ := unhide HZR wC (unhide HBC)
  have z0 := hzc 0
  have z1 := hzc 1
  have z2 := hzc 2
  have z3 := hzc 3
  simp at z0 z1 z2 z3
  have f0 := hzf 0
  have f1 := hzf 1
  have f2 := hzf 2
  have f3 := hzf 3
  clear hzc hzf
  refine wpAnyH_ready (rs := [9]) (by kernel_rfl) (by simp) ?_
  refine AllReadyH.cons rfl (fun K hK => ?_) AllReadyH.nil
  go_simp
  refine hK.out _ _ ?_ (fun hHeld2 => ?_)
  · (obtain ⟨q, q0, q1, q2, q3⟩ := unhide HSW _ (unhide HBC); exact ⟨fun j v hv => by rw [World.cell?_setCell_other _ _ _ _ (by simp <;> omega), World.cell?_setCell_other _ _ _ _ (by simp <;> omega), World.cell?_setCell_other _ _ _ _ (by simp <;> omega), World.cell?_setCell_other _ _ _ _ (by simp <;> omega)]; exact q j v hv, by rw [World.cell?_setCell_other _ _ _ _ (by simp <;> omega), World.cell?_setCell_other _ _ _ _ (by simp <;> omega), World.cell?_setCell_other _ _ _ _ (by simp <;> omega), World.cell?_setCell_other _ _ _ _ (by simp <;> omega)]; exact q0, by rw [World.cell?_setCell_other _ _ _ _ (by simp <;> omega), World.cell?_setCell_other _ _ _ _ (by simp <;> omega), World.cell?_setCell_other _ _ _ _ (by simp <;> omega), World.cell?_setCell_other _ _ _ _ (by simp <;> omega)]; exact q1, by rw [World.cell?_setCell_other _ _ _ _ (by simp <;> omega), World.cell?_setCell_other _ _ _ _ (by simp <;> omega), World.cell?_setCell_other _ _ _ _ (by simp <;> omega), World.cell?_setCell_other _ _ _ _ (by simp <;> omega)]; exact q2, by rw [World.cell?_setCell_other _ _ _ _ (by simp <;> omega), World.cell?_setCell_other _ _ _ _ (by simp <;> omega), World.cell?_setCell_other _ _ _ _ (by simp <;> omega), World.cell?_setCell_other _ _ _ _ (by simp <;> omega)]; exact q3⟩)
  clear hK K hHeld
  have hHeld := hHeld2
  clear hHeld2
  try simp only [Act.put, List.setIfInBounds_toArray, List.set_cons_zero, List.set_cons_succ]
  refine wpAnyH_done (by kernel_rfl) ?_ _
  obtain ⟨W5, hW5⟩ : ∃ W5, W5 = ((((wC.setCell ⟨w.heap.size, 0, none⟩ (.slice (some ⟨k, 0, none⟩) n n)).setCell ⟨w.heap.size, 1, none⟩ (.slice ma2 mn mc2)).setCell ⟨w.heap.size, 2, none⟩ (.int .i64 seq)).setCell ⟨w.heap.size, 3, none⟩ (.int .i64 o)) := ⟨_, rfl⟩
  have y0 : W5.cell? ⟨w.heap.size, 0, none⟩ = some (.slice (some ⟨k, 0, none⟩) n n) := by rw [hW5, World.cell?_setCell_other _ _ _ _ (by simp), World.cell?_setCell_other _ _ _ _ (by simp), World.cell?_setCell_other _ _ _ _ (by simp), World.cell?_setCell_same' _ _ _ (by rw [z0]; rfl)]
  have y1 : W5.cell? ⟨w.heap.size, 1, none⟩ = some (.slice ma2 mn mc2) := by rw [hW5, World.cell?_setCell_other _ _ _ _ (by simp), World.cell?_setCell_other _ _ _ _ (by simp), World.cell?_setCell_same' _ _ _ (by rw [World.cell?_setCell_other _ _ _ _ (by simp), z1]; rfl)]
  have y2 : W5.cell? ⟨w.heap.size, 2, none⟩ = some (.int .i64 seq) := by rw [hW5, World.cell?_setCell_other _ _ _ _ (by simp), World.cell?_setCell_same' _ _ _ (by rw [World.cell?_setCell_other _ _ _ _ (by simp), World.cell?_setCell_other _ _ _ _ (by simp), z2]; rfl)]
  have y3 : W5.cell? ⟨w.heap.size, 3, none⟩ = some (.int .i64 o) := by rw [hW5, World.cell?_setCell_same' _ _ _ (by rw [World.cell?_setCell_other _ _ _ _ (by simp), World.cell?_setCell_other _ _ _ _ (by simp), World.cell?_setCell_other _ _ _ _ (by simp), z3]; rfl)]
  have hT5 := touch4 wC w.heap.size (.slice (some ⟨k, 0, none⟩) n n) (.slice ma2 mn mc2) (.int .i64 seq) (.int .i64 o)
  rw [← hW5] at hT5
  have hs5 : W5.heap.size = wC.heap.size := by rw [hW5]; simp [World.setCell]
  have hWW : Below w.heap.size w W5 := (hB0.trans ((unhide HBC).mono hB0.size)).trans (hT5.below (by omega) (fun k hk => by rw [hk]; omega))
  have HFF : Hid (FtlOwn W5 w.heap.size W5.heap.size (some ⟨k, 0, none⟩) n n bs ma2 mn L) := by rw [hs5]; exact ((unhide HF2).touch hT5 (fun k hk => by rw [hk]; simp; omega)).lower (by simp; omega)
  try rw [← hW5]
  clear hT5 z0 z1 z2 z3 f0 f1 f2 f3 hHeld
  clear hW5
  go_wp2
  exact bodyPost_ret (v := .agg #[.slice (some ⟨k, 0, none⟩) n n, .slice ma2 mn mc2, .int .i64 seq, .int .i64 o]) (by simp [results, Tryz.results101, go_sem, y0, y1, y2, y3]) rfl ⟨k, ma2, mc2, rfl, unhide HFF, hWW⟩
end Go.Proofs.YtjgcjeaplckbbaaGreatDoor

/- Many writes, one by one: in plain lists. No program is named here. -/
namespace Go.Proofs.YtjgcjeaplckbbaaGreatDoor
open Go.RowKit
set_option linter.unusedVariables false
set_option linter.unusedSimpArgs false

/-- A member, in plain lists. -/
structure Mb where
  bs : List Bk
  L : List Int
  seq : Int
  o : Int
def Mb.Ok (m : Mb) : Prop := FtlOk m.bs m.L m.seq m.o
def Mb.zero : Mb := ⟨[], [], 0, 0⟩
def WrM (m : Mb) (x : Int × ByteArray) (m' : Mb) (code : Int) : Prop := WrittenIs m.bs m.L m.seq m.o x.1 x.2 m'.bs m'.L m'.seq m'.o code
theorem WrM.one {m : Mb} {x : Int × ByteArray} {m1 m2 : Mb} {c1 c2 : Int} (h : WrM m x m1 c1) (k : WrM m x m2 c2) : m1 = m2 ∧ c1 = c2 := by
  obtain ⟨e1, e2, e3, e4, e5⟩ := WrittenIs.one h k
  obtain ⟨b1, l1, s1, o1⟩ := m1
  obtain ⟨b2, l2, s2, o2⟩ := m2
  simp only at e1 e2 e3 e4
  subst e1 e2 e3 e4
  exact ⟨rfl, e5⟩
/-- Writes that are all taken. -/
def Steps : List (Int × ByteArray) → Mb → Mb → Prop
  | [], m, m' => m' = m
  | x :: xs, m, m' => ∃ mid, WrM m x mid 0 ∧ Steps xs mid m'
theorem Steps.one : ∀ {xs : List (Int × ByteArray)} {m m1 m2 : Mb}, Steps xs m m1 → Steps xs m m2 → m1 = m2 := by
  intro xs
  induction xs with
  | nil => intro m m1 m2 h k; exact h.trans k.symm
  | cons x xs ih =>
    rintro m m1 m2 ⟨a, h1, h2⟩ ⟨b, k1, k2⟩
    obtain ⟨rfl, _⟩ := h1.one k1
    exact ih h2 k2
theorem steps_append : ∀ {xs ys : List (Int × ByteArray)} {m m' : Mb}, Steps (xs ++ ys) m m' ↔ ∃ mid, Steps xs m mid ∧ Steps ys mid m' := by
  intro xs
  induction xs with
  | nil =>
    intro ys m m'
    exact ⟨fun h => ⟨m, rfl, h⟩, fun ⟨mid, h1, h2⟩ => by cases h1; exact h2⟩
  | cons x xs ih =>
    intro ys m m'
    constructor
    · rintro ⟨a, h1, h2⟩
      obtain ⟨mid, k1, k2⟩ := ih.1 h2
      exact ⟨mid, ⟨a, h1, k1⟩, k2⟩
    · rintro ⟨mid, ⟨a, h1, k1⟩, k2⟩
      exact ⟨a, h1, ih.2 ⟨mid, k1, k2⟩⟩
theorem steps_snoc {xs : List (Int × ByteArray)} {k : Nat} {x : Int × ByteArray} (hx : xs[k]? = some x) {m mid m' : Mb} (h : Steps (xs.take k) m mid) (hw : WrM mid x m' 0) : Steps (xs.take (k + 1)) m m' := by
  obtain ⟨hk, rfl⟩ := List.getElem?_eq_some_iff.1 hx
  rw [List.take_succ_eq_append_getElem hk]
  exact steps_append.2 ⟨mid, h, m', hw, rfl⟩
theorem Steps.at : ∀ {xs : List (Int × ByteArray)} {m m' : Mb} {k : Nat} {x : Int × ByteArray}, Steps xs m m' → xs[k]? = some x → ∃ a b, Steps (xs.take k) m a ∧ WrM a x b 0 := by
  intro xs m m' k x h hx
  obtain ⟨hk, rfl⟩ := List.getElem?_eq_some_iff.1 hx
  have e : xs = xs.take k ++ (xs[k] :: xs.drop (k + 1)) := by simp
  rw [e] at h
  obtain ⟨mid, h1, b, h2, _⟩ := steps_append.1 h
  exact ⟨mid, b, h1, h2⟩
/-- A write that is not taken, behind others that are. -/
def Stops (xs : List (Int × ByteArray)) (m : Mb) (code : Int) : Prop := code ≠ 0 ∧ ∃ k x mid m', xs[k]? = some x ∧ Steps (xs.take k) m mid ∧ WrM mid x m' code
theorem Stops.not {xs : List (Int × ByteArray)} {m m' : Mb} {code : Int} (h : Stops xs m code) (k : Steps xs m m') : False := by
  obtain ⟨h0, i, x, mid, m2, hx, h1, h2⟩ := h
  obtain ⟨a, b, k1, k2⟩ := k.at hx
  obtain rfl := h1.one k1
  exact h0 (h2.one k2).2
theorem Stops.one {xs : List (Int × ByteArray)} {m : Mb} {c1 c2 : Int} (h : Stops xs m c1) (k : Stops xs m c2) : c1 = c2 := by
  obtain ⟨h0, i, x, mid, m2, hx, h1, h2⟩ := h
  obtain ⟨k0, j, y, mid', m3, hy, k1, k2⟩ := k
  rcases Nat.lt_trichotomy i j with hlt | rfl | hlt
  · exfalso
    obtain ⟨a, b, q1, q2⟩ := k1.at (k := i) (x := x) (by rw [List.getElem?_take, if_pos hlt]; exact hx)
    rw [List.take_take, Nat.min_eq_left (by omega)] at q1
    obtain rfl := h1.one q1
    exact h0 (h2.one q2).2
  · rw [hx] at hy
    cases hy
    obtain rfl := h1.one k1
    exact (h2.one k2).2
  · exfalso
    obtain ⟨a, b, q1, q2⟩ := h1.at (k := j) (x := y) (by rw [List.getElem?_take, if_pos hlt]; exact hy)
    rw [List.take_take, Nat.min_eq_left (by omega)] at q1
    obtain rfl := k1.one q1
    exact k0 (k2.one q2).2
/-- May these be written together? -/
def manyOk (lgs : List Int) (ds : List ByteArray) : Prop := lgs.length = ds.length ∧ lgs.length ≤ 100
/-- What WrittenAll answers. -/
def WAllIs (m : Mb) (lgs : List Int) (ds : List ByteArray) (m' : Mb) (code : Int) : Prop :=
  (¬ m.Ok ∧ m' = Mb.zero ∧ code = 1) ∨ (m.Ok ∧ ¬ manyOk lgs ds ∧ m' = m ∧ code = 2) ∨ (m.Ok ∧ manyOk lgs ds ∧ m' = m ∧ Stops (lgs.zip ds) m code) ∨ (m.Ok ∧ manyOk lgs ds ∧ Steps (lgs.zip ds) m m' ∧ code = 0)
theorem WAllIs.one {m : Mb} {lgs : List Int} {ds : List ByteArray} {m1 m2 : Mb} {c1 c2 : Int} (h : WAllIs m lgs ds m1 c1) (k : WAllIs m lgs ds m2 c2) : m1 = m2 ∧ c1 = c2 := by
  rcases h with ⟨h0, rfl, rfl⟩ | ⟨h0, h1, rfl, rfl⟩ | ⟨h0, h1, rfl, h2⟩ | ⟨h0, h1, h2, rfl⟩
  · rcases k with ⟨_, rfl, rfl⟩ | ⟨k0, _⟩ | ⟨k0, _⟩ | ⟨k0, _⟩
    · exact ⟨rfl, rfl⟩
    · exact absurd k0 h0
    · exact absurd k0 h0
    · exact absurd k0 h0
  · rcases k with ⟨k0, _⟩ | ⟨_, _, rfl, rfl⟩ | ⟨_, k1, _⟩ | ⟨_, k1, _⟩
    · exact absurd h0 k0
    · exact ⟨rfl, rfl⟩
    · exact absurd k1 h1
    · exact absurd k1 h1
  · rcases k with ⟨k0, _⟩ | ⟨_, k1, _⟩ | ⟨_, _, rfl, k2⟩ | ⟨_, _, k2, _⟩
    · exact absurd h0 k0
    · exact absurd h1 k1
    · exact ⟨rfl, h2.one k2⟩
    · exact (h2.not k2).elim
  · rcases k with ⟨k0, _⟩ | ⟨_, k1, _⟩ | ⟨_, _, _, k2⟩ | ⟨_, _, k2, rfl⟩
    · exact absurd h0 k0
    · exact absurd h1 k1
    · exact (k2.not h2).elim
    · exact ⟨h2.one k2, rfl⟩
/-- Of what is written no list is long. -/
def Mb.Short (m : Mb) : Prop := Lens 1048576 m.bs ∧ m.bs.length ≤ 12 ∧ m.L.length ≤ 36
theorem Mb.Ok.short {m : Mb} (h : m.Ok) : m.Short := ⟨lens_of_ok h.chip, h.chip.count.2, h.len36⟩
theorem WrM.short {m : Mb} {x : Int × ByteArray} {m' : Mb} {code : Int} (h : WrM m x m' code) : m'.Short := WrittenIs.short h
theorem Steps.short : ∀ {xs : List (Int × ByteArray)} {m m' : Mb}, Steps xs m m' → m.Short → m'.Short := by
  intro xs
  induction xs with
  | nil => intro m m' h k; cases h; exact k
  | cons x xs ih =>
    rintro m m' ⟨a, h1, h2⟩ _
    exact ih h2 h1.short
theorem Mb.short_zero : Mb.zero.Short := ⟨⟨by simp [Mb.zero], fun b hb => by simp [Mb.zero] at hb⟩, by simp [Mb.zero], by simp [Mb.zero]⟩
theorem WAllIs.short {m : Mb} {lgs : List Int} {ds : List ByteArray} {m' : Mb} {code : Int} (h : WAllIs m lgs ds m' code) : m'.Short := by
  rcases h with ⟨_, rfl, _⟩ | ⟨h0, _, rfl, _⟩ | ⟨h0, _, rfl, _⟩ | ⟨h0, _, h2, _⟩
  · exact Mb.short_zero
  · exact h0.short
  · exact h0.short
  · exact h2.short h0.short
end Go.Proofs.YtjgcjeaplckbbaaGreatDoor

/- Members one behind the other in one row of four cells each, every member's memory apart from the others'. -/
namespace Go.Proofs.YtjgcjeaplckbbaaGreatDoor
open Go.RowKit
set_option linter.unusedVariables false
set_option linter.unusedSimpArgs false

/-- Member i of the row g is m; its memory lies in [lo, hi). -/
def MbCells (w : World) (g i lo hi : Nat) (m : Mb) : Prop := ∃ a n c ma mn mc, w.cell? ⟨g, 4 * i, none⟩ = some (.slice a n c) ∧ w.cell? ⟨g, 4 * i + 1, none⟩ = some (.slice ma mn mc) ∧ w.cell? ⟨g, 4 * i + 2, none⟩ = some (.int .i64 (Mb.seq m)) ∧ w.cell? ⟨g, 4 * i + 3, none⟩ = some (.int .i64 m.o) ∧ FtlOwn w lo hi a n c m.bs ma mn m.L

/-- The row g holds the members ms from i on; their memory lies in [lo, hi), one behind the other. -/
def MemsOwn (w : World) (g : Nat) : Nat → Nat → Nat → List Mb → Prop
  | _, lo, hi, [] => lo ≤ hi
  | i, lo, hi, m :: ms => ∃ mid, lo ≤ mid ∧ MbCells w g i lo mid m ∧ MemsOwn w g (i + 1) mid hi ms

theorem MbCells.touch {S : Nat → Prop} {w w' : World} {g i lo hi : Nat} {m : Mb} (h : MbCells w g i lo hi m) (hT : Touch S w w') (hS : ∀ k, S k → k < lo) (hg : ¬ S g) : MbCells w' g i lo hi m := by
  obtain ⟨a, n, c, ma, mn, mc, h0, h1, h2, h3, hF⟩ := h
  have e := hT.block g (World.block_lt_of_cell? _ _ h0) hg
  have hc : ∀ j, w'.cell? ⟨g, j, none⟩ = w.cell? ⟨g, j, none⟩ := fun j => World.cell?_of_block (w := w) (a := ⟨g, j, none⟩) e
  exact ⟨a, n, c, ma, mn, mc, (hc _).trans h0, (hc _).trans h1, (hc _).trans h2, (hc _).trans h3, hF.touch hT hS⟩
theorem MbCells.below {w w' : World} {g i lo hi : Nat} {m : Mb} (h : MbCells w g i lo hi m) (hb : Below w.heap.size w w') : MbCells w' g i lo hi m := by
  obtain ⟨a, n, c, ma, mn, mc, h0, h1, h2, h3, hF⟩ := h
  have e := hb.block g (World.block_lt_of_cell? _ _ h0)
  have hc : ∀ j, w'.cell? ⟨g, j, none⟩ = w.cell? ⟨g, j, none⟩ := fun j => World.cell?_of_block (w := w) (a := ⟨g, j, none⟩) e
  exact ⟨a, n, c, ma, mn, mc, (hc _).trans h0, (hc _).trans h1, (hc _).trans h2, (hc _).trans h3, hF.below hb⟩

theorem MemsOwn.le {w : World} {g : Nat} : ∀ {ms : List Mb} {i lo hi : Nat}, MemsOwn w g i lo hi ms → lo ≤ hi
  | [], _, _, _, h => h
  | _ :: _, _, _, _, ⟨_, h1, _, h2⟩ => Nat.le_trans h1 h2.le
theorem MemsOwn.higher {w : World} {g : Nat} : ∀ {ms : List Mb} {i lo hi hi' : Nat}, MemsOwn w g i lo hi ms → hi ≤ hi' → MemsOwn w g i lo hi' ms
  | [], _, _, _, _, h, k => Nat.le_trans h k
  | _ :: _, _, _, _, _, ⟨mid, h1, hc, h2⟩, k => ⟨mid, h1, hc, h2.higher k⟩
theorem MemsOwn.touch {S : Nat → Prop} {w w' : World} {g : Nat} (hT : Touch S w w') (hg : ¬ S g) : ∀ {ms : List Mb} {i lo hi : Nat}, MemsOwn w g i lo hi ms → (∀ k, S k → k < lo) → MemsOwn w' g i lo hi ms
  | [], _, _, _, h, _ => h
  | _ :: _, _, _, _, ⟨mid, h1, hc, h2⟩, hS => ⟨mid, h1, hc.touch hT hS hg, MemsOwn.touch hT hg h2 (fun k hk => Nat.lt_of_lt_of_le (hS k hk) h1)⟩
theorem MemsOwn.below {w w' : World} {g : Nat} (hb : Below w.heap.size w w') : ∀ {ms : List Mb} {i lo hi : Nat}, MemsOwn w g i lo hi ms → MemsOwn w' g i lo hi ms
  | [], _, _, _, h => h
  | _ :: _, _, _, _, ⟨mid, h1, hc, h2⟩ => ⟨mid, h1, hc.below hb, MemsOwn.below hb h2⟩
theorem MbCells.keep {S : Nat → Prop} {w w' : World} {g i lo hi : Nat} {m : Mb} (h : MbCells w g i lo hi m) (hT : Touch S w w') (hS : ∀ k, S k → k < lo) (hg : ∀ o, o < 4 * i + 4 → w'.cell? ⟨g, o, none⟩ = w.cell? ⟨g, o, none⟩) : MbCells w' g i lo hi m := by
  obtain ⟨a, n, c, ma, mn, mc, h0, h1, h2, h3, hF⟩ := h
  exact ⟨a, n, c, ma, mn, mc, (hg _ (by omega)).trans h0, (hg _ (by omega)).trans h1, (hg _ (by omega)).trans h2, (hg _ (by omega)).trans h3, hF.touch hT hS⟩
/-- As touch, where the row itself is written behind these members. -/
theorem MemsOwn.keep {S : Nat → Prop} {w w' : World} {g : Nat} (hT : Touch S w w') : ∀ {ms : List Mb} {i lo hi : Nat}, MemsOwn w g i lo hi ms → (∀ k, S k → k < lo) → (∀ o, o < 4 * (i + ms.length) → w'.cell? ⟨g, o, none⟩ = w.cell? ⟨g, o, none⟩) → MemsOwn w' g i lo hi ms
  | [], _, _, _, h, _, _ => h
  | x :: ms, i, _, _, ⟨mid, h1, hc, h2⟩, hS, hg => ⟨mid, h1, hc.keep hT hS (fun o ho => hg o (by simp only [List.length_cons]; omega)), MemsOwn.keep hT h2 (fun k hk => Nat.lt_of_lt_of_le (hS k hk) h1) (fun o ho => hg o (by simp only [List.length_cons]; omega))⟩
theorem MemsOwn.snoc {w : World} {g : Nat} {m : Mb} {T : Nat} : ∀ {ms : List Mb} {i lo hi : Nat}, MemsOwn w g i lo hi ms → MbCells w g (i + ms.length) hi T m → hi ≤ T → MemsOwn w g i lo T (ms ++ [m])
  | [], i, lo, hi, h, hm, k => by
    obtain ⟨a, n, c, ma, mn, mc, h0, h1, h2, h3, hF⟩ := hm
    exact ⟨T, Nat.le_trans h k, ⟨a, n, c, ma, mn, mc, h0, h1, h2, h3, hF.lower h⟩, Nat.le_refl _⟩
  | x :: ms, i, lo, hi, ⟨mid, h1, hc, h2⟩, hm, k => ⟨mid, h1, hc, h2.snoc (by rw [Nat.add_assoc, Nat.add_comm 1]; exact hm) k⟩
theorem MemsOwn.at {w : World} {g : Nat} : ∀ {ms : List Mb} {i lo hi j : Nat} {m : Mb}, MemsOwn w g i lo hi ms → ms[j]? = some m → ∃ a b, lo ≤ a ∧ a ≤ b ∧ b ≤ hi ∧ MbCells w g (i + j) a b m
  | [], _, _, _, _, _, _, e => by simp at e
  | x :: ms, i, lo, hi, 0, m, ⟨mid, h1, hc, h2⟩, e => by
    simp at e
    subst e
    exact ⟨lo, mid, Nat.le_refl _, h1, h2.le, hc⟩
  | x :: ms, i, lo, hi, j + 1, m, ⟨mid, h1, hc, h2⟩, e => by
    obtain ⟨a, b, k1, k2, k3, k4⟩ := h2.at (j := j) (m := m) (by simpa using e)
    exact ⟨a, b, Nat.le_trans h1 k1, k2, k3, by rw [show i + (j + 1) = i + 1 + j by omega]; exact k4⟩

/-- A member that is new. -/
def newMb (n : Nat) : Mb := ⟨newBs n, newMap n, 1, 0⟩
end Go.Proofs.YtjgcjeaplckbbaaGreatDoor

/- What any worker tells, one that is lost too; a list of records that is nil, copied. -/
namespace Go.Proofs.YtjgcjeaplckbbaaGreatDoor
open Go.RowKit
set_option linter.unusedVariables false
set_option linter.unusedSimpArgs false

set_option maxRecDepth 100000 in
set_option maxHeartbeats 1000000 in
theorem told_nil (d : Bool) (w : World) : Calls Tryz.prog 101 #[.pointer none, .bool d] w fun e w' => e = .returned (.agg #[.slice none 0 0, .slice none 0 0, .int .i64 0, .int .i64 0]) ∧ Below w.heap.size w w' := by
  go_enter Tryz.func101, Tryz.ntmps101
  go_wp2
  refine bodyPost_ret (v := .agg #[.slice none 0 0, .slice none 0 0, .int .i64 0, .int .i64 0]) (by simp [results, Tryz.results101, go_sem]) rfl ⟨rfl, ?_⟩
  exact (Below.refl _ w).alloc (Nat.le_refl _) _

theorem FtlOwn.nought (w : World) : FtlOwn w w.heap.size w.heap.size none 0 0 [] none 0 [] :=
  ⟨rfl, (fun i x hx => by simp at hx), .inl ⟨rfl, rfl⟩, (fun g hg => by cases hg), w.heap.size, w.heap.size, Nat.le_refl _, ⟨rfl, .inl ⟨rfl, rfl, rfl⟩⟩, Nat.le_refl _, (fun g hg => by cases hg)⟩

/-- A worker that is idle, or none: what its member is. -/
def WorkOf (w : World) (v : Value) (n : Nat) (mb : Mb) : Prop := (v = .pointer none ∧ mb = Mb.zero) ∨ ∃ g m va ma mn mc, v = .pointer (some ⟨g, 0, none⟩) ∧ WorkAt w g m va ma mn mc (Mb.seq mb) mb.o ∧ (∃ x y z, va = .slice x y z) ∧ mb.bs.length = n ∧ m.count = n ∧ ccBs m n = mb.bs ∧ mb.L.length = mn ∧ FtlOk mb.bs mb.L (Mb.seq mb) mb.o ∧ IntsAt w ma mb.L
theorem WorkOf.below {w w' : World} {v : Value} {n : Nat} {mb : Mb} (h : WorkOf w v n mb) (hb : Below w.heap.size w w') : WorkOf w' v n mb := by
  rcases h with h | ⟨g, m, va, ma, mn, mc, h0, h1, h2, h3, h4, h5, h6, h7, h8⟩
  · exact .inl h
  · exact .inr ⟨g, m, va, ma, mn, mc, h0, h1.below hb h1.lt, h2, h3, h4, h5, h6, h7, h8.below hb (Nat.le_refl _)⟩
theorem told_of (v : Value) (n : Nat) (mb : Mb) (w : World) (h : WorkOf w v n mb) :
    Calls Tryz.prog 101 #[v, .bool false] w fun e w' => ∃ a k c ma mn mc, e = .returned (.agg #[.slice a k c, .slice ma mn mc, .int .i64 (Mb.seq mb), .int .i64 mb.o]) ∧ FtlOwn w' w.heap.size w'.heap.size a k c mb.bs ma mn mb.L ∧ Below w.heap.size w w' := by
  rcases h with ⟨rfl, rfl⟩ | ⟨g, m, va, ma, mn, mc, rfl, h1, h2, h3, h4, h5, h6, h7, h8⟩
  · refine (told_nil false w).mono ?_
    rintro e w1 ⟨rfl, hB⟩
    exact ⟨none, 0, 0, none, 0, 0, rfl, (FtlOwn.nought w1).lower hB.size, hB⟩
  · refine (told_any g m mb.bs n h3 h4 h5 va h2 ma mn mc mb.L h6 (Mb.seq mb) mb.o h7 w h1 h8).mono ?_
    rintro e w1 ⟨k, ma2, mc2, rfl, hF, hB⟩
    exact ⟨_, _, _, ma2, mn, mc2, rfl, hF, hB⟩

theorem nil_eq {P : Program} {t e : TypeId} (ht : P.underlying t = some (.slice e)) (W : World) : (binOp BinOp.eql t (.slice none 0 0) (.slice none 0 0)).run P W = .ok (.bool true) W := by
  have h : ∀ d, (Op.equalIn (d + 1) t (.slice none 0 0) (.slice none 0 0)).run P W = .ok true W := fun d => by simp [Op.equalIn, run_underlying ht]
  have h2 := h 9999
  simp only [binOp]
  simp [Op.equal, Op.maxDepth, h2]
theorem cloneNil_any (w : World) : Calls Tryz.prog 103 #[.slice none 0 0] w fun e w' => e = .returned (.slice none 0 0) ∧ w' = w := by
  have hnil : ∀ W : World, (binOp BinOp.eql 28 (.slice none 0 0) (.slice none 0 0)).run Tryz.prog W = .ok (.bool true) W := nil_eq Tryz.underlying28
  go_enter Tryz.func103, Tryz.ntmps103
  go_wp2
  go_ret
  exact ⟨rfl, rfl⟩
end Go.Proofs.YtjgcjeaplckbbaaGreatDoor

/- The program's arrays: what a crew tells as an Array. -/
namespace Go.Proofs.YtjgcjeaplckbbaaGreatDoor
open Go.RowKit
set_option linter.unusedVariables false
set_option linter.unusedSimpArgs false

theorem infoFtlR : (Tryz.prog.info? 53).map (fun i => (i.zero, i.size, i.bytes)) = some (some (.agg #[.slice none 0 0, .slice none 0 0, .int .i64 0, .int .i64 0]), 4, 64) := by kernel_rfl
theorem make_ftls (n : Nat) (hn : n ≤ 1048576) (w : World) :
    (Instr.makeSlice 27 (.int .i64 (n : Int)) (.int .i64 (n : Int))).run Tryz.prog w = .ok (.slice (some ⟨w.heap.size, 0, none⟩) n n) (w.alloc (.cells (madeCells #[.slice none 0 0, .slice none 0 0, .int .i64 0, .int .i64 0] (n * 4)) 53)) := by
  obtain ⟨i, hi, hz⟩ := Option.map_eq_some_iff.1 infoFtlR
  simp only [Prod.mk.injEq] at hz
  obtain ⟨hz0, hz1, hz2⟩ := hz
  have h := run_make (P := Tryz.prog) w 27 53 i _ Tryz.underlying27 hi hz0 .i64 .i64 (n : Int) (n : Int) (by omega) (Int.le_refl _) (by rw [hz2]; omega) (by omega)
  rw [hz1] at h
  simpa [Value.cells] using h

/-- The block G has N cells that can be written. -/
def Room (w : World) (G N : Nat) : Prop := (∀ i, i < N → ∃ v, w.cell? ⟨G, i, none⟩ = some v) ∧ ∀ i, w.frozen? ⟨G, i, none⟩ = false
theorem Room.of_block {w w' : World} {G N : Nat} (h : Room w G N) (e : w'.heap[G]? = w.heap[G]?) : Room w' G N :=
  ⟨fun i hi => by
    obtain ⟨v, hv⟩ := h.1 i hi
    exact ⟨v, (World.cell?_of_block (w := w) (a := ⟨G, i, none⟩) e).trans hv⟩, fun i => (by simp only [World.frozen?, e] : w'.frozen? ⟨G, i, none⟩ = w.frozen? ⟨G, i, none⟩).trans (h.2 i)⟩
theorem Room.set {w : World} {G N : Nat} (h : Room w G N) (j : Nat) (v : Value) : Room (w.setCell ⟨G, j, none⟩ v) G N :=
  ⟨fun i hi => by
    obtain ⟨u, hu⟩ := h.1 i hi
    by_cases e : i = j
    · subst e
      exact ⟨v, World.cell?_setCell_same' _ _ _ (by rw [hu]; rfl)⟩
    · exact ⟨u, by rw [World.cell?_setCell_other _ _ _ _ (by simp <;> omega)]; exact hu⟩, fun i => by simpa using h.2 i⟩
theorem Room.made (w : World) (z : Array Value) (N t : Nat) : Room (w.alloc (.cells (madeCells z N) t)) w.heap.size N :=
  ⟨fun i hi => ⟨(madeCells z N)[i]'(by rw [size_madeCells]; exact hi), by simp [size_madeCells, hi]⟩, fun i => by simp⟩
theorem OwnInts.touchA {w w' : World} {t : TypeId} {B r : Nat} {v : Value} {L : List Int} (h : OwnInts w t B v L) (hr : r < B) (hT : Touch (· = r) w w') : OwnInts w' t B v L := by
  refine ⟨h.1, ?_⟩
  rcases h.2 with ⟨hv, hl⟩ | ⟨g, cap, cur, rfl, hb, hg, hrest⟩
  · exact .inl ⟨hv, hl⟩
  · refine .inr ⟨g, cap, cur, rfl, hb, ?_, hrest⟩
    rw [hT.block g (Array.getElem?_eq_some_iff.1 hg).1 (by show ¬ g = r; omega)]
    exact hg

/-- A crew that is idle lies in block c: its workers in the row W, its weights from wa on. -/
structure CrewAt (w : World) (c : Nat) (wa : Option Addr) (wc k : Nat) (n lost : Int) (W cap : Nat) : Prop where
  weights : w.cell? ⟨c, 0, none⟩ = some (.slice wa k wc)
  blocks : w.cell? ⟨c, 3, none⟩ = some (.int .i64 n)
  lost : w.cell? ⟨c, 4, none⟩ = some (.int .i64 lost)
  down : w.cell? ⟨c, 5, none⟩ = some (.bool false)
  workers : w.cell? ⟨c, 6, none⟩ = some (.slice (some ⟨W, 0, none⟩) k cap)
  log : w.cell? ⟨c, 7, none⟩ = some (.slice none 0 0)
theorem CrewAt.of_block {w w' : World} {c : Nat} {wa : Option Addr} {wc k : Nat} {n lost : Int} {W cap : Nat} (h : CrewAt w c wa wc k n lost W cap) (e : w'.heap[c]? = w.heap[c]?) : CrewAt w' c wa wc k n lost W cap := by
  have hc : ∀ j, w'.cell? ⟨c, j, none⟩ = w.cell? ⟨c, j, none⟩ := fun j => World.cell?_of_block (w := w) (a := ⟨c, j, none⟩) e
  exact ⟨(hc _).trans h.weights, (hc _).trans h.blocks, (hc _).trans h.lost, (hc _).trans h.down, (hc _).trans h.workers, (hc _).trans h.log⟩

theorem mbTouch (w : World) (P a b c d : Nat) (v0 v1 v2 v3 : Value) : Touch (fun k => k = P) w ((((w.setCell ⟨P, a, none⟩ v0).setCell ⟨P, b, none⟩ v1).setCell ⟨P, c, none⟩ v2).setCell ⟨P, d, none⟩ v3) :=
  by
  have h0 : Touch (fun k => k = P) w w := Touch.refl _ w
  exact Touch.setCell (p := ⟨P, d, none⟩) (Touch.setCell (p := ⟨P, c, none⟩) (Touch.setCell (p := ⟨P, b, none⟩) (Touch.setCell (p := ⟨P, a, none⟩) h0 rfl _) rfl _) rfl _) rfl _

set_option maxRecDepth 100000 in
set_option maxHeartbeats 4000000 in
theorem array_any (c : Nat) (wa : Option Addr) (wc k n : Nat) (lost : Int) (W cap : Nat) (L : List Int) (ms : List Mb) (hk : ms.length = k) (h1 : 1 ≤ k) (h5 : k ≤ 5) (hL : L.length = k) (w : World) (hI : IntsAt w wa L) (hC : CrewAt w c wa wc k n lost W cap) (hws : ∀ i m, ms[i]? = some m → ∃ v, w.cell? ⟨W, i, none⟩ = some v ∧ WorkOf w v n m) :
    Calls Tryz.prog 50 #[.pointer (some ⟨c, 0, none⟩)] w fun e w' => ∃ G v T, e = .returned (.agg #[v, .int .i64 n, .int .i64 lost, .bool false, .slice (some ⟨G, 0, none⟩) k k, .slice none 0 0]) ∧ w.heap.size ≤ G ∧ MemsOwn w' G 0 (G + 1) T ms ∧ Room w' G (k * 4) ∧ OwnInts w' 2 T v L ∧ Below w.heap.size w w' := by
  have hmk := make_ftls k (by omega)
  have hcl : c < w.heap.size := World.block_lt_of_cell? _ _ hC.weights
  have HCR : Hid (∀ W', Below w.heap.size w W' → CrewAt W' c wa wc k n lost W cap) := fun W' hW => hC.of_block (hW.block c hcl)
  have HWK : Hid (∀ W', Below w.heap.size w W' → ∀ i m, ms[i]? = some m → ∃ v, W'.cell? ⟨W, i, none⟩ = some v ∧ WorkOf W' v n m) := fun W' hW i m hm => by
    obtain ⟨v, hv, ho⟩ := hws i m hm
    exact ⟨v, (hW.cell (p := ⟨W, i, none⟩) (World.block_lt_of_cell? _ _ hv)).trans hv, ho.below hW⟩
  have HIN : Hid (∀ W', Below w.heap.size w W' → IntsAt W' wa L) := fun W' hW => hI.below hW (Nat.le_refl _)
  have HK := hide hk
  have HLL := hide hL
  have q0 := hC.workers
  have q1 := hC.down
  clear hI hC hws hk hL
  go_enter Tryz.func50, Tryz.ntmps50
  go_wp2_with fail
  clear hmk
  go_loopw [17] (fun i wr => ∃ j : Nat, j ≤ k ∧ i = .int .i64 j ∧ Room wr (w.heap.size + 1) (k * 4) ∧ MemsOwn wr (w.heap.size + 1) 0 (w.heap.size + 2) wr.heap.size (ms.take j) ∧ wr.heap[w.heap.size]? = some (.cells #[.slice none 0 0, .int .i64 0, .int .i64 0, .bool false, .slice none 0 0, .slice none 0 0] 30 (0, 0)) ∧ Below w.heap.size w wr) (fun i _ => k - (intOf i).toNat)
  case atStart =>
    refine ⟨0, Nat.zero_le _, rfl, ?_, ?_, ?_, ?_⟩
    · have := Room.made (w.alloc (.cells #[.slice none 0 0, .int .i64 0, .int .i64 0, .bool false, .slice none 0 0, .slice none 0 0] 30)) #[.slice none 0 0, .slice none 0 0, .int .i64 0, .int .i64 0] (k * 4) 53
      simpa using this
    · simp [MemsOwn]
    · exact (((Below.refl _ (w.alloc _)).alloc (Nat.le_refl _) _).block w.heap.size (by simp)).trans (World.alloc_heap_new w _)
    · exact ((Below.refl _ w).alloc (Nat.le_refl _) _).alloc (by simp) _
  case round =>
    obtain ⟨j, hj, rfl, hR, hM, hZ, hB⟩ := hrel
    have hCC := unhide HCR wr hB
    have HR := hide hR
    have HM := hide hM
    have HZ := hide hZ
    have q2 := hCC.down
    have hsr := hB.size
    clear hR hM hZ hCC q0 q1
    by_cases hlt : j < k
    · obtain ⟨m, hm⟩ := getElem?_ex (l := ms) (k := j) (by have := unhide HK; omega)
      obtain ⟨v, hv, ho⟩ := unhide HWK wr hB j m hm
      have HO := hide ho
      have HMM := hide hm
      clear ho hm
      go_wp2_with fail
      refine (told_of v n m wr (unhide HO)).mono ?_
      rintro e w1 ⟨a1, k1, c1, ma1, mn1, mc1, rfl, hF, hB1⟩
      have hs1 := hB1.size
      obtain ⟨u9, hu9⟩ := (unhide HR).1 0 (by omega)
      have hgl9 : w.heap.size + 1 < wr.heap.size := World.block_lt_of_cell? _ _ hu9
      have hR1 : Room w1 (w.heap.size + 1) (k * 4) := (unhide HR).of_block (hB1.block _ hgl9)
      clear hu9
      have hM1 := MemsOwn.below hB1 (unhide HM)
      have hzl : w.heap.size < wr.heap.size := (Array.getElem?_eq_some_iff.mp (unhide HZ)).1
      have hZ1 := (hB1.block w.heap.size hzl).trans (unhide HZ)
      have hW1 := hB.trans (hB1.mono hsr)
      obtain ⟨u0, z0⟩ := hR1.1 (j * 4) (by omega)
      obtain ⟨u1, z1⟩ := hR1.1 (j * 4 + 1) (by omega)
      obtain ⟨u2, z2⟩ := hR1.1 (j * 4 + 2) (by omega)
      obtain ⟨u3, z3⟩ := hR1.1 (j * 4 + 3) (by omega)
      have f0 := hR1.2 (j * 4)
      have f1 := hR1.2 (j * 4 + 1)
      have f2 := hR1.2 (j * 4 + 2)
      have f3 := hR1.2 (j * 4 + 3)
      have HR1 := hide hR1
      have HM1 := hide hM1
      have HZ1 := hide hZ1
      have HF := hide hF
      have HW1 := hide hW1
      clear hR1 hM1 hZ1 hF hW1 hB1 HR HM HZ HO
      go_wp2_with fail
      obtain ⟨W5, hW5⟩ : ∃ W5, W5 = ((((w1.setCell ⟨w.heap.size + 1, j * 4, none⟩ (.slice a1 k1 c1)).setCell ⟨w.heap.size + 1, j * 4 + 1, none⟩ (.slice ma1 mn1 mc1)).setCell ⟨w.heap.size + 1, j * 4 + 2, none⟩ (.int .i64 (Mb.seq m))).setCell ⟨w.heap.size + 1, j * 4 + 3, none⟩ (.int .i64 m.o)) := ⟨_, rfl⟩
      have y0 : W5.cell? ⟨w.heap.size + 1, j * 4, none⟩ = some (.slice a1 k1 c1) := by rw [hW5, World.cell?_setCell_other _ _ _ _ (by simp), World.cell?_setCell_other _ _ _ _ (by simp), World.cell?_setCell_other _ _ _ _ (by simp), World.cell?_setCell_same' _ _ _ (by rw [z0]; rfl)]
      have y1 : W5.cell? ⟨w.heap.size + 1, j * 4 + 1, none⟩ = some (.slice ma1 mn1 mc1) := by rw [hW5, World.cell?_setCell_other _ _ _ _ (by simp), World.cell?_setCell_other _ _ _ _ (by simp), World.cell?_setCell_same' _ _ _ (by rw [World.cell?_setCell_other _ _ _ _ (by simp), z1]; rfl)]
      have y2 : W5.cell? ⟨w.heap.size + 1, j * 4 + 2, none⟩ = some (.int .i64 (Mb.seq m)) := by rw [hW5, World.cell?_setCell_other _ _ _ _ (by simp), World.cell?_setCell_same' _ _ _ (by rw [World.cell?_setCell_other _ _ _ _ (by simp), World.cell?_setCell_other _ _ _ _ (by simp), z2]; rfl)]
      have y3 : W5.cell? ⟨w.heap.size + 1, j * 4 + 3, none⟩ = some (.int .i64 m.o) := by rw [hW5, World.cell?_setCell_same' _ _ _ (by rw [World.cell?_setCell_other _ _ _ _ (by simp), World.cell?_setCell_other _ _ _ _ (by simp), World.cell?_setCell_other _ _ _ _ (by simp), z3]; rfl)]
      have hT5 := mbTouch w1 (w.heap.size + 1) (j * 4) (j * 4 + 1) (j * 4 + 2) (j * 4 + 3) (.slice a1 k1 c1) (.slice ma1 mn1 mc1) (.int .i64 (Mb.seq m)) (.int .i64 m.o)
      rw [← hW5] at hT5
      have hs5 : W5.heap.size = w1.heap.size := by rw [hW5]; simp [World.setCell]
      have hlow : ∀ o, o < j * 4 → W5.cell? ⟨w.heap.size + 1, o, none⟩ = w1.cell? ⟨w.heap.size + 1, o, none⟩ := fun o ho => by rw [hW5, World.cell?_setCell_other _ _ _ _ (by simp <;> omega), World.cell?_setCell_other _ _ _ _ (by simp <;> omega), World.cell?_setCell_other _ _ _ _ (by simp <;> omega), World.cell?_setCell_other _ _ _ _ (by simp <;> omega)]
      have hR5 : Room W5 (w.heap.size + 1) (k * 4) := by rw [hW5]; exact ((((unhide HR1).set _ _).set _ _).set _ _).set _ _
      rw [← hW5]
      have htl : (ms.take j).length = j := by rw [List.length_take]; have := unhide HK; omega
      refine ⟨⟨j + 1, by omega, by simp, hR5, ?_, ?_, ?_⟩, by simp [intOf]; omega⟩
      · rw [List.take_add_one, unhide HMM]
        refine MemsOwn.snoc (MemsOwn.keep hT5 (unhide HM1) (fun q hq => by omega) (fun o ho => hlow o (by rw [htl] at ho; omega))) ?_ (by rw [hs5]; exact hs1)
        rw [htl, Nat.zero_add, hs5]
        refine ⟨a1, k1, c1, ma1, mn1, mc1, ?_, ?_, ?_, ?_, (unhide HF).touch hT5 (fun q hq => by omega)⟩
        · rw [Nat.mul_comm]; exact y0
        · rw [Nat.mul_comm]; exact y1
        · rw [Nat.mul_comm]; exact y2
        · rw [Nat.mul_comm]; exact y3
      · exact (hT5.block w.heap.size (by omega) (by simp)).trans (unhide HZ1)
      · exact (unhide HW1).trans (hT5.below (by omega) (fun q hq => by omega))
    · have hjk : j = k := by omega
      subst hjk
      have hMS : MemsOwn wr (w.heap.size + 1) 0 (w.heap.size + 2) wr.heap.size ms := by
        have h := unhide HM
        rw [List.take_of_length_le (by have := unhide HK; omega)] at h
        exact h
      have HMS := hide hMS
      have HSW : Hid (∀ W, Below wr.heap.size wr W → W.cell? ⟨c, 0, none⟩ = some (.slice wa j wc) ∧ W.cell? ⟨c, 3, none⟩ = some (.int .i64 n) ∧ W.cell? ⟨c, 4, none⟩ = some (.int .i64 lost) ∧ W.cell? ⟨c, 5, none⟩ = some (.bool false) ∧ W.cell? ⟨c, 7, none⟩ = some (.slice none 0 0)) := fun W hW => by
        have h := unhide HCR W (hB.trans (hW.mono hsr))
        exact ⟨h.weights, h.blocks, h.lost, h.down, h.log⟩
      have hzl : w.heap.size < wr.heap.size := (Array.getElem?_eq_some_iff.mp (unhide HZ)).1
      have HZR : Hid (∀ W, Below wr.heap.size wr W → (∀ i, W.cell? ⟨w.heap.size, i, none⟩ = (#[.slice none 0 0, .int .i64 0, .int .i64 0, .bool false, .slice none 0 0, .slice none 0 0] : Array Value)[i]?) ∧ ∀ i, W.frozen? ⟨w.heap.size, i, none⟩ = false) := fun W hW => by
        have hr := (hW.block w.heap.size hzl).trans (unhide HZ)
        exact ⟨fun i => cell_of_row _ _ i _ _ _ hr, fun i => frozen_of_row _ _ i _ _ hr⟩
      have HCL : Hid (∀ W, Below wr.heap.size wr W → Calls Tryz.prog 102 #[.slice wa j wc] W fun e w' => ∃ v, e = .returned v ∧ OwnInts w' 2 W.heap.size v L ∧ Below W.heap.size W w') := fun W hW => clone_any wa wc L j (unhide HLL) h1 (by omega) W ((unhide HIN) W (hB.trans (hW.mono hsr)))
      have HBD : Hid (Below wr.heap.size wr wr.drew) := (Below.refl _ _).drew
      have hmix : Tryz.prog.follows .mixedOrders = true := by kernel_rfl
      clear hMS q2
      go_upto_region 7 with fail
      refine wp_region_held_drew (S := fun W => W.cell? ⟨c, 0, none⟩ = some (.slice wa j wc) ∧ W.cell? ⟨c, 3, none⟩ = some (.int .i64 n) ∧ W.cell? ⟨c, 4, none⟩ = some (.int .i64 lost) ∧ W.cell? ⟨c, 5, none⟩ = some (.bool false) ∧ W.cell? ⟨c, 7, none⟩ = some (.slice none 0 0)) hmix (unhide HSW _ (unhide HBD)) (fun hHeld => ?_)
      refine wpAnyH_take (i := 0) (v := .pointer (some ⟨c, 0, none⟩)) rfl (by kernel_rfl) (by kernel_rfl) (by kernel_rfl) (fun _ _ _ h => h) (Or.inl ⟨by rfl, ?_⟩) hHeld ?_
      · (intro W hSW; obtain ⟨s0, s3, s4, s5, s7⟩ := hSW; go_simp)
      simp only [Act.put, List.setIfInBounds_toArray, List.set_cons_zero, List.set_cons_succ]
      refine wpAnyH_take (i := 1) (v := .pointer (some ⟨c, 0, none⟩)) rfl (by kernel_rfl) (by kernel_rfl) (by kernel_rfl) (fun _ _ _ h => h) (Or.inl ⟨by rfl, ?_⟩) hHeld ?_
      · (intro W hSW; obtain ⟨s0, s3, s4, s5, s7⟩ := hSW; go_simp)
      simp only [Act.put, List.setIfInBounds_toArray, List.set_cons_zero, List.set_cons_succ]
      refine wpAnyH_take (i := 2) (v := .pointer (some ⟨c, 0, none⟩)) rfl (by kernel_rfl) (by kernel_rfl) (by kernel_rfl) (fun _ _ _ h => h) (Or.inl ⟨by rfl, ?_⟩) hHeld ?_
      · (intro W hSW; obtain ⟨s0, s3, s4, s5, s7⟩ := hSW; go_simp)
      simp only [Act.put, List.setIfInBounds_toArray, List.set_cons_zero, List.set_cons_succ]
      refine wpAnyH_take (i := 3) (v := .slice wa j wc) rfl (by kernel_rfl) (by kernel_rfl) (by kernel_rfl) (fun _ _ _ h => h) (Or.inl ⟨by rfl, ?_⟩) hHeld ?_
      · (intro W hSW; obtain ⟨s0, s3, s4, s5, s7⟩ := hSW; go_simp)
      simp only [Act.put, List.setIfInBounds_toArray, List.set_cons_zero, List.set_cons_succ]
      refine wpAnyH_take (i := 5) (v := .pointer (some ⟨c, 0, none⟩)) rfl (by kernel_rfl) (by kernel_rfl) (by kernel_rfl) (fun _ _ _ h => h) (Or.inl ⟨by rfl, ?_⟩) hHeld ?_
      · (intro W hSW; obtain ⟨s0, s3, s4, s5, s7⟩ := hSW; go_simp)
      simp only [Act.put, List.setIfInBounds_toArray, List.set_cons_zero, List.set_cons_succ]
      refine wpAnyH_take (i := 6) (v := .pointer (some ⟨c, 0, none⟩)) rfl (by kernel_rfl) (by kernel_rfl) (by kernel_rfl) (fun _ _ _ h => h) (Or.inl ⟨by rfl, ?_⟩) hHeld ?_
      · (intro W hSW; obtain ⟨s0, s3, s4, s5, s7⟩ := hSW; go_simp)
      simp only [Act.put, List.setIfInBounds_toArray, List.set_cons_zero, List.set_cons_succ]
      refine wpAnyH_take (i := 7) (v := .pointer (some ⟨c, 3, none⟩)) rfl (by kernel_rfl) (by kernel_rfl) (by kernel_rfl) (fun _ _ _ h => h) (Or.inl ⟨by rfl, ?_⟩) hHeld ?_
      · (intro W hSW; obtain ⟨s0, s3, s4, s5, s7⟩ := hSW; go_simp)
      simp only [Act.put, List.setIfInBounds_toArray, List.set_cons_zero, List.set_cons_succ]
      refine wpAnyH_take (i := 8) (v := .int .i64 (n : Int)) rfl (by kernel_rfl) (by kernel_rfl) (by kernel_rfl) (fun _ _ _ h => h) (Or.inl ⟨by rfl, ?_⟩) hHeld ?_
      · (intro W hSW; obtain ⟨s0, s3, s4, s5, s7⟩ := hSW; go_simp)
      simp only [Act.put, List.setIfInBounds_toArray, List.set_cons_zero, List.set_cons_succ]
      refine wpAnyH_take (i := 9) (v := .pointer (some ⟨c, 0, none⟩)) rfl (by kernel_rfl) (by kernel_rfl) (by kernel_rfl) (fun _ _ _ h => h) (Or.inl ⟨by rfl, ?_⟩) hHeld ?_
      · (intro W hSW; obtain ⟨s0, s3, s4, s5, s7⟩ := hSW; go_simp)
      simp only [Act.put, List.setIfInBounds_toArray, List.set_cons_zero, List.set_cons_succ]
      refine wpAnyH_take (i := 10) (v := .pointer (some ⟨c, 0, none⟩)) rfl (by kernel_rfl) (by kernel_rfl) (by kernel_rfl) (fun _ _ _ h => h) (Or.inl ⟨by rfl, ?_⟩) hHeld ?_
      · (intro W hSW; obtain ⟨s0, s3, s4, s5, s7⟩ := hSW; go_simp)
      simp only [Act.put, List.setIfInBounds_toArray, List.set_cons_zero, List.set_cons_succ]
      refine wpAnyH_take (i := 11) (v := .pointer (some ⟨c, 4, none⟩)) rfl (by kernel_rfl) (by kernel_rfl) (by kernel_rfl) (fun _ _ _ h => h) (Or.inl ⟨by rfl, ?_⟩) hHeld ?_
      · (intro W hSW; obtain ⟨s0, s3, s4, s5, s7⟩ := hSW; go_simp)
      simp only [Act.put, List.setIfInBounds_toArray, List.set_cons_zero, List.set_cons_succ]
      refine wpAnyH_take (i := 12) (v := .int .i64 lost) rfl (by kernel_rfl) (by kernel_rfl) (by kernel_rfl) (fun _ _ _ h => h) (Or.inl ⟨by rfl, ?_⟩) hHeld ?_
      · (intro W hSW; obtain ⟨s0, s3, s4, s5, s7⟩ := hSW; go_simp)
      simp only [Act.put, List.setIfInBounds_toArray, List.set_cons_zero, List.set_cons_succ]
      refine wpAnyH_take (i := 13) (v := .pointer (some ⟨c, 0, none⟩)) rfl (by kernel_rfl) (by kernel_rfl) (by kernel_rfl) (fun _ _ _ h => h) (Or.inl ⟨by rfl, ?_⟩) hHeld ?_
      · (intro W hSW; obtain ⟨s0, s3, s4, s5, s7⟩ := hSW; go_simp)
      simp only [Act.put, List.setIfInBounds_toArray, List.set_cons_zero, List.set_cons_succ]
      refine wpAnyH_take (i := 14) (v := .pointer (some ⟨c, 0, none⟩)) rfl (by kernel_rfl) (by kernel_rfl) (by kernel_rfl) (fun _ _ _ h => h) (Or.inl ⟨by rfl, ?_⟩) hHeld ?_
      · (intro W hSW; obtain ⟨s0, s3, s4, s5, s7⟩ := hSW; go_simp)
      simp only [Act.put, List.setIfInBounds_toArray, List.set_cons_zero, List.set_cons_succ]
      refine wpAnyH_take (i := 15) (v := .pointer (some ⟨c, 5, none⟩)) rfl (by kernel_rfl) (by kernel_rfl) (by kernel_rfl) (fun _ _ _ h => h) (Or.inl ⟨by rfl, ?_⟩) hHeld ?_
      · (intro W hSW; obtain ⟨s0, s3, s4, s5, s7⟩ := hSW; go_simp)
      simp only [Act.put, List.setIfInBounds_toArray, List.set_cons_zero, List.set_cons_succ]
      refine wpAnyH_take (i := 16) (v := .bool false) rfl (by kernel_rfl) (by kernel_rfl) (by kernel_rfl) (fun _ _ _ h => h) (Or.inl ⟨by rfl, ?_⟩) hHeld ?_
      · (intro W hSW; obtain ⟨s0, s3, s4, s5, s7⟩ := hSW; go_simp)
      simp only [Act.put, List.setIfInBounds_toArray, List.set_cons_zero, List.set_cons_succ]
      refine wpAnyH_take (i := 18) (v := .pointer (some ⟨c, 0, none⟩)) rfl (by kernel_rfl) (by kernel_rfl) (by kernel_rfl) (fun _ _ _ h => h) (Or.inl ⟨by rfl, ?_⟩) hHeld ?_
      · (intro W hSW; obtain ⟨s0, s3, s4, s5, s7⟩ := hSW; go_simp)
      simp only [Act.put, List.setIfInBounds_toArray, List.set_cons_zero, List.set_cons_succ]
      refine wpAnyH_take (i := 19) (v := .pointer (some ⟨c, 0, none⟩)) rfl (by kernel_rfl) (by kernel_rfl) (by kernel_rfl) (fun _ _ _ h => h) (Or.inl ⟨by rfl, ?_⟩) hHeld ?_
      · (intro W hSW; obtain ⟨s0, s3, s4, s5, s7⟩ := hSW; go_simp)
      simp only [Act.put, List.setIfInBounds_toArray, List.set_cons_zero, List.set_cons_succ]
      refine wpAnyH_take (i := 20) (v := .pointer (some ⟨c, 7, none⟩)) rfl (by kernel_rfl) (by kernel_rfl) (by kernel_rfl) (fun _ _ _ h => h) (Or.inl ⟨by rfl, ?_⟩) hHeld ?_
      · (intro W hSW; obtain ⟨s0, s3, s4, s5, s7⟩ := hSW; go_simp)
      simp only [Act.put, List.setIfInBounds_toArray, List.set_cons_zero, List.set_cons_succ]
      refine wpAnyH_take (i := 21) (v := .slice none 0 0) rfl (by kernel_rfl) (by kernel_rfl) (by kernel_rfl) (fun _ _ _ h => h) (Or.inl ⟨by rfl, ?_⟩) hHeld ?_
      · (intro W hSW; obtain ⟨s0, s3, s4, s5, s7⟩ := hSW; go_simp)
      simp only [Act.put, List.setIfInBounds_toArray, List.set_cons_zero, List.set_cons_succ]
      refine wpAnyH_take (i := 17) (v := .slice (some ⟨w.heap.size + 1, 0, none⟩) j j) rfl (by kernel_rfl) (by kernel_rfl) (by kernel_rfl) (fun _ _ _ h => h) (Or.inl ⟨by rfl, ?_⟩) hHeld ?_
      · (intro W hSW; obtain ⟨s0, s3, s4, s5, s7⟩ := hSW; go_simp)
      simp only [Act.put, List.setIfInBounds_toArray, List.set_cons_zero, List.set_cons_succ]
      refine wpAnyH_ready (rs := [4]) (by kernel_rfl) (by simp) ?_
      refine AllReadyH.cons rfl (fun K hK => ?_) AllReadyH.nil
      go_simp
      refine (unhide HCL wr.drew (unhide HBD)).mono ?_
      rintro e wC ⟨v, rfl, hv, hB1⟩
      obtain ⟨a2, c2, rfl, -, -⟩ := hv.form
      have HBC := hide ((unhide HBD).trans hB1)
      have hsC := (unhide HBC).size
      have HV := hide hv
      rw [unhide HLL] at HV ⊢
      clear hv hB1
      try go_wp2_with fail
      refine hK.out _ _ ?_ (fun hHeld2 => ?_)
      · exact unhide HSW _ (unhide HBC)
      clear hK K hHeld
      have hHeld := hHeld2
      clear hHeld2
      try simp only [Act.put, List.setIfInBounds_toArray, List.set_cons_zero, List.set_cons_succ]
      refine wpAnyH_ready (rs := [22]) (by kernel_rfl) (by simp) ?_
      refine AllReadyH.cons rfl (fun K hK => ?_) AllReadyH.nil
      go_simp
      refine (cloneNil_any wC).mono ?_
      rintro e w9 ⟨rfl, e9⟩
      have e10 := e9.symm
      subst e10
      clear e9
      try go_wp2_with fail
      refine hK.out _ _ ?_ (fun hHeld2 => ?_)
      · exact unhide HSW _ (unhide HBC)
      clear hK K hHeld
      have hHeld := hHeld2
      clear hHeld2
      try simp only [Act.put, List.setIfInBounds_toArray, List.set_cons_zero, List.set_cons_succ]
      refine wpAnyH_take (i := 23) (v := .agg #[.slice a2 j c2, .int .i64 n, .int .i64 lost, .bool false, .slice (some ⟨w.heap.size + 1, 0, none⟩) j j, .slice none 0 0]) rfl (by kernel_rfl) (by kernel_rfl) (by kernel_rfl) (fun _ _ _ h => h) (Or.inl ⟨by rfl, ?_⟩) hHeld ?_
      · (intro W hSW; obtain ⟨s0, s3, s4, s5, s7⟩ := hSW; go_simp)
      simp only [Act.put, List.setIfInBounds_toArray, List.set_cons_zero, List.set_cons_succ]
      obtain ⟨hzc, hzf⟩ := unhide HZR wC (unhide HBC)
      have z0 := hzc 0
      have z1 := hzc 1
      have z2 := hzc 2
      have z3 := hzc 3
      have z4 := hzc 4
      have z5 := hzc 5
      simp at z0 z1 z2 z3 z4 z5
      have f0 := hzf 0
      have f1 := hzf 1
      have f2 := hzf 2
      have f3 := hzf 3
      have f4 := hzf 4
      have f5 := hzf 5
      clear hzc hzf
      refine wpAnyH_ready (rs := [24]) (by kernel_rfl) (by simp) ?_
      refine AllReadyH.cons rfl (fun K hK => ?_) AllReadyH.nil
      go_simp
      refine hK.out _ _ ?_ (fun hHeld2 => ?_)
      · (obtain ⟨s0, s3, s4, s5, s7⟩ := unhide HSW _ (unhide HBC); have hcw : c < w.heap.size := hcl; exact ⟨by rw [World.cell?_setCell_other _ _ _ _ (by simp <;> omega), World.cell?_setCell_other _ _ _ _ (by simp <;> omega), World.cell?_setCell_other _ _ _ _ (by simp <;> omega), World.cell?_setCell_other _ _ _ _ (by simp <;> omega), World.cell?_setCell_other _ _ _ _ (by simp <;> omega), World.cell?_setCell_other _ _ _ _ (by simp <;> omega)]; exact s0, by rw [World.cell?_setCell_other _ _ _ _ (by simp <;> omega), World.cell?_setCell_other _ _ _ _ (by simp <;> omega), World.cell?_setCell_other _ _ _ _ (by simp <;> omega), World.cell?_setCell_other _ _ _ _ (by simp <;> omega), World.cell?_setCell_other _ _ _ _ (by simp <;> omega), World.cell?_setCell_other _ _ _ _ (by simp <;> omega)]; exact s3, by rw [World.cell?_setCell_other _ _ _ _ (by simp <;> omega), World.cell?_setCell_other _ _ _ _ (by simp <;> omega), World.cell?_setCell_other _ _ _ _ (by simp <;> omega), World.cell?_setCell_other _ _ _ _ (by simp <;> omega), World.cell?_setCell_other _ _ _ _ (by simp <;> omega), World.cell?_setCell_other _ _ _ _ (by simp <;> omega)]; exact s4, by rw [World.cell?_setCell_other _ _ _ _ (by simp <;> omega), World.cell?_setCell_other _ _ _ _ (by simp <;> omega), World.cell?_setCell_other _ _ _ _ (by simp <;> omega), World.cell?_setCell_other _ _ _ _ (by simp <;> omega), World.cell?_setCell_other _ _ _ _ (by simp <;> omega), World.cell?_setCell_other _ _ _ _ (by simp <;> omega)]; exact s5, by rw [World.cell?_setCell_other _ _ _ _ (by simp <;> omega), World.cell?_setCell_other _ _ _ _ (by simp <;> omega), World.cell?_setCell_other _ _ _ _ (by simp <;> omega), World.cell?_setCell_other _ _ _ _ (by simp <;> omega), World.cell?_setCell_other _ _ _ _ (by simp <;> omega), World.cell?_setCell_other _ _ _ _ (by simp <;> omega)]; exact s7⟩)
      clear hK K hHeld
      have hHeld := hHeld2
      clear hHeld2
      try simp only [Act.put, List.setIfInBounds_toArray, List.set_cons_zero, List.set_cons_succ]
      refine wpAnyH_done (by kernel_rfl) ?_ _
      obtain ⟨W5, hW5⟩ : ∃ W5, W5 = ((((((wC.setCell ⟨w.heap.size, 0, none⟩ (.slice a2 j c2)).setCell ⟨w.heap.size, 1, none⟩ (.int .i64 n)).setCell ⟨w.heap.size, 2, none⟩ (.int .i64 lost)).setCell ⟨w.heap.size, 3, none⟩ (.bool false)).setCell ⟨w.heap.size, 4, none⟩ (.slice (some ⟨w.heap.size + 1, 0, none⟩) j j)).setCell ⟨w.heap.size, 5, none⟩ (.slice none 0 0)) := ⟨_, rfl⟩
      have y0 : W5.cell? ⟨w.heap.size, 0, none⟩ = some (.slice a2 j c2) := by rw [hW5, World.cell?_setCell_other _ _ _ _ (by simp), World.cell?_setCell_other _ _ _ _ (by simp), World.cell?_setCell_other _ _ _ _ (by simp), World.cell?_setCell_other _ _ _ _ (by simp), World.cell?_setCell_other _ _ _ _ (by simp), World.cell?_setCell_same' _ _ _ (by rw [z0]; rfl)]
      have y1 : W5.cell? ⟨w.heap.size, 1, none⟩ = some (.int .i64 n) := by rw [hW5, World.cell?_setCell_other _ _ _ _ (by simp), World.cell?_setCell_other _ _ _ _ (by simp), World.cell?_setCell_other _ _ _ _ (by simp), World.cell?_setCell_other _ _ _ _ (by simp), World.cell?_setCell_same' _ _ _ (by rw [World.cell?_setCell_other _ _ _ _ (by simp), z1]; rfl)]
      have y2 : W5.cell? ⟨w.heap.size, 2, none⟩ = some (.int .i64 lost) := by rw [hW5, World.cell?_setCell_other _ _ _ _ (by simp), World.cell?_setCell_other _ _ _ _ (by simp), World.cell?_setCell_other _ _ _ _ (by simp), World.cell?_setCell_same' _ _ _ (by rw [World.cell?_setCell_other _ _ _ _ (by simp), World.cell?_setCell_other _ _ _ _ (by simp), z2]; rfl)]
      have y3 : W5.cell? ⟨w.heap.size, 3, none⟩ = some (.bool false) := by rw [hW5, World.cell?_setCell_other _ _ _ _ (by simp), World.cell?_setCell_other _ _ _ _ (by simp), World.cell?_setCell_same' _ _ _ (by rw [World.cell?_setCell_other _ _ _ _ (by simp), World.cell?_setCell_other _ _ _ _ (by simp), World.cell?_setCell_other _ _ _ _ (by simp), z3]; rfl)]
      have y4 : W5.cell? ⟨w.heap.size, 4, none⟩ = some (.slice (some ⟨w.heap.size + 1, 0, none⟩) j j) := by rw [hW5, World.cell?_setCell_other _ _ _ _ (by simp), World.cell?_setCell_same' _ _ _ (by rw [World.cell?_setCell_other _ _ _ _ (by simp), World.cell?_setCell_other _ _ _ _ (by simp), World.cell?_setCell_other _ _ _ _ (by simp), World.cell?_setCell_other _ _ _ _ (by simp), z4]; rfl)]
      have y5 : W5.cell? ⟨w.heap.size, 5, none⟩ = some (.slice none 0 0) := by rw [hW5, World.cell?_setCell_same' _ _ _ (by rw [World.cell?_setCell_other _ _ _ _ (by simp), World.cell?_setCell_other _ _ _ _ (by simp), World.cell?_setCell_other _ _ _ _ (by simp), World.cell?_setCell_other _ _ _ _ (by simp), World.cell?_setCell_other _ _ _ _ (by simp), z5]; rfl)]
      have h00 : Touch (fun q => q = w.heap.size) wC wC := Touch.refl _ wC
      have hT5 : Touch (fun q => q = w.heap.size) wC W5 := by
        rw [hW5]
        exact Touch.setCell (p := ⟨w.heap.size, 5, none⟩) (Touch.setCell (p := ⟨w.heap.size, 4, none⟩) (Touch.setCell (p := ⟨w.heap.size, 3, none⟩) (Touch.setCell (p := ⟨w.heap.size, 2, none⟩) (Touch.setCell (p := ⟨w.heap.size, 1, none⟩) (Touch.setCell (p := ⟨w.heap.size, 0, none⟩) (h00) rfl _) rfl _) rfl _) rfl _) rfl _) rfl _
      have hs5 : W5.heap.size = wC.heap.size := by rw [hW5]; simp [World.setCell]
      have hWW : Below w.heap.size w W5 := (hB.trans ((unhide HBC).mono hsr)).trans (hT5.below (by omega) (fun q hq => by omega))
      have hMF : MemsOwn W5 (w.heap.size + 1) 0 (w.heap.size + 2) wr.heap.size ms := MemsOwn.touch hT5 (by simp) (MemsOwn.below (unhide HBC) (unhide HMS)) (fun q hq => by omega)
      have hVF : OwnInts W5 2 wr.heap.size (.slice a2 j c2) L := OwnInts.touchA (unhide HV) hzl hT5
      have HRF : Hid (Room W5 (w.heap.size + 1) (j * 4)) := by
        obtain ⟨u9, hu9⟩ := (unhide HR).1 0 (by omega)
        have hgl9 : w.heap.size + 1 < wr.heap.size := World.block_lt_of_cell? _ _ hu9
        have hgb := (unhide HBC).size
        exact ((unhide HR).of_block ((unhide HBC).block _ hgl9)).of_block (hT5.block _ (by omega) (by simp))
      have HMF := hide hMF
      have HVF := hide hVF
      try rw [← hW5]
      clear hT5 z0 z1 z2 z3 z4 z5 f0 f1 f2 f3 f4 f5 hHeld hMF hVF h00
      clear hW5
      go_wp2
      exact bodyPost_ret (v := .agg #[.slice a2 j c2, .int .i64 n, .int .i64 lost, .bool false, .slice (some ⟨w.heap.size + 1, 0, none⟩) j j, .slice none 0 0]) (by simp [results, Tryz.results50, go_sem, y0, y1, y2, y3, y4, y5]) rfl ⟨w.heap.size + 1, .slice a2 j c2, wr.heap.size, rfl, by omega, unhide HMF, unhide HRF, unhide HVF, hWW⟩
end Go.Proofs.YtjgcjeaplckbbaaGreatDoor

/- The program's workers: newWorker. -/
namespace Go.Proofs.YtjgcjeaplckbbaaGreatDoor
open Go.RowKit
set_option linter.unusedVariables false
set_option linter.unusedSimpArgs false

theorem ccBs_newCC (n : Nat) : ccBs (newCC n) n = newBs n := by
  apply List.ext_getElem?
  intro i
  by_cases hi : i < n
  · rw [ccBs_at _ hi]
    simp [newBs, hi, newCC, zeroBk, ccPs]
    try rfl
  · rw [List.getElem?_eq_none (by rw [ccBs_length]; omega), List.getElem?_eq_none (by rw [newBs_length]; omega)]

set_option maxRecDepth 100000 in
theorem workRow (v : Value) : Array.foldl (fun (cs : Array Value) (x : Value × Nat) => cs.setIfInBounds x.2 x.1) Tryz.zeroCells164 (Tryz.zeroCells128.setIfInBounds 0 v).zipIdx 0 205 = Tryz.zeroCells164.setIfInBounds 0 v := by kernel_rfl
theorem workTake : Tryz.zeroCells164.toList.take 205 = Tryz.zeroCells128.toList := by kernel_rfl
theorem workTail : Tryz.zeroCells164.toList.drop 205 = [.slice none 0 0, .slice none 0 0, .int .i64 0, .int .i64 0, .chan none, .chan none] := by kernel_rfl
theorem workCell (n : Int) (j : Nat) (hj : j < 205) : (Tryz.zeroCells164.setIfInBounds 0 (.int .i64 n))[j]? = (ccA (newCC n))[j]? := by
  have h0 : (ccA (newCC n))[j]? = (Tryz.zeroCells128.toList.set 0 (.int .i64 n))[j]? := by rw [setCC, Array.getElem?_toList]
  rw [h0, ← workTake, ← Array.getElem?_toList, Array.toList_setIfInBounds, List.getElem?_set, List.getElem?_set, List.getElem?_take, List.length_take]
  by_cases e : 0 = j
  · rw [if_pos e, if_pos e]
    have hsz : Tryz.zeroCells164.toList.length = 211 := by kernel_rfl
    rw [hsz]
    rfl
  · rw [if_neg e, if_neg e, if_pos hj]
theorem workRest (v : Value) (i : Nat) : (Tryz.zeroCells164.setIfInBounds 0 v)[205 + i]? = ([.slice none 0 0, .slice none 0 0, .int .i64 0, .int .i64 0, .chan none, .chan none] : List Value)[i]? := by
  rw [← workTail, List.getElem?_drop, ← Array.getElem?_toList, Array.toList_setIfInBounds, List.getElem?_set, if_neg (by omega)]

set_option maxRecDepth 100000 in
set_option maxHeartbeats 2000000 in
theorem newWorker_any (n : Nat) (h1 : 4 ≤ n) (h2 : n ≤ 12) (w : World) :
    Calls Tryz.prog 49 #[.int .i64 n] w fun e w' => ∃ g ma mc, e = .returned (.pointer (some ⟨g, 0, none⟩)) ∧ w.heap.size ≤ g ∧ g < w'.heap.size ∧ WorkAt w' g (newCC n) (.slice none 0 0) ma (newMap n).length mc 1 0 ∧ IntsAt w' ma (newMap n) ∧ MineFrom w' ma (newMap n).length w.heap.size ∧ Below w.heap.size w w' := by
  have HSC := hide (setCC n)
  go_enter Tryz.func49, Tryz.ntmps49
  go_wp2_with fail
  rw [workRow]
  have HK := hide (fun j hj => workCell n j hj)
  have HR := hide (workRest (.int .i64 n))
  obtain ⟨A, hA⟩ : ∃ A, A = Tryz.zeroCells164.setIfInBounds 0 (.int .i64 n) := ⟨_, rfl⟩
  rw [← hA] at HK HR ⊢
  have hc : ∀ j, (w.alloc (.cells A 164)).cell? ⟨w.heap.size, j, none⟩ = A[j]? := fun j => by simp
  have hf : ∀ j, (w.alloc (.cells A 164)).frozen? ⟨w.heap.size, j, none⟩ = false := fun j => by simp
  have hb1 : Below w.heap.size w (w.alloc (.cells A 164)) := (Below.refl _ w).alloc (Nat.le_refl _) _
  have hW : WorkAt (w.alloc (.cells A 164)) w.heap.size (newCC n) (.slice none 0 0) none 0 0 0 0 := ⟨fun j hj => (hc j).trans ((unhide HK) j hj), (hc _).trans (unhide HR 0), (hc _).trans (unhide HR 1), (hc _).trans (unhide HR 2), (hc _).trans (unhide HR 3), hf⟩
  refine (settle_any w.heap.size (newCC n) (newBs n) n (newBs_length n) rfl (ccBs_newCC n) (chipOk_newBs h1 h2) _ ⟨_, _, _, rfl⟩ none 0 0 0 0 1 0 _ hW).mono ?_
  rintro e w1 ⟨rfl, ma, mn, mc, L, r, hW1, hM, hL, hI, hMine, hT⟩
  obtain ⟨rfl, rfl⟩ := newMap_is hM
  subst hL
  have hs := hT.size
  simp only [World.size_alloc] at hs hMine
  have hB := hb1.trans (hT.below (B := w.heap.size) (by simp) (fun k hk => by omega))
  have HG : Hid (∃ g ma mc, (.returned (.pointer (some ⟨w.heap.size, 0, none⟩)) : Ending) = .returned (.pointer (some ⟨g, 0, none⟩)) ∧ w.heap.size ≤ g ∧ g < w1.heap.size ∧ WorkAt w1 g (newCC n) (.slice none 0 0) ma (newMap n).length mc 1 0 ∧ IntsAt w1 ma (newMap n) ∧ MineFrom w1 ma (newMap n).length w.heap.size ∧ Below w.heap.size w w1) := ⟨w.heap.size, ma, mc, rfl, Nat.le_refl _, by omega, hW1, hI, MineFrom.lowerN hMine (by omega), hB⟩
  clear hB hs hT hMine hI hM hW1 hW hb1 hf hc hA HK HR HSC
  go_wp2
  exact bodyPost_ret (v := .pointer (some ⟨w.heap.size, 0, none⟩)) (by simp [results, Tryz.results49, go_sem]) rfl (unhide HG)
end Go.Proofs.YtjgcjeaplckbbaaGreatDoor
