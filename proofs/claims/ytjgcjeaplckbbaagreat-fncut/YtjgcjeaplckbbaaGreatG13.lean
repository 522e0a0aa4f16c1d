/- 4 texts in one. -/
import Derived.Test.YtjgcjeaplckbbaaGreatG09
import Derived.Test.YtjgcjeaplckbbaaGreatG12
import Derived.Test.YtjgcjeaplckbbaaGreatG11
import Derived.Test.YtjgcjeaplckbbaaGreatG02
import Derived.Deep.RegionHeld3
import Derived.Deep.DeepCutAuto
import Derived.Test.YtjgcjeaplckbbaaGreatG04

/- Ops done one by one: the model's l3Op. -/
namespace Go.Proofs.YtjgcjeaplckbbaaGreat
open Go.RowKit
set_option linter.unusedVariables false
set_option linter.unusedSimpArgs false

/-- A row that holds a chip of nothing holds no block of four pages and no page: so blocks that are read lie elsewhere. -/
theorem blocksAt_apart1 {w w' : World} {B : Nat} {ty : TypeId} {a : Option Addr} {bs : List Bk} (hr : w.heap[B]? = some (.cells #[.slice none 0 0] ty (0, 0))) (h : BlocksAt w a bs) (h4 : ∀ b ∈ bs, b.pages.length = 4) (hT : Touch (· = B) w w') : BlocksAt w' a bs := by
  have hz : ∀ {i : Nat} {v : Value}, w.cell? ⟨B, i, none⟩ = some v → v = .slice none 0 0 := by
    intro i v hv
    rw [cell_of_row _ _ i _ _ _ hr] at hv
    match i with
    | 0 => simp at hv; exact hv.symm
    | i + 1 => simp at hv
  intro i b hb
  obtain ⟨g, o, pa, pc, ha, c0, c1, hp⟩ := h i b hb
  have hl := h4 b (List.mem_of_getElem? hb)
  have hg : g ≠ B := by
    rintro rfl
    have e := hz c1
    injection e with _ e2 _
    omega
  have hc : ∀ j, w'.cell? ⟨g, j, none⟩ = w.cell? ⟨g, j, none⟩ := fun j => World.cell?_of_block (w := w) (a := ⟨g, j, none⟩) (hT.block g (World.block_lt_of_cell? _ _ c0) hg)
  refine ⟨g, o, pa, pc, ha, (hc _).trans c0, (hc _).trans c1, fun k p hk => ?_⟩
  obtain ⟨g2, o2, ha2, d0, d1, d2, d3⟩ := hp k p hk
  have hg2 : g2 ≠ B := by
    rintro rfl
    have e := hz d0
    cases e
  have hc2 : ∀ j, w'.cell? ⟨g2, j, none⟩ = w.cell? ⟨g2, j, none⟩ := fun j => World.cell?_of_block (w := w) (a := ⟨g2, j, none⟩) (hT.block g2 (World.block_lt_of_cell? _ _ d0) hg2)
  exact ⟨g2, o2, ha2, (hc2 _).trans d0, (hc2 _).trans d1, (hc2 _).trans d2, (hc2 _).trans d3⟩
theorem touch1 (w : World) (B : Nat) (v : Value) : Touch (· = B) w (w.setCell ⟨B, 0, none⟩ v) := by
  have h0 := Touch.refl (fun k => k = B) w
  exact Touch.setCell h0 (p := ⟨B, 0, none⟩) (by rfl) v
theorem heap4a (w : World) (o1 o2 o3 o4 : Obj) : ((((w.alloc o1).alloc o2).alloc o3).alloc o4).heap[w.heap.size]? = some o1 ∧ ((((w.alloc o1).alloc o2).alloc o3).alloc o4).heap[w.heap.size + 1]? = some o2 ∧ ((((w.alloc o1).alloc o2).alloc o3).alloc o4).heap[w.heap.size + 1 + 1]? = some o3 ∧ ((((w.alloc o1).alloc o2).alloc o3).alloc o4).heap[w.heap.size + 1 + 1 + 1]? = some o4 := by
  obtain ⟨h1, h2, h3⟩ := heap3 w o1 o2 o3
  refine ⟨(Below.heap_alloc _ _ _ (by simp; omega)).trans h1, (Below.heap_alloc _ _ _ (by simp)).trans h2, (Below.heap_alloc _ _ _ (by simp)).trans h3, ?_⟩
  have := World.alloc_heap_new (((w.alloc o1).alloc o2).alloc o3) o4
  simpa using this

/-- What l3Op answers. -/
def OpRet (bs : List Bk) (x : Opn) (e : Ending) (w' : World) : Prop :=
  ∃ (a : Option Addr) (n c : Nat) (out : List Bk) (r : Bool), e = .returned (.tuple #[.agg #[.slice a n c], .bool r]) ∧ out.length = n ∧ BlocksAt w' a out ∧ (r = true → OpStep bs x out) ∧ (r = false → ¬ ∃ o, OpStep bs x o)

set_option maxRecDepth 100000 in
set_option maxHeartbeats 2000000 in
theorem l3Op_program (a : Option Addr) (c : Nat) (bs : List Bk) (n : Nat) (hl : bs.length = n) (hok : ChipOk bs) (x : Opn) (hk : x.kind = 1) (w : World) (h : BlocksAt w a bs) :
    Calls Tryz.prog 107 #[.agg #[.slice a n c], .agg #[.int .i64 x.kind, .int .i64 x.block, .bool x.page.used, .int .i64 x.page.log, .int .i64 x.page.seq, .string x.page.data]] w fun e w' => OpRet bs x e w' ∧ Below w.heap.size w w' := by
  have hb0 : ∀ o1 o2 o3 o4, Below w.heap.size w ((((w.alloc o1).alloc o2).alloc o3).alloc o4) := fun o1 o2 o3 o4 => ((((Below.refl _ w).alloc (Nat.le_refl _) _).alloc (by simp) _).alloc (by simp; omega) _).alloc (by simp; omega) _
  obtain ⟨xk, xb, xu, xl, xs, xd⟩ := x
  simp only at hk
  subst hk
  go_enter Tryz.func107, Tryz.ntmps107
  go_wp2_with fail
  refine (specProgrammed_any a c bs n hl xb xu xl xs xd _ (h.below (hb0 _ _ _ _) (Nat.le_refl _)) (lens_of_ok hok)).mono ?_
  rintro e w1 ⟨a2, n2, c2, out, code, rfl, hP, hln, hA, hB1⟩
  have hs1 := hB1.size
  simp at hs1
  have hr1 : w1.heap[w.heap.size + 1 + 1]? = some (.cells #[.slice none 0 0] 26 (0, 0)) := (hB1.block _ (by simp)).trans (heap4a w _ _ _ _).2.2.1
  have hW1 : Below w.heap.size w w1 := (hb0 _ _ _ _).trans (hB1.mono (by simp; omega))
  have hr2 : ∀ o', (w1.alloc o').heap[w.heap.size + 1 + 1]? = some (.cells #[.slice none 0 0] 26 (0, 0)) := fun o' => (Below.heap_alloc _ _ _ (by omega)).trans hr1
  have hc2 : ∀ o', (w1.alloc o').cell? ⟨w.heap.size + 1 + 1, 0, none⟩ = some (.slice none 0 0) := fun o' => cell_of_row _ _ 0 _ _ _ (hr2 o')
  have hf2 : ∀ o', (w1.alloc o').frozen? ⟨w.heap.size + 1 + 1, 0, none⟩ = false := fun o' => frozen_of_row _ _ 0 _ _ (hr2 o')
  have HR2 := hide hr2
  have HP := hide hP
  have HA := hide hA
  have HOK := hide hok
  clear hr1 hr2 hP hA hB1 hb0 h hok
  go_wp2
  refine bodyPost_ret (v := .tuple #[.agg #[.slice a2 n2 c2], .bool (code == 0)]) (by simp [results, Tryz.results107, go_sem, hc2]) rfl ⟨⟨a2, n2, c2, out, code == 0, rfl, hln, ?_, ?_, ?_⟩, ?_⟩
  · exact blocksAt_apart1 (unhide HR2 _) ((unhide HA).below ((Below.refl _ w1).alloc (Nat.le_refl _) _) (Nat.le_refl _)) (fun b hb => (((unhide HP).ok (unhide HOK)).block b hb).four) (touch1 _ _ _)
  · intro hr
    have h0 : code = 0 := by simpa using hr
    exact .inl ⟨rfl, h0 ▸ unhide HP⟩
  · rintro hr ⟨o, ⟨_, h2⟩ | ⟨h1, _⟩⟩
    · have h3 := ((unhide HP).one h2).2
      rw [h3] at hr
      simp at hr
    · simp at h1
  · exact (hW1.alloc hW1.size _).setCell (by show w.heap.size ≤ w.heap.size + 1 + 1; omega) _

set_option maxRecDepth 100000 in
set_option maxHeartbeats 2000000 in
theorem l3Op_erase (a : Option Addr) (c : Nat) (bs : List Bk) (n : Nat) (hl : bs.length = n) (hok : ChipOk bs) (x : Opn) (hk : x.kind = 2) (w : World) (h : BlocksAt w a bs) :
    Calls Tryz.prog 107 #[.agg #[.slice a n c], .agg #[.int .i64 x.kind, .int .i64 x.block, .bool x.page.used, .int .i64 x.page.log, .int .i64 x.page.seq, .string x.page.data]] w fun e w' => OpRet bs x e w' ∧ Below w.heap.size w w' := by
  have hb0 : ∀ o1 o2 o3 o4, Below w.heap.size w ((((w.alloc o1).alloc o2).alloc o3).alloc o4) := fun o1 o2 o3 o4 => ((((Below.refl _ w).alloc (Nat.le_refl _) _).alloc (by simp) _).alloc (by simp; omega) _).alloc (by simp; omega) _
  obtain ⟨xk, xb, xu, xl, xs, xd⟩ := x
  simp only at hk
  subst hk
  go_enter Tryz.func107, Tryz.ntmps107
  go_wp2_with fail
  refine (specErased_any a c bs n hl xb _ (h.below (hb0 _ _ _ _) (Nat.le_refl _)) (lens_of_ok hok)).mono ?_
  rintro e w1 ⟨a2, n2, c2, out, code, rfl, hP, hln, hA, hB1⟩
  have hs1 := hB1.size
  simp at hs1
  have hr0 := (hB1.block _ (by simp)).trans (heap4a w (.cells #[.slice a n c] 26) (.cells #[.int .i64 2, .int .i64 xb, .bool xu, .int .i64 xl, .int .i64 xs, .string xd] 93) (.cells #[.slice none 0 0] 26) (.cells #[.bool false, .int .i64 0, .int .i64 0, .string ⟨#[]⟩] 51)).2.1
  have hr1 := (hB1.block _ (by simp)).trans (heap4a w (.cells #[.slice a n c] 26) (.cells #[.int .i64 2, .int .i64 xb, .bool xu, .int .i64 xl, .int .i64 xs, .string xd] 93) (.cells #[.slice none 0 0] 26) (.cells #[.bool false, .int .i64 0, .int .i64 0, .string ⟨#[]⟩] 51)).2.2.1
  have hr3 := (hB1.block _ (by simp)).trans (heap4a w (.cells #[.slice a n c] 26) (.cells #[.int .i64 2, .int .i64 xb, .bool xu, .int .i64 xl, .int .i64 xs, .string xd] 93) (.cells #[.slice none 0 0] 26) (.cells #[.bool false, .int .i64 0, .int .i64 0, .string ⟨#[]⟩] 51)).2.2.2
  have hW1 : Below w.heap.size w w1 := (hb0 _ _ _ _).trans (hB1.mono (by simp; omega))
  obtain ⟨w2, hw2⟩ : ∃ w2, w2 = w1.alloc (.cells #[.slice a2 n2 c2] 26) := ⟨_, rfl⟩
  have hs2 : w1.heap.size < w2.heap.size := by rw [hw2]; simp
  have hB12 : Below w1.heap.size w1 w2 := by rw [hw2]; exact (Below.refl _ w1).alloc (Nat.le_refl _) _
  have z2 : w2.cell? ⟨w1.heap.size, 0, none⟩ = some (.slice a2 n2 c2) := by rw [hw2]; simp
  have hr2 := (hB12.block (w.heap.size + 1 + 1) (by omega)).trans hr1
  have c2' := cell_of_row _ _ 0 _ _ _ hr2
  have f2' := frozen_of_row _ _ 0 _ _ hr2
  have p2 := (hB12.cell (p := ⟨w.heap.size + 1, 2, none⟩) (by show w.heap.size + 1 < _; omega)).trans (cell_of_row _ _ 2 _ _ _ hr0)
  have p3 := (hB12.cell (p := ⟨w.heap.size + 1, 3, none⟩) (by show w.heap.size + 1 < _; omega)).trans (cell_of_row _ _ 3 _ _ _ hr0)
  have p4 := (hB12.cell (p := ⟨w.heap.size + 1, 4, none⟩) (by show w.heap.size + 1 < _; omega)).trans (cell_of_row _ _ 4 _ _ _ hr0)
  have p5 := (hB12.cell (p := ⟨w.heap.size + 1, 5, none⟩) (by show w.heap.size + 1 < _; omega)).trans (cell_of_row _ _ 5 _ _ _ hr0)
  have q0 := (hB12.cell (p := ⟨w.heap.size + 1 + 1 + 1, 0, none⟩) (by show w.heap.size + 1 + 1 + 1 < _; omega)).trans (cell_of_row _ _ 0 _ _ _ hr3)
  have q1 := (hB12.cell (p := ⟨w.heap.size + 1 + 1 + 1, 1, none⟩) (by show w.heap.size + 1 + 1 + 1 < _; omega)).trans (cell_of_row _ _ 1 _ _ _ hr3)
  have q2 := (hB12.cell (p := ⟨w.heap.size + 1 + 1 + 1, 2, none⟩) (by show w.heap.size + 1 + 1 + 1 < _; omega)).trans (cell_of_row _ _ 2 _ _ _ hr3)
  have q3 := (hB12.cell (p := ⟨w.heap.size + 1 + 1 + 1, 3, none⟩) (by show w.heap.size + 1 + 1 + 1 < _; omega)).trans (cell_of_row _ _ 3 _ _ _ hr3)
  simp at c2' p2 p3 p4 p5 q0 q1 q2 q3
  have hW2 := hW1.trans (hB12.mono hW1.size)
  have HR2 := hide hr2
  have HP := hide hP
  have HA2 := hide (hA.below hB12 (Nat.le_refl _))
  have HOK := hide hok
  have HW2 := hide hw2
  clear hr0 hr1 hr3 hr2 hP hA hB1 hb0 h hok hB12 hw2 hW1
  go_wp2_with fail
  rw [← unhide HW2]
  clear HW2
  by_cases hcode : code = 0
  · subst hcode
    cases hz : isZero ⟨xu, xl, xs, xd⟩ with
    | true =>
      have hz' := hz
      unfold isZero at hz'
      simp only [Bool.and_eq_true, Bool.not_eq_true', decide_eq_true_eq] at hz'
      obtain ⟨⟨⟨rfl, rfl⟩, rfl⟩, hd0⟩ := hz'
      have hd1 : xd.toList = [] := by have := isEmpty_size xd; rw [hd0] at this; simpa using this
      have HZ := hide hz
      clear hz hd0
      go_region
      all_goals (
        go_wp2
        refine bodyPost_ret (v := .tuple #[.agg #[.slice a2 n2 c2], .bool true]) (by simp [results, Tryz.results107, go_sem, c2', cell_drew]) rfl ⟨⟨a2, n2, c2, out, true, rfl, hln, ?_, ?_, ?_⟩, ?_⟩
        · exact blocksAt_apart1 (unhide HR2) (unhide HA2) (fun b hb => (((unhide HP).ok (unhide HOK)).block b hb).four) (touch1 _ _ _).drew
        · exact fun _ => .inr ⟨rfl, unhide HP, unhide HZ⟩
        · intro h; cases h
        · exact (hW2.setCell (by show w.heap.size ≤ w.heap.size + 1 + 1; omega) _).drew)
    | false =>
      have HNZ : Hid (¬ isZero ⟨xu, xl, xs, xd⟩ = true) := fun h => by rw [hz] at h; cases h
      cases xu with
      | true =>
        clear hz
        go_region
        all_goals (
          go_wp2
          refine bodyPost_ret (v := .tuple #[.agg #[.slice a2 n2 c2], .bool false]) (by simp [results, Tryz.results107, go_sem, c2', cell_drew]) rfl ⟨⟨a2, n2, c2, out, false, rfl, hln, ?_, ?_, ?_⟩, ?_⟩
          · exact blocksAt_apart1 (unhide HR2) (unhide HA2) (fun b hb => (((unhide HP).ok (unhide HOK)).block b hb).four) (touch1 _ _ _).drew
          · intro h; cases h
          · rintro _ ⟨o, ⟨h1, _⟩ | ⟨_, _, h3⟩⟩; (· simp at h1); (· exact absurd h3 (unhide HNZ))
          · exact (hW2.setCell (by show w.heap.size ≤ w.heap.size + 1 + 1; omega) _).drew)
      | false =>
        by_cases h1 : xl = 0
        · by_cases h2 : xs = 0
          · have h3 : ¬ xd.toList = [] := fun h => by
              have e := isEmpty_size xd
              rw [h] at e
              have e0 : xd.size = 0 := by simpa using e.symm
              unfold isZero at hz
              simp [h1, h2, e0] at hz
            subst h1
            subst h2
            clear hz
            go_region
            all_goals (
              go_wp2
              refine bodyPost_ret (v := .tuple #[.agg #[.slice a2 n2 c2], .bool false]) (by simp [results, Tryz.results107, go_sem, c2', cell_drew]) rfl ⟨⟨a2, n2, c2, out, false, rfl, hln, ?_, ?_, ?_⟩, ?_⟩
              · exact blocksAt_apart1 (unhide HR2) (unhide HA2) (fun b hb => (((unhide HP).ok (unhide HOK)).block b hb).four) (touch1 _ _ _).drew
              · intro h; cases h
              · rintro _ ⟨o, ⟨h1, _⟩ | ⟨_, _, h3⟩⟩; (· simp at h1); (· exact absurd h3 (unhide HNZ))
              · exact (hW2.setCell (by show w.heap.size ≤ w.heap.size + 1 + 1; omega) _).drew)
          · clear hz
            subst h1
            go_region
            all_goals (
              go_wp2
              refine bodyPost_ret (v := .tuple #[.agg #[.slice a2 n2 c2], .bool false]) (by simp [results, Tryz.results107, go_sem, c2', cell_drew]) rfl ⟨⟨a2, n2, c2, out, false, rfl, hln, ?_, ?_, ?_⟩, ?_⟩
              · exact blocksAt_apart1 (unhide HR2) (unhide HA2) (fun b hb => (((unhide HP).ok (unhide HOK)).block b hb).four) (touch1 _ _ _).drew
              · intro h; cases h
              · rintro _ ⟨o, ⟨h1, _⟩ | ⟨_, _, h3⟩⟩; (· simp at h1); (· exact absurd h3 (unhide HNZ))
              · exact (hW2.setCell (by show w.heap.size ≤ w.heap.size + 1 + 1; omega) _).drew)
        · clear hz
          go_region
          all_goals (
            go_wp2
            refine bodyPost_ret (v := .tuple #[.agg #[.slice a2 n2 c2], .bool false]) (by simp [results, Tryz.results107, go_sem, c2', cell_drew]) rfl ⟨⟨a2, n2, c2, out, false, rfl, hln, ?_, ?_, ?_⟩, ?_⟩
            · exact blocksAt_apart1 (unhide HR2) (unhide HA2) (fun b hb => (((unhide HP).ok (unhide HOK)).block b hb).four) (touch1 _ _ _).drew
            · intro h; cases h
            · rintro _ ⟨o, ⟨h1, _⟩ | ⟨_, _, h3⟩⟩; (· simp at h1); (· exact absurd h3 (unhide HNZ))
            · exact (hW2.setCell (by show w.heap.size ≤ w.heap.size + 1 + 1; omega) _).drew)
  · have hce : (code == 0) = false := by simpa using hcode
    go_region
    all_goals (
      go_wp2
      refine bodyPost_ret (v := .tuple #[.agg #[.slice a2 n2 c2], .bool false]) (by simp [results, Tryz.results107, go_sem, c2', cell_drew]) rfl ⟨⟨a2, n2, c2, out, false, rfl, hln, ?_, ?_, ?_⟩, ?_⟩
      · exact blocksAt_apart1 (unhide HR2) (unhide HA2) (fun b hb => (((unhide HP).ok (unhide HOK)).block b hb).four) (touch1 _ _ _).drew
      · intro h; cases h
      · rintro _ ⟨o, ⟨h1, _⟩ | ⟨_, h2, _⟩⟩; (· simp at h1); (· exact hcode ((unhide HP).one h2).2)
      · exact (hW2.setCell (by show w.heap.size ≤ w.heap.size + 1 + 1; omega) _).drew)

set_option maxRecDepth 100000 in
set_option maxHeartbeats 2000000 in
theorem l3Op_other (a : Option Addr) (c : Nat) (bs : List Bk) (n : Nat) (hl : bs.length = n) (hok : ChipOk bs) (x : Opn) (hk1 : x.kind ≠ 1) (hk2 : x.kind ≠ 2) (w : World) (h : BlocksAt w a bs) :
    Calls Tryz.prog 107 #[.agg #[.slice a n c], .agg #[.int .i64 x.kind, .int .i64 x.block, .bool x.page.used, .int .i64 x.page.log, .int .i64 x.page.seq, .string x.page.data]] w fun e w' => OpRet bs x e w' ∧ Below w.heap.size w w' := by
  have hb0 : ∀ o1 o2 o3 o4, Below w.heap.size w ((((w.alloc o1).alloc o2).alloc o3).alloc o4) := fun o1 o2 o3 o4 => ((((Below.refl _ w).alloc (Nat.le_refl _) _).alloc (by simp) _).alloc (by simp; omega) _).alloc (by simp; omega) _
  have e1 : (x.kind == 1) = false := by simpa using hk1
  have e2 : (x.kind == 2) = false := by simpa using hk2
  have HA := hide (fun o1 o2 o3 o4 => h.below (hb0 o1 o2 o3 o4) (Nat.le_refl _))
  have HW := hide hb0
  have HN : Hid (¬ ∃ o, OpStep bs x o) := by
    rintro ⟨o, ⟨h1, _⟩ | ⟨h1, _⟩⟩
    · exact hk1 h1
    · exact hk2 h1
  clear h hb0
  go_enter Tryz.func107, Tryz.ntmps107
  go_wp2
  refine bodyPost_ret (v := .tuple #[.agg #[.slice a n c], .bool false]) (by simp [results, Tryz.results107, go_sem]) rfl ⟨⟨a, n, c, bs, false, rfl, hl, ?_, (fun h => by cases h), fun _ => unhide HN⟩, ?_⟩
  · exact unhide HA _ _ _ _
  · exact unhide HW _ _ _ _

theorem l3Op_any (a : Option Addr) (c : Nat) (bs : List Bk) (n : Nat) (hl : bs.length = n) (hok : ChipOk bs) (x : Opn) (w : World) (h : BlocksAt w a bs) :
    Calls Tryz.prog 107 #[.agg #[.slice a n c], .agg #[.int .i64 x.kind, .int .i64 x.block, .bool x.page.used, .int .i64 x.page.log, .int .i64 x.page.seq, .string x.page.data]] w fun e w' => OpRet bs x e w' ∧ Below w.heap.size w w' := by
  by_cases h1 : x.kind = 1
  · exact l3Op_program a c bs n hl hok x h1 w h
  · by_cases h2 : x.kind = 2
    · exact l3Op_erase a c bs n hl hok x h2 w h
    · exact l3Op_other a c bs n hl hok x h1 h2 w h
end Go.Proofs.YtjgcjeaplckbbaaGreat

/- Ops done one by one: the model's l3Did and Did. -/
namespace Go.Proofs.YtjgcjeaplckbbaaGreat
open Go.RowKit
set_option linter.unusedVariables false
set_option linter.unusedSimpArgs false

/-- A row of one cell that holds a slice holds no number and no page: so what is read as blocks or as ops lies elsewhere. -/
theorem blocksAt_apartS {w w' : World} {B : Nat} {ty : TypeId} {x : Option Addr} {y z : Nat} {a : Option Addr} {bs : List Bk} (hr : w.heap[B]? = some (.cells #[.slice x y z] ty (0, 0))) (h : BlocksAt w a bs) (hT : Touch (· = B) w w') : BlocksAt w' a bs := by
  have hz : ∀ {i : Nat} {v : Value}, w.cell? ⟨B, i, none⟩ = some v → v = .slice x y z := by
    intro i v hv
    rw [cell_of_row _ _ i _ _ _ hr] at hv
    match i with
    | 0 => simp at hv; exact hv.symm
    | i + 1 => simp at hv
  intro i b hb
  obtain ⟨g, o, pa, pc, ha, c0, c1, hp⟩ := h i b hb
  have hg : g ≠ B := by
    rintro rfl
    have e := hz c0
    cases e
  have hc : ∀ j, w'.cell? ⟨g, j, none⟩ = w.cell? ⟨g, j, none⟩ := fun j => World.cell?_of_block (w := w) (a := ⟨g, j, none⟩) (hT.block g (World.block_lt_of_cell? _ _ c0) hg)
  refine ⟨g, o, pa, pc, ha, (hc _).trans c0, (hc _).trans c1, fun k p hk => ?_⟩
  obtain ⟨g2, o2, ha2, d0, d1, d2, d3⟩ := hp k p hk
  have hg2 : g2 ≠ B := by
    rintro rfl
    have e := hz d0
    cases e
  have hc2 : ∀ j, w'.cell? ⟨g2, j, none⟩ = w.cell? ⟨g2, j, none⟩ := fun j => World.cell?_of_block (w := w) (a := ⟨g2, j, none⟩) (hT.block g2 (World.block_lt_of_cell? _ _ d0) hg2)
  exact ⟨g2, o2, ha2, (hc2 _).trans d0, (hc2 _).trans d1, (hc2 _).trans d2, (hc2 _).trans d3⟩

/-- What the statement 'next, ok := l3Op(now, l[i])' leaves: the variable made, and whether the op was done. -/
def MadeOp (wz : World) (bs : List Bk) (x : Opn) (v8 v9 : Value) (wx : World) : Prop :=
  ∃ (P8 : Nat) (a0 : Option Addr) (n0 c0 : Nat) (out : List Bk) (r : Bool) (ty : TypeId), v8 = .pointer (some ⟨P8, 0, none⟩) ∧ v9 = .bool r ∧ wz.heap.size ≤ P8 ∧ wx.heap[P8]? = some (.cells #[.slice a0 n0 c0] ty (0, 0)) ∧ out.length = n0 ∧ BlocksAt wx a0 out ∧ (r = true → OpStep bs x out) ∧ (r = false → ¬ ∃ o, OpStep bs x o) ∧ Below wz.heap.size wz wx

theorem MadeOp.after {wz w3 : World} {bs : List Bk} {x : Opn} {a0 : Option Addr} {n0 c0 : Nat} {out : List Bk} {r : Bool} (t : TypeId) (hB : Below wz.heap.size wz w3) (hl : out.length = n0) (hA : BlocksAt w3 a0 out) (h1 : r = true → OpStep bs x out) (h2 : r = false → ¬ ∃ o, OpStep bs x o) :
    MadeOp wz bs x (.pointer (some ⟨w3.heap.size, 0, none⟩)) (.bool r) (w3.alloc (.cells #[.slice a0 n0 c0] t)) :=
  ⟨w3.heap.size, a0, n0, c0, out, r, t, rfl, rfl, hB.size, World.alloc_heap_new _ _, hl, hA.below ((Below.refl _ w3).alloc (Nat.le_refl _) _) (Nat.le_refl _), h1, h2, hB.alloc hB.size _⟩
theorem MadeOp.ahead {wz w3 : World} {bs : List Bk} {x : Opn} {a0 : Option Addr} {n0 c0 P : Nat} {out : List Bk} {r : Bool} (t : TypeId) (hB : Below wz.heap.size wz w3) (hP : wz.heap.size ≤ P) (hr : w3.heap[P]? = some (.cells #[.slice none 0 0] t (0, 0))) (hl : out.length = n0) (hA : BlocksAt w3 a0 out) (h1 : r = true → OpStep bs x out) (h2 : r = false → ¬ ∃ o, OpStep bs x o) :
    MadeOp wz bs x (.pointer (some ⟨P, 0, none⟩)) (.bool r) (w3.setCell ⟨P, 0, none⟩ (.slice a0 n0 c0)) :=
  ⟨P, a0, n0, c0, out, r, t, rfl, rfl, hP, by have := blk_setCell_same 0 (.slice a0 n0 c0) hr; simpa using this, hl, blocksAt_apartS hr hA (touch1 _ _ _), h1, h2, hB.setCell hP _⟩

theorem OpStep.length {bs : List Bk} {x : Opn} {out : List Bk} (h : OpStep bs x out) : out.length = bs.length := by
  rcases h with ⟨_, h2⟩ | ⟨_, h2, _⟩
  · rcases h2 with ⟨_, _, h⟩ | ⟨_, _, rfl, _⟩ | ⟨_, _, b, r, _, _, ⟨_, rfl, _⟩ | ⟨_, rfl, _⟩⟩
    · omega
    · rfl
    · rfl
    · simp
  · rcases h2 with ⟨_, _, h⟩ | ⟨_, _, rfl, _⟩ | ⟨_, _, b, _, ⟨_, rfl, _⟩ | ⟨_, rfl, _⟩⟩
    · omega
    · rfl
    · rfl
    · simp
theorem runs_stop {bs now : List Bk} {xs : List Opn} {k : Nat} {x : Opn} (hx : xs[k]? = some x) (hR : Runs bs (xs.take k) now) (h : ¬ ∃ o, OpStep now x o) : ¬ ∃ o, Runs bs xs o := by
  rintro ⟨o, ho⟩
  have e : xs = (xs.take k ++ [x]) ++ xs.drop (k + 1) := by
    obtain ⟨hi, rfl⟩ := List.getElem?_eq_some_iff.1 hx
    simp
  rw [e] at ho
  obtain ⟨m1, h1, _⟩ := ho.split
  obtain ⟨m2, h2, h3⟩ := runs_snoc.1 h1
  obtain rfl := h2.one hR
  exact h ⟨_, h3⟩
theorem runs_next {bs now out : List Bk} {xs : List Opn} {k : Nat} {x : Opn} (hx : xs[k]? = some x) (hR : Runs bs (xs.take k) now) (h : OpStep now x out) : Runs bs (xs.take (k + 1)) out := by
  have e : xs.take (k + 1) = xs.take k ++ [x] := by rw [List.take_add_one, hx]; rfl
  rw [e]
  exact runs_snoc.2 ⟨now, hR, h⟩

/-- What l3Did answers. -/
def DidRet (bs : List Bk) (xs : List Opn) (e : Ending) (w' : World) : Prop :=
  ∃ (a : Option Addr) (n c : Nat) (out : List Bk) (r : Bool), e = .returned (.tuple #[.agg #[.slice a n c], .bool r]) ∧ out.length = n ∧ BlocksAt w' a out ∧ ((r = true ∧ Runs bs xs out) ∨ (r = false ∧ out = [] ∧ ¬ ∃ o, Runs bs xs o))

set_option maxRecDepth 100000 in
set_option maxHeartbeats 4000000 in
theorem l3Did_any (a : Option Addr) (c : Nat) (bs : List Bk) (n : Nat) (hl : bs.length = n) (hok : ChipOk bs) (la : Option Addr) (lc : Nat) (xs : List Opn) (m : Nat) (hm : xs.length = m) (hm20 : m ≤ 1048576) (w : World) (h : BlocksAt w a bs) (hx : OpsAt w la xs) :
    Calls Tryz.prog 95 #[.agg #[.slice a n c], .slice la m lc] w fun e w' => DidRet bs xs e w' ∧ Below w.heap.size w w' := by
  have hb0 : ∀ o1 o2, Below w.heap.size w ((w.alloc o1).alloc o2) := fun o1 o2 => ((Below.refl _ w).alloc (Nat.le_refl _) _).alloc (by simp) _
  have HM := hide hm
  have HX := hide hx
  clear hm hx
  go_enter Tryz.func95, Tryz.ntmps95
  go_wp2_with fail
  refine (l1Copy_any a c bs n hl hok _ (h.below (hb0 _ _) (Nat.le_refl _))).mono ?_
  rintro e w1 ⟨v, Q, C, rfl, hS, hB1⟩
  obtain ⟨a1, c1, rfl, hA1⟩ := hS.form
  have hs1 := hB1.size
  simp at hs1
  have hz1 : w1.heap[w.heap.size + 1]? = some (.cells #[.slice none 0 0] 26 (0, 0)) := (hB1.block _ (by simp)).trans (heap_alloc2_new _ _ _)
  have hW1 : Below w.heap.size w w1 := (hb0 _ _).trans (hB1.mono (by simp; omega))
  rw [hl]
  have HA1 := hide hA1
  have HZ1 := hide hz1
  have HOK := hide hok
  have HL := hide hl
  clear hS hA1 hz1 hB1 hb0 h hok hl
  go_wp2
  go_loopw [7] (fun i wr => ∃ (k : Nat) (a6 : Option Addr) (c6 : Nat) (now : List Bk), k ≤ m ∧ i = .int .i64 k ∧ wr.heap[w1.heap.size]? = some (.cells #[.slice a6 n c6] 26 (0, 0)) ∧ wr.heap[w.heap.size + 1]? = some (.cells #[.slice none 0 0] 26 (0, 0)) ∧ BlocksAt wr a6 now ∧ now.length = n ∧ ChipOk now ∧ Runs bs (xs.take k) now ∧ Below w.heap.size w wr ∧ w1.heap.size < wr.heap.size) (fun i _ => m - (intOf i).toNat)
  case atStart =>
    refine ⟨0, a1, c1, bs, Nat.zero_le _, rfl, World.alloc_heap_new _ _, (Below.heap_alloc _ _ _ (by omega)).trans (unhide HZ1), (unhide HA1).below ((Below.refl _ w1).alloc (Nat.le_refl _) _) (Nat.le_refl _), unhide HL, unhide HOK, rfl, hW1.alloc hW1.size _, by simp⟩
  case round =>
    obtain ⟨k, a6, c6, now, hk, rfl, r6, rz, hAn, hln, hokn, hR, hWr, hsr⟩ := hrel
    obtain ⟨wz, rfl⟩ : ∃ wz, wz = wr := ⟨_, rfl⟩
    have c60 := cell_of_row _ _ 0 _ _ _ r6
    have f60 := frozen_of_row _ _ 0 _ _ r6
    simp at c60
    have HR6 := hide r6
    have HRZ := hide rz
    have HAN := hide hAn
    have HLN := hide hln
    have HOKN := hide hokn
    have HRUN := hide hR
    clear r6 rz hAn hln hokn hR
    by_cases hlt : k < m
    · obtain ⟨x, hx⟩ := getElem?_ex (l := xs) (k := k) (by have := unhide HM; omega)
      obtain ⟨b1, o1, rfl, g0, g1, g2, g3, g4, g5⟩ := ((unhide HX).below hWr (Nat.le_refl _)) k x hx
      have hb1 : b1 < wz.heap.size := World.block_lt_of_cell? _ _ g0
      have HXK := hide hx
      clear hx
      go_upto_region 5 with fail
      go_cut [8, 9] from 12 to 30 (fun v8 v9 wx => MadeOp wz now x v8 v9 wx)
      case first =>
        go_region_held3 (fun W => ∀ b o, b < wz.heap.size → W.cell? ⟨b, o, none⟩ = wz.cell? ⟨b, o, none⟩)
          (first
            | (intro b o hb; rfl)
            | (intro b o hb; exact (unhide HZ3).cell (p := ⟨b, o, none⟩) hb)
            | (intro b o hb; rw [cell_drew, cell_alloc_lt _ _ _ _ (by omega)])
            | (intro b o hb; rw [cell_alloc_lt _ _ _ _ (by omega)]; exact (unhide HZ3).cell (p := ⟨b, o, none⟩) hb)
            | (intro b o hb; rw [World.cell?_setCell_other _ _ _ _ (by simp <;> omega)]; exact (unhide HZ3).cell (p := ⟨b, o, none⟩) hb)
            | (intro b o hb; rw [cell_alloc_lt _ _ _ _ (by simp [World.setCell] <;> omega), World.cell?_setCell_other _ _ _ _ (by simp <;> omega)]; exact (unhide HZ3).cell (p := ⟨b, o, none⟩) hb))
          (first
            | (go_at_call 107
               refine (l3Op_any a6 c6 now n (unhide HLN) (unhide HOKN) x _ (by first | exact (unhide HAN).below (Below.refl wz.heap.size wz).drew (Nat.le_refl _) | exact (unhide HAN).below ((Below.refl wz.heap.size wz).alloc (Nat.le_refl _) _).drew (Nat.le_refl _) | exact (unhide HAN).below ((Below.refl wz.heap.size wz).drew.alloc (Nat.le_refl _) _) (Nat.le_refl _))).mono ?_
               rintro e w3 ⟨⟨a0, n0, c0, out, r, rfl, hl0, hA0, h1, h2⟩, hB3⟩
               have HZ3 : Hid (Below wz.heap.size wz w3) := by
                 first
                   | exact (Below.refl wz.heap.size wz).drew.trans hB3
                   | exact ((Below.refl wz.heap.size wz).alloc (Nat.le_refl _) _).drew.trans (hB3.mono (by simp))
                   | exact ((Below.refl wz.heap.size wz).drew.alloc (Nat.le_refl _) _).trans (hB3.mono (by simp))
               have hs3 := (unhide HZ3).size
               have hxs3 := hB3.size
               try simp at hxs3
               try have HRW : Hid (w3.heap[wz.heap.size]? = some (.cells #[.slice none 0 0] 26 (0, 0))) := by first | exact (hB3.block _ (by simp)).trans (World.alloc_heap_new wz _) | exact (hB3.block _ (by simp)).trans (World.alloc_heap_new wz.drew _)
               try have hcw3 : w3.cell? ⟨wz.heap.size, 0, none⟩ = some (.slice none 0 0) := cell_of_row _ _ 0 _ _ _ (unhide HRW)
               try have hfw3 : w3.frozen? ⟨wz.heap.size, 0, none⟩ = false := frozen_of_row _ _ 0 _ _ (unhide HRW)
               have HL0 := hide hl0
               have HA0 := hide hA0
               have H1 := hide h1
               have H2 := hide h2
               clear hl0 hA0 h1 h2 hB3))
        all_goals (
          go_wp2_with fail
          go_meet
          first
            | exact MadeOp.after _ (unhide HZ3) (unhide HL0) (unhide HA0) (unhide H1) (unhide H2)
            | exact MadeOp.ahead _ (unhide HZ3) (Nat.le_refl _) (unhide HRW) (unhide HL0) (unhide HA0) (unhide H1) (unhide H2))
      case rest =>
        obtain ⟨P8, a0, n0, c0, out, r, ty, rfl, rfl, hP1, hr8, hl0, hA0, h1, h2, hZ3⟩ := hcut
        rename World => w3
        have hs3 := hZ3.size
        have hW3 := hWr.trans (hZ3.mono hWr.size)
        have hr6 := (hZ3.block w1.heap.size (by omega)).trans (unhide HR6)
        have hrz := (hZ3.block (w.heap.size + 1) (by omega)).trans (unhide HRZ)
        have z0 := cell_of_row _ _ 0 _ _ _ hrz
        have zf := frozen_of_row _ _ 0 _ _ hrz
        have y0 := cell_of_row _ _ 0 _ _ _ hr6
        have yf := frozen_of_row _ _ 0 _ _ hr6
        have x0 := cell_of_row _ _ 0 _ _ _ hr8
        simp at z0 y0 x0
        have H6 := hide hr6
        have HZ := hide hrz
        have HA0 := hide hA0
        have HL0 := hide hl0
        have H1 := hide h1
        have H2 := hide h2
        clear hr6 hrz hr8 hA0 hl0 h1 h2 hZ3 HR6 HRZ HAN c60 f60 g0 g1 g2 g3 g4 g5
        cases r with
        | false =>
          go_wp2
          refine bodyPost_ret (v := .tuple #[.agg #[.slice none 0 0], .bool false]) (by simp [results, Tryz.results95, go_sem, z0]) rfl ⟨⟨none, 0, 0, [], false, rfl, rfl, (fun i b hb => by simp at hb), .inr ⟨rfl, rfl, runs_stop (unhide HXK) (unhide HRUN) (unhide H2 (by trivial))⟩⟩, ?_⟩
          exact hW3.setCell (by show w.heap.size ≤ w.heap.size + 1; omega) _
        | true =>
          have hst := unhide H1 (by trivial)
          have hn0 : n0 = n := by have := hst.length; have := unhide HL0; have := unhide HLN; omega
          subst hn0
          have HST := hide hst
          clear hst
          go_wp2
          go_roundw
          case rel =>
            refine ⟨k + 1, a0, c0, out, by omega, by go_num, ?_, ?_, blocksAt_apartS (unhide H6) (unhide HA0) (touch1 _ _ _), unhide HL0, (unhide HST).ok.2, runs_next (unhide HXK) (unhide HRUN) (unhide HST), hW3.setCell (by show w.heap.size ≤ w1.heap.size; omega) _, by simp [World.setCell]; omega⟩
            · have := blk_setCell_same 0 (.slice a0 n0 c0) (unhide H6)
              simpa using this
            · rw [Below.heap_setCell _ _ _ _ (by show w.heap.size + 1 ≠ w1.heap.size; omega)]
              exact unhide HZ
          case measure => simp [intOf]; omega
    · obtain rfl : k = m := by omega
      have hrz := unhide HRZ
      have z0 := cell_of_row _ _ 0 _ _ _ hrz
      have zf := frozen_of_row _ _ 0 _ _ hrz
      simp at z0
      have hall : Runs bs xs now := by
        have h1 := unhide HRUN
        rw [← unhide HM, List.take_length] at h1
        exact h1
      have HALL := hide hall
      clear hrz hall
      go_wp2
      refine bodyPost_ret (v := .tuple #[.agg #[.slice a6 n c6], .bool true]) (by simp [results, Tryz.results95, go_sem, z0]) rfl ⟨⟨a6, n, c6, now, true, rfl, unhide HLN, blocksAt_apartS (unhide HRZ) (unhide HAN) (touch1 _ _ _), .inl ⟨rfl, unhide HALL⟩⟩, ?_⟩
      exact hWr.setCell (by show w.heap.size ≤ w.heap.size + 1; omega) _

end Go.Proofs.YtjgcjeaplckbbaaGreat

/- The ops of a write are none that a chip refuses: in plain lists. No program is named here. -/
namespace Go.Proofs.YtjgcjeaplckbbaaGreat
open Go.RowKit
set_option linter.unusedVariables false
set_option linter.unusedSimpArgs false

-- the victim has the fewest
theorem vicTo_min {bs : List Bk} {L : List Int} {o : Int} : ∀ (k : Nat), ∀ (i : Nat) (x : Bk), i < k → bs[i]? = some x → (i : Int) ≠ o → fullB x = true → validIn L (vicTo bs L o k) ≤ validIn L (i : Int) := by
  intro k
  induction k with
  | zero => intro i x hi; omega
  | succ k ih =>
    intro i x hi hx hn hf
    by_cases e : i = k
    · subst e
      by_cases hb : beats bs L (vicTo bs L o i) (i : Int) x.wear = true
      · rw [vicTo_take hx hn hf hb]; exact Nat.le_refl _
      · rw [vicTo_keep hx hn hf (by simpa using hb)]
        have h2 : ¬ validIn L (i : Int) < validIn L (vicTo bs L o i) := fun h => hb (beats_few h)
        omega
    · have h1 := ih i x (by omega) hx hn hf
      have h0 := vicTo_full (L := L) hx hn hf k (by omega)
      cases hk : bs[k]? with
      | none =>
        rw [vicTo_succ]; unfold vicStep; rw [hk]; exact h1
      | some y =>
        by_cases hs : (k : Int) = o ∨ fullB y = false
        · rw [vicTo_skip hk hs]; exact h1
        · have hn2 : (k : Int) ≠ o := fun h => hs (.inl h)
          have hf2 : fullB y = true := by cases h : fullB y with
            | true => rfl
            | false => exact absurd (.inr h) hs
          by_cases hb : beats bs L (vicTo bs L o k) (k : Int) y.wear = true
          · rw [vicTo_take hk hn2 hf2 hb]
            have : validIn L (k : Int) ≤ validIn L (vicTo bs L o k) := by
              unfold beats at hb
              simp only [Bool.or_eq_true, Bool.and_eq_true, decide_eq_true_eq] at hb
              rcases hb with (h | h) | h
              · omega
              · omega
              · omega
            omega
          · rw [vicTo_keep hk hn2 hf2 (by simpa using hb)]; exact h1
-- how many places are named in all
def sumTo (f : Nat → Nat) : Nat → Nat
  | 0 => 0
  | k + 1 => sumTo f k + f k
theorem sumTo_le {f g : Nat → Nat} : ∀ n, (∀ i, i < n → f i ≤ g i) → sumTo f n ≤ sumTo g n := by
  intro n
  induction n with
  | zero => intro _; exact Nat.le_refl _
  | succ n ih => intro h; have := ih (fun i hi => h i (by omega)); have := h n (by omega); simp only [sumTo]; omega
theorem sumTo_add {f g : Nat → Nat} : ∀ n, sumTo (fun i => f i + g i) n = sumTo f n + sumTo g n := by
  intro n
  induction n with
  | zero => rfl
  | succ n ih => simp only [sumTo]; omega
theorem sumTo_zero : ∀ n, sumTo (fun _ => 0) n = 0 := by
  intro n
  induction n with
  | zero => rfl
  | succ n ih => simp only [sumTo]; omega
theorem sumTo_one (x : Int) : ∀ n, sumTo (fun i => if hit (i : Int) x = true then 1 else 0) n ≤ 1 := by
  suffices H : ∀ n, sumTo (fun i => if hit (i : Int) x = true then 1 else 0) n ≤ (if 0 ≤ x ∧ x / 4 < (n : Int) then 1 else 0) by
    intro n; have := H n; split at this <;> omega
  intro n
  induction n with
  | zero => simp [sumTo]
  | succ n ih =>
    simp only [sumTo]
    have e : (hit (n : Int) x = true) ↔ (0 ≤ x ∧ x / 4 = (n : Int)) := by simp [hit]
    by_cases h : hit (n : Int) x = true
    · rw [if_pos h]
      have h2 := e.1 h
      have h3 : ¬ (0 ≤ x ∧ x / 4 < (n : Int)) := by omega
      rw [if_neg h3] at ih
      rw [if_pos (by omega)]
      omega
    · rw [if_neg h]
      have h2 : ¬ (0 ≤ x ∧ x / 4 = (n : Int)) := fun k => h (e.2 k)
      split at ih
      · rw [if_pos (by omega)]; omega
      · omega
theorem validIn_sum (L : List Int) (n : Nat) : sumTo (fun i => validIn L (i : Int)) n ≤ L.length := by
  induction L with
  | nil => have : (fun i : Nat => validIn [] (i : Int)) = fun _ => 0 := rfl
           rw [this, sumTo_zero]; simp
  | cons x L ih =>
    have e : (fun i : Nat => validIn (x :: L) (i : Int)) = fun i : Nat => validIn L (i : Int) + (if hit (i : Int) x = true then 1 else 0) := by
      funext i
      unfold validIn
      by_cases h : hit (i : Int) x = true
      · rw [List.filter_cons_of_pos h, if_pos h]; rfl
      · rw [List.filter_cons_of_neg h, if_neg h]; rfl
    rw [e, sumTo_add, List.length_cons]
    have := sumTo_one x n
    omega
theorem sumTo_but (f : Nat) (c : Nat) : ∀ n, sumTo (fun i => if i = f then 0 else c) n = if f < n then (n - 1) * c else n * c := by
  intro n
  induction n with
  | zero => simp [sumTo]
  | succ n ih =>
    simp only [sumTo, ih]
    by_cases h1 : f < n
    · rw [if_pos h1, if_neg (by omega), if_pos (by omega)]
      obtain ⟨k, rfl⟩ : ∃ k, n = k + 1 := ⟨n - 1, by omega⟩
      rw [Nat.add_sub_cancel, Nat.add_sub_cancel, Nat.add_mul]
      omega
    · rw [if_neg h1]
      by_cases h2 : n = f
      · rw [if_pos h2, if_pos (by omega)]; simp
      · rw [if_neg h2, if_neg (by omega), Nat.add_mul]; omega
-- how many pages are moved
def cnt (L : List Int) (x : Int) : Nat := (L.filter fun y => decide (y = x)).length
theorem cnt_pos {L : List Int} {x : Int} (h : x ∈ L) : 1 ≤ cnt L x := by
  unfold cnt
  exact List.length_pos_iff.2 (fun e => by
    have : x ∈ L.filter fun y => decide (y = x) := List.mem_filter.2 ⟨h, by simp⟩
    rw [e] at this
    simp at this)
theorem cnt_cons (L : List Int) (y x : Int) : cnt (y :: L) x = cnt L x + if y = x then 1 else 0 := by
  unfold cnt
  by_cases h : y = x
  · rw [List.filter_cons_of_pos (by simpa using h), if_pos h]; rfl
  · rw [List.filter_cons_of_neg (by simpa using h), if_neg h]; rfl
theorem cnt_valid (L : List Int) (v : Int) (hv : 0 ≤ v) : cnt L (v * 4 + 0) + cnt L (v * 4 + 1) + cnt L (v * 4 + 2) + cnt L (v * 4 + 3) = validIn L v := by
  induction L with
  | nil => rfl
  | cons x L ih =>
    simp only [cnt_cons]
    have e : validIn (x :: L) v = validIn L v + if hit v x = true then 1 else 0 := by
      unfold validIn
      by_cases h : hit v x = true
      · rw [List.filter_cons_of_pos h, if_pos h]; rfl
      · rw [List.filter_cons_of_neg h, if_neg h]; rfl
    have e2 : (hit v x = true) ↔ (0 ≤ x ∧ x / 4 = v) := by simp [hit]
    rw [e, ← ih]
    by_cases h : hit v x = true
    · have h2 := e2.1 h
      rw [if_pos h]
      split <;> split <;> split <;> split <;> omega
    · have h2 : ¬ (0 ≤ x ∧ x / 4 = v) := fun k => h (e2.2 k)
      rw [if_neg h]
      split <;> split <;> split <;> split <;> omega
theorem moved_few {bs : List Bk} {L : List Int} {seq o into s : Int} (h : FtlOk bs L seq o) {v : Int} (hv : 0 ≤ v) : (movedTo bs L v into s 4).length ≤ validIn L v := by
  have st : ∀ k, k < 4 → (movedTo bs L v into s (k + 1)).length ≤ (movedTo bs L v into s k).length + cnt L (v * 4 + (k : Int)) := by
    intro k hk
    simp only [movedTo, List.length_append]
    have hm := h.moves hv hk
    by_cases hx : (v * 4 + (k : Int)) ∈ L
    · have := cnt_pos hx
      split <;> simp <;> omega
    · rw [hm]
      simp [hx]
  have s0 : (movedTo bs L v into s 1).length ≤ (movedTo bs L v into s 0).length + cnt L (v * 4 + 0) := st 0 (by omega)
  have s1 : (movedTo bs L v into s 2).length ≤ (movedTo bs L v into s 1).length + cnt L (v * 4 + 1) := st 1 (by omega)
  have s2 : (movedTo bs L v into s 3).length ≤ (movedTo bs L v into s 2).length + cnt L (v * 4 + 2) := st 2 (by omega)
  have s3 : (movedTo bs L v into s 4).length ≤ (movedTo bs L v into s 3).length + cnt L (v * 4 + 3) := st 3 (by omega)
  have hc := cnt_valid L v hv
  have z : (movedTo bs L v into s 0).length = 0 := rfl
  omega
/-- The victim has a page at least that is not the newest of its log. -/
theorem FtlOk.victimFew {bs : List Bk} {L : List Int} {seq o : Int} (h : FtlOk bs L seq o) {x : Bk} (hx : bs[o.toNat]? = some x) (hf : fullB x = true) (hal : freshOf bs (freshOf bs (-1)) < 0) :
    validIn L (vicOf bs L (freshOf bs (-1))) ≤ 3 ∧ ∃ (v : Nat) (y : Bk), vicOf bs L (freshOf bs (-1)) = (v : Int) ∧ bs[v]? = some y ∧ (v : Int) ≠ freshOf bs (-1) := by
  obtain ⟨fi, fx, hfr, hfx, hff, hfl, _⟩ := h.fresh
  have hvb := h.victim hx hf
  have hL := h.len
  have hc := h.chip.count
  have ho := h.opn
  rw [hfr] at hvb hal ⊢
  have h1 := (freshIn_neg (bs := bs) (but := (fi : Int)) (L := freeTo bs bs.length) (fun y hy => by obtain ⟨i, _, rfl, _⟩ := mem_freeTo hy; omega)).1 hal
  have hfull : ∀ i y, bs[i]? = some y → i ≠ fi → fullB y = true := by
    intro i y hy hn
    have hi := (List.getElem?_eq_some_iff.1 hy).1
    have hnf : freeB y = false := by
      cases hfy : freeB y with
      | false => rfl
      | true =>
        exfalso
        have hb : begun bs i = false := by rw [begun_pu hy]; unfold freeB at hfy; simpa using hfy
        have := h1 _ (freeTo_mem hi hb)
        omega
    by_cases e : (i : Int) = o
    · have e2 : o.toNat = i := by omega
      rw [e2, hy] at hx
      cases hx
      exact hf
    · have hh := h.settled.1 i y hi hy e
      unfold halfB at hh
      unfold freeB at hnf
      have hp : pu y 0 = true := by simpa using hnf
      rw [hp] at hh
      simpa using hh
  have hmin : ∀ i, i < bs.length → i ≠ fi → validIn L (vicOf bs L (fi : Int)) ≤ validIn L (i : Int) := by
    intro i hi hn
    obtain ⟨y, hy⟩ := getElem?_ex (l := bs) (k := i) hi
    exact vicTo_min bs.length i y hi hy (by omega) (hfull i y hy hn)
  have hsum := validIn_sum L bs.length
  have hle := sumTo_le (f := fun i => if i = fi then 0 else validIn L (vicOf bs L (fi : Int))) (g := fun i => validIn L (i : Int)) bs.length (fun i hi => by
    by_cases e : i = fi
    · rw [if_pos e]; exact Nat.zero_le _
    · rw [if_neg e]; exact hmin i hi e)
  rw [sumTo_but, if_pos hfl] at hle
  constructor
  · rcases Nat.lt_or_ge 3 (validIn L (vicOf bs L (fi : Int))) with hg | hg
    · exfalso
      have h4 : (bs.length - 1) * 4 ≤ (bs.length - 1) * validIn L (vicOf bs L (fi : Int)) := Nat.mul_le_mul_left _ hg
      omega
    · exact hg
  · obtain ⟨v, hv⟩ := Int.eq_ofNat_of_zero_le hvb.1
    obtain ⟨y, hy⟩ := getElem?_ex (l := bs) (k := v) (by omega)
    refine ⟨v, y, hv, hy, ?_⟩
    rw [← hv]
    intro e
    have hk : ∀ k, vicTo bs L (fi : Int) k ≠ (fi : Int) := by
      intro k
      induction k with
      | zero => show (-1 : Int) ≠ _; omega
      | succ k ih =>
        rw [vicTo_succ]
        unfold vicStep
        split
        · exact ih
        · split
          · exact ih
          · rename_i hne
            split
            · exact fun e => hne (.inl e)
            · exact ih
    exact hk _ e
end Go.Proofs.YtjgcjeaplckbbaaGreat

/- A write's ops run on a right member's chip: in plain lists. No program is named here. -/
namespace Go.Proofs.YtjgcjeaplckbbaaGreat
open Go.RowKit
set_option linter.unusedVariables false
set_option linter.unusedSimpArgs false

theorem isZero_zero {p : Pg} (h : isZero p = true) : p = zeroPg := by
  obtain ⟨u, l, s, d⟩ := p
  unfold isZero at h
  simp only [Bool.and_eq_true, Bool.not_eq_true', decide_eq_true_eq] at h
  obtain ⟨⟨⟨rfl, rfl⟩, rfl⟩, hd⟩ := h
  have : d = ByteArray.empty := by
    obtain ⟨a⟩ := d
    have e : a = #[] := Array.eq_empty_of_size_eq_zero hd
    rw [e]; rfl
  rw [this]
  rfl
theorem free_pages {x : Bk} (h : BkOk x) (hf : freeB x = true) : x.pages = List.replicate 4 zeroPg := by
  obtain ⟨w, ps⟩ := x
  have h4 := h.four
  match ps, h4 with
  | [p0, p1, p2, p3], _ =>
    have u0 : p0.used = false := by simpa [freeB, pu, pagesF] using hf
    have o1 := h.order 0 p1 p0 rfl rfl
    have o2 := h.order 1 p2 p1 rfl rfl
    have o3 := h.order 2 p3 p2 rfl rfl
    have u1 : p1.used = false := by cases e : p1.used with
      | false => rfl
      | true => have := o1 e; rw [u0] at this; cases this
    have u2 : p2.used = false := by cases e : p2.used with
      | false => rfl
      | true => have := o2 e; rw [u1] at this; cases this
    have u3 : p3.used = false := by cases e : p3.used with
      | false => rfl
      | true => have := o3 e; rw [u2] at this; cases this
    have z : ∀ (k : Nat) (p : Pg), [p0, p1, p2, p3][k]? = some p → p.used = false → p = zeroPg := fun k p hp hu => by
      have := h.page k p hp
      unfold pgOk at this
      rw [hu] at this
      exact isZero_zero (by simpa using this)
    rw [z 0 p0 rfl u0, z 1 p1 rfl u1, z 2 p2 rfl u2, z 3 p3 rfl u3]
    rfl
def padded (ps : List Pg) : List Pg := ps ++ List.replicate (4 - ps.length) zeroPg
theorem padded_at {ps : List Pg} {k : Nat} (hk : k < ps.length) : (padded ps)[k]? = ps[k]? := by
  unfold padded; rw [List.getElem?_append_left hk]
theorem padded_rest {ps : List Pg} {k : Nat} (hk : ps.length ≤ k) (h4 : k < 4) : (padded ps)[k]? = some zeroPg := by
  unfold padded
  rw [List.getElem?_append_right hk, List.getElem?_replicate, if_pos (by omega)]
theorem next_padded {ps : List Pg} (hlt : ps.length < 4) (hu : ∀ p ∈ ps, p.used = true) : NextIs (fun k => (pagesF (padded ps) k).used) 4 (ps.length : Int) := by
  refine .inl ⟨ps.length, hlt, rfl, ?_, fun j hj => ?_⟩
  · simp only [pagesF, padded_rest (Nat.le_refl _) hlt]; rfl
  · obtain ⟨p, hp⟩ := getElem?_ex (l := ps) (k := j) hj
    simp only [pagesF, padded_at hj, hp]
    exact hu p (List.mem_of_getElem? hp)
theorem set_padded {ps : List Pg} (hlt : ps.length < 4) (p : Pg) : (padded ps).set ps.length p = padded (ps ++ [p]) := by
  unfold padded
  rw [List.set_append_right _ _ (Nat.le_refl _), Nat.sub_self]
  obtain ⟨k, hk⟩ : ∃ k, 4 - ps.length = k + 1 := ⟨3 - ps.length, by omega⟩
  have hk2 : 4 - (ps ++ [p]).length = k := by simp; omega
  rw [hk, hk2, List.replicate_succ, List.set_cons_zero]
  simp
theorem mem_usedOf {bs : List Bk} {b k : Nat} {x : Bk} {p : Pg} (hx : bs[b]? = some x) (hp : x.pages[k]? = some p) (hk : k < 4) (hu : p.used = true) : (((b : Int) * 4 + (k : Int)), p) ∈ usedOf bs := by
  have hb := (List.getElem?_eq_some_iff.1 hx).1
  unfold usedOf usedAll usedB
  simp only [List.mem_flatMap, List.mem_range]
  refine ⟨b, hb, ?_⟩
  simp only [List.mem_map, List.mem_filter, List.mem_range]
  refine ⟨k, ⟨hk, ?_⟩, ?_⟩
  · rw [mOf_page hx hp]; exact hu
  · rw [mOf_page hx hp]
theorem topOf_ge {xs : List (Int × Pg)} {x : Int × Pg} (h : x ∈ xs) : x.2.seq ≤ (topOf xs).1 := by
  suffices H : ∀ (xs : List (Int × Pg)) (c : Int × Int), c.1 ≤ (xs.foldl topStep c).1 ∧ ∀ x ∈ xs, x.2.seq ≤ (xs.foldl topStep c).1 from (H xs (0, 0)).2 x h
  intro xs
  induction xs with
  | nil => intro c; exact ⟨Int.le_refl _, fun x hx => by simp at hx⟩
  | cons y ys ih =>
    intro c
    simp only [List.foldl_cons]
    obtain ⟨h1, h2⟩ := ih (topStep c y)
    have h3 : c.1 ≤ (topStep c y).1 ∧ y.2.seq ≤ (topStep c y).1 := by
      unfold topStep
      split
      · simp only; omega
      · exact ⟨Int.le_refl _, by omega⟩
    refine ⟨by omega, fun x hx => ?_⟩
    rcases List.mem_cons.1 hx with rfl | hx
    · omega
    · exact h2 x hx
theorem ChipOk.seqs_top {bs : List Bk} (h : ChipOk bs) {s : Int} (hs : s ∈ seqs bs) : s ≤ topSeq bs := by
  obtain ⟨i, b, k, p, hb, hp, hu, rfl⟩ := seqs_mem hs
  have hk : k < 4 := by have := (List.getElem?_eq_some_iff.1 hp).1; have := (h.block b (List.mem_of_getElem? hb)).four; omega
  exact topOf_ge (mem_usedOf hb hp hk hu)
theorem seqs_set_mem {bs : List Bk} {f : Nat} {c : Bk} {s : Int} (h : s ∈ seqs (bs.set f c)) : s ∈ seqs bs ∨ ∃ p ∈ c.pages, p.used = true ∧ p.seq = s := by
  obtain ⟨i, b, k, p, hb, hp, hu, rfl⟩ := seqs_mem h
  by_cases e : i = f
  · subst e
    rw [List.getElem?_set] at hb
    simp at hb
    obtain ⟨_, rfl⟩ := hb
    exact .inr ⟨p, List.mem_of_getElem? hp, hu, rfl⟩
  · rw [List.getElem?_set_ne (fun h => e h.symm)] at hb
    exact .inl (mem_seqs hb hp hu)
/-- A page is programmed behind those of a block. -/
theorem step_prog {bs : List Bk} {f : Nat} {wf : Int} {ps : List Pg} {p : Pg} (hok : ChipOk bs) (hx : bs[f]? = some ⟨wf, padded ps⟩) (hlt : ps.length < 4) (hu : ∀ q ∈ ps, q.used = true) (hr : rightUsed p = true) (hs : ∀ s ∈ seqs bs, s < p.seq) :
    OpStep bs ⟨1, (f : Int), p⟩ (bs.set f ⟨wf, padded (ps ++ [p])⟩) := by
  have hf := (List.getElem?_eq_some_iff.1 hx).1
  refine .inl ⟨rfl, .inr (.inr ⟨hok, ⟨⟨by show (0 : Int) ≤ (f : Int); omega, by show (f : Int) ≤ _; omega⟩, hr, fun h => by have := hs _ h; exact absurd this (Int.lt_irrefl _)⟩, ⟨wf, padded ps⟩, (ps.length : Int), by simpa using hx, next_padded hlt hu, .inr ⟨by omega, ?_, rfl⟩⟩)⟩
  simp only [Int.toNat_natCast]
  rw [set_padded hlt]
/-- A block is erased. -/
theorem step_erase {bs : List Bk} {v : Nat} {y : Bk} (hok : ChipOk bs) (hy : bs[v]? = some y) (hw : y.wear ≠ 1000000000) : OpStep bs ⟨2, (v : Int), zeroPg⟩ (bs.set v ⟨y.wear + 1, zeroBk.pages⟩) := by
  have hv := (List.getElem?_eq_some_iff.1 hy).1
  refine .inr ⟨rfl, .inr (.inr ⟨hok, ⟨by show (0 : Int) ≤ (v : Int); omega, by show (v : Int) ≤ _; omega⟩, y, by simpa using hy, .inr ⟨hw, ?_, rfl⟩⟩), rfl⟩
  simp only [Int.toNat_natCast]

theorem rightUsed_seq {p : Pg} (h : rightUsed p = true) {s : Int} (h1 : 1 ≤ s) (h2 : s ≤ 1000000000) : rightUsed { p with seq := s } = true := by
  unfold rightUsed at h ⊢
  simp only [Bool.and_eq_true, decide_eq_true_eq] at h ⊢
  exact ⟨⟨h.1.1, h1, h2⟩, h.2⟩
theorem runs_moves {bs : List Bk} {L : List Int} {seq o : Int} (h : FtlOk bs L seq o) (hq : seq ≤ 999999990) {f : Nat} {x : Bk} (hx : bs[f]? = some x) (hfree : freeB x = true) {v : Nat} (hv : v < bs.length) :
    ∀ k, k ≤ 4 → Runs bs (movedTo bs L (v : Int) (f : Int) seq k) (bs.set f ⟨x.wear, padded ((movedTo bs L (v : Int) (f : Int) seq k).map (·.page))⟩) ∧ (∀ p ∈ (movedTo bs L (v : Int) (f : Int) seq k).map (·.page), p.used = true) ∧
      ∀ s ∈ seqs (bs.set f ⟨x.wear, padded ((movedTo bs L (v : Int) (f : Int) seq k).map (·.page))⟩), s < seq + ((movedTo bs L (v : Int) (f : Int) seq k).length : Int) := by
  have hf := (List.getElem?_eq_some_iff.1 hx).1
  have hxb := h.chip.block x (List.mem_of_getElem? hx)
  have hpx := free_pages hxb hfree
  have hsq := h.seq
  have htp := h.chip.top
  intro k
  induction k with
  | zero =>
    intro _
    have e : bs.set f ⟨x.wear, padded ((movedTo bs L (v : Int) (f : Int) seq 0).map (·.page))⟩ = bs := by
      have e2 : (⟨x.wear, padded ((movedTo bs L (v : Int) (f : Int) seq 0).map (·.page))⟩ : Bk) = x := by
        obtain ⟨xw, xp⟩ := x
        simp only at hpx
        rw [hpx]
        rfl
      rw [e2, ← (List.getElem?_eq_some_iff.1 hx).2]
      exact List.set_getElem_self _
    rw [e]
    refine ⟨rfl, fun p hp => by simp [movedTo] at hp, fun s hs => ?_⟩
    have := h.chip.seqs_top hs
    simp [movedTo]
    omega
  | succ k ih =>
    intro hk
    obtain ⟨i1, i2, i3⟩ := ih (by omega)
    by_cases hm : movesAt bs L (v : Int) k = true
    · have e : movedTo bs L (v : Int) (f : Int) seq (k + 1) = movedTo bs L (v : Int) (f : Int) seq k ++ [⟨1, (f : Int), { pageIn bs (v : Int) k with seq := seq + ((movedTo bs L (v : Int) (f : Int) seq k).length : Int) }⟩] := by simp [movedTo, hm]
      have hln := movedTo_length bs L (v : Int) (f : Int) seq k
      rw [e]
      obtain ⟨M, hM⟩ : ∃ M, M = movedTo bs L (v : Int) (f : Int) seq k := ⟨_, rfl⟩
      rw [← hM] at i1 i2 i3 hln ⊢
      obtain ⟨y, hy⟩ := getElem?_ex (l := bs) (k := v) hv
      have hyb := h.chip.block y (List.mem_of_getElem? hy)
      obtain ⟨p, hp⟩ := getElem?_ex (l := y.pages) (k := k) (by have := hyb.four; omega)
      have hpi := pageIn_of hy hp
      have hpu : p.used = true := by unfold movesAt at hm; rw [hpi] at hm; simp at hm; exact hm.1
      have hpr : rightUsed p = true := by have := hyb.page k p hp; unfold pgOk at this; rw [hpu] at this; simpa using this
      rw [hpi]
      have hr := rightUsed_seq hpr (s := seq + (M.length : Int)) (by omega) (by omega)
      have hst := step_prog (f := f) (wf := x.wear) (ps := M.map (·.page)) (p := { p with seq := seq + (M.length : Int) }) (i1.ok h.chip) (by simp [hf]) (by simp; omega) i2 hr i3
      rw [List.set_set] at hst
      refine ⟨runs_snoc.2 ⟨_, i1, ?_⟩, fun q hq2 => ?_, fun s hs => ?_⟩
      · simpa using hst
      · simp only [List.map_append, List.map_cons, List.map_nil, List.mem_append, List.mem_singleton] at hq2
        rcases hq2 with hq2 | rfl
        · exact i2 q hq2
        · exact hpu
      · rw [← List.set_set (a := (⟨x.wear, padded (M.map (·.page))⟩ : Bk))] at hs
        rw [List.length_append]
        rcases seqs_set_mem hs with h1 | ⟨q, hq2, hqu, rfl⟩
        · have := i3 s h1; simp; omega
        · simp only [padded, List.map_append, List.map_cons, List.map_nil, List.mem_append, List.mem_singleton] at hq2
          rcases hq2 with (hq2 | rfl) | hq2
          · have hmem : q.seq ∈ seqs (bs.set f ⟨x.wear, padded (M.map (·.page))⟩) := by
              obtain ⟨t, ht, rfl⟩ := List.getElem_of_mem hq2
              have h5 : (bs.set f (⟨x.wear, padded (M.map (·.page))⟩ : Bk))[f]? = some ⟨x.wear, padded (M.map (·.page))⟩ := by simp [hf]
              exact mem_seqs h5 (k := t) (by show (padded (M.map (·.page)))[t]? = _; rw [padded_at ht]; exact List.getElem?_eq_getElem ht) hqu
            have := i3 _ hmem
            simp
            omega
          · simp
            omega
          · have := List.eq_of_mem_replicate hq2
            rw [this] at hqu
            cases hqu
    · have e : movedTo bs L (v : Int) (f : Int) seq (k + 1) = movedTo bs L (v : Int) (f : Int) seq k := by simp [movedTo, hm]
      rw [e]
      exact ⟨i1, i2, i3⟩
theorem full_order {b : Bk} (h : BkOk b) {r : Int} (hr : NextIs (fun k => (pagesF b.pages k).used) 4 r) (h0 : 0 ≤ r) : b.pages = padded (b.pages.take r.toNat) ∧ r.toNat < 4 ∧ ∀ p ∈ b.pages.take r.toNat, p.used = true := by
  rcases hr with ⟨k, hk, rfl, h1, h2⟩ | ⟨rfl, _⟩
  · have h4 := h.four
    simp only [Int.toNat_natCast]
    have hz : ∀ j, k ≤ j → j < 4 → ∀ p, b.pages[j]? = some p → p.used = false := by
      intro j
      induction j with
      | zero =>
        intro hj _ p hp
        obtain rfl : k = 0 := by omega
        simpa [pagesF, hp] using h1
      | succ j ih =>
        intro hj hj4 p hp
        by_cases e : k = j + 1
        · subst e; simpa [pagesF, hp] using h1
        · obtain ⟨q, hq⟩ := getElem?_ex (l := b.pages) (k := j) (by omega)
          have hqf := ih (by omega) (by omega) q hq
          cases hpu : p.used with
          | false => rfl
          | true => have := h.order j p q hq hp hpu; rw [hqf] at this; cases this
    refine ⟨?_, hk, fun p hp => ?_⟩
    · refine List.ext_getElem? (fun j => ?_)
      have hl : (b.pages.take k).length = k := by rw [List.length_take]; omega
      by_cases hj : j < k
      · rw [padded_at (by omega), List.getElem?_take, if_pos hj]
      · by_cases hj4 : j < 4
        · rw [padded_rest (by omega) hj4]
          obtain ⟨q, hq⟩ := getElem?_ex (l := b.pages) (k := j) (by omega)
          have hqu := hz j (by omega) hj4 q hq
          have hpo := h.page j q hq
          unfold pgOk at hpo
          rw [hqu] at hpo
          have hq0 : q = zeroPg := isZero_zero (by simpa using hpo)
          rw [hq, hq0]
        · rw [List.getElem?_eq_none (by omega), List.getElem?_eq_none (by unfold padded; rw [List.length_append, List.length_replicate]; omega)]
    · obtain ⟨j, hj, rfl⟩ := List.getElem_of_mem hp
      have hl : (b.pages.take k).length = k := by rw [List.length_take]; omega
      have := h2 j (by omega)
      have e : b.pages[j]? = some (b.pages.take k)[j] := by rw [List.getElem_take]; exact List.getElem?_eq_getElem _
      simpa [pagesF, e] using this
  · omega
/-- The ops of a write run. -/
theorem FtlOk.runs {bs : List Bk} {L : List Int} {seq o lg : Int} {data : ByteArray} (h : FtlOk bs L seq o) (hfo : formOk bs lg data) (hro : roomy bs seq) : ∃ out, Runs bs (writeOps bs L seq o lg data) out ∧ out.length = bs.length := by
  have hop := h.opn
  have hsq := h.seq
  have htp := h.chip.top
  have hc := h.chip.count
  obtain ⟨ob, rfl⟩ := Int.eq_ofNat_of_zero_le hop.1
  obtain ⟨x, hx⟩ := getElem?_ex (l := bs) (k := ob) (by omega)
  have hx' : bs[((ob : Int)).toNat]? = some x := by simpa using hx
  have hxb := h.chip.block x (List.mem_of_getElem? hx)
  have hrm : (roomOf bs : Int) ≤ 36 := by unfold roomOf; omega
  have hright : ∀ s : Int, 1 ≤ s → s ≤ 1000000000 → rightUsed ⟨true, lg, s, data⟩ = true := fun s h1 h2 => by
    obtain ⟨f1, f2, f3⟩ := hfo
    unfold rightUsed
    simp only [Bool.and_eq_true, decide_eq_true_eq, Bool.true_and]
    exact ⟨⟨⟨f1, by omega⟩, h1, h2⟩, f3⟩
  have hs0 : ∀ s ∈ seqs bs, s < seq := fun s hs => by have := h.chip.seqs_top hs; omega
  have hro2 := hro.2
  cases hfu : fullB x with
  | false =>
    have hne : ∃ r, NextIs (pu x) 4 r ∧ 0 ≤ r := by
      have hfu2 := hfu
      unfold fullB at hfu2
      cases e0 : pu x 0 with
      | false => exact ⟨0, .inl ⟨0, by omega, rfl, e0, fun j hj => by omega⟩, by omega⟩
      | true =>
        cases e1 : pu x 1 with
        | false => exact ⟨1, .inl ⟨1, by omega, rfl, e1, fun j hj => by
            have : j = 0 := by omega
            subst this
            exact e0⟩, by omega⟩
        | true =>
          cases e2 : pu x 2 with
          | false => exact ⟨2, .inl ⟨2, by omega, rfl, e2, fun j hj => by
              have : j = 0 ∨ j = 1 := by omega
              rcases this with rfl | rfl
              · exact e0
              · exact e1⟩, by omega⟩
          | true =>
            cases e3 : pu x 3 with
            | false => exact ⟨3, .inl ⟨3, by omega, rfl, e3, fun j hj => by
                have : j = 0 ∨ j = 1 ∨ j = 2 := by omega
                rcases this with rfl | rfl | rfl
                · exact e0
                · exact e1
                · exact e2⟩, by omega⟩
            | true => rw [e0, e1, e2, e3] at hfu2; cases hfu2
    obtain ⟨r, hr, hr0⟩ := hne
    obtain ⟨e1, e2, e3⟩ := full_order hxb hr hr0
    have hl4 := hxb.four
    have hst := step_prog (f := ob) (wf := x.wear) (ps := x.pages.take r.toNat) (p := ⟨true, lg, seq, data⟩) h.chip (by rw [← e1]; exact hx) (by rw [List.length_take]; omega) e3 (hright seq (by omega) hsq.2) hs0
    have ew : writeOps bs L seq (ob : Int) lg data = [⟨1, (ob : Int), ⟨true, lg, seq, data⟩⟩] := by unfold writeOps; rw [fullAt_of hx', hfu]; rfl
    rw [ew]
    exact ⟨_, ⟨_, hst, rfl⟩, by rw [List.length_set]⟩
  | true =>
    obtain ⟨fi, fx, hfr, hfx, hff, hfl, _⟩ := h.fresh
    have hfxb := h.chip.block fx (List.mem_of_getElem? hfx)
    by_cases hal : freshOf bs (freshOf bs (-1)) < 0
    · obtain ⟨hfew, v, y, hv, hy, hvn⟩ := h.victimFew hx' hfu hal
      have hvl := (List.getElem?_eq_some_iff.1 hy).1
      rw [hv] at hfew
      rw [hfr] at hvn
      have hj3 := moved_few (into := (fi : Int)) (s := seq) h (v := (v : Int)) (by omega)
      obtain ⟨m1, m2, m3⟩ := runs_moves h hro.2 hfx hff hvl 4 (Nat.le_refl _)
      have ew : writeOps bs L seq (ob : Int) lg data = moveOps bs L (v : Int) (fi : Int) seq ++ [⟨1, (fi : Int), ⟨true, lg, seq + ((movedTo bs L (v : Int) (fi : Int) seq 4).length : Int), data⟩⟩] := by
        unfold writeOps
        rw [fullAt_of hx', hfu, if_pos rfl, if_pos hal, hfr]
        rw [hfr] at hv
        rw [hv]
      rw [ew]
      obtain ⟨M, hM⟩ : ∃ M, M = movedTo bs L (v : Int) (fi : Int) seq 4 := ⟨_, rfl⟩
      unfold moveOps
      rw [← hM] at m1 m2 m3 hj3 ⊢
      have ok1 := m1.ok h.chip
      have hyw : y.wear ≠ 1000000000 := fun e => hro.1 ⟨v, y, hvl, hy, e⟩
      have hy1 : (bs.set fi ⟨fx.wear, padded (M.map (·.page))⟩)[v]? = some y := by rw [List.getElem?_set_ne (by omega)]; exact hy
      have st1 := step_erase ok1 hy1 hyw
      have r1 := runs_snoc.2 ⟨_, m1, st1⟩
      have ok2 := r1.ok h.chip
      have hf2 : ((bs.set fi ⟨fx.wear, padded (M.map (·.page))⟩).set v ⟨y.wear + 1, zeroBk.pages⟩)[fi]? = some ⟨fx.wear, padded (M.map (·.page))⟩ := by
        rw [List.getElem?_set_ne (by omega)]
        simp [hfl]
      have st2 := step_prog (p := ⟨true, lg, seq + (M.length : Int), data⟩) ok2 hf2 (by simp; omega) m2 (hright _ (by omega) (by omega)) (fun s hs => by
        rcases seqs_set_mem hs with h1 | ⟨q, hq2, hqu, rfl⟩
        · exact m3 s h1
        · simp [zeroBk] at hq2
          rw [hq2] at hqu
          cases hqu)
      have r2 := runs_snoc.2 ⟨_, r1, st2⟩
      exact ⟨_, r2, by rw [List.length_set, List.length_set, List.length_set]⟩
    · have hp := free_pages hfxb hff
      have e1 : fx = ⟨fx.wear, padded []⟩ := by
        obtain ⟨fw, fp⟩ := fx
        simp only at hp
        rw [hp]
        rfl
      have hst := step_prog (f := fi) (wf := fx.wear) (ps := []) (p := ⟨true, lg, seq, data⟩) h.chip (by rw [← e1]; exact hfx) (by simp) (fun q hq => by simp at hq) (hright seq (by omega) hsq.2) hs0
      have ew : writeOps bs L seq (ob : Int) lg data = [⟨1, (fi : Int), ⟨true, lg, seq, data⟩⟩] := by unfold writeOps; rw [fullAt_of hx', hfu, if_pos rfl, if_neg hal, hfr]
      rw [ew]
      exact ⟨_, ⟨_, hst, rfl⟩, by rw [List.length_set]⟩
end Go.Proofs.YtjgcjeaplckbbaaGreat
