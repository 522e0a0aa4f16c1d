/- Ops done one by one: the model's l3Op. -/
import Derived.Test.YtalgkmellbamgaaDidP
import Derived.Test.YtalgkmellbamgaaProgS
import Derived.Test.YtalgkmellbamgaaEraS
import Derived.Test.YtalgkmellbamgaaHasSeq
namespace Go.Proofs.Ytalgkmellbamgaa
open Go.RowKit
set_option linter.unusedVariables false
set_option linter.unusedSimpArgs false

/-- A row that holds a chip of nothing holds no block of four pages and no page: so blocks that are read lie elsewhere. -/
theorem blocksAt_apart1 {w w' : World} {B : Nat} {ty : TypeId} {a : Option Addr} {bs : List Bk} (hr : w.heap[B]? = some (.cells #[.slice none 0 0] ty (0, 0))) (h : BlocksAt w a bs) (h4 : ∀ b ∈ bs, b.pages.length = 4) (hT : Touch (· = B) w w') : BlocksAt w' a bs := by
  have hz : ∀ {i : Nat} {v : Value}, w.cell? ⟨B, i, none⟩ = some v → v = .slice none 0 0 := by
    intro i v hv
    rw [cell_of_row _ _ i _ _ _ hr] at hv
    match i with
    | 0 => simp at hv; exact hv.symm
    | i + 1 => simp at hv
  intro i b hb
  obtain ⟨g, o, pa, pc, ha, c0, c1, hp⟩ := h i b hb
  have hl := h4 b (List.mem_of_getElem? hb)
  have hg : g ≠ B := by
    rintro rfl
    have e := hz c1
    injection e with _ e2 _
    omega
  have hc : ∀ j, w'.cell? ⟨g, j, none⟩ = w.cell? ⟨g, j, none⟩ := fun j => World.cell?_of_block (w := w) (a := ⟨g, j, none⟩) (hT.block g (World.block_lt_of_cell? _ _ c0) hg)
  refine ⟨g, o, pa, pc, ha, (hc _).trans c0, (hc _).trans c1, fun k p hk => ?_⟩
  obtain ⟨g2, o2, ha2, d0, d1, d2, d3⟩ := hp k p hk
  have hg2 : g2 ≠ B := by
    rintro rfl
    have e := hz d0
    cases e
  have hc2 : ∀ j, w'.cell? ⟨g2, j, none⟩ = w.cell? ⟨g2, j, none⟩ := fun j => World.cell?_of_block (w := w) (a := ⟨g2, j, none⟩) (hT.block g2 (World.block_lt_of_cell? _ _ d0) hg2)
  exact ⟨g2, o2, ha2, (hc2 _).trans d0, (hc2 _).trans d1, (hc2 _).trans d2, (hc2 _).trans d3⟩
theorem touch1 (w : World) (B : Nat) (v : Value) : Touch (· = B) w (w.setCell ⟨B, 0, none⟩ v) := by
  have h0 := Touch.refl (fun k => k = B) w
  exact Touch.setCell h0 (p := ⟨B, 0, none⟩) (by rfl) v
theorem heap4a (w : World) (o1 o2 o3 o4 : Obj) : ((((w.alloc o1).alloc o2).alloc o3).alloc o4).heap[w.heap.size]? = some o1 ∧ ((((w.alloc o1).alloc o2).alloc o3).alloc o4).heap[w.heap.size + 1]? = some o2 ∧ ((((w.alloc o1).alloc o2).alloc o3).alloc o4).heap[w.heap.size + 1 + 1]? = some o3 ∧ ((((w.alloc o1).alloc o2).alloc o3).alloc o4).heap[w.heap.size + 1 + 1 + 1]? = some o4 := by
  obtain ⟨h1, h2, h3⟩ := heap3 w o1 o2 o3
  refine ⟨(Below.heap_alloc _ _ _ (by simp; omega)).trans h1, (Below.heap_alloc _ _ _ (by simp)).trans h2, (Below.heap_alloc _ _ _ (by simp)).trans h3, ?_⟩
  have := World.alloc_heap_new (((w.alloc o1).alloc o2).alloc o3) o4
  simpa using this

/-- What l3Op answers. -/
def OpRet (bs : List Bk) (x : Opn) (e : Ending) (w' : World) : Prop :=
  ∃ (a : Option Addr) (n c : Nat) (out : List Bk) (r : Bool), e = .returned (.tuple #[.agg #[.slice a n c], .bool r]) ∧ out.length = n ∧ BlocksAt w' a out ∧ (r = true → OpStep bs x out) ∧ (r = false → ¬ ∃ o, OpStep bs x o)

set_option maxRecDepth 100000 in
set_option maxHeartbeats 2000000 in
theorem l3Op_program (a : Option Addr) (c : Nat) (bs : List Bk) (n : Nat) (hl : bs.length = n) (hok : ChipOk bs) (x : Opn) (hk : x.kind = 1) (w : World) (h : BlocksAt w a bs) :
    Calls Try.prog 138 #[.agg #[.slice a n c], .agg #[.int .i64 x.kind, .int .i64 x.block, .bool x.page.used, .int .i64 x.page.log, .int .i64 x.page.seq, .string x.page.data]] w fun e w' => OpRet bs x e w' ∧ Below w.heap.size w w' := by
  have hb0 : ∀ o1 o2 o3 o4, Below w.heap.size w ((((w.alloc o1).alloc o2).alloc o3).alloc o4) := fun o1 o2 o3 o4 => ((((Below.refl _ w).alloc (Nat.le_refl _) _).alloc (by simp) _).alloc (by simp; omega) _).alloc (by simp; omega) _
  obtain ⟨xk, xb, xu, xl, xs, xd⟩ := x
  simp only at hk
  subst hk
  go_enter Try.func138, Try.ntmps138
  go_wp2_with fail
  refine (specProgrammed_any a c bs n hl xb xu xl xs xd _ (h.below (hb0 _ _ _ _) (Nat.le_refl _)) (lens_of_ok hok)).mono ?_
  rintro e w1 ⟨a2, n2, c2, out, code, rfl, hP, hln, hA, hB1⟩
  have hs1 := hB1.size
  simp at hs1
  have hr1 : w1.heap[w.heap.size + 1 + 1]? = some (.cells #[.slice none 0 0] 26 (0, 0)) := (hB1.block _ (by simp)).trans (heap4a w _ _ _ _).2.2.1
  have hW1 : Below w.heap.size w w1 := (hb0 _ _ _ _).trans (hB1.mono (by simp; omega))
  have hr2 : ∀ o', (w1.alloc o').heap[w.heap.size + 1 + 1]? = some (.cells #[.slice none 0 0] 26 (0, 0)) := fun o' => (Below.heap_alloc _ _ _ (by omega)).trans hr1
  have hc2 : ∀ o', (w1.alloc o').cell? ⟨w.heap.size + 1 + 1, 0, none⟩ = some (.slice none 0 0) := fun o' => cell_of_row _ _ 0 _ _ _ (hr2 o')
  have hf2 : ∀ o', (w1.alloc o').frozen? ⟨w.heap.size + 1 + 1, 0, none⟩ = false := fun o' => frozen_of_row _ _ 0 _ _ (hr2 o')
  have HR2 := hide hr2
  have HP := hide hP
  have HA := hide hA
  have HOK := hide hok
  clear hr1 hr2 hP hA hB1 hb0 h hok
  go_wp2
  refine bodyPost_ret (v := .tuple #[.agg #[.slice a2 n2 c2], .bool (code == 0)]) (by simp [results, Try.results138, go_sem, hc2]) rfl ⟨⟨a2, n2, c2, out, code == 0, rfl, hln, ?_, ?_, ?_⟩, ?_⟩
  · exact blocksAt_apart1 (unhide HR2 _) ((unhide HA).below ((Below.refl _ w1).alloc (Nat.le_refl _) _) (Nat.le_refl _)) (fun b hb => (((unhide HP).ok (unhide HOK)).block b hb).four) (touch1 _ _ _)
  · intro hr
    have h0 : code = 0 := by simpa using hr
    exact .inl ⟨rfl, h0 ▸ unhide HP⟩
  · rintro hr ⟨o, ⟨_, h2⟩ | ⟨h1, _⟩⟩
    · have h3 := ((unhide HP).one h2).2
      rw [h3] at hr
      simp at hr
    · simp at h1
  · exact (hW1.alloc hW1.size _).setCell (by show w.heap.size ≤ w.heap.size + 1 + 1; omega) _

set_option maxRecDepth 100000 in
set_option maxHeartbeats 2000000 in
theorem l3Op_erase (a : Option Addr) (c : Nat) (bs : List Bk) (n : Nat) (hl : bs.length = n) (hok : ChipOk bs) (x : Opn) (hk : x.kind = 2) (w : World) (h : BlocksAt w a bs) :
    Calls Try.prog 138 #[.agg #[.slice a n c], .agg #[.int .i64 x.kind, .int .i64 x.block, .bool x.page.used, .int .i64 x.page.log, .int .i64 x.page.seq, .string x.page.data]] w fun e w' => OpRet bs x e w' ∧ Below w.heap.size w w' := by
  have hb0 : ∀ o1 o2 o3 o4, Below w.heap.size w ((((w.alloc o1).alloc o2).alloc o3).alloc o4) := fun o1 o2 o3 o4 => ((((Below.refl _ w).alloc (Nat.le_refl _) _).alloc (by simp) _).alloc (by simp; omega) _).alloc (by simp; omega) _
  obtain ⟨xk, xb, xu, xl, xs, xd⟩ := x
  simp only at hk
  subst hk
  go_enter Try.func138, Try.ntmps138
  go_wp2_with fail
  refine (specErased_any a c bs n hl xb _ (h.below (hb0 _ _ _ _) (Nat.le_refl _)) (lens_of_ok hok)).mono ?_
  rintro e w1 ⟨a2, n2, c2, out, code, rfl, hP, hln, hA, hB1⟩
  have hs1 := hB1.size
  simp at hs1
  have hr0 := (hB1.block _ (by simp)).trans (heap4a w (.cells #[.slice a n c] 26) (.cells #[.int .i64 2, .int .i64 xb, .bool xu, .int .i64 xl, .int .i64 xs, .string xd] 63) (.cells #[.slice none 0 0] 26) (.cells #[.bool false, .int .i64 0, .int .i64 0, .string ⟨#[]⟩] 28)).2.1
  have hr1 := (hB1.block _ (by simp)).trans (heap4a w (.cells #[.slice a n c] 26) (.cells #[.int .i64 2, .int .i64 xb, .bool xu, .int .i64 xl, .int .i64 xs, .string xd] 63) (.cells #[.slice none 0 0] 26) (.cells #[.bool false, .int .i64 0, .int .i64 0, .string ⟨#[]⟩] 28)).2.2.1
  have hr3 := (hB1.block _ (by simp)).trans (heap4a w (.cells #[.slice a n c] 26) (.cells #[.int .i64 2, .int .i64 xb, .bool xu, .int .i64 xl, .int .i64 xs, .string xd] 63) (.cells #[.slice none 0 0] 26) (.cells #[.bool false, .int .i64 0, .int .i64 0, .string ⟨#[]⟩] 28)).2.2.2
  have hW1 : Below w.heap.size w w1 := (hb0 _ _ _ _).trans (hB1.mono (by simp; omega))
  obtain ⟨w2, hw2⟩ : ∃ w2, w2 = w1.alloc (.cells #[.slice a2 n2 c2] 26) := ⟨_, rfl⟩
  have hs2 : w1.heap.size < w2.heap.size := by rw [hw2]; simp
  have hB12 : Below w1.heap.size w1 w2 := by rw [hw2]; exact (Below.refl _ w1).alloc (Nat.le_refl _) _
  have z2 : w2.cell? ⟨w1.heap.size, 0, none⟩ = some (.slice a2 n2 c2) := by rw [hw2]; simp
  have hr2 := (hB12.block (w.heap.size + 1 + 1) (by omega)).trans hr1
  have c2' := cell_of_row _ _ 0 _ _ _ hr2
  have f2' := frozen_of_row _ _ 0 _ _ hr2
  have p2 := (hB12.cell (p := ⟨w.heap.size + 1, 2, none⟩) (by show w.heap.size + 1 < _; omega)).trans (cell_of_row _ _ 2 _ _ _ hr0)
  have p3 := (hB12.cell (p := ⟨w.heap.size + 1, 3, none⟩) (by show w.heap.size + 1 < _; omega)).trans (cell_of_row _ _ 3 _ _ _ hr0)
  have p4 := (hB12.cell (p := ⟨w.heap.size + 1, 4, none⟩) (by show w.heap.size + 1 < _; omega)).trans (cell_of_row _ _ 4 _ _ _ hr0)
  have p5 := (hB12.cell (p := ⟨w.heap.size + 1, 5, none⟩) (by show w.heap.size + 1 < _; omega)).trans (cell_of_row _ _ 5 _ _ _ hr0)
  have q0 := (hB12.cell (p := ⟨w.heap.size + 1 + 1 + 1, 0, none⟩) (by show w.heap.size + 1 + 1 + 1 < _; omega)).trans (cell_of_row _ _ 0 _ _ _ hr3)
  have q1 := (hB12.cell (p := ⟨w.heap.size + 1 + 1 + 1, 1, none⟩) (by show w.heap.size + 1 + 1 + 1 < _; omega)).trans (cell_of_row _ _ 1 _ _ _ hr3)
  have q2 := (hB12.cell (p := ⟨w.heap.size + 1 + 1 + 1, 2, none⟩) (by show w.heap.size + 1 + 1 + 1 < _; omega)).trans (cell_of_row _ _ 2 _ _ _ hr3)
  have q3 := (hB12.cell (p := ⟨w.heap.size + 1 + 1 + 1, 3, none⟩) (by show w.heap.size + 1 + 1 + 1 < _; omega)).trans (cell_of_row _ _ 3 _ _ _ hr3)
  simp at c2' p2 p3 p4 p5 q0 q1 q2 q3
  have hW2 := hW1.trans (hB12.mono hW1.size)
  have HR2 := hide hr2
  have HP := hide hP
  have HA2 := hide (hA.below hB12 (Nat.le_refl _))
  have HOK := hide hok
  have HW2 := hide hw2
  clear hr0 hr1 hr3 hr2 hP hA hB1 hb0 h hok hB12 hw2 hW1
  go_wp2_with fail
  rw [← unhide HW2]
  clear HW2
  by_cases hcode : code = 0
  · subst hcode
    cases hz : isZero ⟨xu, xl, xs, xd⟩ with
    | true =>
      have hz' := hz
      unfold isZero at hz'
      simp only [Bool.and_eq_true, Bool.not_eq_true', decide_eq_true_eq] at hz'
      obtain ⟨⟨⟨rfl, rfl⟩, rfl⟩, hd0⟩ := hz'
      have hd1 : xd.toList = [] := by have := isEmpty_size xd; rw [hd0] at this; simpa using this
      have HZ := hide hz
      clear hz hd0
      go_region
      all_goals (
        go_wp2
        refine bodyPost_ret (v := .tuple #[.agg #[.slice a2 n2 c2], .bool true]) (by simp [results, Try.results138, go_sem, c2', cell_drew]) rfl ⟨⟨a2, n2, c2, out, true, rfl, hln, ?_, ?_, ?_⟩, ?_⟩
        · exact blocksAt_apart1 (unhide HR2) (unhide HA2) (fun b hb => (((unhide HP).ok (unhide HOK)).block b hb).four) (touch1 _ _ _).drew
        · exact fun _ => .inr ⟨rfl, unhide HP, unhide HZ⟩
        · intro h; cases h
        · exact (hW2.setCell (by show w.heap.size ≤ w.heap.size + 1 + 1; omega) _).drew)
    | false =>
      have HNZ : Hid (¬ isZero ⟨xu, xl, xs, xd⟩ = true) := fun h => by rw [hz] at h; cases h
      cases xu with
      | true =>
        clear hz
        go_region
        all_goals (
          go_wp2
          refine bodyPost_ret (v := .tuple #[.agg #[.slice a2 n2 c2], .bool false]) (by simp [results, Try.results138, go_sem, c2', cell_drew]) rfl ⟨⟨a2, n2, c2, out, false, rfl, hln, ?_, ?_, ?_⟩, ?_⟩
          · exact blocksAt_apart1 (unhide HR2) (unhide HA2) (fun b hb => (((unhide HP).ok (unhide HOK)).block b hb).four) (touch1 _ _ _).drew
          · intro h; cases h
          · rintro _ ⟨o, ⟨h1, _⟩ | ⟨_, _, h3⟩⟩; (· simp at h1); (· exact absurd h3 (unhide HNZ))
          · exact (hW2.setCell (by show w.heap.size ≤ w.heap.size + 1 + 1; omega) _).drew)
      | false =>
        by_cases h1 : xl = 0
        · by_cases h2 : xs = 0
          · have h3 : ¬ xd.toList = [] := fun h => by
              have e := isEmpty_size xd
              rw [h] at e
              have e0 : xd.size = 0 := by simpa using e.symm
              unfold isZero at hz
              simp [h1, h2, e0] at hz
            subst h1
            subst h2
            clear hz
            go_region
            all_goals (
              go_wp2
              refine bodyPost_ret (v := .tuple #[.agg #[.slice a2 n2 c2], .bool false]) (by simp [results, Try.results138, go_sem, c2', cell_drew]) rfl ⟨⟨a2, n2, c2, out, false, rfl, hln, ?_, ?_, ?_⟩, ?_⟩
              · exact blocksAt_apart1 (unhide HR2) (unhide HA2) (fun b hb => (((unhide HP).ok (unhide HOK)).block b hb).four) (touch1 _ _ _).drew
              · intro h; cases h
              · rintro _ ⟨o, ⟨h1, _⟩ | ⟨_, _, h3⟩⟩; (· simp at h1); (· exact absurd h3 (unhide HNZ))
              · exact (hW2.setCell (by show w.heap.size ≤ w.heap.size + 1 + 1; omega) _).drew)
          · clear hz
            subst h1
            go_region
            all_goals (
              go_wp2
              refine bodyPost_ret (v := .tuple #[.agg #[.slice a2 n2 c2], .bool false]) (by simp [results, Try.results138, go_sem, c2', cell_drew]) rfl ⟨⟨a2, n2, c2, out, false, rfl, hln, ?_, ?_, ?_⟩, ?_⟩
              · exact blocksAt_apart1 (unhide HR2) (unhide HA2) (fun b hb => (((unhide HP).ok (unhide HOK)).block b hb).four) (touch1 _ _ _).drew
              · intro h; cases h
              · rintro _ ⟨o, ⟨h1, _⟩ | ⟨_, _, h3⟩⟩; (· simp at h1); (· exact absurd h3 (unhide HNZ))
              · exact (hW2.setCell (by show w.heap.size ≤ w.heap.size + 1 + 1; omega) _).drew)
        · clear hz
          go_region
          all_goals (
            go_wp2
            refine bodyPost_ret (v := .tuple #[.agg #[.slice a2 n2 c2], .bool false]) (by simp [results, Try.results138, go_sem, c2', cell_drew]) rfl ⟨⟨a2, n2, c2, out, false, rfl, hln, ?_, ?_, ?_⟩, ?_⟩
            · exact blocksAt_apart1 (unhide HR2) (unhide HA2) (fun b hb => (((unhide HP).ok (unhide HOK)).block b hb).four) (touch1 _ _ _).drew
            · intro h; cases h
            · rintro _ ⟨o, ⟨h1, _⟩ | ⟨_, _, h3⟩⟩; (· simp at h1); (· exact absurd h3 (unhide HNZ))
            · exact (hW2.setCell (by show w.heap.size ≤ w.heap.size + 1 + 1; omega) _).drew)
  · have hce : (code == 0) = false := by simpa using hcode
    go_region
    all_goals (
      go_wp2
      refine bodyPost_ret (v := .tuple #[.agg #[.slice a2 n2 c2], .bool false]) (by simp [results, Try.results138, go_sem, c2', cell_drew]) rfl ⟨⟨a2, n2, c2, out, false, rfl, hln, ?_, ?_, ?_⟩, ?_⟩
      · exact blocksAt_apart1 (unhide HR2) (unhide HA2) (fun b hb => (((unhide HP).ok (unhide HOK)).block b hb).four) (touch1 _ _ _).drew
      · intro h; cases h
      · rintro _ ⟨o, ⟨h1, _⟩ | ⟨_, h2, _⟩⟩; (· simp at h1); (· exact hcode ((unhide HP).one h2).2)
      · exact (hW2.setCell (by show w.heap.size ≤ w.heap.size + 1 + 1; omega) _).drew)

set_option maxRecDepth 100000 in
set_option maxHeartbeats 2000000 in
theorem l3Op_other (a : Option Addr) (c : Nat) (bs : List Bk) (n : Nat) (hl : bs.length = n) (hok : ChipOk bs) (x : Opn) (hk1 : x.kind ≠ 1) (hk2 : x.kind ≠ 2) (w : World) (h : BlocksAt w a bs) :
    Calls Try.prog 138 #[.agg #[.slice a n c], .agg #[.int .i64 x.kind, .int .i64 x.block, .bool x.page.used, .int .i64 x.page.log, .int .i64 x.page.seq, .string x.page.data]] w fun e w' => OpRet bs x e w' ∧ Below w.heap.size w w' := by
  have hb0 : ∀ o1 o2 o3 o4, Below w.heap.size w ((((w.alloc o1).alloc o2).alloc o3).alloc o4) := fun o1 o2 o3 o4 => ((((Below.refl _ w).alloc (Nat.le_refl _) _).alloc (by simp) _).alloc (by simp; omega) _).alloc (by simp; omega) _
  have e1 : (x.kind == 1) = false := by simpa using hk1
  have e2 : (x.kind == 2) = false := by simpa using hk2
  have HA := hide (fun o1 o2 o3 o4 => h.below (hb0 o1 o2 o3 o4) (Nat.le_refl _))
  have HW := hide hb0
  have HN : Hid (¬ ∃ o, OpStep bs x o) := by
    rintro ⟨o, ⟨h1, _⟩ | ⟨h1, _⟩⟩
    · exact hk1 h1
    · exact hk2 h1
  clear h hb0
  go_enter Try.func138, Try.ntmps138
  go_wp2
  refine bodyPost_ret (v := .tuple #[.agg #[.slice a n c], .bool false]) (by simp [results, Try.results138, go_sem]) rfl ⟨⟨a, n, c, bs, false, rfl, hl, ?_, (fun h => by cases h), fun _ => unhide HN⟩, ?_⟩
  · exact unhide HA _ _ _ _
  · exact unhide HW _ _ _ _

theorem l3Op_any (a : Option Addr) (c : Nat) (bs : List Bk) (n : Nat) (hl : bs.length = n) (hok : ChipOk bs) (x : Opn) (w : World) (h : BlocksAt w a bs) :
    Calls Try.prog 138 #[.agg #[.slice a n c], .agg #[.int .i64 x.kind, .int .i64 x.block, .bool x.page.used, .int .i64 x.page.log, .int .i64 x.page.seq, .string x.page.data]] w fun e w' => OpRet bs x e w' ∧ Below w.heap.size w w' := by
  by_cases h1 : x.kind = 1
  · exact l3Op_program a c bs n hl hok x h1 w h
  · by_cases h2 : x.kind = 2
    · exact l3Op_erase a c bs n hl hok x h2 w h
    · exact l3Op_other a c bs n hl hok x h1 h2 w h
end Go.Proofs.Ytalgkmellbamgaa
