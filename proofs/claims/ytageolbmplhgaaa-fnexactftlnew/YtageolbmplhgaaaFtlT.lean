/- Members: the laws' own copy, comparison and size of them; an argument that is a member, opened. -/
import Derived.Test.YtageolbmplhgaaaLawC
import Derived.Test.YtageolbmplhgaaaIntT
import Derived.Test.YtageolbmplhgaaaOpenI
import Derived.Test.YtageolbmplhgaaaHasSeq
import Derived.WalkKit
import Derived.ProofKit
namespace Go.Proofs.Ytageolbmplhgaaa
open Go.RowKit
set_option linter.unusedVariables false
set_option linter.unusedSimpArgs false

theorem toChip_own2 {n : Nat} (a : Option Addr) (c : Nat) (bs : List Bk) (hl : bs.length = n) (w : World) (h : BlocksAt w a bs) (hn : Lens 1048576 bs) :
    Calls Try.prog 17 #[.agg #[.slice a n c]] w fun e w' => ∃ g H, e = .returned (.agg #[.slice (some ⟨g, 0, none⟩) n n]) ∧ w.heap.size ≤ g ∧ OwnBlocks w' 75 44 g H n bs ∧ Below w.heap.size w w' := by
  subst hl; exact toChip_any a c bs w h hn

set_option maxRecDepth 100000 in
set_option maxHeartbeats 1000000 in
theorem toFtl_any (a : Option Addr) (c : Nat) (bs : List Bk) (n : Nat) (hl : bs.length = n) (ma : Option Addr) (mc : Nat) (L : List Int) (mn : Nat) (hL : L.length = mn) (seq o : Int) (w : World) (h : BlocksAt w a bs) (hn : Lens 1048576 bs) (hI : IntsAt w ma L) (hmn : mn ≤ 1048576) :
    Calls Try.prog 39 #[.agg #[.slice a n c, .slice ma mn mc, .int .i64 seq, .int .i64 o]] w fun e w' => ∃ g H m, e = .returned (.agg #[.slice (some ⟨g, 0, none⟩) n n, .slice (some ⟨m, 0, none⟩) mn mn, .int .i64 seq, .int .i64 o]) ∧ w.heap.size ≤ g ∧ g < m ∧ (∀ i, i < n → H i < m) ∧
      OwnBlocks w' 75 44 g H n bs ∧ RowInts w' 2 m mn L ∧ Below w.heap.size w w' := by
  have hb0 : ∀ o1 o2 o3, Below w.heap.size w (((w.alloc o1).alloc o2).alloc o3) := fun o1 o2 o3 => (((Below.refl _ w).alloc (Nat.le_refl _) _).alloc (by simp) _).alloc (by simp; omega) _
  have HL := hide hl
  have HLL := hide hL
  clear hl hL
  go_enter Try.func39, Try.ntmps39
  go_wp2_with fail
  refine (toChip_own2 a c bs (unhide HL) _ (h.below (hb0 _ _ _) (Nat.le_refl _)) hn).mono ?_
  rintro e w1 ⟨g, H, rfl, hg, hO, hB1⟩
  have hs1 := hB1.size
  simp at hs1 hg
  obtain ⟨r0, r1, r2⟩ := heap3 w (.cells #[.slice a n c, .slice ma mn mc, .int .i64 seq, .int .i64 o] 53) (.cells #[.slice none 0 0, .slice none 0 0, .int .i64 0, .int .i64 0] 57) (.cells #[.slice none 0 0, .slice none 0 0, .int .i64 0, .int .i64 0] 57)
  have r0' := (hB1.block _ (by simp; omega)).trans r0
  have r1' := (hB1.block _ (by simp)).trans r1
  have r2' := (hB1.block _ (by simp)).trans r2
  have hm1 := cell_of_row _ _ 1 _ _ _ r0'
  have hz0 := cell_of_row _ _ 0 _ _ _ r2'
  have hzf := frozen_of_row _ _ 0 _ _ r2'
  simp at hm1 hz0
  have hW1 : Below w.heap.size w w1 := (hb0 _ _ _).trans (hB1.mono (by simp; omega))
  have hlt : ∀ i, i < n → H i < w1.heap.size := fun i hi => hO.lt (by rw [unhide HL]; exact hi)
  have hglt : g < w1.heap.size := hO.row.lt
  have HO := hide hO
  have R0 := hide r0'
  have R1 := hide r1'
  have R2 := hide r2'
  have HH := hide h
  have HI := hide hI
  have HLT := hide hlt
  clear h hI hO hB1 hb0 hlt r0 r1 r2 r0' r1' r2'
  go_wp2_with fail
  have hW2 : ∀ v, Below w.heap.size w (w1.setCell ⟨w.heap.size + 1 + 1, 0, none⟩ v) := fun v => hW1.setCell (by show w.heap.size ≤ w.heap.size + 1 + 1; omega) v
  refine (toInt64S_any ma mc L mn (unhide HLL) _ ((unhide HI).below (hW2 _) (Nat.le_refl _)) hmn).mono ?_
  rintro e w3 ⟨rfl, hR, hB3⟩
  have hs3 := hB3.size
  simp at hs3 hR
  have r0 := (hB3.block w.heap.size (by simp; omega)).trans ((Below.heap_setCell _ _ _ _ (by show w.heap.size ≠ w.heap.size + 1 + 1; omega)).trans (unhide R0))
  have r1 := (hB3.block (w.heap.size + 1) (by simp; omega)).trans ((Below.heap_setCell _ _ _ _ (by simp)).trans (unhide R1))
  have r2 := (hB3.block (w.heap.size + 1 + 1) (by simp; omega)).trans (blk_setCell_same 0 (.slice (some ⟨g, 0, none⟩) n n) (unhide R2))
  simp at r2
  have p2 := cell_of_row _ _ 2 _ _ _ r0
  have p3 := cell_of_row _ _ 3 _ _ _ r0
  have q0 := cell_of_row _ _ 0 _ _ _ r1
  have q1 := cell_of_row _ _ 1 _ _ _ r1
  have q2 := cell_of_row _ _ 2 _ _ _ r1
  have q3 := cell_of_row _ _ 3 _ _ _ r1
  have f0 := frozen_of_row _ _ 0 _ _ r1
  have f1 := frozen_of_row _ _ 1 _ _ r1
  have f2 := frozen_of_row _ _ 2 _ _ r1
  have f3 := frozen_of_row _ _ 3 _ _ r1
  have s0 := cell_of_row _ _ 0 _ _ _ r2
  have s1 := cell_of_row _ _ 1 _ _ _ r2
  have s2 := cell_of_row _ _ 2 _ _ _ r2
  have s3 := cell_of_row _ _ 3 _ _ _ r2
  have t1 := frozen_of_row _ _ 1 _ _ r2
  have t2 := frozen_of_row _ _ 2 _ _ r2
  have t3 := frozen_of_row _ _ 3 _ _ r2
  simp at p2 p3 q0 q1 q2 q3 s0 s1 s2 s3
  clear r0 r1 r2 hz0 hzf hm1
  have HO3 : Hid (OwnBlocks w3 75 44 g H n bs) := ((unhide HO).setOther (a := ⟨w.heap.size + 1 + 1, 0, none⟩) (by show w.heap.size + 1 + 1 < g; omega) _).below hB3 (by simp)
  have hW3 : Below w.heap.size w w3 := (hW2 _).trans (hB3.mono (hW2 _).size)
  have HR := hide hR
  clear hR hB3 HO hW2 HI HH R0 R1 R2
  go_wp2
  refine bodyPost_ret (v := .agg #[.slice (some ⟨g, 0, none⟩) n n, .slice (some ⟨w1.heap.size, 0, none⟩) mn mn, .int .i64 seq, .int .i64 o]) (by simp [results, Try.results39, go_sem, q0, q1, q2, q3]) rfl ⟨g, H, w1.heap.size, rfl, by omega, hglt, unhide HLT, ?_, ?_, ?_⟩
  · exact (((((((unhide HO3).setOther (by show w.heap.size + 1 + 1 < g; omega) _).setOther (by show w.heap.size + 1 + 1 < g; omega) _).setOther (by show w.heap.size + 1 + 1 < g; omega) _).setOther (by show w.heap.size + 1 < g; omega) _).setOther (by show w.heap.size + 1 < g; omega) _).setOther (by show w.heap.size + 1 < g; omega) _).setOther (by show w.heap.size + 1 < g; omega) _
  · exact ((((((World.rowIs.setOther (unhide HR) (by show w1.heap.size ≠ w.heap.size + 1 + 1; omega) _).setOther (by show w1.heap.size ≠ w.heap.size + 1 + 1; omega) _).setOther (by show w1.heap.size ≠ w.heap.size + 1 + 1; omega) _).setOther (by show w1.heap.size ≠ w.heap.size + 1; omega) _).setOther (by show w1.heap.size ≠ w.heap.size + 1; omega) _).setOther (by show w1.heap.size ≠ w.heap.size + 1; omega) _).setOther (by show w1.heap.size ≠ w.heap.size + 1; omega) _
  · exact ((((((hW3.setCell (by show w.heap.size ≤ w.heap.size + 1 + 1; omega) _).setCell (by show w.heap.size ≤ w.heap.size + 1 + 1; omega) _).setCell (by show w.heap.size ≤ w.heap.size + 1 + 1; omega) _).setCell (by show w.heap.size ≤ w.heap.size + 1; omega) _).setCell (by show w.heap.size ≤ w.heap.size + 1; omega) _).setCell (by show w.heap.size ≤ w.heap.size + 1; omega) _).setCell (by show w.heap.size ≤ w.heap.size + 1; omega) _

set_option maxRecDepth 100000 in
set_option maxHeartbeats 1000000 in
theorem eqFtl_same (a1 a2 : Option Addr) (c1 c2 : Nat) (bs : List Bk) (n : Nat) (hl : bs.length = n) (m1 m2 : Option Addr) (d1 d2 : Nat) (L : List Int) (mn : Nat) (hL : L.length = mn) (seq o : Int) (w : World) (h1 : BlocksAt w a1 bs) (h2 : BlocksAt w a2 bs) (hn : Lens 1048576 bs) (i1 : IntsAt w m1 L) (i2 : IntsAt w m2 L) (hmn : mn ≤ 1048576) :
    Calls Try.prog 41 #[.agg #[.slice a1 n c1, .slice m1 mn d1, .int .i64 seq, .int .i64 o], .agg #[.slice a2 n c2, .slice m2 mn d2, .int .i64 seq, .int .i64 o]] w fun e w' => e = .returned (.bool true) ∧ Below w.heap.size w w' := by
  have hb0 : ∀ o1 o2, Below w.heap.size w ((w.alloc o1).alloc o2) := fun o1 o2 => ((Below.refl _ w).alloc (Nat.le_refl _) _).alloc (by simp) _
  have hne1 : (seq != seq) = false := by simp
  have hne2 : (o != o) = false := by simp
  go_enter Try.func41, Try.ntmps41
  go_wp2_with fail
  refine (eqChip_n a1 a2 c1 c2 bs hl _ (h1.below (hb0 _ _) (Nat.le_refl _)) (h2.below (hb0 _ _) (Nat.le_refl _)) hn).mono ?_
  rintro e w1 ⟨rfl, hB1⟩
  have hs1 := hB1.size
  simp at hs1
  have hx : ∀ i, w1.cell? ⟨w.heap.size, i, none⟩ = (#[Value.slice a1 n c1, .slice m1 mn d1, .int .i64 seq, .int .i64 o])[i]? := fun i => by
    rw [hB1.cell (p := ⟨w.heap.size, i, none⟩) (by simp; omega), cell_alloc_lt _ _ _ _ (by simp)]
    simp
  have hy : ∀ i, w1.cell? ⟨w.heap.size + 1, i, none⟩ = (#[Value.slice a2 n c2, .slice m2 mn d2, .int .i64 seq, .int .i64 o])[i]? := fun i => by
    rw [hB1.cell (p := ⟨w.heap.size + 1, i, none⟩) (by simp), cell_of_row _ _ i _ _ _ (heap_alloc2_new _ _ _)]
  have hW1 : Below w.heap.size w w1 := (hb0 _ _).trans (hB1.mono (by simp; omega))
  have x1 := hx 1
  have x2 := hx 2
  have x3 := hx 3
  have y1 := hy 1
  have y2 := hy 2
  have y3 := hy 3
  simp at x1 x2 x3 y1 y2 y3
  have I1 := hide (i1.below hW1 (Nat.le_refl _))
  have I2 := hide (i2.below hW1 (Nat.le_refl _))
  have HL := hide hL
  clear h1 h2 i1 i2 hx hy hB1 hb0 hn hl hL
  go_wp2_with fail
  refine (eqInt64S_same m1 m2 d1 d2 L mn (unhide HL) _ (unhide I1) (unhide I2) hmn).mono ?_
  rintro e w2 ⟨rfl, hB2⟩
  have hs2 := hB2.size
  have x2' := (hB2.cell (p := ⟨w.heap.size, 2, none⟩) (by show w.heap.size < _; omega)).trans x2
  have x3' := (hB2.cell (p := ⟨w.heap.size, 3, none⟩) (by show w.heap.size < _; omega)).trans x3
  have y2' := (hB2.cell (p := ⟨w.heap.size + 1, 2, none⟩) (by show w.heap.size + 1 < _; omega)).trans y2
  have y3' := (hB2.cell (p := ⟨w.heap.size + 1, 3, none⟩) (by show w.heap.size + 1 < _; omega)).trans y3
  have hW2 := hW1.trans (hB2.mono hW1.size)
  clear x1 x2 x3 y1 y2 y3 hB2 hW1 I1 I2
  go_wp2
  go_ret
  exact ⟨rfl, hW2⟩

set_option maxHeartbeats 1000000 in
theorem szInt64S_any (a : Option Addr) (c n : Nat) (left : Int) (w : World) (hn : n ≤ 9223372036854775807) (h0 : 0 ≤ left) (h1 : left ≤ 1048576) :
    Calls Try.prog 73 #[.slice a n c, .int .i64 left] w fun e w' => ∃ r : Int, e = .returned (.int .i64 r) ∧ r ≤ 1048576 ∧ (0 ≤ r → n ≤ 1048576) ∧ w' = w := by
  by_cases hneg : left - (n : Int) < 0
  · go_enter Try.func73, Try.ntmps73
    go_wp2
    go_ret
    exact ⟨_, rfl, by omega, by omega, rfl⟩
  · go_enter Try.func73, Try.ntmps73
    go_wp2
    go_ret
    exact ⟨_, rfl, by omega, by omega, rfl⟩

set_option maxRecDepth 100000 in
set_option maxHeartbeats 1000000 in
theorem szFtl_any (a : Option Addr) (c : Nat) (bs : List Bk) (n : Nat) (hl : bs.length = n) (ma : Option Addr) (mc mn : Nat) (seq o : Int) (w : World) (h : BlocksAt w a bs) (hn : Lens 9223372036854775807 bs) (ht : Texts bs) (hmn : mn ≤ 9223372036854775807) :
    Calls Try.prog 37 #[.agg #[.slice a n c, .slice ma mn mc, .int .i64 seq, .int .i64 o], .int .i64 1048576] w fun e w' => ∃ r : Int, e = .returned (.int .i64 r) ∧ r ≤ 1048576 ∧ (0 ≤ r → Lens 1048576 bs ∧ mn ≤ 1048576) ∧ Below w.heap.size w w' := by
  have hb0 : ∀ o1, Below w.heap.size w (w.alloc o1) := fun o1 => (Below.refl _ w).alloc (Nat.le_refl _) _
  go_enter Try.func37, Try.ntmps37
  go_wp2_with fail
  refine (szChip_n a c bs hl _ (h.below (hb0 _) (Nat.le_refl _)) hn ht).mono ?_
  rintro e w1 ⟨r, rfl, hr1, hr2, hB1⟩
  have hs1 := hB1.size
  simp at hs1
  have hx : w1.cell? ⟨w.heap.size, 1, none⟩ = some (.slice ma mn mc) := by
    rw [hB1.cell (p := ⟨w.heap.size, 1, none⟩) (by simp)]
    simp
  have hW1 : Below w.heap.size w w1 := (hb0 _).trans (hB1.mono (by simp))
  have HR := hide hr2
  clear h hr2 hb0 hB1 hn ht hl
  by_cases hneg : r < 0
  · go_wp2
    go_ret
    exact ⟨_, rfl, by omega, by omega, hW1⟩
  · go_wp2_with fail
    refine (szInt64S_any ma mc mn r _ hmn (by omega) hr1).mono ?_
    rintro e w2 ⟨r2, rfl, h21, h22, rfl⟩
    have HR2 := hide h22
    clear h22
    by_cases hneg2 : r2 < 0
    · go_wp2
      go_ret
      exact ⟨_, rfl, by omega, by omega, hW1⟩
    · go_wp2
      go_ret
      exact ⟨_, rfl, by omega, fun _ => ⟨unhide HR (by omega), unhide HR2 (by omega)⟩, hW1⟩

open Go.ChangeShapes Go.WideShapes Go.Deep in
set_option maxRecDepth 100000 in
/-- An argument of the type Ftl, opened. -/
theorem open_ftl {H : Type} {enc : TypeId × Value → H} {w : World} {base b0 : Nat} {spare : Nat → Bool} {held : Bool} {v : Value} {d : DataW H} {p : List MemPlace}
    (hv : Value.okWide Try.prog w .any b0 53 v) (h : DataW.Trod enc Try.prog w base spare held 53 v d p) :
    ∃ (a : Option Addr) (c : Nat) (bs : List Bk) (ma : Option Addr) (mc : Nat) (L : List Int) (seq o : Int), v = .agg #[.slice a bs.length c, .slice ma L.length mc, .int .i64 seq, .int .i64 o] ∧ BlocksAt w a bs ∧ Lens 9223372036854775807 bs ∧ Texts bs ∧ IntsAt w ma L ∧ L.length ≤ 9223372036854775807 := by
  obtain ⟨cs, rfl, hsz⟩ := okWide_struct Try.underlying53 hv
  have h1 : cs.size = 4 := hsz.trans (by kernel_rfl)
  obtain ⟨l⟩ := cs
  match l, h1 with
  | [v0, v1, v2, v3], _ =>
    obtain ⟨fuel, hf⟩ := h
    obtain ⟨xs, k, hk, hxy, _, hxl, hf⟩ := DataW.trod_struct Try.underlying53 hf
    have c0 : Try.prog.cellsOf 24 = 1 := by kernel_rfl
    have c1 : Try.prog.cellsOf 48 = 1 := by kernel_rfl
    have c2 : Try.prog.cellsOf 2 = 1 := by kernel_rfl
    have c3 : Try.prog.cellsOf 22 = 1 := by kernel_rfl
    match xs, hxl with
    | [y0, y1, y2, y3], _ =>
      have g0 := hf 0 _ rfl
      have g1 := hf 1 _ rfl
      have g2 := hf 2 _ rfl
      have g3 := hf 3 _ rfl
      simp [Value.cells, c0, c1, c2] at g0 g1 g2 g3
      obtain ⟨z0, m, _, _, hz⟩ := trod_struct1 Try.underlying24 g0
      simp [c3] at hz
      obtain ⟨a, c, bs, rfl, hbs, hl, ht⟩ := open_blocks (tp := 110) Try.underlying22 Try.underlying112 (by kernel_rfl) (by kernel_rfl) Try.underlying2 Try.underlying110 Try.underlying40 (by kernel_rfl) (by kernel_rfl)
        Try.underlying4 Try.underlying2 Try.underlying2 Try.underlying9 hz
      obtain ⟨ma, mc, L, rfl, hI, hLl, _⟩ := open_intsAt Try.underlying48 Try.underlying2 c2 g1
      obtain ⟨i2, hi2, _⟩ := DataW.trod_int Try.underlying2 g2
      obtain ⟨i3, hi3, _⟩ := DataW.trod_int Try.underlying2 g3
      cases hi2
      cases hi3
      exact ⟨a, c, bs, ma, mc, L, i2, i3, rfl, hbs, hl, ht, hI, hLl⟩
end Go.Proofs.Ytageolbmplhgaaa
