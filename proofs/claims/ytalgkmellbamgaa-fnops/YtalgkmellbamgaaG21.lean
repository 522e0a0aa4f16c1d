/- 5 texts in one. -/
import Derived.Test.YtalgkmellbamgaaG20
import Derived.Test.YtalgkmellbamgaaG19
import Derived.Test.YtalgkmellbamgaaG14
import Derived.WalkKit
import Derived.ProofKit
import Derived.Test.YtalgkmellbamgaaG04
import Derived.Test.YtalgkmellbamgaaChecked
import Derived.Maps.OwnIn
import Derived.Maps.Views
import Derived.Test.YtalgkmellbamgaaG11
import Derived.Test.YtalgkmellbamgaaG05

/- Members: the laws' own copy, comparison and size of them; an argument that is a member, opened. -/
namespace Go.Proofs.Ytalgkmellbamgaa
open Go.RowKit
set_option linter.unusedVariables false
set_option linter.unusedSimpArgs false

theorem toChip_own2 {n : Nat} (a : Option Addr) (c : Nat) (bs : List Bk) (hl : bs.length = n) (w : World) (h : BlocksAt w a bs) (hn : Lens 1048576 bs) :
    Calls Try.prog 50 #[.agg #[.slice a n c]] w fun e w' => ∃ g H, e = .returned (.agg #[.slice (some ⟨g, 0, none⟩) n n]) ∧ w.heap.size ≤ g ∧ OwnBlocks w' 38 28 g H n bs ∧ Below w.heap.size w w' := by
  subst hl; exact toChip_any a c bs w h hn

set_option maxRecDepth 100000 in
set_option maxHeartbeats 1000000 in
theorem toFtl_any (a : Option Addr) (c : Nat) (bs : List Bk) (n : Nat) (hl : bs.length = n) (ma : Option Addr) (mc : Nat) (L : List Int) (mn : Nat) (hL : L.length = mn) (seq o : Int) (w : World) (h : BlocksAt w a bs) (hn : Lens 1048576 bs) (hI : IntsAt w ma L) (hmn : mn ≤ 1048576) :
    Calls Try.prog 42 #[.agg #[.slice a n c, .slice ma mn mc, .int .i64 seq, .int .i64 o]] w fun e w' => ∃ g H m, e = .returned (.agg #[.slice (some ⟨g, 0, none⟩) n n, .slice (some ⟨m, 0, none⟩) mn mn, .int .i64 seq, .int .i64 o]) ∧ w.heap.size ≤ g ∧ g < m ∧ (∀ i, i < n → H i < m) ∧
      OwnBlocks w' 38 28 g H n bs ∧ RowInts w' 2 m mn L ∧ Below w.heap.size w w' := by
  have hb0 : ∀ o1 o2 o3, Below w.heap.size w (((w.alloc o1).alloc o2).alloc o3) := fun o1 o2 o3 => (((Below.refl _ w).alloc (Nat.le_refl _) _).alloc (by simp) _).alloc (by simp; omega) _
  have HL := hide hl
  have HLL := hide hL
  clear hl hL
  go_enter Try.func42, Try.ntmps42
  go_wp2_with fail
  refine (toChip_own2 a c bs (unhide HL) _ (h.below (hb0 _ _ _) (Nat.le_refl _)) hn).mono ?_
  rintro e w1 ⟨g, H, rfl, hg, hO, hB1⟩
  have hs1 := hB1.size
  simp at hs1 hg
  obtain ⟨r0, r1, r2⟩ := heap3 w (.cells #[.slice a n c, .slice ma mn mc, .int .i64 seq, .int .i64 o] 72) (.cells #[.slice none 0 0, .slice none 0 0, .int .i64 0, .int .i64 0] 44) (.cells #[.slice none 0 0, .slice none 0 0, .int .i64 0, .int .i64 0] 44)
  have r0' := (hB1.block _ (by simp; omega)).trans r0
  have r1' := (hB1.block _ (by simp)).trans r1
  have r2' := (hB1.block _ (by simp)).trans r2
  have hm1 := cell_of_row _ _ 1 _ _ _ r0'
  have hz0 := cell_of_row _ _ 0 _ _ _ r2'
  have hzf := frozen_of_row _ _ 0 _ _ r2'
  simp at hm1 hz0
  have hW1 : Below w.heap.size w w1 := (hb0 _ _ _).trans (hB1.mono (by simp; omega))
  have hlt : ∀ i, i < n → H i < w1.heap.size := fun i hi => hO.lt (by rw [unhide HL]; exact hi)
  have hglt : g < w1.heap.size := hO.row.lt
  have HO := hide hO
  have R0 := hide r0'
  have R1 := hide r1'
  have R2 := hide r2'
  have HH := hide h
  have HI := hide hI
  have HLT := hide hlt
  clear h hI hO hB1 hb0 hlt r0 r1 r2 r0' r1' r2'
  go_wp2_with fail
  have hW2 : ∀ v, Below w.heap.size w (w1.setCell ⟨w.heap.size + 1 + 1, 0, none⟩ v) := fun v => hW1.setCell (by show w.heap.size ≤ w.heap.size + 1 + 1; omega) v
  refine (toInt64S_any ma mc L mn (unhide HLL) _ ((unhide HI).below (hW2 _) (Nat.le_refl _)) hmn).mono ?_
  rintro e w3 ⟨rfl, hR, hB3⟩
  have hs3 := hB3.size
  simp at hs3 hR
  have r0 := (hB3.block w.heap.size (by simp; omega)).trans ((Below.heap_setCell _ _ _ _ (by show w.heap.size ≠ w.heap.size + 1 + 1; omega)).trans (unhide R0))
  have r1 := (hB3.block (w.heap.size + 1) (by simp; omega)).trans ((Below.heap_setCell _ _ _ _ (by simp)).trans (unhide R1))
  have r2 := (hB3.block (w.heap.size + 1 + 1) (by simp; omega)).trans (blk_setCell_same 0 (.slice (some ⟨g, 0, none⟩) n n) (unhide R2))
  simp at r2
  have p2 := cell_of_row _ _ 2 _ _ _ r0
  have p3 := cell_of_row _ _ 3 _ _ _ r0
  have q0 := cell_of_row _ _ 0 _ _ _ r1
  have q1 := cell_of_row _ _ 1 _ _ _ r1
  have q2 := cell_of_row _ _ 2 _ _ _ r1
  have q3 := cell_of_row _ _ 3 _ _ _ r1
  have f0 := frozen_of_row _ _ 0 _ _ r1
  have f1 := frozen_of_row _ _ 1 _ _ r1
  have f2 := frozen_of_row _ _ 2 _ _ r1
  have f3 := frozen_of_row _ _ 3 _ _ r1
  have s0 := cell_of_row _ _ 0 _ _ _ r2
  have s1 := cell_of_row _ _ 1 _ _ _ r2
  have s2 := cell_of_row _ _ 2 _ _ _ r2
  have s3 := cell_of_row _ _ 3 _ _ _ r2
  have t1 := frozen_of_row _ _ 1 _ _ r2
  have t2 := frozen_of_row _ _ 2 _ _ r2
  have t3 := frozen_of_row _ _ 3 _ _ r2
  simp at p2 p3 q0 q1 q2 q3 s0 s1 s2 s3
  clear r0 r1 r2 hz0 hzf hm1
  have HO3 : Hid (OwnBlocks w3 38 28 g H n bs) := ((unhide HO).setOther (a := ⟨w.heap.size + 1 + 1, 0, none⟩) (by show w.heap.size + 1 + 1 < g; omega) _).below hB3 (by simp)
  have hW3 : Below w.heap.size w w3 := (hW2 _).trans (hB3.mono (hW2 _).size)
  have HR := hide hR
  clear hR hB3 HO hW2 HI HH R0 R1 R2
  go_wp2
  refine bodyPost_ret (v := .agg #[.slice (some ⟨g, 0, none⟩) n n, .slice (some ⟨w1.heap.size, 0, none⟩) mn mn, .int .i64 seq, .int .i64 o]) (by simp [results, Try.results42, go_sem, q0, q1, q2, q3]) rfl ⟨g, H, w1.heap.size, rfl, by omega, hglt, unhide HLT, ?_, ?_, ?_⟩
  · exact (((((((unhide HO3).setOther (by show w.heap.size + 1 + 1 < g; omega) _).setOther (by show w.heap.size + 1 + 1 < g; omega) _).setOther (by show w.heap.size + 1 + 1 < g; omega) _).setOther (by show w.heap.size + 1 < g; omega) _).setOther (by show w.heap.size + 1 < g; omega) _).setOther (by show w.heap.size + 1 < g; omega) _).setOther (by show w.heap.size + 1 < g; omega) _
  · exact ((((((World.rowIs.setOther (unhide HR) (by show w1.heap.size ≠ w.heap.size + 1 + 1; omega) _).setOther (by show w1.heap.size ≠ w.heap.size + 1 + 1; omega) _).setOther (by show w1.heap.size ≠ w.heap.size + 1 + 1; omega) _).setOther (by show w1.heap.size ≠ w.heap.size + 1; omega) _).setOther (by show w1.heap.size ≠ w.heap.size + 1; omega) _).setOther (by show w1.heap.size ≠ w.heap.size + 1; omega) _).setOther (by show w1.heap.size ≠ w.heap.size + 1; omega) _
  · exact ((((((hW3.setCell (by show w.heap.size ≤ w.heap.size + 1 + 1; omega) _).setCell (by show w.heap.size ≤ w.heap.size + 1 + 1; omega) _).setCell (by show w.heap.size ≤ w.heap.size + 1 + 1; omega) _).setCell (by show w.heap.size ≤ w.heap.size + 1; omega) _).setCell (by show w.heap.size ≤ w.heap.size + 1; omega) _).setCell (by show w.heap.size ≤ w.heap.size + 1; omega) _).setCell (by show w.heap.size ≤ w.heap.size + 1; omega) _

set_option maxRecDepth 100000 in
set_option maxHeartbeats 1000000 in
theorem eqFtl_same (a1 a2 : Option Addr) (c1 c2 : Nat) (bs : List Bk) (n : Nat) (hl : bs.length = n) (m1 m2 : Option Addr) (d1 d2 : Nat) (L : List Int) (mn : Nat) (hL : L.length = mn) (seq o : Int) (w : World) (h1 : BlocksAt w a1 bs) (h2 : BlocksAt w a2 bs) (hn : Lens 1048576 bs) (i1 : IntsAt w m1 L) (i2 : IntsAt w m2 L) (hmn : mn ≤ 1048576) :
    Calls Try.prog 44 #[.agg #[.slice a1 n c1, .slice m1 mn d1, .int .i64 seq, .int .i64 o], .agg #[.slice a2 n c2, .slice m2 mn d2, .int .i64 seq, .int .i64 o]] w fun e w' => e = .returned (.bool true) ∧ Below w.heap.size w w' := by
  have hb0 : ∀ o1 o2, Below w.heap.size w ((w.alloc o1).alloc o2) := fun o1 o2 => ((Below.refl _ w).alloc (Nat.le_refl _) _).alloc (by simp) _
  have hne1 : (seq != seq) = false := by simp
  have hne2 : (o != o) = false := by simp
  go_enter Try.func44, Try.ntmps44
  go_wp2_with fail
  refine (eqChip_n a1 a2 c1 c2 bs hl _ (h1.below (hb0 _ _) (Nat.le_refl _)) (h2.below (hb0 _ _) (Nat.le_refl _)) hn).mono ?_
  rintro e w1 ⟨rfl, hB1⟩
  have hs1 := hB1.size
  simp at hs1
  have hx : ∀ i, w1.cell? ⟨w.heap.size, i, none⟩ = (#[Value.slice a1 n c1, .slice m1 mn d1, .int .i64 seq, .int .i64 o])[i]? := fun i => by
    rw [hB1.cell (p := ⟨w.heap.size, i, none⟩) (by simp; omega), cell_alloc_lt _ _ _ _ (by simp)]
    simp
  have hy : ∀ i, w1.cell? ⟨w.heap.size + 1, i, none⟩ = (#[Value.slice a2 n c2, .slice m2 mn d2, .int .i64 seq, .int .i64 o])[i]? := fun i => by
    rw [hB1.cell (p := ⟨w.heap.size + 1, i, none⟩) (by simp), cell_of_row _ _ i _ _ _ (heap_alloc2_new _ _ _)]
  have hW1 : Below w.heap.size w w1 := (hb0 _ _).trans (hB1.mono (by simp; omega))
  have x1 := hx 1
  have x2 := hx 2
  have x3 := hx 3
  have y1 := hy 1
  have y2 := hy 2
  have y3 := hy 3
  simp at x1 x2 x3 y1 y2 y3
  have I1 := hide (i1.below hW1 (Nat.le_refl _))
  have I2 := hide (i2.below hW1 (Nat.le_refl _))
  have HL := hide hL
  clear h1 h2 i1 i2 hx hy hB1 hb0 hn hl hL
  go_wp2_with fail
  refine (eqInt64S_same m1 m2 d1 d2 L mn (unhide HL) _ (unhide I1) (unhide I2) hmn).mono ?_
  rintro e w2 ⟨rfl, hB2⟩
  have hs2 := hB2.size
  have x2' := (hB2.cell (p := ⟨w.heap.size, 2, none⟩) (by show w.heap.size < _; omega)).trans x2
  have x3' := (hB2.cell (p := ⟨w.heap.size, 3, none⟩) (by show w.heap.size < _; omega)).trans x3
  have y2' := (hB2.cell (p := ⟨w.heap.size + 1, 2, none⟩) (by show w.heap.size + 1 < _; omega)).trans y2
  have y3' := (hB2.cell (p := ⟨w.heap.size + 1, 3, none⟩) (by show w.heap.size + 1 < _; omega)).trans y3
  have hW2 := hW1.trans (hB2.mono hW1.size)
  clear x1 x2 x3 y1 y2 y3 hB2 hW1 I1 I2
  go_wp2
  go_ret
  exact ⟨rfl, hW2⟩

set_option maxHeartbeats 1000000 in
theorem szInt64S_any (a : Option Addr) (c n : Nat) (left : Int) (w : World) (hn : n ≤ 9223372036854775807) (h0 : 0 ≤ left) (h1 : left ≤ 1048576) :
    Calls Try.prog 97 #[.slice a n c, .int .i64 left] w fun e w' => ∃ r : Int, e = .returned (.int .i64 r) ∧ r ≤ 1048576 ∧ (0 ≤ r → n ≤ 1048576) ∧ w' = w := by
  by_cases hneg : left - (n : Int) < 0
  · go_enter Try.func97, Try.ntmps97
    go_wp2
    go_ret
    exact ⟨_, rfl, by omega, by omega, rfl⟩
  · go_enter Try.func97, Try.ntmps97
    go_wp2
    go_ret
    exact ⟨_, rfl, by omega, by omega, rfl⟩

set_option maxRecDepth 100000 in
set_option maxHeartbeats 1000000 in
theorem szFtl_any (a : Option Addr) (c : Nat) (bs : List Bk) (n : Nat) (hl : bs.length = n) (ma : Option Addr) (mc mn : Nat) (seq o : Int) (w : World) (h : BlocksAt w a bs) (hn : Lens 9223372036854775807 bs) (ht : Texts bs) (hmn : mn ≤ 9223372036854775807) :
    Calls Try.prog 41 #[.agg #[.slice a n c, .slice ma mn mc, .int .i64 seq, .int .i64 o], .int .i64 1048576] w fun e w' => ∃ r : Int, e = .returned (.int .i64 r) ∧ r ≤ 1048576 ∧ (0 ≤ r → Lens 1048576 bs ∧ mn ≤ 1048576) ∧ Below w.heap.size w w' := by
  have hb0 : ∀ o1, Below w.heap.size w (w.alloc o1) := fun o1 => (Below.refl _ w).alloc (Nat.le_refl _) _
  go_enter Try.func41, Try.ntmps41
  go_wp2_with fail
  refine (szChip_n a c bs hl _ (h.below (hb0 _) (Nat.le_refl _)) hn ht).mono ?_
  rintro e w1 ⟨r, rfl, hr1, hr2, hB1⟩
  have hs1 := hB1.size
  simp at hs1
  have hx : w1.cell? ⟨w.heap.size, 1, none⟩ = some (.slice ma mn mc) := by
    rw [hB1.cell (p := ⟨w.heap.size, 1, none⟩) (by simp)]
    simp
  have hW1 : Below w.heap.size w w1 := (hb0 _).trans (hB1.mono (by simp))
  have HR := hide hr2
  clear h hr2 hb0 hB1 hn ht hl
  by_cases hneg : r < 0
  · go_wp2
    go_ret
    exact ⟨_, rfl, by omega, by omega, hW1⟩
  · go_wp2_with fail
    refine (szInt64S_any ma mc mn r _ hmn (by omega) hr1).mono ?_
    rintro e w2 ⟨r2, rfl, h21, h22, rfl⟩
    have HR2 := hide h22
    clear h22
    by_cases hneg2 : r2 < 0
    · go_wp2
      go_ret
      exact ⟨_, rfl, by omega, by omega, hW1⟩
    · go_wp2
      go_ret
      exact ⟨_, rfl, by omega, fun _ => ⟨unhide HR (by omega), unhide HR2 (by omega)⟩, hW1⟩

open Go.ChangeShapes Go.WideShapes Go.Deep in
set_option maxRecDepth 100000 in
/-- An argument of the type Ftl, opened. -/
theorem open_ftl {H : Type} {enc : TypeId × Value → H} {w : World} {base b0 : Nat} {spare : Nat → Bool} {held : Bool} {v : Value} {d : DataW H} {p : List MemPlace}
    (hv : Value.okWide Try.prog w .any b0 72 v) (h : DataW.Trod enc Try.prog w base spare held 72 v d p) :
    ∃ (a : Option Addr) (c : Nat) (bs : List Bk) (ma : Option Addr) (mc : Nat) (L : List Int) (seq o : Int), v = .agg #[.slice a bs.length c, .slice ma L.length mc, .int .i64 seq, .int .i64 o] ∧ BlocksAt w a bs ∧ Lens 9223372036854775807 bs ∧ Texts bs ∧ IntsAt w ma L ∧ L.length ≤ 9223372036854775807 := by
  obtain ⟨cs, rfl, hsz⟩ := okWide_struct Try.underlying72 hv
  have h1 : cs.size = 4 := hsz.trans (by kernel_rfl)
  obtain ⟨l⟩ := cs
  match l, h1 with
  | [v0, v1, v2, v3], _ =>
    obtain ⟨fuel, hf⟩ := h
    obtain ⟨xs, k, hk, hxy, _, hxl, hf⟩ := DataW.trod_struct Try.underlying72 hf
    have c0 : Try.prog.cellsOf 70 = 1 := by kernel_rfl
    have c1 : Try.prog.cellsOf 41 = 1 := by kernel_rfl
    have c2 : Try.prog.cellsOf 2 = 1 := by kernel_rfl
    have c3 : Try.prog.cellsOf 68 = 1 := by kernel_rfl
    match xs, hxl with
    | [y0, y1, y2, y3], _ =>
      have g0 := hf 0 _ rfl
      have g1 := hf 1 _ rfl
      have g2 := hf 2 _ rfl
      have g3 := hf 3 _ rfl
      simp [Value.cells, c0, c1, c2] at g0 g1 g2 g3
      obtain ⟨z0, m, _, _, hz⟩ := trod_struct1 Try.underlying70 g0
      simp [c3] at hz
      obtain ⟨a, c, bs, rfl, hbs, hl, ht⟩ := open_blocks (tp := 182) Try.underlying68 Try.underlying184 (by kernel_rfl) (by kernel_rfl) Try.underlying2 Try.underlying182 Try.underlying145 (by kernel_rfl) (by kernel_rfl)
        Try.underlying4 Try.underlying2 Try.underlying2 Try.underlying9 hz
      obtain ⟨ma, mc, L, rfl, hI, hLl, _⟩ := open_intsAt Try.underlying41 Try.underlying2 c2 g1
      obtain ⟨i2, hi2, _⟩ := DataW.trod_int Try.underlying2 g2
      obtain ⟨i3, hi3, _⟩ := DataW.trod_int Try.underlying2 g3
      cases hi2
      cases hi3
      exact ⟨a, c, bs, ma, mc, L, i2, i3, rfl, hbs, hl, ht, hI, hLl⟩
end Go.Proofs.Ytalgkmellbamgaa

/- A member as an answer: what it owns, its marks. -/
namespace Go.Proofs.Ytalgkmellbamgaa
open Go.RowKit
set_option linter.unusedVariables false
set_option linter.unusedSimpArgs false

theorem marksI_length (k : Int) (n : Nat) : (marksI k n).length = n := by simp [marksI]

/-- An answer that is a member: its rows lie from B on and ahead of T: the chip's in [C, K), its map in none of these. -/
def FtlOwn (w : World) (B T : Nat) (a : Option Addr) (n c : Nat) (out : List Bk) (ma : Option Addr) (mn : Nat) (L : List Int) : Prop :=
  L.length = mn ∧ IntsAt w ma L ∧ MineFrom w ma mn B ∧ (∀ g, ma = some ⟨g, 0, none⟩ → g < T) ∧ ∃ C K, B ≤ C ∧ ChipOwn w C K a n c out ∧ K ≤ T ∧ ∀ g, ma = some ⟨g, 0, none⟩ → ¬ (C ≤ g ∧ g < K)
theorem FtlOwn.blocksAt {w : World} {B T : Nat} {a : Option Addr} {n c : Nat} {out : List Bk} {ma : Option Addr} {mn : Nat} {L : List Int} (h : FtlOwn w B T a n c out ma mn L) : BlocksAt w a out := by
  obtain ⟨_, _, _, _, C, K, _, h1, _⟩ := h; exact h1.blocksAt
theorem FtlOwn.length {w : World} {B T : Nat} {a : Option Addr} {n c : Nat} {out : List Bk} {ma : Option Addr} {mn : Nat} {L : List Int} (h : FtlOwn w B T a n c out ma mn L) : out.length = n ∧ L.length = mn := by
  obtain ⟨h0, _, _, _, C, K, _, h1, _⟩ := h; exact ⟨h1.1, h0⟩
theorem FtlOwn.below {w w' : World} {B T : Nat} {a : Option Addr} {n c : Nat} {out : List Bk} {ma : Option Addr} {mn : Nat} {L : List Int} (h : FtlOwn w B T a n c out ma mn L) (hb : Below w.heap.size w w') : FtlOwn w' B T a n c out ma mn L := by
  obtain ⟨h0, h1, h2, h6, C, K, h3, h4, h5⟩ := h
  exact ⟨h0, h1.below hb (Nat.le_refl _), h2.below hb, h6, C, K, h3, h4.below hb, h5⟩
theorem FtlOwn.touch {S : Nat → Prop} {w w' : World} {B T : Nat} {a : Option Addr} {n c : Nat} {out : List Bk} {ma : Option Addr} {mn : Nat} {L : List Int} (h : FtlOwn w B T a n c out ma mn L) (hT : Touch S w w') (hS : ∀ k, S k → k < B) : FtlOwn w' B T a n c out ma mn L := by
  obtain ⟨h0, h1, h2, h6, C, K, h3, h4, h5⟩ := h
  exact ⟨h0, intsAt_touch h1 (by rw [h0]; exact h2) hT hS, h2.touch hT hS, h6, C, K, h3, h4.touch hT (fun k hk => by have := hS k hk; omega), h5⟩

theorem MineFrom.touch' {S : Nat → Prop} {w w' : World} {a : Option Addr} {n B : Nat} (h : MineFrom w a n B) (hT : Touch S w w') (hS : ∀ g, a = some ⟨g, 0, none⟩ → ¬ S g) : MineFrom w' a n B := by
  rcases h with h | ⟨g, ha, h1, h2, h3⟩
  · exact .inl h
  · exact .inr ⟨g, ha, h1, Nat.lt_of_lt_of_le h2 hT.size, h3.of_block (hT.block g h2 (hS g ha))⟩

set_option maxHeartbeats 1000000 in
theorem markIntsK_any (a : Option Addr) (c n B : Nat) (k : Int) (w : World) (h : MineFrom w a n B) (hn : n ≤ 1048576) (h0 : 0 < k) (h1 : k + n ≤ 1125899906842624) :
    Calls Try.prog 101 #[.slice a n c, .int .i64 k] w fun e w' => e = .returned (.int .i64 (k + (n : Int))) ∧ IntsAt w' a (marksI k n) ∧ Touch (fun g => a = some ⟨g, 0, none⟩ ∧ B ≤ g) w w' := by
  rcases h with ⟨rfl, rfl⟩ | ⟨g, rfl, hB, h2, h3⟩
  · go_enter Try.func101, Try.ntmps101
    go_wp2
    go_loop [1, 5] (fun v i => i = .int .i64 0 ∧ v = .int .i64 k) (fun _ i => 0)
    case atStart => exact ⟨rfl, rfl⟩
    case round =>
      obtain ⟨rfl, rfl⟩ := hrel
      go_wp2
      go_ret
      exact ⟨by simp [Act.eval], fun i x hx => by simp [marksI] at hx, Touch.refl _ _⟩
  · refine (markInt64S_any g 0 c n k w h3 hn h0 h1).mono ?_
    rintro e w' ⟨rfl, hI, hT⟩
    exact ⟨rfl, hI, hT.mono (fun j hj => by subst hj; exact ⟨rfl, hB⟩)⟩

/-- What marks a member holds. -/
def FtlMarked (w : World) (a : Option Addr) (out : List Bk) (ma : Option Addr) (mn : Nat) : Prop := BlocksAt w a (markBs 1 out) ∧ IntsAt w ma (marksI (kAfter 1 out) mn)
theorem FtlMarked.below {w w' : World} {a : Option Addr} {out : List Bk} {ma : Option Addr} {mn : Nat} (h : FtlMarked w a out ma mn) (hb : Below w.heap.size w w') : FtlMarked w' a out ma mn :=
  ⟨h.1.below hb (Nat.le_refl _), h.2.below hb (Nat.le_refl _)⟩

theorem ChipOwn.apart {S : Nat → Prop} {w w' : World} {B K : Nat} {a : Option Addr} {n c : Nat} {out : List Bk} (h : ChipOwn w B K a n c out) (hT : Touch S w w') (hS : ∀ k, S k → ¬ (B ≤ k ∧ k < K)) : ChipOwn w' B K a n c out := by
  obtain ⟨hl, h0 | ⟨g, H, rfl, h1, h2, h3, hO⟩⟩ := h
  · exact ⟨hl, .inl h0⟩
  · refine ⟨hl, .inr ⟨g, H, rfl, h1, h2, h3, hO.row.of_block (hT.block g hO.row.lt (fun hs => hS g hs ⟨h1, h2⟩)), fun i b hb => ?_, hO.ahead, hO.order⟩⟩
    have hi : i < n := by have := (List.getElem?_eq_some_iff.1 hb).1; omega
    have := h3 i hi
    exact World.rowIs.of_block (hO.pages i b hb) (hT.block (H i) (World.rowIs.lt (hO.pages i b hb)) (fun hs => hS _ hs ⟨by omega, this.2⟩))
theorem markChip_own2 {B K : Nat} (a : Option Addr) (n c : Nat) (out : List Bk) (w : World) (h : ChipOwn w B K a n c out) (hn : Lens 1048576 out) (h1 : kAfter 1 out ≤ 1125899906842624) :
    Calls Try.prog 53 #[.agg #[.slice a n c], .int .i64 1] w fun e w' => e = .returned (.int .i64 (kAfter 1 out)) ∧ ChipOwn w' B K a n c (markBs 1 out) ∧ Touch (fun k => B ≤ k ∧ k < K) w w' := by
  obtain ⟨hl, ⟨rfl, rfl, rfl⟩ | ⟨g, H, rfl, hB, hK, hH, hO⟩⟩ := h
  · have h0 : out = [] := List.length_eq_zero_iff.1 hl
    subst h0
    refine (markChip_nil 1 w).mono ?_
    rintro e w' ⟨rfl, hB⟩
    exact ⟨rfl, ⟨rfl, .inl ⟨rfl, rfl, rfl⟩⟩, Touch.of_below hB⟩
  · refine (markChip_n g H c out hl 1 w hO hn (by omega) h1).mono ?_
    rintro e w' ⟨rfl, hO2, hT⟩
    refine ⟨rfl, ⟨by rw [markBs_length, hl], .inr ⟨g, H, rfl, hB, hK, hH, hO2⟩⟩, hT.mono fun k hk => ?_⟩
    rcases hk with rfl | ⟨i, hi, rfl⟩
    · exact ⟨hB, hK⟩
    · have := hH i hi
      exact ⟨by omega, this.2⟩

set_option maxRecDepth 100000 in
set_option maxHeartbeats 2000000 in
theorem markFtl_own {B T : Nat} (a : Option Addr) (n c : Nat) (out : List Bk) (ma : Option Addr) (mn mc : Nat) (L : List Int) (seq o : Int) (w : World) (h : FtlOwn w B T a n c out ma mn L) (hTw : T ≤ w.heap.size) (hn : Lens 1048576 out) (hmn : mn ≤ 1048576) (h1 : kAfter 1 out + mn ≤ 1125899906842624) :
    Calls Try.prog 45 #[.agg #[.slice a n c, .slice ma mn mc, .int .i64 seq, .int .i64 o], .int .i64 1] w fun e w' => e = .returned (.int .i64 (kAfter 1 out + (mn : Int))) ∧ FtlMarked w' a out ma mn ∧ Touch (fun k => B ≤ k ∧ k < T) w w' := by
  obtain ⟨hL, hI, hM, hMT, C, K, hBC, hC, hKw, hne⟩ := h
  have hk1 : 1 ≤ kAfter 1 out := kAfter_le out 1
  have hb0 : ∀ o, Below w.heap.size w (w.alloc o) := fun o => (Below.refl _ w).alloc (Nat.le_refl _) _
  have hC0 := fun o => hC.below (hb0 o)
  have HM := hide (fun o => hM.below (hb0 o))
  have HMB : Hid (∀ g, ma = some ⟨g, 0, none⟩ → B ≤ g ∧ g < T) := fun g hg => by
    have h9 := hMT g hg
    rcases hM with ⟨rfl, _⟩ | ⟨g', hg', h1, h2, _⟩
    · cases hg
    · rw [hg] at hg'; cases hg'; exact ⟨h1, h9⟩
  have HNE := hide hne
  have HKA := hide h1
  obtain ⟨q, hq⟩ : ∃ q, q = kAfter 1 out := ⟨_, rfl⟩
  have HQ := hide hq
  clear hI hC hne hM hMT
  go_enter Try.func45, Try.ntmps45
  go_wp2_with fail
  refine (markChip_own2 a n c out _ (hC0 _) hn (by omega)).mono ?_
  rintro e w1 ⟨rfl, hMk, hT⟩
  rw [← hq] at h1 hk1 ⊢
  have hs1 := hT.size
  simp at hs1
  have hx1 : w1.cell? ⟨w.heap.size, 1, none⟩ = some (.slice ma mn mc) := by
    rw [World.cell?_of_block (w := w.alloc _) (a := ⟨w.heap.size, 1, none⟩) (hT.block w.heap.size (by simp) (fun hs => by omega))]
    simp
  have HM1 := hide ((unhide HM _).touch' hT (fun g hg hs => unhide HNE g hg hs))
  have HT := hide hT
  have HMK := hide hMk
  clear hT hMk hC0 HM hq
  go_wp2_with fail
  refine (markIntsK_any ma mc mn B q _ (unhide HM1) hmn (by omega) (by omega)).mono ?_
  rintro e w2 ⟨rfl, hI2, hT2⟩
  have HI2 := hide hI2
  have HC2 := hide ((unhide HMK).apart hT2 (fun k hk hs => unhide HNE k hk.1 hs))
  have hTT : Touch (fun k => B ≤ k ∧ k < T) w w2 := by
    have t0 : Touch (fun k => B ≤ k ∧ k < T) w (w.alloc (.cells #[.slice a n c, .slice ma mn mc, .int .i64 seq, .int .i64 o] 44)) := Touch.of_below (hb0 _)
    exact (t0.trans ((unhide HT).mono (fun k hk => ⟨by omega, by omega⟩))).trans (hT2.mono (fun k hk => unhide HMB k hk.1))
  clear hI2 hT2 hx1
  go_wp2
  go_ret
  refine ⟨by rw [← unhide HQ]; rfl, ⟨(unhide HC2).blocksAt, ?_⟩, hTT⟩
  rw [← unhide HQ]
  exact unhide HI2

end Go.Proofs.Ytalgkmellbamgaa

/- The walk over the used pages, for whom asks something of each of them. -/
namespace Go.Proofs.Ytalgkmellbamgaa
open Go.RowKit Go.Shelf
set_option linter.unusedVariables false
set_option linter.unusedSimpArgs false
attribute [local go_sem] Oper.semAt_some

set_option maxRecDepth 100000 in
set_option maxHeartbeats 4000000 in
theorem used1R_in (Rx : Int × Pg → Prop) (F : Fence) (n : Nat) (h122 : F.fn 159) (hro : F.round = none) (hn : 1 ≤ n) (l Bx c : Nat) (m : CC) (hm : m.count = c) (hc : c ≤ 12) (J Jx : List (Int × Pg) → World → Prop)
    (hRx : ∀ b k : Nat, b < c → k < 4 → (m.page b k).used = true → Rx ((b : Int) * 4 + (k : Int), m.page b k)) (hY : ∀ pre x W, Rx x → J pre W → pre.length < 48 → YieldAt F (n - 1) Try.prog l (encU x) W fun e W' =>
      (e = .returned (.bool true) ∧ J (pre ++ [x]) W' ∧ KeepB Bx W W') ∨ (e = .returned (.bool false) ∧ Jx (pre ++ [x]) W'))
    (W : World) (hn0 : Bx < W.heap.size) (hJA : AbidesFrom W.heap.size J) (hbox : ∀ i, W.cell? ⟨Bx, i, none⟩ = (ccA m)[i]?) (h0 : J [] W) :
    CallsIn F n Try.prog 159 #[.func (.yield l) #[] #[], .pointer (some ⟨Bx, 0, none⟩)] W fun e W' => (∃ v, e = .returned v) ∧
      ((∃ ys, ys = usedAll m c ∧ J ys W') ∨ (∃ pre, pre <+: usedAll m c ∧ Jx pre W')) := by
  have hc0 := ccA_count m
  rw [hm] at hc0
  have HY := hide hY
  have HRX := hide hRx
  have HJAB := hide hJA
  clear hY hJA hRx
  refine callsIn_of_wp Try.func159 rfl h122 ?_ hro
  simp only [Try.ntmps159, List.size_toArray, List.length_cons, List.length_nil, Nat.reduceAdd, Nat.reduceSub, Array.replicate_succ, Array.replicate_zero, List.push_toArray, List.append_toArray, List.nil_append, List.cons_append]
  gi_wp2
  gi_loopw [8] (fun i wr => ∃ b : Nat, b ≤ c ∧ i = .int .i64 b ∧ J (usedAll m b) wr ∧ KeepB Bx W wr) (fun i _ => c - (intOf i).toNat)
  case atStart => exact ⟨0, Nat.zero_le _, rfl, h0, KeepB.refl _ _⟩
  case round =>
    obtain ⟨b, hb, rfl, hJs, hnx⟩ := hrel
    clear hc0
    by_cases hlt : b < c
    · have hboxr : ∀ i, wr.cell? ⟨Bx, i, none⟩ = (ccA m)[i]? := fun i => (hnx.cell i).trans (hbox i)
      have hpa : ∀ j, j < 16 → wr.cell? ⟨Bx, 1 + b * 17 + 1 + j, none⟩ = (paA (m.page b))[j]? := fun j hj => by rw [hboxr]; exact ccA_pages m (by omega) hj
      have HPA := hide hpa
      have HBR := hide hboxr
      clear hpa hboxr hbox
      gi_wp2_with (refine wpListIn_load_mid rfl 92 _ rfl Bx (1 + b * 17 + 1) rfl (paA (m.page b)) 16 (paA_size _) (unhide HPA) _ Try.underlying92 rfl sizePages ?_)
      clear HPA HBR
      gi_loopw [16] (fun i wr => ∃ k : Nat, k ≤ 4 ∧ i = .int .i64 k ∧ J (usedAll m b ++ usedB m b k) wr ∧ KeepB Bx W wr) (fun i _ => 4 - (intOf i).toNat)
      case atStart => exact ⟨0, by omega, rfl, by simpa [usedB] using hJs, hnx⟩
      case round =>
        obtain ⟨k, hk, rfl, hJk, hnk⟩ := hrel
        have hbl : Bx < wr.heap.size := Nat.lt_of_lt_of_le hn0 hnk.1
        have hszk := hnk.1
        have HNK := hide hnk
        clear hnk
        by_cases hlt2 : k < 4
        · have hk4 : (k : Int) < 4 := by omega
          have hidx := fun W => run_index_pages (P := Try.prog) W 92 28 (m.page b) k hlt2 Try.underlying92 _ Try.underlying28 rfl sizePage
          obtain ⟨p, hp⟩ : ∃ p, m.page b k = p := ⟨_, rfl⟩
          have hsu := usedB_succ m b k
          have hrx := unhide HRX b k (by omega) hlt2
          rw [hp] at hidx hsu hrx
          obtain ⟨u, lg, s, d⟩ := p
          simp only at hidx hrx
          have HRXP := hide hrx
          clear hrx
          have hlen : (usedAll m b ++ usedB m b k).length < 48 := by
            rw [List.length_append]
            have h1 := usedAll_length m b
            have h2 := usedB_length m b k
            omega
          have HSU := hide hsu
          clear hsu hp hm
          have hpre := used_le m (b := b) (k := k + 1) (n := c) hlt (by omega)
          have HPRE := hide hpre
          clear hpre
          have hJa : ∀ o, J (usedAll m b ++ usedB m b k) (wr.alloc o) := fun o => unhide HJAB _ _ _ none hJk (World.grownBy_alloc wr o none) (fun r e => by cases e)
          have HJA := hide hJa
          clear hJa
          cases u with
          | false =>
            clear hJk hJs hnx h0 hlen hszk
            gi_wp2
            refine ⟨fun _ h => (by cases h), ?_⟩
            gi_wp2
            go_roundw
            case rel =>
              refine ⟨k + 1, by omega, by go_num, ?_, (unhide HNK).trans (KeepB.alloc _ _ hbl)⟩
              rw [unhide HSU]
              simp only [Bool.false_eq_true, if_false, List.append_nil]
              exact unhide HJA _
            case measure => simp [intOf]; omega
          | true =>
            obtain ⟨fn, tmps, assign, body, hy, hR⟩ := unhide HY (usedAll m b ++ usedB m b k) ((b : Int) * 4 + (k : Int), ⟨true, lg, s, d⟩) (wr.alloc (.cells #[.bool true, .int .i64 lg, .int .i64 s, .string d] 28)) (unhide HRXP rfl) (unhide HJA _) hlen
            dsimp only [encU] at hy
            have HR := hide hR
            clear hR
            gi_wp2
            refine (unhide HR).mono ?_
            rintro e W3 (⟨rfl, hJ3, hk3⟩ | ⟨rfl, hJx3⟩)
            · have HK3 := hide hk3
              clear hk3
              gi_wp2
              go_roundw
              case rel =>
                refine ⟨k + 1, by omega, by go_num, ?_, ((unhide HNK).trans (KeepB.alloc _ _ hbl)).trans (unhide HK3)⟩
                rw [unhide HSU, ← List.append_assoc]
                exact hJ3
              case measure => simp [intOf]; omega
            · gi_wp2
              refine bodyPost_ret (results_none rfl _ _ _) rfl ?_
              refine ⟨⟨_, rfl⟩, .inr ⟨_, ?_, hJx3⟩⟩
              have := unhide HPRE
              rw [unhide HSU, ← List.append_assoc] at this
              exact this
        · obtain rfl : k = 4 := by omega
          gi_wp2
          go_roundw
          case rel => exact ⟨b + 1, by omega, by go_num, by rw [usedAll_succ]; exact hJk, unhide HNK⟩
          case measure => simp [intOf]; omega
    · obtain rfl : b = c := by omega
      gi_wp2
      go_end0
      exact ⟨⟨_, rfl⟩, .inl ⟨_, rfl, hJs⟩⟩

theorem usedR_stops (Rx : Int × Pg → Prop) (F : Fence) (n : Nat) (h122 : F.fn 159) (hro : F.round = none) (hn : 1 ≤ n) (Bx c : Nat) (m : CC) (hm : m.count = c) (hc : c ≤ 12) (hRx : ∀ b k : Nat, b < c → k < 4 → (m.page b k).used = true → Rx ((b : Int) * 4 + (k : Int), m.page b k)) (w : World) (hBx : Bx < w.heap.size) (hbox : ∀ i, w.cell? ⟨Bx, i, none⟩ = (ccA m)[i]?) :
    SeqStopsK F n Try.prog 159 #[.pointer (some ⟨Bx, 0, none⟩)] (fun x : {x : Int × Pg // Rx x} => encU x.val) (KeepB Bx) (fun ys => ys.map (·.val) = usedAll m c) (fun pre => pre.map (·.val) <+: usedAll m c) 48 w := by
  intro l J Jx W hW hJA _ hY h0
  refine (used1R_in Rx F n h122 hro hn l Bx c m hm hc (fun p W => ∃ q : List {x : Int × Pg // Rx x}, q.map (·.val) = p ∧ J q W) (fun p W => ∃ q : List {x : Int × Pg // Rx x}, q.map (·.val) = p ∧ Jx q W) hRx ?_ W (Nat.lt_of_lt_of_le hBx hW.size) ?_ (fun i => (hW.cell (p := ⟨Bx, i, none⟩) hBx).trans (hbox i)) ⟨[], rfl, h0⟩).mono ?_
  · rintro pre x W1 hx ⟨q, rfl, hq⟩ hl
    obtain ⟨fn, tmps, assign, body, hy, hR⟩ := hY q ⟨x, hx⟩ W1 hq (by simpa using hl)
    refine ⟨fn, tmps, assign, body, hy, hR.mono ?_⟩
    rintro e W' (⟨rfl, h1, h2⟩ | ⟨rfl, h1⟩)
    · exact .inl ⟨rfl, ⟨_, by simp, h1⟩, h2⟩
    · exact .inr ⟨rfl, ⟨_, by simp, h1⟩⟩
  · rintro p W W' row ⟨q, hq, hJ⟩ hg hr
    exact ⟨q, hq, hJA q W W' row hJ hg hr⟩
  · rintro e W' ⟨hv, h⟩
    refine ⟨hv, ?_⟩
    rcases h with ⟨ys, rfl, q, hq, hJ⟩ | ⟨pre, hp, q, rfl, hJ⟩
    · exact .inl ⟨q, hq, hJ⟩
    · exact .inr ⟨q, hp, hJ⟩
end Go.Proofs.Ytalgkmellbamgaa

/- A map of numbers and places by logs, which the call itself has made: what it holds is said by the pages that came. -/
namespace Go.Proofs.Ytalgkmellbamgaa
open Go.RowKit Go.Maps
set_option linter.unusedVariables false
set_option linter.unusedSimpArgs false

def npD (s p : Int) : DataW Unit := .agg [.lit (.int .i64 s), .lit (.int .i64 p)]
def npElem (v : Value) : Option (DataW Unit × List MemPlace) :=
  match v with
  | .agg A => match A.toList with
    | [.int .i64 s, .int .i64 p] => some (npD s p, [])
    | _ => none
  | _ => none
theorem npElem_mk (s p : Int) : npElem (.agg #[.int .i64 s, .int .i64 p]) = some (npD s p, []) := rfl
theorem npElem_inv {v : Value} {z : DataW Unit × List MemPlace} (h : npElem v = some z) : ∃ s p : Int, v = .agg #[.int .i64 s, .int .i64 p] ∧ z = (npD s p, []) := by
  unfold npElem at h
  split at h
  · rename_i A
    split at h
    · rename_i s p e
      cases h
      refine ⟨s, p, ?_, rfl⟩
      congr 1
      exact Array.toList_inj.1 (by rw [e])
    · cases h
  · cases h
theorem npD_inj {s p s' p' : Int} (h : npD s p = npD s' p') : s = s' ∧ p = p' := by
  simp [npD] at h
  exact h

def npOf : Option (Int × Pg) → Int × Int
  | none => (0, 0)
  | some y => (y.2.seq, y.1)

theorem i64_keyed : Keyed Try.prog 2 := int_keyed Try.underlying2
theorem zeroNp (w : World) : (zeroValue 160).run Try.prog w = .ok (.agg #[.int .i64 0, .int .i64 0]) w := by kernel_rfl

/-- The map in block b holds, of each log, the newest of the pages xs. -/
def NpIs (W : World) (b n : Nat) (xs : List (Int × Pg)) : Prop :=
  ∃ D : DataW Unit, W.ownsMap Try.prog 2 npElem b n D ∧ IsMap D ∧ ∀ k : Int, 0 ≤ k → k ≤ 39 → D.atKey (.int .i64 k) (npD 0 0) = npD (npOf (newestAt xs k)).1 (npOf (newestAt xs k)).2 ∧ Maps.has D (.int .i64 k) = (newestAt xs k).isSome

theorem NpIs.lt {W : World} {b n : Nat} {xs : List (Int × Pg)} (h : NpIs W b n xs) : b < W.heap.size := by
  obtain ⟨D, h1, _⟩ := h
  exact h1.lt
theorem NpIs.made (w : World) : NpIs (w.alloc (.map #[] 0)) w.heap.size 0 [] :=
  ⟨_, World.ownsMap_made _ _ _ _, isMap_empty, fun k _ _ => ⟨rfl, rfl⟩⟩
theorem NpIs.kept {W W' : World} {b n : Nat} {xs : List (Int × Pg)} {row : Option Nat} (h : NpIs W b n xs) (hg : W.grownBy W' row) (hne : some b ≠ row) : NpIs W' b n xs := by
  obtain ⟨D, h1, h2⟩ := h
  exact ⟨D, h1.kept hg hne, h2⟩
theorem NpIs.mono {W : World} {b n n' : Nat} {xs : List (Int × Pg)} (h : NpIs W b n xs) (hn : n ≤ n') : NpIs W b n' xs := by
  obtain ⟨D, h1, h2⟩ := h
  exact ⟨D, h1.mono hn, h2⟩
theorem isKeyLit_int (k : Int) : WideAt.IsKeyLit (.int .i64 k) := by simp [WideAt.IsKeyLit]

theorem NpIs.step {W W' : World} {b n n' : Nat} {xs : List (Int × Pg)} {x : Int × Pg} {l : Int} (hl : x.2.log = l) {D : DataW Unit} (hM : IsMap D)
    (hD : ∀ k : Int, 0 ≤ k → k ≤ 39 → D.atKey (.int .i64 k) (npD 0 0) = npD (npOf (newestAt xs k)).1 (npOf (newestAt xs k)).2 ∧ Maps.has D (.int .i64 k) = (newestAt xs k).isSome)
    (hO : W'.ownsMap Try.prog 2 npElem b n' (D.put (.int .i64 l) (npD x.2.seq x.1))) (hn : newer (newestAt xs l) x.2.seq = true) : NpIs W' b n' (xs ++ [x]) := by
  refine ⟨_, hO, hM.put _ _, fun k h0 h1 => ?_⟩
  rw [newestAt_snoc]
  by_cases e : k = l
  · subst e
    rw [atKey_put_same hM (isKeyLit_int _), has_put_same hM (isKeyLit_int _)]
    unfold pick
    rw [if_pos ⟨hl, hn⟩]
    exact ⟨rfl, rfl⟩
  · have hne : (Lit.int .i64 k) ≠ .int .i64 l := by intro h; cases h; exact e rfl
    rw [atKey_put_other hne, has_put_other hne]
    unfold pick
    rw [if_neg (fun h => e (by rw [← h.1, hl]))]
    exact hD k h0 h1
theorem NpIs.same {W : World} {b n : Nat} {xs : List (Int × Pg)} (h : NpIs W b n xs) {x : Int × Pg} {l : Int} (hl : x.2.log = l) (hn : ¬ newer (newestAt xs l) x.2.seq = true) : NpIs W b n (xs ++ [x]) := by
  obtain ⟨D, h1, h2, h3⟩ := h
  refine ⟨D, h1, h2, fun k k0 k1 => ?_⟩
  rw [newestAt_snoc]
  unfold pick
  rw [if_neg (fun hc => hn (by rw [← hl, hc.1]; exact hc.2))]
  exact h3 k k0 k1

theorem keyOf_log {k : Int} (h0 : 0 ≤ k) (h1 : k ≤ 39) : keyOf Try.prog 2 (.int .i64 k) = some (.int .i64 k) := keyOf_int_mk Try.underlying2 (WalkArith.wf_i64 (by omega))

section
variable {F : Fence} {nF : Nat} (w : World) {ops : Array Oper} {rest : List Oper} {o : Oper} {a : Act} {Q : Exit → Act → World → Prop}
theorem wpListIn_lookup_np (hg : o.guard = none) (m x : Operand) (hop : o.op = Op.lookup 174 m x false) (b n : Nat) (xs : List (Int × Pg)) (hm : a.eval m = .map (some b)) (hN : NpIs w b n xs)
    (k : Int) (h0 : 0 ≤ k) (h1 : k ≤ 39) (hx : a.eval x = .int .i64 k)
    (hK : wpListIn F nF Try.prog ops Q rest (a.put o.dst (.agg #[.int .i64 (npOf (newestAt xs k)).1, .int .i64 (npOf (newestAt xs k)).2])) w) : wpListIn F nF Try.prog ops Q (o :: rest) a w := by
  refine wpListIn_plain hg fun K' hK' => ?_
  obtain ⟨D, hown, hM, hD⟩ := hN
  obtain ⟨v, ps, hrun, hv⟩ := hown.lookup i64_keyed Try.underlying174 (zeroNp w) (npElem_mk 0 0) (keyOf_log h0 h1)
  obtain ⟨s, p, rfl, hz⟩ := npElem_inv hv
  rw [(hD k h0 h1).1] at hz
  obtain ⟨e1, e2⟩ := npD_inj (congrArg Prod.fst hz)
  rw [e1, e2] at hK
  unfold Oper.wpIn
  refine ⟨by simp [Oper.about, hop], ?_⟩
  rw [Oper.semAt_plain F _ _ (by rw [hop]; intro c hc'; cases hc')]
  simp [execOp, hop, hm, hx, hrun, Result.andThen]
  exact hK' _ _ hK
theorem wpListIn_lookup_ok_np (hg : o.guard = none) (m x : Operand) (hop : o.op = Op.lookup 174 m x true) (b n : Nat) (xs : List (Int × Pg)) (hm : a.eval m = .map (some b)) (hN : NpIs w b n xs)
    (k : Int) (h0 : 0 ≤ k) (h1 : k ≤ 39) (hx : a.eval x = .int .i64 k)
    (hK : wpListIn F nF Try.prog ops Q rest (a.put o.dst (.tuple #[.agg #[.int .i64 (npOf (newestAt xs k)).1, .int .i64 (npOf (newestAt xs k)).2], .bool (newestAt xs k).isSome])) w) : wpListIn F nF Try.prog ops Q (o :: rest) a w := by
  obtain ⟨D, hown, hM, hD⟩ := hN
  refine wpListIn_lookup_own_ok w hg m x _ hop _ _ i64_keyed Try.underlying174 npElem (zeroNp w) _ _ (npElem_mk 0 0) b n D hm hown _ _ hx (keyOf_log h0 h1) (fun v ps hv => ?_)
  obtain ⟨s, p, rfl, hz⟩ := npElem_inv hv
  rw [(hD k h0 h1).1] at hz
  obtain ⟨e1, e2⟩ := npD_inj (congrArg Prod.fst hz)
  rw [e1, e2] at hK
  rw [(hD k h0 h1).2]
  exact hK
theorem wpListIn_update_np (hg : o.guard = none) (m x v : Operand) (hop : o.op = Op.mapUpdate 174 m x v) (b n : Nat) (xs : List (Int × Pg)) (hm : a.eval m = .map (some b)) (hN : NpIs w b n xs) (hn : n < maxLen)
    (y : Int × Pg) (h0 : 0 ≤ y.2.log) (h1 : y.2.log ≤ 39) (hx : a.eval x = .int .i64 y.2.log) (hv : a.eval v = .agg #[.int .i64 y.2.seq, .int .i64 y.1]) (hnw : newer (newestAt xs y.2.log) y.2.seq = true)
    (hK : ∀ w', NpIs w' b (n + 1) (xs ++ [y]) → w.grownBy w' (some b) → wpListIn F nF Try.prog ops Q rest (a.put o.dst undef) w') : wpListIn F nF Try.prog ops Q (o :: rest) a w := by
  obtain ⟨D, hown, hM, hD⟩ := hN
  refine wpListIn_mapUpdate_own w hg m x v _ hop _ _ i64_keyed Try.underlying174 npElem b n D hm hown hn _ _ _ hx hv (keyOf_log h0 h1) _ _ (npElem_mk _ _) (fun w' h2 h3 => ?_)
  exact hK w' (NpIs.step (W := w) (n := n) rfl hM hD h2 hnw) h3
end
end Go.Proofs.Ytalgkmellbamgaa

/- The program's map of the newest pages. -/
namespace Go.Proofs.Ytalgkmellbamgaa
open Go.RowKit Go.Shelf
set_option linter.unusedVariables false
set_option linter.unusedSimpArgs false
attribute [local go_sem] Oper.semAt_some

def RightU (x : Int × Pg) : Prop := 0 ≤ x.2.log ∧ x.2.log ≤ 39 ∧ 1 ≤ x.2.seq ∧ x.2.seq ≤ 1000000000
abbrev RU := {x : Int × Pg // RightU x}

/-- Between two rounds: the function's own variables, those that came being pre. -/
def NewI (w : World) (room : Nat) (pre : List RU) (W : World) : Prop :=
  W.heap[w.heap.size + 1]? = some (.cells #[Value.slice none 0 0] 41 (0, 0)) ∧ W.heap[w.heap.size + 1 + 1]? = some (.cells #[Value.bool false] 4 (0, 0)) ∧
  W.heap[w.heap.size + 1 + 1 + 1]? = some (.cells #[Value.int .i64 (room : Int)] 2 (0, 0)) ∧ W.heap[w.heap.size + 1 + 1 + 1 + 1 + 1]? = some (.cells #[Value.map (some (w.heap.size + 1 + 1 + 1 + 1))] 174 (0, 0)) ∧
  NpIs W (w.heap.size + 1 + 1 + 1 + 1) pre.length (pre.map (·.val)) ∧ (∀ x ∈ pre, x.val.2.log < (room : Int)) ∧ w.heap.size + 1 + 1 + 1 + 1 + 1 + 1 < W.heap.size
def NewX (w : World) (room : Nat) (c : Code) (pre : List RU) (W : World) : Prop :=
  c = .ret ∧ (∃ x ∈ pre, (room : Int) ≤ x.val.2.log) ∧ W.heap[w.heap.size + 1]? = some (.cells #[Value.slice none 0 0] 41 (0, 0)) ∧ W.heap[w.heap.size + 1 + 1]? = some (.cells #[Value.bool false] 4 (0, 0))
theorem NewI.own (w : World) (room : Nat) {B : Nat} (hB : w.heap.size + 1 + 1 + 1 + 1 < B) : OwnFrom B (NewI w room) := fun p W W' row ⟨h1, h2, h3, h4, h5, h6, h7⟩ hg hr =>
  have hr' : ∀ r, row = some r → ∃ o : Obj, W.heap[r]? = some o ∧ o.isCells = false := fun r e => (hr r e).2
  ⟨blk_kept h1 hg hr', blk_kept h2 hg hr', blk_kept h3 hg hr', blk_kept h4 hg hr', h5.kept hg (fun e => by have := (hr _ e.symm).1; omega), h6, Nat.lt_of_lt_of_le h7 hg.size⟩
theorem NewX.own (w : World) (room : Nat) (c : Code) : Own (NewX w room c) := fun p W W' row ⟨h1, h2, h3, h4⟩ hg hr => ⟨h1, h2, blk_kept h3 hg hr, blk_kept h4 hg hr⟩

theorem keepsFrom_grown {B b : Nat} {W W' : World} (h : W.grownBy W' (some b)) (hb : b < B) : KeepsFrom B W W' :=
  ⟨h.size, fun k o hk ho _ => by rw [h.block k (Array.getElem?_eq_some_iff.1 ho).1 (fun e => by cases e; omega)]; exact ho⟩
theorem keepB_grown {Bx b : Nat} {W W' : World} (h : W.grownBy W' (some b)) (hB : Bx < W.heap.size) (hb : Bx ≠ b) : KeepB Bx W W' :=
  ⟨h.size, h.block Bx hB (fun e => by cases e; exact hb rfl)⟩
theorem newer_iff {cur : Option (Int × Pg)} {s : Int} (hs : 1 ≤ s) : newer cur s = true ↔ (npOf cur).1 < s := by
  cases cur with
  | none => simp [newer, npOf]; omega
  | some y => simp [newer, npOf]

theorem run_field_np (a b : Int) (W : World) : (Instr.field 160 (.agg #[.int .i64 a, .int .i64 b]) 0).run Try.prog W = .ok (.int .i64 a) W := by kernel_rfl

theorem wpListIn_lookup_ok_cur {F : Fence} {nF : Nat} (w : World) {ops : Array Oper} {rest : List Oper} {o : Oper} {a : Act} {Q : Exit → Act → World → Prop} (hg : o.guard = none) (m x : Operand) (hop : o.op = Op.lookup 174 m x true) (b n : Nat) (xs : List (Int × Pg)) (hm : a.eval m = .map (some b)) (hN : NpIs w b n xs)
    (k : Int) (h0 : 0 ≤ k) (h1 : k ≤ 39) (hx : a.eval x = .int .i64 k) (s p : Int) (r : Bool) (hs : (npOf (newestAt xs k)).1 = s) (hp : (npOf (newestAt xs k)).2 = p) (hr : (newestAt xs k).isSome = r)
    (hK : wpListIn F nF Try.prog ops Q rest (a.put o.dst (.tuple #[.agg #[.int .i64 s, .int .i64 p], .bool r])) w) : wpListIn F nF Try.prog ops Q (o :: rest) a w := by
  refine wpListIn_lookup_ok_np w hg m x hop b n xs hm hN k h0 h1 hx ?_
  rw [hs, hp, hr]
  exact hK
theorem RowInts.put2 {w : World} {t : TypeId} {b n k : Nat} {L : List Int} {x : Int} (h : RowInts w t b n (L.take k)) (hx : L[k]? = some x) (v0 : Value) (o : Obj) :
    RowInts (((w.setCell ⟨b, k, none⟩ v0).setCell ⟨b, k, none⟩ (.int .i64 x)).alloc o) t b n (L.take (k + 1)) := by
  refine World.rowIs.congr (World.rowIs.alloc (World.rowIs.set (World.rowIs.set h k v0) k (.int .i64 x)) o) fun i hi => ?_
  unfold intF
  by_cases e : i = k
  · subst e; simp [List.getElem?_take, hx]
  · by_cases l : i < k
    · simp [e, List.getElem?_take, l, Nat.lt_succ_of_lt l]
    · have l2 : ¬ i < k + 1 := by omega
      simp [e, List.getElem?_take, l, l2]

theorem RowInts.own {w : World} {t : TypeId} {b n B : Nat} {L : List Int} (h : RowInts w t b n L) (hl : L.length = n) (hB : B ≤ b) (hn : n ≤ 1048576) : OwnInts w t B (.slice (some ⟨b, 0, none⟩) n n) L := by
  obtain ⟨c, hb, hc, hf⟩ := h
  refine ⟨by simp [ints], .inr ⟨b, n, c, by rw [hl], hB, hb, by omega, by unfold maxLen; omega, by omega, ?_⟩⟩
  rw [List.take_of_length_le (by simp; omega)]
  refine List.ext_getElem? (fun i => ?_)
  by_cases hi : i < n
  · have h1 := hf i hi
    rw [← Array.getElem?_toList] at h1
    rw [h1]
    obtain ⟨x, hx⟩ := getElem?_ex (l := L) (k := i) (by omega)
    simp [ints, intF, hx]
  · rw [List.getElem?_eq_none (by simp; omega), List.getElem?_eq_none (by rw [ints_length]; omega)]

theorem heap6 (w : World) (o1 o2 o3 o4 o5 o6 : Obj) :
    ((((((w.alloc o1).alloc o2).alloc o3).alloc o4).alloc o5).alloc o6).heap[w.heap.size]? = some o1 ∧ ((((((w.alloc o1).alloc o2).alloc o3).alloc o4).alloc o5).alloc o6).heap[w.heap.size + 1]? = some o2 ∧
    ((((((w.alloc o1).alloc o2).alloc o3).alloc o4).alloc o5).alloc o6).heap[w.heap.size + 1 + 1]? = some o3 ∧ ((((((w.alloc o1).alloc o2).alloc o3).alloc o4).alloc o5).alloc o6).heap[w.heap.size + 1 + 1 + 1]? = some o4 ∧
    ((((((w.alloc o1).alloc o2).alloc o3).alloc o4).alloc o5).alloc o6).heap[w.heap.size + 1 + 1 + 1 + 1]? = some o5 ∧ ((((((w.alloc o1).alloc o2).alloc o3).alloc o4).alloc o5).alloc o6).heap[w.heap.size + 1 + 1 + 1 + 1 + 1]? = some o6 := by
  have e : ((((((w.alloc o1).alloc o2).alloc o3).alloc o4).alloc o5).alloc o6).heap = (((((w.heap.push o1).push o2).push o3).push o4).push o5).push o6 := rfl
  rw [e]
  simp only [Array.getElem?_push, Array.size_push]
  refine ⟨?_, ?_, ?_, ?_, ?_, ?_⟩
  · rw [if_neg (by omega), if_neg (by omega), if_neg (by omega), if_neg (by omega), if_neg (by omega), if_pos trivial]
  · rw [if_neg (by omega), if_neg (by omega), if_neg (by omega), if_neg (by omega), if_pos trivial]
  · rw [if_neg (by omega), if_neg (by omega), if_neg (by omega), if_pos trivial]
  · rw [if_neg (by omega), if_neg (by omega), if_pos trivial]
  · rw [if_neg (by omega), if_pos trivial]
  · rw [if_pos trivial]

set_option maxRecDepth 100000 in
set_option maxHeartbeats 2000000 in
theorem newestPlaces_any (m : CC) (c : Nat) (hm : m.count = c) (h4 : 4 ≤ c) (hc : c ≤ 12) (bs : List Bk) (hl : bs.length = c) (hbs : ccBs m c = bs) (hok : ChipOk bs) (w : World) :
    Calls Try.prog 95 #[.agg (ccA m)] w fun e w' => MapRet bs 2 w.heap.size e w' ∧ Below w.heap.size w w' := by
  obtain ⟨room, hroom⟩ : ∃ room, room = roomOf bs := ⟨_, rfl⟩
  have hroomN : room = 4 * (c - 3) := by rw [hroom]; unfold roomOf; rw [hl]
  have hri : roomI (c : Int) = (room : Int) := by rw [roomI_in (by omega), hroomN]; omega
  have hr36 : room ≤ 36 := by omega
  have hua : usedAll m c = usedOf bs := by subst hl; exact usedOf_cc hbs
  have hRx : ∀ b k : Nat, b < c → k < 4 → (m.page b k).used = true → RightU ((b : Int) * 4 + (k : Int), m.page b k) := fun b k hb hk hu => by
    have hmem : ((b : Int) * 4 + (k : Int), m.page b k) ∈ usedOf bs := by
      rw [← hua]
      unfold usedAll
      simp only [List.mem_flatMap, List.mem_range]
      refine ⟨b, hb, ?_⟩
      unfold usedB
      simp only [List.mem_map, List.mem_filter, List.mem_range]
      exact ⟨k, ⟨hk, hu⟩, rfl⟩
    obtain ⟨q1, q2, q3, q4, _⟩ := hok.usedRight hmem
    exact ⟨q1, q2, q3, q4⟩
  have hc0 := ccA_count m
  rw [hm] at hc0
  have HRM := hide hroom
  have HUA := hide hua
  have HRX := hide hRx
  clear hroom hua hRx hroomN
  refine (callsIn_wide (n := 8)).1 ?_
  refine callsIn_of_wp_marks Try.func95 rfl trivial ?_ rfl
  simp only [Try.ntmps95, List.size_toArray, List.length_cons, List.length_nil, Nat.reduceAdd, Nat.reduceSub, Array.replicate_succ, Array.replicate_zero, List.push_toArray, List.append_toArray, List.nil_append, List.cons_append]
  gi_wp2_with fail
  refine ⟨trivial, ?_⟩
  gi_at_call 76
  refine (callsIn_wide.2 (implRoomFor_any _ _)).mono ?_
  rintro e w' ⟨rfl, rfl⟩
  rw [hri]
  clear hc0 hri
  have hmm := @run_makeMap Try.prog
  have h6 := heap6 w (.cells (ccA m) 97) (.cells #[.slice none 0 0] 41) (.cells #[.bool false] 4) (.cells #[.int .i64 (room : Int)] 2) (.map #[] 0) (.cells #[.map (some (w.heap.size + 1 + 1 + 1 + 1))] 174)
  have H6 := hide h6
  have HLD := hide (fun j (hj : j < 205) => (by rw [Nat.zero_add]; exact cell_of_row _ _ j _ _ _ h6.1 : World.cell? _ ⟨w.heap.size, 0 + j, none⟩ = (ccA m)[j]?))
  clear h6
  gi_wp2_with (first | (refine wpListIn_load_mid rfl 97 _ rfl w.heap.size 0 rfl (ccA m) 205 (ccA_size m) (unhide HLD) _ Try.underlying97 rfl sizeCC' ?_) | (refine ⟨trivial, ?_⟩; gi_at_call 137; refine (usedPages_in Fence.wide _ trivial rfl m _).mono ?_; rintro e w' ⟨rfl, rfl⟩))
  clear HLD hmm
  obtain ⟨W4, hW4⟩ : ∃ W4, W4 = (((((w.alloc (.cells (ccA m) 97)).alloc (.cells #[.slice none 0 0] 41)).alloc (.cells #[.bool false] 4)).alloc (.cells #[.int .i64 (room : Int)] 2)).alloc (.map #[] 0)).alloc (.cells #[.map (some (w.heap.size + 1 + 1 + 1 + 1))] 174) := ⟨_, rfl⟩
  have h6 := unhide H6
  clear H6
  have hs4 : W4.heap.size = w.heap.size + 1 + 1 + 1 + 1 + 1 + 1 := by rw [hW4]; simp
  have hB4 : Below w.heap.size w W4 := by
    rw [hW4]
    exact ((((((Below.refl _ w).alloc (Nat.le_refl _) _).alloc (by simp) _).alloc (by simp; omega) _).alloc (by simp; omega) _).alloc (by simp; omega) _).alloc (by simp; omega) _
  have hNp0 : NpIs W4 (w.heap.size + 1 + 1 + 1 + 1) 0 [] := by
    have h0 := NpIs.made ((((w.alloc (.cells (ccA m) 97)).alloc (.cells #[.slice none 0 0] 41)).alloc (.cells #[.bool false] 4)).alloc (.cells #[.int .i64 (room : Int)] 2))
    have e : ((((w.alloc (.cells (ccA m) 97)).alloc (.cells #[.slice none 0 0] 41)).alloc (.cells #[.bool false] 4)).alloc (.cells #[.int .i64 (room : Int)] 2)).heap.size = w.heap.size + 1 + 1 + 1 + 1 := by simp
    rw [e] at h0
    rw [hW4]
    exact h0.kept (World.grownBy_alloc _ _ none) (by simp)
  rw [← hW4] at h6 ⊢
  clear hW4
  obtain ⟨_, h61, h62, h63, _, h65⟩ := h6
  have hbel : Below w.heap.size w (W4.alloc (.cells (ccA m) 97)) := hB4.alloc hB4.size _
  have hbox : ∀ i, (W4.alloc (.cells (ccA m) 97)).cell? ⟨w.heap.size + 1 + 1 + 1 + 1 + 1 + 1, i, none⟩ = (ccA m)[i]? := fun i => by rw [← hs4]; simp
  refine wpIn_rangeFunc_ownH rfl (by omega) (gf := 159) (lb := #[.pointer (some ⟨w.heap.size + 1 + 1 + 1 + 1 + 1 + 1, 0, none⟩)]) rfl trivial (enters_of Try.func159 (by kernel_rfl) rfl)
    (usedR_stops RightU Fence.wide _ trivial rfl (by omega) (w.heap.size + 1 + 1 + 1 + 1 + 1 + 1) c m hm hc (unhide HRX) _ (by simp; omega) hbox) KeepB.trans (keepB_b (by simp; omega)) (Below.refl _ _) (fun _ => rfl)
    (fun pre W => NewI w room pre W ∧ Below w.heap.size w W) (fun c pre W => NewX w room c pre W ∧ Below w.heap.size w W)
    (OwnFrom.and (NewI.own w room (by simp; omega)) (ownFrom_below (Nat.le_refl _) (by simp; omega)))
    (fun c => OwnFrom.and (Own.from (NewX.own w room c) _) (ownFrom_below (Nat.le_refl _) (by simp; omega)))
    ⟨⟨by rw [Below.heap_alloc _ _ _ (by rw [hs4]; omega)]; exact h61, by rw [Below.heap_alloc _ _ _ (by rw [hs4]; omega)]; exact h62, by rw [Below.heap_alloc _ _ _ (by rw [hs4]; omega)]; exact h63, by rw [Below.heap_alloc _ _ _ (by rw [hs4]; omega)]; exact h65, hNp0.kept (World.grownBy_alloc _ _ none) (by simp), fun x hx => by simp at hx, by simp; omega⟩, hbel⟩
    (fun x a' W => ∃ Bp, w.heap.size + 1 + 1 + 1 + 1 + 1 + 1 < Bp ∧ W.heap[Bp]? = some (.cells #[Value.bool x.val.2.used, Value.int .i64 x.val.2.log, Value.int .i64 x.val.2.seq, Value.string x.val.2.data] 28 (0, 0)) ∧
      a' = { tmps := #[.agg (ccA m), .pointer (some ⟨w.heap.size, 0, none⟩), .pointer (some ⟨w.heap.size + 1, 0, none⟩), .pointer (some ⟨w.heap.size + 1 + 1, 0, none⟩), .pointer (some ⟨w.heap.size + 1 + 1 + 1, 0, none⟩), .pointer (some ⟨w.heap.size + 1 + 1 + 1 + 1 + 1, 0, none⟩), .int .i64 x.val.1, .pointer (some ⟨Bp, 0, none⟩), undef, undef, undef, undef, .pointer (some ⟨w.heap.size, 0, none⟩), .int .i64 (c : Int), .int .i64 (room : Int), .map (some (w.heap.size + 1 + 1 + 1 + 1)), .agg (ccA m), .func (.func 159) #[] #[.pointer (some ⟨w.heap.size + 1 + 1 + 1 + 1 + 1 + 1, 0, none⟩)], .int .i64 x.val.1, .agg #[Value.bool x.val.2.used, Value.int .i64 x.val.2.log, Value.int .i64 x.val.2.seq, Value.string x.val.2.data], undef, undef, undef, undef, undef, undef, undef, undef, undef, undef, undef, undef, undef, undef, undef, undef, undef, undef, undef, undef, undef, undef, undef, undef, undef, undef, undef, undef, undef, undef, undef, undef, undef, undef, undef, undef, undef, undef, undef, undef, undef, undef, undef], defers := [] })
    (fun x a' => Own.from (fun _ W W' row ⟨Bp, h1, h2, h3⟩ hg hr => ⟨Bp, h1, blk_kept h2 hg hr, h3⟩) _) ?assign ?body ?done ?stop
  case assign =>
    rintro l pre x W K ⟨hi, hb⟩ hK
    obtain ⟨⟨xi, xp⟩, hx⟩ := x
    simp only [encU]
    gi_wp2
    have hWs : w.heap.size + 1 + 1 + 1 + 1 + 1 + 1 < W.heap.size := hi.2.2.2.2.2.2
    exact hK _ _ ((KeepsOthers.alloc _ _).from _) (KeepB.alloc _ _ hWs) ⟨NewI.own w room (B := w.heap.size + 1 + 1 + 1 + 1 + 1) (by omega) pre W _ none hi (World.grownBy_alloc W _ none) (fun r e => by cases e), hb.alloc hb.size _⟩ ⟨W.heap.size, hWs, World.alloc_heap_new _ _, rfl⟩
  case body =>
    rintro l pre ⟨⟨xi, u, lg, s, d⟩, hx⟩ a' W hlb hlr ⟨⟨h1, h2, h3, h5, hNp, hF, hWs⟩, hb⟩ ⟨Bp, hBp, hpb, rfl⟩ hlen
    obtain ⟨q0, q1, q2, q3⟩ := hx
    simp only at q0 q1 q2 q3 hpb ⊢
    have hcL := cell_of_row _ _ 1 _ _ _ hpb
    have hcS := cell_of_row _ _ 2 _ _ _ hpb
    have hcR := cell_of_row _ _ 0 _ _ _ h3
    have hcM := cell_of_row _ _ 0 _ _ _ h5
    have hcF := cell_of_row _ _ 0 _ _ _ h1
    have hfF := frozen_of_row _ _ 0 _ _ h1
    have hcG := cell_of_row _ _ 0 _ _ _ h2
    have hfG := frozen_of_row _ _ 0 _ _ h2
    simp only [List.getElem?_toArray, List.getElem?_cons_succ, List.getElem?_cons_zero] at hcL hcS hcR hcM hcF hcG
    have H1 := hide h1
    have H2 := hide h2
    have H3 := hide h3
    have H5 := hide h5
    have HNP := hide hNp
    have HF := hide hF
    clear h1 h2 h3 h5 hNp hF hpb
    have hfld := run_field_np
    by_cases hlog : lg < (room : Int)
    · by_cases hnw : newer (newestAt (pre.map (·.val)) lg) s = true
      · have hv : (npOf (newestAt (pre.map (·.val)) lg)).1 < s := (newer_iff q2).1 hnw
        have HNW := hide hnw
        clear hnw
        gi_wp2_with (first | (gi_at_lookup; refine wpListIn_lookup_np _ rfl _ _ rfl (w.heap.size + 1 + 1 + 1 + 1) pre.length (pre.map (·.val)) rfl (unhide HNP) lg q0 q1 rfl ?_) | (gi_at_mapUpdate; refine wpListIn_update_np _ rfl _ _ _ rfl (w.heap.size + 1 + 1 + 1 + 1) pre.length (pre.map (·.val)) rfl (unhide HNP) (by unfold maxLen; omega) (xi, ⟨u, lg, s, d⟩) q0 q1 rfl rfl (unhide HNW) ?_; intro w2 hnp2 hg2))
        refine ⟨keepsFrom_grown hg2 (by simp; omega), keepB_grown hg2 hWs (by omega), ⟨?_, ?_, ?_, ?_, ?_, ?_, Nat.lt_of_lt_of_le hWs hg2.size⟩, hb.grown hg2 hb.size (fun j e => by cases e; omega)⟩
        · rw [hg2.block _ (by omega) (fun e => by simp at e)]; exact unhide H1
        · rw [hg2.block _ (by omega) (fun e => by simp at e)]; exact unhide H2
        · rw [hg2.block _ (by omega) (fun e => by simp at e)]; exact unhide H3
        · rw [hg2.block _ (by omega) (fun e => by simp at e)]; exact unhide H5
        · simpa using hnp2
        · intro x hx
          rcases List.mem_append.1 hx with hx | hx
          · exact unhide HF x hx
          · rw [List.mem_singleton.1 hx]; exact hlog
      · have hv : ¬ (npOf (newestAt (pre.map (·.val)) lg)).1 < s := fun hc => hnw ((newer_iff q2).2 hc)
        have HNW := hide hnw
        clear hnw
        gi_wp2_with (first | (gi_at_lookup; refine wpListIn_lookup_np _ rfl _ _ rfl (w.heap.size + 1 + 1 + 1 + 1) pre.length (pre.map (·.val)) rfl (unhide HNP) lg q0 q1 rfl ?_))
        refine ⟨KeepsFrom.refl _ _, KeepB.refl _ _, ⟨unhide H1, unhide H2, unhide H3, unhide H5, ?_, ?_, hWs⟩, hb⟩
        · have h0 := NpIs.same (unhide HNP) (x := (xi, ⟨u, lg, s, d⟩)) rfl (unhide HNW)
          rw [List.map_append, List.length_append]
          exact h0.mono (by simp)
        · intro x hx
          rcases List.mem_append.1 hx with hx | hx
          · exact unhide HF x hx
          · rw [List.mem_singleton.1 hx]; exact hlog
    · have hlog' : (room : Int) ≤ lg := by omega
      gi_wp2
      refine ⟨((KeepsOthers.setCell _ _ _).from _).trans ((KeepsOthers.setCell _ _ _).from _), ⟨rfl, ⟨_, List.mem_append_right _ (List.mem_singleton.2 rfl), hlog'⟩, ?_, ?_⟩, ?_⟩
      · rw [Below.heap_setCell _ _ _ _ (by simp)]
        exact blk_setCell_same 0 (.slice none 0 0) (unhide H1)
      · exact blk_setCell_same 0 (.bool false) ((Below.heap_setCell _ _ _ _ (by simp)).trans (unhide H2))
      · exact (hb.setCell (p := ⟨w.heap.size + 1, 0, none⟩) (by simp) _).setCell (p := ⟨w.heap.size + 1 + 1, 0, none⟩) (by simp; omega) _
  case done =>
    rintro D ys W hD hys ⟨⟨h1, h2, h3, h5, hNp, hF, hWs⟩, hb⟩ hK
    have hcR := cell_of_row _ _ 0 _ _ _ h3
    have hcM := cell_of_row _ _ 0 _ _ _ h5
    have hcF := cell_of_row _ _ 0 _ _ _ h1
    have hfF := frozen_of_row _ _ 0 _ _ h1
    have hcG := cell_of_row _ _ 0 _ _ _ h2
    have hfG := frozen_of_row _ _ 0 _ _ h2
    simp only [List.getElem?_toArray, List.getElem?_cons_succ, List.getElem?_cons_zero] at hcR hcM hcF hcG
    have H1 := hide h1
    have H2 := hide h2
    rw [hys, unhide HUA] at hNp
    have hF' : Fits bs := fun x hx => by
      rw [← unhide HUA, ← hys] at hx
      obtain ⟨y, hy, rfl⟩ := List.mem_map.1 hx
      rw [← unhide HRM]
      exact hF y hy
    have HNP := hide hNp
    have HF := hide hF'
    have HK := hide hK
    clear h1 h2 h3 h5 hNp hF hF' hys hK
    have hmk := make_ints room (by omega)
    gi_wp2
    clear hmk hcR
    have hDlt : D < W.heap.size := (Array.getElem?_eq_some_iff.1 (unhide HK)).1
    gi_loopw [43] (fun i wr => ∃ k : Nat, k ≤ room ∧ i = .int .i64 k ∧ RowInts wr 2 W.heap.size room ((placesOf (usedOf bs) room).take k) ∧ Below W.heap.size W wr ∧ W.heap.size < wr.heap.size) (fun i _ => room - (intOf i).toNat)
    case atStart => exact ⟨0, Nat.zero_le _, rfl, by simpa using RowInts.made W _ _, (Below.refl _ _).alloc (Nat.le_refl _) _, by simp⟩
    case round =>
      obtain ⟨k, hk, rfl, hR, hBr, hsr⟩ := hrel
      by_cases hlt : k < room
      · have hat := placesOf_at (usedOf bs) room hlt
        have hcM' := (hBr.cell (p := ⟨w.heap.size + 1 + 1 + 1 + 1 + 1, 0, none⟩) (by show w.heap.size + 1 + 1 + 1 + 1 + 1 < W.heap.size; omega)).trans hcM
        have hNp' : NpIs (wr.setCell ⟨W.heap.size, k, none⟩ (.int .i64 (-1))) (w.heap.size + 1 + 1 + 1 + 1) ys.length (usedOf bs) := by
          refine NpIs.kept (W := wr) (row := some W.heap.size) ((unhide HNP).kept (row := none) ⟨hBr.os, hBr.tape, hBr.output, hBr.size, fun j hj _ => hBr.block j hj⟩ (by simp)) ⟨rfl, rfl, rfl, by simp [World.setCell], fun j _ hj => Below.heap_setCell _ _ _ _ (fun e => hj (by rw [e]))⟩ (by simp; omega)
        have c0 := World.rowIs.cell hR (i := k) hlt
        have f0 := World.rowIs.frozen hR
        have HR := hide hR
        have HNP' := hide hNp'
        have HAT := hide hat
        have hk40 : (k : Int) ≤ 39 := by omega
        have hk00 : 0 ≤ (k : Int) := by omega
        have hne1 : W.heap.size ≠ w.heap.size + 1 + 1 + 1 + 1 + 1 := by omega
        clear hR hNp' hat hcM hcF hfF hcG hfG
        cases hnw : newestAt (usedOf bs) (k : Int) with
        | none =>
          have e1 : (npOf (newestAt (usedOf bs) (k : Int))).1 = 0 := by rw [hnw]; rfl
          have e2 : (npOf (newestAt (usedOf bs) (k : Int))).2 = 0 := by rw [hnw]; rfl
          have e3 : (newestAt (usedOf bs) (k : Int)).isSome = false := by rw [hnw]; rfl
          have hat := unhide HAT
          rw [hnw] at hat
          have HAT2 := hide hat
          have E1 := hide e1
          have E2 := hide e2
          have E3 := hide e3
          clear HAT hat e1 e2 e3 hnw
          gi_wp2_with (gi_at_lookup; refine wpListIn_lookup_ok_cur _ rfl _ _ rfl (w.heap.size + 1 + 1 + 1 + 1) ys.length (usedOf bs) rfl (unhide HNP') (k : Int) hk00 hk40 rfl 0 0 false (unhide E1) (unhide E2) (unhide E3) ?_)
          go_roundw
          case rel =>
            refine ⟨k + 1, by omega, by go_num, ?_, ?_, ?_⟩
            · exact World.rowIs.alloc (RowInts.put (unhide HR) (unhide HAT2)) _
            · exact (hBr.setCell (p := ⟨W.heap.size, k, none⟩) (Nat.le_refl _) _).alloc (by simp [World.setCell]; omega) _
            · simp [World.setCell]; omega
          case measure => simp [intOf]; omega
        | some y =>
          have e1 : (npOf (newestAt (usedOf bs) (k : Int))).1 = y.2.seq := by rw [hnw]; rfl
          have e2 : (npOf (newestAt (usedOf bs) (k : Int))).2 = y.1 := by rw [hnw]; rfl
          have e3 : (newestAt (usedOf bs) (k : Int)).isSome = true := by rw [hnw]; rfl
          have hat := unhide HAT
          rw [hnw] at hat
          have HAT2 := hide hat
          have E1 := hide e1
          have E2 := hide e2
          have E3 := hide e3
          clear HAT hat e1 e2 e3 hnw
          gi_wp2_with (gi_at_lookup; refine wpListIn_lookup_ok_cur _ rfl _ _ rfl (w.heap.size + 1 + 1 + 1 + 1) ys.length (usedOf bs) rfl (unhide HNP') (k : Int) hk00 hk40 rfl y.2.seq y.1 true (unhide E1) (unhide E2) (unhide E3) ?_)
          go_roundw
          case rel =>
            refine ⟨k + 1, by omega, by go_num, ?_, ?_, ?_⟩
            · exact RowInts.put2 (unhide HR) (unhide HAT2) _ _
            · exact ((hBr.setCell (p := ⟨W.heap.size, k, none⟩) (Nat.le_refl _) _).setCell (p := ⟨W.heap.size, k, none⟩) (Nat.le_refl _) _).alloc (by simp [World.setCell]; omega) _
            · simp [World.setCell]; omega
          case measure => simp [intOf]; omega
      · obtain rfl : k = room := by omega
        have hcF' := (hBr.cell (p := ⟨w.heap.size + 1, 0, none⟩) (by show w.heap.size + 1 < W.heap.size; omega)).trans hcF
        have hfF' := (hBr.frozen (p := ⟨w.heap.size + 1, 0, none⟩) (by show w.heap.size + 1 < W.heap.size; omega)).trans hfF
        have hcG' := (hBr.cell (p := ⟨w.heap.size + 1 + 1, 0, none⟩) (by show w.heap.size + 1 + 1 < W.heap.size; omega)).trans hcG
        have hfG' := (hBr.frozen (p := ⟨w.heap.size + 1 + 1, 0, none⟩) (by show w.heap.size + 1 + 1 < W.heap.size; omega)).trans hfG
        have hKr := (hBr.block D hDlt).trans (unhide HK)
        have HKR := hide hKr
        have HR := hide hR
        clear hKr hR hcF hfF hcG hfG hcM
        gi_wp2
        have hK' := ((KeepsOthers.setCell wr ⟨w.heap.size + 1, 0, none⟩ (.slice (some ⟨W.heap.size, 0, none⟩) k k)).trans (KeepsOthers.setCell _ ⟨w.heap.size + 1 + 1, 0, none⟩ (.bool true))).same D _ (unhide HKR) rfl
        refine ⟨by simp, .inl ⟨_, _, rfl, run_takeDeferred hK', ?_⟩⟩
        have hc4 : ((wr.setCell ⟨w.heap.size + 1, 0, none⟩ (.slice (some ⟨W.heap.size, 0, none⟩) k k)).setCell ⟨w.heap.size + 1 + 1, 0, none⟩ (.bool true)).cell? ⟨w.heap.size + 1, 0, none⟩ = some (.slice (some ⟨W.heap.size, 0, none⟩) k k) := by
          refine (World.cell?_of_block (a := ⟨w.heap.size + 1, 0, none⟩) (Below.heap_setCell _ _ _ _ (by show w.heap.size + 1 ≠ w.heap.size + 1 + 1; omega))).trans ?_
          exact World.cell?_setCell_same' wr ⟨w.heap.size + 1, 0, none⟩ _ (by rw [hcF']; rfl)
        have hc5 := cell_kept hc4 (grownBy_putObj' _ D (.deferred none)) (fun r e => by cases e; exact ⟨_, hK', rfl⟩)
        have hc6 := cell_kept (World.cell?_setCell_same' (wr.setCell ⟨w.heap.size + 1, 0, none⟩ (.slice (some ⟨W.heap.size, 0, none⟩) k k)) ⟨w.heap.size + 1 + 1, 0, none⟩ (.bool true) (by rw [World.cell?_of_block (a := ⟨w.heap.size + 1 + 1, 0, none⟩) (Below.heap_setCell wr _ _ _ (by show w.heap.size + 1 + 1 ≠ w.heap.size + 1; omega)), hcG']; rfl)) (grownBy_putObj' _ D (.deferred none)) (fun r e => by cases e; exact ⟨_, hK', rfl⟩)
        have hBw : Below w.heap.size w ((wr.setCell ⟨w.heap.size + 1, 0, none⟩ (.slice (some ⟨W.heap.size, 0, none⟩) k k)).setCell ⟨w.heap.size + 1 + 1, 0, none⟩ (.bool true)) := ((hb.trans (hBr.mono hb.size)).setCell (p := ⟨w.heap.size + 1, 0, none⟩) (by simp) _).setCell (p := ⟨w.heap.size + 1 + 1, 0, none⟩) (by simp; omega) _
        refine ⟨.tuple #[.slice (some ⟨W.heap.size, 0, none⟩) k k, .bool true], ?_, ⟨_, true, _, rfl, ⟨?_, rfl⟩, ?_⟩, hBw.trans (belowK_b (w := w) (Nat.le_refl _) _ D _ _ (by simp at hD; omega) hK' rfl rfl)⟩
        · simp [results, Try.f95, go_sem, hc5, hc6]
        · simp only [true_iff]
          exact unhide HF
        · simp only [if_true]
          have hr := unhide HR
          rw [List.take_of_length_le (by rw [placesOf_length]; exact Nat.le_refl _)] at hr
          rw [← unhide HRM]
          refine RowInts.own (World.rowIs.of_block hr ?_) (placesOf_length _ _) hb.size (by omega)
          rw [World.putObj_heap_other (by omega), Below.heap_setCell _ _ _ _ (by show W.heap.size ≠ w.heap.size + 1 + 1; omega), Below.heap_setCell _ _ _ _ (by show W.heap.size ≠ w.heap.size + 1; omega)]
  case stop =>
    rintro D c' pre W hD hpre ⟨⟨rfl, hin, h1, h2⟩, hb⟩ hK
    have hcF := cell_of_row _ _ 0 _ _ _ h1
    have hcG := cell_of_row _ _ 0 _ _ _ h2
    have HA := hide hin
    clear hin
    gi_wp2
    refine ⟨by simp, .inl ⟨_, _, rfl, run_takeDeferred hK, ?_⟩⟩
    have hc5 := cell_kept hcF (grownBy_putObj' _ D (.deferred none)) (fun r e => by cases e; exact ⟨_, hK, rfl⟩)
    have hc6 := cell_kept hcG (grownBy_putObj' _ D (.deferred none)) (fun r e => by cases e; exact ⟨_, hK, rfl⟩)
    refine ⟨.tuple #[.slice none 0 0, .bool false], ?_, ⟨_, false, [], rfl, ⟨?_, rfl⟩, World.ownsRow_nil _ _ _ _⟩, hb.trans (belowK_b (w := w) (Nat.le_refl _) W D _ _ (by simp at hD; omega) hK rfl rfl)⟩
    · simp [results, Try.f95, go_sem, hc5, hc6]
    · simp only [Bool.false_eq_true, false_iff]
      intro hfit
      obtain ⟨x, hx, hge⟩ := unhide HA
      have := hfit x.val (by rw [← unhide HUA]; exact hpre.subset (List.mem_map.2 ⟨x, hx, rfl⟩))
      rw [← unhide HRM] at this
      omega
end Go.Proofs.Ytalgkmellbamgaa
