/- 4 texts in one. -/
import Derived.Test.YtimencianaclmaaG09
import Derived.Test.YtimencianaclmaaG07
import Derived.Test.YtimencianaclmaaG10
import Derived.WalkKit
import Derived.ProofKit
import Derived.Test.YtimencianaclmaaG08
import Derived.Test.YtimencianaclmaaG05
import Derived.Test.YtimencianaclmaaG04
import Derived.Outline

/- Members: the laws' own copy, comparison and size of them; an argument that is a member, opened. -/
namespace Go.Proofs.Ytimencianaclmaa
open Go.RowKit
set_option linter.unusedVariables false
set_option linter.unusedSimpArgs false

theorem toChip_own2 {n : Nat} (a : Option Addr) (c : Nat) (bs : List Bk) (hl : bs.length = n) (w : World) (h : BlocksAt w a bs) (hn : Lens 1048576 bs) :
    Calls Try.prog 51 #[.agg #[.slice a n c]] w fun e w' => ∃ g H, e = .returned (.agg #[.slice (some ⟨g, 0, none⟩) n n]) ∧ w.heap.size ≤ g ∧ OwnBlocks w' 38 28 g H n bs ∧ Below w.heap.size w w' := by
  subst hl; exact toChip_any a c bs w h hn

set_option maxRecDepth 100000 in
set_option maxHeartbeats 1000000 in
theorem toFtl_any (a : Option Addr) (c : Nat) (bs : List Bk) (n : Nat) (hl : bs.length = n) (ma : Option Addr) (mc : Nat) (L : List Int) (mn : Nat) (hL : L.length = mn) (seq o : Int) (w : World) (h : BlocksAt w a bs) (hn : Lens 1048576 bs) (hI : IntsAt w ma L) (hmn : mn ≤ 1048576) :
    Calls Try.prog 43 #[.agg #[.slice a n c, .slice ma mn mc, .int .i64 seq, .int .i64 o]] w fun e w' => ∃ g H m, e = .returned (.agg #[.slice (some ⟨g, 0, none⟩) n n, .slice (some ⟨m, 0, none⟩) mn mn, .int .i64 seq, .int .i64 o]) ∧ w.heap.size ≤ g ∧ g < m ∧ (∀ i, i < n → H i < m) ∧
      OwnBlocks w' 38 28 g H n bs ∧ RowInts w' 2 m mn L ∧ Below w.heap.size w w' := by
  have hb0 : ∀ o1 o2 o3, Below w.heap.size w (((w.alloc o1).alloc o2).alloc o3) := fun o1 o2 o3 => (((Below.refl _ w).alloc (Nat.le_refl _) _).alloc (by simp) _).alloc (by simp; omega) _
  have HL := hide hl
  have HLL := hide hL
  clear hl hL
  go_enter Try.func43, Try.ntmps43
  go_wp2_with fail
  refine (toChip_own2 a c bs (unhide HL) _ (h.below (hb0 _ _ _) (Nat.le_refl _)) hn).mono ?_
  rintro e w1 ⟨g, H, rfl, hg, hO, hB1⟩
  have hs1 := hB1.size
  simp at hs1 hg
  obtain ⟨r0, r1, r2⟩ := heap3 w (.cells #[.slice a n c, .slice ma mn mc, .int .i64 seq, .int .i64 o] 72) (.cells #[.slice none 0 0, .slice none 0 0, .int .i64 0, .int .i64 0] 44) (.cells #[.slice none 0 0, .slice none 0 0, .int .i64 0, .int .i64 0] 44)
  have r0' := (hB1.block _ (by simp; omega)).trans r0
  have r1' := (hB1.block _ (by simp)).trans r1
  have r2' := (hB1.block _ (by simp)).trans r2
  have hm1 := cell_of_row _ _ 1 _ _ _ r0'
  have hz0 := cell_of_row _ _ 0 _ _ _ r2'
  have hzf := frozen_of_row _ _ 0 _ _ r2'
  simp at hm1 hz0
  have hW1 : Below w.heap.size w w1 := (hb0 _ _ _).trans (hB1.mono (by simp; omega))
  have hlt : ∀ i, i < n → H i < w1.heap.size := fun i hi => hO.lt (by rw [unhide HL]; exact hi)
  have hglt : g < w1.heap.size := hO.row.lt
  have HO := hide hO
  have R0 := hide r0'
  have R1 := hide r1'
  have R2 := hide r2'
  have HH := hide h
  have HI := hide hI
  have HLT := hide hlt
  clear h hI hO hB1 hb0 hlt r0 r1 r2 r0' r1' r2'
  go_wp2_with fail
  have hW2 : ∀ v, Below w.heap.size w (w1.setCell ⟨w.heap.size + 1 + 1, 0, none⟩ v) := fun v => hW1.setCell (by show w.heap.size ≤ w.heap.size + 1 + 1; omega) v
  refine (toInt64S_any ma mc L mn (unhide HLL) _ ((unhide HI).below (hW2 _) (Nat.le_refl _)) hmn).mono ?_
  rintro e w3 ⟨rfl, hR, hB3⟩
  have hs3 := hB3.size
  simp at hs3 hR
  have r0 := (hB3.block w.heap.size (by simp; omega)).trans ((Below.heap_setCell _ _ _ _ (by show w.heap.size ≠ w.heap.size + 1 + 1; omega)).trans (unhide R0))
  have r1 := (hB3.block (w.heap.size + 1) (by simp; omega)).trans ((Below.heap_setCell _ _ _ _ (by simp)).trans (unhide R1))
  have r2 := (hB3.block (w.heap.size + 1 + 1) (by simp; omega)).trans (blk_setCell_same 0 (.slice (some ⟨g, 0, none⟩) n n) (unhide R2))
  simp at r2
  have p2 := cell_of_row _ _ 2 _ _ _ r0
  have p3 := cell_of_row _ _ 3 _ _ _ r0
  have q0 := cell_of_row _ _ 0 _ _ _ r1
  have q1 := cell_of_row _ _ 1 _ _ _ r1
  have q2 := cell_of_row _ _ 2 _ _ _ r1
  have q3 := cell_of_row _ _ 3 _ _ _ r1
  have f0 := frozen_of_row _ _ 0 _ _ r1
  have f1 := frozen_of_row _ _ 1 _ _ r1
  have f2 := frozen_of_row _ _ 2 _ _ r1
  have f3 := frozen_of_row _ _ 3 _ _ r1
  have s0 := cell_of_row _ _ 0 _ _ _ r2
  have s1 := cell_of_row _ _ 1 _ _ _ r2
  have s2 := cell_of_row _ _ 2 _ _ _ r2
  have s3 := cell_of_row _ _ 3 _ _ _ r2
  have t1 := frozen_of_row _ _ 1 _ _ r2
  have t2 := frozen_of_row _ _ 2 _ _ r2
  have t3 := frozen_of_row _ _ 3 _ _ r2
  simp at p2 p3 q0 q1 q2 q3 s0 s1 s2 s3
  clear r0 r1 r2 hz0 hzf hm1
  have HO3 : Hid (OwnBlocks w3 38 28 g H n bs) := ((unhide HO).setOther (a := ⟨w.heap.size + 1 + 1, 0, none⟩) (by show w.heap.size + 1 + 1 < g; omega) _).below hB3 (by simp)
  have hW3 : Below w.heap.size w w3 := (hW2 _).trans (hB3.mono (hW2 _).size)
  have HR := hide hR
  clear hR hB3 HO hW2 HI HH R0 R1 R2
  go_wp2
  refine bodyPost_ret (v := .agg #[.slice (some ⟨g, 0, none⟩) n n, .slice (some ⟨w1.heap.size, 0, none⟩) mn mn, .int .i64 seq, .int .i64 o]) (by simp [results, Try.results43, go_sem, q0, q1, q2, q3]) rfl ⟨g, H, w1.heap.size, rfl, by omega, hglt, unhide HLT, ?_, ?_, ?_⟩
  · exact (((((((unhide HO3).setOther (by show w.heap.size + 1 + 1 < g; omega) _).setOther (by show w.heap.size + 1 + 1 < g; omega) _).setOther (by show w.heap.size + 1 + 1 < g; omega) _).setOther (by show w.heap.size + 1 < g; omega) _).setOther (by show w.heap.size + 1 < g; omega) _).setOther (by show w.heap.size + 1 < g; omega) _).setOther (by show w.heap.size + 1 < g; omega) _
  · exact ((((((World.rowIs.setOther (unhide HR) (by show w1.heap.size ≠ w.heap.size + 1 + 1; omega) _).setOther (by show w1.heap.size ≠ w.heap.size + 1 + 1; omega) _).setOther (by show w1.heap.size ≠ w.heap.size + 1 + 1; omega) _).setOther (by show w1.heap.size ≠ w.heap.size + 1; omega) _).setOther (by show w1.heap.size ≠ w.heap.size + 1; omega) _).setOther (by show w1.heap.size ≠ w.heap.size + 1; omega) _).setOther (by show w1.heap.size ≠ w.heap.size + 1; omega) _
  · exact ((((((hW3.setCell (by show w.heap.size ≤ w.heap.size + 1 + 1; omega) _).setCell (by show w.heap.size ≤ w.heap.size + 1 + 1; omega) _).setCell (by show w.heap.size ≤ w.heap.size + 1 + 1; omega) _).setCell (by show w.heap.size ≤ w.heap.size + 1; omega) _).setCell (by show w.heap.size ≤ w.heap.size + 1; omega) _).setCell (by show w.heap.size ≤ w.heap.size + 1; omega) _).setCell (by show w.heap.size ≤ w.heap.size + 1; omega) _

set_option maxRecDepth 100000 in
set_option maxHeartbeats 1000000 in
theorem eqFtl_same (a1 a2 : Option Addr) (c1 c2 : Nat) (bs : List Bk) (n : Nat) (hl : bs.length = n) (m1 m2 : Option Addr) (d1 d2 : Nat) (L : List Int) (mn : Nat) (hL : L.length = mn) (seq o : Int) (w : World) (h1 : BlocksAt w a1 bs) (h2 : BlocksAt w a2 bs) (hn : Lens 1048576 bs) (i1 : IntsAt w m1 L) (i2 : IntsAt w m2 L) (hmn : mn ≤ 1048576) :
    Calls Try.prog 45 #[.agg #[.slice a1 n c1, .slice m1 mn d1, .int .i64 seq, .int .i64 o], .agg #[.slice a2 n c2, .slice m2 mn d2, .int .i64 seq, .int .i64 o]] w fun e w' => e = .returned (.bool true) ∧ Below w.heap.size w w' := by
  have hb0 : ∀ o1 o2, Below w.heap.size w ((w.alloc o1).alloc o2) := fun o1 o2 => ((Below.refl _ w).alloc (Nat.le_refl _) _).alloc (by simp) _
  have hne1 : (seq != seq) = false := by simp
  have hne2 : (o != o) = false := by simp
  go_enter Try.func45, Try.ntmps45
  go_wp2_with fail
  refine (eqChip_n a1 a2 c1 c2 bs hl _ (h1.below (hb0 _ _) (Nat.le_refl _)) (h2.below (hb0 _ _) (Nat.le_refl _)) hn).mono ?_
  rintro e w1 ⟨rfl, hB1⟩
  have hs1 := hB1.size
  simp at hs1
  have hx : ∀ i, w1.cell? ⟨w.heap.size, i, none⟩ = (#[Value.slice a1 n c1, .slice m1 mn d1, .int .i64 seq, .int .i64 o])[i]? := fun i => by
    rw [hB1.cell (p := ⟨w.heap.size, i, none⟩) (by simp; omega), cell_alloc_lt _ _ _ _ (by simp)]
    simp
  have hy : ∀ i, w1.cell? ⟨w.heap.size + 1, i, none⟩ = (#[Value.slice a2 n c2, .slice m2 mn d2, .int .i64 seq, .int .i64 o])[i]? := fun i => by
    rw [hB1.cell (p := ⟨w.heap.size + 1, i, none⟩) (by simp), cell_of_row _ _ i _ _ _ (heap_alloc2_new _ _ _)]
  have hW1 : Below w.heap.size w w1 := (hb0 _ _).trans (hB1.mono (by simp; omega))
  have x1 := hx 1
  have x2 := hx 2
  have x3 := hx 3
  have y1 := hy 1
  have y2 := hy 2
  have y3 := hy 3
  simp at x1 x2 x3 y1 y2 y3
  have I1 := hide (i1.below hW1 (Nat.le_refl _))
  have I2 := hide (i2.below hW1 (Nat.le_refl _))
  have HL := hide hL
  clear h1 h2 i1 i2 hx hy hB1 hb0 hn hl hL
  go_wp2_with fail
  refine (eqInt64S_same m1 m2 d1 d2 L mn (unhide HL) _ (unhide I1) (unhide I2) hmn).mono ?_
  rintro e w2 ⟨rfl, hB2⟩
  have hs2 := hB2.size
  have x2' := (hB2.cell (p := ⟨w.heap.size, 2, none⟩) (by show w.heap.size < _; omega)).trans x2
  have x3' := (hB2.cell (p := ⟨w.heap.size, 3, none⟩) (by show w.heap.size < _; omega)).trans x3
  have y2' := (hB2.cell (p := ⟨w.heap.size + 1, 2, none⟩) (by show w.heap.size + 1 < _; omega)).trans y2
  have y3' := (hB2.cell (p := ⟨w.heap.size + 1, 3, none⟩) (by show w.heap.size + 1 < _; omega)).trans y3
  have hW2 := hW1.trans (hB2.mono hW1.size)
  clear x1 x2 x3 y1 y2 y3 hB2 hW1 I1 I2
  go_wp2
  go_ret
  exact ⟨rfl, hW2⟩

set_option maxHeartbeats 1000000 in
theorem szInt64S_any (a : Option Addr) (c n : Nat) (left : Int) (w : World) (hn : n ≤ 9223372036854775807) (h0 : 0 ≤ left) (h1 : left ≤ 1048576) :
    Calls Try.prog 106 #[.slice a n c, .int .i64 left] w fun e w' => ∃ r : Int, e = .returned (.int .i64 r) ∧ r ≤ 1048576 ∧ (0 ≤ r → n ≤ 1048576) ∧ w' = w := by
  by_cases hneg : left - (n : Int) < 0
  · go_enter Try.func106, Try.ntmps106
    go_wp2
    go_ret
    exact ⟨_, rfl, by omega, by omega, rfl⟩
  · go_enter Try.func106, Try.ntmps106
    go_wp2
    go_ret
    exact ⟨_, rfl, by omega, by omega, rfl⟩

set_option maxRecDepth 100000 in
set_option maxHeartbeats 1000000 in
theorem szFtl_any (a : Option Addr) (c : Nat) (bs : List Bk) (n : Nat) (hl : bs.length = n) (ma : Option Addr) (mc mn : Nat) (seq o : Int) (w : World) (h : BlocksAt w a bs) (hn : Lens 9223372036854775807 bs) (ht : Texts bs) (hmn : mn ≤ 9223372036854775807) :
    Calls Try.prog 42 #[.agg #[.slice a n c, .slice ma mn mc, .int .i64 seq, .int .i64 o], .int .i64 1048576] w fun e w' => ∃ r : Int, e = .returned (.int .i64 r) ∧ r ≤ 1048576 ∧ (0 ≤ r → Lens 1048576 bs ∧ mn ≤ 1048576) ∧ Below w.heap.size w w' := by
  have hb0 : ∀ o1, Below w.heap.size w (w.alloc o1) := fun o1 => (Below.refl _ w).alloc (Nat.le_refl _) _
  go_enter Try.func42, Try.ntmps42
  go_wp2_with fail
  refine (szChip_n a c bs hl _ (h.below (hb0 _) (Nat.le_refl _)) hn ht).mono ?_
  rintro e w1 ⟨r, rfl, hr1, hr2, hB1⟩
  have hs1 := hB1.size
  simp at hs1
  have hx : w1.cell? ⟨w.heap.size, 1, none⟩ = some (.slice ma mn mc) := by
    rw [hB1.cell (p := ⟨w.heap.size, 1, none⟩) (by simp)]
    simp
  have hW1 : Below w.heap.size w w1 := (hb0 _).trans (hB1.mono (by simp))
  have HR := hide hr2
  clear h hr2 hb0 hB1 hn ht hl
  by_cases hneg : r < 0
  · go_wp2
    go_ret
    exact ⟨_, rfl, by omega, by omega, hW1⟩
  · go_wp2_with fail
    refine (szInt64S_any ma mc mn r _ hmn (by omega) hr1).mono ?_
    rintro e w2 ⟨r2, rfl, h21, h22, rfl⟩
    have HR2 := hide h22
    clear h22
    by_cases hneg2 : r2 < 0
    · go_wp2
      go_ret
      exact ⟨_, rfl, by omega, by omega, hW1⟩
    · go_wp2
      go_ret
      exact ⟨_, rfl, by omega, fun _ => ⟨unhide HR (by omega), unhide HR2 (by omega)⟩, hW1⟩

open Go.ChangeShapes Go.WideShapes Go.Deep in
set_option maxRecDepth 100000 in
/-- An argument of the type Ftl, opened. -/
theorem open_ftl {H : Type} {enc : TypeId × Value → H} {w : World} {base b0 : Nat} {spare : Nat → Bool} {held : Bool} {v : Value} {d : DataW H} {p : List MemPlace}
    (hv : Value.okWide Try.prog w .any b0 72 v) (h : DataW.Trod enc Try.prog w base spare held 72 v d p) :
    ∃ (a : Option Addr) (c : Nat) (bs : List Bk) (ma : Option Addr) (mc : Nat) (L : List Int) (seq o : Int), v = .agg #[.slice a bs.length c, .slice ma L.length mc, .int .i64 seq, .int .i64 o] ∧ BlocksAt w a bs ∧ Lens 9223372036854775807 bs ∧ Texts bs ∧ IntsAt w ma L ∧ L.length ≤ 9223372036854775807 := by
  obtain ⟨cs, rfl, hsz⟩ := okWide_struct Try.underlying72 hv
  have h1 : cs.size = 4 := hsz.trans (by kernel_rfl)
  obtain ⟨l⟩ := cs
  match l, h1 with
  | [v0, v1, v2, v3], _ =>
    obtain ⟨fuel, hf⟩ := h
    obtain ⟨xs, k, hk, hxy, _, hxl, hf⟩ := DataW.trod_struct Try.underlying72 hf
    have c0 : Try.prog.cellsOf 70 = 1 := by kernel_rfl
    have c1 : Try.prog.cellsOf 41 = 1 := by kernel_rfl
    have c2 : Try.prog.cellsOf 2 = 1 := by kernel_rfl
    have c3 : Try.prog.cellsOf 68 = 1 := by kernel_rfl
    match xs, hxl with
    | [y0, y1, y2, y3], _ =>
      have g0 := hf 0 _ rfl
      have g1 := hf 1 _ rfl
      have g2 := hf 2 _ rfl
      have g3 := hf 3 _ rfl
      simp [Value.cells, c0, c1, c2] at g0 g1 g2 g3
      obtain ⟨z0, m, _, _, hz⟩ := trod_struct1 Try.underlying70 g0
      simp [c3] at hz
      obtain ⟨a, c, bs, rfl, hbs, hl, ht⟩ := open_blocks (tp := 216) Try.underlying68 Try.underlying218 (by kernel_rfl) (by kernel_rfl) Try.underlying2 Try.underlying216 Try.underlying154 (by kernel_rfl) (by kernel_rfl)
        Try.underlying4 Try.underlying2 Try.underlying2 Try.underlying9 hz
      obtain ⟨ma, mc, L, rfl, hI, hLl, _⟩ := open_intsAt Try.underlying41 Try.underlying2 c2 g1
      obtain ⟨i2, hi2, _⟩ := DataW.trod_int Try.underlying2 g2
      obtain ⟨i3, hi3, _⟩ := DataW.trod_int Try.underlying2 g3
      cases hi2
      cases hi3
      exact ⟨a, c, bs, ma, mc, L, i2, i3, rfl, hbs, hl, ht, hI, hLl⟩
end Go.Proofs.Ytimencianaclmaa

/- A member as an answer: what it owns, its marks. -/
namespace Go.Proofs.Ytimencianaclmaa
open Go.RowKit
set_option linter.unusedVariables false
set_option linter.unusedSimpArgs false

theorem marksI_length (k : Int) (n : Nat) : (marksI k n).length = n := by simp [marksI]

/-- An answer that is a member: its rows lie from B on and ahead of T: the chip's in [C, K), its map in none of these. -/
def FtlOwn (w : World) (B T : Nat) (a : Option Addr) (n c : Nat) (out : List Bk) (ma : Option Addr) (mn : Nat) (L : List Int) : Prop :=
  L.length = mn ∧ IntsAt w ma L ∧ MineFrom w ma mn B ∧ (∀ g, ma = some ⟨g, 0, none⟩ → g < T) ∧ ∃ C K, B ≤ C ∧ ChipOwn w C K a n c out ∧ K ≤ T ∧ ∀ g, ma = some ⟨g, 0, none⟩ → ¬ (C ≤ g ∧ g < K)
theorem FtlOwn.blocksAt {w : World} {B T : Nat} {a : Option Addr} {n c : Nat} {out : List Bk} {ma : Option Addr} {mn : Nat} {L : List Int} (h : FtlOwn w B T a n c out ma mn L) : BlocksAt w a out := by
  obtain ⟨_, _, _, _, C, K, _, h1, _⟩ := h; exact h1.blocksAt
theorem FtlOwn.length {w : World} {B T : Nat} {a : Option Addr} {n c : Nat} {out : List Bk} {ma : Option Addr} {mn : Nat} {L : List Int} (h : FtlOwn w B T a n c out ma mn L) : out.length = n ∧ L.length = mn := by
  obtain ⟨h0, _, _, _, C, K, _, h1, _⟩ := h; exact ⟨h1.1, h0⟩
theorem FtlOwn.below {w w' : World} {B T : Nat} {a : Option Addr} {n c : Nat} {out : List Bk} {ma : Option Addr} {mn : Nat} {L : List Int} (h : FtlOwn w B T a n c out ma mn L) (hb : Below w.heap.size w w') : FtlOwn w' B T a n c out ma mn L := by
  obtain ⟨h0, h1, h2, h6, C, K, h3, h4, h5⟩ := h
  exact ⟨h0, h1.below hb (Nat.le_refl _), h2.below hb, h6, C, K, h3, h4.below hb, h5⟩
theorem FtlOwn.touch {S : Nat → Prop} {w w' : World} {B T : Nat} {a : Option Addr} {n c : Nat} {out : List Bk} {ma : Option Addr} {mn : Nat} {L : List Int} (h : FtlOwn w B T a n c out ma mn L) (hT : Touch S w w') (hS : ∀ k, S k → k < B) : FtlOwn w' B T a n c out ma mn L := by
  obtain ⟨h0, h1, h2, h6, C, K, h3, h4, h5⟩ := h
  exact ⟨h0, intsAt_touch h1 (by rw [h0]; exact h2) hT hS, h2.touch hT hS, h6, C, K, h3, h4.touch hT (fun k hk => by have := hS k hk; omega), h5⟩

theorem MineFrom.touch' {S : Nat → Prop} {w w' : World} {a : Option Addr} {n B : Nat} (h : MineFrom w a n B) (hT : Touch S w w') (hS : ∀ g, a = some ⟨g, 0, none⟩ → ¬ S g) : MineFrom w' a n B := by
  rcases h with h | ⟨g, ha, h1, h2, h3⟩
  · exact .inl h
  · exact .inr ⟨g, ha, h1, Nat.lt_of_lt_of_le h2 hT.size, h3.of_block (hT.block g h2 (hS g ha))⟩

set_option maxHeartbeats 1000000 in
theorem markIntsK_any (a : Option Addr) (c n B : Nat) (k : Int) (w : World) (h : MineFrom w a n B) (hn : n ≤ 1048576) (h0 : 0 < k) (h1 : k + n ≤ 1125899906842624) :
    Calls Try.prog 61 #[.slice a n c, .int .i64 k] w fun e w' => e = .returned (.int .i64 (k + (n : Int))) ∧ IntsAt w' a (marksI k n) ∧ Touch (fun g => a = some ⟨g, 0, none⟩ ∧ B ≤ g) w w' := by
  rcases h with ⟨rfl, rfl⟩ | ⟨g, rfl, hB, h2, h3⟩
  · go_enter Try.func61, Try.ntmps61
    go_wp2
    go_loop [1, 5] (fun v i => i = .int .i64 0 ∧ v = .int .i64 k) (fun _ i => 0)
    case atStart => exact ⟨rfl, rfl⟩
    case round =>
      obtain ⟨rfl, rfl⟩ := hrel
      go_wp2
      go_ret
      exact ⟨by simp [Act.eval], fun i x hx => by simp [marksI] at hx, Touch.refl _ _⟩
  · refine (markInt64S_any g 0 c n k w h3 hn h0 h1).mono ?_
    rintro e w' ⟨rfl, hI, hT⟩
    exact ⟨rfl, hI, hT.mono (fun j hj => by subst hj; exact ⟨rfl, hB⟩)⟩

/-- What marks a member holds. -/
def FtlMarked (w : World) (a : Option Addr) (out : List Bk) (ma : Option Addr) (mn : Nat) : Prop := BlocksAt w a (markBs 1 out) ∧ IntsAt w ma (marksI (kAfter 1 out) mn)
theorem FtlMarked.below {w w' : World} {a : Option Addr} {out : List Bk} {ma : Option Addr} {mn : Nat} (h : FtlMarked w a out ma mn) (hb : Below w.heap.size w w') : FtlMarked w' a out ma mn :=
  ⟨h.1.below hb (Nat.le_refl _), h.2.below hb (Nat.le_refl _)⟩

theorem ChipOwn.apart {S : Nat → Prop} {w w' : World} {B K : Nat} {a : Option Addr} {n c : Nat} {out : List Bk} (h : ChipOwn w B K a n c out) (hT : Touch S w w') (hS : ∀ k, S k → ¬ (B ≤ k ∧ k < K)) : ChipOwn w' B K a n c out := by
  obtain ⟨hl, h0 | ⟨g, H, rfl, h1, h2, h3, hO⟩⟩ := h
  · exact ⟨hl, .inl h0⟩
  · refine ⟨hl, .inr ⟨g, H, rfl, h1, h2, h3, hO.row.of_block (hT.block g hO.row.lt (fun hs => hS g hs ⟨h1, h2⟩)), fun i b hb => ?_, hO.ahead, hO.order⟩⟩
    have hi : i < n := by have := (List.getElem?_eq_some_iff.1 hb).1; omega
    have := h3 i hi
    exact World.rowIs.of_block (hO.pages i b hb) (hT.block (H i) (World.rowIs.lt (hO.pages i b hb)) (fun hs => hS _ hs ⟨by omega, this.2⟩))
theorem markChip_own2 {B K : Nat} (a : Option Addr) (n c : Nat) (out : List Bk) (w : World) (h : ChipOwn w B K a n c out) (hn : Lens 1048576 out) (h1 : kAfter 1 out ≤ 1125899906842624) :
    Calls Try.prog 54 #[.agg #[.slice a n c], .int .i64 1] w fun e w' => e = .returned (.int .i64 (kAfter 1 out)) ∧ ChipOwn w' B K a n c (markBs 1 out) ∧ Touch (fun k => B ≤ k ∧ k < K) w w' := by
  obtain ⟨hl, ⟨rfl, rfl, rfl⟩ | ⟨g, H, rfl, hB, hK, hH, hO⟩⟩ := h
  · have h0 : out = [] := List.length_eq_zero_iff.1 hl
    subst h0
    refine (markChip_nil 1 w).mono ?_
    rintro e w' ⟨rfl, hB⟩
    exact ⟨rfl, ⟨rfl, .inl ⟨rfl, rfl, rfl⟩⟩, Touch.of_below hB⟩
  · refine (markChip_n g H c out hl 1 w hO hn (by omega) h1).mono ?_
    rintro e w' ⟨rfl, hO2, hT⟩
    refine ⟨rfl, ⟨by rw [markBs_length, hl], .inr ⟨g, H, rfl, hB, hK, hH, hO2⟩⟩, hT.mono fun k hk => ?_⟩
    rcases hk with rfl | ⟨i, hi, rfl⟩
    · exact ⟨hB, hK⟩
    · have := hH i hi
      exact ⟨by omega, this.2⟩

set_option maxRecDepth 100000 in
set_option maxHeartbeats 2000000 in
theorem markFtl_own {B T : Nat} (a : Option Addr) (n c : Nat) (out : List Bk) (ma : Option Addr) (mn mc : Nat) (L : List Int) (seq o : Int) (w : World) (h : FtlOwn w B T a n c out ma mn L) (hTw : T ≤ w.heap.size) (hn : Lens 1048576 out) (hmn : mn ≤ 1048576) (h1 : kAfter 1 out + mn ≤ 1125899906842624) :
    Calls Try.prog 46 #[.agg #[.slice a n c, .slice ma mn mc, .int .i64 seq, .int .i64 o], .int .i64 1] w fun e w' => e = .returned (.int .i64 (kAfter 1 out + (mn : Int))) ∧ FtlMarked w' a out ma mn ∧ Touch (fun k => B ≤ k ∧ k < T) w w' := by
  obtain ⟨hL, hI, hM, hMT, C, K, hBC, hC, hKw, hne⟩ := h
  have hk1 : 1 ≤ kAfter 1 out := kAfter_le out 1
  have hb0 : ∀ o, Below w.heap.size w (w.alloc o) := fun o => (Below.refl _ w).alloc (Nat.le_refl _) _
  have hC0 := fun o => hC.below (hb0 o)
  have HM := hide (fun o => hM.below (hb0 o))
  have HMB : Hid (∀ g, ma = some ⟨g, 0, none⟩ → B ≤ g ∧ g < T) := fun g hg => by
    have h9 := hMT g hg
    rcases hM with ⟨rfl, _⟩ | ⟨g', hg', h1, h2, _⟩
    · cases hg
    · rw [hg] at hg'; cases hg'; exact ⟨h1, h9⟩
  have HNE := hide hne
  have HKA := hide h1
  obtain ⟨q, hq⟩ : ∃ q, q = kAfter 1 out := ⟨_, rfl⟩
  have HQ := hide hq
  clear hI hC hne hM hMT
  go_enter Try.func46, Try.ntmps46
  go_wp2_with fail
  refine (markChip_own2 a n c out _ (hC0 _) hn (by omega)).mono ?_
  rintro e w1 ⟨rfl, hMk, hT⟩
  rw [← hq] at h1 hk1 ⊢
  have hs1 := hT.size
  simp at hs1
  have hx1 : w1.cell? ⟨w.heap.size, 1, none⟩ = some (.slice ma mn mc) := by
    rw [World.cell?_of_block (w := w.alloc _) (a := ⟨w.heap.size, 1, none⟩) (hT.block w.heap.size (by simp) (fun hs => by omega))]
    simp
  have HM1 := hide ((unhide HM _).touch' hT (fun g hg hs => unhide HNE g hg hs))
  have HT := hide hT
  have HMK := hide hMk
  clear hT hMk hC0 HM hq
  go_wp2_with fail
  refine (markIntsK_any ma mc mn B q _ (unhide HM1) hmn (by omega) (by omega)).mono ?_
  rintro e w2 ⟨rfl, hI2, hT2⟩
  have HI2 := hide hI2
  have HC2 := hide ((unhide HMK).apart hT2 (fun k hk hs => unhide HNE k hk.1 hs))
  have hTT : Touch (fun k => B ≤ k ∧ k < T) w w2 := by
    have t0 : Touch (fun k => B ≤ k ∧ k < T) w (w.alloc (.cells #[.slice a n c, .slice ma mn mc, .int .i64 seq, .int .i64 o] 44)) := Touch.of_below (hb0 _)
    exact (t0.trans ((unhide HT).mono (fun k hk => ⟨by omega, by omega⟩))).trans (hT2.mono (fun k hk => unhide HMB k hk.1))
  clear hI2 hT2 hx1
  go_wp2
  go_ret
  refine ⟨by rw [← unhide HQ]; rfl, ⟨(unhide HC2).blocksAt, ?_⟩, hTT⟩
  rw [← unhide HQ]
  exact unhide HI2

end Go.Proofs.Ytimencianaclmaa

/- The program's arrays of a chip, and whether it is right. -/
namespace Go.Proofs.Ytimencianaclmaa
open Go.RowKit
set_option linter.unusedVariables false
set_option linter.unusedSimpArgs false

/-- The call has told a chip's arrays, or that it is not right. -/
def CellsOf (bs : List Bk) (e : Ending) : Prop := ∃ (m : CC) (r : Bool), e = .returned (.tuple #[.agg (ccA m), .bool r]) ∧ (r = true ↔ ChipOk bs) ∧ (r = true → m.count = bs.length ∧ ccBs m bs.length = bs)
theorem CellsOf.no {bs : List Bk} (h : ¬ ChipOk bs) : CellsOf bs (.returned (.tuple #[.agg Try.zeroCells109, .bool false])) :=
  ⟨newCC 0, false, by rw [zeroCC], by simp [h], by simp⟩
theorem CellsOf.yes {bs : List Bk} (h : ChipOk bs) (m : CC) (h1 : m.count = bs.length) (h2 : ccBs m bs.length = bs) : CellsOf bs (.returned (.tuple #[.agg (ccA m), .bool true])) :=
  ⟨m, true, rfl, by simp [h], fun _ => ⟨h1, h2⟩⟩

theorem zeroCC_one : ∀ v ∈ Try.zeroCells109.toList, v.oneCell' = true := by rw [zeroCC]; exact ccA_one _
theorem zeroCC_size : Try.zeroCells109.size = 205 := by rw [zeroCC]; exact ccA_size _
theorem sizeBC : (Try.prog.info? 106).map (·.size) = some 17 := by kernel_rfl

/-- What is known of the blocks ahead of b. -/
def Known (bs : List Bk) (b : Nat) (m : CC) : Prop := ∀ j x, j < b → bs[j]? = some x → x = ⟨m.wear j, ccPs m j⟩ ∧ BcOk (m.wear j) (m.page j)

theorem Known.bs {bs : List Bk} {n : Nat} {m : CC} (h : Known bs n m) (hn : bs.length = n) : ccBs m n = bs := by
  apply List.ext_getElem?
  intro i
  by_cases hi : i < n
  · obtain ⟨x, hx⟩ := getElem?_ex (l := bs) (k := i) (by omega)
    rw [ccBs_at m hi, hx, (h i x hi hx).1]
  · rw [List.getElem?_eq_none (by rw [ccBs_length]; omega), List.getElem?_eq_none (by omega)]

theorem bkOk_iff {x : Bk} (h4 : x.pages.length = 4) : BkOk x ↔ BcOk x.wear (pagesF x.pages) := by
  obtain ⟨v, ps⟩ := x
  constructor
  · intro h
    obtain ⟨_, h1, h2, h3⟩ := BkOk.of_four.1 h
    exact ⟨h1, h2, h3⟩
  · intro h
    exact BkOk.of_four.2 ⟨h4, h.wear, h.page, h.order⟩

theorem Known.step {bs : List Bk} {b : Nat} {m : CC} (h : Known bs b m) {x : Bk} (hx : bs[b]? = some x) (h4 : x.pages.length = 4) (hok : BcOk x.wear (pagesF x.pages)) : Known bs (b + 1) ((m.setWear b x.wear).setPages b (pagesF x.pages)) := by
  intro j y hj hy
  by_cases e : j = b
  · subst e
    rw [hx] at hy
    cases hy
    refine ⟨?_, ?_⟩
    · obtain ⟨v, ps⟩ := x
      simp only [CC.setWear, CC.setPages, ccPs, if_pos]
      rw [pagesF_list h4]
    · simpa only [CC.setWear, CC.setPages, if_pos] using hok
  · have := h j y (by omega) hy
    simpa only [CC.setWear, CC.setPages, ccPs, if_neg e] using this

theorem Known.block {bs : List Bk} {n : Nat} {m : CC} (h : Known bs n m) (hn : bs.length = n) : ∀ x ∈ bs, BkOk x := by
  intro x hx
  obtain ⟨j, hj, rfl⟩ := List.getElem_of_mem hx
  obtain ⟨h1, h2⟩ := h j bs[j] (by omega) (by simp [hj])
  rw [h1]
  refine BkOk.of_four.2 ⟨rfl, h2.wear, fun k hk => ?_, fun k hk => ?_⟩
  · have : pagesF (ccPs m j) k = m.page j k := by simp only [pagesF]; rw [ccPs_at m j hk]; rfl
    rw [this]
    exact h2.page k hk
  · have e1 : pagesF (ccPs m j) k = m.page j k := by simp only [pagesF]; rw [ccPs_at m j (by omega)]; rfl
    have e2 : pagesF (ccPs m j) (k + 1) = m.page j (k + 1) := by simp only [pagesF]; rw [ccPs_at m j hk]; rfl
    rw [e1, e2]
    exact h2.order k hk

theorem usedSeqs_all (m : CC) (n : Nat) : usedSeqs (usedAll m n) = seqs (ccBs m n) := by
  unfold usedSeqs usedAll seqs ccBs
  rw [List.map_flatMap, List.flatMap_map]
  congr 1
  funext b
  rw [ccPs_filter]
  simp [usedB, List.map_map]

theorem Known.ok {bs : List Bk} {n : Nat} {m : CC} (h : Known bs n m) (hn : bs.length = n) (h1 : 4 ≤ n) (h2 : n ≤ 12) : ChipOk bs ↔ (usedSeqs (usedAll m n)).Nodup := by
  rw [usedSeqs_all, h.bs hn]
  exact ⟨fun hc => hc.nodup, fun hc => ⟨by omega, h.block hn, hc⟩⟩

set_option maxRecDepth 100000 in
theorem cellsOf_few (a : Option Addr) (c : Nat) (bs : List Bk) (w : World) (hl : bs.length ≤ 9223372036854775807) (h : ¬ (4 ≤ bs.length ∧ bs.length ≤ 12)) :
    Calls Try.prog 69 #[.agg #[.slice a bs.length c]] w fun e w' => CellsOf bs e ∧ Below w.heap.size w w' := by
  have hst := fun o => store_same Try.prog ((w.alloc o).alloc (.cells Try.zeroCells109 109)) (w.heap.size + 1) 109 Try.zeroCells109 (heap_alloc2_new _ _ _) zeroCC_one
  have hno : ¬ ChipOk bs := fun hc => h hc.count
  go_enter Try.func69, Try.ntmps69
  go_wp2_with fail
  refine (isBlockCount_any _ _).mono ?_
  rintro e w1 ⟨rfl, rfl⟩
  have hd : decide (4 ≤ (bs.length : Int) ∧ (bs.length : Int) ≤ 12) = false := by simp; omega
  rw [hd]
  go_wp2
  have hld := fun o => run_loadVar_row (P := Try.prog) ((w.alloc o).alloc (.cells Try.zeroCells109 109)) (w.heap.size + 1) 109 109 Try.zeroCells109 (0, 0) _ (heap_alloc2_new _ _ _) Try.underlying109 rfl (by rw [zeroCC_size]; exact sizeCC')
  refine bodyPost_ret (v := .tuple #[.agg Try.zeroCells109, .bool false]) (results_cell_slot 2 109 3 Try.results69 _ _ _ _ _ rfl (hld _) rfl) rfl ⟨CellsOf.no hno, ?_⟩
  repeat (first | exact Below.refl _ _ | refine Below.drew ?_ | refine Below.alloc ?_ (by simp <;> omega) _ | refine Below.setCell ?_ (by simp <;> omega) _)

set_option maxRecDepth 100000 in
set_option maxHeartbeats 2000000 in
theorem cellsOf_many (a : Option Addr) (c : Nat) (bs : List Bk) (w : World) (hbs : BlocksAt w a bs) (hpl : ∀ b ∈ bs, b.pages.length ≤ 9223372036854775807) (n : Nat) (hn : bs.length = n) (h1 : 4 ≤ n) (h2 : n ≤ 12) :
    Calls Try.prog 69 #[.agg #[.slice a n c]] w fun e w' => CellsOf bs e ∧ Below w.heap.size w w' := by
  have hst := fun o o2 => storeNew Try.prog ((w.alloc o).alloc o2) (w.heap.size + 1 + 1) (by simp) Try.zeroCells109 109 (Try.zeroCells109.toList.set 0 (.int .i64 n)) (by simp) (by rw [setCC]; exact ccA_one _)
  rw [setCC] at hst
  simp only [Array.toArray_toList] at hst
  rw [← setCC] at hst
  go_enter Try.func69, Try.ntmps69
  go_wp2_with fail
  refine (isBlockCount_any _ _).mono ?_
  rintro e w1 ⟨rfl, rfl⟩
  have hd : decide (4 ≤ (n : Int) ∧ (n : Int) ≤ 12) = true := by simp; omega
  rw [hd]
  go_wp2
  clear hst hd
  go_loopw [20] (fun i wr => ∃ (b : Nat) (m : CC), b ≤ n ∧ i = .int .i64 b ∧ wr.heap[w.heap.size + 1 + 1]? = some (.cells (ccA m) 109 (0, 0)) ∧ wr.heap[w.heap.size + 1]? = some (.cells Try.zeroCells109 109 (0, 0)) ∧ m.count = n ∧ Known bs b m ∧ Below w.heap.size w wr) (fun i _ => n - (intOf i).toNat)
  case atStart =>
    refine ⟨0, newCC n, Nat.zero_le _, rfl, ?_, ?_, rfl, fun j x hj => absurd hj (Nat.not_lt_zero _), ?_⟩
    · simpa using Go.Deep.blk_alloc_new ((w.alloc (.cells #[.slice a n c] 26)).alloc (.cells Try.zeroCells109 109)) (.cells (ccA (newCC n)) 109)
    · rw [Below.heap_alloc _ _ _ (by simp)]
      exact heap_alloc2_new _ _ _
    · exact (((Below.refl _ w).alloc (Nat.le_refl _) _).alloc (by simp) _).alloc (by simp; omega) _
  case round =>
    obtain ⟨b, m, hb, rfl, hrow, hzero, hcount, hkn, hB⟩ := hrel
    have hlts := (Array.getElem?_eq_some_iff.1 hrow).1
    by_cases hlt : b < n
    · obtain ⟨x, hx⟩ := getElem?_ex (l := bs) (k := b) (by omega)
      obtain ⟨g, o, pa, pc, rfl, hcw0, hcp0, hpa⟩ := hbs b x hx
      have hgl : g < w.heap.size := World.block_lt_of_cell? _ _ hcw0
      have hcw := (hB.cell (p := ⟨g, o + b * 2, none⟩) hgl).trans hcw0
      have hcp := (hB.cell (p := ⟨g, o + b * 2 + 1, none⟩) hgl).trans hcp0
      clear hcw0 hcp0
      have hxl := hpl x (List.mem_of_getElem? hx)
      by_cases h4 : x.pages.length = 4
      · rw [h4] at hcp
        have hb12 : b < 12 := by omega
        have hbi : (b : Int) < 12 := by omega
        obtain ⟨bx, hbx⟩ : ∃ bx : Obj, bx = .cells #[.int .i64 x.wear, .slice pa 4 pc] 38 := ⟨_, rfl⟩
        have hc0 : wr.cell? ⟨w.heap.size + 1 + 1, 1 + b * 17, none⟩ = some (.int .i64 (m.wear b)) := (cell_of_row _ _ _ _ _ _ hrow).trans (ccA_wear m hb12)
        have hf0 := frozen_of_row _ _ (1 + b * 17) _ _ hrow
        obtain ⟨W1, hW1⟩ : ∃ W1, W1 = (wr.setCell ⟨w.heap.size + 1 + 1, 1 + b * 17, none⟩ (.int .i64 x.wear)).alloc bx := ⟨_, rfl⟩
        have hrow2 : W1.drew.heap[w.heap.size + 1 + 1]? = some (.cells (ccA (m.setWear b x.wear)) 109 (0, 0)) := by
          rw [hW1, ← ccA_setWear m b x.wear hb12]
          exact (Below.heap_alloc _ _ _ (by simpa [World.setCell] using hlts)).trans (blk_setCell_same _ _ hrow)
        have hzero2 : W1.drew.heap[w.heap.size + 1]? = some (.cells Try.zeroCells109 109 (0, 0)) := by
          rw [hW1]
          exact ((Below.heap_alloc _ _ _ (by simp [World.setCell]; omega)).trans (Below.heap_setCell _ _ _ _ (by simp))).trans hzero
        have hB1 : Below w.heap.size w W1.drew := by
          rw [hW1]
          exact ((hB.setCell (by simp; omega) _).alloc (by simpa [World.setCell] using hB.size) _).drew
        have hcpy := copy_mid Try.prog W1.drew 36 36 3 28 (w.heap.size + 1 + 1) 109 (m.setWear b x.wear) b hb12 pa pc x.pages h4 (hpa.below hB1 (Nat.le_refl _)) Try.underlying36 sizePage hrow2
        obtain ⟨m2, hm2⟩ : ∃ m2, m2 = (m.setWear b x.wear).setPages b (pagesF x.pages) := ⟨_, rfl⟩
        rw [← hm2] at hcpy
        obtain ⟨W2, hW2⟩ : ∃ W2, W2 = W1.drew.setRow (w.heap.size + 1 + 1) (ccA m2) := ⟨_, rfl⟩
        rw [← hW2] at hcpy
        have hrow3 : W2.heap[w.heap.size + 1 + 1]? = some (.cells (ccA m2) 109 (0, 0)) := by rw [hW2]; exact setRow_heap _ _ _ _ _ _ hrow2
        have hzero3 : W2.heap[w.heap.size + 1]? = some (.cells Try.zeroCells109 109 (0, 0)) := by rw [hW2, setRow_other _ _ _ _ (by omega)]; exact hzero2
        have hB2 : Below w.heap.size w W2 := by rw [hW2]; exact Below.setRow hB1 (by omega) _
        have hlts2 := (Array.getElem?_eq_some_iff.1 hrow3).1
        have hblk : ∀ j, j < 17 → W2.cell? ⟨w.heap.size + 1 + 1, 1 + b * 17 + j, none⟩ = (bcA x.wear (pagesF x.pages))[j]? := fun j hj => by
          rw [cell_of_row _ _ _ _ _ _ hrow3, ccA_block m2 hb12 hj, hm2]
          simp [CC.setWear, CC.setPages]
        rw [hW1, hbx] at hcpy
        have HK := hide hkn
        have HB := hide hblk
        have HR := hide (And.intro hrow3 hzero3)
        clear hpa hkn hbs hrow2 hrow hzero hzero2 hblk hrow3 hzero3 hW2 hW1 hbx hB1
        go_wp2
        go_region
        clear hcpy
        go_wp2_with (refine wpList_load_mid rfl 106 _ rfl (w.heap.size + 1 + 1) (1 + b * 17) rfl (bcA x.wear (pagesF x.pages)) 17 (bcA_size _ _) (unhide HB) _ Try.underlying106 rfl sizeBC ?_)
        refine (right_any _ _ _).mono ?_
        rintro e w3 ⟨⟨r, rfl, hr⟩, hb3⟩
        have hzero4 : w3.heap[w.heap.size + 1]? = some (.cells Try.zeroCells109 109 (0, 0)) := (hb3.block _ (by omega)).trans (unhide HR).2
        have hB4 : Below w.heap.size w w3 := hB2.trans (hb3.mono hB2.size)
        cases r with
        | true =>
          have hok := hr.1 rfl
          have hkn2 : Known bs (b + 1) m2 := by rw [hm2]; exact (unhide HK).step hx h4 hok
          have hrow4 : w3.heap[w.heap.size + 1 + 1]? = some (.cells (ccA m2) 109 (0, 0)) := (hb3.block _ (by omega)).trans (unhide HR).1
          have hct : m2.count = n := by rw [hm2]; exact hcount
          have HH := hide (And.intro hkn2 (And.intro hrow4 (And.intro hct (And.intro hzero4 hB4))))
          clear hkn2 hrow4 hct hzero4 hB4 hr hok hm2
          go_wp2
          go_roundw
          case rel =>
            obtain ⟨q1, q2, q3, q4, q5⟩ := unhide HH
            exact ⟨b + 1, m2, by omega, by go_num, q2, q4, q3, q1, q5⟩
          case measure => simp [intOf]; omega
        | false =>
          have hstF := store_same Try.prog w3 (w.heap.size + 1) 109 Try.zeroCells109 hzero4 zeroCC_one
          have hldF := run_loadVar_row (P := Try.prog) w3 (w.heap.size + 1) 109 109 Try.zeroCells109 (0, 0) _ hzero4 Try.underlying109 rfl (by rw [zeroCC_size]; exact sizeCC')
          have HL := hide hldF
          have hno : ¬ ChipOk bs := fun hc => by
            have := hr.2 ((bkOk_iff h4).1 (hc.block x (List.mem_of_getElem? hx)))
            cases this
          have HN := hide hno
          clear hldF hno hzero4 hr hm2
          go_wp2
          exact bodyPost_ret (results_cell_slot 2 109 3 Try.results69 _ _ _ _ _ rfl (unhide HL) rfl) rfl ⟨CellsOf.no (unhide HN), hB4⟩
      · have hstF := fun o' => store_same Try.prog (wr.alloc o') (w.heap.size + 1) 109 Try.zeroCells109 ((Below.heap_alloc wr o' (w.heap.size + 1) (by omega)).trans hzero) zeroCC_one
        have hldF := fun o' => run_loadVar_row (P := Try.prog) (wr.alloc o') (w.heap.size + 1) 109 109 Try.zeroCells109 (0, 0) _ ((Below.heap_alloc wr o' (w.heap.size + 1) (by omega)).trans hzero) Try.underlying109 rfl (by rw [zeroCC_size]; exact sizeCC')
        have HL := hide hldF
        have HP := hide hpa
        have HK := hide hkn
        have hno : ¬ ChipOk bs := fun hc => h4 (hc.block x (List.mem_of_getElem? hx)).four
        have HN := hide hno
        clear hpa hkn hbs hldF hno
        go_wp2
        exact bodyPost_ret (results_cell_slot 2 109 3 Try.results69 _ _ _ _ _ rfl (unhide HL _) rfl) rfl ⟨CellsOf.no (unhide HN), hB.alloc hB.size _⟩
    · have hbn : b = n := by omega
      subst hbn
      have HK := hide hkn
      clear hkn hbs
      have hokk := (unhide HK).ok hn h1 h2
      have hbss := (unhide HK).bs hn
      clear HK
      have HO := hide hokk
      have HS := hide hbss
      clear hokk hbss
      go_wp2_with fail
      refine wp_load_row 109 _ rfl (w.heap.size + 1 + 1) rfl 109 (ccA m) (0, 0) _ hrow Try.underlying109 rfl (sizeCC _) ?_
      go_wp2_with fail
      refine (seqsDiffer_any m b hcount h2 _).mono ?_
      rintro e w3 ⟨⟨r, rfl, hr⟩, hb3⟩
      have hzero4 : w3.heap[w.heap.size + 1]? = some (.cells Try.zeroCells109 109 (0, 0)) := (hb3.block _ (by omega)).trans hzero
      have hrow4 : w3.heap[w.heap.size + 1 + 1]? = some (.cells (ccA m) 109 (0, 0)) := (hb3.block _ (by omega)).trans hrow
      have hB4 : Below w.heap.size w w3 := hB.trans (hb3.mono hB.size)
      clear hrow hzero hB
      cases r with
      | true =>
        have hstT := store_row Try.prog w3 (w.heap.size + 1) 109 Try.zeroCells109 (ccA m) hzero4 (by rw [zeroCC_size, ccA_size]) (ccA_one m)
        have hldT := run_loadVar_row (P := Try.prog) (w3.setRow (w.heap.size + 1) (ccA m)) (w.heap.size + 1) 109 109 (ccA m) (0, 0) _ (setRow_heap _ _ _ _ _ _ hzero4) Try.underlying109 rfl (sizeCC _)
        have hB5 : Below w.heap.size w (w3.setRow (w.heap.size + 1) (ccA m)) := Below.setRow hB4 (by omega) _
        obtain ⟨W5, hW5⟩ : ∃ W5, W5 = w3.setRow (w.heap.size + 1) (ccA m) := ⟨_, rfl⟩
        rw [← hW5] at hstT hldT hB5
        clear hW5
        have HL := hide hldT
        have HR := hide hrow4
        have hyes : ChipOk bs := (unhide HO).2 (hr.1 rfl)
        have HY := hide hyes
        clear hldT hr hzero4 hrow4 hB4 hyes
        have HSZ := hide (sizeCC m)
        have hfin : ∀ A, A = ccA m → CellsOf bs (.returned (.tuple #[.agg A, .bool true])) := fun A hA => by
          subst hA
          have hS := unhide HS
          rw [← hn] at hcount hS
          exact CellsOf.yes (unhide HY) m hcount hS
        obtain ⟨A, hA⟩ : ∃ A, A = ccA m := ⟨_, rfl⟩
        have hF := hfin A hA
        have hAs : A.size = 205 := by rw [hA]; exact ccA_size m
        rw [← hA] at hstT HL HR HSZ ⊢
        clear hfin hA
        go_wp2_with fail
        refine wp_load_row 109 _ rfl (w.heap.size + 1 + 1) rfl 109 A (0, 0) _ (unhide HR) Try.underlying109 rfl (unhide HSZ) ?_
        go_wp2
        exact bodyPost_ret (results_cell_slot 2 109 3 Try.results69 _ _ _ _ _ rfl (unhide HL) rfl) rfl ⟨hF, hB5⟩
      | false =>
        have hstF := store_same Try.prog w3 (w.heap.size + 1) 109 Try.zeroCells109 hzero4 zeroCC_one
        have hldF := run_loadVar_row (P := Try.prog) w3 (w.heap.size + 1) 109 109 Try.zeroCells109 (0, 0) _ hzero4 Try.underlying109 rfl (by rw [zeroCC_size]; exact sizeCC')
        have HL := hide hldF
        have hno : ¬ ChipOk bs := fun hc => by
          have := hr.2 ((unhide HO).1 hc)
          cases this
        have HN := hide hno
        clear hldF hno hzero4 hr hrow4
        generalize ccA m = A
        go_wp2
        exact bodyPost_ret (results_cell_slot 2 109 3 Try.results69 _ _ _ _ _ rfl (unhide HL) rfl) rfl ⟨CellsOf.no (unhide HN), hB4⟩

theorem cellsOf_any (a : Option Addr) (c : Nat) (bs : List Bk) (w : World) (hbs : BlocksAt w a bs) (hl : Lens 9223372036854775807 bs) :
    Calls Try.prog 69 #[.agg #[.slice a bs.length c]] w fun e w' => CellsOf bs e ∧ Below w.heap.size w w' := by
  by_cases h : 4 ≤ bs.length ∧ bs.length ≤ 12
  · exact cellsOf_many a c bs w hbs hl.2 _ rfl h.1 h.2
  · exact cellsOf_few a c bs w hl.1 h

theorem store_cc (m : CC) (W : World) : (storeCells ⟨W.heap.size, 0, none⟩ (ccA m).toList).run Try.prog (W.alloc (.cells Try.zeroCells109 109)) = .ok () (W.alloc (.cells (ccA m) 109)) := by
  have := storeNew Try.prog W W.heap.size rfl Try.zeroCells109 109 (ccA m).toList (by rw [Array.length_toList, ccA_size, zeroCC_size]) (ccA_one m)
  simpa only [Array.toArray_toList] using this

set_option maxRecDepth 100000 in
theorem implChipOk_any (a : Option Addr) (c : Nat) (bs : List Bk) (w : World) (hbs : BlocksAt w a bs) (hl : Lens 9223372036854775807 bs) :
    Calls Try.prog 17 #[.agg #[.slice a bs.length c]] w fun e w' => RetIff (ChipOk bs) e ∧ Below w.heap.size w w' := by
  go_enter Try.func17, Try.ntmps17
  go_wp2_with fail
  have hb0 : ∀ o, Below w.heap.size w (w.alloc o) := fun o => (Below.refl _ w).alloc (Nat.le_refl _) _
  refine (cellsOf_any a c bs _ (hbs.below (hb0 _) (Nat.le_refl _)) hl).mono ?_
  rintro e w1 ⟨⟨m, r, rfl, hr, _⟩, hB⟩
  have HR := hide hr
  clear hr
  have hsc := store_cc m w1
  have hAs := ccA_size m
  generalize ccA m = A at hsc hAs
  go_wp2
  go_ret
  exact ⟨⟨r, rfl, unhide HR⟩, ((hb0 _).trans (hB.mono (by simp))).alloc (by have := hB.size; simp at this; omega) _⟩
end Go.Proofs.Ytimencianaclmaa

/- The program's NextOf. -/
namespace Go.Proofs.Ytimencianaclmaa
open Go.RowKit
set_option linter.unusedVariables false
set_option linter.unusedSimpArgs false

set_option maxRecDepth 100000 in
set_option maxHeartbeats 1000000 in
theorem next_any (x : Int) (f : Nat → Pg) (w : World) :
    Calls Try.prog 78 #[.agg (bcA x f)] w fun e w' => ∃ r : Int, e = .returned (.int .i64 r) ∧ NextIs (fun k => (f k).used) 4 r ∧ Below w.heap.size w w' := by
  go_enter Try.func78, Try.ntmps78
  go_wp2_with (refine wpList_load_mid rfl 104 _ rfl w.heap.size 1 rfl (paA f) 16 (paA_size f) (fun j hj => by simp; rw [bcA_page x f hj, paA_get f hj]) _ Try.underlying104 rfl sizePages ?_)
  go_loopw [7] (fun i wr => ∃ (k : Nat), k ≤ 4 ∧ i = .int .i64 k ∧ (∀ t, t < k → (f t).used = true) ∧ Below (w.heap.size + 1) (w.alloc (.cells (bcA x f) 106)) wr) (fun i _ => 4 - (intOf i).toNat)
  case atStart => exact ⟨0, by omega, rfl, fun t ht => absurd ht (Nat.not_lt_zero _), Below.refl _ _⟩
  case round =>
    obtain ⟨k, hk, rfl, h1, hB⟩ := hrel
    have hsz := hB.size
    simp at hsz
    have hout : ∀ W, Below wr.heap.size wr W → Below w.heap.size w W := fun W hW => ((((Below.refl _ w).alloc (Nat.le_refl _) _).trans (hB.mono (by omega))).trans (hW.mono (by omega)))
    by_cases hlt : k < 4
    · have hidx := fun W => run_index_pages (P := Try.prog) W 104 28 f k hlt Try.underlying104 _ Try.underlying28 rfl sizePage
      obtain ⟨p, hp⟩ : ∃ p, f k = p := ⟨_, rfl⟩
      rw [hp] at hidx
      obtain ⟨u, l, s, d⟩ := p
      simp only at hidx
      have hk4 : (k : Int) < 4 := by omega
      have HP := hide hp
      have H1 := hide h1
      clear h1 hp
      cases u with
      | true =>
        go_wp2
        go_roundw
        case rel =>
          refine ⟨k + 1, by omega, by go_num, fun t ht => ?_, hB.alloc (by omega) _⟩
          by_cases e : t = k
          · subst e; rw [unhide HP]
          · exact unhide H1 t (by omega)
        case measure => simp [intOf]; omega
      | false =>
        go_wp2
        go_ret
        exact ⟨_, rfl, .inl ⟨k, hlt, by go_num, by show (f k).used = false; rw [unhide HP], unhide H1⟩, hout _ ((Below.refl _ _).alloc (Nat.le_refl _) _)⟩
    · have hk4 : k = 4 := by omega
      subst hk4
      have H1 := hide h1
      clear h1
      go_wp2
      go_ret
      exact ⟨_, rfl, .inr ⟨rfl, unhide H1⟩, hout _ (Below.refl _ _)⟩

set_option maxRecDepth 100000 in
theorem has_any (A : Array Value) (n : Int) (hA : A[0]? = some (.int .i64 n)) (h0 : 0 ≤ n) (h1 : n ≤ 12) (blk : Int) (w : World) :
    Calls Try.prog 77 #[.agg A, .int .i64 blk] w fun e w' => e = .returned (.bool (decide (0 ≤ blk ∧ blk ≤ n - 1))) ∧ Below w.heap.size w w' := by
  go_enter Try.func77, Try.ntmps77
  go_wp2_with fail
  refine (within_any _ _ _ _).mono ?_
  rintro e w1 ⟨rfl, rfl⟩
  go_wp2
  go_ret
  exact ⟨by simp, (Below.refl _ w).alloc (Nat.le_refl _) _⟩

set_option maxRecDepth 100000 in
set_option maxHeartbeats 1000000 in
theorem implNextOf_any (a : Option Addr) (c : Nat) (bs : List Bk) (n : Nat) (hl : bs.length = n) (blk : Int) (w : World) (h : BlocksAt w a bs) (hn : Lens 9223372036854775807 bs) :
    Calls Try.prog 19 #[.agg #[.slice a n c], .int .i64 blk] w fun e w' => ∃ r : Int, e = .returned (.int .i64 r) ∧ NextOfIs bs blk r ∧ Below w.heap.size w w' := by
  subst hl
  have hb0 : ∀ o, Below w.heap.size w (w.alloc o) := fun o => (Below.refl _ w).alloc (Nat.le_refl _) _
  go_enter Try.func19, Try.ntmps19
  go_wp2_with fail
  refine (cellsOf_any a c bs _ (h.below (hb0 _) (Nat.le_refl _)) hn).mono ?_
  rintro e w1 ⟨⟨m, r, rfl, hr, hm⟩, hB1⟩
  have hW1 : Below w.heap.size w w1 := (hb0 _).trans (hB1.mono (by simp))
  have hs1 := hB1.size
  simp at hs1
  have hsc := store_cc m w1
  have hAs := ccA_size m
  have hA0 := ccA_count m
  have hAb := fun b i hb hi => ccA_block m (b := b) (i := i) hb hi
  have HSZ := hide (sizeCC m)
  have HR := hide hr
  have HM := hide hm
  generalize ccA m = A at hsc hAs hA0 hAb HSZ
  have HA0 := hide hA0
  have HAB := hide hAb
  clear hr hm hA0 hAb h hn hB1 hb0
  cases r with
  | false =>
    go_wp2
    go_ret
    exact ⟨_, rfl, .inl ⟨(fun hc => by have := (unhide HR).2 hc.1; cases this), rfl⟩, hW1.alloc hW1.size _⟩
  | true =>
    have hok := (unhide HR).1 rfl
    have hc12 := hok.count
    obtain ⟨hct, hbss⟩ := unhide HM rfl
    have HO := hide hok
    have HS := hide hbss
    have hA0 := unhide HA0
    rw [hct] at hA0
    have HA0' := hide hA0
    clear hok hbss hA0 HA0 HM
    go_wp2_with fail
    refine wp_load_row 109 _ rfl w1.heap.size rfl 109 A (0, 0) _ (Go.Deep.blk_alloc_new _ _) Try.underlying109 rfl (unhide HSZ) ?_
    clear hsc
    go_wp2_with fail
    refine (has_any A (bs.length : Int) (unhide HA0') (by omega) (by omega) blk _).mono ?_
    rintro e w2 ⟨rfl, hB2⟩
    have hs2 := hB2.size
    simp at hs2
    have hW2 : Below w.heap.size w w2 := (hW1.alloc hW1.size _).trans (hB2.mono (by simp; omega))
    by_cases hin : 0 ≤ blk ∧ blk ≤ (bs.length : Int) - 1
    · obtain ⟨k, rfl⟩ := Int.eq_ofNat_of_zero_le hin.1
      have hk12 : k < 12 := by omega
      have hki : (k : Int) < 12 := by omega
      have hd : decide ((0 : Int) ≤ (k : Int) ∧ (k : Int) ≤ (bs.length : Int) - 1) = true := by simp; omega
      rw [hd]
      have hblk : ∀ j, j < 17 → w2.cell? ⟨w1.heap.size, 1 + k * 17 + j, none⟩ = (bcA (m.wear k) (m.page k))[j]? := fun j hj => by
        rw [hB2.cell (p := ⟨w1.heap.size, 1 + k * 17 + j, none⟩) (by simp), cell_of_row _ _ _ _ _ _ (Go.Deep.blk_alloc_new _ _)]
        exact unhide HAB k j hk12 hj
      have HB := hide hblk
      have hkl : k < bs.length := by omega
      clear hblk hd hin hB2
      go_wp2_with (refine wpList_load_mid rfl 106 _ rfl w1.heap.size (1 + k * 17) rfl (bcA (m.wear k) (m.page k)) 17 (bcA_size _ _) (unhide HB) _ Try.underlying106 rfl sizeBC ?_)
      refine (next_any _ _ _).mono ?_
      rintro e w3 ⟨r, rfl, hr, hB3⟩
      have HR3 := hide hr
      have hW3 := hW2.trans (hB3.mono hW2.size)
      clear hr hB3
      go_wp2
      go_ret
      refine ⟨_, rfl, .inr ⟨⟨unhide HO, by omega, by omega⟩, ⟨m.wear k, ccPs m k⟩, ?_, ?_⟩, hW3⟩
      · have := ccBs_at m hkl
        rw [unhide HS] at this
        simpa using this
      · refine (unhide HR3).congr (fun t ht => ?_)
        show _ = (pagesF (ccPs m k) t).used
        simp only [pagesF]
        rw [ccPs_at m k ht]
        rfl
    · have hd : decide ((0 : Int) ≤ blk ∧ blk ≤ (bs.length : Int) - 1) = false := by simpa using hin
      rw [hd]
      have HIN := hide hin
      clear hin hd
      go_wp2
      go_ret
      exact ⟨_, rfl, .inl ⟨fun hc => unhide HIN hc.2, rfl⟩, hW2⟩
end Go.Proofs.Ytimencianaclmaa
