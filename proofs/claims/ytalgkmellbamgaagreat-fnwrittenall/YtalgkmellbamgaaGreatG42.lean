/- 4 texts in one. -/
import Derived.Test.YtalgkmellbamgaaGreatG26
import Derived.Test.YtalgkmellbamgaaGreatChecked
import Derived.Test.YtalgkmellbamgaaGreatG03
import Derived.WalkKit
import Derived.Outline
import Derived.Test.YtalgkmellbamgaaGreatG14
import Derived.Test.YtalgkmellbamgaaGreatG28
import Derived.BigQuiet
import Derived.Test.YtalgkmellbamgaaGreatG05

/- Whether a member is right: the program's FtlOk. -/
namespace Go.Proofs.YtalgkmellbamgaaGreat
open Go.RowKit
set_option linter.unusedVariables false
set_option linter.unusedSimpArgs false

set_option maxRecDepth 100000 in
set_option maxHeartbeats 1000000 in
theorem implFtlOk_any (a : Option Addr) (c : Nat) (bs : List Bk) (n : Nat) (hl : bs.length = n) (ma : Option Addr) (mc : Nat) (L : List Int) (mn : Nat) (hL : L.length = mn) (seq o : Int) (w : World) (h : BlocksAt w a bs) (hn : Lens 9223372036854775807 bs) (hI : IntsAt w ma L) (hmn : mn ≤ 9223372036854775807) :
    Calls Tryz.prog 13 #[.agg #[.slice a n c, .slice ma mn mc, .int .i64 seq, .int .i64 o]] w fun e w' => RetIff (FtlOk bs L seq o) e ∧ Below w.heap.size w w' := by
  have hb0 : ∀ o, Below w.heap.size w (w.alloc o) := fun o => (Below.refl _ w).alloc (Nat.le_refl _) _
  go_enter Tryz.func13, Tryz.ntmps13
  go_wp2_with fail
  refine (rightCells_any a c bs n hl ma mc L mn hL seq o _ (h.below (hb0 _) (Nat.le_refl _)) hn (hI.below (hb0 _) (Nat.le_refl _)) hmn).mono ?_
  rintro e w1 ⟨⟨m, r, rfl, hr, _⟩, hB⟩
  have HR := hide hr
  have hsc := store_cc m w1
  have hAs := ccA_size m
  clear hr h hI hn
  generalize ccA m = A at hsc hAs
  go_wp2
  go_ret
  exact ⟨⟨r, rfl, unhide HR⟩, ((hb0 _).trans (hB.mono (by simp))).alloc (by have := hB.size; simp at this; omega) _⟩
end Go.Proofs.YtalgkmellbamgaaGreat

/- The laws' own comparison of two lists of numbers. -/
namespace Go.Proofs.YtalgkmellbamgaaGreat
open Go.RowKit
set_option linter.unusedVariables false
set_option linter.unusedSimpArgs false

set_option maxHeartbeats 1000000 in
theorem sameInts_same (a1 a2 : Option Addr) (c1 c2 : Nat) (L : List Int) (n : Nat) (hl : L.length = n) (w : World) (h1 : IntsAt w a1 L) (h2 : IntsAt w a2 L) (hn : n ≤ 1048576) :
    Calls Tryz.prog 41 #[.slice a1 n c1, .slice a2 n c2] w fun e w' => e = .returned (.bool true) ∧ Below w.heap.size w w' := by
  go_enter Tryz.func41, Tryz.ntmps41
  go_wp2
  go_loopw [5] (fun i wr => ∃ k : Nat, k ≤ n ∧ i = .int .i64 k ∧ Below w.heap.size w wr) (fun i _ => n - (intOf i).toNat)
  case atStart => exact ⟨0, Nat.zero_le _, rfl, Below.refl _ _⟩
  case round =>
    obtain ⟨k, hk, rfl, hB⟩ := hrel
    by_cases hlt : k < n
    · obtain ⟨x, hx⟩ := getElem?_ex (l := L) (k := k) (by omega)
      obtain ⟨b1, o1, rfl, g1⟩ := (h1.below hB (Nat.le_refl _)) k x hx
      obtain ⟨b2, o2, rfl, g2⟩ := (h2.below hB (Nat.le_refl _)) k x hx
      have hne : (x != x) = false := by simp
      clear hx h1 h2 hl
      go_wp2
      go_region
      all_goals (
        go_wp2
        go_roundw
        case rel => exact ⟨k + 1, by omega, by go_num, hB.drew⟩
        case measure => simp [intOf]; omega)
    · go_wp2
      go_ret
      exact ⟨rfl, hB⟩

end Go.Proofs.YtalgkmellbamgaaGreat

/- Whether two chips are the same: the laws' own sameChip, over two that are. -/
namespace Go.Proofs.YtalgkmellbamgaaGreat
open Go.RowKit
set_option linter.unusedVariables false
set_option linter.unusedSimpArgs false

theorem below_drewN {B : Nat} {a w : World} (h : Below B a w) (n : Nat) : Below B a (w.drewN n) := ⟨h.os, h.tape, h.output, h.size, h.block⟩

set_option maxRecDepth 100000 in
set_option maxHeartbeats 2000000 in
theorem sameChip_same (a1 a2 : Option Addr) (c1 c2 : Nat) (bs : List Bk) (n : Nat) (hl : bs.length = n) (w : World) (h1 : BlocksAt w a1 bs) (h2 : BlocksAt w a2 bs) (hn : Lens 1048576 bs) :
    Calls Tryz.prog 42 #[.agg #[.slice a1 n c1], .agg #[.slice a2 n c2]] w fun e w' => e = .returned (.bool true) ∧ Below w.heap.size w w' := by
  have hn1 : n ≤ 1048576 := by have := hn.1; omega
  have HL := hide hl
  have HN := hide hn
  clear hl hn
  go_enter Tryz.func42, Tryz.ntmps42
  go_wp2_with fail
  obtain ⟨w0, hw0⟩ : ∃ w0, w0 = (w.alloc (.cells #[.slice a1 n c1] 26)).alloc (.cells #[.slice a2 n c2] 26) := ⟨_, rfl⟩
  have hW0 : Below w.heap.size w w0 := by rw [hw0]; exact ((Below.refl _ w).alloc (Nat.le_refl _) _).alloc (by simp) _
  have hs0 : w.heap.size + 1 < w0.heap.size := by rw [hw0]; simp
  have hx0 : w0.cell? ⟨w.heap.size, 0, none⟩ = some (.slice a1 n c1) := by
    rw [hw0, cell_alloc_lt _ _ _ _ (by simp)]
    simp
  have hy0 : w0.cell? ⟨w.heap.size + 1, 0, none⟩ = some (.slice a2 n c2) := by
    rw [hw0, cell_of_row _ _ 0 _ _ _ (heap_alloc2_new _ _ _)]
    rfl
  rw [← hw0]
  have H1 := hide (h1.below hW0 (Nat.le_refl _))
  have H2 := hide (h2.below hW0 (Nat.le_refl _))
  clear hw0 h1 h2
  go_wp2
  go_loopw [5] (fun i wr => ∃ k : Nat, k ≤ n ∧ i = .int .i64 k ∧ Below w0.heap.size w0 wr) (fun i _ => n - (intOf i).toNat)
  case atStart => exact ⟨0, Nat.zero_le _, rfl, Below.refl _ _⟩
  case round =>
    obtain ⟨k, hk, rfl, hB⟩ := hrel
    obtain ⟨w1, rfl⟩ : ∃ w1, w1 = wr := ⟨_, rfl⟩
    have hs1 := hB.size
    have hx1 := (hB.cell (p := ⟨w.heap.size, 0, none⟩) (by show w.heap.size < _; omega)).trans hx0
    have hy1 := (hB.cell (p := ⟨w.heap.size + 1, 0, none⟩) hs0).trans hy0
    by_cases hlt : k < n
    · obtain ⟨x, hx⟩ := getElem?_ex (l := bs) (k := k) (by have := unhide HL; omega)
      obtain ⟨g1, o1, pa, pc, rfl, d0, d1, hp1⟩ := ((unhide H1).below hB (Nat.le_refl _)) k x hx
      obtain ⟨g2, o2, pb, pd, rfl, e0, e1, hp2⟩ := ((unhide H2).below hB (Nat.le_refl _)) k x hx
      have hln : x.pages.length ≤ 1048576 := (unhide HN).at hx
      obtain ⟨m, hm⟩ : ∃ m, x.pages.length = m := ⟨_, rfl⟩
      rw [hm] at d1 e1 hln
      have HM := hide hm
      have HP1 := hide hp1
      have HP2 := hide hp2
      have hne1 : (x.wear != x.wear) = false := by simp
      have hne2 : ((m : Int) != (m : Int)) = false := by simp
      have hg1 : g1 < w1.heap.size := World.block_lt_of_cell? _ _ d0
      have hg2 : g2 < w1.heap.size := World.block_lt_of_cell? _ _ e0
      clear hp1 hp2 hx hm hx0 hy0
      go_wp2_with fail
      go_quiet (fail)
      go_wp2
      go_loopw [6] (fun i wr => ∃ j : Nat, j ≤ m ∧ i = .int .i64 j ∧ Below w1.heap.size w1 wr) (fun i _ => m - (intOf i).toNat)
      case atStart => exact ⟨0, Nat.zero_le _, rfl, below_drewN (Below.refl _ _) _⟩
      case round =>
        obtain ⟨j, hj, rfl, hBj⟩ := hrel
        have hsj := hBj.size
        have hxj := (hBj.cell (p := ⟨w.heap.size, 0, none⟩) (by show w.heap.size < _; omega)).trans hx1
        have hyj := (hBj.cell (p := ⟨w.heap.size + 1, 0, none⟩) (by show w.heap.size + 1 < _; omega)).trans hy1
        have d1j := (hBj.cell (p := ⟨g1, o1 + k * 2 + 1, none⟩) hg1).trans d1
        have e1j := (hBj.cell (p := ⟨g2, o2 + k * 2 + 1, none⟩) hg2).trans e1
        by_cases hlt2 : j < m
        · obtain ⟨p, hp⟩ := getElem?_ex (l := x.pages) (k := j) (by have := unhide HM; omega)
          obtain ⟨b1, q1, rfl, s0, s1, s2, s3⟩ := ((unhide HP1).below hBj (Nat.le_refl _)) j p hp
          obtain ⟨b2, q2, rfl, t0, t1, t2, t3⟩ := ((unhide HP2).below hBj (Nat.le_refl _)) j p hp
          clear hp d1 e1 hx1 hy1 d0 e0
          go_wp2_with fail
          go_quiet (fail)
          go_wp2
          go_roundw
          case rel => exact ⟨j + 1, by omega, by go_num, below_drewN hBj _⟩
          case measure => simp [intOf]; omega
        · have hBB := hB.trans (hBj.mono hB.size)
          clear d1 e1 hx1 hy1 d0 e0
          go_wp2
          go_roundw
          case rel => exact ⟨k + 1, by omega, by go_num, hBB⟩
          case measure => simp [intOf]; omega
    · have hW := hW0.trans (hB.mono hW0.size)
      go_wp2
      go_ret
      exact ⟨rfl, hW⟩

end Go.Proofs.YtalgkmellbamgaaGreat

/- Whether two chips, two members are the same: the laws' own sameChip and sameFtl, over two that are. -/
namespace Go.Proofs.YtalgkmellbamgaaGreat
open Go.RowKit
set_option linter.unusedVariables false
set_option linter.unusedSimpArgs false

set_option maxRecDepth 100000 in
set_option maxHeartbeats 2000000 in
theorem sameFtl_same (a1 a2 : Option Addr) (c1 c2 : Nat) (bs : List Bk) (n : Nat) (hl : bs.length = n) (m1 m2 : Option Addr) (d1 d2 : Nat) (L : List Int) (mn : Nat) (hL : L.length = mn) (seq o : Int) (w : World) (h1 : BlocksAt w a1 bs) (h2 : BlocksAt w a2 bs) (hn : Lens 1048576 bs) (i1 : IntsAt w m1 L) (i2 : IntsAt w m2 L) (hmn : mn ≤ 1048576) :
    Calls Tryz.prog 11 #[.agg #[.slice a1 n c1, .slice m1 mn d1, .int .i64 seq, .int .i64 o], .agg #[.slice a2 n c2, .slice m2 mn d2, .int .i64 seq, .int .i64 o]] w fun e w' => e = .returned (.bool true) ∧ Below w.heap.size w w' := by
  have hb0 : ∀ o1 o2, Below w.heap.size w ((w.alloc o1).alloc o2) := fun o1 o2 => ((Below.refl _ w).alloc (Nat.le_refl _) _).alloc (by simp) _
  have he1 : (seq == seq) = true := by simp
  have he2 : (o == o) = true := by simp
  go_enter Tryz.func11, Tryz.ntmps11
  go_wp2_with fail
  refine (sameInts_same m1 m2 d1 d2 L mn hL _ (i1.below (hb0 _ _) (Nat.le_refl _)) (i2.below (hb0 _ _) (Nat.le_refl _)) hmn).mono ?_
  rintro e w1 ⟨rfl, hB1⟩
  have hs1 := hB1.size
  simp at hs1
  have x0 : w1.cell? ⟨w.heap.size, 0, none⟩ = some (.slice a1 n c1) := by
    rw [hB1.cell (p := ⟨w.heap.size, 0, none⟩) (by simp; omega), cell_alloc_lt _ _ _ _ (by simp)]
    simp
  have y0 : w1.cell? ⟨w.heap.size + 1, 0, none⟩ = some (.slice a2 n c2) := by
    rw [hB1.cell (p := ⟨w.heap.size + 1, 0, none⟩) (by simp), cell_of_row _ _ 0 _ _ _ (heap_alloc2_new _ _ _)]
    rfl
  have hW1 : Below w.heap.size w w1 := (hb0 _ _).trans (hB1.mono (by simp; omega))
  have H1 := hide (h1.below hW1 (Nat.le_refl _))
  have H2 := hide (h2.below hW1 (Nat.le_refl _))
  have HL := hide hl
  have HN := hide hn
  clear h1 h2 i1 i2 hB1 hb0 hn hl hL
  go_wp2_with fail
  refine (sameChip_same a1 a2 c1 c2 bs n (unhide HL) _ (unhide H1) (unhide H2) (unhide HN)).mono ?_
  rintro e w2 ⟨rfl, hB2⟩
  have hW2 := hW1.trans (hB2.mono hW1.size)
  clear x0 y0 hB2 hW1 H1 H2
  go_wp2
  go_ret
  exact ⟨rfl, hW2⟩
end Go.Proofs.YtalgkmellbamgaaGreat
