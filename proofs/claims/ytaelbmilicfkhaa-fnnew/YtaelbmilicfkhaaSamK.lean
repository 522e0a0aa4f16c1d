/- Whether two chips are the same: the laws' own sameChip, over two that are. -/
import Derived.Test.YtaelbmilicfkhaaHasSeq
import Derived.Test.YtaelbmilicfkhaaLawC
import Derived.BigQuiet
namespace Go.Proofs.Ytaelbmilicfkhaa
open Go.RowKit
set_option linter.unusedVariables false
set_option linter.unusedSimpArgs false

theorem below_drewN {B : Nat} {a w : World} (h : Below B a w) (n : Nat) : Below B a (w.drewN n) := ⟨h.os, h.tape, h.output, h.size, h.block⟩

set_option maxRecDepth 100000 in
set_option maxHeartbeats 2000000 in
theorem sameChip_same (a1 a2 : Option Addr) (c1 c2 : Nat) (bs : List Bk) (n : Nat) (hl : bs.length = n) (w : World) (h1 : BlocksAt w a1 bs) (h2 : BlocksAt w a2 bs) (hn : Lens 1048576 bs) :
    Calls Try.prog 24 #[.agg #[.slice a1 n c1], .agg #[.slice a2 n c2]] w fun e w' => e = .returned (.bool true) ∧ Below w.heap.size w w' := by
  have hn1 : n ≤ 1048576 := by have := hn.1; omega
  have HL := hide hl
  have HN := hide hn
  clear hl hn
  go_enter Try.func24, Try.ntmps24
  go_wp2_with fail
  obtain ⟨w0, hw0⟩ : ∃ w0, w0 = (w.alloc (.cells #[.slice a1 n c1] 27)).alloc (.cells #[.slice a2 n c2] 27) := ⟨_, rfl⟩
  have hW0 : Below w.heap.size w w0 := by rw [hw0]; exact ((Below.refl _ w).alloc (Nat.le_refl _) _).alloc (by simp) _
  have hs0 : w.heap.size + 1 < w0.heap.size := by rw [hw0]; simp
  have hx0 : w0.cell? ⟨w.heap.size, 0, none⟩ = some (.slice a1 n c1) := by
    rw [hw0, cell_alloc_lt _ _ _ _ (by simp)]
    simp
  have hy0 : w0.cell? ⟨w.heap.size + 1, 0, none⟩ = some (.slice a2 n c2) := by
    rw [hw0, cell_of_row _ _ 0 _ _ _ (heap_alloc2_new _ _ _)]
    rfl
  rw [← hw0]
  have H1 := hide (h1.below hW0 (Nat.le_refl _))
  have H2 := hide (h2.below hW0 (Nat.le_refl _))
  clear hw0 h1 h2
  go_wp2
  go_loopw [5] (fun i wr => ∃ k : Nat, k ≤ n ∧ i = .int .i64 k ∧ Below w0.heap.size w0 wr) (fun i _ => n - (intOf i).toNat)
  case atStart => exact ⟨0, Nat.zero_le _, rfl, Below.refl _ _⟩
  case round =>
    obtain ⟨k, hk, rfl, hB⟩ := hrel
    obtain ⟨w1, rfl⟩ : ∃ w1, w1 = wr := ⟨_, rfl⟩
    have hs1 := hB.size
    have hx1 := (hB.cell (p := ⟨w.heap.size, 0, none⟩) (by show w.heap.size < _; omega)).trans hx0
    have hy1 := (hB.cell (p := ⟨w.heap.size + 1, 0, none⟩) hs0).trans hy0
    by_cases hlt : k < n
    · obtain ⟨x, hx⟩ := getElem?_ex (l := bs) (k := k) (by have := unhide HL; omega)
      obtain ⟨g1, o1, pa, pc, rfl, d0, d1, hp1⟩ := ((unhide H1).below hB (Nat.le_refl _)) k x hx
      obtain ⟨g2, o2, pb, pd, rfl, e0, e1, hp2⟩ := ((unhide H2).below hB (Nat.le_refl _)) k x hx
      have hln : x.pages.length ≤ 1048576 := (unhide HN).at hx
      obtain ⟨m, hm⟩ : ∃ m, x.pages.length = m := ⟨_, rfl⟩
      rw [hm] at d1 e1 hln
      have HM := hide hm
      have HP1 := hide hp1
      have HP2 := hide hp2
      have hne1 : (x.wear != x.wear) = false := by simp
      have hne2 : ((m : Int) != (m : Int)) = false := by simp
      have hg1 : g1 < w1.heap.size := World.block_lt_of_cell? _ _ d0
      have hg2 : g2 < w1.heap.size := World.block_lt_of_cell? _ _ e0
      clear hp1 hp2 hx hm hx0 hy0
      go_wp2_with fail
      go_quiet (fail)
      go_wp2
      go_loopw [6] (fun i wr => ∃ j : Nat, j ≤ m ∧ i = .int .i64 j ∧ Below w1.heap.size w1 wr) (fun i _ => m - (intOf i).toNat)
      case atStart => exact ⟨0, Nat.zero_le _, rfl, below_drewN (Below.refl _ _) _⟩
      case round =>
        obtain ⟨j, hj, rfl, hBj⟩ := hrel
        have hsj := hBj.size
        have hxj := (hBj.cell (p := ⟨w.heap.size, 0, none⟩) (by show w.heap.size < _; omega)).trans hx1
        have hyj := (hBj.cell (p := ⟨w.heap.size + 1, 0, none⟩) (by show w.heap.size + 1 < _; omega)).trans hy1
        have d1j := (hBj.cell (p := ⟨g1, o1 + k * 2 + 1, none⟩) hg1).trans d1
        have e1j := (hBj.cell (p := ⟨g2, o2 + k * 2 + 1, none⟩) hg2).trans e1
        by_cases hlt2 : j < m
        · obtain ⟨p, hp⟩ := getElem?_ex (l := x.pages) (k := j) (by have := unhide HM; omega)
          obtain ⟨b1, q1, rfl, s0, s1, s2, s3⟩ := ((unhide HP1).below hBj (Nat.le_refl _)) j p hp
          obtain ⟨b2, q2, rfl, t0, t1, t2, t3⟩ := ((unhide HP2).below hBj (Nat.le_refl _)) j p hp
          clear hp d1 e1 hx1 hy1 d0 e0
          go_wp2_with fail
          go_quiet (fail)
          go_wp2
          go_roundw
          case rel => exact ⟨j + 1, by omega, by go_num, below_drewN hBj _⟩
          case measure => simp [intOf]; omega
        · have hBB := hB.trans (hBj.mono hB.size)
          clear d1 e1 hx1 hy1 d0 e0
          go_wp2
          go_roundw
          case rel => exact ⟨k + 1, by omega, by go_num, hBB⟩
          case measure => simp [intOf]; omega
    · have hW := hW0.trans (hB.mono hW0.size)
      go_wp2
      go_ret
      exact ⟨rfl, hW⟩

end Go.Proofs.Ytaelbmilicfkhaa
