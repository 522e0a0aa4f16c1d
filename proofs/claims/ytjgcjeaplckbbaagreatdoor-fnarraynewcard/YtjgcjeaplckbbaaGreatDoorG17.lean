/- 8 texts in one. -/
import Derived.Test.YtjgcjeaplckbbaaGreatDoorChecked
import Derived.Test.YtjgcjeaplckbbaaGreatDoorG01
import Derived.WalkKit
import Derived.Outline
import Derived.Test.YtjgcjeaplckbbaaGreatDoorG04
import Derived.BigQuiet
import Derived.Test.YtjgcjeaplckbbaaGreatDoorG03
import Derived.Test.YtjgcjeaplckbbaaGreatDoorG10
import Derived.Test.YtjgcjeaplckbbaaGreatDoorG12
import Derived.Test.YtjgcjeaplckbbaaGreatDoorG14
import Derived.Conc.LeavingOf
import Derived.Handed
import Derived.Lone

/- The laws' own comparison of two lists of numbers. -/
namespace Go.Proofs.YtjgcjeaplckbbaaGreatDoor
open Go.RowKit
set_option linter.unusedVariables false
set_option linter.unusedSimpArgs false

set_option maxHeartbeats 1000000 in
theorem sameInts_same (a1 a2 : Option Addr) (c1 c2 : Nat) (L : List Int) (n : Nat) (hl : L.length = n) (w : World) (h1 : IntsAt w a1 L) (h2 : IntsAt w a2 L) (hn : n ≤ 1048576) :
    Calls Tryz.prog 36 #[.slice a1 n c1, .slice a2 n c2] w fun e w' => e = .returned (.bool true) ∧ Below w.heap.size w w' := by
  go_enter Tryz.func36, Tryz.ntmps36
  go_wp2
  go_loopw [5] (fun i wr => ∃ k : Nat, k ≤ n ∧ i = .int .i64 k ∧ Below w.heap.size w wr) (fun i _ => n - (intOf i).toNat)
  case atStart => exact ⟨0, Nat.zero_le _, rfl, Below.refl _ _⟩
  case round =>
    obtain ⟨k, hk, rfl, hB⟩ := hrel
    by_cases hlt : k < n
    · obtain ⟨x, hx⟩ := getElem?_ex (l := L) (k := k) (by omega)
      obtain ⟨b1, o1, rfl, g1⟩ := (h1.below hB (Nat.le_refl _)) k x hx
      obtain ⟨b2, o2, rfl, g2⟩ := (h2.below hB (Nat.le_refl _)) k x hx
      have hne : (x != x) = false := by simp
      clear hx h1 h2 hl
      go_wp2
      go_region
      all_goals (
        go_wp2
        go_roundw
        case rel => exact ⟨k + 1, by omega, by go_num, hB.drew⟩
        case measure => simp [intOf]; omega)
    · go_wp2
      go_ret
      exact ⟨rfl, hB⟩

end Go.Proofs.YtjgcjeaplckbbaaGreatDoor

/- Whether two chips are the same: the laws' own sameChip, over two that are. -/
namespace Go.Proofs.YtjgcjeaplckbbaaGreatDoor
open Go.RowKit
set_option linter.unusedVariables false
set_option linter.unusedSimpArgs false

theorem below_drewN {B : Nat} {a w : World} (h : Below B a w) (n : Nat) : Below B a (w.drewN n) := ⟨h.os, h.tape, h.output, h.size, h.block⟩

set_option maxRecDepth 100000 in
set_option maxHeartbeats 2000000 in
theorem sameChip_same (a1 a2 : Option Addr) (c1 c2 : Nat) (bs : List Bk) (n : Nat) (hl : bs.length = n) (w : World) (h1 : BlocksAt w a1 bs) (h2 : BlocksAt w a2 bs) (hn : Lens 1048576 bs) :
    Calls Tryz.prog 85 #[.agg #[.slice a1 n c1], .agg #[.slice a2 n c2]] w fun e w' => e = .returned (.bool true) ∧ Below w.heap.size w w' := by
  have hn1 : n ≤ 1048576 := by have := hn.1; omega
  have HL := hide hl
  have HN := hide hn
  clear hl hn
  go_enter Tryz.func85, Tryz.ntmps85
  go_wp2_with fail
  obtain ⟨w0, hw0⟩ : ∃ w0, w0 = (w.alloc (.cells #[.slice a1 n c1] 51)).alloc (.cells #[.slice a2 n c2] 51) := ⟨_, rfl⟩
  have hW0 : Below w.heap.size w w0 := by rw [hw0]; exact ((Below.refl _ w).alloc (Nat.le_refl _) _).alloc (by simp) _
  have hs0 : w.heap.size + 1 < w0.heap.size := by rw [hw0]; simp
  have hx0 : w0.cell? ⟨w.heap.size, 0, none⟩ = some (.slice a1 n c1) := by
    rw [hw0, cell_alloc_lt _ _ _ _ (by simp)]
    simp
  have hy0 : w0.cell? ⟨w.heap.size + 1, 0, none⟩ = some (.slice a2 n c2) := by
    rw [hw0, cell_of_row _ _ 0 _ _ _ (heap_alloc2_new _ _ _)]
    rfl
  rw [← hw0]
  have H1 := hide (h1.below hW0 (Nat.le_refl _))
  have H2 := hide (h2.below hW0 (Nat.le_refl _))
  clear hw0 h1 h2
  go_wp2
  go_loopw [5] (fun i wr => ∃ k : Nat, k ≤ n ∧ i = .int .i64 k ∧ Below w0.heap.size w0 wr) (fun i _ => n - (intOf i).toNat)
  case atStart => exact ⟨0, Nat.zero_le _, rfl, Below.refl _ _⟩
  case round =>
    obtain ⟨k, hk, rfl, hB⟩ := hrel
    obtain ⟨w1, rfl⟩ : ∃ w1, w1 = wr := ⟨_, rfl⟩
    have hs1 := hB.size
    have hx1 := (hB.cell (p := ⟨w.heap.size, 0, none⟩) (by show w.heap.size < _; omega)).trans hx0
    have hy1 := (hB.cell (p := ⟨w.heap.size + 1, 0, none⟩) hs0).trans hy0
    by_cases hlt : k < n
    · obtain ⟨x, hx⟩ := getElem?_ex (l := bs) (k := k) (by have := unhide HL; omega)
      obtain ⟨g1, o1, pa, pc, rfl, d0, d1, hp1⟩ := ((unhide H1).below hB (Nat.le_refl _)) k x hx
      obtain ⟨g2, o2, pb, pd, rfl, e0, e1, hp2⟩ := ((unhide H2).below hB (Nat.le_refl _)) k x hx
      have hln : x.pages.length ≤ 1048576 := (unhide HN).at hx
      obtain ⟨m, hm⟩ : ∃ m, x.pages.length = m := ⟨_, rfl⟩
      rw [hm] at d1 e1 hln
      have HM := hide hm
      have HP1 := hide hp1
      have HP2 := hide hp2
      have hne1 : (x.wear != x.wear) = false := by simp
      have hne2 : ((m : Int) != (m : Int)) = false := by simp
      have hg1 : g1 < w1.heap.size := World.block_lt_of_cell? _ _ d0
      have hg2 : g2 < w1.heap.size := World.block_lt_of_cell? _ _ e0
      clear hp1 hp2 hx hm hx0 hy0
      go_wp2_with fail
      go_quiet (fail)
      go_wp2
      go_loopw [6] (fun i wr => ∃ j : Nat, j ≤ m ∧ i = .int .i64 j ∧ Below w1.heap.size w1 wr) (fun i _ => m - (intOf i).toNat)
      case atStart => exact ⟨0, Nat.zero_le _, rfl, below_drewN (Below.refl _ _) _⟩
      case round =>
        obtain ⟨j, hj, rfl, hBj⟩ := hrel
        have hsj := hBj.size
        have hxj := (hBj.cell (p := ⟨w.heap.size, 0, none⟩) (by show w.heap.size < _; omega)).trans hx1
        have hyj := (hBj.cell (p := ⟨w.heap.size + 1, 0, none⟩) (by show w.heap.size + 1 < _; omega)).trans hy1
        have d1j := (hBj.cell (p := ⟨g1, o1 + k * 2 + 1, none⟩) hg1).trans d1
        have e1j := (hBj.cell (p := ⟨g2, o2 + k * 2 + 1, none⟩) hg2).trans e1
        by_cases hlt2 : j < m
        · obtain ⟨p, hp⟩ := getElem?_ex (l := x.pages) (k := j) (by have := unhide HM; omega)
          obtain ⟨b1, q1, rfl, s0, s1, s2, s3⟩ := ((unhide HP1).below hBj (Nat.le_refl _)) j p hp
          obtain ⟨b2, q2, rfl, t0, t1, t2, t3⟩ := ((unhide HP2).below hBj (Nat.le_refl _)) j p hp
          clear hp d1 e1 hx1 hy1 d0 e0
          go_wp2_with fail
          go_quiet (fail)
          go_wp2
          go_roundw
          case rel => exact ⟨j + 1, by omega, by go_num, below_drewN hBj _⟩
          case measure => simp [intOf]; omega
        · have hBB := hB.trans (hBj.mono hB.size)
          clear d1 e1 hx1 hy1 d0 e0
          go_wp2
          go_roundw
          case rel => exact ⟨k + 1, by omega, by go_num, hBB⟩
          case measure => simp [intOf]; omega
    · have hW := hW0.trans (hB.mono hW0.size)
      go_wp2
      go_ret
      exact ⟨rfl, hW⟩

end Go.Proofs.YtjgcjeaplckbbaaGreatDoor

/- Whether two chips, two members are the same: the laws' own sameChip and sameFtl, over two that are. -/
namespace Go.Proofs.YtjgcjeaplckbbaaGreatDoor
open Go.RowKit
set_option linter.unusedVariables false
set_option linter.unusedSimpArgs false

set_option maxRecDepth 100000 in
set_option maxHeartbeats 2000000 in
theorem sameFtl_same (a1 a2 : Option Addr) (c1 c2 : Nat) (bs : List Bk) (n : Nat) (hl : bs.length = n) (m1 m2 : Option Addr) (d1 d2 : Nat) (L : List Int) (mn : Nat) (hL : L.length = mn) (seq o : Int) (w : World) (h1 : BlocksAt w a1 bs) (h2 : BlocksAt w a2 bs) (hn : Lens 1048576 bs) (i1 : IntsAt w m1 L) (i2 : IntsAt w m2 L) (hmn : mn ≤ 1048576) :
    Calls Tryz.prog 39 #[.agg #[.slice a1 n c1, .slice m1 mn d1, .int .i64 seq, .int .i64 o], .agg #[.slice a2 n c2, .slice m2 mn d2, .int .i64 seq, .int .i64 o]] w fun e w' => e = .returned (.bool true) ∧ Below w.heap.size w w' := by
  have hb0 : ∀ o1 o2, Below w.heap.size w ((w.alloc o1).alloc o2) := fun o1 o2 => ((Below.refl _ w).alloc (Nat.le_refl _) _).alloc (by simp) _
  have he1 : (seq == seq) = true := by simp
  have he2 : (o == o) = true := by simp
  go_enter Tryz.func39, Tryz.ntmps39
  go_wp2_with fail
  refine (sameInts_same m1 m2 d1 d2 L mn hL _ (i1.below (hb0 _ _) (Nat.le_refl _)) (i2.below (hb0 _ _) (Nat.le_refl _)) hmn).mono ?_
  rintro e w1 ⟨rfl, hB1⟩
  have hs1 := hB1.size
  simp at hs1
  have x0 : w1.cell? ⟨w.heap.size, 0, none⟩ = some (.slice a1 n c1) := by
    rw [hB1.cell (p := ⟨w.heap.size, 0, none⟩) (by simp; omega), cell_alloc_lt _ _ _ _ (by simp)]
    simp
  have y0 : w1.cell? ⟨w.heap.size + 1, 0, none⟩ = some (.slice a2 n c2) := by
    rw [hB1.cell (p := ⟨w.heap.size + 1, 0, none⟩) (by simp), cell_of_row _ _ 0 _ _ _ (heap_alloc2_new _ _ _)]
    rfl
  have hW1 : Below w.heap.size w w1 := (hb0 _ _).trans (hB1.mono (by simp; omega))
  have H1 := hide (h1.below hW1 (Nat.le_refl _))
  have H2 := hide (h2.below hW1 (Nat.le_refl _))
  have HL := hide hl
  have HN := hide hn
  clear h1 h2 i1 i2 hB1 hb0 hn hl hL
  go_wp2_with fail
  refine (sameChip_same a1 a2 c1 c2 bs n (unhide HL) _ (unhide H1) (unhide H2) (unhide HN)).mono ?_
  rintro e w2 ⟨rfl, hB2⟩
  have hW2 := hW1.trans (hB2.mono hW1.size)
  clear x0 y0 hB2 hW1 H1 H2
  go_wp2
  go_ret
  exact ⟨rfl, hW2⟩
end Go.Proofs.YtjgcjeaplckbbaaGreatDoor

/- Arrays that are the same: the laws' own comparison. -/
namespace Go.Proofs.YtjgcjeaplckbbaaGreatDoor
open Go.RowKit
set_option linter.unusedVariables false
set_option linter.unusedSimpArgs false

/-- The list of members at m: none, or a row. -/
def MbList (w : World) (m : Option Addr) (ms : List Mb) : Prop := ms = [] ∨ ∃ g, m = some ⟨g, 0, none⟩ ∧ MbsAt w g ms
theorem MbList.below {w w' : World} {m : Option Addr} {ms : List Mb} (h : MbList w m ms) (hb : Below w.heap.size w w') : MbList w' m ms := by
  rcases h with h | ⟨g, e, h⟩
  · exact .inl h
  · exact .inr ⟨g, e, h.below hb⟩

set_option maxRecDepth 100000 in
set_option maxHeartbeats 4000000 in
theorem sameArray_same (a1 a2 : Option Addr) (c1 c2 : Nat) (L : List Int) (k : Nat) (hL : L.length = k) (hk : k ≤ 1048576) (n lost : Int) (d : Bool) (m1 m2 : Option Addr) (mk e1 e2 : Nat) (ms : List Mb) (hm : ms.length = mk) (h5 : mk ≤ 5) (hsh : ∀ m ∈ ms, Mb.Short m) (w : World) (h1 : IntsAt w a1 L) (h2 : IntsAt w a2 L) (hM1 : MbList w m1 ms) (hM2 : MbList w m2 ms) :
    Calls Tryz.prog 16 #[.agg #[.slice a1 k c1, .int .i64 n, .int .i64 lost, .bool d, .slice m1 mk e1, .slice none 0 0], .agg #[.slice a2 k c2, .int .i64 n, .int .i64 lost, .bool d, .slice m2 mk e2, .slice none 0 0]] w fun e w' => e = .returned (.bool true) ∧ Below w.heap.size w w' := by
  have hb0 : ∀ o1 o2, Below w.heap.size w ((w.alloc o1).alloc o2) := fun o1 o2 => ((Below.refl _ w).alloc (Nat.le_refl _) _).alloc (by simp) _
  have hne1 : (n != n) = false := by simp
  have hne2 : (lost != lost) = false := by simp
  have hne3 : (d != d) = false := by simp
  have hne4 : ((mk : Int) != (mk : Int)) = false := by simp
  have hmix : Tryz.prog.follows .mixedOrders = true := by kernel_rfl
  have HL := hide hL
  have HML := hide hm
  have HM1 := hide hM1
  have HM2 := hide hM2
  have HSH := hide hsh
  clear hL hM1 hM2 hm hsh
  go_enter Tryz.func16, Tryz.ntmps16
  go_wp2_with fail
  refine (sameInts_same a1 a2 c1 c2 L k (unhide HL) _ (h1.below (hb0 _ _) (Nat.le_refl _)) (h2.below (hb0 _ _) (Nat.le_refl _)) hk).mono ?_
  rintro e w1 ⟨rfl, hB1⟩
  have hs1 := hB1.size
  simp at hs1
  have hx : ∀ i, w1.cell? ⟨w.heap.size, i, none⟩ = (#[Value.slice a1 k c1, .int .i64 n, .int .i64 lost, .bool d, .slice m1 mk e1, .slice none 0 0])[i]? := fun i => by
    rw [hB1.cell (p := ⟨w.heap.size, i, none⟩) (by simp; omega), cell_alloc_lt _ _ _ _ (by simp)]
    simp
  have hy : ∀ i, w1.cell? ⟨w.heap.size + 1, i, none⟩ = (#[Value.slice a2 k c2, .int .i64 n, .int .i64 lost, .bool d, .slice m2 mk e2, .slice none 0 0])[i]? := fun i => by
    rw [hB1.cell (p := ⟨w.heap.size + 1, i, none⟩) (by simp), cell_of_row _ _ i _ _ _ (heap_alloc2_new _ _ _)]
  have hW1 : Below w.heap.size w w1 := (hb0 _ _).trans (hB1.mono (by simp; omega))
  have x4 := hx 4
  have x5 := hx 5
  have y4 := hy 4
  have y5 := hy 5
  simp at x4 x5 y4 y5
  have hp0 : w.heap.size < w1.heap.size := by omega
  have hp1 : w.heap.size + 1 < w1.heap.size := by omega
  have HM11 := hide ((unhide HM1).below hW1)
  have HM21 := hide ((unhide HM2).below hW1)
  clear h1 h2 hx hy hB1 hb0 hk HM1 HM2
  go_wp2
  go_loopw [5] (fun i wr => ∃ j : Nat, j ≤ mk ∧ i = .int .i64 (j : Int) ∧ Below w1.heap.size w1 wr) (fun i _ => mk - (intOf i).toNat)
  case atStart => exact ⟨0, Nat.zero_le _, rfl, Below.refl _ _⟩
  case round =>
    obtain ⟨j, hj, rfl, hB⟩ := hrel
    have x4r := (hB.cell (p := ⟨w.heap.size, 4, none⟩) hp0).trans x4
    have y4r := (hB.cell (p := ⟨w.heap.size + 1, 4, none⟩) hp1).trans y4
    have x5r := (hB.cell (p := ⟨w.heap.size, 5, none⟩) hp0).trans x5
    have y5r := (hB.cell (p := ⟨w.heap.size + 1, 5, none⟩) hp1).trans y5
    have hsB := hB.size
    by_cases hlt : j < mk
    · obtain ⟨m, hm⟩ := getElem?_ex (l := ms) (k := j) (by have := unhide HML; omega)
      have hne : ms ≠ [] := fun e => by rw [e] at hm; simp at hm
      obtain ⟨q1, rfl, hA1⟩ := ((unhide HM11).below hB).resolve_left hne
      obtain ⟨q2, rfl, hA2⟩ := ((unhide HM21).below hB).resolve_left hne
      obtain ⟨b1, d1, ma1, f1, g10, g11, g12, g13, s1, p1⟩ := hA1 j m hm
      obtain ⟨b2, d2, ma2, f2, g20, g21, g22, g23, s2, p2⟩ := hA2 j m hm
      obtain ⟨hl, _, hLL⟩ := unhide HSH m (List.mem_of_getElem? hm)
      obtain ⟨nb, hnb⟩ : ∃ nb, m.bs.length = nb := ⟨_, rfl⟩
      obtain ⟨nl, hnl⟩ : ∃ nl, m.L.length = nl := ⟨_, rfl⟩
      rw [hnb] at g10 g20
      rw [hnl] at g11 g21 hLL
      have hgl1 : q1 < wr.heap.size := World.block_lt_of_cell? _ _ g10
      have hgl2 : q2 < wr.heap.size := World.block_lt_of_cell? _ _ g20
      have HSF : Hid (∀ W, Below wr.heap.size wr W → Calls Tryz.prog 39 #[.agg #[.slice b1 nb d1, .slice ma1 nl f1, .int .i64 m.seq, .int .i64 m.o], .agg #[.slice b2 nb d2, .slice ma2 nl f2, .int .i64 m.seq, .int .i64 m.o]] W fun e w' => e = .returned (.bool true) ∧ Below W.heap.size W w') := fun W hW => sameFtl_same b1 b2 d1 d2 m.bs nb hnb ma1 ma2 f1 f2 m.L nl hnl m.seq m.o W (s1.below hW (Nat.le_refl _)) (s2.below hW (Nat.le_refl _)) hl (p1.below hW (Nat.le_refl _)) (p2.below hW (Nat.le_refl _)) (by omega)
      have hp0r : w.heap.size < wr.heap.size := by omega
      have hp1r : w.heap.size + 1 < wr.heap.size := by omega
      clear hm hne hA1 hA2 s1 s2 p1 p2 hl hnb hnl x4 y4 x5 y5 x5r y5r
      go_upto_region 6 with fail
      refine wp_region_grown (Below wr.heap.size wr) hmix (by kernel_rfl) (below_drawn wr) ?_
      go_big_quiet_step (exact fun _ => rfl)
      refine wpQuiet_val rfl (.slice (some ⟨q1, 0, none⟩) mk e1) (fun W hC => ?_) ?_
      · have hcl := (hC.cell (p := ⟨w.heap.size, 4, none⟩) hp0r).trans x4r
        go_simp
      simp only [Act.put, List.setIfInBounds_toArray, List.set_cons_zero, List.set_cons_succ]
      go_big_quiet_step (exact fun _ => rfl)
      go_big_quiet_step (exact fun _ => rfl)
      refine wpQuiet_val rfl (.agg #[.slice b1 nb d1, .slice ma1 nl f1, .int .i64 m.seq, .int .i64 m.o]) (fun W hC => ?_) ?_
      · have h0 := (hC.cell (p := ⟨q1, j * 4, none⟩) hgl1).trans g10
        have h1 := (hC.cell (p := ⟨q1, j * 4 + 1, none⟩) hgl1).trans g11
        have h2 := (hC.cell (p := ⟨q1, j * 4 + 2, none⟩) hgl1).trans g12
        have h3 := (hC.cell (p := ⟨q1, j * 4 + 3, none⟩) hgl1).trans g13
        go_simp
      simp only [Act.put, List.setIfInBounds_toArray, List.set_cons_zero, List.set_cons_succ]
      go_big_quiet_step (exact fun _ => rfl)
      refine wpQuiet_val rfl (.slice (some ⟨q2, 0, none⟩) mk e2) (fun W hC => ?_) ?_
      · have hcl := (hC.cell (p := ⟨w.heap.size + 1, 4, none⟩) hp1r).trans y4r
        go_simp
      simp only [Act.put, List.setIfInBounds_toArray, List.set_cons_zero, List.set_cons_succ]
      go_big_quiet_step (exact fun _ => rfl)
      go_big_quiet_step (exact fun _ => rfl)
      refine wpQuiet_val rfl (.agg #[.slice b2 nb d2, .slice ma2 nl f2, .int .i64 m.seq, .int .i64 m.o]) (fun W hC => ?_) ?_
      · have h0 := (hC.cell (p := ⟨q2, j * 4, none⟩) hgl2).trans g20
        have h1 := (hC.cell (p := ⟨q2, j * 4 + 1, none⟩) hgl2).trans g21
        have h2 := (hC.cell (p := ⟨q2, j * 4 + 2, none⟩) hgl2).trans g22
        have h3 := (hC.cell (p := ⟨q2, j * 4 + 3, none⟩) hgl2).trans g23
        go_simp
      simp only [Act.put, List.setIfInBounds_toArray, List.set_cons_zero, List.set_cons_succ]
      refine wpQuiet_val rfl (.bool true) (fun W hC => ?_) ?_
      · go_simp
        refine (unhide HSF W hC).mono ?_
        rintro e w' ⟨rfl, hB'⟩
        exact ⟨rfl, hC.trans (hB'.mono hC.size)⟩
      simp only [Act.put, List.setIfInBounds_toArray, List.set_cons_zero, List.set_cons_succ]
      go_big_quiet_step (exact fun _ => rfl)
      refine wpQuiet_nil ?_
      intro w8 hC8
      have hW8 := hB.trans (hC8.mono hsB)
      clear HSF g10 g11 g12 g13 g20 g21 g22 g23 x4r y4r hC8
      go_wp2_with fail
      exact ⟨⟨j + 1, by omega, by simp, hW8⟩, by simp [intOf]; omega⟩
    · have hW : Below w.heap.size w wr := hW1.trans (hB.mono (by omega))
      obtain ⟨w10, hw10⟩ : ∃ w10, w10 = wr := ⟨_, rfl⟩
      rw [← hw10] at hW x4r x5r y5r ⊢
      clear hw10
      go_wp2
      go_loopw [6] (fun i wr2 => i = .int .i64 0 ∧ wr2 = w10) (fun _ _ => 0)
      case atStart => exact ⟨rfl, rfl⟩
      case round =>
        obtain ⟨rfl, rfl⟩ := hrel
        go_wp2
        go_ret
        exact ⟨rfl, hW⟩
end Go.Proofs.YtjgcjeaplckbbaaGreatDoor

/- Drawn weights. -/
namespace Go.Proofs.YtjgcjeaplckbbaaGreatDoor
open Go.RowKit
set_option linter.unusedVariables false
set_option linter.unusedSimpArgs false

theorem infoInt64W : (Tryz.prog.info? 2).map (fun i => (i.zero, i.size, i.bytes)) = some (some (.int .i64 0), 1, 8) := by kernel_rfl

theorem info_get {P : Program} {t : TypeId} {z : Value} {s b : Nat} (h : (P.info? t).map (fun i => (i.zero, i.size, i.bytes)) = some (some z, s, b)) : ∃ i, P.info? t = some i ∧ i.zero = some z ∧ i.size = s ∧ i.bytes = b := by
  obtain ⟨i, hi, hz⟩ := Option.map_eq_some_iff.1 h
  simp only [Prod.mk.injEq] at hz
  exact ⟨i, hi, hz.1, hz.2.1, hz.2.2⟩

theorem OwnInts.touch {w w' : World} {t : TypeId} {B r : Nat} {v : Value} {L : List Int} (h : OwnInts w t B v L) (hr : r < B) (hT : Touch (· = r) w w') : OwnInts w' t B v L := by
  refine ⟨h.1, ?_⟩
  rcases h.2 with ⟨hv, hl⟩ | ⟨g, cap, cur, rfl, hb, hg, hrest⟩
  · exact .inl ⟨hv, hl⟩
  · refine .inr ⟨g, cap, cur, rfl, hb, ?_, hrest⟩
    rw [hT.block g (Array.getElem?_eq_some_iff.1 hg).1 (by show ¬ g = r; omega)]
    exact hg

/-- A drawn list of weights: at most 5 numbers, in memory from block B on. -/
def WtsAt (w : World) (B : Nat) (v : Value) (L : List Int) : Prop := ∃ (g c : Nat), v = .slice (some ⟨g, 0, none⟩) L.length c ∧ B ≤ g ∧ g < w.heap.size ∧ IntsAt w (some ⟨g, 0, none⟩) L ∧ 2 ≤ L.length ∧ L.length ≤ 5

/-- A list that was built and has a number at least: its row, its room. -/
theorem OwnInts.some {w : World} {t : TypeId} {B : Nat} {v : Value} {L : List Int} (h : OwnInts w t B v L) (hl : 0 < L.length) :
    ∃ g c, v = .slice (some ⟨g, 0, none⟩) L.length c ∧ B ≤ g ∧ g < w.heap.size ∧ L.length ≤ c ∧ c ≤ 9223372036854775807 ∧ IntsAt w (some ⟨g, 0, none⟩) L ∧ ∀ i, w.frozen? ⟨g, i, none⟩ = false := by
  have h0 := h
  rcases h.2 with ⟨_, h1⟩ | ⟨g, cap, cur, rfl, hb, hg, hn, hm, _⟩
  · omega
  · refine ⟨g, cap, rfl, hb, (Array.getElem?_eq_some_iff.1 hg).1, hn, by simpa [maxLen] using hm, fun i x hx => ⟨g, 0, rfl, ?_⟩, fun i => World.ownsRow.frozenAt h0 _⟩
    have hi := (List.getElem?_eq_some_iff.1 hx).1
    rw [Nat.zero_add, World.ownsRow.cellAt h0 i (by omega)]
    simp [ints, hx]

theorem IntsAt.set0 {w : World} {g : Nat} {L : List Int} (h : IntsAt w (some ⟨g, 0, none⟩) L) (hl : 0 < L.length) (y : Int) : IntsAt (w.setCell ⟨g, 0, none⟩ (.int .i64 y)) (some ⟨g, 0, none⟩) (L.set 0 y) := by
  intro i x hx
  refine ⟨g, 0, rfl, ?_⟩
  by_cases e : i = 0
  · subst e
    obtain ⟨z, hz⟩ := getElem?_ex (l := L) (k := 0) hl
    obtain ⟨b, o, hbo, hc⟩ := h 0 z hz
    cases hbo
    rw [World.cell?_setCell_same' _ _ _ (by rw [hc]; rfl)]
    simp [hl] at hx
    rw [hx]
  · rw [World.cell?_setCell_other _ _ _ _ (by simp)]
    rw [List.getElem?_set_ne (by omega)] at hx
    obtain ⟨b, o, hbo, hc⟩ := h i x hx
    cases hbo
    exact hc

theorem IntsAt.take {w : World} {a : Option Addr} {L : List Int} (h : IntsAt w a L) (k : Nat) : IntsAt w a (L.take k) := by
  intro i x hx
  have hi := (List.getElem?_eq_some_iff.1 hx).1
  rw [List.getElem?_take] at hx
  split at hx
  · exact h i x hx
  · cases hx

theorem IntsAt.touch {w w' : World} {g r : Nat} {L : List Int} (h : IntsAt w (some ⟨g, 0, none⟩) L) (hr : g ≠ r) (hT : Touch (· = r) w w') : IntsAt w' (some ⟨g, 0, none⟩) L := by
  intro i x hx
  obtain ⟨b, o, hbo, hc⟩ := h i x hx
  cases hbo
  exact ⟨g, 0, rfl, (World.cell?_of_block (w := w) (a := ⟨g, 0 + i, none⟩) (hT.block g (World.block_lt_of_cell? _ _ hc) hr)).trans hc⟩

set_option maxRecDepth 100000 in
set_option maxHeartbeats 1000000 in
theorem weights_any (r : Nat) (w : World) (h : RdAt w r) :
    Calls Tryz.prog 45 #[.pointer (some ⟨r, 0, none⟩)] w fun e w' => ∃ v L, e = .returned v ∧ WtsAt w' w.heap.size v L ∧ RdAt w' r ∧ Touch (· = r) w w' := by
  have hr0 := h.lt
  have hB1 : ∀ o, Below w.heap.size w (w.alloc o) := fun o => (Below.refl _ _).alloc (Nat.le_refl _) _
  go_enter Tryz.func45, Tryz.ntmps45
  go_wp2_with fail
  refine (below_any r 3 _ (h.below (hB1 _)) (by omega) (by omega)).mono ?_
  rintro e w1 ⟨x, rfl, hx0, hx1, hR, hT⟩
  have HR := hide hR
  have hO1 : OwnInts w1 2 w.heap.size (.slice (some ⟨w.heap.size, 0, none⟩) 0 0) [] := by
    have := World.ownsRow_lit (base := w.heap.size) (e := 2) (size := 1) w #[] 0 (Nat.le_refl _) (by unfold maxLen; omega) rfl
    exact OwnInts.touch (by simpa [OwnInts, ints] using this) hr0 hT
  have HO1 := hide hO1
  have hT1 := (Touch.of_below (hB1 _)).trans hT
  clear h hR hO1 hT hB1
  obtain ⟨N, rfl⟩ := Int.eq_ofNat_of_zero_le hx0
  go_wp2
  go_loopw [3, 4] (fun v i wr => ∃ (k : Nat) (L : List Int), i = .int .i64 k ∧ k + L.length = 3 + N ∧ OwnInts wr 2 w.heap.size v L ∧ RdAt wr r ∧ Touch (· = r) w wr) (fun _ i _ => (intOf i).toNat)
  case atStart => exact ⟨3 + N, [], by simp, by simp, unhide HO1, unhide HR, hT1⟩
  case round =>
    obtain ⟨k, L, rfl, hkl, hO, hR2, hT2⟩ := hrel
    have HO := hide hO
    have HR2 := hide hR2
    have hsz := hT2.size
    have hrl := hR2.lt
    clear hO hR2 HO1 HR
    by_cases hk : 0 < k
    · go_wp2_with fail
      refine (below_any r 4 _ (unhide HR2) (by omega) (by omega)).mono ?_
      rintro e w2 ⟨y, rfl, hy0, hy1, hR3, hT3⟩
      have HR3 := hide hR3
      have hO3 := (unhide HO).touch hr0 hT3
      have hsz3 := hT3.size
      obtain ⟨i0, hi, hz0, hz1, hz2⟩ := info_get infoInt64W
      obtain ⟨X, hX⟩ : ∃ X, X = ints L := ⟨_, rfl⟩
      obtain ⟨m, hm⟩ : ∃ m, m = L.length := ⟨_, rfl⟩
      have hRw : w2.ownsRow w.heap.size 2 1 u3 m X := by rw [hX, hm]; exact hO3
      have hm5 : m ≤ 5 := by omega
      have HX := hide (And.intro hX hm)
      have hT4 := hT2.trans hT3
      clear hX hm hR3 HR2 HO hO3 hT2 hT3
      go_wp2_with (refine wpList_append_lies _ rfl (.tmp 13) (.tmp 16) 24 rfl w.heap.size 2 i0 _ 1 8 Tryz.underlying24 hi hz0 hz1 hz2 rfl (by decide) u3 m X (by simp [Act.eval]) (by exact hRw.alloc _) ⟨w2.heap.size, 0, none⟩ 1 1 [.int .i64 y] (by simp [Act.eval]) rfl (World.news_of_block (cs := #[.int .i64 y]) (t := 2) (fr := (0, 0)) (by exact Go.Deep.blk_alloc_new _ _)) (by simp [Value.oneCell']) (by omega) (by unfold maxLen; omega) (by omega) (by simp; omega) (w2.heap.size + 1) (by simp) ?_; intro g1 cap w1 hown hgrow hat hlt1)
      go_roundw
      case rel =>
        have hBel : Below w.heap.size _ w1 := Below.grown (Below.refl _ _) hgrow (by simp; omega) (fun j e => (hRw.lt j e).1)
        refine ⟨k - 1, L ++ [y], by rw [show ((k - 1 : Nat) : Int) = (k : Int) - 1 by omega], by simp; omega, ?_, ((unhide HR3).below ((Below.refl _ _).alloc (Nat.le_refl _) _)).past hBel hr0, (hT4.alloc _).past hBel (Nat.le_refl _)⟩
        obtain ⟨e1, e2⟩ := unhide HX
        rw [e1, e2] at hown
        rw [e2]
        simpa [OwnInts, ints] using hown
      case measure => simp [intOf]; omega
    · have hk0 : k = 0 := by omega
      subst hk0
      obtain ⟨g, c, rfl, hBg, hgs, hlc, hcm, hI, hfz⟩ := (unhide HO).some (by omega)
      have HI := hide hI
      clear HO hI
      go_wp2_with fail
      refine (below_any r 30 _ (unhide HR2) (by omega) (by omega)).mono ?_
      rintro e w2 ⟨z, rfl, hz0, hz1, hR3, hT3⟩
      have HR3 := hide hR3
      have hsz3 := hT3.size
      have HI3 := hide ((unhide HI).touch (by omega) hT3)
      have hT4 := hT2.trans hT3
      have hfz3 : ∀ i, w2.frozen? ⟨g, i, none⟩ = false := fun i => (hT3.frozen hgs (by show ¬ g = r; omega)).trans (hfz i)
      clear hR3 HI HR2 hfz
      by_cases e28 : z = 28
      · have hb28 : (z == 28) = true := by simpa using e28
        go_wp2_with fail
        refine (off_any r 0 5 _ (unhide HR3) (by omega) (by omega) (by omega)).mono ?_
        rintro e w3 ⟨y, rfl, hR4, hT5⟩
        have HR4 := hide hR4
        have hsz4 := hT5.size
        have hI4 := (unhide HI3).touch (by omega) hT5
        have f0 : ∀ i, w3.frozen? ⟨g, i, none⟩ = false := fun i => (hT5.frozen (by omega) (by show ¬ g = r; omega)).trans (hfz3 i)
        obtain ⟨x0, hx0'⟩ := getElem?_ex (l := L) (k := 0) (by omega)
        obtain ⟨b0, o0, hbo, c0⟩ := hI4 0 x0 hx0'
        cases hbo
        rw [Nat.zero_add] at c0
        have HI4 := hide hI4
        have hT6 := hT4.trans hT5
        clear hR4 hI4 hx0' HI3 HR3 hfz3
        go_wp2
        go_ret
        refine ⟨_, L.set 0 y, rfl, ⟨g, c, by simp, hBg, by simp; omega, (unhide HI4).set0 (by omega) y, by simp; omega, by simp; omega⟩, ?_, ?_⟩
        · exact RdAt.past (B := w.heap.size) (unhide HR4) ((Below.refl _ _).setCell hBg _) hr0
        · exact hT6.past ((Below.refl _ _).setCell hBg _) (Nat.le_refl _)
      · have hb28 : (z == 28) = false := by simpa using e28
        by_cases e29 : z = 29
        · have hb29 : (z == 29) = true := by simpa using e29
          go_wp2
          go_ret
          have h2 : (L.take 2).length = 2 := by rw [List.length_take]; omega
          exact ⟨_, L.take 2, rfl, ⟨g, c, by rw [h2]; rfl, hBg, by omega, (unhide HI3).take 2, by simp; omega, by simp; omega⟩, unhide HR3, hT4⟩
        · have hb29 : (z == 29) = false := by simpa using e29
          go_wp2
          go_ret
          exact ⟨_, L, rfl, ⟨g, c, rfl, hBg, by omega, unhide HI3, by omega, by omega⟩, unhide HR3, hT4⟩

end Go.Proofs.YtjgcjeaplckbbaaGreatDoor

/- What chapter 5's laws draw. -/
namespace Go.Proofs.YtjgcjeaplckbbaaGreatDoor
open Go.RowKit
set_option linter.unusedVariables false
set_option linter.unusedSimpArgs false

/-- A drawn list, as it lies: told for a length by name. -/
def DrawnAt (w : World) (a : Option Addr) (n : Nat) (L : List Int) : Prop := IntsAt w a L ∧ L.length = n ∧ 2 ≤ n ∧ n ≤ 5

theorem DrawnAt.below {w w' : World} {a : Option Addr} {n B : Nat} {L : List Int} (h : DrawnAt w a n L) (hb : Below B w w') (hB : w.heap.size ≤ B) : DrawnAt w' a n L := ⟨h.1.below hb hB, h.2⟩




end Go.Proofs.YtjgcjeaplckbbaaGreatDoor

/- What FnArrayNew draws. -/
namespace Go.Proofs.YtjgcjeaplckbbaaGreatDoor
open Go.RowKit
set_option linter.unusedVariables false
set_option linter.unusedSimpArgs false

set_option maxHeartbeats 1000000 in
theorem drawArrayNew_any (a : Option Addr) (n c : Nat) (w : World) (h : CodeAt w a n) (hn : n ≤ 1048576) :
    Calls Tryz.prog 13 #[.slice a n c] w fun e w' => ∃ g len cap z L, e = .returned (.tuple #[.slice (some ⟨g, 0, none⟩) len cap, .int .i64 z]) ∧ DrawnAt w' (some ⟨g, 0, none⟩) len L ∧ Below w.heap.size w w' := by
  go_enter Tryz.func13, Tryz.ntmps13
  go_wp2_with fail
  refine (l1Open_any a n c _ h hn).mono ?_
  rintro e w1 ⟨rfl, hR, hB⟩
  have HR := hide hR
  have hsz := hB.size
  clear h hR
  go_wp2_with fail
  refine (weights_any w.heap.size _ (unhide HR)).mono ?_
  rintro e w2 ⟨v, L, rfl, ⟨g, cap, rfl, hg, hgl, hI, hl2, hl5⟩, hR2, hT2⟩
  have HR2 := hide hR2
  have HI := hide hI
  have hB2 := hB.trans (hT2.below hsz (fun k hk => by subst hk; exact Nat.le_refl _))
  have hrl := hR2.lt
  have hr1 := (unhide HR).lt
  obtain ⟨m, hm⟩ : ∃ m, m = L.length := ⟨_, rfl⟩
  have HM := hide hm
  rw [← hm] at hl2 hl5 ⊢
  clear hR2 hI HR hT2 hB hm
  go_wp2_with fail
  refine (off_any w.heap.size 4 12 _ (unhide HR2) (by omega) (by omega) (by omega)).mono ?_
  rintro e w4 ⟨y, rfl, hR4, hT4⟩
  have HI4 := hide ((unhide HI).touch (by omega) hT4)
  have hB4 := hB2.trans (hT4.below hB2.size (fun k hk => by subst hk; exact Nat.le_refl _))
  clear hR4 HR2 HI hT4
  go_wp2
  go_ret2
  exact ⟨g, m, cap, _, L, rfl, ⟨unhide HI4, (unhide HM).symm, hl2, hl5⟩, hB4⟩
end Go.Proofs.YtjgcjeaplckbbaaGreatDoor

/- A call that starts no goroutine on its road, under a row that speaks of those that may be leaving. No program is named here. -/
namespace Go.Proofs.YtjgcjeaplckbbaaGreatDoor
set_option linter.unusedVariables false

theorem runs_of_calls {P : Program} {f : FuncId} {args : Array Value} {W : World} {Post : Value → World → Prop} (noInit : P.inits.idxOf? f = none) (h : Calls P f args W fun e W' => ∃ v, e = .returned v ∧ Post v W') :
    ∃ M last o w' t', runNT P (M + 1) (Conc.solo (Conc.G (Frame.enter P f args .normal) []) W) #[] = (.ended o w', t') ∧ runN P M (Conc.solo (Conc.G (Frame.enter P f args .normal) []) W) = .next last ∧ step P last = .ended o w' ∧ Conc.Good P Post last o w' t' := by
  have h2 : Calls P f args W (fun | .returned v, w' => Post v w' | _, _ => False) := h.mono fun e W' ⟨v, he, hp⟩ => by subst he; exact hp
  obtain ⟨n, v, w', fr, hn, hend, hp⟩ := h2.done_lone noInit
  replace hn : runN P n (Conc.solo (Conc.G (Frame.enter P f args .normal) []) W) = .next (lone fr [] w') := hn
  replace hend : runN P (n + 1) (Conc.solo (Conc.G (Frame.enter P f args .normal) []) W) = .ended (.done v) w' := hend
  refine ⟨n, _, .done v, w', (runNT P (n + 1) (Conc.solo (Conc.G (Frame.enter P f args .normal) []) W) #[]).2, Prod.ext (by rw [runNT_fst, hend]) rfl, hn, step_of_runs hn hend, v, rfl, hp, fun said => (no_race_of_lone P n _ _ hn (by simp [lone]) rfl).2, handedOver_of_lone hn, ⟨fun g hg => by simp [lone] at hg, rfl⟩, fun i g hg hi => ?_⟩
  cases i with
  | zero => exact absurd rfl hi
  | succ k => simp [lone] at hg

section
variable {H : Type} {enc : TypeId × Value → H}
/-- As returnsInHanded_of_change_sized, under a row of the word 'leaving'. -/
theorem returnsInLeaving_of_calls {a : Assume} {C : Checked} {os : Os} {f : FuncId} {fn : Func} {s : ChangeSpec} {conds : List PathCond} {apart fresh handsOn again : Bool}
    (own : ownKnob C.prog.godebug = none) (started : os.Started) (noInit : C.prog.inits.idxOf? f = none) (hfn : C.prog.funcs[f]? = some fn)
    (witness : ∃ (w : World) (tape : Tape) (i : Input), w.os = os ∧ (w.forCall tape i).Shaped C.prog ∧ i.vars = [] ∧ Input.okWide C.prog (w.forCall tape i) .any w.heap.size f i ∧
      s.pre6 enc C.prog fn conds apart (w.forCall tape i).memory i.args ∧ a.holds C.prog (lone (Frame.enter C.prog f i.args .normal) [] (w.forCall tape i)))
    (contract : ∀ (W : World) (base : Nat) (args : Array Value) (ds gs : List (DataW H)) (before : List MemPlace),
      (∀ (j : Nat) t v, fn.params[j]? = some t → args[j]? = some v → Value.okWide C.prog W .any base t v) →
      DataW.Whole enc C.prog fn.params.toList s.vars apart W args.toList ds gs before →
      conds.all (PathCond.test C.prog ⟨fn.params.toList, ds, s.plain.varTypes C.prog, gs⟩) = true →
      (DataW.weightsEach C.prog (fn.params.toList ++ s.plain.varTypes C.prog) (ds ++ gs)).all (· ≤ reachBytes) = true →
      a.holds C.prog (lone (Frame.enter C.prog f args .normal) [] W) →
      Calls C.prog f args W fun e W' => ∃ v, e = .returned v ∧ s.post enc C.prog fn apart fresh handsOn again W args v W') :
    ReturnsInLeavingWide a C os f .any (s.pre6 enc C.prog fn conds apart) (s.post enc C.prog fn apart fresh handsOn again) :=
  returnsInLeavingWide_of_change_sized own started hfn witness (fun W base args ds gs before h1 h2 h3 h4 h5 => runs_of_calls noInit (contract W base args ds gs before h1 h2 h3 h4 h5))
/-- As returnsInHanded_of_change_and, under a row of the word 'leaving'. -/
theorem returnsInLeaving_of_calls_and {a : Assume} {C : Checked} {os : Os} {f : FuncId} {fn : Func} {s : ChangeSpec} {conds : List PathCond} {apart fresh handsOn again : Bool} {X : World → Array Value → Prop}
    (hX : ∀ (w w' : World) (args : Array Value), w.heap = w'.heap → X w args → X w' args)
    (own : ownKnob C.prog.godebug = none) (started : os.Started) (noInit : C.prog.inits.idxOf? f = none) (hfn : C.prog.funcs[f]? = some fn)
    (witness : ∃ (w : World) (tape : Tape) (i : Input), w.os = os ∧ (w.forCall tape i).Shaped C.prog ∧ i.vars = [] ∧ Input.okWide C.prog (w.forCall tape i) .any w.heap.size f i ∧
      ((s.pre enc C.prog fn conds apart (w.forCall tape i).memory i.args ∧ X (w.forCall tape i).memory i.args) ∧ sizedMet enc C.prog fn (OpenSpec.ofChange s) apart (w.forCall tape i).memory i.args) ∧ a.holds C.prog (lone (Frame.enter C.prog f i.args .normal) [] (w.forCall tape i)))
    (contract : ∀ (W : World) (base : Nat) (args : Array Value) (ds gs : List (DataW H)) (before : List MemPlace),
      (∀ (j : Nat) t v, fn.params[j]? = some t → args[j]? = some v → Value.okWide C.prog W .any base t v) →
      DataW.Whole enc C.prog fn.params.toList s.vars apart W args.toList ds gs before →
      conds.all (PathCond.test C.prog ⟨fn.params.toList, ds, s.plain.varTypes C.prog, gs⟩) = true →
      (DataW.weightsEach C.prog (fn.params.toList ++ s.plain.varTypes C.prog) (ds ++ gs)).all (· ≤ reachBytes) = true → X W args →
      a.holds C.prog (lone (Frame.enter C.prog f args .normal) [] W) →
      Calls C.prog f args W fun e W' => ∃ v, e = .returned v ∧ s.post enc C.prog fn apart fresh handsOn again W args v W') :
    ReturnsInLeavingWide a C os f .any (fun w args => (s.pre enc C.prog fn conds apart w args ∧ X w args) ∧ sizedMet enc C.prog fn (OpenSpec.ofChange s) apart w args) (s.post enc C.prog fn apart fresh handsOn again) := by
  refine returnsInLeavingWide_of_good own started witness ?_
  intro w tape i _ _ _ hok hpre hholds
  obtain ⟨_, _, _, fn', hfn', _, _, _, _, hval⟩ := hok
  have e : fn' = fn := Option.some.inj (hfn'.symm.trans hfn)
  subst e
  obtain ⟨⟨⟨ds, gs, before, hw, hc⟩, hx⟩, hz⟩ := hpre
  have hw' := DataW.Whole.of_heap (w' := w.forCall tape i) (by rfl) hw
  refine runs_of_calls noInit ((contract (w.forCall tape i) w.heap.size i.args ds gs before hval hw' hc (hz.weights hw) (hX _ _ _ (by rfl) hx) hholds).mono fun e W' ⟨v, he, hp⟩ => ?_)
  subst he
  exact ⟨v, rfl, ChangeSpec.post_blind hp⟩
end
end Go.Proofs.YtjgcjeaplckbbaaGreatDoor
