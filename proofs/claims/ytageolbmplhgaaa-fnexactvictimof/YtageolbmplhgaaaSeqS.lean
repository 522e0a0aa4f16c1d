/- The greatest number on a chip: the model's l2Seq. -/
import Derived.Test.YtageolbmplhgaaaFtlP
import Derived.Test.YtageolbmplhgaaaSpecOk
namespace Go.Proofs.Ytageolbmplhgaaa
open Go.RowKit
set_option linter.unusedVariables false
set_option linter.unusedSimpArgs false

theorem topStep_max (c : Int × Int) (x : Int × Pg) : (topStep c x).1 = max c.1 x.2.seq := by
  unfold topStep
  split
  · simp; omega
  · omega

set_option maxRecDepth 100000 in
set_option maxHeartbeats 2000000 in
theorem l2Seq_any (a : Option Addr) (c : Nat) (bs : List Bk) (n : Nat) (hl : bs.length = n) (hok : ChipOk bs) (w : World) (h : BlocksAt w a bs) :
    Calls Try.prog 74 #[.agg #[.slice a n c]] w fun e w' => e = .returned (.int .i64 (topSeq bs)) ∧ Below w.heap.size w w' := by
  have hn12 : 4 ≤ n ∧ n ≤ 12 := by have := hok.count; omega
  have HL := hide hl
  clear hl
  go_enter Try.func74, Try.ntmps74
  go_wp2
  go_loopw [3, 4] (fun v i wr => ∃ k : Nat, k ≤ n ∧ i = .int .i64 k ∧ v = .int .i64 (topOf (usedAll (mOf bs) k)).1 ∧ wr = w.alloc (.cells #[.slice a n c] 29)) (fun _ i _ => n - (intOf i).toNat)
  case atStart => exact ⟨0, Nat.zero_le _, rfl, rfl, rfl⟩
  case round =>
    obtain ⟨k, hk, rfl, rfl, rfl⟩ := hrel
    by_cases hlt : k < n
    · obtain ⟨x, hx⟩ := getElem?_ex (l := bs) (k := k) (by have := unhide HL; omega)
      obtain ⟨g1, o1, pa, pc, rfl, hcw, hcp, hpa⟩ := h k x hx
      have h4 := (hok.block x (List.mem_of_getElem? hx)).four
      rw [h4] at hcp
      have hg1 : g1 < w.heap.size := World.block_lt_of_cell? _ _ hcw
      obtain ⟨T, hT⟩ : ∃ T, T = (topOf (usedAll (mOf bs) k)).1 := ⟨_, rfl⟩
      rw [← hT]
      have HT := hide hT
      have HH := hide h
      have HX := hide hx
      clear hT h hx hcw
      go_wp2
      go_loopw [3, 5] (fun v i wr => ∃ j : Nat, j ≤ 4 ∧ i = .int .i64 j ∧ v = .int .i64 (topOf (usedAll (mOf bs) k ++ usedB (mOf bs) k j)).1 ∧ wr = w.alloc (.cells #[.slice (some ⟨g1, o1, none⟩) n c] 29)) (fun _ i _ => 4 - (intOf i).toNat)
      case atStart => exact ⟨0, Nat.zero_le _, rfl, by rw [unhide HT]; simp [usedB], rfl⟩
      case round =>
        obtain ⟨j, hj, rfl, rfl, rfl⟩ := hrel
        by_cases hlt2 : j < 4
        · obtain ⟨p, hp⟩ := getElem?_ex (l := x.pages) (k := j) (by omega)
          obtain ⟨g2, o2, rfl, c0, c1, c2, c3⟩ := hpa j p hp
          have hg2 : g2 < w.heap.size := World.block_lt_of_cell? _ _ c0
          have hsu := usedB_succ (mOf bs) k j
          rw [mOf_page (unhide HX) hp] at hsu
          have hpk := (hok.block x (List.mem_of_getElem? (unhide HX))).page j p hp
          have hbd : 0 ≤ (topOf (usedAll (mOf bs) k ++ usedB (mOf bs) k j)).1 := by
            refine (topOf_bounds _ (fun y hy => ?_)).1
            have hmem : y ∈ usedOf bs := by
              have hpre := used_le (mOf bs) (b := k) (k := j) (n := n) hlt (by omega)
              unfold usedOf
              rw [unhide HL]
              exact hpre.subset hy
            exact (hok.usedRight hmem).2.2.2.1
          have hnew : (topOf (usedAll (mOf bs) k ++ usedB (mOf bs) k (j + 1))).1 = max (topOf (usedAll (mOf bs) k ++ usedB (mOf bs) k j)).1 p.seq := by
            rw [hsu, ← List.append_assoc]
            cases hu : p.used with
            | true =>
              simp only [if_true]
              rw [topOf_snoc, topStep_max]
            | false =>
              simp only [Bool.false_eq_true, if_false, List.append_nil]
              simp only [pgOk, hu, Bool.false_eq_true, if_false, isZero, Bool.and_eq_true, decide_eq_true_eq] at hpk
              rw [hpk.1.2]
              omega
          obtain ⟨T2, hT2⟩ : ∃ T2, T2 = (topOf (usedAll (mOf bs) k ++ usedB (mOf bs) k j)).1 := ⟨_, rfl⟩
          rw [← hT2] at hnew hbd ⊢
          have HN := hide hnew
          have HHK := hide hok
          have HPA := hide hpa
          clear hnew hsu hpk hT2 hok hpa
          go_wp2
          go_roundw
          case rel =>
            refine ⟨j + 1, by omega, by go_num, ?_, trivial⟩
            rw [unhide HN]
            congr 1
            split <;> omega
          case measure => simp [intOf]; omega
        · obtain rfl : j = 4 := by omega
          rw [← usedAll_succ]
          have HHK := hide hok
          have HPA := hide hpa
          clear hok hpa
          go_wp2
          go_roundw
          case rel => exact ⟨k + 1, by omega, by go_num, rfl, trivial⟩
          case measure => simp [intOf]; omega
    · obtain rfl : k = n := by omega
      have HHK := hide hok
      have HH := hide h
      clear hok h
      have e : (topOf (usedAll (mOf bs) k)).1 = topSeq bs := by unfold topSeq usedOf; rw [unhide HL]
      rw [e]
      clear e
      go_wp2
      go_ret
      exact ⟨rfl, (Below.refl _ w).alloc (Nat.le_refl _) _⟩
end Go.Proofs.Ytageolbmplhgaaa
