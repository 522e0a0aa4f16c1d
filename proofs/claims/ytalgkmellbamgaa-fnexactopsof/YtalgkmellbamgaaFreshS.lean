/- The free block that is worn the least: the model's l3Fresh. -/
import Derived.Test.YtalgkmellbamgaaOpsP
import Derived.Test.YtalgkmellbamgaaFreeS
import Derived.Test.YtalgkmellbamgaaMapS
import Derived.WalkKit
import Derived.Outline
import Derived.BigQuiet
namespace Go.Proofs.Ytalgkmellbamgaa
open Go.RowKit
set_option linter.unusedVariables false
set_option linter.unusedSimpArgs false

theorem fresher_but {bs : List Bk} {best f : Int} : fresher bs f best f = false := by simp [fresher]
theorem fresher_first {bs : List Bk} {but best f : Int} (h : f ≠ but) (hb : best < 0) : fresher bs but best f = true := by simp [fresher, h, hb]
theorem fresher_less {bs : List Bk} {but best f x y : Int} (h : f ≠ but) (hx : wearAt bs f = x) (hy : wearAt bs best = y) (hw : x < y) : fresher bs but best f = true := by simp [fresher, h, hx, hy, hw]
theorem fresher_not {bs : List Bk} {but best f x y : Int} (hb : 0 ≤ best) (hx : wearAt bs f = x) (hy : wearAt bs best = y) (hw : y ≤ x) : fresher bs but best f = false := by
  have h1 : ¬ best < 0 := by omega
  have h2 : ¬ x < y := by omega
  simp [fresher, h1, h2, hx, hy]
theorem freshTo_bounds {bs : List Bk} {but : Int} (k : Nat) : freshIn bs but ((freeTo bs bs.length).take k) = -1 ∨ ∃ i x, freshIn bs but ((freeTo bs bs.length).take k) = ((i : Nat) : Int) ∧ bs[i]? = some x := by
  rcases freshIn_some bs but ((freeTo bs bs.length).take k) (-1) with h | ⟨h, _⟩
  · exact .inl h
  · obtain ⟨i, hi, he, _⟩ := mem_freeTo (List.mem_of_mem_take h)
    obtain ⟨x, hx⟩ := getElem?_ex (l := bs) (k := i) hi
    exact .inr ⟨i, x, he, hx⟩

set_option maxRecDepth 100000 in
set_option maxHeartbeats 4000000 in
theorem l3Fresh_any (a : Option Addr) (c : Nat) (bs : List Bk) (n : Nat) (hl : bs.length = n) (hok : ChipOk bs) (but : Int) (w : World) (h : BlocksAt w a bs) :
    Calls Try.prog 132 #[.agg #[.slice a n c], .int .i64 but] w fun e w' => e = .returned (.int .i64 (freshOf bs but)) ∧ Below w.heap.size w w' := by
  have hb0 : ∀ o, Below w.heap.size w (w.alloc o) := fun o => (Below.refl _ w).alloc (Nat.le_refl _) _
  have hn12 : n ≤ 12 := by have := hok.count; omega
  go_enter Try.func132, Try.ntmps132
  go_wp2_with fail
  refine (l1Free_any a c bs n hl hok _ (h.below (hb0 _) (Nat.le_refl _))).mono ?_
  rintro e w1 ⟨v, rfl, hv, hB1⟩
  obtain ⟨fa, fc, rfl, hI, _⟩ := hv.form
  have hs1 := hB1.size
  simp at hs1
  have hx1 : w1.cell? ⟨w.heap.size, 0, none⟩ = some (.slice a n c) := by
    rw [hB1.cell (p := ⟨w.heap.size, 0, none⟩) (by simp)]
    simp
  have hW1 : Below w.heap.size w w1 := (hb0 _).trans (hB1.mono (by simp))
  have hA := h.below hW1 (Nat.le_refl _)
  have hq := freeTo_length bs n
  obtain ⟨q, hqq⟩ : ∃ q, q = (freeTo bs n).length := ⟨_, rfl⟩
  rw [← hqq] at hq ⊢
  subst hl
  have HI := hide hI
  have HA := hide hA
  have HQ := hide hqq
  clear hv hI hA h hb0 hB1 hok hqq
  go_wp2
  go_loopw [5, 7] (fun v i wr => ∃ k : Nat, k ≤ q ∧ i = .int .i64 k ∧ v = .int .i64 (freshIn bs but ((freeTo bs bs.length).take k)) ∧ Below w1.heap.size w1 wr) (fun _ i _ => q - (intOf i).toNat)
  case atStart => exact ⟨0, Nat.zero_le _, rfl, by simp [freshIn], Below.refl _ _⟩
  case round =>
    obtain ⟨k, hk, rfl, rfl, hB⟩ := hrel
    have hsr := hB.size
    have hxr := (hB.cell (p := ⟨w.heap.size, 0, none⟩) (by show w.heap.size < _; omega)).trans hx1
    by_cases hlt : k < q
    · obtain ⟨f, hf⟩ := getElem?_ex (l := freeTo bs bs.length) (k := k) (by have := unhide HQ; omega)
      obtain ⟨j, hj, rfl, _⟩ := mem_freeTo (List.mem_of_getElem? hf)
      obtain ⟨x, hx⟩ := getElem?_ex (l := bs) (k := j) hj
      obtain ⟨b1, o1, rfl, hcf⟩ := ((unhide HI).below hB (Nat.le_refl _)) k _ hf
      obtain ⟨g, og, pa, pc, ha, hcw, _, _⟩ := ((unhide HA).below hB (Nat.le_refl _)) j x hx
      have HST := hide (freshIn_take (bs := bs) (but := but) hf)
      have HW := hide (wearAt_of hx)
      have hbb := freshTo_bounds (bs := bs) (but := but) k
      obtain ⟨best, hbest⟩ : ∃ best, best = freshIn bs but ((freeTo bs bs.length).take k) := ⟨_, rfl⟩
      rw [← hbest] at HST hbb ⊢
      clear hf hx hbest hx1
      by_cases hfb : (j : Int) = but
      · have heq : ((j : Int) != but) = false := by simpa using hfb
        go_wp2_with fail
        go_quiet (fail)
        go_wp2
        go_roundw
        case rel => exact ⟨k + 1, by omega, by go_num, by rw [unhide HST, ← hfb, freshStep_no fresher_but], Below.drewN hB _⟩
        case measure => simp [intOf]; omega
      · have heq : ((j : Int) != but) = true := by simpa using hfb
        rcases hbb with rfl | ⟨i, y, rfl, hy⟩
        · go_wp2_with fail
          go_quiet (fail)
          go_wp2
          go_roundw
          case rel => exact ⟨k + 1, by omega, by go_num, by rw [unhide HST, freshStep_yes (fresher_first hfb (by omega))], Below.drewN hB _⟩
          case measure => simp [intOf]; omega
        · obtain ⟨g2, og2, _, _, ha2, hcw2, _, _⟩ := ((unhide HA).below hB (Nat.le_refl _)) i y hy
          have hil : i < bs.length := (List.getElem?_eq_some_iff.1 hy).1
          rw [ha] at ha2
          cases ha2
          subst ha
          have HY := hide (wearAt_of hy)
          clear hy
          by_cases hw : x.wear < y.wear
          · go_wp2_with fail
            go_quiet (fail)
            go_wp2
            go_roundw
            case rel => exact ⟨k + 1, by omega, by go_num, by rw [unhide HST, freshStep_yes (fresher_less hfb (unhide HW) (unhide HY) hw)], Below.drewN hB _⟩
            case measure => simp [intOf]; omega
          · have hw' : y.wear ≤ x.wear := by omega
            go_wp2_with fail
            go_quiet (fail)
            go_wp2
            go_roundw
            case rel => exact ⟨k + 1, by omega, by go_num, by rw [unhide HST, freshStep_no (fresher_not (by omega) (unhide HW) (unhide HY) hw')], Below.drewN hB _⟩
            case measure => simp [intOf]; omega
    · obtain rfl : k = q := by omega
      have HE : Hid ((freeTo bs bs.length).take k = freeTo bs bs.length) := by have := unhide HQ; rw [this]; exact List.take_length
      rw [unhide HE]
      have hW := hW1.trans (hB.mono hW1.size)
      clear hx1 hxr
      go_wp2
      go_ret
      exact ⟨rfl, hW⟩
end Go.Proofs.Ytalgkmellbamgaa
