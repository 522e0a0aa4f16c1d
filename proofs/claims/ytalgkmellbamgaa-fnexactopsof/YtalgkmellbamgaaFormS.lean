/- May a log be written? The model's l3Form and l3Room. -/
import Derived.Test.YtalgkmellbamgaaOpsP
import Derived.Test.YtalgkmellbamgaaSpecOk
import Derived.Test.YtalgkmellbamgaaIn
import Derived.WalkKit
import Derived.Outline
namespace Go.Proofs.Ytalgkmellbamgaa
open Go.RowKit
set_option linter.unusedVariables false
set_option linter.unusedSimpArgs false

set_option maxHeartbeats 1000000 in
theorem l3Form_any (va : Value) (ma : Option Addr) (mc mn : Nat) (seq o lg : Int) (data : ByteArray) (w : World) (hmn : mn ≤ 1048576) (hd : data.size ≤ 1048576) :
    Calls Try.prog 88 #[.agg #[va, .slice ma mn mc, .int .i64 seq, .int .i64 o], .int .i64 lg, .string data] w fun e w' => RetIff (0 ≤ lg ∧ lg < (mn : Int) ∧ data.size = 4) e ∧ Below w.heap.size w w' := by
  have hb0 : ∀ o, Below w.heap.size w (w.alloc o) := fun o => (Below.refl _ w).alloc (Nat.le_refl _) _
  by_cases hin : 0 ≤ lg ∧ lg ≤ (mn : Int) - 1
  · have hdd : decide (0 ≤ lg ∧ lg ≤ (mn : Int) - 1) = true := by simpa using hin
    by_cases h4 : data.size = 4
    · have e4 : ((data.size : Int) == 4) = true := by simp; omega
      go_enter Try.func88, Try.ntmps88
      go_wp2_with fail
      refine (l1In_any _ _ _ _).mono ?_
      rintro e w1 ⟨rfl, rfl⟩
      rw [hdd]
      go_wp2
      go_ret
      exact ⟨RetIff.yes ⟨hin.1, by omega, h4⟩, hb0 _⟩
    · have e4 : ((data.size : Int) == 4) = false := by simp; omega
      go_enter Try.func88, Try.ntmps88
      go_wp2_with fail
      refine (l1In_any _ _ _ _).mono ?_
      rintro e w1 ⟨rfl, rfl⟩
      rw [hdd]
      go_wp2
      go_ret
      exact ⟨RetIff.no (fun h => h4 h.2.2), hb0 _⟩
  · have hdd : decide (0 ≤ lg ∧ lg ≤ (mn : Int) - 1) = false := by simpa using hin
    go_enter Try.func88, Try.ntmps88
    go_wp2_with fail
    refine (l1In_any _ _ _ _).mono ?_
    rintro e w1 ⟨rfl, rfl⟩
    rw [hdd]
    go_wp2
    go_ret
    exact ⟨RetIff.no (fun h => hin ⟨h.1, by omega⟩), hb0 _⟩

set_option maxRecDepth 100000 in
set_option maxHeartbeats 1000000 in
theorem l3Room_any (a : Option Addr) (c : Nat) (bs : List Bk) (n : Nat) (hl : bs.length = n) (hn12 : n ≤ 12) (ma : Option Addr) (mc mn : Nat) (seq o : Int) (w : World) (h : BlocksAt w a bs) :
    Calls Try.prog 89 #[.agg #[.slice a n c, .slice ma mn mc, .int .i64 seq, .int .i64 o]] w fun e w' => RetIff (roomy bs seq) e ∧ Below w.heap.size w w' := by
  have hb0 : ∀ o, Below w.heap.size w (w.alloc o) := fun o => (Below.refl _ w).alloc (Nat.le_refl _) _
  have HL := hide hl
  clear hl
  go_enter Try.func89, Try.ntmps89
  go_wp2
  go_loop [3] (fun i => ∃ k : Nat, k ≤ n ∧ i = .int .i64 k ∧ ¬ wornTo bs k) (fun i => n - (intOf i).toNat)
  case atStart => exact ⟨0, Nat.zero_le _, rfl, fun ⟨i, _, hi, _⟩ => absurd hi (Nat.not_lt_zero _)⟩
  case round =>
    obtain ⟨k, hk, rfl, hall⟩ := hrel
    have HA := hide hall
    clear hall
    by_cases hlt : k < n
    · obtain ⟨x, hx⟩ := getElem?_ex (l := bs) (k := k) (by have := unhide HL; omega)
      obtain ⟨g, og, pa, pc, rfl, hcw, _, _⟩ := h k x hx
      have hgl : g < w.heap.size := World.block_lt_of_cell? _ _ hcw
      have HX := hide hx
      clear hx h
      by_cases hw : x.wear = 1000000000
      · have ew : (x.wear == 1000000000) = true := by simpa using hw
        go_wp2
        go_ret
        exact ⟨RetIff.no (fun hr => hr.1 ⟨k, x, by have := unhide HL; omega, unhide HX, hw⟩), hb0 _⟩
      · have ew : (x.wear == 1000000000) = false := by simpa using hw
        go_wp2
        go_round
        case rel =>
          refine ⟨k + 1, by omega, by go_num, fun h => ?_⟩
          rcases (wornTo_succ (unhide HX)).1 h with h | h
          · exact unhide HA h
          · exact hw h
        case measure => simp [intOf]; omega
    · obtain rfl : k = n := by omega
      have HW : Hid (¬ worn bs) := fun h => unhide HA (by have := unhide HL; unfold worn at h; rwa [this] at h)
      clear h
      by_cases hs : seq ≤ 999999990
      · go_wp2
        go_ret
        exact ⟨⟨_, rfl, by simp [hs, roomy, unhide HW]⟩, hb0 _⟩
      · go_wp2
        go_ret
        exact ⟨⟨_, rfl, by simp [hs, roomy]⟩, hb0 _⟩
end Go.Proofs.Ytalgkmellbamgaa
