/- Lists of int64: the laws' own copy and comparison. -/
import Derived.Test.YtaelbmilicfkhaaChecked
import Derived.Test.YtaelbmilicfkhaaIntA
import Derived.Test.YtaelbmilicfkhaaOwn
import Derived.WalkKit
import Derived.Outline
namespace Go.Proofs.Ytaelbmilicfkhaa
open Go.RowKit
set_option linter.unusedVariables false
set_option linter.unusedSimpArgs false

set_option maxHeartbeats 1000000 in
theorem eqInt64S_same (a1 a2 : Option Addr) (c1 c2 : Nat) (L : List Int) (n : Nat) (hl : L.length = n) (w : World) (h1 : IntsAt w a1 L) (h2 : IntsAt w a2 L) (hn : n ≤ 1048576) :
    Calls Try.prog 42 #[.slice a1 n c1, .slice a2 n c2] w fun e w' => e = .returned (.bool true) ∧ Below w.heap.size w w' := by
  go_enter Try.func42, Try.ntmps42
  go_wp2
  go_loopw [5] (fun i wr => ∃ k : Nat, k ≤ n ∧ i = .int .i64 k ∧ Below w.heap.size w wr) (fun i _ => n - (intOf i).toNat)
  case atStart => exact ⟨0, Nat.zero_le _, rfl, Below.refl _ _⟩
  case round =>
    obtain ⟨k, hk, rfl, hB⟩ := hrel
    by_cases hlt : k < n
    · obtain ⟨x, hx⟩ := getElem?_ex (l := L) (k := k) (by omega)
      obtain ⟨b1, o1, rfl, g1⟩ := (h1.below hB (Nat.le_refl _)) k x hx
      obtain ⟨b2, o2, rfl, g2⟩ := (h2.below hB (Nat.le_refl _)) k x hx
      have hne : (x != x) = false := by simp
      clear hx h1 h2 hl
      go_wp2
      go_region
      all_goals (
        go_wp2
        go_roundw
        case rel => exact ⟨k + 1, by omega, by go_num, hB.drew⟩
        case measure => simp [intOf]; omega)
    · go_wp2
      go_ret
      exact ⟨rfl, hB⟩

theorem infoInt : (Try.prog.info? 2).map (fun i => (i.zero, i.size, i.bytes)) = some (some (.int .i64 0), 1, 8) := by kernel_rfl

theorem make_ints (n : Nat) (hn : n ≤ 1048576) (w : World) :
    (Instr.makeSlice 30 (.int .i64 (n : Int)) (.int .i64 (n : Int))).run Try.prog w = .ok (.slice (some ⟨w.heap.size, 0, none⟩) n n) (w.alloc (.cells (madeCells #[.int .i64 0] n) 2)) := by
  obtain ⟨i, hi, hz⟩ := Option.map_eq_some_iff.1 infoInt
  simp only [Prod.mk.injEq] at hz
  obtain ⟨hz0, hz1, hz2⟩ := hz
  have h := run_make (P := Try.prog) w 30 2 i _ Try.underlying30 hi hz0 .i64 .i64 (n : Int) (n : Int) (by omega) (Int.le_refl _) (by rw [hz2]; omega) (by omega)
  rw [hz1] at h
  simpa [Value.cells] using h

set_option maxHeartbeats 1000000 in
theorem toInt64S_any (a : Option Addr) (c : Nat) (L : List Int) (n : Nat) (hl : L.length = n) (w : World) (h : IntsAt w a L) (hn : n ≤ 1048576) :
    Calls Try.prog 41 #[.slice a n c] w fun e w' => e = .returned (.slice (some ⟨w.heap.size, 0, none⟩) n n) ∧ RowInts w' 2 w.heap.size n L ∧ Below w.heap.size w w' := by
  have hmk := make_ints n hn
  go_enter Try.func41, Try.ntmps41
  go_wp2
  clear hmk
  go_loopw [4] (fun i wr => ∃ k : Nat, k ≤ n ∧ i = .int .i64 k ∧ RowInts wr 2 w.heap.size n (L.take k) ∧ Below w.heap.size w wr) (fun i _ => n - (intOf i).toNat)
  case atStart => exact ⟨0, Nat.zero_le _, rfl, by simpa using RowInts.made w _ _, (Below.refl _ _).alloc (Nat.le_refl _) _⟩
  case round =>
    obtain ⟨k, hk, rfl, hO, hB⟩ := hrel
    by_cases hlt : k < n
    · obtain ⟨x, hx⟩ := getElem?_ex (l := L) (k := k) (by omega)
      obtain ⟨b1, o1, rfl, g1⟩ := (h.below hB (Nat.le_refl _)) k x hx
      have c0 := World.rowIs.cell hO (i := k) hlt
      have f0 := World.rowIs.frozen hO
      have HX := hide hx
      have HO := hide hO
      clear hx h hO hl
      go_wp2
      go_roundw
      case rel => exact ⟨k + 1, by omega, by go_num, (unhide HO).put (unhide HX), hB.setCell (Nat.le_refl _) _⟩
      case measure => simp [intOf]; omega
    · have hk' : k = L.length := by omega
      subst hk'
      rw [List.take_length] at hO
      have HO := hide hO
      clear hO h
      go_wp2
      go_ret
      exact ⟨rfl, unhide HO, hB⟩

end Go.Proofs.Ytaelbmilicfkhaa
