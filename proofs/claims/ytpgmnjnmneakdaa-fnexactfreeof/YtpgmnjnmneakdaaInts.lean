/- Lists of int64: the laws' own comparison, marks, and whether they are held. -/
import Derived.Test.YtpgmnjnmneakdaaChecked
import Derived.Test.YtpgmnjnmneakdaaImplBk
import Derived.Test.YtpgmnjnmneakdaaOwn
import Derived.WalkKit
import Derived.Outline
namespace Go.Proofs.Ytpgmnjnmneakdaa
open Go.RowKit
set_option linter.unusedVariables false
set_option linter.unusedSimpArgs false

theorem IntsAt.below {w w' : World} {a : Option Addr} {L : List Int} (h : IntsAt w a L) {B : Nat} (hb : Below B w w') (hB : w.heap.size ≤ B) : IntsAt w' a L := by
  intro i x hx
  obtain ⟨b, o, ha, h0⟩ := h i x hx
  exact ⟨b, o, ha, (hb.cell (p := ⟨b, o + i, none⟩) (Nat.lt_of_lt_of_le (World.block_lt_of_cell? _ _ h0) hB)).trans h0⟩

set_option maxHeartbeats 1000000 in
theorem eqInt64S_same (a1 a2 : Option Addr) (c1 c2 : Nat) (L : List Int) (n : Nat) (hl : L.length = n) (w : World) (h1 : IntsAt w a1 L) (h2 : IntsAt w a2 L) (hn : n ≤ 1048576) :
    Calls Try.prog 34 #[.slice a1 n c1, .slice a2 n c2] w fun e w' => e = .returned (.bool true) ∧ Below w.heap.size w w' := by
  go_enter Try.func34, Try.ntmps34
  go_wp2
  go_loopw [5] (fun i wr => ∃ k : Nat, k ≤ n ∧ i = .int .i64 k ∧ Below w.heap.size w wr) (fun i _ => n - (intOf i).toNat)
  case atStart => exact ⟨0, Nat.zero_le _, rfl, Below.refl _ _⟩
  case round =>
    obtain ⟨k, hk, rfl, hB⟩ := hrel
    by_cases hlt : k < n
    · obtain ⟨x, hx⟩ := getElem?_ex (l := L) (k := k) (by omega)
      obtain ⟨b1, o1, rfl, g1⟩ := (h1.below hB (Nat.le_refl _)) k x hx
      obtain ⟨b2, o2, rfl, g2⟩ := (h2.below hB (Nat.le_refl _)) k x hx
      have hne : (x != x) = false := by simp
      clear hx h1 h2 hl
      go_wp2
      go_region
      all_goals (
        go_wp2
        go_roundw
        case rel => exact ⟨k + 1, by omega, by go_num, hB.drew⟩
        case measure => simp [intOf]; omega)
    · go_wp2
      go_ret
      exact ⟨rfl, hB⟩

def marksI (k : Int) (n : Nat) : List Int := (List.range n).map fun (i : Nat) => k + (i : Int)

set_option maxHeartbeats 1000000 in
theorem heldInt64S_any (a : Option Addr) (c n : Nat) (k : Int) (w : World) (h : IntsAt w a (marksI k n)) (hn : n ≤ 1048576) (h0 : 0 < k) (h1 : k + n ≤ 1125899906842624) :
    Calls Try.prog 36 #[.slice a n c, .int .i64 k] w fun e w' => e = .returned (.int .i64 (k + n)) ∧ w' = w := by
  go_enter Try.func36, Try.ntmps36
  go_wp2
  go_loop [1, 5] (fun v i => ∃ j : Nat, j ≤ n ∧ i = .int .i64 j ∧ v = .int .i64 (k + (j : Int))) (fun _ i => n - (intOf i).toNat)
  case atStart => exact ⟨0, Nat.zero_le _, rfl, by simp⟩
  case round =>
    obtain ⟨j, hj, rfl, rfl⟩ := hrel
    by_cases hlt : j < n
    · obtain ⟨b, o, rfl, g⟩ := h j (k + (j : Int)) (by simp [marksI, hlt])
      have hne : (k + (j : Int) != k + (j : Int)) = false := by simp
      clear h
      go_wp2
      go_round
      case rel => exact ⟨j + 1, by omega, by go_num, by go_num⟩
      case measure => simp [intOf]; omega
    · have hk' : j = n := by omega
      subst hk'
      clear h
      go_wp2
      go_ret
      exact ⟨rfl, rfl⟩

/-- The ints from the place on may be written. -/
def IntsMine (w : World) (b o n : Nat) : Prop := ∀ i, i < n → (∃ x : Int, w.cell? ⟨b, o + i, none⟩ = some (.int .i64 x)) ∧ w.frozen? ⟨b, o + i, none⟩ = false

set_option maxHeartbeats 1000000 in
theorem markInt64S_any (b o c n : Nat) (k : Int) (w : World) (h : IntsMine w b o n) (hn : n ≤ 1048576) (h0 : 0 < k) (h1 : k + n ≤ 1125899906842624) :
    Calls Try.prog 35 #[.slice (some ⟨b, o, none⟩) n c, .int .i64 k] w fun e w' => e = .returned (.int .i64 (k + n)) ∧ IntsAt w' (some ⟨b, o, none⟩) (marksI k n) ∧ Touch (· = b) w w' := by
  go_enter Try.func35, Try.ntmps35
  go_wp2
  go_loopw [1, 5] (fun v i wr => ∃ j : Nat, j ≤ n ∧ i = .int .i64 j ∧ v = .int .i64 (k + (j : Int)) ∧ IntsMine wr b o n ∧ (∀ t, t < j → wr.cell? ⟨b, o + t, none⟩ = some (.int .i64 (k + (t : Int)))) ∧ Touch (· = b) w wr) (fun _ i _ => n - (intOf i).toNat)
  case atStart => exact ⟨0, Nat.zero_le _, rfl, by simp, h, fun t ht => absurd ht (Nat.not_lt_zero _), Touch.refl _ _⟩
  case round =>
    obtain ⟨j, hj, rfl, rfl, hM, hD, hT⟩ := hrel
    by_cases hlt : j < n
    · obtain ⟨⟨x, hx⟩, hf⟩ := hM j hlt
      have HM := hide hM
      have HD := hide hD
      clear h hM hD
      go_wp2
      go_roundw
      case rel =>
        have hc : ∀ t, t ≠ j → (wr.setCell ⟨b, o + j, none⟩ (.int .i64 (k + (j : Int)))).cell? ⟨b, o + t, none⟩ = wr.cell? ⟨b, o + t, none⟩ := fun t ht => World.cell?_setCell_other _ _ _ _ (by simp <;> omega)
        have hs : (wr.setCell ⟨b, o + j, none⟩ (.int .i64 (k + (j : Int)))).cell? ⟨b, o + j, none⟩ = some (.int .i64 (k + (j : Int))) := World.cell?_setCell_same' _ _ _ (by rw [hx]; rfl)
        refine ⟨j + 1, by omega, by go_num, by go_num, fun i hi => ?_, fun t ht => ?_, hT.setCell rfl _⟩
        · obtain ⟨⟨y, hy⟩, hfy⟩ := unhide HM i hi
          refine ⟨?_, by simpa using hfy⟩
          by_cases e : i = j
          · subst e; exact ⟨_, hs⟩
          · exact ⟨y, (hc i e).trans hy⟩
        · by_cases e : t = j
          · subst e; exact hs
          · exact (hc t e).trans (unhide HD t (by omega))
      case measure => simp [intOf]; omega
    · have hk' : j = n := by omega
      subst hk'
      have HD := hide hD
      clear h hM hD
      go_wp2
      go_ret
      refine ⟨rfl, fun i x hx => ⟨b, o, rfl, ?_⟩, hT⟩
      have hi : i < j := by have := (List.getElem?_eq_some_iff.1 hx).1; simpa [marksI] using this
      simp [marksI, hi] at hx
      subst hx
      exact unhide HD i hi
end Go.Proofs.Ytpgmnjnmneakdaa
