/- The laws' own comparisons answer true where both sides hold the same. -/
import Derived.Test.YtageolbmplhgaaaChecked
import Derived.Test.YtageolbmplhgaaaMem
import Derived.WalkKit
import Derived.Outline
import Derived.Deep.RegionHeld3
namespace Go.Proofs.Ytageolbmplhgaaa
open Go.RowKit
set_option linter.unusedVariables false

theorem eqPage_same (u : Bool) (l s : Int) (d : ByteArray) (w : World) :
    Calls Try.prog 115 #[.agg #[.bool u, .int .i64 l, .int .i64 s, .string d], .agg #[.bool u, .int .i64 l, .int .i64 s, .string d]] w fun e w' => e = .returned (.bool true) ∧ Below w.heap.size w w' := by
  go_enter Try.func115, Try.ntmps115
  go_wp2
  go_ret
  exact ⟨rfl, by repeat (first | exact Below.refl _ _ | refine Below.drew ?_ | refine Below.alloc ?_ (by simp) _)⟩

set_option maxHeartbeats 1000000 in
theorem eqPageS_same (a1 a2 : Option Addr) (c1 c2 : Nat) (ps : List Pg) (w : World) (h1 : PagesAt w a1 ps) (h2 : PagesAt w a2 ps) (hn : ps.length ≤ 1048576) :
    Calls Try.prog 108 #[.slice a1 ps.length c1, .slice a2 ps.length c2] w fun e w' => e = .returned (.bool true) ∧ Below w.heap.size w w' := by
  go_enter Try.func108, Try.ntmps108
  go_wp2
  go_loopw [5] (fun i wr => ∃ k : Nat, k ≤ ps.length ∧ i = .int .i64 k ∧ Below w.heap.size w wr) (fun i _ => ps.length - (intOf i).toNat)
  case atStart => exact ⟨0, Nat.zero_le _, rfl, Below.refl _ _⟩
  case round =>
    obtain ⟨k, hk, rfl, hB⟩ := hrel
    by_cases hlt : k < ps.length
    · obtain ⟨p, hp⟩ := getElem?_ex hlt
      obtain ⟨b1, o1, rfl, g10, g11, g12, g13⟩ := (h1.below hB (Nat.le_refl _)) k p hp
      obtain ⟨b2, o2, rfl, g20, g21, g22, g23⟩ := (h2.below hB (Nat.le_refl _)) k p hp
      have hb1 : b1 < wr.heap.size := World.block_lt_of_cell? _ _ g10
      have hb2 : b2 < wr.heap.size := World.block_lt_of_cell? _ _ g20
      clear hp h1 h2
      go_wp2
      go_region_held3 (fun W => ∀ b o, b < wr.heap.size → W.cell? ⟨b, o, none⟩ = wr.cell? ⟨b, o, none⟩) (first | (intro b o hb; simp; done) | (intro b o hb; rw [hc.cell (p := ⟨b, o, none⟩) hb]; rfl))
        (first | (go_at_call 115; refine (eqPage_same _ _ _ _ _).mono ?_; rintro e w1 ⟨rfl, hc⟩))
      go_wp2
      go_roundw
      case rel => exact ⟨k + 1, by omega, by go_num, hB.drew.trans (hc.mono hB.size)⟩
      case measure => simp [intOf]; omega
    · go_wp2
      go_ret
      exact ⟨rfl, hB⟩

theorem eqBlock_same (x : Int) (a1 a2 : Option Addr) (c1 c2 : Nat) (ps : List Pg) (w : World) (h1 : PagesAt w a1 ps) (h2 : PagesAt w a2 ps) (hn : ps.length ≤ 1048576) :
    Calls Try.prog 91 #[.agg #[.int .i64 x, .slice a1 ps.length c1], .agg #[.int .i64 x, .slice a2 ps.length c2]] w fun e w' => e = .returned (.bool true) ∧ Below w.heap.size w w' := by
  go_enter Try.func91, Try.ntmps91
  go_wp2_with fail
  have hb0 : ∀ o1 o2, Below w.heap.size w ((w.alloc o1).alloc o2) := fun o1 o2 => ((Below.refl _ w).alloc (Nat.le_refl _) _).alloc (by simp) _
  refine (eqPageS_same a1 a2 c1 c2 ps _ (h1.below (hb0 _ _) (Nat.le_refl _)) (h2.below (hb0 _ _) (Nat.le_refl _)) hn).mono ?_
  rintro e w1 ⟨rfl, hc⟩
  clear h1 h2
  go_wp2
  go_ret
  exact ⟨rfl, (hb0 _ _).trans (hc.mono (by simp; omega))⟩

set_option maxHeartbeats 1000000 in
theorem eqBlockS_same (a1 a2 : Option Addr) (c1 c2 : Nat) (bs : List Bk) (w : World) (h1 : BlocksAt w a1 bs) (h2 : BlocksAt w a2 bs) (hn : Lens 1048576 bs) :
    Calls Try.prog 60 #[.slice a1 bs.length c1, .slice a2 bs.length c2] w fun e w' => e = .returned (.bool true) ∧ Below w.heap.size w w' := by
  have hn1 := hn.1
  go_enter Try.func60, Try.ntmps60
  go_wp2
  go_loopw [5] (fun i wr => ∃ k : Nat, k ≤ bs.length ∧ i = .int .i64 k ∧ Below w.heap.size w wr) (fun i _ => bs.length - (intOf i).toNat)
  case atStart => exact ⟨0, Nat.zero_le _, rfl, Below.refl _ _⟩
  case round =>
    obtain ⟨k, hk, rfl, hB⟩ := hrel
    by_cases hlt : k < bs.length
    · obtain ⟨p, hp⟩ := getElem?_ex hlt
      obtain ⟨b1, o1, pa1, pc1, rfl, g10, g11, q1⟩ := (h1.below hB (Nat.le_refl _)) k p hp
      obtain ⟨b2, o2, pa2, pc2, rfl, g20, g21, q2⟩ := (h2.below hB (Nat.le_refl _)) k p hp
      have hb1 : b1 < wr.heap.size := World.block_lt_of_cell? _ _ g10
      have hb2 : b2 < wr.heap.size := World.block_lt_of_cell? _ _ g20
      have hl := hn.at hp
      clear hp h1 h2
      go_wp2
      go_region_held3 (fun W => ∀ b o, b < wr.heap.size → W.cell? ⟨b, o, none⟩ = wr.cell? ⟨b, o, none⟩) (first | (intro b o hb; simp; done) | (intro b o hb; rw [hc.cell (p := ⟨b, o, none⟩) hb]; rfl))
        (first | (go_at_call 91; refine (eqBlock_same _ _ _ _ _ _ _ (by exact q1) (by exact q2) hl).mono ?_; rintro e w1 ⟨rfl, hc⟩))
      go_wp2
      go_roundw
      case rel => exact ⟨k + 1, by omega, by go_num, hB.drew.trans (hc.mono hB.size)⟩
      case measure => simp [intOf]; omega
    · go_wp2
      go_ret
      exact ⟨rfl, hB⟩

theorem eqChip_same (a1 a2 : Option Addr) (c1 c2 : Nat) (bs : List Bk) (w : World) (h1 : BlocksAt w a1 bs) (h2 : BlocksAt w a2 bs) (hn : Lens 1048576 bs) :
    Calls Try.prog 19 #[.agg #[.slice a1 bs.length c1], .agg #[.slice a2 bs.length c2]] w fun e w' => e = .returned (.bool true) ∧ Below w.heap.size w w' := by
  go_enter Try.func19, Try.ntmps19
  go_wp2_with fail
  have hb0 : ∀ o1 o2, Below w.heap.size w ((w.alloc o1).alloc o2) := fun o1 o2 => ((Below.refl _ w).alloc (Nat.le_refl _) _).alloc (by simp) _
  refine (eqBlockS_same a1 a2 c1 c2 bs _ (h1.below (hb0 _ _) (Nat.le_refl _)) (h2.below (hb0 _ _) (Nat.le_refl _)) hn).mono ?_
  rintro e w1 ⟨rfl, hc⟩
  clear h1 h2
  go_wp2
  go_ret
  exact ⟨rfl, (hb0 _ _).trans (hc.mono (by simp; omega))⟩
end Go.Proofs.Ytageolbmplhgaaa
