/- 4 texts in one. -/
import Derived.Test.YtimencianaclmaaChecked
import Derived.Test.YtimencianaclmaaG07
import Derived.Test.YtimencianaclmaaG06
import Derived.Test.YtimencianaclmaaG01
import Derived.WalkKit
import Derived.Outline
import Derived.ProofKit
import Derived.Below
import Derived.Deep.RegionHeld3

/- Lists of int64: the laws' own heldInt64S. -/
namespace Go.Proofs.Ytimencianaclmaa
open Go.RowKit
set_option linter.unusedVariables false
set_option linter.unusedSimpArgs false

set_option maxHeartbeats 1000000 in
theorem heldInt64S_any (a : Option Addr) (c n : Nat) (k : Int) (w : World) (h : IntsAt w a (marksI k n)) (hn : n ≤ 1048576) (h0 : 0 < k) (h1 : k + n ≤ 1125899906842624) :
    Calls Try.prog 127 #[.slice a n c, .int .i64 k] w fun e w' => e = .returned (.int .i64 (k + n)) ∧ w' = w := by
  go_enter Try.func127, Try.ntmps127
  go_wp2
  go_loop [1, 5] (fun v i => ∃ j : Nat, j ≤ n ∧ i = .int .i64 j ∧ v = .int .i64 (k + (j : Int))) (fun _ i => n - (intOf i).toNat)
  case atStart => exact ⟨0, Nat.zero_le _, rfl, by simp⟩
  case round =>
    obtain ⟨j, hj, rfl, rfl⟩ := hrel
    by_cases hlt : j < n
    · obtain ⟨b, o, rfl, g⟩ := h j (k + (j : Int)) (by simp [marksI, hlt])
      have hne : (k + (j : Int) != k + (j : Int)) = false := by simp
      clear h
      go_wp2
      go_round
      case rel => exact ⟨j + 1, by omega, by go_num, by go_num⟩
      case measure => simp [intOf]; omega
    · have hk' : j = n := by omega
      subst hk'
      clear h
      go_wp2
      go_ret
      exact ⟨rfl, rfl⟩
end Go.Proofs.Ytimencianaclmaa

/- What every law asks of the whole program. -/
namespace Go.Proofs.Ytimencianaclmaa
open Go.RowKit

theorem own : ownKnob Try.prog.godebug = none := by kernel_rfl
theorem laidOut : laidOutB Try.prog = true := by kernel_rfl

end Go.Proofs.Ytimencianaclmaa

/- The laws' own comparisons answer true where both sides hold the same. -/
namespace Go.Proofs.Ytimencianaclmaa
open Go.RowKit
set_option linter.unusedVariables false

theorem eqPage_same (u : Bool) (l s : Int) (d : ByteArray) (w : World) :
    Calls Try.prog 156 #[.agg #[.bool u, .int .i64 l, .int .i64 s, .string d], .agg #[.bool u, .int .i64 l, .int .i64 s, .string d]] w fun e w' => e = .returned (.bool true) ∧ Below w.heap.size w w' := by
  go_enter Try.func156, Try.ntmps156
  go_wp2
  go_ret
  exact ⟨rfl, by repeat (first | exact Below.refl _ _ | refine Below.drew ?_ | refine Below.alloc ?_ (by simp) _)⟩

set_option maxHeartbeats 1000000 in
theorem eqPageS_same (a1 a2 : Option Addr) (c1 c2 : Nat) (ps : List Pg) (w : World) (h1 : PagesAt w a1 ps) (h2 : PagesAt w a2 ps) (hn : ps.length ≤ 1048576) :
    Calls Try.prog 185 #[.slice a1 ps.length c1, .slice a2 ps.length c2] w fun e w' => e = .returned (.bool true) ∧ Below w.heap.size w w' := by
  go_enter Try.func185, Try.ntmps185
  go_wp2
  go_loopw [5] (fun i wr => ∃ k : Nat, k ≤ ps.length ∧ i = .int .i64 k ∧ Below w.heap.size w wr) (fun i _ => ps.length - (intOf i).toNat)
  case atStart => exact ⟨0, Nat.zero_le _, rfl, Below.refl _ _⟩
  case round =>
    obtain ⟨k, hk, rfl, hB⟩ := hrel
    by_cases hlt : k < ps.length
    · obtain ⟨p, hp⟩ := getElem?_ex hlt
      obtain ⟨b1, o1, rfl, g10, g11, g12, g13⟩ := (h1.below hB (Nat.le_refl _)) k p hp
      obtain ⟨b2, o2, rfl, g20, g21, g22, g23⟩ := (h2.below hB (Nat.le_refl _)) k p hp
      have hb1 : b1 < wr.heap.size := World.block_lt_of_cell? _ _ g10
      have hb2 : b2 < wr.heap.size := World.block_lt_of_cell? _ _ g20
      clear hp h1 h2
      go_wp2
      go_region_held3 (fun W => ∀ b o, b < wr.heap.size → W.cell? ⟨b, o, none⟩ = wr.cell? ⟨b, o, none⟩) (first | (intro b o hb; simp; done) | (intro b o hb; rw [hc.cell (p := ⟨b, o, none⟩) hb]; rfl))
        (first | (go_at_call 156; refine (eqPage_same _ _ _ _ _).mono ?_; rintro e w1 ⟨rfl, hc⟩))
      go_wp2
      go_roundw
      case rel => exact ⟨k + 1, by omega, by go_num, hB.drew.trans (hc.mono hB.size)⟩
      case measure => simp [intOf]; omega
    · go_wp2
      go_ret
      exact ⟨rfl, hB⟩

theorem eqBlock_same (x : Int) (a1 a2 : Option Addr) (c1 c2 : Nat) (ps : List Pg) (w : World) (h1 : PagesAt w a1 ps) (h2 : PagesAt w a2 ps) (hn : ps.length ≤ 1048576) :
    Calls Try.prog 161 #[.agg #[.int .i64 x, .slice a1 ps.length c1], .agg #[.int .i64 x, .slice a2 ps.length c2]] w fun e w' => e = .returned (.bool true) ∧ Below w.heap.size w w' := by
  go_enter Try.func161, Try.ntmps161
  go_wp2_with fail
  have hb0 : ∀ o1 o2, Below w.heap.size w ((w.alloc o1).alloc o2) := fun o1 o2 => ((Below.refl _ w).alloc (Nat.le_refl _) _).alloc (by simp) _
  refine (eqPageS_same a1 a2 c1 c2 ps _ (h1.below (hb0 _ _) (Nat.le_refl _)) (h2.below (hb0 _ _) (Nat.le_refl _)) hn).mono ?_
  rintro e w1 ⟨rfl, hc⟩
  clear h1 h2
  go_wp2
  go_ret
  exact ⟨rfl, (hb0 _ _).trans (hc.mono (by simp; omega))⟩

set_option maxHeartbeats 1000000 in
theorem eqBlockS_same (a1 a2 : Option Addr) (c1 c2 : Nat) (bs : List Bk) (w : World) (h1 : BlocksAt w a1 bs) (h2 : BlocksAt w a2 bs) (hn : Lens 1048576 bs) :
    Calls Try.prog 113 #[.slice a1 bs.length c1, .slice a2 bs.length c2] w fun e w' => e = .returned (.bool true) ∧ Below w.heap.size w w' := by
  have hn1 := hn.1
  go_enter Try.func113, Try.ntmps113
  go_wp2
  go_loopw [5] (fun i wr => ∃ k : Nat, k ≤ bs.length ∧ i = .int .i64 k ∧ Below w.heap.size w wr) (fun i _ => bs.length - (intOf i).toNat)
  case atStart => exact ⟨0, Nat.zero_le _, rfl, Below.refl _ _⟩
  case round =>
    obtain ⟨k, hk, rfl, hB⟩ := hrel
    by_cases hlt : k < bs.length
    · obtain ⟨p, hp⟩ := getElem?_ex hlt
      obtain ⟨b1, o1, pa1, pc1, rfl, g10, g11, q1⟩ := (h1.below hB (Nat.le_refl _)) k p hp
      obtain ⟨b2, o2, pa2, pc2, rfl, g20, g21, q2⟩ := (h2.below hB (Nat.le_refl _)) k p hp
      have hb1 : b1 < wr.heap.size := World.block_lt_of_cell? _ _ g10
      have hb2 : b2 < wr.heap.size := World.block_lt_of_cell? _ _ g20
      have hl := hn.at hp
      clear hp h1 h2
      go_wp2
      go_region_held3 (fun W => ∀ b o, b < wr.heap.size → W.cell? ⟨b, o, none⟩ = wr.cell? ⟨b, o, none⟩) (first | (intro b o hb; simp; done) | (intro b o hb; rw [hc.cell (p := ⟨b, o, none⟩) hb]; rfl))
        (first | (go_at_call 161; refine (eqBlock_same _ _ _ _ _ _ _ (by exact q1) (by exact q2) hl).mono ?_; rintro e w1 ⟨rfl, hc⟩))
      go_wp2
      go_roundw
      case rel => exact ⟨k + 1, by omega, by go_num, hB.drew.trans (hc.mono hB.size)⟩
      case measure => simp [intOf]; omega
    · go_wp2
      go_ret
      exact ⟨rfl, hB⟩

theorem eqChip_same (a1 a2 : Option Addr) (c1 c2 : Nat) (bs : List Bk) (w : World) (h1 : BlocksAt w a1 bs) (h2 : BlocksAt w a2 bs) (hn : Lens 1048576 bs) :
    Calls Try.prog 53 #[.agg #[.slice a1 bs.length c1], .agg #[.slice a2 bs.length c2]] w fun e w' => e = .returned (.bool true) ∧ Below w.heap.size w w' := by
  go_enter Try.func53, Try.ntmps53
  go_wp2_with fail
  have hb0 : ∀ o1 o2, Below w.heap.size w ((w.alloc o1).alloc o2) := fun o1 o2 => ((Below.refl _ w).alloc (Nat.le_refl _) _).alloc (by simp) _
  refine (eqBlockS_same a1 a2 c1 c2 bs _ (h1.below (hb0 _ _) (Nat.le_refl _)) (h2.below (hb0 _ _) (Nat.le_refl _)) hn).mono ?_
  rintro e w1 ⟨rfl, hc⟩
  clear h1 h2
  go_wp2
  go_ret
  exact ⟨rfl, (hb0 _ _).trans (hc.mono (by simp; omega))⟩
end Go.Proofs.Ytimencianaclmaa

/- The laws' own measure of an argument: it answers a number not above the one that it was given; not below nought only where no list is longer than that. -/
namespace Go.Proofs.Ytimencianaclmaa
open Go.RowKit
set_option linter.unusedVariables false

theorem szPage_any (u : Bool) (l s left : Int) (d : ByteArray) (w : World) (h0 : 0 ≤ left) (h1 : left ≤ 1048576) (hd : d.size ≤ 9223372036854775807) :
    Calls Try.prog 158 #[.agg #[.bool u, .int .i64 l, .int .i64 s, .string d], .int .i64 left] w fun e w' => ∃ n : Int, e = .returned (.int .i64 n) ∧ n ≤ left ∧ Below w.heap.size w w' := by
  by_cases hc : left - d.size < 0
  · go_enter Try.func158, Try.ntmps158
    go_wp2
    go_ret
    exact ⟨_, rfl, by omega, (Below.refl _ _).alloc (Nat.le_refl _) _⟩
  · go_enter Try.func158, Try.ntmps158
    go_wp2
    go_ret
    exact ⟨_, rfl, by omega, (Below.refl _ _).alloc (Nat.le_refl _) _⟩

set_option maxHeartbeats 1000000 in
theorem szPageS_any (a : Option Addr) (c : Nat) (ps : List Pg) (left : Int) (w : World) (h : PagesAt w a ps) (hn : ps.length ≤ 9223372036854775807) (ht : ∀ p ∈ ps, p.data.size ≤ 9223372036854775807) (h0 : 0 ≤ left) (h1 : left ≤ 1048576) :
    Calls Try.prog 183 #[.slice a ps.length c, .int .i64 left] w fun e w' => ∃ n : Int, e = .returned (.int .i64 n) ∧ n ≤ left ∧ (0 ≤ n → ps.length ≤ 1048576) ∧ Below w.heap.size w w' := by
  by_cases hc : left - ps.length < 0
  · go_enter Try.func183, Try.ntmps183
    go_wp2
    go_ret
    exact ⟨_, rfl, by omega, by omega, Below.refl _ _⟩
  · have hl : ps.length ≤ 1048576 := by omega
    go_enter Try.func183, Try.ntmps183
    go_wp2
    go_loopw [1, 5] (fun v i wr => ∃ (k : Nat) (m : Int), k ≤ ps.length ∧ i = .int .i64 k ∧ v = .int .i64 m ∧ 0 ≤ m ∧ m ≤ left ∧ Below w.heap.size w wr) (fun _ i _ => ps.length - (intOf i).toNat)
    case atStart => exact ⟨0, _, Nat.zero_le _, rfl, rfl, by omega, by omega, Below.refl _ _⟩
    case round =>
      obtain ⟨k, m, hk, rfl, rfl, hm0, hm1, hB⟩ := hrel
      by_cases hlt : k < ps.length
      · obtain ⟨p, hp⟩ := getElem?_ex hlt
        obtain ⟨b1, o1, rfl, g10, g11, g12, g13⟩ := (h.below hB (Nat.le_refl _)) k p hp
        have hd := ht p (List.mem_of_getElem? hp)
        clear hp h
        go_wp2_with fail
        refine (szPage_any _ _ _ _ _ _ hm0 (by omega) hd).mono ?_
        rintro e w1 ⟨n, rfl, hn1, hb⟩
        by_cases hneg : n < 0
        · go_wp2
          go_ret
          exact ⟨_, rfl, by omega, by omega, hB.trans (hb.mono hB.size)⟩
        · go_wp2
          go_roundw
          case rel => exact ⟨k + 1, n, by omega, by go_num, rfl, by omega, by omega, hB.trans (hb.mono hB.size)⟩
          case measure => simp [intOf]; omega
      · go_wp2
        go_ret
        exact ⟨_, rfl, hm1, fun _ => hl, hB⟩

theorem szBlock_any (x : Int) (a : Option Addr) (c : Nat) (ps : List Pg) (left : Int) (w : World) (h : PagesAt w a ps) (hn : ps.length ≤ 9223372036854775807) (ht : ∀ p ∈ ps, p.data.size ≤ 9223372036854775807) (h0 : 0 ≤ left) (h1 : left ≤ 1048576) :
    Calls Try.prog 157 #[.agg #[.int .i64 x, .slice a ps.length c], .int .i64 left] w fun e w' => ∃ n : Int, e = .returned (.int .i64 n) ∧ n ≤ left ∧ (0 ≤ n → ps.length ≤ 1048576) ∧ Below w.heap.size w w' := by
  go_enter Try.func157, Try.ntmps157
  go_wp2_with fail
  have hb0 : ∀ o1, Below w.heap.size w (w.alloc o1) := fun o1 => (Below.refl _ w).alloc (Nat.le_refl _) _
  refine (szPageS_any a c ps left _ (h.below (hb0 _) (Nat.le_refl _)) hn ht h0 h1).mono ?_
  rintro e w1 ⟨n, rfl, hn1, hn2, hb⟩
  clear h
  by_cases hneg : n < 0
  · go_wp2
    go_ret
    exact ⟨_, rfl, by omega, by omega, (hb0 _).trans (hb.mono (by simp))⟩
  · go_wp2
    go_ret
    exact ⟨_, rfl, by omega, hn2, (hb0 _).trans (hb.mono (by simp))⟩

set_option maxHeartbeats 1000000 in
theorem szBlockS_any (a : Option Addr) (c : Nat) (bs : List Bk) (left : Int) (w : World) (h : BlocksAt w a bs) (hn : Lens 9223372036854775807 bs) (ht : Texts bs) (h0 : 0 ≤ left) (h1 : left ≤ 1048576) :
    Calls Try.prog 109 #[.slice a bs.length c, .int .i64 left] w fun e w' => ∃ n : Int, e = .returned (.int .i64 n) ∧ n ≤ left ∧ (0 ≤ n → Lens 1048576 bs) ∧ Below w.heap.size w w' := by
  have hn1 := hn.1
  by_cases hc : left - bs.length < 0
  · go_enter Try.func109, Try.ntmps109
    go_wp2
    go_ret
    exact ⟨_, rfl, by omega, by omega, Below.refl _ _⟩
  · have hl : bs.length ≤ 1048576 := by omega
    go_enter Try.func109, Try.ntmps109
    go_wp2
    go_loopw [1, 5] (fun v i wr => ∃ (k : Nat) (m : Int), k ≤ bs.length ∧ i = .int .i64 k ∧ v = .int .i64 m ∧ 0 ≤ m ∧ m ≤ left ∧ (∀ j b, j < k → bs[j]? = some b → b.pages.length ≤ 1048576) ∧ Below w.heap.size w wr) (fun _ i _ => bs.length - (intOf i).toNat)
    case atStart => exact ⟨0, _, Nat.zero_le _, rfl, rfl, by omega, by omega, fun _ _ hj => absurd hj (Nat.not_lt_zero _), Below.refl _ _⟩
    case round =>
      obtain ⟨k, m, hk, rfl, rfl, hm0, hm1, hall, hB⟩ := hrel
      by_cases hlt : k < bs.length
      · obtain ⟨p, hp⟩ := getElem?_ex hlt
        obtain ⟨b1, o1, pa, pc, rfl, g10, g11, q⟩ := (h.below hB (Nat.le_refl _)) k p hp
        have hd := ht.at hp
        have hpl := hn.at hp
        have HP := hide hp
        have HA := hide hall
        clear hp h hall
        go_wp2_with fail
        refine (szBlock_any _ _ _ _ _ _ q hpl hd hm0 (by omega)).mono ?_
        rintro e w1 ⟨n, rfl, hn1, hn2, hb⟩
        have HN := hide hn2
        clear q hn2
        by_cases hneg : n < 0
        · go_wp2
          go_ret
          exact ⟨_, rfl, by omega, by omega, hB.trans (hb.mono hB.size)⟩
        · go_wp2
          go_roundw
          case rel =>
            refine ⟨k + 1, n, by omega, by go_num, rfl, by omega, by omega, ?_, hB.trans (hb.mono hB.size)⟩
            intro j b hj hbj
            by_cases e : j = k
            · subst e
              rw [unhide HP] at hbj
              cases hbj
              exact unhide HN (by omega)
            · exact unhide HA j b (by omega) hbj
          case measure => simp [intOf]; omega
      · have hfin : Lens 1048576 bs := ⟨hl, fun b hb => by
          obtain ⟨j, hj, rfl⟩ := List.getElem_of_mem hb
          exact hall j _ (by omega) (by simp [hj])⟩
        have HA := hide hall
        clear hall
        go_wp2
        go_ret
        exact ⟨_, rfl, hm1, fun _ => hfin, hB⟩

theorem szChip_any (a : Option Addr) (c : Nat) (bs : List Bk) (left : Int) (w : World) (h : BlocksAt w a bs) (hn : Lens 9223372036854775807 bs) (ht : Texts bs) (h0 : 0 ≤ left) (h1 : left ≤ 1048576) :
    Calls Try.prog 49 #[.agg #[.slice a bs.length c], .int .i64 left] w fun e w' => ∃ n : Int, e = .returned (.int .i64 n) ∧ n ≤ left ∧ (0 ≤ n → Lens 1048576 bs) ∧ Below w.heap.size w w' := by
  go_enter Try.func49, Try.ntmps49
  go_wp2_with fail
  have hb0 : ∀ o1, Below w.heap.size w (w.alloc o1) := fun o1 => (Below.refl _ w).alloc (Nat.le_refl _) _
  refine (szBlockS_any a c bs left _ (h.below (hb0 _) (Nat.le_refl _)) hn ht h0 h1).mono ?_
  rintro e w1 ⟨n, rfl, hn1, hn2, hb⟩
  have HN := hide hn2
  clear h hn2
  by_cases hneg : n < 0
  · go_wp2
    go_ret
    exact ⟨_, rfl, by omega, by omega, (hb0 _).trans (hb.mono (by simp))⟩
  · go_wp2
    go_ret
    exact ⟨_, rfl, by omega, unhide HN, (hb0 _).trans (hb.mono (by simp))⟩
end Go.Proofs.Ytimencianaclmaa
