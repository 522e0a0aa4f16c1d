/- The reader that draws: next, below, once, word, near, off. -/
import Derived.Test.YtaelbmilicfkhaaChecked
import Derived.Test.YtaelbmilicfkhaaOwnI
import Derived.WalkKit
import Derived.Outline
namespace Go.Proofs.Ytaelbmilicfkhaa
open Go.RowKit
set_option linter.unusedVariables false
set_option linter.unusedSimpArgs false

/-- n bytes lie from the address a on, in a block ahead of r. -/
def BytesAt (w : World) (a : Option Addr) (n r : Nat) : Prop :=
  ∀ i, i < n → ∃ b o x, a = some ⟨b, o, none⟩ ∧ b < r ∧ w.cell? ⟨b, o + i, none⟩ = some (.int .u8 x) ∧ 0 ≤ x ∧ x < 256

theorem BytesAt.touch {w w' : World} {a : Option Addr} {n r : Nat} (h : BytesAt w a n r) (hT : Touch (· = r) w w') : BytesAt w' a n r := by
  intro i hi
  obtain ⟨b, o, x, ha, hb, hc, h0, h1⟩ := h i hi
  exact ⟨b, o, x, ha, hb, (World.cell?_of_block (w := w) (a := ⟨b, o + i, none⟩) (hT.block b (World.block_lt_of_cell? _ _ hc) (Nat.ne_of_lt hb))).trans hc, h0, h1⟩

/-- A reader over n bytes in block r. -/
def RdAt (w : World) (r : Nat) : Prop :=
  ∃ (a : Option Addr) (n c p : Nat), w.cell? ⟨r, 0, none⟩ = some (.slice a n c) ∧ w.cell? ⟨r, 1, none⟩ = some (.int .i64 (p : Int)) ∧ ((∀ i, w.frozen? ⟨r, i, none⟩ = false) ∧ ∀ i, w.cell? ⟨r, i + 2, none⟩ = none) ∧ p ≤ n ∧ n ≤ 1048576 ∧ BytesAt w a n r

theorem RdAt.lt {w : World} {r : Nat} (h : RdAt w r) : r < w.heap.size := by
  obtain ⟨a, n, c, p, h0, _⟩ := h
  exact World.block_lt_of_cell? _ _ h0

/-- What leaves the reader and all that is older as it was. -/
theorem RdAt.past {w w' : World} {r B : Nat} (h : RdAt w r) (hb : Below B w w') (hlt : r < B) : RdAt w' r := by
  obtain ⟨a, n, c, p, h0, h1, hf, h2, h3, h4⟩ := h
  refine ⟨a, n, c, p, (hb.cell (p := ⟨r, 0, none⟩) hlt).trans h0, (hb.cell (p := ⟨r, 1, none⟩) hlt).trans h1, ⟨fun i => (hb.frozen (p := ⟨r, i, none⟩) hlt).trans (hf.1 i), fun i => (hb.cell (p := ⟨r, i + 2, none⟩) hlt).trans (hf.2 i)⟩, h2, h3, fun i hi => ?_⟩
  obtain ⟨b, o, x, ha, hb', hc, hx⟩ := h4 i hi
  exact ⟨b, o, x, ha, hb', (hb.cell (p := ⟨b, o + i, none⟩) (Nat.lt_trans hb' hlt)).trans hc, hx⟩

theorem RdAt.below {w w' : World} {r : Nat} (h : RdAt w r) (hb : Below w.heap.size w w') : RdAt w' r := h.past hb h.lt

set_option maxHeartbeats 1000000 in
theorem rdNext_any (r : Nat) (w : World) (h : RdAt w r) :
    Calls Try.prog 80 #[.pointer (some ⟨r, 0, none⟩)] w fun e w' => ∃ x : Int, e = .returned (.int .i64 x) ∧ 0 ≤ x ∧ x < 256 ∧ RdAt w' r ∧ Touch (· = r) w w' := by
  obtain ⟨a, n, c, p, h0, h1, ⟨hf, hz⟩, hp, hn, hb⟩ := h
  have HZ := hide hz
  clear hz
  by_cases hlt : p < n
  · obtain ⟨b, o, x, rfl, hbr, hc, hx0, hx1⟩ := hb p hlt
    have HB := hide hb
    have hrb : ¬ r = b := by omega
    have hbr2 : ¬ b = r := by omega
    clear hb
    go_enter Try.func80, Try.ntmps80
    go_wp2
    go_region
    all_goals (
      go_wp2
      go_region
      all_goals (
        go_wp2
        go_ret
        have hT : Touch (· = r) w (w.setCell ⟨r, 1, none⟩ (.int .i64 ((p : Int) + 1))).drew.drew := ((Touch.setCell (S := fun x => x = r) (Touch.refl _ w) (p := ⟨r, 1, none⟩) rfl _).drew).drew
        refine ⟨x, rfl, hx0, hx1, ⟨_, n, c, p + 1, ?_, ?_, ⟨?_, ?_⟩, by omega, hn, (unhide HB).touch hT⟩, hT⟩
        · show (w.setCell ⟨r, 1, none⟩ _).cell? ⟨r, 0, none⟩ = _
          rw [World.cell?_setCell_other _ _ _ _ (by simp)]; exact h0
        · show (w.setCell ⟨r, 1, none⟩ _).cell? ⟨r, 1, none⟩ = _
          rw [World.cell?_setCell_same' _ _ _ (by rw [h1]; rfl)]; simp
        · intro i
          show (w.setCell ⟨r, 1, none⟩ _).frozen? ⟨r, i, none⟩ = _
          simpa using hf i
        · intro i
          show (w.setCell ⟨r, 1, none⟩ _).cell? ⟨r, i + 2, none⟩ = _
          rw [World.cell?_setCell_other _ _ _ _ (by simp <;> omega)]; exact unhide HZ i))
  · have HB := hide hb
    clear hb
    go_enter Try.func80, Try.ntmps80
    go_wp2
    go_region
    all_goals (
      go_wp2
      go_ret
      exact ⟨0, rfl, by omega, by omega, ⟨a, n, c, p, h0, h1, ⟨hf, unhide HZ⟩, hp, hn, (unhide HB).touch (Touch.refl _ w).drew⟩, (Touch.refl _ w).drew⟩)

set_option maxHeartbeats 1000000 in
theorem below_any (r : Nat) (m : Int) (w : World) (h : RdAt w r) (hm1 : 1 < m) (hm2 : m ≤ 1000000000000) :
    Calls Try.prog 65 #[.pointer (some ⟨r, 0, none⟩), .int .i64 m] w fun e w' => ∃ x : Int, e = .returned (.int .i64 x) ∧ 0 ≤ x ∧ x < m ∧ RdAt w' r ∧ Touch (· = r) w w' := by
  have hm0 : ¬ m = 0 := by omega
  go_enter Try.func65, Try.ntmps65
  by_cases hb : m ≤ 256
  · go_wp2_with fail
    refine (rdNext_any r _ h).mono ?_
    rintro e w1 ⟨x, rfl, hx0, hx1, hR, hT⟩
    have hq0 : 0 ≤ x % m := Int.emod_nonneg _ hm0
    have hq1 : x % m < m := Int.emod_lt_of_pos _ (by omega)
    have HR := hide hR
    clear h hR
    go_wp2
    go_ret
    exact ⟨_, rfl, hq0, hq1, unhide HR, hT⟩
  · go_wp2_with fail
    refine (rdNext_any r _ h).mono ?_
    rintro e w1 ⟨x, rfl, hx0, hx1, hR, hT⟩
    have HR := hide hR
    clear h hR
    go_wp2_with fail
    refine (rdNext_any r _ (unhide HR)).mono ?_
    rintro e w2 ⟨y, rfl, hy0, hy1, hR2, hT2⟩
    have hq0 : 0 ≤ (x * 256 + y) % m := Int.emod_nonneg _ hm0
    have hq1 : (x * 256 + y) % m < m := Int.emod_lt_of_pos _ (by omega)
    have HR2 := hide hR2
    clear hR2 HR
    go_wp2
    go_ret
    exact ⟨_, rfl, hq0, hq1, unhide HR2, hT.trans hT2⟩

set_option maxHeartbeats 1000000 in
theorem once_any (r : Nat) (m : Int) (w : World) (h : RdAt w r) (hm1 : 1 < m) (hm2 : m ≤ 1000000000000) :
    Calls Try.prog 67 #[.pointer (some ⟨r, 0, none⟩), .int .i64 m] w fun e w' => ∃ x : Int, e = .returned (.bool (x == m - 1)) ∧ RdAt w' r ∧ Touch (· = r) w w' := by
  go_enter Try.func67, Try.ntmps67
  go_wp2_with fail
  refine (below_any r m _ h hm1 hm2).mono ?_
  rintro e w1 ⟨x, rfl, hx0, hx1, hR, hT⟩
  have HR := hide hR
  clear h hR
  go_wp2
  go_ret
  exact ⟨x, rfl, unhide HR, hT⟩

set_option maxHeartbeats 1000000 in
theorem word_any (r : Nat) (w : World) (h : RdAt w r) :
    Calls Try.prog 81 #[.pointer (some ⟨r, 0, none⟩)] w fun e w' => ∃ x : Int, e = .returned (.int .u64 x) ∧ RdAt w' r ∧ Touch (· = r) w w' := by
  go_enter Try.func81, Try.ntmps81
  go_wp2
  go_loopw [3, 4] (fun v i wr => ∃ (k : Nat) (x : Int), k ≤ 8 ∧ i = .int .i64 k ∧ v = .int .u64 x ∧ RdAt wr r ∧ Touch (· = r) w wr) (fun _ i _ => 8 - (intOf i).toNat)
  case atStart => exact ⟨0, 0, by omega, rfl, rfl, h, Touch.refl _ _⟩
  case round =>
    obtain ⟨k, x, hk, rfl, rfl, hR, hT⟩ := hrel
    have HR := hide hR
    clear hR h
    by_cases hlt : k < 8
    · go_wp2_with fail
      refine (rdNext_any r _ (unhide HR)).mono ?_
      rintro e w1 ⟨y, rfl, hy0, hy1, hR1, hT1⟩
      have HR1 := hide hR1
      clear hR1 HR
      go_wp2
      go_roundw
      case rel => exact ⟨k + 1, _, by omega, by go_num, rfl, unhide HR1, hT.trans hT1⟩
      case measure => simp [intOf]; omega
    · go_wp2
      go_ret
      exact ⟨x, rfl, unhide HR, hT⟩

set_option maxHeartbeats 1000000 in
theorem near_any (r : Nat) (lo hi : Int) (w : World) (h : RdAt w r) (h0 : -1000000000000 ≤ lo) (h1 : lo ≤ hi) (h2 : hi ≤ 1000000000000) :
    Calls Try.prog 69 #[.pointer (some ⟨r, 0, none⟩), .int .i64 lo, .int .i64 hi] w fun e w' => ∃ x : Int, e = .returned (.int .i64 x) ∧ RdAt w' r ∧ Touch (· = r) w w' := by
  go_enter Try.func69, Try.ntmps69
  go_wp2_with fail
  refine (below_any r 8 _ h (by omega) (by omega)).mono ?_
  rintro e w1 ⟨x, rfl, hx0, hx1, hR, hT⟩
  have HR := hide hR
  clear h hR
  by_cases e0 : x = 0
  · have hb : (x == 0) = true := by simpa using e0
    go_wp2
    go_ret
    exact ⟨_, rfl, unhide HR, hT⟩
  · have hb : (x == 0) = false := by simpa using e0
    by_cases e1 : x = 1
    · have hb : (x == 1) = true := by simpa using e1
      go_wp2
      go_ret
      exact ⟨_, rfl, unhide HR, hT⟩
    · have hb : (x == 1) = false := by simpa using e1
      have hnz : ¬ hi - lo + 1 = 0 := by omega
      go_wp2_with fail
      refine (word_any r _ (unhide HR)).mono ?_
      rintro e w2 ⟨y, rfl, hR2, hT2⟩
      have HR2 := hide hR2
      clear hR2 HR
      go_wp2
      go_ret
      exact ⟨_, rfl, unhide HR2, hT.trans hT2⟩

theorem Touch.cell {S : Nat → Prop} {w w' : World} (h : Touch S w w') {b o : Nat} (hb : b < w.heap.size) (hs : ¬ S b) : w'.cell? ⟨b, o, none⟩ = w.cell? ⟨b, o, none⟩ :=
  World.cell?_of_block (w := w) (a := ⟨b, o, none⟩) (h.block b hb hs)

theorem Touch.frozen {S : Nat → Prop} {w w' : World} (h : Touch S w w') {b o : Nat} (hb : b < w.heap.size) (hs : ¬ S b) : w'.frozen? ⟨b, o, none⟩ = w.frozen? ⟨b, o, none⟩ := by
  simp [World.frozen?, h.block b hb hs]

theorem Touch.past {S : Nat → Prop} {w w' w2 : World} (h : Touch S w w') {B : Nat} (hb : Below B w' w2) (hB : w.heap.size ≤ B) : Touch S w w2 :=
  ⟨hb.os.trans h.os, hb.tape.trans h.tape, hb.output.trans h.output, Nat.le_trans h.size hb.size, fun k hk hs => (hb.block k (Nat.lt_of_lt_of_le hk hB)).trans (h.block k hk hs)⟩

theorem Touch.alloc {S : Nat → Prop} {w w' : World} (h : Touch S w w') (o : Obj) : Touch S w (w'.alloc o) :=
  h.trans (Touch.of_below ((Below.refl _ _).alloc (Nat.le_refl _) _))

set_option maxHeartbeats 1000000 in
theorem off_any (r : Nat) (lo hi : Int) (w : World) (h : RdAt w r) (h0 : -1000000000000 ≤ lo) (h1 : lo ≤ hi) (h2 : hi ≤ 1000000000000) :
    Calls Try.prog 47 #[.pointer (some ⟨r, 0, none⟩), .int .i64 lo, .int .i64 hi] w fun e w' => ∃ x : Int, e = .returned (.int .i64 x) ∧ RdAt w' r ∧ Touch (· = r) w w' := by
  go_enter Try.func47, Try.ntmps47
  go_wp2_with fail
  refine (once_any r 24 _ h (by omega) (by omega)).mono ?_
  rintro e w1 ⟨x, rfl, hR, hT⟩
  have HR := hide hR
  have hrl := hR.lt
  clear h hR
  cases hb : (x == (24 : Int) - 1) with
  | false =>
    go_wp2_with fail
    refine (near_any r lo hi _ (unhide HR) h0 h1 h2).mono ?_
    rintro e w2 ⟨y, rfl, hR2, hT2⟩
    have HR2 := hide hR2
    clear hR2 HR
    go_wp2
    go_ret
    exact ⟨_, rfl, unhide HR2, hT.trans hT2⟩
  | true =>
    go_wp2_with fail
    have hB1 : ∀ o, Below w1.heap.size w1 (w1.alloc o) := fun o => (Below.refl _ _).alloc (Nat.le_refl _) _
    refine (below_any r 4 _ ((unhide HR).below (hB1 _)) (by omega) (by omega)).mono ?_
    rintro e w2 ⟨y, rfl, hy0, hy1, hR2, hT2⟩
    have HR2 := hide hR2
    have hT3 := (hT.alloc _).trans hT2
    have hc : ∀ o, w2.cell? ⟨w1.heap.size, o, none⟩ = (w1.alloc (.cells #[.int .i64 (lo - 1), .int .i64 (hi + 1), .int .i64 (-9223372036854775808), .int .i64 9223372036854775807] 2)).cell? ⟨w1.heap.size, o, none⟩ := fun o => hT2.cell (by simp) (by show ¬ w1.heap.size = r; omega)
    have c0 : w2.cell? ⟨w1.heap.size, 0, none⟩ = some (.int .i64 (lo - 1)) := by rw [hc]; simp
    have c1 : w2.cell? ⟨w1.heap.size, 1, none⟩ = some (.int .i64 (hi + 1)) := by rw [hc]; simp
    have c2 : w2.cell? ⟨w1.heap.size, 2, none⟩ = some (.int .i64 (-9223372036854775808)) := by rw [hc]; simp
    have c3 : w2.cell? ⟨w1.heap.size, 3, none⟩ = some (.int .i64 9223372036854775807) := by rw [hc]; simp
    have h4 : y = 0 ∨ y = 1 ∨ y = 2 ∨ y = 3 := by omega
    clear hR2 HR hT2 hc hT hB1
    rcases h4 with rfl | rfl | rfl | rfl
    all_goals (
      go_wp2
      go_ret
      exact ⟨_, rfl, unhide HR2, hT3⟩)

end Go.Proofs.Ytaelbmilicfkhaa
