/- Whatever the code, the law FnPageAt answers true: what is read is what the newest page of its log has. No condition. -/
import Derived.Test.YtalgkmellbamgaaRows
import Derived.Test.YtalgkmellbamgaaG25
import Derived.Test.YtalgkmellbamgaaG27
import Derived.Test.YtalgkmellbamgaaG08
import Derived.Test.YtalgkmellbamgaaG20
import Derived.WalkKit
import Derived.ProofKit
import Derived.OpenShut
import Derived.ChangeOld
import Derived.Below
namespace Go.Proofs.Ytalgkmellbamgaa.fnPageAt
open Go.ChangeShapes Go.WideShapes Go.ChangeAt Go.RowKit
set_option linter.unusedVariables false
set_option linter.unusedSimpArgs false

theorem lens9P {bs : List Bk} (h : Lens 1048576 bs) : Lens 9223372036854775807 bs := ⟨by have := h.1; omega, fun b hb => by have := h.2 b hb; omega⟩
def seqIn : Option (Int × Pg) → Int
  | none => 0
  | some y => y.2.seq
def dataIn : Option (Int × Pg) → ByteArray
  | none => zeros4
  | some y => y.2.data
theorem dataIn_read (bs : List Bk) (lg : Int) : dataIn (newestAt (usedOf bs) lg) = readOf bs lg := by
  unfold readOf
  cases newestAt (usedOf bs) lg <;> rfl
theorem pick_yes {lg : Int} {cur : Option (Int × Pg)} {x : Int × Pg} (hl : x.2.log = lg) (h : seqIn cur < x.2.seq) : pick lg cur x = some x := by
  unfold pick
  rw [if_pos]
  refine ⟨hl, ?_⟩
  cases cur with
  | none => rfl
  | some y => simpa [newer, seqIn] using h
theorem pick_no {lg : Int} {cur : Option (Int × Pg)} {x : Int × Pg} (h0 : 1 ≤ x.2.seq) (h : ¬ (x.2.log = lg ∧ seqIn cur < x.2.seq)) : pick lg cur x = cur := by
  unfold pick
  rw [if_neg]
  rintro ⟨h1, h2⟩
  refine h ⟨h1, ?_⟩
  cases cur with
  | none => simp only [seqIn]; omega
  | some y => simpa [newer, seqIn] using h2

set_option maxRecDepth 100000 in
set_option maxHeartbeats 8000000 in
theorem walk (a : Option Addr) (n c : Nat) (w : World) (h : CodeAt w a n) (hn : n ≤ 9223372036854775807) :
    Calls Try.prog 5 #[.slice a n c] w fun e w' => e = .returned (.bool true) ∧ Below w.heap.size w w' := by
  have HC := hide h
  have hmix : Try.prog.follows .mixedOrders = true := by kernel_rfl
  clear h
  go_enter Try.func5, Try.ntmps5
  go_wp2_with fail
  refine (big_any a n c _ hn).mono ?_
  rintro e w0 ⟨rfl, rfl⟩
  by_cases hbig : (1048576 : Int) < (n : Int)
  · have hd : decide ((1048576 : Int) < (n : Int)) = true := by simpa using hbig
    rw [hd]
    clear hd
    go_wp2
    go_ret
    exact ⟨rfl, Below.refl _ _⟩
  have hd : decide ((1048576 : Int) < (n : Int)) = false := by simpa using hbig
  have hbig' : n ≤ 1048576 := by omega
  rw [hd]
  clear hd hbig
  go_wp2_with fail
  refine (drawPageAt_any a n c _ (unhide HC) hbig').mono ?_
  rintro e w1 ⟨a1, n1, c1, ma, mn, mc, m, lg, rfl, hM1, hS1, hW1⟩
  have hs1 := hW1.size
  have HSH := hide hS1
  obtain ⟨w2, hw2⟩ : ∃ w2, w2 = w1.alloc (.cells #[.slice a1 n1 c1, .slice ma mn mc, .int .i64 m.seq, .int .i64 m.o] 44) := ⟨_, rfl⟩
  have hB2 : Below w1.heap.size w1 w2 := by rw [hw2]; exact (Below.refl _ _).alloc (Nat.le_refl _) _
  have HX2 : Hid (BoxAt w2 w1.heap.size a1 n1 c1 ma mn mc m.seq m.o) := by rw [hw2]; exact BoxAt.alloc _ _ _ _ _ _ _ _ _ _
  have HM2 := hide (hM1.below hB2)
  have hW2 := hW1.trans (hB2.mono hW1.size)
  have hmn : mn ≤ 36 := by have := hS1.2.2; have := hM1.L; omega
  have hl1 : w1.heap.size < w2.heap.size := (unhide HX2).lt
  clear HC hM1 hS1 hB2 hW1
  obtain ⟨x0, x1, x2, x3⟩ := (unhide HX2).cells
  go_wp2_with fail
  rw [← hw2]
  clear hw2
  refine (implPageAt_any a1 c1 m.bs n1 (unhide HM2).bs ma mc m.L mn (unhide HM2).L m.seq m.o lg _ (unhide HM2).blocks (lens9P (unhide HSH).1) (unhide HM2).ints (by omega)).mono ?_
  rintro e w3 ⟨d, r, rfl, hP3, hB3⟩
  have hs3 := hB3.size
  have HX3 := hide ((unhide HX2).below hB3 (by omega))
  have HM3 := hide ((unhide HM2).below hB3)
  have hW3 := hW2.trans (hB3.mono hW2.size)
  have HP := hide hP3
  clear hB3 hP3 HX2 HM2 hW2 x0 x1 x2 x3
  obtain ⟨x0, x1, x2, x3⟩ := (unhide HX3).cells
  go_wp2_with fail
  refine (specPageAt_any a1 c1 m.bs n1 (unhide HM3).bs ma mc m.L mn (unhide HM3).L m.seq m.o lg _ (unhide HM3).blocks (unhide HSH).1 (unhide HM3).ints (by omega)).mono ?_
  rintro e w4 ⟨d4, r4, rfl, hP4, hB4⟩
  obtain ⟨rfl, rfl⟩ := hP4.one (unhide HP)
  have hs4 := hB4.size
  have HX4 := hide ((unhide HX3).below hB4 (by omega))
  have HM4 := hide ((unhide HM3).below hB4)
  have hW4 := hW3.trans (hB4.mono hW3.size)
  have hl14 : w1.heap.size < w4.heap.size := by omega
  clear hB4 hP4 HX3 HM3 hW3 x0 x1 x2 x3
  obtain ⟨q, hq⟩ : ∃ q : Bool, q = true ↔ FtlOk m.bs m.L m.seq m.o := by
    by_cases h : FtlOk m.bs m.L m.seq m.o
    · exact ⟨true, by simp [h]⟩
    · exact ⟨false, by simp [h]⟩
  have HQ := hide hq
  clear hq
  cases r4 with
  | false =>
    clear HP
    go_wp2_with fail
    refine wp_region_grown (Below w4.heap.size w4) hmix (by kernel_rfl) (below_drawn w4) ?_
    go_big_quiet_step (exact fun _ => rfl)
    go_big_quiet_step (exact fun _ => rfl)
    refine wpQuiet_val rfl (.bool false) (fun W hC => ?_) ?_
    · go_simp
    simp only [Act.put, List.setIfInBounds_toArray, List.set_cons_zero, List.set_cons_succ]
    go_big_quiet_step (exact fun _ => rfl)
    go_big_quiet_step (exact fun _ => rfl)
    go_big_quiet_step (exact fun _ => rfl)
    refine wpQuiet_val rfl (.bool false) (fun W hC => ?_) ?_
    · go_simp
    simp only [Act.put, List.setIfInBounds_toArray, List.set_cons_zero, List.set_cons_succ]
    go_big_quiet_step (exact fun _ => rfl)
    go_big_quiet_step (exact fun _ => rfl)
    refine wpQuiet_val rfl (.agg #[.slice a1 n1 c1, .slice ma mn mc, .int .i64 m.seq, .int .i64 m.o]) (fun W hC => ?_) ?_
    · obtain ⟨q0, q1, q2, q3⟩ := ((unhide HX4).below hC (unhide HX4).lt).cells
      go_simp
    simp only [Act.put, List.setIfInBounds_toArray, List.set_cons_zero, List.set_cons_succ]
    refine wpQuiet_val rfl (.bool q) (fun W hC => ?_) ?_
    · go_simp
      refine (implFtlOk_any a1 c1 m.bs n1 (unhide HM4).bs ma mc m.L mn (unhide HM4).L m.seq m.o W ((unhide HM4).blocks.below hC (Nat.le_refl _)) (lens9P (unhide HSH).1) ((unhide HM4).ints.below hC (Nat.le_refl _)) (by omega)).mono ?_
      rintro e w' ⟨⟨r7, rfl, hr7⟩, hB'⟩
      obtain rfl : r7 = q := by rw [Bool.eq_iff_iff]; exact hr7.trans (unhide HQ).symm
      exact ⟨rfl, hC.trans (hB'.mono hC.size)⟩
    simp only [Act.put, List.setIfInBounds_toArray, List.set_cons_zero, List.set_cons_succ]
    refine wpQuiet_val rfl (.agg #[.slice a1 n1 c1, .slice ma mn mc, .int .i64 m.seq, .int .i64 m.o]) (fun W hC => ?_) ?_
    · obtain ⟨q0, q1, q2, q3⟩ := ((unhide HX4).below hC (unhide HX4).lt).cells
      go_simp
    simp only [Act.put, List.setIfInBounds_toArray, List.set_cons_zero, List.set_cons_succ]
    refine wpQuiet_val rfl (.bool q) (fun W hC => ?_) ?_
    · go_simp
      refine (specFtlOk_any a1 c1 m.bs n1 (unhide HM4).bs ma mc m.L mn (unhide HM4).L m.seq m.o W ((unhide HM4).blocks.below hC (Nat.le_refl _)) (unhide HSH).1 ((unhide HM4).ints.below hC (Nat.le_refl _)) (by omega)).mono ?_
      rintro e w' ⟨⟨r7, rfl, hr7⟩, hB'⟩
      obtain rfl : r7 = q := by rw [Bool.eq_iff_iff]; exact hr7.trans (unhide HQ).symm
      exact ⟨rfl, hC.trans (hB'.mono hC.size)⟩
    simp only [Act.put, List.setIfInBounds_toArray, List.set_cons_zero, List.set_cons_succ]
    refine wpQuiet_val rfl (.bool false) (fun W hC => ?_) ?_
    · cases q <;> go_simp
    simp only [Act.put, List.setIfInBounds_toArray, List.set_cons_zero, List.set_cons_succ]
    go_big_quiet_step (exact fun _ => rfl)
    go_big_quiet_step (exact fun _ => rfl)
    go_big_quiet_step (exact fun _ => rfl)
    refine wpQuiet_val rfl (.bool true) (fun W hC => ?_) ?_
    · go_simp
    simp only [Act.put, List.setIfInBounds_toArray, List.set_cons_zero, List.set_cons_succ]
    go_big_quiet_step (exact fun _ => rfl)
    refine wpQuiet_nil ?_
    intro w5 hC5
    have hW5 := hW4.trans (hC5.mono hW4.size)
    have HX5 := hide ((unhide HX4).below hC5 hl14)
    have HM5 := hide ((unhide HM4).below hC5)
    clear hC5
    go_wp2_with fail
    refine wp_region_grown (Below w5.heap.size w5) hmix (by kernel_rfl) (below_drawn w5) ?_
    go_big_quiet_step (exact fun _ => rfl)
    go_big_quiet_step (exact fun _ => rfl)
    refine wpQuiet_val rfl (.bool true) (fun W hC => ?_) ?_
    · go_simp
    simp only [Act.put, List.setIfInBounds_toArray, List.set_cons_zero, List.set_cons_succ]
    go_big_quiet_step (exact fun _ => rfl)
    go_big_quiet_step (exact fun _ => rfl)
    go_big_quiet_step (exact fun _ => rfl)
    refine wpQuiet_val rfl (.bool true) (fun W hC => ?_) ?_
    · go_simp
    simp only [Act.put, List.setIfInBounds_toArray, List.set_cons_zero, List.set_cons_succ]
    go_big_quiet_step (exact fun _ => rfl)
    go_big_quiet_step (exact fun _ => rfl)
    refine wpQuiet_val rfl (.agg #[.slice a1 n1 c1, .slice ma mn mc, .int .i64 m.seq, .int .i64 m.o]) (fun W hC => ?_) ?_
    · obtain ⟨q0, q1, q2, q3⟩ := ((unhide HX5).below hC (unhide HX5).lt).cells
      go_simp
    simp only [Act.put, List.setIfInBounds_toArray, List.set_cons_zero, List.set_cons_succ]
    refine wpQuiet_val rfl (.bool q) (fun W hC => ?_) ?_
    · go_simp
      refine (implFtlOk_any a1 c1 m.bs n1 (unhide HM5).bs ma mc m.L mn (unhide HM5).L m.seq m.o W ((unhide HM5).blocks.below hC (Nat.le_refl _)) (lens9P (unhide HSH).1) ((unhide HM5).ints.below hC (Nat.le_refl _)) (by omega)).mono ?_
      rintro e w' ⟨⟨r7, rfl, hr7⟩, hB'⟩
      obtain rfl : r7 = q := by rw [Bool.eq_iff_iff]; exact hr7.trans (unhide HQ).symm
      exact ⟨rfl, hC.trans (hB'.mono hC.size)⟩
    simp only [Act.put, List.setIfInBounds_toArray, List.set_cons_zero, List.set_cons_succ]
    refine wpQuiet_val rfl (.agg #[.slice a1 n1 c1, .slice ma mn mc, .int .i64 m.seq, .int .i64 m.o]) (fun W hC => ?_) ?_
    · obtain ⟨q0, q1, q2, q3⟩ := ((unhide HX5).below hC (unhide HX5).lt).cells
      go_simp
    simp only [Act.put, List.setIfInBounds_toArray, List.set_cons_zero, List.set_cons_succ]
    refine wpQuiet_val rfl (.bool q) (fun W hC => ?_) ?_
    · go_simp
      refine (specFtlOk_any a1 c1 m.bs n1 (unhide HM5).bs ma mc m.L mn (unhide HM5).L m.seq m.o W ((unhide HM5).blocks.below hC (Nat.le_refl _)) (unhide HSH).1 ((unhide HM5).ints.below hC (Nat.le_refl _)) (by omega)).mono ?_
      rintro e w' ⟨⟨r7, rfl, hr7⟩, hB'⟩
      obtain rfl : r7 = q := by rw [Bool.eq_iff_iff]; exact hr7.trans (unhide HQ).symm
      exact ⟨rfl, hC.trans (hB'.mono hC.size)⟩
    simp only [Act.put, List.setIfInBounds_toArray, List.set_cons_zero, List.set_cons_succ]
    refine wpQuiet_val rfl (.bool true) (fun W hC => ?_) ?_
    · cases q <;> go_simp
    simp only [Act.put, List.setIfInBounds_toArray, List.set_cons_zero, List.set_cons_succ]
    go_big_quiet_step (exact fun _ => rfl)
    go_big_quiet_step (exact fun _ => rfl)
    refine wpQuiet_nil ?_
    intro w6 hC6
    have hW6 := hW5.trans (hC6.mono hW5.size)
    clear hC6
    go_wp2
    go_ret
    exact ⟨rfl, hW6⟩
  | true =>
    go_wp2_with fail
    refine wp_region_grown (Below w4.heap.size w4) hmix (by kernel_rfl) (below_drawn w4) ?_
    go_big_quiet_step (exact fun _ => rfl)
    go_big_quiet_step (exact fun _ => rfl)
    refine wpQuiet_val rfl (.bool false) (fun W hC => ?_) ?_
    · go_simp
    simp only [Act.put, List.setIfInBounds_toArray, List.set_cons_zero, List.set_cons_succ]
    go_big_quiet_step (exact fun _ => rfl)
    go_big_quiet_step (exact fun _ => rfl)
    go_big_quiet_step (exact fun _ => rfl)
    refine wpQuiet_val rfl (.bool false) (fun W hC => ?_) ?_
    · go_simp
    simp only [Act.put, List.setIfInBounds_toArray, List.set_cons_zero, List.set_cons_succ]
    go_big_quiet_step (exact fun _ => rfl)
    go_big_quiet_step (exact fun _ => rfl)
    refine wpQuiet_val rfl (.agg #[.slice a1 n1 c1, .slice ma mn mc, .int .i64 m.seq, .int .i64 m.o]) (fun W hC => ?_) ?_
    · obtain ⟨q0, q1, q2, q3⟩ := ((unhide HX4).below hC (unhide HX4).lt).cells
      go_simp
    simp only [Act.put, List.setIfInBounds_toArray, List.set_cons_zero, List.set_cons_succ]
    refine wpQuiet_val rfl (.bool q) (fun W hC => ?_) ?_
    · go_simp
      refine (implFtlOk_any a1 c1 m.bs n1 (unhide HM4).bs ma mc m.L mn (unhide HM4).L m.seq m.o W ((unhide HM4).blocks.below hC (Nat.le_refl _)) (lens9P (unhide HSH).1) ((unhide HM4).ints.below hC (Nat.le_refl _)) (by omega)).mono ?_
      rintro e w' ⟨⟨r7, rfl, hr7⟩, hB'⟩
      obtain rfl : r7 = q := by rw [Bool.eq_iff_iff]; exact hr7.trans (unhide HQ).symm
      exact ⟨rfl, hC.trans (hB'.mono hC.size)⟩
    simp only [Act.put, List.setIfInBounds_toArray, List.set_cons_zero, List.set_cons_succ]
    refine wpQuiet_val rfl (.agg #[.slice a1 n1 c1, .slice ma mn mc, .int .i64 m.seq, .int .i64 m.o]) (fun W hC => ?_) ?_
    · obtain ⟨q0, q1, q2, q3⟩ := ((unhide HX4).below hC (unhide HX4).lt).cells
      go_simp
    simp only [Act.put, List.setIfInBounds_toArray, List.set_cons_zero, List.set_cons_succ]
    refine wpQuiet_val rfl (.bool q) (fun W hC => ?_) ?_
    · go_simp
      refine (specFtlOk_any a1 c1 m.bs n1 (unhide HM4).bs ma mc m.L mn (unhide HM4).L m.seq m.o W ((unhide HM4).blocks.below hC (Nat.le_refl _)) (unhide HSH).1 ((unhide HM4).ints.below hC (Nat.le_refl _)) (by omega)).mono ?_
      rintro e w' ⟨⟨r7, rfl, hr7⟩, hB'⟩
      obtain rfl : r7 = q := by rw [Bool.eq_iff_iff]; exact hr7.trans (unhide HQ).symm
      exact ⟨rfl, hC.trans (hB'.mono hC.size)⟩
    simp only [Act.put, List.setIfInBounds_toArray, List.set_cons_zero, List.set_cons_succ]
    refine wpQuiet_val rfl (.bool false) (fun W hC => ?_) ?_
    · cases q <;> go_simp
    simp only [Act.put, List.setIfInBounds_toArray, List.set_cons_zero, List.set_cons_succ]
    go_big_quiet_step (exact fun _ => rfl)
    go_big_quiet_step (exact fun _ => rfl)
    go_big_quiet_step (exact fun _ => rfl)
    refine wpQuiet_val rfl (.bool false) (fun W hC => ?_) ?_
    · go_simp
    simp only [Act.put, List.setIfInBounds_toArray, List.set_cons_zero, List.set_cons_succ]
    go_big_quiet_step (exact fun _ => rfl)
    refine wpQuiet_nil ?_
    intro w5 hC5
    have hs5 := hC5.size
    have HX5 := hide ((unhide HX4).below hC5 hl14)
    have HM5 := hide ((unhide HM4).below hC5)
    have hW5 := hW4.trans (hC5.mono hW4.size)
    obtain ⟨hok, hlg0, hlg1, x, hx, hdx⟩ : FtlOk m.bs m.L m.seq m.o ∧ 0 ≤ lg ∧ lg ≤ (m.L.length : Int) - 1 ∧ ∃ x, m.L[lg.toNat]? = some x ∧ d4 = dataOf m.bs x := by
      rcases unhide HP with ⟨⟨h1, h2, h3⟩, _, h4⟩ | ⟨_, h, _⟩
      · exact ⟨h1, h2, h3, h4⟩
      · cases h
    have hlt : ((lg.toNat : Nat) : Int) = lg := by omega
    have hrd := hok.read hx
    rw [hlt] at hrd
    have HD : Hid (d4 = readOf m.bs lg) := hdx.trans hrd
    have HOK := hide hok
    have hn12 : n1 ≤ 12 := by have := hok.chip.count; have := (unhide HM5).bs; omega
    have hl15 : w1.heap.size < w5.heap.size := by omega
    clear hok hx hdx hrd hlt HP HQ HX4 HM4 hC5 hW4 hlg1
    go_wp2
    go_loopw [9, 10, 11] (fun vn vd vi wr => ∃ b : Nat, b ≤ n1 ∧ vi = .int .i64 b ∧ vn = .int .i64 (seqIn (newestAt (usedAll (mOf m.bs) b) lg)) ∧ vd = .string (dataIn (newestAt (usedAll (mOf m.bs) b) lg)) ∧ Below w5.heap.size w5 wr) (fun _ _ vi _ => n1 - (intOf vi).toNat)
    case atStart => exact ⟨0, Nat.zero_le _, rfl, rfl, rfl, Below.refl _ _⟩
    case round =>
      obtain ⟨b, hb, rfl, rfl, rfl, hB⟩ := hrel
      obtain ⟨w6, rfl⟩ : ∃ w6, w6 = wr := ⟨_, rfl⟩
      have hs6 := hB.size
      obtain ⟨x0, x1, x2, x3⟩ := ((unhide HX5).below hB hl15).cells
      have HB6 := hide hB
      clear hB
      by_cases hlt : b < n1
      · have hbi : (b : Int) < (n1 : Int) := by omega
        obtain ⟨y, hy⟩ := getElem?_ex (l := m.bs) (k := b) (by have := (unhide HM5).bs; omega)
        have h4 := ((unhide HOK).chip.block y (List.mem_of_getElem? hy)).four
        have HY := hide hy
        clear hy
        go_wp2
        go_loopw [9, 10, 12] (fun vn vd vi wr => ∃ k : Nat, k ≤ 4 ∧ vi = .int .i64 k ∧ vn = .int .i64 (seqIn (newestAt (usedAll (mOf m.bs) b ++ usedB (mOf m.bs) b k) lg)) ∧ vd = .string (dataIn (newestAt (usedAll (mOf m.bs) b ++ usedB (mOf m.bs) b k) lg)) ∧ Below w5.heap.size w5 wr) (fun _ _ vi _ => 4 - (intOf vi).toNat)
        case atStart => exact ⟨0, Nat.zero_le _, rfl, by simp [usedB], by simp [usedB], unhide HB6⟩
        case round =>
          clear x0 x1 x2 x3 HB6
          obtain ⟨k, hk, rfl, rfl, rfl, hB⟩ := hrel
          obtain ⟨w7, rfl⟩ : ∃ w7, w7 = wr := ⟨_, rfl⟩
          have hs7 := hB.size
          obtain ⟨x0, x1, x2, x3⟩ := ((unhide HX5).below hB hl15).cells
          obtain ⟨g1, o1, pa, pc, rfl, hcw, hcp, hpa⟩ := (unhide HM5).blocks.below hB (Nat.le_refl _) b y (unhide HY)
          rw [h4] at hcp
          have hl17 : w1.heap.size < w7.heap.size := by omega
          have hg1 : g1 < w7.heap.size := World.block_lt_of_cell? _ _ hcw
          have HB7 := hide hB
          clear hB
          by_cases hlt2 : k < 4
          · obtain ⟨p, hp⟩ := getElem?_ex (l := y.pages) (k := k) (by omega)
            obtain ⟨g2, o2, rfl, c0, c1, c2, c3⟩ := hpa k p hp
            have hg2 : g2 < w7.heap.size := World.block_lt_of_cell? _ _ c0
            have hpg := mOf_page (unhide HY) hp
            have hsu := usedB_succ (mOf m.bs) b k
            rw [hpg] at hsu
            have hpok := ((unhide HOK).chip.block y (List.mem_of_getElem? (unhide HY))).page k p hp
            obtain ⟨cur, hcur⟩ : ∃ cur, cur = newestAt (usedAll (mOf m.bs) b ++ usedB (mOf m.bs) b k) lg := ⟨_, rfl⟩
            have hnx : newestAt (usedAll (mOf m.bs) b ++ usedB (mOf m.bs) b (k + 1)) lg = if p.used then pick lg cur ((b : Int) * 4 + (k : Int), p) else cur := by
              rw [hsu, hcur]
              cases hu : p.used with
              | true => simp [← List.append_assoc, newestAt_snoc]
              | false => simp
            rw [← hcur]
            obtain ⟨u, l, s, dd⟩ := p
            simp only at c0 c1 c2 c3 hnx
            have HNX := hide hnx
            have hki : (k : Int) < 4 := by omega
            have HGO : Hid (∀ b' : Option (Int × Pg), b' = newestAt (usedAll (mOf m.bs) b ++ usedB (mOf m.bs) b (k + 1)) lg → ∃ k' : Nat, k' ≤ 4 ∧ Value.int .i64 ((k : Int) + 1) = .int .i64 k' ∧ Value.int .i64 (seqIn b') = .int .i64 (seqIn (newestAt (usedAll (mOf m.bs) b ++ usedB (mOf m.bs) b k') lg)) ∧ Value.string (dataIn b') = .string (dataIn (newestAt (usedAll (mOf m.bs) b ++ usedB (mOf m.bs) b k') lg)) ∧ Below w5.heap.size w5 (w7.alloc (.cells #[.bool u, .int .i64 l, .int .i64 s, .string dd] 28))) := fun b' hb' => ⟨k + 1, by omega, by simp, by rw [hb'], by rw [hb'], (unhide HB7).alloc (by omega) _⟩
            clear hpa hp hpg hsu hcur hnx hcw
            cases u with
            | false =>
              have hfin : cur = newestAt (usedAll (mOf m.bs) b ++ usedB (mOf m.bs) b (k + 1)) lg := by rw [unhide HNX]; rfl
              have HFIN := hide hfin
              clear hfin hpok
              go_wp2
              go_roundw
              case rel => exact unhide HGO _ (unhide HFIN)
              case measure => simp [intOf]; omega
            | true =>
              have h1s : 1 ≤ s := by simp [pgOk, rightUsed] at hpok; omega
              clear hpok
              by_cases hyes : l = lg ∧ seqIn cur < s
              · obtain ⟨rfl, hsq⟩ := hyes
                have hfin : some ((b : Int) * 4 + (k : Int), (⟨true, l, s, dd⟩ : Pg)) = newestAt (usedAll (mOf m.bs) b ++ usedB (mOf m.bs) b (k + 1)) l := by rw [unhide HNX]; simp only [if_true]; rw [pick_yes (x := ((b : Int) * 4 + (k : Int), (⟨true, l, s, dd⟩ : Pg))) rfl hsq]
                have HFIN := hide hfin
                clear hfin
                go_wp2
                go_roundw
                case rel => exact unhide HGO _ (unhide HFIN)
                case measure => simp [intOf]; omega
              · have hfin : cur = newestAt (usedAll (mOf m.bs) b ++ usedB (mOf m.bs) b (k + 1)) lg := by rw [unhide HNX]; simp only [if_true]; rw [pick_no (by simpa using h1s) hyes]
                have HFIN := hide hfin
                clear hfin
                by_cases hl : l = lg
                · have hb1 : (l == lg) = true := by simpa using hl
                  have hsq : ¬ seqIn cur < s := fun h => hyes ⟨hl, h⟩
                  clear hyes hl
                  go_wp2
                  go_roundw
                  case rel => exact unhide HGO _ (unhide HFIN)
                  case measure => simp [intOf]; omega
                · have hb1 : (l == lg) = false := by simpa using hl
                  clear hyes hl
                  go_wp2
                  go_roundw
                  case rel => exact unhide HGO _ (unhide HFIN)
                  case measure => simp [intOf]; omega
          · obtain rfl : k = 4 := by omega
            have husu := usedAll_succ (mOf m.bs) b
            have HU : Hid (usedAll (mOf m.bs) b ++ usedB (mOf m.bs) b 4 = usedAll (mOf m.bs) (b + 1)) := husu.symm
            clear hpa hcw husu
            go_wp2
            go_roundw
            case rel =>
              refine ⟨b + 1, by omega, by go_num, by rw [unhide HU], by rw [unhide HU], unhide HB7⟩
            case measure => simp [intOf]; omega
      · obtain rfl : b = n1 := by omega
        have hW6 := hW5.trans ((unhide HB6).mono hW5.size)
        have hdd : dataIn (newestAt (usedAll (mOf m.bs) b) lg) = d4 := by
          rw [unhide HD, ← dataIn_read]
          unfold usedOf
          rw [(unhide HM5).bs]
        rw [hdd]
        clear hdd
        go_wp2
        go_ret
        exact ⟨by simp, hW6⟩

set_option maxRecDepth 100000 in
theorem lifted (os : Os) (started : os.Started) (H : Type) (enc : TypeId × Value → H) :
    ReturnsInHanded {} Try.checked os 5 .any (Rows.fnPageAtSpec.pre6 enc Try.prog Try.f5 Rows.fnPageAtRow.domain false) (Rows.fnPageAtSpec.post enc Try.prog Try.f5 false true false false) := by
  refine returnsInHanded_of_change (C := Try.checked) own started (by kernel_rfl) Try.func5
    (ChangeSpec.witness6 (enc := enc) (C := Try.checked) false ⟨#[], #[.slice none 0 0], []⟩ 8 (by kernel_rfl) (by kernel_rfl) (by kernel_rfl) (by kernel_rfl)) ?_
  intro W base args ds gs before hval0 hW hcnd _
  have hval : ∀ (j : Nat) t v, Try.f5.params[j]? = some t → args[j]? = some v → Value.okWide Try.prog W .any base t v := hval0
  have hW' := hW
  obtain ⟨p, q, hA0, hV, rfl, hfz, hnd⟩ := hW
  have hA : DataW.TrodAll enc Try.prog W 0 (fun _ => true) true Try.f5.params.toList args.toList ds p := hA0
  rw [Try.params5] at hA hval
  obtain ⟨v0, vs0, d0, ds0, p0, q0, hargs, rfl, rfl, h0, r0⟩ := trodAll_cons hA
  obtain ⟨rfl, rfl, rfl⟩ := trodAll_nil r0
  obtain rfl : args = #[v0] := by cases args; simp_all
  obtain ⟨rfl, rfl⟩ := trodVars_none hV
  have k0 := h0
  have lt0 : ∀ x ∈ p0, x.block < W.heap.size := by obtain ⟨m, hm⟩ := k0; exact DataW.trod_lt m _ _ _ hm
  obtain ⟨a, n, c, rfl, hL, hlen⟩ := open_code Try.underlying22 Try.underlying5 (by kernel_rfl) (hval 0 22 v0 rfl rfl) h0

  clear hA0 hval0
  refine (walk a n c W hL hlen).mono fun e W' ⟨he, bel⟩ => ?_
  subst he
  exact ⟨_, rfl, _, _, _, [], _, [], hW', trodAll_mk1 (shut_bool Try.underlying4 _), (trodAll_cons_mk (Below.trod laidOut (by kernel_rfl) (of_decide_eq_true (by kernel_rfl)) k0 bel lt0) trodAll_mk0), rfl, bel.frame _, fun h => by cases h⟩

theorem over : Rows.fnPageAtRow.holds Try.pinned (OpenSpec.ofChange Rows.fnPageAtSpec) :=
  OpenClaim.holds_of_wide 5 Try.f5 rfl rfl rfl rfl rfl rfl rfl ⟨rfl, rfl, rfl, rfl, rfl⟩ rfl rfl rfl rfl rfl (by kernel_rfl) Try.func5 (by kernel_rfl)
    (of_decide_eq_true (by kernel_rfl)) (by unfold Func.isWrapper; first | (rw [if_pos (by decide +kernel)]; kernel_rfl) | (rw [if_neg (by decide +kernel)]; exact ⟨rfl, rfl⟩))
    (fun os started H enc _ => lifted os started H enc)

end Go.Proofs.Ytalgkmellbamgaa.fnPageAt
namespace Go.Proofs.Ytalgkmellbamgaa
theorem pageAtP_holds : Rows.FnPageAtSaid := fnPageAt.over
end Go.Proofs.Ytalgkmellbamgaa
