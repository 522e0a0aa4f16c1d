/- 2 texts in one. -/
import Derived.Test.YtjgcjeaplckbbaaGreatG17
import Derived.WalkKit
import Derived.Outline
import Derived.Deep.RegionHeld3
import Derived.Deep.DeepCutAuto
import Derived.Test.YtjgcjeaplckbbaaGreatG14

/- The members that the laws draw: ftl; their numbers are small where they are right. -/
namespace Go.Proofs.YtjgcjeaplckbbaaGreat
open Go.RowKit
set_option linter.unusedVariables false
set_option linter.unusedSimpArgs false

/-- How the walk stands behind a write that was drawn. -/
def DrawnY (w : World) (r P j : Nat) (wx : World) : Prop :=
  ∃ (a6 : Option Addr) (n6 c6 : Nat) (ma6 : Option Addr) (mn6 mc6 : Nat) (mk : Mb), BoxAt wx P a6 n6 c6 ma6 mn6 mc6 mk.seq mk.o ∧ BoxAt wx w.heap.size none 0 0 none 0 0 0 0 ∧ MbAt wx a6 n6 ma6 mn6 (w.heap.size + 1) mk ∧ OffRow P ma6 ∧ mk.Short ∧ RdAt wx r ∧ Touch (· = r) w wx ∧ mk.Low j
theorem DrawnY.more {w : World} {r P j k : Nat} {wx : World} (h : DrawnY w r P j wx) (hk : j ≤ k) : DrawnY w r P k wx := by
  obtain ⟨a6, n6, c6, ma6, mn6, mc6, mk, h1, h2, h3, h4, h5, h6, h7, h8⟩ := h
  exact ⟨a6, n6, c6, ma6, mn6, mc6, mk, h1, h2, h3, h4, h5, h6, h7, h8.more hk⟩

set_option maxRecDepth 100000 in
set_option maxHeartbeats 4000000 in
theorem ftl_young (r : Nat) (most : Int) (w : World) (h : RdAt w r) (hm0 : 0 ≤ most) (hm9 : most ≤ 1000) :
    Calls Tryz.prog 13 #[.pointer (some ⟨r, 0, none⟩), .int .i64 most] w fun e w' => ∃ a n c ma mn mc m, e = .returned (.agg #[.slice a n c, .slice ma mn mc, .int .i64 (Mb.seq m), .int .i64 m.o]) ∧ MbAt w' a n ma mn w.heap.size m ∧ m.Short ∧ m.Young ∧ RdAt w' r ∧ Touch (· = r) w w' := by
  have hrl := h.lt
  obtain ⟨w0, hw0⟩ : ∃ w0, w0 = w.alloc (.cells #[.slice none 0 0, .slice none 0 0, .int .i64 0, .int .i64 0] 29) := ⟨_, rfl⟩
  have hB0 : Below w.heap.size w w0 := by rw [hw0]; exact (Below.refl _ w).alloc (Nat.le_refl _) _
  have hs0 : w0.heap.size = w.heap.size + 1 := by rw [hw0]; simp
  have HZ0 : Hid (BoxAt w0 w.heap.size none 0 0 none 0 0 0 0) := by rw [hw0]; exact BoxAt.alloc _ _ _ _ _ _ _ _ _ _
  have HR0 := hide (h.below hB0)
  have hTT0 : Touch (· = r) w w0 := Touch.of_below hB0
  clear h hB0
  go_enter Tryz.func13, Tryz.ntmps13
  go_wp2_with fail
  rw [← hw0]
  clear hw0
  refine (below_any r 3 _ (unhide HR0) (by omega) (by omega)).mono ?_
  rintro e w1 ⟨x, rfl, hx0, hx1, hR1, hT1⟩
  have hs1 := hT1.size
  have HR1 := hide hR1
  have hTT1 := hTT0.trans hT1
  have HZ1 := hide ((unhide HZ0).touch hT1 (by omega))
  clear hR1 hT1 HR0 HZ0 hTT0
  go_wp2_with fail
  refine (specFtlNew_mine (4 + x) _).mono ?_
  rintro e w2 ⟨a, n, c, ma, mn, mc, out, L, seq, o, rr, rfl, hNew, hol, hLl, hA2, hI2, hM2, hB2⟩
  have hs2 := hB2.size
  have HR2 := hide ((unhide HR1).below hB2)
  have HZ2 := hide ((unhide HZ1).below hB2 (by omega))
  have hTT2 := hTT1.trans (Touch.of_below hB2)
  have hlens := hNew.lens
  have hout : out.length ≤ 12 ∧ L.length ≤ 36 := ⟨by
    rcases hNew with ⟨_, rfl, _⟩ | ⟨_, rfl, _⟩
    · rw [newBs_length]; omega
    · simp, hlens.2⟩
  have HSH : Hid ((⟨out, L, seq, o⟩ : Mb).Short) := ⟨hlens.1, hout.1, hout.2⟩
  have HLOW := hide hNew.low
  have HM2 : Hid (MbAt w2 a n ma mn (w.heap.size + 1) ⟨out, L, seq, o⟩) := ⟨hol, hLl, hA2, hI2, hM2.lower (by omega)⟩
  obtain ⟨P, hP⟩ : ∃ P, P = w2.heap.size := ⟨_, rfl⟩
  obtain ⟨w3, hw3⟩ : ∃ w3, w3 = w2.alloc (.cells #[.slice a n c, .slice ma mn mc, .int .i64 seq, .int .i64 o] 29) := ⟨_, rfl⟩
  have hB3 : Below w2.heap.size w2 w3 := by rw [hw3]; exact (Below.refl _ _).alloc (Nat.le_refl _) _
  have HX3 : Hid (BoxAt w3 w2.heap.size a n c ma mn mc seq o) := by rw [hw3]; exact BoxAt.alloc _ _ _ _ _ _ _ _ _ _
  have HO3 : Hid (OffRow w2.heap.size ma) := OffRow.under (unhide HM2).mine (Nat.le_refl _)
  have HM3 := hide ((unhide HM2).below hB3)
  have HR3 := hide ((unhide HR2).below hB3)
  have HZ3 := hide ((unhide HZ2).below hB3 (by omega))
  have hTT3 := hTT2.trans (Touch.of_below hB3)
  have hs3 : w2.heap.size < w3.heap.size := (unhide HX3).lt
  have hrw : r < w2.heap.size := by omega
  clear hNew hol hLl hA2 hI2 hM2 hB2 HR1 HZ1 hTT1 HR2 HZ2 hTT2 HM2 hB3 hlens hout hP
  go_wp2_with fail
  rw [← hw3]
  clear hw3
  refine (specRoomFor_any (4 + x) _).mono ?_
  rintro e w3' ⟨rfl, rfl⟩
  rw [roomI_in (by omega)]
  go_wp2_with fail
  refine (belowAny r (4 * (4 + x - 3)) _ (unhide HR3) (by omega)).mono ?_
  rintro e w4 ⟨y, rfl, hy0, hy1, hR4, hT4⟩
  have hy12 : y < 12 := by rcases hy1 with h | h <;> omega
  have hs4 := hT4.size
  have HX4 := hide ((unhide HX3).touch hT4 (by omega))
  have HZ4 := hide ((unhide HZ3).touch hT4 (by omega))
  have HM4 := hide ((unhide HM3).drawn (unhide HR3) (by omega) hT4)
  have HR4 := hide hR4
  have hTT4 := hTT3.trans hT4
  clear hR4 hT4 HX3 HZ3 HM3 HR3 hTT3 hy1
  go_wp2_with fail
  refine (belowAny r (most + 1) _ (unhide HR4) (by omega)).mono ?_
  rintro e w5 ⟨k0, rfl, hk0, hk1, hR5, hT5⟩
  have hs5 := hT5.size
  have HX5 := hide ((unhide HX4).touch hT5 (by omega))
  have HZ5 := hide ((unhide HZ4).touch hT5 (by omega))
  have HM5 := hide ((unhide HM4).drawn (unhide HR4) (by omega) hT5)
  have HR5 := hide hR5
  have hTT5 := hTT4.trans hT5
  have hk9 : k0 ≤ 1000 := by rcases hk1 with h | h <;> omega
  obtain ⟨k0, rfl⟩ := Int.eq_ofNat_of_zero_le hk0
  have HD5 : Hid (DrawnY w r w2.heap.size 0 w5) := ⟨a, n, c, ma, mn, mc, ⟨out, L, seq, o⟩, unhide HX5, unhide HZ5, unhide HM5, unhide HO3, unhide HSH, unhide HR5, hTT5, unhide HLOW⟩
  clear hR5 hT5 HX4 HZ4 HM4 HR4 hTT4 HX5 HZ5 HM5 HR5 hTT5 hk1 HSH
  go_wp2
  go_loopw [9] (fun vi wr => ∃ k : Nat, vi = .int .i64 k ∧ k ≤ 1000 ∧ DrawnY w r w2.heap.size (1000 - k) wr ∧ w5.heap.size ≤ wr.heap.size) (fun vi _ => (intOf vi).toNat)
  case atStart => exact ⟨k0, rfl, by omega, (unhide HD5).more (by omega), Nat.le_refl _⟩
  case round =>
    clear HD5
    obtain ⟨k, rfl, hk, hD, hsr⟩ := hrel
    obtain ⟨wz, rfl⟩ : ∃ wz, wz = wr := ⟨_, rfl⟩
    obtain ⟨a6, n6, c6, ma6, mn6, mc6, mk, hbox, hres, hmb, hoff, hsh, hR, hTz, hlow⟩ := hD
    have HLW := hide hlow
    obtain ⟨y0, y1, y2, y3⟩ := hbox.cells
    obtain ⟨q0, q1, q2, q3⟩ := hbox.free
    have HBX := hide hbox
    have HRS := hide hres
    have HMK := hide hmb
    have HOF := hide hoff
    have HSH := hide hsh
    have HRz := hide hR
    have HTz := hide hTz
    have hPl := hbox.lt
    have hn6 : mn6 ≤ 1048576 := by have := hsh.2.2; have := hmb.L; omega
    clear hbox hres hmb hoff hsh hR hTz hlow
    by_cases hlt : 0 < k
    · have hki : (0 : Int) < (k : Int) := by omega
      have HRd : Hid (RdAt wz.drew r) := (unhide HRz)
      have HTd : Hid (Touch (· = r) wz wz.drew) := (Touch.refl _ wz).drew
      go_wp2_with fail
      go_region_with (first
        | (go_at_call 16
           refine (belowAny r (1 + y) _ (unhide HRd) (by omega)).mono ?_
           rintro e wb ⟨yb, rfl, hyb0, hyb1, hRb, hTb⟩
           have HTb : Hid (Touch (· = r) wz wb) := (unhide HTd).trans hTb
           have HRb := hide hRb
           have yb0 := ((unhide HTb).cell (b := w2.heap.size) (o := 0) hPl (by show ¬ w2.heap.size = r; omega)).trans y0
           have yb1 := ((unhide HTb).cell (b := w2.heap.size) (o := 1) hPl (by show ¬ w2.heap.size = r; omega)).trans y1
           have yb2 := ((unhide HTb).cell (b := w2.heap.size) (o := 2) hPl (by show ¬ w2.heap.size = r; omega)).trans y2
           have yb3 := ((unhide HTb).cell (b := w2.heap.size) (o := 3) hPl (by show ¬ w2.heap.size = r; omega)).trans y3
           clear hRb hTb)
        | (go_at_call 17
           refine (data_any r _ (unhide HRb)).mono ?_
           rintro e wd ⟨xd, rfl, hxd, hRd2, hTd2⟩
           have HTd2 : Hid (Touch (· = r) wz wd) := (unhide HTb).trans hTd2
           have HRd2 := hide hRd2
           have yd0 := ((unhide HTd2).cell (b := w2.heap.size) (o := 0) hPl (by show ¬ w2.heap.size = r; omega)).trans y0
           have yd1 := ((unhide HTd2).cell (b := w2.heap.size) (o := 1) hPl (by show ¬ w2.heap.size = r; omega)).trans y1
           have yd2 := ((unhide HTd2).cell (b := w2.heap.size) (o := 2) hPl (by show ¬ w2.heap.size = r; omega)).trans y2
           have yd3 := ((unhide HTd2).cell (b := w2.heap.size) (o := 3) hPl (by show ¬ w2.heap.size = r; omega)).trans y3
           have hxd2 : xd.size ≤ 1048576 := by omega
           clear hRd2 hTd2)
        | (go_at_call 38
           refine (specWritten_any a6 c6 mk.bs n6 (unhide HMK).bs ma6 mc6 mk.L mn6 (unhide HMK).L mk.seq mk.o yb xd _ ((unhide HMK).drawn (unhide HRz) (by omega) (unhide HTd2)).blocks (unhide HSH).1 ((unhide HMK).drawn (unhide HRz) (by omega) (unhide HTd2)).ints hn6 hxd2).mono ?_
           rintro e wp ⟨a8, n8, c8, ma8, mn8, mc8, bs8, L8, s8, o8, code, rfl, hWI, hbl, hLl, hA8, hI8, hM8, hB8⟩
           have hsd := (unhide HTd2).size
           have HTp : Hid (Touch (· = r) wz wp) := (unhide HTd2).trans (Touch.of_below hB8)
           have HRp : Hid (RdAt wp r) := (unhide HRd2).below hB8
           have HMp : Hid (MbAt wp a8 n8 ma8 mn8 wd.heap.size ⟨bs8, L8, s8, o8⟩) := ⟨hbl, hLl, hA8, hI8, hM8⟩
           have HSp : Hid ((⟨bs8, L8, s8, o8⟩ : Mb).Short) := hWI.short
           have HLp : Hid (Mb.Low ⟨bs8, L8, s8, o8⟩ (1000 - k + 1)) := WrittenIs.low hWI (unhide HLW)
           have HBp := hide ((unhide HBX).touch (unhide HTp) (by omega))
           have yp0 := (unhide HBp).cells.1
           have yp1 := (unhide HBp).cells.2.1
           have yp2 := (unhide HBp).cells.2.2.1
           have yp3 := (unhide HBp).cells.2.2.2
           have qp0 := (unhide HBp).2 0
           have qp1 := (unhide HBp).2 1
           have qp2 := (unhide HBp).2 2
           have qp3 := (unhide HBp).2 3
           clear hWI hbl hLl hA8 hI8 hM8 hB8))
      all_goals (
        have hO8 : OffRow w2.heap.size ma8 := OffRow.above (unhide HMp).mine (by omega)
        have hsp := (unhide HTp).size
        have hRp0 := unhide HRS
        have hDn : DrawnY w r w2.heap.size (1000 - (k - 1)) (set4B wp w2.heap.size (.slice a8 n8 c8) (.slice ma8 mn8 mc8) (.int .i64 s8) (.int .i64 o8)) :=
          ⟨a8, n8, c8, ma8, mn8, mc8, ⟨bs8, L8, s8, o8⟩, (unhide HBp).store _ _ _ _ _ _ _ _, ((hRp0.touch (unhide HTp) (by omega)).touch (set4B_touch _ _ _ _ _ _) (by omega)), (((unhide HMp).stored (unhide HBp) hO8 _ _ _ _).lower (by omega)), hO8, unhide HSp, (unhide HRp).past (set4B_below (Below.refl w2.heap.size wp) (Nat.le_refl _) _ _ _ _) (by omega), ((unhide HTz).trans (unhide HTp)).past (set4B_below (Below.refl w2.heap.size wp) (Nat.le_refl _) _ _ _ _) (by omega), (unhide HLp).more (by omega)⟩
        have HDn := hide hDn
        clear y0 y1 y2 y3 q0 q1 q2 q3 yb0 yb1 yb2 yb3 yd0 yd1 yd2 yd3 hDn hRp0
        go_wp2
        go_roundw
        case rel =>
          exact ⟨k - 1, by first | go_num | (congr 1; omega), by omega, unhide HDn, by simp [World.setCell]; omega⟩
        case measure => simp [intOf]; omega)
    · have hki : ¬ (0 : Int) < (k : Int) := by omega
      go_wp2_with fail
      refine (below_any r 40 _ (unhide HRz) (by omega) (by omega)).mono ?_
      rintro e w6 ⟨x6, rfl, hx60, hx61, hR6, hT6⟩
      have hs6 := hT6.size
      have HB6 := hide ((unhide HBX).touch hT6 (by omega))
      have HZ6 := hide ((unhide HRS).touch hT6 (by omega))
      have HM6 := hide ((unhide HMK).drawn (unhide HRz) (by omega) hT6)
      have HR6 := hide hR6
      have HTT6 := hide ((unhide HTz).trans hT6)
      have hP6 : w2.heap.size < w6.heap.size := by omega
      clear hR6 hT6 HBX HRS HMK HRz HTz y0 y1 y2 y3 q0 q1 q2 q3
      by_cases e37 : x6 = 37
      · subst e37
        go_wp2_with fail
        refine (off_any r 0 3 _ (unhide HR6) (by omega) (by omega) (by omega)).mono ?_
        rintro e w8 ⟨z, rfl, hR8, hT8⟩
        have hs8 := hT8.size
        have HB8 := hide ((unhide HB6).touch hT8 (by omega))
        have HZ8 := hide ((unhide HZ6).touch hT8 (by omega))
        have HM8 := hide ((unhide HM6).drawn (unhide HR6) (by omega) hT8)
        have HR8 := hide hR8
        have HT8 := hide ((unhide HTT6).trans hT8)
        clear hR8 hT8
        obtain ⟨W9, hW9⟩ : ∃ W9, W9 = w8.setCell ⟨w2.heap.size, 3, none⟩ (.int .i64 z) := ⟨_, rfl⟩
        have HBf : Hid (BoxAt W9 w2.heap.size a6 n6 c6 ma6 mn6 mc6 mk.seq z) := by rw [hW9]; exact (unhide HB8).setO z
        have HMf : Hid (MbAt W9 a6 n6 ma6 mn6 (w.heap.size + 1) ⟨mk.bs, mk.L, mk.seq, z⟩) := by rw [hW9]; exact MbAt.setO (unhide HB8) (unhide HM8) (unhide HOF) 3 _ rfl rfl
        have HZf : Hid (BoxAt W9 w.heap.size none 0 0 none 0 0 0 0) := by rw [hW9]; exact (unhide HZ8).of_block (setCell_block _ _ _ _ _ (by omega))
        have HRf : Hid (RdAt W9 r) := by rw [hW9]; exact (unhide HR8).past ((Below.refl w2.heap.size w8).setCell (Nat.le_refl _) _) hrw
        have HTf : Hid (Touch (· = r) w W9) := by rw [hW9]; exact (unhide HT8).past ((Below.refl w2.heap.size w8).setCell (Nat.le_refl _) _) (by omega)
        have HSf : Hid ((⟨mk.bs, mk.L, mk.seq, z⟩ : Mb).Short) := unhide HSH
        have HYf : Hid ((⟨mk.bs, mk.L, mk.seq, z⟩ : Mb).Young) := Mb.Low.young (k := 1000 - k) ⟨(unhide HLW).1, (unhide HLW).2⟩ (by omega)
        obtain ⟨u0, u1, u2, u3⟩ := (unhide HB8).cells
        obtain ⟨g0, g1, g2, g3⟩ := (unhide HB8).free
        go_upto_region 16 with fail
        rw [← hW9]
        clear hW9 u0 u1 u2 u3 g0 g1 g2 g3
        obtain ⟨W5, hW5⟩ : ∃ W5, W5 = set4B W9 w.heap.size (.slice a6 n6 c6) (.slice ma6 mn6 mc6) (.int .i64 mk.seq) (.int .i64 z) := ⟨_, rfl⟩
        have hY := (unhide HZf).store a6 n6 c6 ma6 mn6 mc6 mk.seq z
        have hF := (unhide HMf).stored (unhide HZf) (OffRow.above (unhide HMf).mine (Nat.lt_succ_self _)) (.slice a6 n6 c6) (.slice ma6 mn6 mc6) (.int .i64 mk.seq) (.int .i64 z)
        have hRf := (unhide HRf).past (set4B_below (Below.refl w.heap.size W9) (Nat.le_refl _) (.slice a6 n6 c6) (.slice ma6 mn6 mc6) (.int .i64 mk.seq) (.int .i64 z)) hrl
        have hTf := (unhide HTf).past (set4B_below (Below.refl w.heap.size W9) (Nat.le_refl _) (.slice a6 n6 c6) (.slice ma6 mn6 mc6) (.int .i64 mk.seq) (.int .i64 z)) (Nat.le_refl _)
        rw [← hW5] at hY hF hRf hTf
        obtain ⟨x0, x1, x2, x3⟩ := (unhide HBf).cells
        obtain ⟨z0, z1, z2, z3⟩ := (unhide HZf).cells
        obtain ⟨f0, f1, f2, f3⟩ := (unhide HZf).free
        obtain ⟨v0, v1, v2, v3⟩ := hY.cells
        have HF := hide hF
        have HRF := hide hRf
        have HTF := hide hTf
        clear hY hF hRf hTf
        unfold set4B at hW5
        go_wp2
        try rw [← hW5]
        exact bodyPost_ret (v := .agg #[.slice a6 n6 c6, .slice ma6 mn6 mc6, .int .i64 mk.seq, .int .i64 z]) (by simp [results, Tryz.results13, go_sem, v0, v1, v2, v3]) rfl ⟨a6, n6, c6, ma6, mn6, mc6, ⟨mk.bs, mk.L, mk.seq, z⟩, rfl, (unhide HF).lower (by omega), unhide HSf, unhide HYf, unhide HRF, unhide HTF⟩
      have b37 : (x6 == 37) = false := by simpa using e37
      by_cases e38 : x6 = 38
      · subst e38
        go_wp2_with fail
        refine (off_young r 1 20 _ (unhide HR6) (by omega) (by omega) (by omega)).mono ?_
        rintro e w8 ⟨z, rfl, hz, hR8, hT8⟩
        have hs8 := hT8.size
        have HB8 := hide ((unhide HB6).touch hT8 (by omega))
        have HZ8 := hide ((unhide HZ6).touch hT8 (by omega))
        have HM8 := hide ((unhide HM6).drawn (unhide HR6) (by omega) hT8)
        have HR8 := hide hR8
        have HT8 := hide ((unhide HTT6).trans hT8)
        clear hR8 hT8
        obtain ⟨W9, hW9⟩ : ∃ W9, W9 = w8.setCell ⟨w2.heap.size, 2, none⟩ (.int .i64 z) := ⟨_, rfl⟩
        have HBf : Hid (BoxAt W9 w2.heap.size a6 n6 c6 ma6 mn6 mc6 z mk.o) := by rw [hW9]; exact (unhide HB8).setS z
        have HMf : Hid (MbAt W9 a6 n6 ma6 mn6 (w.heap.size + 1) ⟨mk.bs, mk.L, z, mk.o⟩) := by rw [hW9]; exact MbAt.setO (unhide HB8) (unhide HM8) (unhide HOF) 2 _ rfl rfl
        have HZf : Hid (BoxAt W9 w.heap.size none 0 0 none 0 0 0 0) := by rw [hW9]; exact (unhide HZ8).of_block (setCell_block _ _ _ _ _ (by omega))
        have HRf : Hid (RdAt W9 r) := by rw [hW9]; exact (unhide HR8).past ((Below.refl w2.heap.size w8).setCell (Nat.le_refl _) _) hrw
        have HTf : Hid (Touch (· = r) w W9) := by rw [hW9]; exact (unhide HT8).past ((Below.refl w2.heap.size w8).setCell (Nat.le_refl _) _) (by omega)
        have HSf : Hid ((⟨mk.bs, mk.L, z, mk.o⟩ : Mb).Short) := unhide HSH
        have HYf : Hid ((⟨mk.bs, mk.L, z, mk.o⟩ : Mb).Young) := fun hok => ⟨fun b hb => by have := (unhide HLW).1 b hb; omega, by have h1 := hok.seq.2; simp only at h1 ⊢; omega⟩
        clear hz
        obtain ⟨u0, u1, u2, u3⟩ := (unhide HB8).cells
        obtain ⟨g0, g1, g2, g3⟩ := (unhide HB8).free
        go_upto_region 16 with fail
        rw [← hW9]
        clear hW9 u0 u1 u2 u3 g0 g1 g2 g3
        obtain ⟨W5, hW5⟩ : ∃ W5, W5 = set4B W9 w.heap.size (.slice a6 n6 c6) (.slice ma6 mn6 mc6) (.int .i64 z) (.int .i64 mk.o) := ⟨_, rfl⟩
        have hY := (unhide HZf).store a6 n6 c6 ma6 mn6 mc6 z mk.o
        have hF := (unhide HMf).stored (unhide HZf) (OffRow.above (unhide HMf).mine (Nat.lt_succ_self _)) (.slice a6 n6 c6) (.slice ma6 mn6 mc6) (.int .i64 z) (.int .i64 mk.o)
        have hRf := (unhide HRf).past (set4B_below (Below.refl w.heap.size W9) (Nat.le_refl _) (.slice a6 n6 c6) (.slice ma6 mn6 mc6) (.int .i64 z) (.int .i64 mk.o)) hrl
        have hTf := (unhide HTf).past (set4B_below (Below.refl w.heap.size W9) (Nat.le_refl _) (.slice a6 n6 c6) (.slice ma6 mn6 mc6) (.int .i64 z) (.int .i64 mk.o)) (Nat.le_refl _)
        rw [← hW5] at hY hF hRf hTf
        obtain ⟨x0, x1, x2, x3⟩ := (unhide HBf).cells
        obtain ⟨z0, z1, z2, z3⟩ := (unhide HZf).cells
        obtain ⟨f0, f1, f2, f3⟩ := (unhide HZf).free
        obtain ⟨v0, v1, v2, v3⟩ := hY.cells
        have HF := hide hF
        have HRF := hide hRf
        have HTF := hide hTf
        clear hY hF hRf hTf
        unfold set4B at hW5
        go_wp2
        try rw [← hW5]
        exact bodyPost_ret (v := .agg #[.slice a6 n6 c6, .slice ma6 mn6 mc6, .int .i64 z, .int .i64 mk.o]) (by simp [results, Tryz.results13, go_sem, v0, v1, v2, v3]) rfl ⟨a6, n6, c6, ma6, mn6, mc6, ⟨mk.bs, mk.L, z, mk.o⟩, rfl, (unhide HF).lower (by omega), unhide HSf, unhide HYf, unhide HRF, unhide HTF⟩
      have b38 : (x6 == 38) = false := by simpa using e38
      by_cases e39 : x6 = 39 ∧ 0 < mn6
      · obtain ⟨rfl, hmn⟩ := e39
        obtain ⟨g, rfl, hgB, hg6⟩ : ∃ g, ma6 = some ⟨g, 0, none⟩ ∧ w.heap.size + 1 ≤ g ∧ g < w6.heap.size := by
          rcases (unhide HM6).mine with ⟨_, h⟩ | ⟨g, h, h1, h2, _⟩
          · omega
          · exact ⟨g, h, h1, h2⟩
        have hgP : g ≠ w2.heap.size := unhide HOF g 0 rfl
        have hmi : (0 : Int) < (mn6 : Int) := by omega
        obtain ⟨u0, u1, u2, u3⟩ := (unhide HB6).cells
        have HR6d : Hid (RdAt w6.drew r) := (unhide HR6)
        have HT6d : Hid (Touch (· = r) w6 w6.drew) := (Touch.refl _ w6).drew
        obtain ⟨yq, hyq⟩ := getElem?_ex (l := mk.L) (k := 0) (by have := (unhide HM6).L; omega)
        have fg6 : w6.frozen? ⟨g, 0, none⟩ = false := by
          rcases (unhide HM6).mine with ⟨_, h⟩ | ⟨g', h, h1, h2, h3⟩
          · omega
          · cases h
            have := (h3 0 hmn).2
            simpa using this
        have cg6 : w6.cell? ⟨g, 0, none⟩ = some (.int .i64 yq) := by
          obtain ⟨b, o, hb, hc⟩ := (unhide HM6).ints 0 yq hyq
          cases hb
          exact hc
        go_wp2_with fail
        go_region_with (first
          | (go_at_call 15
             refine (off_young r (-1) 9 _ (unhide HR6d) (by omega) (by omega) (by omega)).mono ?_
             rintro e w8 ⟨z, rfl, hz, hR8, hT8⟩
             have HZ := hide hz
             have hT68 := (unhide HT6d).trans hT8
             have u81 := (hT68.cell (b := w2.heap.size) (o := 1) hP6 (by show ¬ w2.heap.size = r; omega)).trans u1
             have cg8 := (hT68.cell (b := g) (o := 0) hg6 (by show ¬ g = r; omega)).trans cg6
             have fg8 := (hT68.frozen (b := g) (o := 0) hg6 (by show ¬ g = r; omega)).trans fg6
             have hs8 := hT68.size
             have HB8 := hide ((unhide HB6).touch hT68 (by omega))
             have HZ8 := hide ((unhide HZ6).touch hT68 (by omega))
             have HM8 := hide ((unhide HM6).drawn (unhide HR6) (by omega) hT68)
             have HR8 := hide hR8
             have HT8 := hide ((unhide HTT6).trans hT68)
             clear hR8 hT8 hT68 hz))
        all_goals (
          obtain ⟨m', hM', hS', es, eo, hwr⟩ := (unhide HM8).setMapY cg8 z (unhide HSH)
          obtain ⟨W9, hW9⟩ : ∃ W9, W9 = w8.setCell ⟨g, 0, none⟩ (.int .i64 z) := ⟨_, rfl⟩
          rw [← hW9] at hM'
          have HMf : Hid (MbAt W9 a6 n6 (some ⟨g, 0, none⟩) mn6 (w.heap.size + 1) m') := hM'
          have HSf : Hid m'.Short := hS'
          have HYf : Hid m'.Young := fun hok => ⟨fun b hb => by
            rcases hwr b hb with e | ⟨c, hc, e⟩
            · have h1 := (hok.chip.block b hb).wear
              have h2 := unhide HZ
              omega
            · have := (unhide HLW).1 c hc
              omega, by rw [es]; have := (unhide HLW).2; omega⟩
          have HBf : Hid (BoxAt W9 w2.heap.size a6 n6 c6 (some ⟨g, 0, none⟩) mn6 mc6 m'.seq m'.o) := by rw [hW9, es, eo]; exact (unhide HB8).of_block (setCell_block _ _ _ _ _ (by omega))
          have HZf : Hid (BoxAt W9 w.heap.size none 0 0 none 0 0 0 0) := by rw [hW9]; exact (unhide HZ8).of_block (setCell_block _ _ _ _ _ (by omega))
          have HRf : Hid (RdAt W9 r) := by rw [hW9]; exact (unhide HR8).past ((Below.refl (w.heap.size + 1) w8).setCell hgB _) (by omega)
          have HTf : Hid (Touch (· = r) w W9) := by rw [hW9]; exact (unhide HT8).past ((Below.refl w.heap.size w8).setCell (by show w.heap.size ≤ g; omega) _) (Nat.le_refl _)
          have HES := hide (And.intro es eo)
          clear hM' hS' es eo hwr u0 u1 u2 u3
          go_upto_region 16 with fail
          rw [← hW9]
          clear hW9 cg8 fg8 u81 cg6 fg6
          obtain ⟨W5, hW5⟩ : ∃ W5, W5 = set4B W9 w.heap.size (.slice a6 n6 c6) (.slice (some ⟨g, 0, none⟩) mn6 mc6) (.int .i64 m'.seq) (.int .i64 m'.o) := ⟨_, rfl⟩
          have hY := (unhide HZf).store a6 n6 c6 (some ⟨g, 0, none⟩) mn6 mc6 m'.seq m'.o
          have hF := (unhide HMf).stored (unhide HZf) (OffRow.above (unhide HMf).mine (Nat.lt_succ_self _)) (.slice a6 n6 c6) (.slice (some ⟨g, 0, none⟩) mn6 mc6) (.int .i64 m'.seq) (.int .i64 m'.o)
          have hRf := (unhide HRf).past (set4B_below (Below.refl w.heap.size W9) (Nat.le_refl _) (.slice a6 n6 c6) (.slice (some ⟨g, 0, none⟩) mn6 mc6) (.int .i64 m'.seq) (.int .i64 m'.o)) hrl
          have hTf := (unhide HTf).past (set4B_below (Below.refl w.heap.size W9) (Nat.le_refl _) (.slice a6 n6 c6) (.slice (some ⟨g, 0, none⟩) mn6 mc6) (.int .i64 m'.seq) (.int .i64 m'.o)) (Nat.le_refl _)
          rw [← hW5] at hY hF hRf hTf
          obtain ⟨x0, x1, x2, x3⟩ := (unhide HBf).cells
          obtain ⟨z0, z1, z2, z3⟩ := (unhide HZf).cells
          obtain ⟨f0, f1, f2, f3⟩ := (unhide HZf).free
          obtain ⟨v0, v1, v2, v3⟩ := hY.cells
          have HF := hide hF
          have HRF := hide hRf
          have HTF := hide hTf
          clear hY hF hRf hTf
          unfold set4B at hW5
          go_wp2
          try rw [← hW5]
          exact bodyPost_ret (v := .agg #[.slice a6 n6 c6, .slice (some ⟨g, 0, none⟩) mn6 mc6, .int .i64 m'.seq, .int .i64 m'.o]) (by simp [results, Tryz.results13, go_sem, v0, v1, v2, v3]) rfl ⟨a6, n6, c6, (some ⟨g, 0, none⟩), mn6, mc6, m', rfl, (unhide HF).lower (by omega), unhide HSf, unhide HYf, unhide HRF, unhide HTF⟩
          )
      · have HBf := HB6
        have HZf := HZ6
        have HMf := HM6
        have HRf := HR6
        have HTf := HTT6
        have HSf : Hid mk.Short := unhide HSH
        have HYf : Hid mk.Young := (unhide HLW).young (by omega)
        have h39 : (x6 == 39) = false ∨ ((x6 == 39) = true ∧ ¬ (0 : Int) < (mn6 : Int)) := by
          by_cases e : x6 = 39
          · right; exact ⟨by simpa using e, fun h => e39 ⟨e, by omega⟩⟩
          · left; simpa using e
        clear e39 HB6 HZ6 HM6 HR6 HTT6
        rcases h39 with b39 | ⟨b39, hmi⟩
        all_goals (
          obtain ⟨W5, hW5⟩ : ∃ W5, W5 = set4B w6 w.heap.size (.slice a6 n6 c6) (.slice ma6 mn6 mc6) (.int .i64 mk.seq) (.int .i64 mk.o) := ⟨_, rfl⟩
          have hY := (unhide HZf).store a6 n6 c6 ma6 mn6 mc6 mk.seq mk.o
          have hF := (unhide HMf).stored (unhide HZf) (OffRow.above (unhide HMf).mine (Nat.lt_succ_self _)) (.slice a6 n6 c6) (.slice ma6 mn6 mc6) (.int .i64 mk.seq) (.int .i64 mk.o)
          have hRf := (unhide HRf).past (set4B_below (Below.refl w.heap.size w6) (Nat.le_refl _) (.slice a6 n6 c6) (.slice ma6 mn6 mc6) (.int .i64 mk.seq) (.int .i64 mk.o)) hrl
          have hTf := (unhide HTf).past (set4B_below (Below.refl w.heap.size w6) (Nat.le_refl _) (.slice a6 n6 c6) (.slice ma6 mn6 mc6) (.int .i64 mk.seq) (.int .i64 mk.o)) (Nat.le_refl _)
          rw [← hW5] at hY hF hRf hTf
          obtain ⟨x0, x1, x2, x3⟩ := (unhide HBf).cells
          obtain ⟨z0, z1, z2, z3⟩ := (unhide HZf).cells
          obtain ⟨f0, f1, f2, f3⟩ := (unhide HZf).free
          obtain ⟨v0, v1, v2, v3⟩ := hY.cells
          have HF := hide hF
          have HRF := hide hRf
          have HTF := hide hTf
          clear hY hF hRf hTf
          unfold set4B at hW5
          go_wp2
          try rw [← hW5]
          exact bodyPost_ret (v := .agg #[.slice a6 n6 c6, .slice ma6 mn6 mc6, .int .i64 mk.seq, .int .i64 mk.o]) (by simp [results, Tryz.results13, go_sem, v0, v1, v2, v3]) rfl ⟨a6, n6, c6, ma6, mn6, mc6, mk, rfl, (unhide HF).lower (by omega), unhide HSf, unhide HYf, unhide HRF, unhide HTF⟩
          )
end Go.Proofs.YtjgcjeaplckbbaaGreat

/- The reader's near and off, for whatever bounds. -/
namespace Go.Proofs.YtjgcjeaplckbbaaGreat
open Go.RowKit
set_option linter.unusedVariables false
set_option linter.unusedSimpArgs false

set_option maxHeartbeats 1000000 in
theorem near2_any (r : Nat) (lo hi : Int) (w : World) (h : RdAt w r) (h0 : -1000000000000 ≤ lo) (h3 : lo ≤ 1000000000000) (h1 : -1000000000000 ≤ hi) (h2 : hi ≤ 1000000000000) :
    Calls Tryz.prog 39 #[.pointer (some ⟨r, 0, none⟩), .int .i64 lo, .int .i64 hi] w fun e w' => ∃ x : Int, e = .returned (.int .i64 x) ∧ RdAt w' r ∧ Touch (· = r) w w' := by
  go_enter Tryz.func39, Tryz.ntmps39
  go_wp2_with fail
  refine (below_any r 8 _ h (by omega) (by omega)).mono ?_
  rintro e w1 ⟨x, rfl, hx0, hx1, hR, hT⟩
  have HR := hide hR
  clear h hR
  by_cases e0 : x = 0
  · have hb : (x == 0) = true := by simpa using e0
    go_wp2
    go_ret
    exact ⟨_, rfl, unhide HR, hT⟩
  · have hb : (x == 0) = false := by simpa using e0
    by_cases e1 : x = 1
    · have hb : (x == 1) = true := by simpa using e1
      go_wp2
      go_ret
      exact ⟨_, rfl, unhide HR, hT⟩
    · have hb : (x == 1) = false := by simpa using e1
      by_cases hlt : hi < lo
      · go_wp2
        go_ret
        exact ⟨_, rfl, unhide HR, hT⟩
      have hnz : ¬ hi - lo + 1 = 0 := by omega
      go_wp2_with fail
      refine (word_any r _ (unhide HR)).mono ?_
      rintro e w2 ⟨y, rfl, hR2, hT2⟩
      have HR2 := hide hR2
      clear hR2 HR
      go_wp2
      go_ret
      exact ⟨_, rfl, unhide HR2, hT.trans hT2⟩

set_option maxHeartbeats 1000000 in
theorem off2_any (r : Nat) (lo hi : Int) (w : World) (h : RdAt w r) (h0 : -1000000000000 ≤ lo) (h3 : lo ≤ 1000000000000) (h1 : -1000000000000 ≤ hi) (h2 : hi ≤ 1000000000000) :
    Calls Tryz.prog 15 #[.pointer (some ⟨r, 0, none⟩), .int .i64 lo, .int .i64 hi] w fun e w' => ∃ x : Int, e = .returned (.int .i64 x) ∧ RdAt w' r ∧ Touch (· = r) w w' := by
  go_enter Tryz.func15, Tryz.ntmps15
  go_wp2_with fail
  refine (once_any r 24 _ h (by omega) (by omega)).mono ?_
  rintro e w1 ⟨x, rfl, hR, hT⟩
  have HR := hide hR
  have hrl := hR.lt
  clear h hR
  cases hb : (x == (24 : Int) - 1) with
  | false =>
    go_wp2_with fail
    refine (near2_any r lo hi _ (unhide HR) h0 h3 h1 h2).mono ?_
    rintro e w2 ⟨y, rfl, hR2, hT2⟩
    have HR2 := hide hR2
    clear hR2 HR
    go_wp2
    go_ret
    exact ⟨_, rfl, unhide HR2, hT.trans hT2⟩
  | true =>
    go_wp2_with fail
    have hB1 : ∀ o, Below w1.heap.size w1 (w1.alloc o) := fun o => (Below.refl _ _).alloc (Nat.le_refl _) _
    refine (below_any r 4 _ ((unhide HR).below (hB1 _)) (by omega) (by omega)).mono ?_
    rintro e w2 ⟨y, rfl, hy0, hy1, hR2, hT2⟩
    have HR2 := hide hR2
    have hT3 := (hT.alloc _).trans hT2
    have hc : ∀ o, w2.cell? ⟨w1.heap.size, o, none⟩ = (w1.alloc (.cells #[.int .i64 (lo - 1), .int .i64 (hi + 1), .int .i64 (-9223372036854775808), .int .i64 9223372036854775807] 2)).cell? ⟨w1.heap.size, o, none⟩ := fun o => hT2.cell (by simp) (by show ¬ w1.heap.size = r; omega)
    have c0 : w2.cell? ⟨w1.heap.size, 0, none⟩ = some (.int .i64 (lo - 1)) := by rw [hc]; simp
    have c1 : w2.cell? ⟨w1.heap.size, 1, none⟩ = some (.int .i64 (hi + 1)) := by rw [hc]; simp
    have c2 : w2.cell? ⟨w1.heap.size, 2, none⟩ = some (.int .i64 (-9223372036854775808)) := by rw [hc]; simp
    have c3 : w2.cell? ⟨w1.heap.size, 3, none⟩ = some (.int .i64 9223372036854775807) := by rw [hc]; simp
    have h4 : y = 0 ∨ y = 1 ∨ y = 2 ∨ y = 3 := by omega
    clear hR2 HR hT2 hc hT hB1
    rcases h4 with rfl | rfl | rfl | rfl
    all_goals (
      go_wp2
      go_ret
      exact ⟨_, rfl, unhide HR2, hT3⟩)

end Go.Proofs.YtjgcjeaplckbbaaGreat
