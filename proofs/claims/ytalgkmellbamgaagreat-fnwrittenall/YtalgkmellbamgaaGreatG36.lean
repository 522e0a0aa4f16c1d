/- 1 texts in one. -/
import Derived.Test.YtalgkmellbamgaaGreatG34
import Derived.Test.YtalgkmellbamgaaGreatG35
import Derived.WalkKit
import Derived.Outline
import Derived.Deep.RegionHeld3
import Derived.Deep.DeepCutAuto

/- Many writes: the model's WrittenAll. -/
namespace Go.Proofs.YtalgkmellbamgaaGreat
open Go.RowKit
set_option linter.unusedVariables false
set_option linter.unusedSimpArgs false

theorem Mb.zeroAt (w : World) (B : Nat) : MbAt w none 0 none 0 B Mb.zero := ⟨rfl, rfl, fun i b hb => by simp [Mb.zero] at hb, fun i x hx => by simp [Mb.zero] at hx, .inl ⟨rfl, rfl⟩⟩
theorem OffRow.none (P : Nat) : OffRow P none := fun g o h => by cases h
/-- What 'next, code := Written(now, ..)' leaves. -/
def MadeW (wz : World) (m : Mb) (x : Int × ByteArray) (v10 v11 : Value) (wx : World) : Prop :=
  ∃ P a2 n2 c2 ma2 mn2 mc2 m' code, v10 = .pointer (some ⟨P, 0, none⟩) ∧ v11 = .int .i64 code ∧ wz.heap.size ≤ P ∧ BoxAt wx P a2 n2 c2 ma2 mn2 mc2 m'.seq m'.o ∧ MbAt wx a2 n2 ma2 mn2 wz.heap.size m' ∧ OffRow P ma2 ∧ WrM m x m' code ∧ Below wz.heap.size wz wx
theorem MadeW.after {wz w3 : World} {m m' : Mb} {x : Int × ByteArray} {a2 : Option Addr} {n2 c2 : Nat} {ma2 : Option Addr} {mn2 mc2 : Nat} {code : Int} (t : TypeId) (hB : Below wz.heap.size wz w3) (hM : MbAt w3 a2 n2 ma2 mn2 wz.heap.size m') (hW : WrM m x m' code) :
    MadeW wz m x (.pointer (some ⟨w3.heap.size, 0, none⟩)) (.int .i64 code) (w3.alloc (.cells #[.slice a2 n2 c2, .slice ma2 mn2 mc2, .int .i64 m'.seq, .int .i64 m'.o] t)) :=
  ⟨w3.heap.size, a2, n2, c2, ma2, mn2, mc2, m', code, rfl, rfl, hB.size, BoxAt.alloc _ _ _ _ _ _ _ _ _ _, hM.below ((Below.refl _ w3).alloc (Nat.le_refl _) _), OffRow.under hM.mine (Nat.le_refl _), hW, hB.alloc hB.size _⟩
theorem MadeW.ahead {wz w3 : World} {m m' : Mb} {x : Int × ByteArray} {P : Nat} {a2 : Option Addr} {n2 c2 : Nat} {ma2 : Option Addr} {mn2 mc2 : Nat} {code : Int} (hB : Below wz.heap.size wz w3) (hP : wz.heap.size ≤ P) (hX : BoxAt w3 P none 0 0 none 0 0 0 0) (hM : MbAt w3 a2 n2 ma2 mn2 (P + 1) m') (hW : WrM m x m' code) :
    MadeW wz m x (.pointer (some ⟨P, 0, none⟩)) (.int .i64 code) ((((w3.setCell ⟨P, 0, none⟩ (.slice a2 n2 c2)).setCell ⟨P, 1, none⟩ (.slice ma2 mn2 mc2)).setCell ⟨P, 2, none⟩ (.int .i64 m'.seq)).setCell ⟨P, 3, none⟩ (.int .i64 m'.o)) :=
  have hO := OffRow.above hM.mine (Nat.lt_succ_self P)
  ⟨P, a2, n2, c2, ma2, mn2, mc2, m', code, rfl, rfl, hP, hX.store _ _ _ _ _ _ _ _, (hM.stored hX hO _ _ _ _).lower (by omega), hO, hW, set4B_below hB hP _ _ _ _⟩

set_option maxRecDepth 100000 in
set_option maxHeartbeats 4000000 in
theorem specWrittenAll_any (a : Option Addr) (c : Nat) (m : Mb) (n : Nat) (hl : m.bs.length = n) (ma : Option Addr) (mc : Nat) (mn : Nat) (hL : m.L.length = mn) (la : Option Addr) (lc : Nat) (lgs : List Int) (nl : Nat) (hnl : lgs.length = nl) (ta : Option Addr) (tc : Nat) (ds : List ByteArray) (nt : Nat) (hnt : ds.length = nt) (w : World)
    (h : BlocksAt w a m.bs) (hn : Lens 1048576 m.bs) (hI : IntsAt w ma m.L) (hmn : mn ≤ 1048576) (hla : IntsAt w la lgs) (hta : TextsAt w ta ds) (hd : ∀ d ∈ ds, d.size ≤ 1048576) (hnl9 : nl ≤ 1048576) (hnt9 : nt ≤ 1048576) :
    Calls Tryz.prog 16 #[.agg #[.slice a n c, .slice ma mn mc, .int .i64 m.seq, .int .i64 m.o], .slice la nl lc, .slice ta nt tc] w fun e w' => ∃ a2 n2 c2 ma2 mn2 mc2 m' code, e = .returned (.tuple #[.agg #[.slice a2 n2 c2, .slice ma2 mn2 mc2, .int .i64 m'.seq, .int .i64 m'.o], .int .i64 code]) ∧ WAllIs m lgs ds m' code ∧ MbAt w' a2 n2 ma2 mn2 w.heap.size m' ∧ Below w.heap.size w w' := by
  have HA := hide h
  have HI := hide hI
  have HL := hide hl
  have HLL := hide hL
  have HN := hide hn
  have HLA := hide hla
  have HTA := hide hta
  have HNL := hide hnl
  have HNT := hide hnt
  have HD := hide hd
  clear h hI hl hL hn hla hta hnl hnt hd
  go_enter Tryz.func16, Tryz.ntmps16
  obtain ⟨w0, hw0⟩ : ∃ w0, w0 = (w.alloc (.cells #[.slice a n c, .slice ma mn mc, .int .i64 m.seq, .int .i64 m.o] 29)).alloc (.cells #[.slice none 0 0, .slice none 0 0, .int .i64 0, .int .i64 0] 29) := ⟨_, rfl⟩
  have hs0 : w0.heap.size = w.heap.size + 1 + 1 := by rw [hw0]; simp
  have hB0 : Below w.heap.size w w0 := by rw [hw0]; exact ((Below.refl _ w).alloc (Nat.le_refl _) _).alloc (by simp) _
  have HX0 : Hid (BoxAt w0 w.heap.size a n c ma mn mc m.seq m.o) := by rw [hw0]; exact (BoxAt.alloc _ _ _ _ _ _ _ _ _ _).below ((Below.refl _ _).alloc (Nat.le_refl _) _) (by simp)
  have HZ0 : Hid (BoxAt w0 (w.heap.size + 1) none 0 0 none 0 0 0 0) := by rw [hw0]; exact BoxAt.of_row (heap_alloc2_new _ _ _)
  have HS0 := hide hs0
  have hsl : w.heap.size + 1 < w0.heap.size := by omega
  have hsw : w.heap.size < w0.heap.size := by omega
  obtain ⟨k0, k1, k2, k3⟩ := (unhide HX0).cells
  go_upto_region 1 with fail
  rw [← hw0]
  clear hw0 hs0
  go_wp2_with fail
  refine (specFtlOk_any a c m.bs n (unhide HL) ma mc m.L mn (unhide HLL) m.seq m.o _ ((unhide HA).below hB0 (Nat.le_refl _)) (unhide HN) ((unhide HI).below hB0 (Nat.le_refl _)) hmn).mono ?_
  rintro e w1 ⟨⟨r, rfl, hr⟩, hB1⟩
  have hs1 := hB1.size
  have hW1 := hB0.trans (hB1.mono hB0.size)
  have HX1 := hide ((unhide HX0).below hB1 hsw)
  have HZ1 := hide ((unhide HZ0).below hB1 hsl)
  have HR := hide hr
  clear hr hB1 hB0 HX0 HZ0 k0 k1 k2 k3
  cases r with
  | false =>
    have HNO : Hid (¬ m.Ok) := fun hc => by have := (unhide HR).2 hc; cases this
    obtain ⟨W5, hW5⟩ : ∃ W5, W5 = set4B w1 (w.heap.size + 1) (.slice none 0 0) (.slice none 0 0) (.int .i64 0) (.int .i64 0) := ⟨_, rfl⟩
    have hY := BoxAt.store (unhide HZ1) none 0 0 none 0 0 0 0
    have hF := MbAt.stored (unhide HZ1) (Mb.zeroAt w1 (w.heap.size + 2)) (OffRow.none _) (.slice none 0 0) (.slice none 0 0) (.int .i64 0) (.int .i64 0)
    have hWB := set4B_below hW1 (show w.heap.size ≤ w.heap.size + 1 by omega) (.slice none 0 0) (.slice none 0 0) (.int .i64 0) (.int .i64 0)
    rw [← hW5] at hY hF hWB
    obtain ⟨z0, z1, z2, z3⟩ := (unhide HZ1).cells
    obtain ⟨f0, f1, f2, f3⟩ := (unhide HZ1).free
    obtain ⟨y0, y1, y2, y3⟩ := hY.cells
    have HF := hide hF
    clear hY hF
    unfold set4B at hW5
    go_wp2
    try rw [← hW5]
    exact bodyPost_ret (v := .tuple #[.agg #[.slice none 0 0, .slice none 0 0, .int .i64 0, .int .i64 0], .int .i64 1]) (by simp [results, Tryz.results16, go_sem, y0, y1, y2, y3]) rfl ⟨none, 0, 0, none, 0, 0, Mb.zero, 1, rfl, .inl ⟨unhide HNO, rfl, rfl⟩, (unhide HF).lower (by omega), hWB⟩
  | true =>
    have hok : m.Ok := (unhide HR).1 (by trivial)
    have HOK := hide hok
    clear hok HR
    by_cases hmany : manyOk lgs ds
    case neg =>
      have hne : ¬ (nl = nt ∧ nl ≤ 100) := fun h => hmany ⟨by have := unhide HNL; have := unhide HNT; omega, by have := unhide HNL; omega⟩
      have HMY := hide hmany
      obtain ⟨m0, m1, m2, m3⟩ := (unhide HX1).cells
      have hgo : ((nl : Int) != (nt : Int)) = true ∨ (((nl : Int) != (nt : Int)) = false ∧ (100 : Int) < (nl : Int)) := by
        by_cases e : nl = nt
        · right; exact ⟨by simp [e], by omega⟩
        · left; simp; omega
      clear hmany hne
      have HCP : Hid (∀ W, Below w1.heap.size w1 W → Calls Tryz.prog 38 #[.agg #[.slice a n c, .slice ma mn mc, .int .i64 m.seq, .int .i64 m.o]] W fun e w' => ∃ a2 c2 ma2 mc2, e = .returned (.agg #[.slice a2 n c2, .slice ma2 mn mc2, .int .i64 m.seq, .int .i64 m.o]) ∧ BlocksAt w' a2 m.bs ∧ IntsAt w' ma2 m.L ∧ MineFrom w' ma2 mn W.heap.size ∧ Below W.heap.size W w') := fun W hW => l3Copy_any a c m.bs n (unhide HL) ma mc m.L mn (unhide HLL) m.seq m.o (unhide HOK) W ((unhide HA).below (hW1.trans (hW.mono hW1.size)) (Nat.le_refl _)) ((unhide HI).below (hW1.trans (hW.mono hW1.size)) (Nat.le_refl _))
      rcases hgo with hgo | ⟨hgo, hgt⟩
      all_goals (
        go_wp2_with fail
        refine (unhide HCP _ (Below.refl _ _)).mono ?_
        rintro e w4 ⟨a2, c2, ma2, mc2, rfl, hA4, hI4, hM4, hB4⟩
        have hs4 := hB4.size
        have hW4 := hW1.trans (hB4.mono hW1.size)
        have HZ4 := hide ((unhide HZ1).below hB4 (by omega))
        have HMB : Hid (MbAt w4 a2 n ma2 mn (w.heap.size + 2) m) := ⟨unhide HL, unhide HLL, hA4, hI4, hM4.lower (by have := unhide HS0; omega)⟩
        clear hA4 hI4 hM4 hB4 HCP m0 m1 m2 m3
        obtain ⟨W5, hW5⟩ : ∃ W5, W5 = set4B w4 (w.heap.size + 1) (.slice a2 n c2) (.slice ma2 mn mc2) (.int .i64 m.seq) (.int .i64 m.o) := ⟨_, rfl⟩
        have hY := BoxAt.store (unhide HZ4) a2 n c2 ma2 mn mc2 m.seq m.o
        have hF := MbAt.stored (unhide HZ4) (unhide HMB) (OffRow.above (unhide HMB).mine (by omega)) (.slice a2 n c2) (.slice ma2 mn mc2) (.int .i64 m.seq) (.int .i64 m.o)
        have hWB := set4B_below hW4 (show w.heap.size ≤ w.heap.size + 1 by omega) (.slice a2 n c2) (.slice ma2 mn mc2) (.int .i64 m.seq) (.int .i64 m.o)
        rw [← hW5] at hY hF hWB
        obtain ⟨z0, z1, z2, z3⟩ := (unhide HZ4).cells
        obtain ⟨f0, f1, f2, f3⟩ := (unhide HZ4).free
        obtain ⟨y0, y1, y2, y3⟩ := hY.cells
        have HF := hide hF
        clear hY hF
        unfold set4B at hW5
        go_wp2
        try rw [← hW5]
        exact bodyPost_ret (v := .tuple #[.agg #[.slice a2 n c2, .slice ma2 mn mc2, .int .i64 m.seq, .int .i64 m.o], .int .i64 2]) (by simp [results, Tryz.results16, go_sem, y0, y1, y2, y3]) rfl ⟨a2, n, c2, ma2, mn, mc2, m, 2, rfl, .inr (.inl ⟨unhide HOK, unhide HMY, rfl, rfl⟩), (unhide HF).lower (by omega), hWB⟩
        )
    case pos =>
      obtain ⟨hm1, hm2⟩ := hmany
      have hnn : nl = nt := by have := unhide HNL; have := unhide HNT; omega
      have hn100 : nl ≤ 100 := by have := unhide HNL; omega
      have HMY : Hid (manyOk lgs ds) := ⟨hm1, hm2⟩
      have hgo : ((nl : Int) != (nt : Int)) = false := by simp; omega
      have hgt : ¬ (100 : Int) < (nl : Int) := by omega
      have hZL : (lgs.zip ds).length = nl := by rw [List.length_zip, unhide HNL, unhide HNT, hnn]; omega
      have HZL := hide hZL
      obtain ⟨m0, m1, m2, m3⟩ := (unhide HX1).cells
      clear hm1 hm2 hZL
      go_wp2_with fail
      refine (l3Copy_any a c m.bs n (unhide HL) ma mc m.L mn (unhide HLL) m.seq m.o (unhide HOK) _ ((unhide HA).below hW1 (Nat.le_refl _)) ((unhide HI).below hW1 (Nat.le_refl _))).mono ?_
      rintro e w3 ⟨a2, c2, ma2, mc2, rfl, hA3, hI3, hM3, hB3⟩
      have hs3 := hB3.size
      have hW3 := hW1.trans (hB3.mono hW1.size)
      have HX3 := hide ((unhide HX1).below hB3 (by omega))
      have HZ3 := hide ((unhide HZ1).below hB3 (by omega))
      have HMB : Hid (MbAt w3 a2 n ma2 mn w1.heap.size m) := ⟨unhide HL, unhide HLL, hA3, hI3, hM3⟩
      have hS0 := unhide HS0
      clear hA3 hI3 hM3 hB3 HX1 HZ1 m0 m1 m2 m3 hgo hgt
      obtain ⟨wA, hwA⟩ : ∃ wA, wA = w3.alloc (.cells #[.slice a2 n c2, .slice ma2 mn mc2, .int .i64 m.seq, .int .i64 m.o] 29) := ⟨_, rfl⟩
      have hBA : Below w3.heap.size w3 wA := by rw [hwA]; exact (Below.refl _ w3).alloc (Nat.le_refl _) _
      have HNA : Hid (BoxAt wA w3.heap.size a2 n c2 ma2 mn mc2 m.seq m.o) := by rw [hwA]; exact BoxAt.alloc _ _ _ _ _ _ _ _ _ _
      have HXA := hide ((unhide HX3).below hBA (by omega))
      have HZA := hide ((unhide HZ3).below hBA (by omega))
      have HMA := hide ((unhide HMB).below hBA)
      have HOA : Hid (OffRow w3.heap.size ma2) := OffRow.under (unhide HMB).mine (by omega)
      have hWA := hW3.trans (hBA.mono hW3.size)
      have hPw : w.heap.size + 2 ≤ w3.heap.size := by omega
      clear hBA HX3 HZ3 HMB
      go_wp2
      rw [← hwA]
      clear hwA
      go_loopw [9] (fun i wr => ∃ (k : Nat) (a6 : Option Addr) (n6 c6 : Nat) (ma6 : Option Addr) (mn6 mc6 : Nat) (mk : Mb), k ≤ nl ∧ i = .int .i64 k ∧ BoxAt wr w3.heap.size a6 n6 c6 ma6 mn6 mc6 mk.seq mk.o ∧ BoxAt wr (w.heap.size + 1) none 0 0 none 0 0 0 0 ∧ BoxAt wr w.heap.size a n c ma mn mc m.seq m.o ∧ MbAt wr a6 n6 ma6 mn6 (w.heap.size + 2) mk ∧ OffRow w3.heap.size ma6 ∧ Steps ((lgs.zip ds).take k) m mk ∧ mk.Short ∧ Below w.heap.size w wr) (fun i _ => nl - (intOf i).toNat)
      case atStart =>
        exact ⟨0, a2, n, c2, ma2, mn, mc2, m, Nat.zero_le _, rfl, unhide HNA, unhide HZA, unhide HXA, (unhide HMA).lower (by omega), unhide HOA, rfl, (unhide HOK).short, hWA⟩
      case round =>
        obtain ⟨k, a6, n6, c6, ma6, mn6, mc6, mk, hk, rfl, hbox, hres, harg, hmb, hoff, hst, hsh, hWr⟩ := hrel
        obtain ⟨wz, rfl⟩ : ∃ wz, wz = wr := ⟨_, rfl⟩
        have hPl := hbox.lt
        obtain ⟨y0, y1, y2, y3⟩ := hbox.cells
        have HBX := hide hbox
        have HRS := hide hres
        have HAR := hide harg
        have HMK := hide hmb
        have HOF := hide hoff
        have HST := hide hst
        have hn6 : mn6 ≤ 1048576 := by have := hsh.2.2; have := hmb.L; omega
        have HSH := hide hsh
        clear hbox hres harg hmb hoff hst hsh HNA HZA HXA HMA HOA hWA
        by_cases hlt : k < nl
        · obtain ⟨lg, hlg⟩ := getElem?_ex (l := lgs) (k := k) (by have := unhide HNL; omega)
          obtain ⟨d, hdd⟩ := getElem?_ex (l := ds) (k := k) (by have := unhide HNT; omega)
          have HXK : Hid ((lgs.zip ds)[k]? = some (lg, d)) := List.getElem?_zip_eq_some.2 ⟨hlg, hdd⟩
          obtain ⟨b1, o1, rfl, g0⟩ := ((unhide HLA).below hWr (Nat.le_refl _)) k lg hlg
          obtain ⟨b2, o2, rfl, h0⟩ := ((unhide HTA).below hWr (Nat.le_refl _)) k d hdd
          have hd1 := unhide HD d (List.mem_of_getElem? hdd)
          have hb1 : b1 < wz.heap.size := World.block_lt_of_cell? _ _ g0
          have hb2 : b2 < wz.heap.size := World.block_lt_of_cell? _ _ h0
          clear hlg hdd
          have hkn : (k : Int) < (nl : Int) := by omega
          have hkt : (k : Int) < (nt : Int) := by omega
          go_upto_region 9 with fail
          go_cut [10, 11] from 30 to 54 (fun v10 v11 wx => MadeW wz mk (lg, d) v10 v11 wx)
          case first =>
            go_region_held3 (fun W => ∀ b o, b < wz.heap.size → W.cell? ⟨b, o, none⟩ = wz.cell? ⟨b, o, none⟩)
              (first
                | (intro b o hb; rfl)
                | (intro b o hb; exact (unhide HZ4).cell (p := ⟨b, o, none⟩) hb)
                | (intro b o hb; rw [cell_drew, cell_alloc_lt _ _ _ _ (by omega)])
                | (intro b o hb; rw [cell_alloc_lt _ _ _ _ (by omega)]; exact (unhide HZ4).cell (p := ⟨b, o, none⟩) hb)
                | (intro b o hb; rw [World.cell?_setCell_other _ _ _ _ (by simp <;> omega), World.cell?_setCell_other _ _ _ _ (by simp <;> omega), World.cell?_setCell_other _ _ _ _ (by simp <;> omega), World.cell?_setCell_other _ _ _ _ (by simp <;> omega)]; exact (unhide HZ4).cell (p := ⟨b, o, none⟩) hb))
              (first
                | (go_at_call 10
                   refine (specWritten_any a6 c6 mk.bs n6 (unhide HMK).bs ma6 mc6 mk.L mn6 (unhide HMK).L mk.seq mk.o lg d _ (by first | exact (unhide HMK).blocks.below (Below.refl wz.heap.size wz).drew (Nat.le_refl _) | exact (unhide HMK).blocks.below ((Below.refl wz.heap.size wz).alloc (Nat.le_refl _) _).drew (Nat.le_refl _) | exact (unhide HMK).blocks.below ((Below.refl wz.heap.size wz).drew.alloc (Nat.le_refl _) _) (Nat.le_refl _)) (unhide HSH).1 (by first | exact (unhide HMK).ints.below (Below.refl wz.heap.size wz).drew (Nat.le_refl _) | exact (unhide HMK).ints.below ((Below.refl wz.heap.size wz).alloc (Nat.le_refl _) _).drew (Nat.le_refl _) | exact (unhide HMK).ints.below ((Below.refl wz.heap.size wz).drew.alloc (Nat.le_refl _) _) (Nat.le_refl _)) hn6 hd1).mono ?_
                   rintro e w4 ⟨a8, n8, c8, ma8, mn8, mc8, bs8, L8, s8, o8, code, rfl, hWI, hbl, hLl, hA8, hI8, hM8, hB4⟩
                   have HZ4 : Hid (Below wz.heap.size wz w4) := by
                     first
                       | exact (Below.refl wz.heap.size wz).drew.trans hB4
                       | exact ((Below.refl wz.heap.size wz).alloc (Nat.le_refl _) _).drew.trans (hB4.mono (by simp))
                       | exact ((Below.refl wz.heap.size wz).drew.alloc (Nat.le_refl _) _).trans (hB4.mono (by simp))
                   have hs4 := (unhide HZ4).size
                   try have HRW : Hid (BoxAt w4 wz.heap.size none 0 0 none 0 0 0 0) := by first | exact (BoxAt.alloc wz _ _ _ _ _ _ _ _ _).below hB4 (by simp) | exact (BoxAt.alloc wz.drew _ _ _ _ _ _ _ _ _).below hB4 (by simp)
                   try have hcw0 := (unhide HRW).cells.1
                   try have hcw1 := (unhide HRW).cells.2.1
                   try have hcw2 := (unhide HRW).cells.2.2.1
                   try have hcw3 := (unhide HRW).cells.2.2.2
                   try have hfw0 := (unhide HRW).2 0
                   try have hfw1 := (unhide HRW).2 1
                   try have hfw2 := (unhide HRW).2 2
                   try have hfw3 := (unhide HRW).2 3
                   have HWM : Hid (WrM mk (lg, d) ⟨bs8, L8, s8, o8⟩ code) := hWI
                   have HM4 := hide (show MbAt w4 a8 n8 ma8 mn8 _ ⟨bs8, L8, s8, o8⟩ from ⟨hbl, hLl, hA8, hI8, hM8⟩)
                   clear hWI hbl hLl hA8 hI8 hM8 hB4))
            all_goals (
              go_wp2_with fail
              go_meet
              first
                | exact MadeW.after (m' := ⟨bs8, L8, s8, o8⟩) _ (unhide HZ4) ((unhide HM4).lower (by simp)) (unhide HWM)
                | exact MadeW.ahead (m' := ⟨bs8, L8, s8, o8⟩) (unhide HZ4) (Nat.le_refl _) (unhide HRW) ((unhide HM4).lower (by simp)) (unhide HWM))
          case rest =>
            obtain ⟨P8, a8, n8, c8, ma8, mn8, mc8, m8, code, rfl, rfl, hP8, hbox8, hmb8, hoff8, hWM, hZ5⟩ := hcut
            rename World => w5
            have hs5 := hZ5.size
            have hW5 := hWr.trans (hZ5.mono hWr.size)
            have HB5 := hide ((unhide HBX).below hZ5 hPl)
            have HR5 := hide ((unhide HRS).below hZ5 (by omega))
            have HA5 := hide ((unhide HAR).below hZ5 (by omega))
            have HM8 := hide hmb8
            have HO8 : Hid (OffRow w3.heap.size ma8) := OffRow.above hmb8.mine (by omega)
            have HX8 := hide hbox8
            have HWM := hide hWM
            have hPl5 : w3.heap.size < w5.heap.size := by omega
            clear hZ5 hmb8 hoff8 hbox8 hWM HBX HRS HAR HMK HOF g0 h0 y0 y1 y2 y3
            by_cases hc0 : code = 0
            · subst hc0
              obtain ⟨x0, x1, x2, x3⟩ := (unhide HX8).cells
              obtain ⟨z0, z1, z2, z3⟩ := (unhide HB5).cells
              obtain ⟨f0, f1, f2, f3⟩ := (unhide HB5).free
              have hY := (unhide HB5).store a8 n8 c8 ma8 mn8 mc8 m8.seq m8.o
              have hF := (unhide HM8).stored (unhide HB5) (unhide HO8) (.slice a8 n8 c8) (.slice ma8 mn8 mc8) (.int .i64 m8.seq) (.int .i64 m8.o)
              have hT := set4B_touch w5 w3.heap.size (.slice a8 n8 c8) (.slice ma8 mn8 mc8) (.int .i64 m8.seq) (.int .i64 m8.o)
              have hWB := set4B_below hW5 (show w.heap.size ≤ w3.heap.size by omega) (.slice a8 n8 c8) (.slice ma8 mn8 mc8) (.int .i64 m8.seq) (.int .i64 m8.o)
              have HY := hide hY
              have HF := hide hF
              have HR6 := hide ((unhide HR5).touch hT (by omega))
              have HA6 := hide ((unhide HA5).touch hT (by omega))
              have HWB := hide hWB
              clear hY hF hT hWB
              go_wp2
              go_roundw
              case rel =>
                exact ⟨k + 1, a8, n8, c8, ma8, mn8, mc8, m8, by omega, by go_num, unhide HY, unhide HR6, unhide HA6, (unhide HF).lower (by omega), unhide HO8, steps_snoc (unhide HXK) (unhide HST) (unhide HWM), (unhide HWM).short, unhide HWB⟩
              case measure => simp [intOf]; omega
            · have hne : (code != 0) = true := by simpa using hc0
              obtain ⟨m0, m1, m2, m3⟩ := (unhide HA5).cells
              have HSP : Hid (Stops (lgs.zip ds) m code) := ⟨hc0, k, _, mk, m8, unhide HXK, unhide HST, unhide HWM⟩
              go_wp2_with fail
              refine (l3Copy_any a c m.bs n (unhide HL) ma mc m.L mn (unhide HLL) m.seq m.o (unhide HOK) _ ((unhide HA).below hW5 (Nat.le_refl _)) ((unhide HI).below hW5 (Nat.le_refl _))).mono ?_
              rintro e w6 ⟨a2, c2, ma2, mc2, rfl, hA4, hI4, hM4, hB4⟩
              have hs6 := hB4.size
              have hW6 := hW5.trans (hB4.mono hW5.size)
              have HZ6 := hide ((unhide HR5).below hB4 (by omega))
              have HMB : Hid (MbAt w6 a2 n ma2 mn (w.heap.size + 2) m) := ⟨unhide HL, unhide HLL, hA4, hI4, hM4.lower (by omega)⟩
              clear hA4 hI4 hM4 hB4 m0 m1 m2 m3 HB5 HR5 HA5 HX8
              obtain ⟨W5, hW5⟩ : ∃ W5, W5 = set4B w6 (w.heap.size + 1) (.slice a2 n c2) (.slice ma2 mn mc2) (.int .i64 m.seq) (.int .i64 m.o) := ⟨_, rfl⟩
              have hY := BoxAt.store (unhide HZ6) a2 n c2 ma2 mn mc2 m.seq m.o
              have hF := MbAt.stored (unhide HZ6) (unhide HMB) (OffRow.above (unhide HMB).mine (by omega)) (.slice a2 n c2) (.slice ma2 mn mc2) (.int .i64 m.seq) (.int .i64 m.o)
              have hWB := set4B_below hW6 (show w.heap.size ≤ w.heap.size + 1 by omega) (.slice a2 n c2) (.slice ma2 mn mc2) (.int .i64 m.seq) (.int .i64 m.o)
              rw [← hW5] at hY hF hWB
              obtain ⟨z0, z1, z2, z3⟩ := (unhide HZ6).cells
              obtain ⟨f0, f1, f2, f3⟩ := (unhide HZ6).free
              obtain ⟨y0, y1, y2, y3⟩ := hY.cells
              have HF := hide hF
              clear hY hF
              unfold set4B at hW5
              go_wp2
              try rw [← hW5]
              exact bodyPost_ret (v := .tuple #[.agg #[.slice a2 n c2, .slice ma2 mn mc2, .int .i64 m.seq, .int .i64 m.o], .int .i64 code]) (by simp [results, Tryz.results16, go_sem, y0, y1, y2, y3]) rfl ⟨a2, n, c2, ma2, mn, mc2, m, code, rfl, .inr (.inr (.inl ⟨unhide HOK, unhide HMY, rfl, unhide HSP⟩)), (unhide HF).lower (by omega), hWB⟩
        · obtain rfl : k = nl := by omega
          have hall : Steps (lgs.zip ds) m mk := by
            have h1 := unhide HST
            rw [← unhide HZL, List.take_length] at h1
            exact h1
          have HALL := hide hall
          clear hall
          obtain ⟨W5, hW5⟩ : ∃ W5, W5 = set4B wz (w.heap.size + 1) (.slice a6 n6 c6) (.slice ma6 mn6 mc6) (.int .i64 mk.seq) (.int .i64 mk.o) := ⟨_, rfl⟩
          have hY := BoxAt.store (unhide HRS) a6 n6 c6 ma6 mn6 mc6 mk.seq mk.o
          have hF := MbAt.stored (unhide HRS) (unhide HMK) (OffRow.above (unhide HMK).mine (by omega)) (.slice a6 n6 c6) (.slice ma6 mn6 mc6) (.int .i64 mk.seq) (.int .i64 mk.o)
          have hWB := set4B_below hWr (show w.heap.size ≤ w.heap.size + 1 by omega) (.slice a6 n6 c6) (.slice ma6 mn6 mc6) (.int .i64 mk.seq) (.int .i64 mk.o)
          rw [← hW5] at hY hF hWB
          obtain ⟨z0, z1, z2, z3⟩ := (unhide HRS).cells
          obtain ⟨f0, f1, f2, f3⟩ := (unhide HRS).free
          obtain ⟨y0, y1, y2, y3⟩ := hY.cells
          have HF := hide hF
          clear hY hF
          unfold set4B at hW5
          go_wp2
          try rw [← hW5]
          exact bodyPost_ret (v := .tuple #[.agg #[.slice a6 n6 c6, .slice ma6 mn6 mc6, .int .i64 mk.seq, .int .i64 mk.o], .int .i64 0]) (by simp [results, Tryz.results16, go_sem, y0, y1, y2, y3]) rfl ⟨a6, n6, c6, ma6, mn6, mc6, mk, 0, rfl, .inr (.inr (.inr ⟨unhide HOK, unhide HMY, unhide HALL, rfl⟩)), (unhide HF).lower (by omega), hWB⟩
end Go.Proofs.YtalgkmellbamgaaGreat
