/- Whatever the member, the logs and the datas, the law FnExactWrittenAll answers true: the program's WrittenAll is the model's, every field and the code, it leaves its arguments as they were, and its answer owns its memory. No condition. -/
import Derived.Test.YtalgkmellbamgaaGreatRows
import Derived.Test.YtalgkmellbamgaaGreatG36
import Derived.Test.YtalgkmellbamgaaGreatG37
import Derived.Test.YtalgkmellbamgaaGreatG38
import Derived.Test.YtalgkmellbamgaaGreatG24
import Derived.Test.YtalgkmellbamgaaGreatG28
import Derived.Test.YtalgkmellbamgaaGreatG34
import Derived.WalkKit
import Derived.ProofKit
import Derived.OpenShut
import Derived.ChangeOld
import Derived.ChangeMaps5
import Derived.Below
import Derived.Deep.RegionHeld3
namespace Go.Proofs.YtalgkmellbamgaaGreat.fnExactWrittenAll
open Go.ChangeShapes Go.WideShapes Go.ChangeAt Go.RowKit
set_option linter.unusedVariables false
set_option linter.unusedSimpArgs false

set_option maxRecDepth 100000 in
set_option maxHeartbeats 16000000 in
theorem walk (a : Option Addr) (c : Nat) (bs : List Bk) (n : Nat) (hl : bs.length = n) (ma : Option Addr) (mc : Nat) (Lm : List Int) (mn : Nat) (hL : Lm.length = mn) (seq o : Int) (la : Option Addr) (lc : Nat) (lgs : List Int) (nl : Nat) (hnl : lgs.length = nl) (ta : Option Addr) (tc : Nat) (ds : List ByteArray) (nt : Nat) (hnt : ds.length = nt) (w : World)
    (h : BlocksAt w a bs) (hn : Lens 9223372036854775807 bs) (ht : Texts bs) (hI : IntsAt w ma Lm) (hmn : mn ≤ 9223372036854775807) (hla : IntsAt w la lgs) (hta : TextsAt w ta ds) (hnt0 : nt ≤ 9223372036854775807) (hds : ∀ s ∈ ds, s.size ≤ 9223372036854775807) :
    Calls Tryz.prog 6 #[.agg #[.slice a n c, .slice ma mn mc, .int .i64 seq, .int .i64 o], .slice la nl lc, .slice ta nt tc] w fun e w' => e = .returned (.bool true) ∧ Below w.heap.size w w' := by
  have HL := hide hl
  have HLL := hide hL
  have HNL := hide hnl
  have HNT := hide hnt
  have HLA := hide hla
  have HTA := hide hta
  have hb0 : ∀ o, Below w.heap.size w (w.alloc o) := fun o => (Below.refl _ w).alloc (Nat.le_refl _) _
  clear hl hL hnl hnt hla hta
  go_enter Tryz.func6, Tryz.ntmps6
  by_cases hnl9 : nl ≤ 1048576
  case neg =>
    have hnl' : (1048576 : Int) < (nl : Int) := by omega
    clear h hI hn ht
    go_wp2
    go_ret
    exact ⟨rfl, hb0 _⟩
  have hnl' : ¬ (1048576 : Int) < (nl : Int) := by omega
  go_wp2_with fail
  refine (szFtl_any a c bs n (unhide HL) ma mc mn seq o _ (h.below (hb0 _) (Nat.le_refl _)) hn ht hmn).mono ?_
  rintro e w1 ⟨left, rfl, hle, hlens, hB1⟩
  have hs1 := hB1.size
  simp at hs1
  have Fx1 : Hid (BoxAt w1 w.heap.size a n c ma mn mc seq o) := (BoxAt.alloc _ _ _ _ _ _ _ _ _ _).below hB1 (by simp)
  have hW1 : Below w.heap.size w w1 := (hb0 _).trans (hB1.mono (by simp))
  have HA := hide h
  have HI := hide hI
  clear hb0 hB1 h hn ht hI
  by_cases h0 : left < 0
  · clear hlens
    go_wp2
    go_ret
    exact ⟨rfl, hW1⟩
  obtain ⟨hn1, hm1⟩ := hlens (by omega)
  have HN := hide hn1
  have HN9 : Hid (Lens 9223372036854775807 bs) := ⟨by have := (unhide HN).1; omega, fun b hb => by have := (unhide HN).2 b hb; omega⟩
  have hkb := kAfter_upto bs 1 (unhide HN).2
  have HKK : Hid (1 ≤ kAfter 1 bs ∧ kAfter 1 bs + (mn : Int) ≤ 4398049984514) := ⟨hkb.1, by have := (unhide HN).1; have h2 := hkb.2; have h3 : (bs.length : Int) * 4194305 ≤ 1048576 * 4194305 := Int.mul_le_mul_of_nonneg_right (by omega) (by omega); omega⟩
  clear hlens hn1 hkb
  go_wp2_with fail
  refine (szStringS_any ta tc ds nt (unhide HNT) left _ ((unhide HTA).below hW1 (Nat.le_refl _)) hnt0 hds (by omega) (by omega)).mono ?_
  rintro e w1' ⟨left2, rfl, _, hlens2, rfl⟩
  by_cases h02 : left2 < 0
  · clear hlens2
    go_wp2
    go_ret
    exact ⟨rfl, hW1⟩
  obtain ⟨hnt9, hds1⟩ := hlens2 (by omega)
  have HD := hide hds1
  have hl01 : w.heap.size < w1'.heap.size := hs1
  obtain ⟨w1, rfl⟩ : ∃ w1, w1 = w1' := ⟨_, rfl⟩
  clear hlens2 hds1 hds hnt0 hle
  obtain ⟨Fxc0, Fxc1, Fxc2, Fxc3⟩ := (unhide Fx1).cells
  go_wp2_with fail
  refine (toFtl_own a c bs n (unhide HL) ma mc Lm mn (unhide HLL) seq o _ ((unhide HA).below hW1 (Nat.le_refl _)) (unhide HN) ((unhide HI).below hW1 (Nat.le_refl _)) hm1).mono ?_
  rintro e w2 ⟨g1, m1, rfl, hO1, hB2⟩
  clear Fxc0 Fxc1 Fxc2 Fxc3
  have hs2 := hB2.size
  have hW2 := hW1.trans (hB2.mono hW1.size)
  have HG1 := hide hO1.blocksAt
  have HR1 := hide hO1.2.1
  have Fx2 := hide ((unhide Fx1).below hB2 (by omega))
  clear Fx1
  clear hB2 hW1 hO1
  go_wp2_with fail
  refine (toInt64S_any la lc lgs nl (unhide HNL) _ ((unhide HLA).below hW2 (Nat.le_refl _)) hnl9).mono ?_
  rintro e w3 ⟨rfl, hi3, hB3⟩
  have hs3 := hB3.size
  have hW3 := hW2.trans (hB3.mono hW2.size)
  have HG3 := hide ((unhide HG1).below hB3 (Nat.le_refl _))
  have HR3 := hide ((unhide HR1).below hB3 (Nat.le_refl _))
  have HI3 := hide (RowInts.intsAt hi3 (by rw [unhide HNL]; exact Nat.le_refl _))
  have Fx3 := hide ((unhide Fx2).below hB3 (by omega))
  clear Fx2
  clear hB3 hW2 HG1 HR1 hi3
  go_wp2_with fail
  refine (toStringS_any ta tc ds nt (unhide HNT) _ ((unhide HTA).below hW3 (Nat.le_refl _)) hnt9).mono ?_
  rintro e w4 ⟨rfl, ht4, hB4⟩
  have hs4 := hB4.size
  have hW4 := hW3.trans (hB4.mono hW3.size)
  have HG4 := hide ((unhide HG3).below hB4 (Nat.le_refl _))
  have HR4 := hide ((unhide HR3).below hB4 (Nat.le_refl _))
  have HI4 := hide ((unhide HI3).below hB4 (Nat.le_refl _))
  have HT4 := hide (RowTexts.textsAt ht4 (by rw [unhide HNT]; exact Nat.le_refl _))
  have Fx4 := hide ((unhide Fx3).below hB4 (by omega))
  clear Fx3
  clear hB4 hW3 HG3 HR3 HI3 ht4
  go_wp2_with fail
  refine (specWrittenAll_any _ n ⟨bs, Lm, seq, o⟩ n (unhide HL) _ mn mn (unhide HLL) _ nl lgs nl (unhide HNL) _ nt ds nt (unhide HNT) _ (unhide HG4) (unhide HN) (unhide HR4) hm1 (unhide HI4) (unhide HT4) (unhide HD) hnl9 hnt9).mono ?_
  rintro e w5 ⟨a0, n0, c0, ma0, mn0, mc0, m0, code, rfl, hWI, hMB, hB5⟩
  have hs5 := hB5.size
  have hW5 := hW4.trans (hB5.mono hW4.size)
  have hsh := hWI.short
  have HWI := hide hWI
  have HA0 := hide hMB.blocks
  have HI0 := hide hMB.ints
  have HBL := hide hMB.bs
  have HLLL := hide hMB.L
  have HSH := hide hsh.1
  have hmn0 : mn0 ≤ 1048576 := by have := hsh.2.2; have := hMB.L; omega
  have hkb := kAfter_upto m0.bs 1 (unhide HSH).2
  have HK2 : Hid (1 ≤ kAfter 1 m0.bs ∧ kAfter 1 m0.bs + (mn0 : Int) ≤ 1125899906842624) := ⟨hkb.1, by have h2 := hkb.2; have h4 := hsh.2.1; have h3 : (m0.bs.length : Int) * 4194305 ≤ 1048576 * 4194305 := Int.mul_le_mul_of_nonneg_right (by omega) (by omega); omega⟩
  have Fx5 := hide ((unhide Fx4).below hB5 (by omega))
  clear Fx4
  clear hB5 hW4 HG4 HR4 HI4 HT4 hWI hMB hsh hkb
  have hb5 : ∀ o, Below w5.heap.size w5 (w5.alloc o) := fun o => (Below.refl _ w5).alloc (Nat.le_refl _) _
  have hl05 : w.heap.size < w5.heap.size := by omega
  obtain ⟨Fxc0, Fxc1, Fxc2, Fxc3⟩ := (unhide Fx5).cells
  go_wp2_with fail
  refine (toFtl_own a c bs n (unhide HL) ma mc Lm mn (unhide HLL) seq o _ ((unhide HA).below (hW5.trans ((hb5 _).mono (by omega))) (Nat.le_refl _)) (unhide HN) ((unhide HI).below (hW5.trans ((hb5 _).mono (by omega))) (Nat.le_refl _)) hm1).mono ?_
  rintro e w6 ⟨g2, m2, rfl, hO2, hB6'⟩
  clear Fxc0 Fxc1 Fxc2 Fxc3
  simp only [World.size_alloc] at hO2
  have hB6 : Below w5.heap.size w5 w6 := (hb5 _).trans (hB6'.mono (by simp))
  have hl56 : w5.heap.size < w6.heap.size := by have := hB6'.size; simp at this; omega
  have Fv6 : Hid (BoxAt w6 w5.heap.size a0 n0 c0 ma0 mn0 mc0 m0.seq m0.o) := (BoxAt.alloc _ _ _ _ _ _ _ _ _ _).below hB6' (by simp)
  have hs6 := hB6.size
  have hW6 := hW5.trans (hB6.mono hW5.size)
  have Fx6 := hide ((unhide Fx5).below hB6 (by omega))
  clear Fx5
  have Fs6 : Hid (Below w5.heap.size w5 w6) := hB6
  have FO6 := hide hO2
  clear hB6 hB6' hb5 hW5 hO2
  have hb6 : ∀ o, Below w6.heap.size w6 (w6.alloc o) := fun o => (Below.refl _ w6).alloc (Nat.le_refl _) _
  go_wp2_with fail
  refine (toInt64S_any la lc lgs nl (unhide HNL) _ ((unhide HLA).below (hW6.trans ((hb6 _).mono (by omega))) (Nat.le_refl _)) hnl9).mono ?_
  rintro e w7 ⟨rfl, hi7, hB7'⟩
  simp only [World.size_alloc] at hi7 ⊢
  have hB7 : Below w6.heap.size w6 w7 := (hb6 _).trans (hB7'.mono (by simp))
  have hl67 : w6.heap.size + 1 < w7.heap.size := World.rowIs.lt hi7
  have Fy7 : Hid (BoxAt w7 w6.heap.size (some ⟨g2, 0, none⟩) n n (some ⟨m2, 0, none⟩) mn mn seq o) := (BoxAt.alloc _ _ _ _ _ _ _ _ _ _).below hB7' (by simp)
  have hs7 := hB7.size
  have hW7 := hW6.trans (hB7.mono hW6.size)
  have Fx7 := hide ((unhide Fx6).below hB7 (by omega))
  have Fv7 := hide ((unhide Fv6).below hB7 (by omega))
  have Fs7 := hide ((unhide Fs6).trans (hB7.mono (by omega)))
  have FO7 := hide ((unhide FO6).below hB7)
  clear Fx6 Fv6 Fs6 FO6
  have Fl7 : Hid (RowInts w7 2 (w6.heap.size + 1) nl lgs) := hi7
  clear hB7 hB7' hb6 hW6 hi7
  go_wp2_with fail
  refine (toStringS_any ta tc ds nt (unhide HNT) _ ((unhide HTA).below hW7 (Nat.le_refl _)) hnt9).mono ?_
  rintro e w8 ⟨rfl, ht8, hB8⟩
  have hs8 := hB8.size
  have hW8 := hW7.trans (hB8.mono hW7.size)
  have Fx8 := hide ((unhide Fx7).below hB8 (by omega))
  have Fv8 := hide ((unhide Fv7).below hB8 (by omega))
  have Fs8 := hide ((unhide Fs7).trans (hB8.mono (by omega)))
  have FO8 := hide ((unhide FO7).below hB8)
  have Fy8 := hide ((unhide Fy7).below hB8 (by omega))
  have Fl8 := hide (World.rowIs.of_block (unhide Fl7) (hB8.block (w6.heap.size + 1) (by omega)))
  clear Fx7 Fv7 Fs7 FO7 Fy7 Fl7
  have hl78 : w7.heap.size < w8.heap.size := World.rowIs.lt ht8
  have Ft8 : Hid (RowTexts w8 9 w7.heap.size nt ds) := ht8
  clear hB8 hW7 ht8
  obtain ⟨Fyc0, Fyc1, Fyc2, Fyc3⟩ := (unhide Fy8).cells
  go_wp2_with fail
  refine (implWrittenAll_any _ n ⟨bs, Lm, seq, o⟩ n (unhide HL) _ mn mn (unhide HLL) _ nl lgs nl (unhide HNL) _ nt ds nt (unhide HNT) _ (unhide FO8).blocksAt (unhide HN9) (unhide FO8).2.1 (by omega) (RowInts.intsAt (unhide Fl8) (by rw [unhide HNL]; exact Nat.le_refl _)) (RowTexts.textsAt (unhide Ft8) (by rw [unhide HNT]; exact Nat.le_refl _)) (unhide HD) hnl9 hnt9).mono ?_
  rintro e w9 ⟨a6, n6, c6, ma6, mn6, mc6, m6, code6, rfl, hWI6, hO6, hB9⟩
  clear Fyc0 Fyc1 Fyc2 Fyc3
  obtain ⟨rfl, rfl⟩ := hWI6.one (unhide HWI)
  obtain rfl : n6 = n0 := by have := hO6.length.1; have := unhide HBL; omega
  obtain rfl : mn6 = mn0 := by have := hO6.length.2; have := unhide HLLL; omega
  have hs9 := hB9.size
  have hW9 := hW8.trans (hB9.mono hW8.size)
  have Fx9 := hide ((unhide Fx8).below hB9 (by omega))
  have Fv9 := hide ((unhide Fv8).below hB9 (by omega))
  have Fs9 := hide ((unhide Fs8).trans (hB9.mono (by omega)))
  have FO9 := hide ((unhide FO8).below hB9)
  have Fy9 := hide ((unhide Fy8).below hB9 (by omega))
  have Fl9 := hide (World.rowIs.of_block (unhide Fl8) (hB9.block (w6.heap.size + 1) (by omega)))
  have Ft9 := hide (World.rowIs.of_block (unhide Ft8) (hB9.block w7.heap.size (by omega)))
  clear Fx8 Fv8 Fs8 FO8 Fy8 Fl8 Ft8
  have FG9 := hide hO6
  have hne : (code6 != code6) = false := by simp
  clear hB9 hW8 hO6 hWI6
  have hb9 : ∀ o, Below w9.heap.size w9 (w9.alloc o) := fun o => (Below.refl _ w9).alloc (Nat.le_refl _) _
  have hl59 : w5.heap.size < w9.heap.size := by omega
  have hvv0 : ∀ o', (w9.alloc o').cell? ⟨w5.heap.size, 0, none⟩ = some (.slice a0 n6 c0) := fun o' => (cell_alloc_lt _ _ _ _ hl59).trans (unhide Fv9).cells.1
  have hvv1 : ∀ o', (w9.alloc o').cell? ⟨w5.heap.size, 1, none⟩ = some (.slice ma0 mn6 mc0) := fun o' => (cell_alloc_lt _ _ _ _ hl59).trans (unhide Fv9).cells.2.1
  have hvv2 : ∀ o', (w9.alloc o').cell? ⟨w5.heap.size, 2, none⟩ = some (.int .i64 m6.seq) := fun o' => (cell_alloc_lt _ _ _ _ hl59).trans (unhide Fv9).cells.2.2.1
  have hvv3 : ∀ o', (w9.alloc o').cell? ⟨w5.heap.size, 3, none⟩ = some (.int .i64 m6.o) := fun o' => (cell_alloc_lt _ _ _ _ hl59).trans (unhide Fv9).cells.2.2.2
  go_wp2_with fail
  refine (eqFtl_same a6 a0 c6 c0 m6.bs n6 (unhide HBL) ma6 ma0 mc6 mc0 m6.L mn6 (unhide HLLL) m6.seq m6.o _ ((unhide FG9).below (hb9 _)).blocksAt ((unhide HA0).below ((unhide Fs9).trans ((hb9 _).mono (by omega))) (Nat.le_refl _)) (unhide HSH) ((unhide FG9).below (hb9 _)).2.1 ((unhide HI0).below ((unhide Fs9).trans ((hb9 _).mono (by omega))) (Nat.le_refl _)) hmn0).mono ?_
  rintro e w10 ⟨rfl, hB10'⟩
  have hB10 : Below w9.heap.size w9 w10 := (hb9 _).trans (hB10'.mono (by simp))
  have hl910 : w9.heap.size < w10.heap.size := by have := hB10'.size; simp at this; omega
  have Fg10 : Hid (BoxAt w10 w9.heap.size a6 n6 c6 ma6 mn6 mc6 m6.seq m6.o) := (BoxAt.alloc _ _ _ _ _ _ _ _ _ _).below hB10' (by simp)
  have hs10 := hB10.size
  have hW10 := hW9.trans (hB10.mono hW9.size)
  have Fx10 := hide ((unhide Fx9).below hB10 (by omega))
  have Fv10 := hide ((unhide Fv9).below hB10 (by omega))
  have Fs10 := hide ((unhide Fs9).trans (hB10.mono (by omega)))
  have FO10 := hide ((unhide FO9).below hB10)
  have Fy10 := hide ((unhide Fy9).below hB10 (by omega))
  have Fl10 := hide (World.rowIs.of_block (unhide Fl9) (hB10.block (w6.heap.size + 1) (by omega)))
  have Ft10 := hide (World.rowIs.of_block (unhide Ft9) (hB10.block w7.heap.size (by omega)))
  have FG10 := hide ((unhide FG9).below hB10)
  clear Fx9 Fv9 Fs9 FO9 Fy9 Fl9 Ft9 FG9
  clear hB10 hB10' hb9 hW9 hvv0 hvv1 hvv2 hvv3
  have HA7 : Hid (BlocksAt w10.drew a bs) := (unhide HA).below hW10.drew (Nat.le_refl _)
  have HI7 : Hid (IntsAt w10.drew ma Lm) := (unhide HI).below hW10.drew (Nat.le_refl _)
  have HGG7 : Hid (BlocksAt w10.drew (some ⟨g2, 0, none⟩) bs) := (unhide FO10).blocksAt.below (Below.refl w10.heap.size w10).drew (Nat.le_refl _)
  have HR7 : Hid (IntsAt w10.drew (some ⟨m2, 0, none⟩) Lm) := (unhide FO10).2.1.below (Below.refl w10.heap.size w10).drew (Nat.le_refl _)
  have hl610 : w6.heap.size < w10.heap.size := by omega
  have hl010 : w.heap.size < w10.heap.size := by omega
  obtain ⟨Fxc0, Fxc1, Fxc2, Fxc3⟩ := (unhide Fx10).cells
  obtain ⟨Fyc0, Fyc1, Fyc2, Fyc3⟩ := (unhide Fy10).cells
  go_wp2_with fail
  go_region_held3 (fun W => ∀ b o, b < w10.heap.size → W.cell? ⟨b, o, none⟩ = w10.cell? ⟨b, o, none⟩)
    (first
      | (intro b o hb; rfl)
      | (intro b o hb; exact (unhide HB79).cell (p := ⟨b, o, none⟩) hb)
      | (intro b o hb; exact (unhide HB78).cell (p := ⟨b, o, none⟩) hb))
    (first
      | (go_at_call 18
         refine (toFtl_own a c bs n (unhide HL) ma mc Lm mn (unhide HLL) seq o _ (unhide HA7) (unhide HN) (unhide HI7) hm1).mono ?_
         rintro e w11 ⟨g3, m3, rfl, hO3, hB8⟩
         have HB78 := hide ((Below.refl w10.heap.size w10).drew.trans hB8)
         have HG8 := hide ((unhide HGG7).below hB8 (Nat.le_refl _))
         have HR8 := hide ((unhide HR7).below hB8 (Nat.le_refl _))
         have HH8 := hide hO3.blocksAt
         have HJ8 := hide hO3.2.1
         have hs8 : w10.heap.size ≤ w11.heap.size := hB8.size
         clear hB8 hO3)
      | (go_at_call 19
         refine (eqFtl_same _ _ n n bs n (unhide HL) _ _ mn mn Lm mn (unhide HLL) seq o _ (unhide HG8) (unhide HH8) (unhide HN) (unhide HR8) (unhide HJ8) hm1).mono ?_
         rintro e w12 ⟨rfl, hB9⟩
         have HB79 := hide ((unhide HB78).trans (hB9.mono (unhide HB78).size))
         have hs9 : w11.heap.size ≤ w12.heap.size := hB9.size
         clear hB9))
  have hB12 := unhide HB79
  have hs12 : w10.heap.size ≤ w12.heap.size := hB12.size
  have hW12 := hW10.trans (hB12.mono hW10.size)
  have Fx12 := hide ((unhide Fx10).below hB12 (by omega))
  have Fv12 := hide ((unhide Fv10).below hB12 (by omega))
  have Fs12 := hide ((unhide Fs10).trans (hB12.mono (by omega)))
  have FO12 := hide ((unhide FO10).below hB12)
  have Fy12 := hide ((unhide Fy10).below hB12 (by omega))
  have Fl12 := hide (World.rowIs.of_block (unhide Fl10) (hB12.block (w6.heap.size + 1) (by omega)))
  have Ft12 := hide (World.rowIs.of_block (unhide Ft10) (hB12.block w7.heap.size (by omega)))
  have FG12 := hide ((unhide FG10).below hB12)
  have Fg12 := hide ((unhide Fg10).below hB12 (by omega))
  clear Fx10 Fv10 Fs10 FO10 Fy10 Fl10 Ft10 FG10 Fg10
  clear HB78 HB79 hB12 HGG7 HR7 HG8 HR8 HH8 HJ8 HA7 HI7 hW10
  go_wp2_with fail
  refine (toInt64S_any la lc lgs nl (unhide HNL) _ ((unhide HLA).below hW12 (Nat.le_refl _)) hnl9).mono ?_
  rintro e w13 ⟨rfl, hi13, hB13⟩
  have hs13 := hB13.size
  have hW13 := hW12.trans (hB13.mono hW12.size)
  have Fx13 := hide ((unhide Fx12).below hB13 (by omega))
  have Fv13 := hide ((unhide Fv12).below hB13 (by omega))
  have Fs13 := hide ((unhide Fs12).trans (hB13.mono (by omega)))
  have FO13 := hide ((unhide FO12).below hB13)
  have Fy13 := hide ((unhide Fy12).below hB13 (by omega))
  have Fl13 := hide (World.rowIs.of_block (unhide Fl12) (hB13.block (w6.heap.size + 1) (by omega)))
  have Ft13 := hide (World.rowIs.of_block (unhide Ft12) (hB13.block w7.heap.size (by omega)))
  have FG13 := hide ((unhide FG12).below hB13)
  have Fg13 := hide ((unhide Fg12).below hB13 (by omega))
  clear Fx12 Fv12 Fs12 FO12 Fy12 Fl12 Ft12 FG12 Fg12
  have HI13 := hide (RowInts.intsAt hi13 (by rw [unhide HNL]; exact Nat.le_refl _))
  clear hB13 hW12 hi13
  go_wp2_with fail
  refine (eqInt64S_same _ _ _ _ lgs nl (unhide HNL) _ (RowInts.intsAt (unhide Fl13) (by rw [unhide HNL]; exact Nat.le_refl _)) (unhide HI13) hnl9).mono ?_
  rintro e w14 ⟨rfl, hB14⟩
  have hs14 := hB14.size
  have hW14 := hW13.trans (hB14.mono hW13.size)
  have Fx14 := hide ((unhide Fx13).below hB14 (by omega))
  have Fv14 := hide ((unhide Fv13).below hB14 (by omega))
  have Fs14 := hide ((unhide Fs13).trans (hB14.mono (by omega)))
  have FO14 := hide ((unhide FO13).below hB14)
  have Fy14 := hide ((unhide Fy13).below hB14 (by omega))
  have Fl14 := hide (World.rowIs.of_block (unhide Fl13) (hB14.block (w6.heap.size + 1) (by omega)))
  have Ft14 := hide (World.rowIs.of_block (unhide Ft13) (hB14.block w7.heap.size (by omega)))
  have FG14 := hide ((unhide FG13).below hB14)
  have Fg14 := hide ((unhide Fg13).below hB14 (by omega))
  clear Fx13 Fv13 Fs13 FO13 Fy13 Fl13 Ft13 FG13 Fg13
  clear hB14 hW13 HI13
  go_wp2_with fail
  refine (toStringS_any ta tc ds nt (unhide HNT) _ ((unhide HTA).below hW14 (Nat.le_refl _)) hnt9).mono ?_
  rintro e w15 ⟨rfl, ht15, hB15⟩
  have hs15 := hB15.size
  have hW15 := hW14.trans (hB15.mono hW14.size)
  have Fx15 := hide ((unhide Fx14).below hB15 (by omega))
  have Fv15 := hide ((unhide Fv14).below hB15 (by omega))
  have Fs15 := hide ((unhide Fs14).trans (hB15.mono (by omega)))
  have FO15 := hide ((unhide FO14).below hB15)
  have Fy15 := hide ((unhide Fy14).below hB15 (by omega))
  have Fl15 := hide (World.rowIs.of_block (unhide Fl14) (hB15.block (w6.heap.size + 1) (by omega)))
  have Ft15 := hide (World.rowIs.of_block (unhide Ft14) (hB15.block w7.heap.size (by omega)))
  have FG15 := hide ((unhide FG14).below hB15)
  have Fg15 := hide ((unhide Fg14).below hB15 (by omega))
  clear Fx14 Fv14 Fs14 FO14 Fy14 Fl14 Ft14 FG14 Fg14
  have HT15 := hide (RowTexts.textsAt ht15 (by rw [unhide HNT]; exact Nat.le_refl _))
  clear hB15 hW14 ht15
  go_wp2_with fail
  refine (eqStringS_same _ _ _ _ ds nt (unhide HNT) _ (RowTexts.textsAt (unhide Ft15) (by rw [unhide HNT]; exact Nat.le_refl _)) (unhide HT15) hnt9).mono ?_
  rintro e w16 ⟨rfl, hB16⟩
  have hs16 := hB16.size
  have hW16 := hW15.trans (hB16.mono hW15.size)
  have Fx16 := hide ((unhide Fx15).below hB16 (by omega))
  have Fv16 := hide ((unhide Fv15).below hB16 (by omega))
  have Fs16 := hide ((unhide Fs15).trans (hB16.mono (by omega)))
  have FO16 := hide ((unhide FO15).below hB16)
  have Fy16 := hide ((unhide Fy15).below hB16 (by omega))
  have Fl16 := hide (World.rowIs.of_block (unhide Fl15) (hB16.block (w6.heap.size + 1) (by omega)))
  have Ft16 := hide (World.rowIs.of_block (unhide Ft15) (hB16.block w7.heap.size (by omega)))
  have FG16 := hide ((unhide FG15).below hB16)
  have Fg16 := hide ((unhide Fg15).below hB16 (by omega))
  clear Fx15 Fv15 Fs15 FO15 Fy15 Fl15 Ft15 FG15 Fg15
  clear hB16 hW15 HT15
  obtain ⟨Fyc0, Fyc1, Fyc2, Fyc3⟩ := (unhide Fy16).cells
  go_wp2_with fail
  refine (markFtl_own _ n n bs _ mn mn Lm seq o _ (unhide FO16) (by omega) (unhide HN) hm1 (by have := (unhide HKK).2; omega)).mono ?_
  rintro e w17 ⟨rfl, _, hT⟩
  clear Fyc0 Fyc1 Fyc2 Fyc3
  have hk1 := (unhide HKK).1
  have hk2 := (unhide HKK).2
  obtain ⟨kk, hkk⟩ : ∃ kk, kk = kAfter 1 bs + (mn : Int) := ⟨_, rfl⟩
  have hk3 : 1 ≤ kk := by omega
  have hk4 : kk ≤ 4398049984514 := by omega
  rw [← hkk]
  have hs17 := hT.size
  have hTb : Below (w5.heap.size + 1) w16 w17 := hT.below (by omega) (fun k hk => hk.1)
  have hW17 := hW16.trans (hTb.mono (by omega))
  have Fx17 := hide ((unhide Fx16).touch hT (fun hs => by first | omega | (have h1 := hs.1; have h2 := hs.2; omega)))
  have Fv17 := hide ((unhide Fv16).touch hT (fun hs => by first | omega | (have h1 := hs.1; have h2 := hs.2; omega)))
  have Fs17 := hide ((unhide Fs16).trans (hTb.mono (by omega)))
  have Fl17 := hide (World.rowIs.of_block (unhide Fl16) (hT.block (w6.heap.size + 1) (by omega) (fun hs => by first | omega | (have h1 := hs.1; have h2 := hs.2; omega))))
  have Ft17 := hide (World.rowIs.of_block (unhide Ft16) (hT.block w7.heap.size (by omega) (fun hs => by first | omega | (have h1 := hs.1; have h2 := hs.2; omega))))
  have FG17 := hide ((unhide FG16).touch hT (fun k hk => by omega))
  have Fg17 := hide ((unhide Fg16).touch hT (fun hs => by first | omega | (have h1 := hs.1; have h2 := hs.2; omega)))
  clear Fx16 Fv16 Fs16 FO16 Fy16 Fl16 Ft16 FG16 Fg16
  clear hT hTb hW16 hkk hk1 hk2 HKK
  go_wp2_with fail
  refine (markInt64S_any (w6.heap.size + 1) 0 nl nl kk _ (fun i hi => ⟨by obtain ⟨z, hz⟩ := getElem?_ex (l := lgs) (k := i) (by have := unhide HNL; omega); obtain ⟨b', o', hb', hc'⟩ := RowInts.intsAt (unhide Fl17) (by rw [unhide HNL]; exact Nat.le_refl _) i z hz; cases hb'; exact ⟨z, hc'⟩, World.rowIs.frozen (unhide Fl17) _⟩) hnl9 (by omega) (by omega)).mono ?_
  rintro e w18 ⟨rfl, _, hT⟩
  have hs18 := hT.size
  have hTb : Below (w6.heap.size + 1) w17 w18 := hT.below (by omega) (fun k hk => by omega)
  have hW18 := hW17.trans (hTb.mono (by omega))
  have Fx18 := hide ((unhide Fx17).touch hT (fun hs => by first | omega | (have h1 := hs.1; have h2 := hs.2; omega)))
  have Fv18 := hide ((unhide Fv17).touch hT (fun hs => by first | omega | (have h1 := hs.1; have h2 := hs.2; omega)))
  have Fs18 := hide ((unhide Fs17).trans (hTb.mono (by omega)))
  have Ft18 := hide (World.rowIs.of_block (unhide Ft17) (hT.block w7.heap.size (by omega) (fun hs => by first | omega | (have h1 := hs.1; have h2 := hs.2; omega))))
  have FG18 := hide ((unhide FG17).touch hT (fun k hk => by omega))
  have Fg18 := hide ((unhide Fg17).touch hT (fun hs => by first | omega | (have h1 := hs.1; have h2 := hs.2; omega)))
  clear Fx17 Fv17 Fs17 Fl17 Ft17 FG17 Fg17
  clear hT hTb hW17
  go_wp2_with fail
  refine (markStringS_any w7.heap.size nt nt (kk + (nl : Int)) _ (RowTexts.mine (unhide Ft18) (unhide HNT)) hnt9 (by omega) (by omega)).mono ?_
  rintro e w19 ⟨rfl, hT⟩
  have hs19 := hT.size
  have hTb : Below w7.heap.size w18 w19 := hT.below (by omega) (fun k hk => by omega)
  have hW19 := hW18.trans (hTb.mono (by omega))
  have hk5 : ¬ kk + (nl : Int) + (nt : Int) < 0 := by omega
  have Fx19 := hide ((unhide Fx18).touch hT (fun hs => by first | omega | (have h1 := hs.1; have h2 := hs.2; omega)))
  have Fv19 := hide ((unhide Fv18).touch hT (fun hs => by first | omega | (have h1 := hs.1; have h2 := hs.2; omega)))
  have Fs19 := hide ((unhide Fs18).trans (hTb.mono (by omega)))
  have FG19 := hide ((unhide FG18).touch hT (fun k hk => by omega))
  have Fg19 := hide ((unhide Fg18).touch hT (fun hs => by first | omega | (have h1 := hs.1; have h2 := hs.2; omega)))
  clear Fx18 Fv18 Fs18 Ft18 FG18 Fg18
  clear hT hTb hW18
  obtain ⟨Fvc0, Fvc1, Fvc2, Fvc3⟩ := (unhide Fv19).cells
  obtain ⟨Fgc0, Fgc1, Fgc2, Fgc3⟩ := (unhide Fg19).cells
  go_wp2_with fail
  refine (eqFtl_same a6 a0 c6 c0 m6.bs n6 (unhide HBL) ma6 ma0 mc6 mc0 m6.L mn6 (unhide HLLL) m6.seq m6.o _ (unhide FG19).blocksAt ((unhide HA0).below (unhide Fs19) (Nat.le_refl _)) (unhide HSH) (unhide FG19).2.1 ((unhide HI0).below (unhide Fs19) (Nat.le_refl _)) hmn0).mono ?_
  rintro e w20 ⟨rfl, hB20⟩
  clear Fvc0 Fvc1 Fvc2 Fvc3 Fgc0 Fgc1 Fgc2 Fgc3
  have hs20 := hB20.size
  have hW20 := hW19.trans (hB20.mono hW19.size)
  have Fx20 := hide ((unhide Fx19).below hB20 (by omega))
  have Fv20 := hide ((unhide Fv19).below hB20 (by omega))
  have Fs20 := hide ((unhide Fs19).trans (hB20.mono (by omega)))
  have FG20 := hide ((unhide FG19).below hB20)
  have Fg20 := hide ((unhide Fg19).below hB20 (by omega))
  clear Fx19 Fv19 Fs19 FG19 Fg19
  clear hB20 hW19
  obtain ⟨Fgc0, Fgc1, Fgc2, Fgc3⟩ := (unhide Fg20).cells
  go_wp2_with fail
  refine (markFtl_own a6 n6 c6 m6.bs ma6 mn6 mc6 m6.L m6.seq m6.o _ (unhide FG20) (by omega) (unhide HSH) hmn0 (unhide HK2).2).mono ?_
  rintro e w21 ⟨rfl, hMk, hT⟩
  clear Fgc0 Fgc1 Fgc2 Fgc3
  have hs21 := hT.size
  have hTb : Below w8.heap.size w20 w21 := hT.below (by omega) (fun k hk => hk.1)
  have hW21 := hW20.trans (hTb.mono (by omega))
  have HH := hide (fun W hW => heldFtl_own a6 n6 c6 m6.bs (unhide HBL) ma6 mn6 mc6 m6.seq m6.o W hW (unhide HSH) hmn0 (unhide HK2).2)
  have hq1 := (unhide HK2).1
  obtain ⟨q, hq⟩ : ∃ q, q = kAfter 1 m6.bs + (mn6 : Int) := ⟨_, rfl⟩
  rw [← hq] at HH ⊢
  have hq2 : 1 ≤ q := by omega
  have hneq : (q != q) = false := by simp
  have Fx21 := hide ((unhide Fx20).touch hT (fun hs => by first | omega | (have h1 := hs.1; have h2 := hs.2; omega)))
  have Fv21 := hide ((unhide Fv20).touch hT (fun hs => by first | omega | (have h1 := hs.1; have h2 := hs.2; omega)))
  have Fs21 := hide ((unhide Fs20).trans (hTb.mono (by omega)))
  have Fg21 := hide ((unhide Fg20).touch hT (fun hs => by first | omega | (have h1 := hs.1; have h2 := hs.2; omega)))
  clear Fx20 Fv20 Fs20 FG20 Fg20
  have FM21 := hide hMk
  clear hMk hT hTb hW20 hq hq1 HK2
  obtain ⟨Fgc0, Fgc1, Fgc2, Fgc3⟩ := (unhide Fg21).cells
  go_wp2_with fail
  refine (unhide HH _ (unhide FM21)).mono ?_
  rintro e w22 ⟨rfl, hB22⟩
  clear Fgc0 Fgc1 Fgc2 Fgc3
  have hs22 := hB22.size
  have hW22 := hW21.trans (hB22.mono hW21.size)
  have Fx22 := hide ((unhide Fx21).below hB22 (by omega))
  have Fv22 := hide ((unhide Fv21).below hB22 (by omega))
  have Fs22 := hide ((unhide Fs21).trans (hB22.mono (by omega)))
  have Fg22 := hide ((unhide Fg21).below hB22 (by omega))
  have FM22 := hide ((unhide FM21).below hB22)
  clear Fx21 Fv21 Fs21 Fg21 FM21
  clear hB22 hW21
  obtain ⟨Fxc0, Fxc1, Fxc2, Fxc3⟩ := (unhide Fx22).cells
  go_wp2_with fail
  refine (toFtl_own a c bs n (unhide HL) ma mc Lm mn (unhide HLL) seq o _ ((unhide HA).below hW22 (Nat.le_refl _)) (unhide HN) ((unhide HI).below hW22 (Nat.le_refl _)) hm1).mono ?_
  rintro e w23 ⟨g4, m4, rfl, hO4, hB23⟩
  clear Fxc0 Fxc1 Fxc2 Fxc3
  have hs23 := hB23.size
  have hW23 := hW22.trans (hB23.mono hW22.size)
  have Fv23 := hide ((unhide Fv22).below hB23 (by omega))
  have Fs23 := hide ((unhide Fs22).trans (hB23.mono (by omega)))
  have Fg23 := hide ((unhide Fg22).below hB23 (by omega))
  have FM23 := hide ((unhide FM22).below hB23)
  clear Fx22 Fv22 Fs22 Fg22 FM22
  have HG23 := hide hO4.blocksAt
  have HR23 := hide hO4.2.1
  clear hB23 hW22 hO4
  go_wp2_with fail
  refine (toInt64S_any la lc lgs nl (unhide HNL) _ ((unhide HLA).below hW23 (Nat.le_refl _)) hnl9).mono ?_
  rintro e w24 ⟨rfl, hi24, hB24⟩
  have hs24 := hB24.size
  have hW24 := hW23.trans (hB24.mono hW23.size)
  have Fv24 := hide ((unhide Fv23).below hB24 (by omega))
  have Fs24 := hide ((unhide Fs23).trans (hB24.mono (by omega)))
  have Fg24 := hide ((unhide Fg23).below hB24 (by omega))
  have FM24 := hide ((unhide FM23).below hB24)
  clear Fv23 Fs23 Fg23 FM23
  have HG24 := hide ((unhide HG23).below hB24 (Nat.le_refl _))
  have HR24 := hide ((unhide HR23).below hB24 (Nat.le_refl _))
  have HI24 := hide (RowInts.intsAt hi24 (by rw [unhide HNL]; exact Nat.le_refl _))
  clear hB24 hW23 HG23 HR23 hi24
  go_wp2_with fail
  refine (toStringS_any ta tc ds nt (unhide HNT) _ ((unhide HTA).below hW24 (Nat.le_refl _)) hnt9).mono ?_
  rintro e w25 ⟨rfl, ht25, hB25⟩
  have hs25 := hB25.size
  have hW25 := hW24.trans (hB25.mono hW24.size)
  have Fv25 := hide ((unhide Fv24).below hB25 (by omega))
  have Fs25 := hide ((unhide Fs24).trans (hB25.mono (by omega)))
  have Fg25 := hide ((unhide Fg24).below hB25 (by omega))
  have FM25 := hide ((unhide FM24).below hB25)
  clear Fv24 Fs24 Fg24 FM24
  have HG25 := hide ((unhide HG24).below hB25 (Nat.le_refl _))
  have HR25 := hide ((unhide HR24).below hB25 (Nat.le_refl _))
  have HI25 := hide ((unhide HI24).below hB25 (Nat.le_refl _))
  have HT25 := hide (RowTexts.textsAt ht25 (by rw [unhide HNT]; exact Nat.le_refl _))
  clear hB25 hW24 HG24 HR24 HI24 ht25
  go_wp2_with fail
  refine (implWrittenAll_any _ n ⟨bs, Lm, seq, o⟩ n (unhide HL) _ mn mn (unhide HLL) _ nl lgs nl (unhide HNL) _ nt ds nt (unhide HNT) _ (unhide HG25) (unhide HN9) (unhide HR25) (by omega) (unhide HI25) (unhide HT25) (unhide HD) hnl9 hnt9).mono ?_
  rintro e w26 ⟨a7, n7, c7, ma7, mn7, mc7, m7, code7, rfl, hWI7, hO7, hB26⟩
  obtain ⟨rfl, rfl⟩ := hWI7.one (unhide HWI)
  obtain rfl : n7 = n6 := by have := hO7.length.1; have := unhide HBL; omega
  obtain rfl : mn7 = mn6 := by have := hO7.length.2; have := unhide HLLL; omega
  have hs26 := hB26.size
  have hW26 := hW25.trans (hB26.mono hW25.size)
  have Fv26 := hide ((unhide Fv25).below hB26 (by omega))
  have Fs26 := hide ((unhide Fs25).trans (hB26.mono (by omega)))
  have Fg26 := hide ((unhide Fg25).below hB26 (by omega))
  have FM26 := hide ((unhide FM25).below hB26)
  clear Fv25 Fs25 Fg25 FM25
  have HO26 := hide hO7
  clear hB26 hW25 HG25 HR25 HI25 HT25 hO7 hWI7
  have hb26 : ∀ o, Below w26.heap.size w26 (w26.alloc o) := fun o => (Below.refl _ w26).alloc (Nat.le_refl _) _
  have hl526 : w5.heap.size < w26.heap.size := by omega
  have hvv0 : ∀ o', (w26.alloc o').cell? ⟨w5.heap.size, 0, none⟩ = some (.slice a0 n7 c0) := fun o' => (cell_alloc_lt _ _ _ _ hl526).trans (unhide Fv26).cells.1
  have hvv1 : ∀ o', (w26.alloc o').cell? ⟨w5.heap.size, 1, none⟩ = some (.slice ma0 mn7 mc0) := fun o' => (cell_alloc_lt _ _ _ _ hl526).trans (unhide Fv26).cells.2.1
  have hvv2 : ∀ o', (w26.alloc o').cell? ⟨w5.heap.size, 2, none⟩ = some (.int .i64 m7.seq) := fun o' => (cell_alloc_lt _ _ _ _ hl526).trans (unhide Fv26).cells.2.2.1
  have hvv3 : ∀ o', (w26.alloc o').cell? ⟨w5.heap.size, 3, none⟩ = some (.int .i64 m7.o) := fun o' => (cell_alloc_lt _ _ _ _ hl526).trans (unhide Fv26).cells.2.2.2
  go_wp2_with fail
  refine (eqFtl_same a7 a0 c7 c0 m7.bs n7 (unhide HBL) ma7 ma0 mc7 mc0 m7.L mn7 (unhide HLLL) m7.seq m7.o _ ((unhide HO26).below (hb26 _)).blocksAt ((unhide HA0).below ((unhide Fs26).trans ((hb26 _).mono (by omega))) (Nat.le_refl _)) (unhide HSH) ((unhide HO26).below (hb26 _)).2.1 ((unhide HI0).below ((unhide Fs26).trans ((hb26 _).mono (by omega))) (Nat.le_refl _)) hmn0).mono ?_
  rintro e w27 ⟨rfl, hB27'⟩
  have hB27 : Below w26.heap.size w26 w27 := (hb26 _).trans (hB27'.mono (by simp))
  have hs27 := hB27.size
  have hW27 := hW26.trans (hB27.mono hW26.size)
  have Fg27 := hide ((unhide Fg26).below hB27 (by omega))
  have FM27 := hide ((unhide FM26).below hB27)
  clear Fv26 Fs26 Fg26 FM26
  clear hB27 hB27' hb26 hW26 HO26 hvv0 hvv1 hvv2 hvv3
  obtain ⟨Fgc0, Fgc1, Fgc2, Fgc3⟩ := (unhide Fg27).cells
  go_wp2_with fail
  refine (unhide HH _ (unhide FM27)).mono ?_
  rintro e w28 ⟨rfl, hB28⟩
  clear Fgc0 Fgc1 Fgc2 Fgc3
  have hW28 := hW27.trans (hB28.mono hW27.size)
  clear hB28 hW27 HH FM27
  go_wp2
  go_ret
  exact ⟨rfl, hW28⟩

set_option maxRecDepth 100000 in
theorem lifted (os : Os) (started : os.Started) (H : Type) (enc : TypeId × Value → H) :
    ReturnsInHanded {} Tryz.checked os 6 .any (Rows.fnExactWrittenAllSpec.pre6 enc Tryz.prog Tryz.f6 Rows.fnExactWrittenAllRow.domain false) (Rows.fnExactWrittenAllSpec.post enc Tryz.prog Tryz.f6 false true false false) := by
  refine returnsInHanded_of_change (C := Tryz.checked) own started (by kernel_rfl) Tryz.func6
    (ChangeSpec.witness6 (enc := enc) (C := Tryz.checked) false ⟨#[], #[.agg #[.slice none 0 0, .slice none 0 0, .int .i64 0, .int .i64 0], .slice none 0 0, .slice none 0 0], []⟩ 8 (by kernel_rfl) (by kernel_rfl) (by kernel_rfl) (by kernel_rfl)) ?_
  intro W base args ds gs before hval0 hW hcnd _
  have hval : ∀ (j : Nat) t v, Tryz.f6.params[j]? = some t → args[j]? = some v → Value.okWide Tryz.prog W .any base t v := hval0
  have hW' := hW
  obtain ⟨p, q, hA0, hV, rfl, hfz, hnd⟩ := hW
  have hA : DataW.TrodAll enc Tryz.prog W 0 (fun _ => true) true Tryz.f6.params.toList args.toList ds p := hA0
  rw [Tryz.params6] at hA hval
  obtain ⟨v0, vs0, d0, ds0, p0, q0, hargs, rfl, rfl, h0, r0⟩ := trodAll_cons hA
  obtain ⟨v1, vs1, d1, ds1, p1, q1, rfl, rfl, rfl, h1, r1⟩ := trodAll_cons r0
  obtain ⟨v2, vs2, d2, ds2, p2, q2, rfl, rfl, rfl, h2, r2⟩ := trodAll_cons r1
  obtain ⟨rfl, rfl, rfl⟩ := trodAll_nil r2
  obtain rfl : args = #[v0, v1, v2] := by cases args; simp_all
  obtain ⟨rfl, rfl⟩ := trodVars_none hV
  have k0 := h0
  have lt0 : ∀ x ∈ p0, x.block < W.heap.size := by obtain ⟨m, hm⟩ := k0; exact DataW.trod_lt m _ _ _ hm
  obtain ⟨a, c, bs, ma, mc, L, seq, o, rfl, hbs, hl, ht, hI, hLl⟩ := open_ftl (hval 0 46 v0 rfl rfl) h0
  obtain ⟨la, lc, lgs, rfl, hla, hll⟩ := open_intsArg Tryz.underlying27 Tryz.underlying2 (by kernel_rfl) (hval 1 27 v1 rfl rfl) h1
  obtain ⟨ta, tc, ds, rfl, hta, htl, htx⟩ := open_textsArg Tryz.underlying38 Tryz.underlying9 (by kernel_rfl) (hval 2 38 v2 rfl rfl) h2
  have k1 := h1
  have lt1 : ∀ x ∈ p1, x.block < W.heap.size := by obtain ⟨m, hm⟩ := k1; exact DataW.trod_lt m _ _ _ hm
  have k2 := h2
  have lt2 : ∀ x ∈ p2, x.block < W.heap.size := by obtain ⟨m, hm⟩ := k2; exact DataW.trod_lt m _ _ _ hm
  clear hA0 hval0
  refine (walk a c bs _ rfl ma mc L _ rfl seq o la lc lgs _ rfl ta tc ds _ rfl W hbs hl ht hI hLl hla hta htl htx).mono fun e W' ⟨he, bel⟩ => ?_
  subst he
  exact ⟨_, rfl, _, _, _, [], _, [], hW', trodAll_mk1 (shut_bool Tryz.underlying4 _), (trodAll_cons_mk (Below.trod laidOut (by kernel_rfl) (of_decide_eq_true (by kernel_rfl)) k0 bel lt0) (trodAll_cons_mk (Below.trod laidOut (by kernel_rfl) (of_decide_eq_true (by kernel_rfl)) k1 bel lt1) (trodAll_cons_mk (Below.trod laidOut (by kernel_rfl) (of_decide_eq_true (by kernel_rfl)) k2 bel lt2) trodAll_mk0))), rfl, bel.frame _, fun h => by cases h⟩

theorem over : Rows.fnExactWrittenAllRow.holds Tryz.pinned (OpenSpec.ofChange Rows.fnExactWrittenAllSpec) :=
  OpenClaim.holds_of_wide 6 Tryz.f6 rfl rfl rfl rfl rfl rfl rfl ⟨rfl, rfl, rfl, rfl, rfl⟩ rfl rfl rfl rfl rfl (by kernel_rfl) Tryz.func6 (by kernel_rfl)
    (of_decide_eq_true (by kernel_rfl)) (by unfold Func.isWrapper; first | (rw [if_pos (by decide +kernel)]; kernel_rfl) | (rw [if_neg (by decide +kernel)]; exact ⟨rfl, rfl⟩))
    (fun os started H enc _ => lifted os started H enc)

end Go.Proofs.YtalgkmellbamgaaGreat.fnExactWrittenAll
namespace Go.Proofs.YtalgkmellbamgaaGreat
theorem writtenAll_holds : Rows.FnExactWrittenAllSaid := fnExactWrittenAll.over
end Go.Proofs.YtalgkmellbamgaaGreat
