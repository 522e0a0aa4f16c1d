/- Whatever the member, the log and the data, the law FnExactWritten answers true: the program's Written is the model's, every field and the code, it leaves the member as it was, and its answer owns its memory. No condition. -/
import Derived.Test.YtalgkmellbamgaaGreatRows
import Derived.Test.YtalgkmellbamgaaGreatG19
import Derived.Test.YtalgkmellbamgaaGreatG33
import Derived.Test.YtalgkmellbamgaaGreatG28
import Derived.Test.YtalgkmellbamgaaGreatG34
import Derived.WalkKit
import Derived.ProofKit
import Derived.OpenShut
import Derived.ChangeOld
import Derived.ChangeMaps5
import Derived.Below
import Derived.Deep.RegionHeld3
namespace Go.Proofs.YtalgkmellbamgaaGreat.fnExactWritten
open Go.ChangeShapes Go.WideShapes Go.ChangeAt Go.RowKit
set_option linter.unusedVariables false
set_option linter.unusedSimpArgs false

set_option maxRecDepth 100000 in
set_option maxHeartbeats 8000000 in
theorem walk (a : Option Addr) (c : Nat) (bs : List Bk) (n : Nat) (hl : bs.length = n) (ma : Option Addr) (mc : Nat) (L : List Int) (mn : Nat) (hL : L.length = mn) (seq o lg : Int) (data : ByteArray) (w : World) (h : BlocksAt w a bs) (hn : Lens 9223372036854775807 bs) (ht : Texts bs) (hI : IntsAt w ma L) (hmn : mn ≤ 9223372036854775807) (hd : data.size ≤ 9223372036854775807) :
    Calls Tryz.prog 5 #[.agg #[.slice a n c, .slice ma mn mc, .int .i64 seq, .int .i64 o], .int .i64 lg, .string data] w fun e w' => e = .returned (.bool true) ∧ Below w.heap.size w w' := by
  have hb0 : ∀ o, Below w.heap.size w (w.alloc o) := fun o => (Below.refl _ w).alloc (Nat.le_refl _) _
  have HL := hide hl
  have HLL := hide hL
  clear hl hL
  go_enter Tryz.func5, Tryz.ntmps5
  by_cases hdl : data.size ≤ 1048576
  case neg =>
    have hdl' : (1048576 : Int) < (data.size : Int) := by omega
    clear h hI hn ht
    go_wp2
    go_ret
    exact ⟨rfl, hb0 _⟩
  have hdl' : ¬ (1048576 : Int) < (data.size : Int) := by omega
  go_wp2_with fail
  refine (szFtl_any a c bs n (unhide HL) ma mc mn seq o _ (h.below (hb0 _) (Nat.le_refl _)) hn ht hmn).mono ?_
  rintro e w1 ⟨left, rfl, _, hlens, hB1⟩
  have hs1 := hB1.size
  simp at hs1
  have Hhx1 : Hid (BoxAt w1 w.heap.size a n c ma mn mc seq o) := (BoxAt.alloc _ _ _ _ _ _ _ _ _ _).below hB1 (by simp)
  have hW1 : Below w.heap.size w w1 := (hb0 _).trans (hB1.mono (by simp))
  have HA := hide h
  have HI := hide hI
  clear hb0 hB1 h hn ht hI
  by_cases h0 : left < 0
  · clear hlens
    go_wp2
    go_ret
    exact ⟨rfl, hW1⟩
  obtain ⟨hn1, hm1⟩ := hlens (by omega)
  have HN := hide hn1
  have HN9 : Hid (Lens 9223372036854775807 bs) := ⟨by have := (unhide HN).1; omega, fun b hb => by have := (unhide HN).2 b hb; omega⟩
  have hkb := kAfter_upto bs 1 (unhide HN).2
  have HKK : Hid (1 ≤ kAfter 1 bs ∧ kAfter 1 bs + (mn : Int) ≤ 1125899906842624) := ⟨hkb.1, by have := (unhide HN).1; have h2 := hkb.2; have h3 : (bs.length : Int) * 4194305 ≤ 1048576 * 4194305 := Int.mul_le_mul_of_nonneg_right (by omega) (by omega); omega⟩
  clear hlens hn1 hkb
  obtain ⟨hxc0, hxc1, hxc2, hxc3⟩ := (unhide Hhx1).cells
  go_wp2_with fail
  refine (toFtl_own a c bs n (unhide HL) ma mc L mn (unhide HLL) seq o _ ((unhide HA).below hW1 (Nat.le_refl _)) (unhide HN) ((unhide HI).below hW1 (Nat.le_refl _)) hm1).mono ?_
  rintro e w2 ⟨g1, m1, rfl, hO1, hB2⟩
  clear hxc0 hxc1 hxc2 hxc3
  have hs2 := hB2.size
  have Hhx2 := hide ((unhide Hhx1).below hB2 (by first | omega | (simp; omega) | simp))
  have hW2 := hW1.trans (hB2.mono hW1.size)
  have HG1 := hide hO1.blocksAt
  have HR1 := hide hO1.2.1
  clear hB2 hW1 hO1 Hhx1
  go_wp2_with fail
  refine (specWritten_any _ n bs n (unhide HL) _ mn L mn (unhide HLL) seq o lg data _ (unhide HG1) (unhide HN) (unhide HR1) hm1 hdl).mono ?_
  rintro e w3 ⟨a0, n0, c0, ma0, mn0, mc0, bs', L', s0, o0, code, rfl, hWI, hbl, hLl, hA0, hI0, _, hB3⟩
  have hs3 := hB3.size
  have Hhx3 := hide ((unhide Hhx2).below hB3 (by first | omega | (simp; omega) | simp))
  have hW3 := hW2.trans (hB3.mono hW2.size)
  obtain ⟨hsh, hn12, hm36⟩ := hWI.short
  have HWI := hide hWI
  have HA0 := hide hA0
  have HI0 := hide hI0
  have HBL := hide hbl
  have HLLL := hide hLl
  have HSH := hide hsh
  have hmn0 : mn0 ≤ 1048576 := by omega
  have hkb := kAfter_upto bs' 1 (unhide HSH).2
  have HK2 : Hid (1 ≤ kAfter 1 bs' ∧ kAfter 1 bs' + (mn0 : Int) ≤ 1125899906842624) := ⟨hkb.1, by have h2 := hkb.2; have h3 : (bs'.length : Int) * 4194305 ≤ 1048576 * 4194305 := Int.mul_le_mul_of_nonneg_right (by omega) (by omega); omega⟩
  have hb3 : ∀ o, Below w3.heap.size w3 (w3.alloc o) := fun o => (Below.refl _ w3).alloc (Nat.le_refl _) _
  have hl03 : w.heap.size < w3.heap.size := by omega
  clear hB3 hW2 HG1 HR1 hWI hbl hLl hA0 hI0 hsh hkb hm36 hn12 Hhx2
  obtain ⟨hxc0, hxc1, hxc2, hxc3⟩ := (unhide Hhx3).cells
  go_wp2_with fail
  refine (toFtl_own a c bs n (unhide HL) ma mc L mn (unhide HLL) seq o _ ((unhide HA).below (hW3.trans ((hb3 _).mono (by omega))) (Nat.le_refl _)) (unhide HN) ((unhide HI).below (hW3.trans ((hb3 _).mono (by omega))) (Nat.le_refl _)) hm1).mono ?_
  rintro e w4 ⟨g2, m2, rfl, hO2, hB4⟩
  clear hxc0 hxc1 hxc2 hxc3
  simp only [World.size_alloc] at hO2
  have hs4 := hB4.size
  simp at hs4
  have hB34 : Below w3.heap.size w3 w4 := (hb3 _).trans (hB4.mono (by simp))
  have Hhx4 := hide ((unhide Hhx3).below hB34 (by first | omega | (simp; omega) | simp))
  have Hhv4 : Hid (BoxAt w4 w3.heap.size a0 n0 c0 ma0 mn0 mc0 s0 o0) := (BoxAt.alloc _ _ _ _ _ _ _ _ _ _).below hB4 (by simp)
  have hW4 := hW3.trans (hB34.mono (by omega))
  have HB34 := hide hB34
  have HO4 := hide hO2
  have hb5 : ∀ o, Below w4.heap.size w4 (w4.alloc o) := fun o => (Below.refl _ w4).alloc (Nat.le_refl _) _
  have hl04 : w.heap.size < w4.heap.size := by omega
  have hl34 : w3.heap.size < w4.heap.size := by omega
  clear hB4 hB34 hW3 hO2 hb3 Hhx3
  go_wp2_with fail
  refine (implWritten_any _ n bs n (unhide HL) _ mn L mn (unhide HLL) seq o lg data _ ((unhide HO4).blocksAt.below (hb5 _) (Nat.le_refl _)) (unhide HN9) ((unhide HO4).2.1.below (hb5 _) (Nat.le_refl _)) (by omega) hdl).mono ?_
  rintro e w6 ⟨a6, n6, c6, ma6, mn6, mc6, bs6, L6, s6, o6, code6, rfl, hWI6, hO6, hB6⟩
  obtain ⟨rfl, rfl, rfl, rfl, rfl⟩ := hWI6.one (unhide HWI)
  obtain rfl : n6 = n0 := by have := hO6.length.1; have := unhide HBL; omega
  obtain rfl : mn6 = mn0 := by have := hO6.length.2; have := unhide HLLL; omega
  simp only [World.size_alloc] at hO6
  have hs6 := hB6.size
  simp at hs6
  have hB46 : Below w4.heap.size w4 w6 := (hb5 _).trans (hB6.mono (by simp))
  have Hhx6 := hide ((unhide Hhx4).below hB46 (by first | omega | (simp; omega) | simp))
  have Hhv6 := hide ((unhide Hhv4).below hB46 (by first | omega | (simp; omega) | simp))
  have Hhy6 : Hid (BoxAt w6 w4.heap.size (some ⟨g2, 0, none⟩) n n (some ⟨m2, 0, none⟩) mn mn seq o) := (BoxAt.alloc _ _ _ _ _ _ _ _ _ _).below hB6 (by simp)
  have hW6 := hW4.trans (hB46.mono hW4.size)
  have HB36 := hide ((unhide HB34).trans (hB46.mono (unhide HB34).size))
  have HO6 := hide ((unhide HO4).below hB46)
  have HG6 := hide hO6
  have hne : (code6 != code6) = false := by simp
  have hb6 : ∀ o, Below w6.heap.size w6 (w6.alloc o) := fun o => (Below.refl _ w6).alloc (Nat.le_refl _) _
  have hl06 : w.heap.size < w6.heap.size := by omega
  have hl36 : w3.heap.size < w6.heap.size := by omega
  have hl46 : w4.heap.size < w6.heap.size := by omega
  have hvv0 : ∀ o', (w6.alloc o').cell? ⟨w3.heap.size, 0, none⟩ = some (.slice a0 n6 c0) := fun o' => (cell_alloc_lt _ _ _ _ hl36).trans (unhide Hhv6).cells.1
  have hvv1 : ∀ o', (w6.alloc o').cell? ⟨w3.heap.size, 1, none⟩ = some (.slice ma0 mn6 mc0) := fun o' => (cell_alloc_lt _ _ _ _ hl36).trans (unhide Hhv6).cells.2.1
  have hvv2 : ∀ o', (w6.alloc o').cell? ⟨w3.heap.size, 2, none⟩ = some (.int .i64 s6) := fun o' => (cell_alloc_lt _ _ _ _ hl36).trans (unhide Hhv6).cells.2.2.1
  have hvv3 : ∀ o', (w6.alloc o').cell? ⟨w3.heap.size, 3, none⟩ = some (.int .i64 o6) := fun o' => (cell_alloc_lt _ _ _ _ hl36).trans (unhide Hhv6).cells.2.2.2
  clear hB6 hB46 hW4 HB34 HO4 hb5 hO6 hWI6 Hhx4 Hhv4
  go_wp2_with fail
  refine (eqFtl_same a6 a0 c6 c0 bs6 n6 (unhide HBL) ma6 ma0 mc6 mc0 L6 mn6 (unhide HLLL) s6 o6 _ ((unhide HG6).below (hb6 _)).blocksAt ((unhide HA0).below ((unhide HB36).trans ((hb6 _).mono (by omega))) (Nat.le_refl _)) (unhide HSH) ((unhide HG6).below (hb6 _)).2.1 ((unhide HI0).below ((unhide HB36).trans ((hb6 _).mono (by omega))) (Nat.le_refl _)) hmn0).mono ?_
  rintro e w7 ⟨rfl, hB7⟩
  have hs7 := hB7.size
  simp at hs7
  have hB67 : Below w6.heap.size w6 w7 := (hb6 _).trans (hB7.mono (by simp))
  have Hhx7 := hide ((unhide Hhx6).below hB67 (by first | omega | (simp; omega) | simp))
  have Hhv7 := hide ((unhide Hhv6).below hB67 (by first | omega | (simp; omega) | simp))
  have Hhy7 := hide ((unhide Hhy6).below hB67 (by first | omega | (simp; omega) | simp))
  have Hhg7 : Hid (BoxAt w7 w6.heap.size a6 n6 c6 ma6 mn6 mc6 s6 o6) := (BoxAt.alloc _ _ _ _ _ _ _ _ _ _).below hB7 (by simp)
  have hW7 := hW6.trans (hB67.mono hW6.size)
  have HB37 := hide ((unhide HB36).trans (hB67.mono (by omega)))
  have HO7 := hide ((unhide HO6).below hB67)
  have HG7 := hide ((unhide HG6).below hB67)
  have hl07 : w.heap.size < w7.heap.size := by omega
  have hl37 : w3.heap.size < w7.heap.size := by omega
  have hl47 : w4.heap.size < w7.heap.size := by omega
  have hl67 : w6.heap.size < w7.heap.size := by omega
  have HW7 := hide hW7
  have HA7 : Hid (BlocksAt w7.drew a bs) := (unhide HA).below hW7.drew (Nat.le_refl _)
  have HI7 : Hid (IntsAt w7.drew ma L) := (unhide HI).below hW7.drew (Nat.le_refl _)
  have HGG7 : Hid (BlocksAt w7.drew (some ⟨g2, 0, none⟩) bs) := (unhide HO7).blocksAt.below (Below.refl w7.heap.size w7).drew (Nat.le_refl _)
  have HR7 : Hid (IntsAt w7.drew (some ⟨m2, 0, none⟩) L) := (unhide HO7).2.1.below (Below.refl w7.heap.size w7).drew (Nat.le_refl _)
  clear hB7 hB67 hW6 hW7 HB36 HO6 HG6 hb6 hvv0 hvv1 hvv2 hvv3 Hhx6 Hhy6 Hhv6
  obtain ⟨hxc0, hxc1, hxc2, hxc3⟩ := (unhide Hhx7).cells
  obtain ⟨hyc0, hyc1, hyc2, hyc3⟩ := (unhide Hhy7).cells
  go_wp2_with fail
  go_region_held3 (fun W => ∀ b o, b < w7.heap.size → W.cell? ⟨b, o, none⟩ = w7.cell? ⟨b, o, none⟩)
    (first
      | (intro b o hb; rfl)
      | (intro b o hb; exact (unhide HB79).cell (p := ⟨b, o, none⟩) hb)
      | (intro b o hb; exact (unhide HB78).cell (p := ⟨b, o, none⟩) hb))
    (first
      | (go_at_call 18
         refine (toFtl_own a c bs n (unhide HL) ma mc L mn (unhide HLL) seq o _ (unhide HA7) (unhide HN) (unhide HI7) hm1).mono ?_
         rintro e w8 ⟨g3, m3, rfl, hO3, hB8⟩
         have HB78 := hide ((Below.refl w7.heap.size w7).drew.trans hB8)
         have HG8 := hide ((unhide HGG7).below hB8 (Nat.le_refl _))
         have HR8 := hide ((unhide HR7).below hB8 (Nat.le_refl _))
         have HH8 := hide hO3.blocksAt
         have HJ8 := hide hO3.2.1
         have hs8 : w7.heap.size ≤ w8.heap.size := hB8.size
         clear hB8 hO3)
      | (go_at_call 19
         refine (eqFtl_same _ _ n n bs n (unhide HL) _ _ mn mn L mn (unhide HLL) seq o _ (unhide HG8) (unhide HH8) (unhide HN) (unhide HR8) (unhide HJ8) hm1).mono ?_
         rintro e w9 ⟨rfl, hB9⟩
         have HB79 := hide ((unhide HB78).trans (hB9.mono (unhide HB78).size))
         have hs9 : w8.heap.size ≤ w9.heap.size := hB9.size
         clear hB9))
  have Hhx9 := hide ((unhide Hhx7).below (unhide HB79) (by first | omega | (simp; omega) | simp))
  have Hhv9 := hide ((unhide Hhv7).below (unhide HB79) (by first | omega | (simp; omega) | simp))
  have Hhy9 := hide ((unhide Hhy7).below (unhide HB79) (by first | omega | (simp; omega) | simp))
  have Hhg9 := hide ((unhide Hhg7).below (unhide HB79) (by first | omega | (simp; omega) | simp))
  have hW9 := (unhide HW7).trans ((unhide HB79).mono (unhide HW7).size)
  have HB39 := hide ((unhide HB37).trans ((unhide HB79).mono (by omega)))
  have HO9 := hide ((unhide HO7).below (unhide HB79))
  have HG9 := hide ((unhide HG7).below (unhide HB79))
  have hl79 : w7.heap.size ≤ w9.heap.size := by omega
  clear HB78 HB79 HB37 HO7 HG7 HGG7 HR7 HG8 HR8 HH8 HJ8 HA7 HI7 HW7 Hhx7 Hhv7 Hhy7 Hhg7
  obtain ⟨hyc0, hyc1, hyc2, hyc3⟩ := (unhide Hhy9).cells
  go_wp2_with fail
  refine (markFtl_own _ n n bs _ mn mn L seq o _ (unhide HO9) (by omega) (unhide HN) hm1 (unhide HKK).2).mono ?_
  rintro e w10 ⟨rfl, _, hT⟩
  clear hyc0 hyc1 hyc2 hyc3
  have hk1 := (unhide HKK).1
  have hk2 := (unhide HKK).2
  obtain ⟨kk, hkk⟩ : ∃ kk, kk = kAfter 1 bs + (mn : Int) := ⟨_, rfl⟩
  have hk3 : 0 ≤ kk := by omega
  rw [← hkk]
  have hs10 := hT.size
  have hTb : Below (w3.heap.size + 1) w9 w10 := hT.below (by omega) (fun k hk => hk.1)
  have Hhx10 := hide ((unhide Hhx9).below hTb (by first | omega | (simp; omega) | simp))
  have Hhv10 := hide ((unhide Hhv9).below hTb (by first | omega | (simp; omega) | simp))
  have Hhg10 := hide ((unhide Hhg9).touch hT (fun hs => by have := hs.1; have := hs.2; (try simp only [World.size_alloc] at *); omega))
  have hW10 := hW9.trans (hTb.mono (by omega))
  have HB310 := hide ((unhide HB39).trans (hTb.mono (by omega)))
  have HG10 := hide ((unhide HG9).touch hT (fun k hk => by omega))
  clear hT hTb hW9 HB39 HO9 HG9 hkk hk1 hk2 HKK Hhx9 Hhy9 Hhv9 Hhg9
  obtain ⟨hvc0, hvc1, hvc2, hvc3⟩ := (unhide Hhv10).cells
  obtain ⟨hgc0, hgc1, hgc2, hgc3⟩ := (unhide Hhg10).cells
  go_wp2_with fail
  refine (eqFtl_same a6 a0 c6 c0 bs6 n6 (unhide HBL) ma6 ma0 mc6 mc0 L6 mn6 (unhide HLLL) s6 o6 _ (unhide HG10).blocksAt ((unhide HA0).below (unhide HB310) (Nat.le_refl _)) (unhide HSH) (unhide HG10).2.1 ((unhide HI0).below (unhide HB310) (Nat.le_refl _)) hmn0).mono ?_
  rintro e w11 ⟨rfl, hB11⟩
  clear hvc0 hvc1 hvc2 hvc3 hgc0 hgc1 hgc2 hgc3
  have hs11 := hB11.size
  have Hhx11 := hide ((unhide Hhx10).below hB11 (by first | omega | (simp; omega) | simp))
  have Hhv11 := hide ((unhide Hhv10).below hB11 (by first | omega | (simp; omega) | simp))
  have Hhg11 := hide ((unhide Hhg10).below hB11 (by first | omega | (simp; omega) | simp))
  have hW11 := hW10.trans (hB11.mono hW10.size)
  have HB311 := hide ((unhide HB310).trans (hB11.mono (by omega)))
  have HG11 := hide ((unhide HG10).below hB11)
  clear hB11 hW10 HB310 HG10 Hhx10 Hhv10 Hhg10
  obtain ⟨hgc0, hgc1, hgc2, hgc3⟩ := (unhide Hhg11).cells
  go_wp2_with fail
  refine (markFtl_own a6 n6 c6 bs6 ma6 mn6 mc6 L6 s6 o6 _ (unhide HG11) (by omega) (unhide HSH) hmn0 (unhide HK2).2).mono ?_
  rintro e w12 ⟨rfl, hMk, hT⟩
  clear hgc0 hgc1 hgc2 hgc3
  have hs12 := hT.size
  have hTb : Below (w4.heap.size + 1) w11 w12 := hT.below (by omega) (fun k hk => hk.1)
  have Hhx12 := hide ((unhide Hhx11).below hTb (by first | omega | (simp; omega) | simp))
  have Hhv12 := hide ((unhide Hhv11).below hTb (by first | omega | (simp; omega) | simp))
  have Hhg12 := hide ((unhide Hhg11).touch hT (fun hs => by have := hs.1; have := hs.2; (try simp only [World.size_alloc] at *); omega))
  have hW12 := hW11.trans (hTb.mono (by omega))
  have HB312 := hide ((unhide HB311).trans (hTb.mono (by omega)))
  have HMK := hide hMk
  have HH := hide (fun W hW => heldFtl_own a6 n6 c6 bs6 (unhide HBL) ma6 mn6 mc6 s6 o6 W hW (unhide HSH) hmn0 (unhide HK2).2)
  have hq1 := (unhide HK2).1
  obtain ⟨q, hq⟩ : ∃ q, q = kAfter 1 bs6 + (mn6 : Int) := ⟨_, rfl⟩
  rw [← hq] at HH ⊢
  have hq2 : 1 ≤ q := by omega
  have hneq : (q != q) = false := by simp
  clear hMk hT hTb hW11 HB311 HG11 hq hq1 HK2 Hhx11 Hhv11 Hhg11
  obtain ⟨hgc0, hgc1, hgc2, hgc3⟩ := (unhide Hhg12).cells
  go_wp2_with fail
  refine (unhide HH _ (unhide HMK)).mono ?_
  rintro e w13 ⟨rfl, hB13⟩
  clear hgc0 hgc1 hgc2 hgc3
  have hs13 := hB13.size
  have Hhx13 := hide ((unhide Hhx12).below hB13 (by first | omega | (simp; omega) | simp))
  have Hhv13 := hide ((unhide Hhv12).below hB13 (by first | omega | (simp; omega) | simp))
  have Hhg13 := hide ((unhide Hhg12).below hB13 (by first | omega | (simp; omega) | simp))
  have hW13 := hW12.trans (hB13.mono hW12.size)
  have HMK13 := hide ((unhide HMK).below hB13)
  have HB313 := hide ((unhide HB312).trans (hB13.mono (by omega)))
  clear hB13 hW12 HMK HB312 Hhx12 Hhv12 Hhg12
  obtain ⟨hxc0, hxc1, hxc2, hxc3⟩ := (unhide Hhx13).cells
  go_wp2_with fail
  refine (toFtl_own a c bs n (unhide HL) ma mc L mn (unhide HLL) seq o _ ((unhide HA).below hW13 (Nat.le_refl _)) (unhide HN) ((unhide HI).below hW13 (Nat.le_refl _)) hm1).mono ?_
  rintro e w14 ⟨g4, m4, rfl, hO4, hB14⟩
  clear hxc0 hxc1 hxc2 hxc3
  have hs14 := hB14.size
  have Hhv14 := hide ((unhide Hhv13).below hB14 (by first | omega | (simp; omega) | simp))
  have Hhg14 := hide ((unhide Hhg13).below hB14 (by first | omega | (simp; omega) | simp))
  have hW14 := hW13.trans (hB14.mono hW13.size)
  have HMK14 := hide ((unhide HMK13).below hB14)
  have HB314 := hide ((unhide HB313).trans (hB14.mono (by omega)))
  have HG4 := hide hO4.blocksAt
  have HR4 := hide hO4.2.1
  clear hB14 hW13 hO4 HMK13 HB313 Hhx13 Hhv13 Hhg13
  go_wp2_with fail
  refine (implWritten_any _ n bs n (unhide HL) _ mn L mn (unhide HLL) seq o lg data _ (unhide HG4) (unhide HN9) (unhide HR4) (by omega) hdl).mono ?_
  rintro e w15 ⟨a7, n7, c7, ma7, mn7, mc7, bs7, L7, s7, o7, code7, rfl, hWI7, hO7, hB15⟩
  obtain ⟨rfl, rfl, rfl, rfl, rfl⟩ := hWI7.one (unhide HWI)
  obtain rfl : n7 = n6 := by have := hO7.length.1; have := unhide HBL; omega
  obtain rfl : mn7 = mn6 := by have := hO7.length.2; have := unhide HLLL; omega
  have hs15 := hB15.size
  have Hhv15 := hide ((unhide Hhv14).below hB15 (by first | omega | (simp; omega) | simp))
  have Hhg15 := hide ((unhide Hhg14).below hB15 (by first | omega | (simp; omega) | simp))
  have hW15 := hW14.trans (hB15.mono hW14.size)
  have HMK15 := hide ((unhide HMK14).below hB15)
  have HB315 := hide ((unhide HB314).trans (hB15.mono (by omega)))
  have HO15 := hide hO7
  have hb15 : ∀ o, Below w15.heap.size w15 (w15.alloc o) := fun o => (Below.refl _ w15).alloc (Nat.le_refl _) _
  have hl315 : w3.heap.size < w15.heap.size := by omega
  have hl615 : w6.heap.size < w15.heap.size := by omega
  have hvv0 : ∀ o', (w15.alloc o').cell? ⟨w3.heap.size, 0, none⟩ = some (.slice a0 n7 c0) := fun o' => (cell_alloc_lt _ _ _ _ hl315).trans (unhide Hhv15).cells.1
  have hvv1 : ∀ o', (w15.alloc o').cell? ⟨w3.heap.size, 1, none⟩ = some (.slice ma0 mn7 mc0) := fun o' => (cell_alloc_lt _ _ _ _ hl315).trans (unhide Hhv15).cells.2.1
  have hvv2 : ∀ o', (w15.alloc o').cell? ⟨w3.heap.size, 2, none⟩ = some (.int .i64 s7) := fun o' => (cell_alloc_lt _ _ _ _ hl315).trans (unhide Hhv15).cells.2.2.1
  have hvv3 : ∀ o', (w15.alloc o').cell? ⟨w3.heap.size, 3, none⟩ = some (.int .i64 o7) := fun o' => (cell_alloc_lt _ _ _ _ hl315).trans (unhide Hhv15).cells.2.2.2
  clear hB15 hW14 HMK14 HB314 HG4 HR4 hO7 hWI7 Hhv14 Hhg14
  go_wp2_with fail
  refine (eqFtl_same a7 a0 c7 c0 bs7 n7 (unhide HBL) ma7 ma0 mc7 mc0 L7 mn7 (unhide HLLL) s7 o7 _ ((unhide HO15).below (hb15 _)).blocksAt ((unhide HA0).below ((unhide HB315).trans ((hb15 _).mono (by omega))) (Nat.le_refl _)) (unhide HSH) ((unhide HO15).below (hb15 _)).2.1 ((unhide HI0).below ((unhide HB315).trans ((hb15 _).mono (by omega))) (Nat.le_refl _)) hmn0).mono ?_
  rintro e w16 ⟨rfl, hB16⟩
  have hB1516 : Below w15.heap.size w15 w16 := (hb15 _).trans (hB16.mono (by simp))
  have Hhg16 := hide ((unhide Hhg15).below hB1516 (by first | omega | (simp; omega) | simp))
  have hW16 := hW15.trans (hB1516.mono hW15.size)
  have HMK16 := hide ((unhide HMK15).below hB1516)
  clear hB16 hB1516 hW15 HMK15 HB315 HO15 hb15 hvv0 hvv1 hvv2 hvv3 Hhv15 Hhg15
  obtain ⟨hgc0, hgc1, hgc2, hgc3⟩ := (unhide Hhg16).cells
  go_wp2_with fail
  refine (unhide HH _ (unhide HMK16)).mono ?_
  rintro e w17 ⟨rfl, hB17⟩
  have hW17 := hW16.trans (hB17.mono hW16.size)
  clear HMK16 HH hB17 hW16
  go_wp2
  go_ret
  exact ⟨rfl, hW17⟩

set_option maxRecDepth 100000 in
theorem lifted (os : Os) (started : os.Started) (H : Type) (enc : TypeId × Value → H) :
    ReturnsInHanded {} Tryz.checked os 5 .any (Rows.fnExactWrittenSpec.pre6 enc Tryz.prog Tryz.f5 Rows.fnExactWrittenRow.domain false) (Rows.fnExactWrittenSpec.post enc Tryz.prog Tryz.f5 false true false false) := by
  refine returnsInHanded_of_change (C := Tryz.checked) own started (by kernel_rfl) Tryz.func5
    (ChangeSpec.witness6 (enc := enc) (C := Tryz.checked) false ⟨#[], #[.agg #[.slice none 0 0, .slice none 0 0, .int .i64 0, .int .i64 0], .int .i64 0, .string ByteArray.empty], []⟩ 8 (by kernel_rfl) (by kernel_rfl) (by kernel_rfl) (by kernel_rfl)) ?_
  intro W base args ds gs before hval0 hW hcnd _
  have hval : ∀ (j : Nat) t v, Tryz.f5.params[j]? = some t → args[j]? = some v → Value.okWide Tryz.prog W .any base t v := hval0
  have hW' := hW
  obtain ⟨p, q, hA0, hV, rfl, hfz, hnd⟩ := hW
  have hA : DataW.TrodAll enc Tryz.prog W 0 (fun _ => true) true Tryz.f5.params.toList args.toList ds p := hA0
  rw [Tryz.params5] at hA hval
  obtain ⟨v0, vs0, d0, ds0, p0, q0, hargs, rfl, rfl, h0, r0⟩ := trodAll_cons hA
  obtain ⟨v1, vs1, d1, ds1, p1, q1, rfl, rfl, rfl, h1, r1⟩ := trodAll_cons r0
  obtain ⟨v2, vs2, d2, ds2, p2, q2, rfl, rfl, rfl, h2, r2⟩ := trodAll_cons r1
  obtain ⟨rfl, rfl, rfl⟩ := trodAll_nil r2
  obtain rfl : args = #[v0, v1, v2] := by cases args; simp_all
  obtain ⟨rfl, rfl⟩ := trodVars_none hV
  have k0 := h0
  have lt0 : ∀ x ∈ p0, x.block < W.heap.size := by obtain ⟨m, hm⟩ := k0; exact DataW.trod_lt m _ _ _ hm
  obtain ⟨a, c, bs, ma, mc, L, seq, o, rfl, hbs, hl, ht, hI, hLl⟩ := open_ftl (hval 0 46 v0 rfl rfl) h0
  obtain ⟨a1, rfl, rfl, rfl, w1⟩ := open_int Tryz.underlying2 (hval 1 2 v1 rfl rfl) h1
  obtain ⟨s2, rfl, rfl, rfl, w2⟩ := Go.ChangeMaps.open_string Tryz.underlying9 (hval 2 9 v2 rfl rfl) h2
  clear hA0 hval0
  refine (walk a c bs _ rfl ma mc L _ rfl seq o a1 s2 W hbs hl ht hI hLl (by simpa [maxLen] using w2)).mono fun e W' ⟨he, bel⟩ => ?_
  subst he
  exact ⟨_, rfl, _, _, _, [], _, [], hW', trodAll_mk1 (shut_bool Tryz.underlying4 _), (trodAll_cons_mk (Below.trod laidOut (by kernel_rfl) (of_decide_eq_true (by kernel_rfl)) k0 bel lt0) (trodAll_cons_mk (shut_int Tryz.underlying2 w1) (trodAll_cons_mk (Go.ChangeMaps.shut_string Tryz.underlying9 w2) trodAll_mk0))), rfl, bel.frame _, fun h => by cases h⟩

theorem over : Rows.fnExactWrittenRow.holds Tryz.pinned (OpenSpec.ofChange Rows.fnExactWrittenSpec) :=
  OpenClaim.holds_of_wide 5 Tryz.f5 rfl rfl rfl rfl rfl rfl rfl ⟨rfl, rfl, rfl, rfl, rfl⟩ rfl rfl rfl rfl rfl (by kernel_rfl) Tryz.func5 (by kernel_rfl)
    (of_decide_eq_true (by kernel_rfl)) (by unfold Func.isWrapper; first | (rw [if_pos (by decide +kernel)]; kernel_rfl) | (rw [if_neg (by decide +kernel)]; exact ⟨rfl, rfl⟩))
    (fun os started H enc _ => lifted os started H enc)

end Go.Proofs.YtalgkmellbamgaaGreat.fnExactWritten
namespace Go.Proofs.YtalgkmellbamgaaGreat
theorem written_holds : Rows.FnExactWrittenSaid := fnExactWritten.over
end Go.Proofs.YtalgkmellbamgaaGreat
