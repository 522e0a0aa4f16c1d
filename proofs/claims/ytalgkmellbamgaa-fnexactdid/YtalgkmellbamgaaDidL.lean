/- Whatever the chip and the list of ops, the law FnExactDid answers true: the program's Did is the model's, chip and flag, it leaves the chip and the ops as they were, and its answer owns its memory. No condition. -/
import Derived.Test.YtalgkmellbamgaaRows
import Derived.Test.YtalgkmellbamgaaDidC
import Derived.Test.YtalgkmellbamgaaDidT
import Derived.Test.YtalgkmellbamgaaOpK
import Derived.Test.YtalgkmellbamgaaOpenO
import Derived.Test.YtalgkmellbamgaaLawC
import Derived.Test.YtalgkmellbamgaaChipA
import Derived.WalkKit
import Derived.ProofKit
import Derived.OpenShut
import Derived.ChangeOld
import Derived.Below
namespace Go.Proofs.Ytalgkmellbamgaa.fnExactDid
open Go.ChangeShapes Go.WideShapes Go.ChangeAt Go.RowKit
set_option linter.unusedVariables false
set_option linter.unusedSimpArgs false

set_option maxRecDepth 100000 in
set_option maxHeartbeats 8000000 in
theorem walk (a : Option Addr) (c : Nat) (bs : List Bk) (n : Nat) (hl : bs.length = n) (la : Option Addr) (lc : Nat) (xs : List Opn) (q : Nat) (hq : xs.length = q) (w : World) (h : BlocksAt w a bs) (hn : Lens 9223372036854775807 bs) (ht : Texts bs) (hx : OpsAt w la xs) (hxl : q ≤ 9223372036854775807) (hxt : OpTexts xs) :
    Calls Try.prog 10 #[.agg #[.slice a n c], .slice la q lc] w fun e w' => e = .returned (.bool true) ∧ Below w.heap.size w w' := by
  have hb0 : ∀ o, Below w.heap.size w (w.alloc o) := fun o => (Below.refl _ w).alloc (Nat.le_refl _) _
  have HL := hide hl
  have HQ := hide hq
  have HX := hide hx
  have HXT := hide hxt
  clear hl hq hx hxt
  go_enter Try.func10, Try.ntmps10
  go_wp2_with fail
  refine (szChip_n a c bs (unhide HL) _ (h.below (hb0 _) (Nat.le_refl _)) hn ht).mono ?_
  rintro e w1 ⟨left, rfl, hlu, hlens, hB1⟩
  have hs1 := hB1.size
  simp at hs1
  have hx1 : w1.cell? ⟨w.heap.size, 0, none⟩ = some (.slice a n c) := by
    rw [hB1.cell (p := ⟨w.heap.size, 0, none⟩) (by simp)]
    simp
  have hW1 : Below w.heap.size w w1 := (hb0 _).trans (hB1.mono (by simp))
  have HA := hide h
  clear hb0 hB1 h hn ht
  by_cases h0 : left < 0
  · clear hlens
    go_wp2
    go_ret
    exact ⟨rfl, hW1⟩
  have HN := hide (hlens (by omega))
  have HN9 : Hid (Lens 9223372036854775807 bs) := ⟨by have := (unhide HN).1; omega, fun b hb => by have := (unhide HN).2 b hb; omega⟩
  clear hlens
  go_wp2_with fail
  refine (szCOpS_any la lc xs q (unhide HQ) left _ ((unhide HX).below hW1 (Nat.le_refl _)) hxl (unhide HXT) (by omega) hlu).mono ?_
  rintro e w1b ⟨left2, rfl, _, hq20, hB1b⟩
  have hs1b := hB1b.size
  have hx1b := (hB1b.cell (p := ⟨w.heap.size, 0, none⟩) (by show w.heap.size < _; omega)).trans hx1
  have hW1b := hW1.trans (hB1b.mono hW1.size)
  clear hB1b hW1 hx1 h0 hlu
  by_cases h02 : left2 < 0
  · clear hq20
    go_wp2
    go_ret
    exact ⟨rfl, hW1b⟩
  have hq2 := hq20 (by omega)
  clear hq20
  go_wp2_with fail
  refine (toChip_n a c bs (unhide HL) _ ((unhide HA).below hW1b (Nat.le_refl _)) (unhide HN)).mono ?_
  rintro e w2 ⟨g1, rfl, hG1, hB2⟩
  have hs2 := hB2.size
  have hx2 := (hB2.cell (p := ⟨w.heap.size, 0, none⟩) (by show w.heap.size < _; omega)).trans hx1b
  have hW2 := hW1b.trans (hB2.mono hW1b.size)
  have HG1 := hide hG1
  clear hB2 hW1b hx1b hG1
  go_wp2_with fail
  refine (toCOpS_any la lc xs q (unhide HQ) _ ((unhide HX).below hW2 (Nat.le_refl _)) hq2).mono ?_
  rintro e w2b ⟨rfl, hO2b, hB2b⟩
  have hs2b := hB2b.size
  have hx2b := (hB2b.cell (p := ⟨w.heap.size, 0, none⟩) (by show w.heap.size < _; omega)).trans hx2
  have hW2b := hW2.trans (hB2b.mono hW2.size)
  have HO2 := hide (hO2b.opsAt (by rw [unhide HQ]; exact Nat.le_refl _))
  have HG2' := hide ((unhide HG1).below hB2b (Nat.le_refl _))
  clear hB2b hW2 hx2 hO2b HG1
  go_wp2_with fail
  refine (specDid_any _ n bs _ (unhide HL) _ q xs q (unhide HQ) hq2 _ (unhide HG2') (unhide HN) (unhide HO2)).mono ?_
  rintro e w3 ⟨a0, n0, c0, out, code, rfl, hE0, hln0, hA0, hB3⟩
  have hs3 := hB3.size
  have hx3 := (hB3.cell (p := ⟨w.heap.size, 0, none⟩) (by show w.heap.size < _; omega)).trans hx2b
  have hW3 := hW2b.trans (hB3.mono hW2b.size)
  have HE := hide hE0
  have HLN := hide hln0
  have HOL := hide hE0.lens
  have HA0 := hide hA0
  have hn0 : n0 ≤ 1048576 := by have := (unhide HOL).1; omega
  have hkk := kAfter_upto out 1 (unhide HOL).2
  have HKO : Hid (1 ≤ kAfter 1 out ∧ kAfter 1 out ≤ 1125899906842624) := ⟨hkk.1, by have := (unhide HOL).1; have h2 := hkk.2; have h3 : (out.length : Int) * 4194305 ≤ 1048576 * 4194305 := Int.mul_le_mul_of_nonneg_right (by omega) (by omega); omega⟩
  have hkb := kAfter_upto bs 1 (unhide HN).2
  have HKK : Hid (1 ≤ kAfter 1 bs ∧ kAfter 1 bs + 6 * (q : Int) ≤ 1125899906842624) := ⟨hkb.1, by have := (unhide HN).1; have h2 := hkb.2; have h3 : (bs.length : Int) * 4194305 ≤ 1048576 * 4194305 := Int.mul_le_mul_of_nonneg_right (by omega) (by omega); omega⟩
  have hb3 : ∀ o, Below w3.heap.size w3 (w3.alloc o) := fun o => (Below.refl _ w3).alloc (Nat.le_refl _) _
  have hl03 : w.heap.size < w3.heap.size := by omega
  clear hB3 hW2b hx2b HG2' HO2 hE0 hA0 hln0 hkk hkb
  go_wp2_with fail
  refine (toChip_own a c bs (unhide HL) _ ((unhide HA).below (hW3.trans ((hb3 _).mono hW3.size)) (Nat.le_refl _)) (unhide HN)).mono ?_
  rintro e w4 ⟨g2, H2, rfl, hg2, hO2, hB4⟩
  simp only [World.size_alloc] at hg2
  have hs4 := hB4.size
  simp at hs4
  have hB34 : Below w3.heap.size w3 w4 := (hb3 _).trans (hB4.mono (by simp))
  have hx4 := (hB34.cell (p := ⟨w.heap.size, 0, none⟩) hl03).trans hx3
  have hp4 : w4.cell? ⟨w3.heap.size, 0, none⟩ = some (.slice a0 n0 c0) := by
    rw [hB4.cell (p := ⟨w3.heap.size, 0, none⟩) (by simp)]
    simp
  have hW4 := hW3.trans (hB34.mono hW3.size)
  have hglt : g2 < w4.heap.size := hO2.row.lt
  have HS : Hid (∀ j, (j = g2 ∨ ∃ i, i < n ∧ j = H2 i) → w3.heap.size + 1 ≤ j ∧ j < w4.heap.size) := fun j hj => by
    rcases hj with rfl | ⟨i, hi, rfl⟩
    · exact ⟨hg2, hglt⟩
    · have hi' : i < bs.length := by rw [unhide HL]; exact hi
      have := hO2.ahead i hi'
      exact ⟨by omega, hO2.lt hi'⟩
  have HO2 := hide hO2
  have hb5 : ∀ o, Below w4.heap.size w4 (w4.alloc o) := fun o => (Below.refl _ w4).alloc (Nat.le_refl _) _
  have hl34 : w3.heap.size < w4.heap.size := by omega
  clear hB4 hW3 hx3 hO2 hb3
  go_wp2_with fail
  refine (toCOpS_any la lc xs q (unhide HQ) _ ((unhide HX).below (hW4.trans ((hb5 _).mono hW4.size)) (Nat.le_refl _)) hq2).mono ?_
  rintro e w5 ⟨rfl, hO5, hB5⟩
  simp only [World.size_alloc] at hO5 ⊢
  have hs5 := hB5.size
  simp at hs5
  have hB45 : Below w4.heap.size w4 w5 := (hb5 _).trans (hB5.mono (by simp))
  have hx5 := (hB45.cell (p := ⟨w.heap.size, 0, none⟩) (by show w.heap.size < _; omega)).trans hx4
  have hp5 := (hB45.cell (p := ⟨w3.heap.size, 0, none⟩) hl34).trans hp4
  have hy5 : w5.cell? ⟨w4.heap.size, 0, none⟩ = some (.slice (some ⟨g2, 0, none⟩) n n) := by
    rw [hB5.cell (p := ⟨w4.heap.size, 0, none⟩) (by simp)]
    simp
  have hW5 := hW4.trans (hB45.mono hW4.size)
  have hB35 := hB34.trans (hB45.mono (by omega))
  have hO25 := (unhide HO2).below hB45 (Nat.le_refl _)
  have HO25 := hide hO25
  have HG2 := hide (hO25.blocksAt (by rw [unhide HL]; exact Nat.le_refl _))
  have HP5 := hide hO5
  have HPA := hide (hO5.opsAt (by rw [unhide HQ]; exact Nat.le_refl _))
  have hpl : w4.heap.size + 1 < w5.heap.size := World.rowIs.lt hO5
  clear hB5 hB45 hB34 hW4 hx4 hp4 HO2 hb5 hO5 hO25
  go_wp2_with fail
  refine (implDid_own _ n bs _ (unhide HL) _ q xs q (unhide HQ) hq2 _ (unhide HG2) (unhide HN9) (unhide HPA)).mono ?_
  rintro e w6 ⟨a1, n1, c1, out1, code1, rfl, hE1, hO1, hB6⟩
  obtain ⟨rfl, rfl⟩ : out1 = out ∧ code1 = code := hE1.one (unhide HE)
  obtain rfl : n1 = n0 := by have := hO1.1; have := unhide HLN; omega
  have hs6 := hB6.size
  have hl45 : w4.heap.size < w5.heap.size := by omega
  have hx6 := (hB6.cell (p := ⟨w.heap.size, 0, none⟩) (by show w.heap.size < _; omega)).trans hx5
  have hp6 := (hB6.cell (p := ⟨w3.heap.size, 0, none⟩) (by show w3.heap.size < _; omega)).trans hp5
  have hy6 := (hB6.cell (p := ⟨w4.heap.size, 0, none⟩) hl45).trans hy5
  have hW6 := hW5.trans (hB6.mono hW5.size)
  have hB36 := hB35.trans (hB6.mono (by omega))
  have HC6 := hide hO1
  have HO6 := hide ((unhide HO25).below hB6 (Nat.le_refl _))
  have HP6 := hide ((unhide HP5).below hB6 hpl)
  have hl06 : w.heap.size < w6.heap.size := by omega
  have hl36 : w3.heap.size < w6.heap.size := by omega
  have hl46 : w4.heap.size < w6.heap.size := by omega
  have hb6 : ∀ o, Below w6.heap.size w6 (w6.alloc o) := fun o => (Below.refl _ w6).alloc (Nat.le_refl _) _
  have hne : (code1 != code1) = false := by simp
  clear hB6 hW5 hx5 hp5 hy5 HG2 HPA HO25 HP5 hO1 hE1 hB35
  go_wp2_with fail
  refine (eqChip_n a1 a0 c1 c0 out1 (unhide HLN) _ ((unhide HC6).below (hb6 _)).blocksAt ((unhide HA0).below (hB36.trans ((hb6 _).mono (by omega))) (Nat.le_refl _)) (unhide HOL)).mono ?_
  rintro e w7 ⟨rfl, hB7⟩
  have hs7 := hB7.size
  simp at hs7
  have hz7 : w7.cell? ⟨w6.heap.size, 0, none⟩ = some (.slice a1 n1 c1) := by
    rw [hB7.cell (p := ⟨w6.heap.size, 0, none⟩) (by simp)]
    simp
  have hB67 : Below w6.heap.size w6 w7 := (hb6 _).trans (hB7.mono (by simp))
  have hx7 := (hB67.cell (p := ⟨w.heap.size, 0, none⟩) hl06).trans hx6
  have hp7 := (hB67.cell (p := ⟨w3.heap.size, 0, none⟩) hl36).trans hp6
  have hy7 := (hB67.cell (p := ⟨w4.heap.size, 0, none⟩) hl46).trans hy6
  have hW7 := hW6.trans (hB67.mono hW6.size)
  have HB37 := hide (hB36.trans (hB67.mono (by omega)))
  have HW7 := hide hW7
  have HC7 := hide ((unhide HC6).below hB67)
  have HO7 := hide ((unhide HO6).below hB67 (Nat.le_refl _))
  have HP7 := hide ((unhide HP6).below hB67 (by omega))
  have hl07 : w.heap.size < w7.heap.size := by omega
  have hl37 : w3.heap.size < w7.heap.size := by omega
  have hl47 : w4.heap.size < w7.heap.size := by omega
  have hl67 : w6.heap.size < w7.heap.size := by omega
  have HG7 : Hid (BlocksAt w7.drew (some ⟨g2, 0, none⟩) bs) := ((unhide HO7).below (Below.refl w7.heap.size w7).drew (Nat.le_refl _)).blocksAt (by rw [unhide HL]; exact Nat.le_refl _)
  have HA7 : Hid (BlocksAt w7.drew a bs) := (unhide HA).below hW7.drew (Nat.le_refl _)
  clear hB7 hB67 hB36 hW6 hW7 hx6 hy6 hp6 HC6 HO6 HP6 hb6
  go_wp2
  go_region_with (first
    | (refine (toChip_n a c bs (unhide HL) _ (unhide HA7) (unhide HN)).mono ?_
       rintro e w8 ⟨g3, rfl, hG3, hB8⟩
       have hs8 := hB8.size
       have hy8 := (hB8.cell (p := ⟨w4.heap.size, 0, none⟩) hl47).trans hy7
       have hx8 := (hB8.cell (p := ⟨w.heap.size, 0, none⟩) hl07).trans hx7
       have HG8 := hide ((unhide HG7).below hB8 (Nat.le_refl _))
       have HH8 := hide hG3
       have HB8 := hide hB8
       clear hB8 hG3)
    | (refine (eqChip_n _ _ n n bs (unhide HL) _ (unhide HG8) (unhide HH8) (unhide HN)).mono ?_
       rintro e w9 ⟨rfl, hB9⟩
       have hs9 := hB9.size
       have hB79 : Below w7.heap.size w7 w9 := ((Below.refl w7.heap.size w7).drew.trans (unhide HB8)).trans (hB9.mono (unhide HB8).size)
       have HB79 := hide hB79
       clear hB9 hB79))
  all_goals (
    have hs79 := (unhide HB79).size
    have hx9 := ((unhide HB79).cell (p := ⟨w.heap.size, 0, none⟩) hl07).trans hx7
    have hp9 := ((unhide HB79).cell (p := ⟨w3.heap.size, 0, none⟩) hl37).trans hp7
    have hy9 := ((unhide HB79).cell (p := ⟨w4.heap.size, 0, none⟩) hl47).trans hy7
    have hz9 := ((unhide HB79).cell (p := ⟨w6.heap.size, 0, none⟩) hl67).trans hz7
    have hW9 := (unhide HW7).trans ((unhide HB79).mono (unhide HW7).size)
    have HC9 := hide ((unhide HC7).below (unhide HB79))
    have HO9 := hide ((unhide HO7).below (unhide HB79) (Nat.le_refl _))
    have HP9 := hide ((unhide HP7).below (unhide HB79) (by omega))
    have HB39 := hide ((unhide HB37).trans ((unhide HB79).mono (by omega)))
    clear hx7 hp7 hy7 hz7 hx8 hy8 HC7 HO7 HP7 HB37 HB79 HB8 HG8 HH8 HG7 HA7 hs8 hs9 HW7
    go_wp2_with fail
    refine (toCOpS_any la lc xs q (unhide HQ) _ ((unhide HX).below hW9 (Nat.le_refl _)) hq2).mono ?_
    rintro e wa ⟨rfl, hOa, hBa⟩
    have hsa := hBa.size
    have hxa := (hBa.cell (p := ⟨w.heap.size, 0, none⟩) (by show w.heap.size < _; omega)).trans hx9
    have hpa := (hBa.cell (p := ⟨w3.heap.size, 0, none⟩) (by show w3.heap.size < _; omega)).trans hp9
    have hya := (hBa.cell (p := ⟨w4.heap.size, 0, none⟩) (by show w4.heap.size < _; omega)).trans hy9
    have hza := (hBa.cell (p := ⟨w6.heap.size, 0, none⟩) (by show w6.heap.size < _; omega)).trans hz9
    have hWa := hW9.trans (hBa.mono hW9.size)
    have HCa := hide ((unhide HC9).below hBa)
    have HOa := hide ((unhide HO9).below hBa (Nat.le_refl _))
    have HPa := hide ((unhide HP9).below hBa (by omega))
    have HB3a := hide ((unhide HB39).trans (hBa.mono (by omega)))
    have HQa := hide (hOa.opsAt (by rw [unhide HQ]; exact Nat.le_refl _))
    clear hBa hOa hx9 hp9 hy9 hz9 hW9 HC9 HO9 HP9 HB39
    go_wp2_with fail
    refine (eqCOpS_same _ _ q q xs q (unhide HQ) _ ((unhide HPa).opsAt (by rw [unhide HQ]; exact Nat.le_refl _)) (unhide HQa) hq2).mono ?_
    rintro e wb ⟨rfl, hBb⟩
    have hsb := hBb.size
    have hxb := (hBb.cell (p := ⟨w.heap.size, 0, none⟩) (by show w.heap.size < _; omega)).trans hxa
    have hpb := (hBb.cell (p := ⟨w3.heap.size, 0, none⟩) (by show w3.heap.size < _; omega)).trans hpa
    have hyb := (hBb.cell (p := ⟨w4.heap.size, 0, none⟩) (by show w4.heap.size < _; omega)).trans hya
    have hzb := (hBb.cell (p := ⟨w6.heap.size, 0, none⟩) (by show w6.heap.size < _; omega)).trans hza
    have hWb := hWa.trans (hBb.mono hWa.size)
    have HCb := hide ((unhide HCa).below hBb)
    have HOb := hide ((unhide HOa).below hBb (Nat.le_refl _))
    have HPb := hide ((unhide HPa).below hBb (by omega))
    have HB3b := hide ((unhide HB3a).trans (hBb.mono (by omega)))
    clear hBb hxa hpa hya hza hWa HCa HOa HPa HB3a HQa
    go_wp2_with fail
    refine (markChip_n g2 H2 n bs (unhide HL) 1 _ (unhide HOb) (unhide HN) (by omega) (by have := (unhide HKK).2; omega)).mono ?_
    rintro e w10 ⟨rfl, _, hT⟩
    have hk1 := (unhide HKK).1
    have hk2 := (unhide HKK).2
    obtain ⟨kk, hkk⟩ : ∃ kk, kk = kAfter 1 bs := ⟨_, rfl⟩
    rw [← hkk] at hk1 hk2 ⊢
    have hs10 := hT.size
    have hTb : Below (w3.heap.size + 1) wb w10 := hT.below (by omega) (fun k hk => (unhide HS k hk).1)
    have hx10 := (hTb.cell (p := ⟨w.heap.size, 0, none⟩) (by show w.heap.size < _; omega)).trans hxb
    have hp10 := (hTb.cell (p := ⟨w3.heap.size, 0, none⟩) (by show w3.heap.size < _; omega)).trans hpb
    have hz10 : w10.cell? ⟨w6.heap.size, 0, none⟩ = some (.slice a1 n1 c1) := (World.cell?_of_block (w := wb) (a := ⟨w6.heap.size, 0, none⟩) (hT.block w6.heap.size (by omega) (fun hs => by have := (unhide HS w6.heap.size hs).2; omega))).trans hzb
    have hW10 := hWb.trans (hTb.mono (by omega))
    have HB310 := hide ((unhide HB3b).trans (hTb.mono (by omega)))
    have HC10 := hide ((unhide HCb).touch hT (fun k hk => by have := (unhide HS k hk).2; omega))
    have HP10 : Hid (OwnOps w10 63 (w4.heap.size + 1) q xs) := World.rowIs.of_block (unhide HPb) (hT.block (w4.heap.size + 1) (by omega) (fun hs => by have := (unhide HS _ hs).2; omega))
    clear hT hTb hxb hpb hyb hzb hWb HCb HOb HPb HB3b HKK hkk
    go_wp2_with fail
    refine (markCOpS_any _ q xs q (unhide HQ) kk _ (unhide HP10) hq2 (by omega) (by omega)).mono ?_
    rintro e w10b ⟨rfl, _, hT⟩
    have hs10b := hT.size
    have hTb : Below (w4.heap.size + 1) w10 w10b := hT.below (by omega) (fun k hk => by rw [hk]; exact Nat.le_refl _)
    have hx10b := (hTb.cell (p := ⟨w.heap.size, 0, none⟩) (by show w.heap.size < _; omega)).trans hx10
    have hp10b := (hTb.cell (p := ⟨w3.heap.size, 0, none⟩) (by show w3.heap.size < _; omega)).trans hp10
    have hz10b : w10b.cell? ⟨w6.heap.size, 0, none⟩ = some (.slice a1 n1 c1) := (World.cell?_of_block (w := w10) (a := ⟨w6.heap.size, 0, none⟩) (hT.block w6.heap.size (by omega) (by show ¬ (w6.heap.size = _); omega))).trans hz10
    have hW10b := hW10.trans (hTb.mono (by omega))
    have HB310b := hide ((unhide HB310).trans (hTb.mono (by omega)))
    have HC10b := hide ((unhide HC10).touch hT (fun k hk => by rw [hk]; omega))
    have hk3 : ¬ (kk + 6 * (q : Int) < 0) := by omega
    obtain ⟨kq, hkq⟩ : ∃ kq, kq = kk + 6 * (q : Int) := ⟨_, rfl⟩
    rw [← hkq] at hk3 ⊢
    clear hT hTb hx10 hp10 hz10 hW10 HC10 HB310 HP10 hkq hk1 hk2
    go_wp2_with fail
    refine (eqChip_n a1 a0 c1 c0 out1 (unhide HLN) _ (unhide HC10b).blocksAt ((unhide HA0).below (unhide HB310b) (Nat.le_refl _)) (unhide HOL)).mono ?_
    rintro e w11 ⟨rfl, hB11⟩
    have hs11 := hB11.size
    have hx11 := (hB11.cell (p := ⟨w.heap.size, 0, none⟩) (by show w.heap.size < _; omega)).trans hx10b
    have hp11 := (hB11.cell (p := ⟨w3.heap.size, 0, none⟩) (by show w3.heap.size < _; omega)).trans hp10b
    have hz11 := (hB11.cell (p := ⟨w6.heap.size, 0, none⟩) (by show w6.heap.size < _; omega)).trans hz10b
    have hW11 := hW10b.trans (hB11.mono hW10b.size)
    have HC11 := hide ((unhide HC10b).below hB11)
    have HB311 := hide ((unhide HB310b).trans (hB11.mono (by omega)))
    clear hB11 hW10b hx10b hp10b hz10b HC10b HB310b
    go_wp2_with fail
    refine (markChip_own a1 n1 c1 out1 _ (unhide HC11) (unhide HOL) (unhide HKO).2).mono ?_
    rintro e w12 ⟨rfl, hMk, hT⟩
    have hs12 := hT.size
    have hTb : Below w5.heap.size w11 w12 := hT.below (by omega) (fun k hk => hk.1)
    have hx12 := (hTb.cell (p := ⟨w.heap.size, 0, none⟩) (by show w.heap.size < _; omega)).trans hx11
    have hp12 := (hTb.cell (p := ⟨w3.heap.size, 0, none⟩) (by show w3.heap.size < _; omega)).trans hp11
    have hz12 : w12.cell? ⟨w6.heap.size, 0, none⟩ = some (.slice a1 n1 c1) := (World.cell?_of_block (w := w11) (a := ⟨w6.heap.size, 0, none⟩) (hT.block w6.heap.size (by omega) (fun hs => Nat.lt_irrefl _ hs.2))).trans hz11
    have hW12 := hW11.trans (hTb.mono (by omega))
    have HMK := hide hMk
    have HB312 := hide ((unhide HB311).trans (hTb.mono (by omega)))
    have HH := hide (fun W hW => heldChip_own a1 n1 c1 out1 (unhide HLN) W hW (unhide HOL) (unhide HKO).2)
    have hq1 := (unhide HKO).1
    obtain ⟨qq, hqq⟩ : ∃ qq, qq = kAfter 1 out1 := ⟨_, rfl⟩
    rw [← hqq] at HH hq1 ⊢
    have hneq : (qq != qq) = false := by simp
    clear hMk hT hTb hW11 hx11 hp11 hz11 HC11 HB311 hqq HKO
    go_wp2_with fail
    refine (unhide HH _ (unhide HMK)).mono ?_
    rintro e w13 ⟨rfl, hB13⟩
    have hs13 := hB13.size
    have hx13 := (hB13.cell (p := ⟨w.heap.size, 0, none⟩) (by show w.heap.size < _; omega)).trans hx12
    have hp13 := (hB13.cell (p := ⟨w3.heap.size, 0, none⟩) (by show w3.heap.size < _; omega)).trans hp12
    have hz13 := (hB13.cell (p := ⟨w6.heap.size, 0, none⟩) (by show w6.heap.size < _; omega)).trans hz12
    have hW13 := hW12.trans (hB13.mono hW12.size)
    have HMK13 := hide ((unhide HMK).below hB13 (Nat.le_refl _))
    have HB313 := hide ((unhide HB312).trans (hB13.mono (by omega)))
    clear hB13 hW12 hx12 hp12 hz12 HMK HB312
    go_wp2_with fail
    refine (toChip_n a c bs (unhide HL) _ ((unhide HA).below hW13 (Nat.le_refl _)) (unhide HN)).mono ?_
    rintro e w14 ⟨g4, rfl, hG4, hB14⟩
    have hs14 := hB14.size
    have hp14 := (hB14.cell (p := ⟨w3.heap.size, 0, none⟩) (by show w3.heap.size < _; omega)).trans hp13
    have hz14 := (hB14.cell (p := ⟨w6.heap.size, 0, none⟩) (by show w6.heap.size < _; omega)).trans hz13
    have hW14 := hW13.trans (hB14.mono hW13.size)
    have HG4 := hide hG4
    have HMK14 := hide ((unhide HMK13).below hB14 (Nat.le_refl _))
    have HB314 := hide ((unhide HB313).trans (hB14.mono (by omega)))
    clear hG4 hB14 hW13 hx13 hp13 hz13 HMK13 HB313
    go_wp2_with fail
    refine (toCOpS_any la lc xs q (unhide HQ) _ ((unhide HX).below hW14 (Nat.le_refl _)) hq2).mono ?_
    rintro e wc ⟨rfl, hOc, hBc⟩
    have hsc := hBc.size
    have hpc := (hBc.cell (p := ⟨w3.heap.size, 0, none⟩) (by show w3.heap.size < _; omega)).trans hp14
    have hzc := (hBc.cell (p := ⟨w6.heap.size, 0, none⟩) (by show w6.heap.size < _; omega)).trans hz14
    have hWc := hW14.trans (hBc.mono hW14.size)
    have HGc := hide ((unhide HG4).below hBc (Nat.le_refl _))
    have HMKc := hide ((unhide HMK14).below hBc (Nat.le_refl _))
    have HB3c := hide ((unhide HB314).trans (hBc.mono (by omega)))
    have HQc := hide (hOc.opsAt (by rw [unhide HQ]; exact Nat.le_refl _))
    clear hOc hBc hW14 hp14 hz14 HG4 HMK14 HB314
    go_wp2_with fail
    refine (implDid_own _ n bs _ (unhide HL) _ q xs q (unhide HQ) hq2 _ (unhide HGc) (unhide HN9) (unhide HQc)).mono ?_
    rintro e w15 ⟨a2, n2, c2, out2, code2, rfl, hE2, hO15, hB15⟩
    obtain ⟨rfl, rfl⟩ : out2 = out1 ∧ code2 = code1 := hE2.one (unhide HE)
    obtain rfl : n2 = n1 := by have := hO15.1; have := unhide HLN; omega
    have hs15 := hB15.size
    have hp15 := (hB15.cell (p := ⟨w3.heap.size, 0, none⟩) (by show w3.heap.size < _; omega)).trans hpc
    have hz15 := (hB15.cell (p := ⟨w6.heap.size, 0, none⟩) (by show w6.heap.size < _; omega)).trans hzc
    have hW15 := hWc.trans (hB15.mono hWc.size)
    have HI2 := hide hO15.blocksAt
    have HMK15 := hide ((unhide HMKc).below hB15 (Nat.le_refl _))
    have HB315 := hide ((unhide HB3c).trans (hB15.mono (by omega)))
    have hb15 : ∀ o, Below w15.heap.size w15 (w15.alloc o) := fun o => (Below.refl _ w15).alloc (Nat.le_refl _) _
    have hl315 : w3.heap.size < w15.heap.size := by omega
    have hl615 : w6.heap.size < w15.heap.size := by omega
    clear hO15 hE2 hB15 hWc HMKc HB3c HGc HQc hpc hzc
    go_wp2_with fail
    refine (eqChip_n a2 a0 c2 c0 out2 (unhide HLN) _ ((unhide HI2).below (hb15 _) (Nat.le_refl _)) ((unhide HA0).below ((unhide HB315).trans ((hb15 _).mono (by omega))) (Nat.le_refl _)) (unhide HOL)).mono ?_
    rintro e w16 ⟨rfl, hB16⟩
    have hs16 := hB16.size
    simp at hs16
    have hB156 : Below w15.heap.size w15 w16 := (hb15 _).trans (hB16.mono (by simp))
    have hz16 := (hB156.cell (p := ⟨w6.heap.size, 0, none⟩) hl615).trans hz15
    have hW16 := hW15.trans (hB156.mono hW15.size)
    have HMK16 := hide ((unhide HMK15).below hB156 (Nat.le_refl _))
    clear hB16 hB156 hW15 HMK15 HB315 HI2 hb15 hp15 hz15
    go_wp2_with fail
    refine (unhide HH _ (unhide HMK16)).mono ?_
    rintro e w17 ⟨rfl, hB17⟩
    have hW17 := hW16.trans (hB17.mono hW16.size)
    clear HMK16 HH hB17 hW16
    go_wp2
    go_ret
    exact ⟨rfl, hW17⟩)

set_option maxRecDepth 100000 in
theorem lifted (os : Os) (started : os.Started) (H : Type) (enc : TypeId × Value → H) :
    ReturnsInHanded {} Try.checked os 10 .any (Rows.fnExactDidSpec.pre6 enc Try.prog Try.f10 Rows.fnExactDidRow.domain false) (Rows.fnExactDidSpec.post enc Try.prog Try.f10 false true false false) := by
  refine returnsInHanded_of_change (C := Try.checked) own started (by kernel_rfl) Try.func10
    (ChangeSpec.witness6 (enc := enc) (C := Try.checked) false ⟨#[], #[.agg #[.slice none 0 0], .slice none 0 0], []⟩ 8 (by kernel_rfl) (by kernel_rfl) (by kernel_rfl) (by kernel_rfl)) ?_
  intro W base args ds gs before hval0 hW hcnd _
  have hval : ∀ (j : Nat) t v, Try.f10.params[j]? = some t → args[j]? = some v → Value.okWide Try.prog W .any base t v := hval0
  have hW' := hW
  obtain ⟨p, q, hA0, hV, rfl, hfz, hnd⟩ := hW
  have hA : DataW.TrodAll enc Try.prog W 0 (fun _ => true) true Try.f10.params.toList args.toList ds p := hA0
  rw [Try.params10] at hA hval
  obtain ⟨v0, vs0, d0, ds0, p0, q0, hargs, rfl, rfl, h0, r0⟩ := trodAll_cons hA
  obtain ⟨v1, vs1, d1, ds1, p1, q1, rfl, rfl, rfl, h1, r1⟩ := trodAll_cons r0
  obtain ⟨rfl, rfl, rfl⟩ := trodAll_nil r1
  obtain rfl : args = #[v0, v1] := by cases args; simp_all
  obtain ⟨rfl, rfl⟩ := trodVars_none hV
  have k0 := h0
  have lt0 : ∀ x ∈ p0, x.block < W.heap.size := by obtain ⟨m, hm⟩ := k0; exact DataW.trod_lt m _ _ _ hm
  obtain ⟨a, c, bs, rfl, hbs, hl, ht⟩ := open_chip (hval 0 70 v0 rfl rfl) h0
  have k1 := h1
  have lt1 : ∀ x ∈ p1, x.block < W.heap.size := by obtain ⟨m, hm⟩ := k1; exact DataW.trod_lt m _ _ _ hm
  obtain ⟨la, lc, xs, rfl, hxs, hxl, hxt⟩ := open_ops (hval 1 79 v1 rfl rfl) h1
  clear hA0 hval0
  refine (walk a c bs _ rfl la lc xs _ rfl W hbs hl ht hxs hxl hxt).mono fun e W' ⟨he, bel⟩ => ?_
  subst he
  exact ⟨_, rfl, _, _, _, [], _, [], hW', trodAll_mk1 (shut_bool Try.underlying4 _), (trodAll_cons_mk (Below.trod laidOut (by kernel_rfl) (of_decide_eq_true (by kernel_rfl)) k0 bel lt0) (trodAll_cons_mk (Below.trod laidOut (by kernel_rfl) (of_decide_eq_true (by kernel_rfl)) k1 bel lt1) trodAll_mk0)), rfl, bel.frame _, fun h => by cases h⟩

theorem over : Rows.fnExactDidRow.holds Try.pinned (OpenSpec.ofChange Rows.fnExactDidSpec) :=
  OpenClaim.holds_of_wide 10 Try.f10 rfl rfl rfl rfl rfl rfl rfl ⟨rfl, rfl, rfl, rfl, rfl⟩ rfl rfl rfl rfl rfl (by kernel_rfl) Try.func10 (by kernel_rfl)
    (of_decide_eq_true (by kernel_rfl)) (by unfold Func.isWrapper; first | (rw [if_pos (by decide +kernel)]; kernel_rfl) | (rw [if_neg (by decide +kernel)]; exact ⟨rfl, rfl⟩))
    (fun os started H enc _ => lifted os started H enc)

end Go.Proofs.Ytalgkmellbamgaa.fnExactDid
namespace Go.Proofs.Ytalgkmellbamgaa
theorem did_holds : Rows.FnExactDidSaid := fnExactDid.over
end Go.Proofs.Ytalgkmellbamgaa
