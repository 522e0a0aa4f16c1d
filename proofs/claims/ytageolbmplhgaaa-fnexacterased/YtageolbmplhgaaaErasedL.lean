/- Whatever the chip and the block, the law FnExactErased answers true: the program's Erased is the model's, chip and code, it leaves the chip as it was, and its answer owns its memory. No condition. -/
import Derived.Test.YtageolbmplhgaaaRows
import Derived.Test.YtageolbmplhgaaaEraS
import Derived.Test.YtageolbmplhgaaaEraO
import Derived.Test.YtageolbmplhgaaaLawC
import Derived.Test.YtageolbmplhgaaaChipA
import Derived.WalkKit
import Derived.ProofKit
import Derived.OpenShut
import Derived.ChangeOld
import Derived.Below
namespace Go.Proofs.Ytageolbmplhgaaa.fnExactErased
open Go.ChangeShapes Go.WideShapes Go.ChangeAt Go.RowKit
set_option linter.unusedVariables false
set_option linter.unusedSimpArgs false

set_option maxRecDepth 100000 in
set_option maxHeartbeats 8000000 in
theorem walk (a : Option Addr) (c : Nat) (bs : List Bk) (n : Nat) (hl : bs.length = n) (blk : Int) (w : World) (h : BlocksAt w a bs) (hn : Lens 9223372036854775807 bs) (ht : Texts bs) :
    Calls Try.prog 7 #[.agg #[.slice a n c], .int .i64 blk] w fun e w' => e = .returned (.bool true) ∧ Below w.heap.size w w' := by
  have hb0 : ∀ o, Below w.heap.size w (w.alloc o) := fun o => (Below.refl _ w).alloc (Nat.le_refl _) _
  have HL := hide hl
  clear hl
  go_enter Try.func7, Try.ntmps7
  go_wp2_with fail
  refine (szChip_n a c bs (unhide HL) _ (h.below (hb0 _) (Nat.le_refl _)) hn ht).mono ?_
  rintro e w1 ⟨left, rfl, _, hlens, hB1⟩
  have hs1 := hB1.size
  simp at hs1
  have hx1 : w1.cell? ⟨w.heap.size, 0, none⟩ = some (.slice a n c) := by
    rw [hB1.cell (p := ⟨w.heap.size, 0, none⟩) (by simp)]
    simp
  have hW1 : Below w.heap.size w w1 := (hb0 _).trans (hB1.mono (by simp))
  have HA := hide h
  clear hb0 hB1 h hn ht
  by_cases h0 : left < 0
  · clear hlens
    go_wp2
    go_ret
    exact ⟨rfl, hW1⟩
  · have HN := hide (hlens (by omega))
    have HN9 : Hid (Lens 9223372036854775807 bs) := ⟨by have := (unhide HN).1; omega, fun b hb => by have := (unhide HN).2 b hb; omega⟩
    clear hlens
    go_wp2_with fail
    refine (toChip_n a c bs (unhide HL) _ ((unhide HA).below hW1 (Nat.le_refl _)) (unhide HN)).mono ?_
    rintro e w2 ⟨g1, rfl, hG1, hB2⟩
    have hs2 := hB2.size
    have hx2 := (hB2.cell (p := ⟨w.heap.size, 0, none⟩) (by show w.heap.size < _; omega)).trans hx1
    have hW2 := hW1.trans (hB2.mono hW1.size)
    have HG1 := hide hG1
    clear hB2 hW1 hx1 hG1
    go_wp2_with fail
    refine (specErased_any _ n bs _ (unhide HL) blk _ (unhide HG1) (unhide HN)).mono ?_
    rintro e w3 ⟨a0, n0, c0, out, code, rfl, hE0, hln0, hA0, hB3⟩
    have hs3 := hB3.size
    have hx3 := (hB3.cell (p := ⟨w.heap.size, 0, none⟩) (by show w.heap.size < _; omega)).trans hx2
    have hW3 := hW2.trans (hB3.mono hW2.size)
    have HE := hide hE0
    have HLN := hide hln0
    have HOL := hide (hE0.lens (unhide HN))
    have HA0 := hide hA0
    have hn0 : n0 ≤ 1048576 := by have := (unhide HOL).1; omega
    have hkk := kAfter_upto out 1 (unhide HOL).2
    have HKO : Hid (1 ≤ kAfter 1 out ∧ kAfter 1 out ≤ 1125899906842624) := ⟨hkk.1, by have := (unhide HOL).1; have h2 := hkk.2; have h3 : (out.length : Int) * 4194305 ≤ 1048576 * 4194305 := Int.mul_le_mul_of_nonneg_right (by omega) (by omega); omega⟩
    have hkb := kAfter_upto bs 1 (unhide HN).2
    have HKK : Hid (1 ≤ kAfter 1 bs ∧ kAfter 1 bs ≤ 1125899906842624) := ⟨hkb.1, by have := (unhide HN).1; have h2 := hkb.2; have h3 : (bs.length : Int) * 4194305 ≤ 1048576 * 4194305 := Int.mul_le_mul_of_nonneg_right (by omega) (by omega); omega⟩
    have hb3 : ∀ o, Below w3.heap.size w3 (w3.alloc o) := fun o => (Below.refl _ w3).alloc (Nat.le_refl _) _
    have hl03 : w.heap.size < w3.heap.size := by omega
    clear hB3 hW2 hx2 HG1 hE0 hA0 hln0 hkk hkb
    go_wp2_with fail
    refine (toChip_own a c bs (unhide HL) _ ((unhide HA).below (hW3.trans ((hb3 _).mono hW3.size)) (Nat.le_refl _)) (unhide HN)).mono ?_
    rintro e w4 ⟨g2, H2, rfl, hg2, hO2, hB4⟩
    simp only [World.size_alloc] at hg2
    have hs4 := hB4.size
    simp at hs4
    have hB34 : Below w3.heap.size w3 w4 := (hb3 _).trans (hB4.mono (by simp))
    have hx4 := (hB34.cell (p := ⟨w.heap.size, 0, none⟩) hl03).trans hx3
    have hp4 : w4.cell? ⟨w3.heap.size, 0, none⟩ = some (.slice a0 n0 c0) := by
      rw [hB4.cell (p := ⟨w3.heap.size, 0, none⟩) (by simp)]
      simp
    have hW4 := hW3.trans (hB34.mono hW3.size)
    have hglt : g2 < w4.heap.size := hO2.row.lt
    have HS : Hid (∀ j, (j = g2 ∨ ∃ i, i < n ∧ j = H2 i) → w3.heap.size + 1 ≤ j ∧ j < w4.heap.size) := fun j hj => by
      rcases hj with rfl | ⟨i, hi, rfl⟩
      · exact ⟨hg2, hglt⟩
      · have hi' : i < bs.length := by rw [unhide HL]; exact hi
        have := hO2.ahead i hi'
        exact ⟨by omega, hO2.lt hi'⟩
    have HO2 := hide hO2
    have HG2 := hide (hO2.blocksAt (by rw [unhide HL]; exact Nat.le_refl _))
    have hb5 : ∀ o, Below w4.heap.size w4 (w4.alloc o) := fun o => (Below.refl _ w4).alloc (Nat.le_refl _) _
    clear hB4 hW3 hx3 hO2 hb3
    go_wp2_with fail
    refine (implErased_own _ n bs _ (unhide HL) blk _ ((unhide HG2).below (hb5 _) (Nat.le_refl _)) (unhide HN9)).mono ?_
    rintro e w6 ⟨a1, n1, c1, out1, code1, rfl, hE1, hO1, hB6⟩
    obtain ⟨rfl, rfl⟩ : out1 = out ∧ code1 = code := hE1.one (unhide HE)
    obtain rfl : n1 = n0 := by have := hO1.1; have := unhide HLN; omega
    simp only [World.size_alloc] at hO1
    have hs6 := hB6.size
    simp at hs6
    have hB46 : Below w4.heap.size w4 w6 := (hb5 _).trans (hB6.mono (by simp))
    have hl34 : w3.heap.size < w4.heap.size := by omega
    have hx6 := (hB46.cell (p := ⟨w.heap.size, 0, none⟩) (by show w.heap.size < _; omega)).trans hx4
    have hp6 := (hB46.cell (p := ⟨w3.heap.size, 0, none⟩) hl34).trans hp4
    have hy6 : w6.cell? ⟨w4.heap.size, 0, none⟩ = some (.slice (some ⟨g2, 0, none⟩) n n) := by
      rw [hB6.cell (p := ⟨w4.heap.size, 0, none⟩) (by simp)]
      simp
    have hW6 := hW4.trans (hB46.mono hW4.size)
    have hB36 := hB34.trans (hB46.mono (by omega))
    have HC6 := hide hO1
    have HO6 := hide ((unhide HO2).below hB46 (Nat.le_refl _))
    have hl06 : w.heap.size < w6.heap.size := by omega
    have hl36 : w3.heap.size < w6.heap.size := by omega
    have hl46 : w4.heap.size < w6.heap.size := by omega
    have hb6 : ∀ o, Below w6.heap.size w6 (w6.alloc o) := fun o => (Below.refl _ w6).alloc (Nat.le_refl _) _
    have hne : (code1 != code1) = false := by simp
    clear hB6 hB46 hB34 hW4 hx4 hp4 HG2 hb5 HO2 hO1 hE1
    go_wp2_with fail
    refine (eqChip_n a1 a0 c1 c0 out1 (unhide HLN) _ ((unhide HC6).below (hb6 _)).blocksAt ((unhide HA0).below (hB36.trans ((hb6 _).mono (by omega))) (Nat.le_refl _)) (unhide HOL)).mono ?_
    rintro e w7 ⟨rfl, hB7⟩
    have hs7 := hB7.size
    simp at hs7
    have hz7 : w7.cell? ⟨w6.heap.size, 0, none⟩ = some (.slice a1 n1 c1) := by
      rw [hB7.cell (p := ⟨w6.heap.size, 0, none⟩) (by simp)]
      simp
    have hB67 : Below w6.heap.size w6 w7 := (hb6 _).trans (hB7.mono (by simp))
    have hx7 := (hB67.cell (p := ⟨w.heap.size, 0, none⟩) hl06).trans hx6
    have hp7 := (hB67.cell (p := ⟨w3.heap.size, 0, none⟩) hl36).trans hp6
    have hy7 := (hB67.cell (p := ⟨w4.heap.size, 0, none⟩) hl46).trans hy6
    have hW7 := hW6.trans (hB67.mono hW6.size)
    have HB37 := hide (hB36.trans (hB67.mono (by omega)))
    have HW7 := hide hW7
    have HC7 := hide ((unhide HC6).below hB67)
    have HO7 := hide ((unhide HO6).below hB67 (Nat.le_refl _))
    have hl07 : w.heap.size < w7.heap.size := by omega
    have hl37 : w3.heap.size < w7.heap.size := by omega
    have hl47 : w4.heap.size < w7.heap.size := by omega
    have hl67 : w6.heap.size < w7.heap.size := by omega
    have HG7 : Hid (BlocksAt w7.drew (some ⟨g2, 0, none⟩) bs) := ((unhide HO7).below (Below.refl w7.heap.size w7).drew (Nat.le_refl _)).blocksAt (by rw [unhide HL]; exact Nat.le_refl _)
    have HA7 : Hid (BlocksAt w7.drew a bs) := (unhide HA).below hW7.drew (Nat.le_refl _)
    clear hB7 hB67 hB36 hW6 hW7 hx6 hy6 hp6 HC6 HO6 hb6
    go_wp2
    go_region_with (first
      | (refine (toChip_n a c bs (unhide HL) _ (unhide HA7) (unhide HN)).mono ?_
         rintro e w8 ⟨g3, rfl, hG3, hB8⟩
         have hs8 := hB8.size
         have hy8 := (hB8.cell (p := ⟨w4.heap.size, 0, none⟩) hl47).trans hy7
         have hx8 := (hB8.cell (p := ⟨w.heap.size, 0, none⟩) hl07).trans hx7
         have HG8 := hide ((unhide HG7).below hB8 (Nat.le_refl _))
         have HH8 := hide hG3
         have HB8 := hide hB8
         clear hB8 hG3)
      | (refine (eqChip_n _ _ n n bs (unhide HL) _ (unhide HG8) (unhide HH8) (unhide HN)).mono ?_
         rintro e w9 ⟨rfl, hB9⟩
         have hs9 := hB9.size
         have hB79 : Below w7.heap.size w7 w9 := ((Below.refl w7.heap.size w7).drew.trans (unhide HB8)).trans (hB9.mono (unhide HB8).size)
         have HB79 := hide hB79
         clear hB9 hB79))
    all_goals (
      have hs79 := (unhide HB79).size
      have hx9 := ((unhide HB79).cell (p := ⟨w.heap.size, 0, none⟩) hl07).trans hx7
      have hp9 := ((unhide HB79).cell (p := ⟨w3.heap.size, 0, none⟩) hl37).trans hp7
      have hy9 := ((unhide HB79).cell (p := ⟨w4.heap.size, 0, none⟩) hl47).trans hy7
      have hz9 := ((unhide HB79).cell (p := ⟨w6.heap.size, 0, none⟩) hl67).trans hz7
      have hW9 := (unhide HW7).trans ((unhide HB79).mono (unhide HW7).size)
      have HC9 := hide ((unhide HC7).below (unhide HB79))
      have HO9 := hide ((unhide HO7).below (unhide HB79) (Nat.le_refl _))
      have HB39 := hide ((unhide HB37).trans ((unhide HB79).mono (by omega)))
      clear hx7 hp7 hy7 hz7 hx8 hy8 HC7 HO7 HB37 HB79 HB8 HG8 HH8 HG7 HA7 hs8 hs9 HW7
      go_wp2_with fail
      refine (markChip_n g2 H2 n bs (unhide HL) 1 _ (unhide HO9) (unhide HN) (by omega) (unhide HKK).2).mono ?_
      rintro e w10 ⟨rfl, _, hT⟩
      have hk1 := (unhide HKK).1
      obtain ⟨kk, hkk⟩ : ∃ kk, kk = kAfter 1 bs := ⟨_, rfl⟩
      rw [← hkk] at hk1 ⊢
      have hs10 := hT.size
      have hTb : Below (w3.heap.size + 1) w9 w10 := hT.below (by omega) (fun k hk => (unhide HS k hk).1)
      have hx10 := (hTb.cell (p := ⟨w.heap.size, 0, none⟩) (by show w.heap.size < _; omega)).trans hx9
      have hp10 := (hTb.cell (p := ⟨w3.heap.size, 0, none⟩) (by show w3.heap.size < _; omega)).trans hp9
      have hz10 : w10.cell? ⟨w6.heap.size, 0, none⟩ = some (.slice a1 n1 c1) := (World.cell?_of_block (w := w9) (a := ⟨w6.heap.size, 0, none⟩) (hT.block w6.heap.size (by omega) (fun hs => by have := (unhide HS w6.heap.size hs).2; omega))).trans hz9
      have hW10 := hW9.trans (hTb.mono (by omega))
      have HB310 := hide ((unhide HB39).trans (hTb.mono (by omega)))
      have HC10 := hide ((unhide HC9).touch hT (fun k hk => by have := (unhide HS k hk).2; omega))
      clear hT hTb hx9 hp9 hy9 hz9 hW9 HC9 HO9 HB39 HKK hkk
      go_wp2_with fail
      refine (eqChip_n a1 a0 c1 c0 out1 (unhide HLN) _ (unhide HC10).blocksAt ((unhide HA0).below (unhide HB310) (Nat.le_refl _)) (unhide HOL)).mono ?_
      rintro e w11 ⟨rfl, hB11⟩
      have hs11 := hB11.size
      have hx11 := (hB11.cell (p := ⟨w.heap.size, 0, none⟩) (by show w.heap.size < _; omega)).trans hx10
      have hp11 := (hB11.cell (p := ⟨w3.heap.size, 0, none⟩) (by show w3.heap.size < _; omega)).trans hp10
      have hz11 := (hB11.cell (p := ⟨w6.heap.size, 0, none⟩) (by show w6.heap.size < _; omega)).trans hz10
      have hW11 := hW10.trans (hB11.mono hW10.size)
      have HC11 := hide ((unhide HC10).below hB11)
      have HB311 := hide ((unhide HB310).trans (hB11.mono (by omega)))
      clear hB11 hW10 hx10 hp10 hz10 HC10 HB310
      go_wp2_with fail
      refine (markChip_own a1 n1 c1 out1 _ (unhide HC11) (unhide HOL) (unhide HKO).2).mono ?_
      rintro e w12 ⟨rfl, hMk, hT⟩
      have hs12 := hT.size
      have hTb : Below (w4.heap.size + 1) w11 w12 := hT.below (by omega) (fun k hk => hk.1)
      have hx12 := (hTb.cell (p := ⟨w.heap.size, 0, none⟩) (by show w.heap.size < _; omega)).trans hx11
      have hp12 := (hTb.cell (p := ⟨w3.heap.size, 0, none⟩) (by show w3.heap.size < _; omega)).trans hp11
      have hz12 : w12.cell? ⟨w6.heap.size, 0, none⟩ = some (.slice a1 n1 c1) := (World.cell?_of_block (w := w11) (a := ⟨w6.heap.size, 0, none⟩) (hT.block w6.heap.size (by omega) (fun hs => Nat.lt_irrefl _ hs.2))).trans hz11
      have hW12 := hW11.trans (hTb.mono (by omega))
      have HMK := hide hMk
      have HB312 := hide ((unhide HB311).trans (hTb.mono (by omega)))
      have HH := hide (fun W hW => heldChip_own a1 n1 c1 out1 (unhide HLN) W hW (unhide HOL) (unhide HKO).2)
      have hq1 := (unhide HKO).1
      obtain ⟨q, hq⟩ : ∃ q, q = kAfter 1 out1 := ⟨_, rfl⟩
      rw [← hq] at HH hq1 ⊢
      have hneq : (q != q) = false := by simp
      clear hMk hT hTb hW11 hx11 hp11 hz11 HC11 HB311 hq HKO
      go_wp2_with fail
      refine (unhide HH _ (unhide HMK)).mono ?_
      rintro e w13 ⟨rfl, hB13⟩
      have hs13 := hB13.size
      have hx13 := (hB13.cell (p := ⟨w.heap.size, 0, none⟩) (by show w.heap.size < _; omega)).trans hx12
      have hp13 := (hB13.cell (p := ⟨w3.heap.size, 0, none⟩) (by show w3.heap.size < _; omega)).trans hp12
      have hz13 := (hB13.cell (p := ⟨w6.heap.size, 0, none⟩) (by show w6.heap.size < _; omega)).trans hz12
      have hW13 := hW12.trans (hB13.mono hW12.size)
      have HMK13 := hide ((unhide HMK).below hB13 (Nat.le_refl _))
      have HB313 := hide ((unhide HB312).trans (hB13.mono (by omega)))
      clear hB13 hW12 hx12 hp12 hz12 HMK HB312
      go_wp2_with fail
      refine (toChip_n a c bs (unhide HL) _ ((unhide HA).below hW13 (Nat.le_refl _)) (unhide HN)).mono ?_
      rintro e w14 ⟨g4, rfl, hG4, hB14⟩
      have hs14 := hB14.size
      have hp14 := (hB14.cell (p := ⟨w3.heap.size, 0, none⟩) (by show w3.heap.size < _; omega)).trans hp13
      have hz14 := (hB14.cell (p := ⟨w6.heap.size, 0, none⟩) (by show w6.heap.size < _; omega)).trans hz13
      have hW14 := hW13.trans (hB14.mono hW13.size)
      have HG4 := hide hG4
      have HMK14 := hide ((unhide HMK13).below hB14 (Nat.le_refl _))
      have HB314 := hide ((unhide HB313).trans (hB14.mono (by omega)))
      clear hG4 hB14 hW13 hx13 hp13 hz13 HMK13 HB313
      go_wp2_with fail
      refine (implErased_own _ n bs _ (unhide HL) blk _ (unhide HG4) (unhide HN9)).mono ?_
      rintro e w15 ⟨a2, n2, c2, out2, code2, rfl, hE2, hO15, hB15⟩
      obtain ⟨rfl, rfl⟩ : out2 = out1 ∧ code2 = code1 := hE2.one (unhide HE)
      obtain rfl : n2 = n1 := by have := hO15.1; have := unhide HLN; omega
      have hs15 := hB15.size
      have hp15 := (hB15.cell (p := ⟨w3.heap.size, 0, none⟩) (by show w3.heap.size < _; omega)).trans hp14
      have hz15 := (hB15.cell (p := ⟨w6.heap.size, 0, none⟩) (by show w6.heap.size < _; omega)).trans hz14
      have hW15 := hW14.trans (hB15.mono hW14.size)
      have HI2 := hide hO15.blocksAt
      have HMK15 := hide ((unhide HMK14).below hB15 (Nat.le_refl _))
      have HB315 := hide ((unhide HB314).trans (hB15.mono (by omega)))
      have hb15 : ∀ o, Below w15.heap.size w15 (w15.alloc o) := fun o => (Below.refl _ w15).alloc (Nat.le_refl _) _
      have hl315 : w3.heap.size < w15.heap.size := by omega
      have hl615 : w6.heap.size < w15.heap.size := by omega
      clear hO15 hE2 hB15 hW14 HMK14 HB314 HG4 hp14 hz14
      go_wp2_with fail
      refine (eqChip_n a2 a0 c2 c0 out2 (unhide HLN) _ ((unhide HI2).below (hb15 _) (Nat.le_refl _)) ((unhide HA0).below ((unhide HB315).trans ((hb15 _).mono (by omega))) (Nat.le_refl _)) (unhide HOL)).mono ?_
      rintro e w16 ⟨rfl, hB16⟩
      have hs16 := hB16.size
      simp at hs16
      have hB156 : Below w15.heap.size w15 w16 := (hb15 _).trans (hB16.mono (by simp))
      have hz16 := (hB156.cell (p := ⟨w6.heap.size, 0, none⟩) hl615).trans hz15
      have hW16 := hW15.trans (hB156.mono hW15.size)
      have HMK16 := hide ((unhide HMK15).below hB156 (Nat.le_refl _))
      clear hB16 hB156 hW15 HMK15 HB315 HI2 hb15 hp15 hz15
      go_wp2_with fail
      refine (unhide HH _ (unhide HMK16)).mono ?_
      rintro e w17 ⟨rfl, hB17⟩
      have hW17 := hW16.trans (hB17.mono hW16.size)
      clear HMK16 HH hB17 hW16
      go_wp2
      go_ret
      exact ⟨rfl, hW17⟩)

set_option maxRecDepth 100000 in
theorem lifted (os : Os) (started : os.Started) (H : Type) (enc : TypeId × Value → H) :
    ReturnsInHanded {} Try.checked os 7 .any (Rows.fnExactErasedSpec.pre6 enc Try.prog Try.f7 Rows.fnExactErasedRow.domain false) (Rows.fnExactErasedSpec.post enc Try.prog Try.f7 false true false false) := by
  refine returnsInHanded_of_change (C := Try.checked) own started (by kernel_rfl) Try.func7
    (ChangeSpec.witness6 (enc := enc) (C := Try.checked) false ⟨#[], #[.agg #[.slice none 0 0], .int .i64 0], []⟩ 8 (by kernel_rfl) (by kernel_rfl) (by kernel_rfl) (by kernel_rfl)) ?_
  intro W base args ds gs before hval0 hW hcnd _
  have hval : ∀ (j : Nat) t v, Try.f7.params[j]? = some t → args[j]? = some v → Value.okWide Try.prog W .any base t v := hval0
  have hW' := hW
  obtain ⟨p, q, hA0, hV, rfl, hfz, hnd⟩ := hW
  have hA : DataW.TrodAll enc Try.prog W 0 (fun _ => true) true Try.f7.params.toList args.toList ds p := hA0
  rw [Try.params7] at hA hval
  obtain ⟨v0, vs0, d0, ds0, p0, q0, hargs, rfl, rfl, h0, r0⟩ := trodAll_cons hA
  obtain ⟨v1, vs1, d1, ds1, p1, q1, rfl, rfl, rfl, h1, r1⟩ := trodAll_cons r0
  obtain ⟨rfl, rfl, rfl⟩ := trodAll_nil r1
  obtain rfl : args = #[v0, v1] := by cases args; simp_all
  obtain ⟨rfl, rfl⟩ := trodVars_none hV
  have k0 := h0
  have lt0 : ∀ x ∈ p0, x.block < W.heap.size := by obtain ⟨m, hm⟩ := k0; exact DataW.trod_lt m _ _ _ hm
  obtain ⟨a, c, bs, rfl, hbs, hl, ht⟩ := open_chip (hval 0 24 v0 rfl rfl) h0
  obtain ⟨a1, rfl, rfl, rfl, w1⟩ := open_int Try.underlying2 (hval 1 2 v1 rfl rfl) h1
  clear hA0 hval0
  refine (walk a c bs _ rfl a1 W hbs hl ht).mono fun e W' ⟨he, bel⟩ => ?_
  subst he
  exact ⟨_, rfl, _, _, _, [], _, [], hW', trodAll_mk1 (shut_bool Try.underlying4 _), (trodAll_cons_mk (Below.trod laidOut (by kernel_rfl) (of_decide_eq_true (by kernel_rfl)) k0 bel lt0) (trodAll_cons_mk (shut_int Try.underlying2 w1) trodAll_mk0)), rfl, bel.frame _, fun h => by cases h⟩

theorem over : Rows.fnExactErasedRow.holds Try.pinned (OpenSpec.ofChange Rows.fnExactErasedSpec) :=
  OpenClaim.holds_of_wide 7 Try.f7 rfl rfl rfl rfl rfl rfl rfl ⟨rfl, rfl, rfl, rfl, rfl⟩ rfl rfl rfl rfl rfl (by kernel_rfl) Try.func7 (by kernel_rfl)
    (of_decide_eq_true (by kernel_rfl)) (by unfold Func.isWrapper; first | (rw [if_pos (by decide +kernel)]; kernel_rfl) | (rw [if_neg (by decide +kernel)]; exact ⟨rfl, rfl⟩))
    (fun os started H enc _ => lifted os started H enc)

end Go.Proofs.Ytageolbmplhgaaa.fnExactErased
namespace Go.Proofs.Ytageolbmplhgaaa
theorem erased_holds : Rows.FnExactErasedSaid := fnExactErased.over
end Go.Proofs.Ytageolbmplhgaaa
