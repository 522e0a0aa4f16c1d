/- Whatever the chip, the law FnExactFreeOf answers true: the program's FreeOf is the model's, it leaves the chip as it was, and its answer owns its memory. No condition. -/
import Derived.Test.YtageolbmplhgaaaIntsH
import Derived.Test.YtageolbmplhgaaaRows
import Derived.Test.YtageolbmplhgaaaFreeS
import Derived.Test.YtageolbmplhgaaaFreeSO
import Derived.Test.YtageolbmplhgaaaFreeI
import Derived.Test.YtageolbmplhgaaaFreeL
import Derived.WalkKit
import Derived.ProofKit
import Derived.OpenShut
import Derived.ChangeOld
import Derived.Below
namespace Go.Proofs.Ytageolbmplhgaaa.fnExactFreeOf
open Go.ChangeShapes Go.WideShapes Go.ChangeAt Go.RowKit
set_option linter.unusedVariables false
set_option linter.unusedSimpArgs false

set_option maxRecDepth 100000 in
set_option maxHeartbeats 4000000 in
theorem walk (a : Option Addr) (c : Nat) (bs : List Bk) (n : Nat) (hl : bs.length = n) (w : World) (h : BlocksAt w a bs) (hn : Lens 9223372036854775807 bs) (ht : Texts bs) :
    Calls Try.prog 8 #[.agg #[.slice a n c]] w fun e w' => e = .returned (.bool true) ∧ Below w.heap.size w w' := by
  have hb0 : ∀ o, Below w.heap.size w (w.alloc o) := fun o => (Below.refl _ w).alloc (Nat.le_refl _) _
  have HL := hide hl
  clear hl
  go_enter Try.func8, Try.ntmps8
  go_wp2_with fail
  refine (szChip_n a c bs (unhide HL) _ (h.below (hb0 _) (Nat.le_refl _)) hn ht).mono ?_
  rintro e w1 ⟨left, rfl, _, hlens, hB1⟩
  have hs1 := hB1.size
  simp at hs1
  have hx1 : w1.cell? ⟨w.heap.size, 0, none⟩ = some (.slice a n c) := by
    rw [hB1.cell (p := ⟨w.heap.size, 0, none⟩) (by simp)]
    simp
  have hW1 : Below w.heap.size w w1 := (hb0 _).trans (hB1.mono (by simp))
  have HA := hide h
  clear hb0 hB1 h hn ht
  by_cases h0 : left < 0
  · clear hlens
    go_wp2
    go_ret
    exact ⟨rfl, hW1⟩
  · have HN := hide (hlens (by omega))
    have HN9 : Hid (Lens 9223372036854775807 bs) := ⟨by have := (unhide HN).1; omega, fun b hb => by have := (unhide HN).2 b hb; omega⟩
    clear hlens
    go_wp2_with fail
    refine (toChip_n a c bs (unhide HL) _ ((unhide HA).below hW1 (Nat.le_refl _)) (unhide HN)).mono ?_
    rintro e w2 ⟨g1, rfl, hG1, hB2⟩
    have hs2 := hB2.size
    have hx2 := (hB2.cell (p := ⟨w.heap.size, 0, none⟩) (by show w.heap.size < _; omega)).trans hx1
    have hW2 := hW1.trans (hB2.mono hW1.size)
    have HG1 := hide hG1
    clear hB2 hW1 hx1 hG1
    go_wp2_with fail
    refine (specFreeOf_any _ n bs _ (unhide HL) _ (unhide HG1) (unhide HN)).mono ?_
    rintro e w3 ⟨v0, L, rfl, hfr, hO0, hB3⟩
    obtain ⟨a0, c0, rfl, hI0, _⟩ := hO0.form
    have hs3 := hB3.size
    have hx3 := (hB3.cell (p := ⟨w.heap.size, 0, none⟩) (by show w.heap.size < _; omega)).trans hx2
    have hW3 := hW2.trans (hB3.mono hW2.size)
    have HF := hide hfr
    have HI0 := hide hI0
    have hL12 := hfr.length
    obtain ⟨len, hlen⟩ : ∃ len, L.length = len := ⟨_, rfl⟩
    have HLEN := hide hlen
    rw [hlen] at hL12 ⊢
    clear hB3 hW2 hx2 HG1 hO0 hfr hI0 hlen
    go_wp2_with fail
    refine (toChip_own a c bs (unhide HL) _ ((unhide HA).below hW3 (Nat.le_refl _)) (unhide HN)).mono ?_
    rintro e w4 ⟨g2, H2, rfl, hg2, hO2, hB4⟩
    have hs4 := hB4.size
    have hx4 := (hB4.cell (p := ⟨w.heap.size, 0, none⟩) (by show w.heap.size < _; omega)).trans hx3
    have hW4 := hW3.trans (hB4.mono hW3.size)
    have HI04 := hide ((unhide HI0).below hB4 (Nat.le_refl _))
    have hB34 := hB4
    have hglt : g2 < w4.heap.size := hO2.row.lt
    have HS : Hid (∀ j, (j = g2 ∨ ∃ i, i < n ∧ j = H2 i) → w3.heap.size ≤ j ∧ j < w4.heap.size) := fun j hj => by
      rcases hj with rfl | ⟨i, hi, rfl⟩
      · exact ⟨hg2, hglt⟩
      · have hi' : i < bs.length := by rw [unhide HL]; exact hi
        have := hO2.ahead i hi'
        exact ⟨by omega, hO2.lt hi'⟩
    have HO2 := hide hO2
    have HG2 := hide (hO2.blocksAt (by rw [unhide HL]; exact Nat.le_refl _))
    clear hB4 hW3 hx3 hO2
    go_wp2_with fail
    have hb5 : ∀ o, Below w4.heap.size w4 (w4.alloc o) := fun o => (Below.refl _ w4).alloc (Nat.le_refl _) _
    refine (implFreeOf_any _ n bs _ (unhide HL) _ ((unhide HG2).below (hb5 _) (Nat.le_refl _)) (unhide HN9)).mono ?_
    rintro e w6 ⟨v1, L1, rfl, hfr1, hO1, hB6⟩
    obtain rfl : L1 = L := hfr1.one (unhide HF)
    obtain ⟨a1, c1, rfl, hI1, hM1⟩ := hO1.form
    rw [unhide HLEN] at hM1 ⊢
    simp only [World.size_alloc] at hM1
    have hs6 := hB6.size
    simp at hs6
    have hx6 : w6.cell? ⟨w.heap.size, 0, none⟩ = some (.slice a n c) := by
      rw [hB6.cell (p := ⟨w.heap.size, 0, none⟩) (by simp; omega), cell_alloc_lt _ _ _ _ (by omega)]
      exact hx4
    have hy6 : w6.cell? ⟨w4.heap.size, 0, none⟩ = some (.slice (some ⟨g2, 0, none⟩) n n) := by
      rw [hB6.cell (p := ⟨w4.heap.size, 0, none⟩) (by simp)]
      simp
    have hB46 : Below w4.heap.size w4 w6 := (hb5 _).trans (hB6.mono (by simp))
    have hW6 := hW4.trans (hB46.mono hW4.size)
    have hB36 := hB34.trans (hB46.mono (by omega))
    have HI06 := hide ((unhide HI04).below hB46 (Nat.le_refl _))
    have HI16 := hide hI1
    have HM6 := hide hM1
    have HO6 := hide ((unhide HO2).below hB46 (Nat.le_refl _))
    have hl06 : w.heap.size < w6.heap.size := by omega
    have hl46 : w4.heap.size < w6.heap.size := by omega
    clear hB6 hB46 hB34 hW4 hx4 HG2 hb5 HI04 HO2 hI1 hM1 hO1 hfr1
    go_wp2_with fail
    refine (eqInt64S_same a1 a0 c1 c0 L1 len (unhide HLEN) _ (unhide HI16) (unhide HI06) (by omega)).mono ?_
    rintro e w7 ⟨rfl, hB7⟩
    have hs7 := hB7.size
    have hx7 := (hB7.cell (p := ⟨w.heap.size, 0, none⟩) hl06).trans hx6
    have hy7 := (hB7.cell (p := ⟨w4.heap.size, 0, none⟩) hl46).trans hy6
    have hW7 := hW6.trans (hB7.mono hW6.size)
    have HB37 := hide (hB36.trans (hB7.mono (by omega)))
    have hl03 : w.heap.size < w3.heap.size := by omega
    have hl37 : w3.heap.size ≤ w7.heap.size := by omega
    have HW7 := hide hW7
    have HI17 := hide ((unhide HI16).below hB7 (Nat.le_refl _))
    have HM7 := hide ((unhide HM6).below hB7)
    have HO7 := hide ((unhide HO6).below hB7 (Nat.le_refl _))
    have hl07 : w.heap.size < w7.heap.size := by omega
    have hl47 : w4.heap.size < w7.heap.size := by omega
    have HG7 : Hid (BlocksAt w7.drew (some ⟨g2, 0, none⟩) bs) := ((unhide HO7).below (Below.refl w7.heap.size w7).drew (Nat.le_refl _)).blocksAt (by rw [unhide HL]; exact Nat.le_refl _)
    have HA7 : Hid (BlocksAt w7.drew a bs) := (unhide HA).below hW7.drew (Nat.le_refl _)
    have hkk := kAfter_upto bs 1 (unhide HN).2
    have HKK : Hid (1 ≤ kAfter 1 bs ∧ kAfter 1 bs ≤ 1125899906842624) := ⟨hkk.1, by have := (unhide HN).1; have h2 := hkk.2; have h3 : (bs.length : Int) * 4194305 ≤ 1048576 * 4194305 := Int.mul_le_mul_of_nonneg_right (by omega) (by omega); omega⟩
    clear hB7 hB36 hW6 hW7 hx6 hy6 HI06 HI16 HM6 HO6 hkk
    go_wp2
    go_region_with (first
      | (refine (toChip_n a c bs (unhide HL) _ (unhide HA7) (unhide HN)).mono ?_
         rintro e w8 ⟨g3, rfl, hG3, hB8⟩
         have hs8 := hB8.size
         have hy8 := (hB8.cell (p := ⟨w4.heap.size, 0, none⟩) hl47).trans hy7
         have hx8 := (hB8.cell (p := ⟨w.heap.size, 0, none⟩) hl07).trans hx7
         have HG8 := hide ((unhide HG7).below hB8 (Nat.le_refl _))
         have HH8 := hide hG3
         have HB8 := hide hB8
         clear hB8 hG3)
      | (refine (eqChip_n _ _ n n bs (unhide HL) _ (unhide HG8) (unhide HH8) (unhide HN)).mono ?_
         rintro e w9 ⟨rfl, hB9⟩
         have hs9 := hB9.size
         have hB79 : Below w7.heap.size w7 w9 := ((Below.refl w7.heap.size w7).drew.trans (unhide HB8)).trans (hB9.mono (unhide HB8).size)
         have HB79 := hide hB79
         clear hB9 hB79))
    all_goals (
      have hs79 := (unhide HB79).size
      have hx9 := ((unhide HB79).cell (p := ⟨w.heap.size, 0, none⟩) hl07).trans hx7
      have hy9 := ((unhide HB79).cell (p := ⟨w4.heap.size, 0, none⟩) hl47).trans hy7
      have hW9 := (unhide HW7).trans ((unhide HB79).mono (unhide HW7).size)
      have HI19 := hide ((unhide HI17).below (unhide HB79) (Nat.le_refl _))
      have HM9 := hide ((unhide HM7).below (unhide HB79))
      have HO9 := hide ((unhide HO7).below (unhide HB79) (Nat.le_refl _))
      have HB39 := hide ((unhide HB37).trans ((unhide HB79).mono hl37))
      clear hx7 hy7 hx8 hy8 HI17 HM7 HO7 HB37 HB79 HB8 HG8 HH8 HG7 HA7 hs8 hs9 HW7
      go_wp2_with fail
      refine (markChip_n g2 H2 n bs (unhide HL) 1 _ (unhide HO9) (unhide HN) (by omega) (unhide HKK).2).mono ?_
      rintro e w10 ⟨rfl, _, hT⟩
      have hk1 := (unhide HKK).1
      generalize kAfter 1 bs = kk at *
      have hs10 := hT.size
      have hTb : Below w3.heap.size w9 w10 := hT.below (by omega) (fun k hk => (unhide HS k hk).1)
      have hx10 := (hTb.cell (p := ⟨w.heap.size, 0, none⟩) hl03).trans hx9
      have hW10 := hW9.trans (hTb.mono (by omega))
      have HI010 := hide ((unhide HI0).below ((unhide HB39).trans hTb) (Nat.le_refl _))
      have HI110 := hide (intsAt_touch (B := w4.heap.size + 1) (unhide HI19) (by rw [unhide HLEN]; exact unhide HM9) hT (fun k hk => by have := (unhide HS k hk).2; omega))
      have HM10 := hide ((unhide HM9).touch hT (fun k hk => by have := (unhide HS k hk).2; omega))
      have HB310 := hide ((unhide HB39).trans hTb)
      clear hT hTb hx9 hy9 hW9 HI19 HM9 HO9 HB39 HKK
      go_wp2_with fail
      refine (eqInt64S_same a1 a0 c1 c0 L1 len (unhide HLEN) _ (unhide HI110) (unhide HI010) (by omega)).mono ?_
      rintro e w11 ⟨rfl, hB11⟩
      have hs11 := hB11.size
      have hx11 := (hB11.cell (p := ⟨w.heap.size, 0, none⟩) (by show w.heap.size < _; omega)).trans hx10
      have hW11 := hW10.trans (hB11.mono hW10.size)
      have HM11 := hide ((unhide HM10).below hB11)
      have HI011 := hide ((unhide HI010).below hB11 (Nat.le_refl _))
      have HB311 := hide ((unhide HB310).trans (hB11.mono (by omega)))
      clear hB11 hW10 hx10 HM10 HI110 HI010 HB310
      go_wp2_with fail
      refine (markInts_any a1 c1 len (w4.heap.size + 1) _ (unhide HM11) (by omega) (by omega)).mono ?_
      rintro e w12 ⟨rfl, hMk, hB12⟩
      have hs12 := hB12.size
      have hx12 := (hB12.cell (p := ⟨w.heap.size, 0, none⟩) (by show w.heap.size < _; omega)).trans hx11
      have hW12 := hW11.trans (hB12.mono (by omega))
      have HMK := hide hMk
      have HI012 := hide ((unhide HI0).below ((unhide HB311).trans (hB12.mono (by omega))) (Nat.le_refl _))
      have hheld := fun W hW => heldInt64S_any a1 c1 len 1 W hW (by omega) (by omega) (by omega)
      obtain ⟨q, hq⟩ : ∃ q : Int, q = 1 + (len : Int) := ⟨_, rfl⟩
      rw [← hq] at hheld ⊢
      have hq1 : 1 ≤ q := by omega
      have HH := hide hheld
      have hne : (q != q) = false := by simp
      clear hMk hB12 hW11 hx11 HM11 HI011 HB311 hheld hq
      go_wp2_with fail
      refine (unhide HH _ (unhide HMK)).mono ?_
      rintro e w13 ⟨rfl, rfl⟩
      go_wp2_with fail
      refine (toChip_n a c bs (unhide HL) _ ((unhide HA).below hW12 (Nat.le_refl _)) (unhide HN)).mono ?_
      rintro e w14 ⟨g4, rfl, hG4, hB14⟩
      have hs14 := hB14.size
      have hW14 := hW12.trans (hB14.mono hW12.size)
      have HG4 := hide hG4
      have HMK14 := hide ((unhide HMK).below hB14 (Nat.le_refl _))
      have HI014 := hide ((unhide HI012).below hB14 (Nat.le_refl _))
      clear hG4 hB14 hW12 hx12 HMK HI012
      go_wp2_with fail
      refine (implFreeOf_any _ n bs _ (unhide HL) _ (unhide HG4) (unhide HN9)).mono ?_
      rintro e w15 ⟨v2, L2, rfl, hfr2, hO15, hB15⟩
      obtain rfl : L2 = L1 := hfr2.one (unhide HF)
      obtain ⟨a2, c2, rfl, hI2, _⟩ := hO15.form
      rw [unhide HLEN]
      have hs15 := hB15.size
      have hW15 := hW14.trans (hB15.mono hW14.size)
      have HI2 := hide hI2
      have HMK15 := hide ((unhide HMK14).below hB15 (Nat.le_refl _))
      have HI015 := hide ((unhide HI014).below hB15 (Nat.le_refl _))
      clear hO15 hfr2 hI2 hB15 hW14 HMK14 HI014 HG4
      go_wp2_with fail
      refine (eqInt64S_same a2 a0 c2 c0 L2 len (unhide HLEN) _ (unhide HI2) (unhide HI015) (by omega)).mono ?_
      rintro e w16 ⟨rfl, hB16⟩
      have hW16 := hW15.trans (hB16.mono hW15.size)
      have HMK16 := hide ((unhide HMK15).below hB16 (Nat.le_refl _))
      clear hB16 hW15 HMK15 HI015 HI2
      go_wp2_with fail
      refine (unhide HH _ (unhide HMK16)).mono ?_
      rintro e w17 ⟨rfl, rfl⟩
      clear HMK16 HH
      go_wp2
      go_ret
      exact ⟨rfl, hW16⟩)
set_option maxRecDepth 100000 in
theorem lifted (os : Os) (started : os.Started) (H : Type) (enc : TypeId × Value → H) :
    ReturnsInHanded {} Try.checked os 8 .any (Rows.fnExactFreeOfSpec.pre6 enc Try.prog Try.f8 Rows.fnExactFreeOfRow.domain false) (Rows.fnExactFreeOfSpec.post enc Try.prog Try.f8 false true false false) := by
  refine returnsInHanded_of_change (C := Try.checked) own started (by kernel_rfl) Try.func8
    (ChangeSpec.witness6 (enc := enc) (C := Try.checked) false ⟨#[], #[.agg #[.slice none 0 0]], []⟩ 8 (by kernel_rfl) (by kernel_rfl) (by kernel_rfl) (by kernel_rfl)) ?_
  intro W base args ds gs before hval0 hW hcnd _
  have hval : ∀ (j : Nat) t v, Try.f8.params[j]? = some t → args[j]? = some v → Value.okWide Try.prog W .any base t v := hval0
  have hW' := hW
  obtain ⟨p, q, hA0, hV, rfl, hfz, hnd⟩ := hW
  have hA : DataW.TrodAll enc Try.prog W 0 (fun _ => true) true Try.f8.params.toList args.toList ds p := hA0
  rw [Try.params8] at hA hval
  obtain ⟨v0, vs0, d0, ds0, p0, q0, hargs, rfl, rfl, h0, r0⟩ := trodAll_cons hA
  obtain ⟨rfl, rfl, rfl⟩ := trodAll_nil r0
  obtain rfl : args = #[v0] := by cases args; simp_all
  obtain ⟨rfl, rfl⟩ := trodVars_none hV
  have k0 := h0
  have lt0 : ∀ x ∈ p0, x.block < W.heap.size := by obtain ⟨m, hm⟩ := k0; exact DataW.trod_lt m _ _ _ hm
  obtain ⟨a, c, bs, rfl, hbs, hl, ht⟩ := open_chip (hval 0 24 v0 rfl rfl) h0
  clear hA0 hval0
  refine (walk a c bs _ rfl W hbs hl ht).mono fun e W' ⟨he, bel⟩ => ?_
  subst he
  exact ⟨_, rfl, _, _, _, [], _, [], hW', trodAll_mk1 (shut_bool Try.underlying4 _), (trodAll_cons_mk (Below.trod laidOut (by kernel_rfl) (of_decide_eq_true (by kernel_rfl)) k0 bel lt0) trodAll_mk0), rfl, bel.frame _, fun h => by cases h⟩

theorem over : Rows.fnExactFreeOfRow.holds Try.pinned (OpenSpec.ofChange Rows.fnExactFreeOfSpec) :=
  OpenClaim.holds_of_wide 8 Try.f8 rfl rfl rfl rfl rfl rfl rfl ⟨rfl, rfl, rfl, rfl, rfl⟩ rfl rfl rfl rfl rfl (by kernel_rfl) Try.func8 (by kernel_rfl)
    (of_decide_eq_true (by kernel_rfl)) (by unfold Func.isWrapper; first | (rw [if_pos (by decide +kernel)]; kernel_rfl) | (rw [if_neg (by decide +kernel)]; exact ⟨rfl, rfl⟩))
    (fun os started H enc _ => lifted os started H enc)

end Go.Proofs.Ytageolbmplhgaaa.fnExactFreeOf
namespace Go.Proofs.Ytageolbmplhgaaa
theorem freeOf_holds : Rows.FnExactFreeOfSaid := fnExactFreeOf.over
end Go.Proofs.Ytageolbmplhgaaa
