/- Whatever the member and the block, the law FnExactValidOf answers true: the program's ValidOf is the model's, and leaves the member as it was. No condition. -/
import Derived.Test.YtageolbmplhgaaaRows
import Derived.Test.YtageolbmplhgaaaValS
import Derived.Test.YtageolbmplhgaaaValI
import Derived.Test.YtageolbmplhgaaaLawC
import Derived.Test.YtageolbmplhgaaaFtlT
import Derived.WalkKit
import Derived.ProofKit
import Derived.OpenShut
import Derived.ChangeOld
import Derived.Below
namespace Go.Proofs.Ytageolbmplhgaaa.fnExactValidOf
open Go.ChangeShapes Go.WideShapes Go.ChangeAt Go.RowKit
set_option linter.unusedVariables false
set_option linter.unusedSimpArgs false

set_option maxRecDepth 100000 in
set_option maxHeartbeats 4000000 in
theorem walk (a : Option Addr) (c : Nat) (bs : List Bk) (n : Nat) (hl : bs.length = n) (ma : Option Addr) (mc : Nat) (L : List Int) (mn : Nat) (hL : L.length = mn) (seq o : Int) (blk : Int) (w : World) (h : BlocksAt w a bs) (hn : Lens 9223372036854775807 bs) (ht : Texts bs) (hI : IntsAt w ma L) (hmn : mn ≤ 9223372036854775807) :
    Calls Try.prog 11 #[.agg #[.slice a n c, .slice ma mn mc, .int .i64 seq, .int .i64 o], .int .i64 blk] w fun e w' => e = .returned (.bool true) ∧ Below w.heap.size w w' := by
  have hb0 : ∀ o, Below w.heap.size w (w.alloc o) := fun o => (Below.refl _ w).alloc (Nat.le_refl _) _
  have HL := hide hl
  have HLL := hide hL
  clear hl hL
  go_enter Try.func11, Try.ntmps11
  go_wp2_with fail
  refine (szFtl_any a c bs n (unhide HL) ma mc mn seq o _ (h.below (hb0 _) (Nat.le_refl _)) hn ht hmn).mono ?_
  rintro e w1 ⟨left, rfl, _, hlens, hB1⟩
  have hs1 := hB1.size
  simp at hs1
  have hx10 : w1.cell? ⟨w.heap.size, 0, none⟩ = some (.slice a n c) := by
    rw [hB1.cell (p := ⟨w.heap.size, 0, none⟩) (by simp)]
    simp
  have hx11 : w1.cell? ⟨w.heap.size, 1, none⟩ = some (.slice ma mn mc) := by
    rw [hB1.cell (p := ⟨w.heap.size, 1, none⟩) (by simp)]
    simp
  have hx12 : w1.cell? ⟨w.heap.size, 2, none⟩ = some (.int .i64 seq) := by
    rw [hB1.cell (p := ⟨w.heap.size, 2, none⟩) (by simp)]
    simp
  have hx13 : w1.cell? ⟨w.heap.size, 3, none⟩ = some (.int .i64 o) := by
    rw [hB1.cell (p := ⟨w.heap.size, 3, none⟩) (by simp)]
    simp
  have hW1 : Below w.heap.size w w1 := (hb0 _).trans (hB1.mono (by simp))
  have HA := hide h
  have HI := hide hI
  clear hb0 hB1 h hn ht hI
  by_cases h0 : left < 0
  · clear hlens
    go_wp2
    go_ret
    exact ⟨rfl, hW1⟩
  · obtain ⟨hn1, hm1⟩ := hlens (by omega)
    have HN := hide hn1
    have HN9 : Hid (Lens 9223372036854775807 bs) := ⟨by have := (unhide HN).1; omega, fun b hb => by have := (unhide HN).2 b hb; omega⟩
    clear hlens hn1
    go_wp2_with fail
    refine (toFtl_any a c bs n (unhide HL) ma mc L mn (unhide HLL) seq o _ ((unhide HA).below hW1 (Nat.le_refl _)) (unhide HN) ((unhide HI).below hW1 (Nat.le_refl _)) hm1).mono ?_
    rintro e w2 ⟨g1, H1, m1, rfl, _, _, _, hO1, hR1, hB2⟩
    have hs2 := hB2.size
    have hx20 := (hB2.cell (p := ⟨w.heap.size, 0, none⟩) (by show w.heap.size < _; omega)).trans hx10
    have hx21 := (hB2.cell (p := ⟨w.heap.size, 1, none⟩) (by show w.heap.size < _; omega)).trans hx11
    have hx22 := (hB2.cell (p := ⟨w.heap.size, 2, none⟩) (by show w.heap.size < _; omega)).trans hx12
    have hx23 := (hB2.cell (p := ⟨w.heap.size, 3, none⟩) (by show w.heap.size < _; omega)).trans hx13
    have hW2 := hW1.trans (hB2.mono hW1.size)
    have HG1 := hide (hO1.blocksAt (by rw [unhide HL]; exact Nat.le_refl _))
    have HR1 := hide (RowInts.intsAt hR1 (by rw [unhide HLL]; exact Nat.le_refl _))
    clear hB2 hW1 hO1 hR1 hx10 hx11 hx12 hx13
    go_wp2_with fail
    refine (specValidOf_any _ n bs n (unhide HL) _ mn L mn (unhide HLL) seq o blk _ (unhide HG1) (unhide HN) (unhide HR1) hm1).mono ?_
    rintro e w3 ⟨r, rfl, hr, hB3⟩
    have hs3 := hB3.size
    have hx30 := (hB3.cell (p := ⟨w.heap.size, 0, none⟩) (by show w.heap.size < _; omega)).trans hx20
    have hx31 := (hB3.cell (p := ⟨w.heap.size, 1, none⟩) (by show w.heap.size < _; omega)).trans hx21
    have hx32 := (hB3.cell (p := ⟨w.heap.size, 2, none⟩) (by show w.heap.size < _; omega)).trans hx22
    have hx33 := (hB3.cell (p := ⟨w.heap.size, 3, none⟩) (by show w.heap.size < _; omega)).trans hx23
    have hW3 := hW2.trans (hB3.mono hW2.size)
    clear hB3 hW2 HG1 HR1 hx20 hx21 hx22 hx23
    go_wp2_with fail
    refine (toFtl_any a c bs n (unhide HL) ma mc L mn (unhide HLL) seq o _ ((unhide HA).below hW3 (Nat.le_refl _)) (unhide HN) ((unhide HI).below hW3 (Nat.le_refl _)) hm1).mono ?_
    rintro e w4 ⟨g2, H2, m2, rfl, _, _, _, hO2, hR2, hB4⟩
    have hs4 := hB4.size
    have hx40 := (hB4.cell (p := ⟨w.heap.size, 0, none⟩) (by show w.heap.size < _; omega)).trans hx30
    have hx41 := (hB4.cell (p := ⟨w.heap.size, 1, none⟩) (by show w.heap.size < _; omega)).trans hx31
    have hx42 := (hB4.cell (p := ⟨w.heap.size, 2, none⟩) (by show w.heap.size < _; omega)).trans hx32
    have hx43 := (hB4.cell (p := ⟨w.heap.size, 3, none⟩) (by show w.heap.size < _; omega)).trans hx33
    have hW4 := hW3.trans (hB4.mono hW3.size)
    have HG2 := hide (hO2.blocksAt (by rw [unhide HL]; exact Nat.le_refl _))
    have HR2 := hide (RowInts.intsAt hR2 (by rw [unhide HLL]; exact Nat.le_refl _))
    have hb5 : ∀ o, Below w4.heap.size w4 (w4.alloc o) := fun o => (Below.refl _ w4).alloc (Nat.le_refl _) _
    clear hB4 hW3 hO2 hR2 hx30 hx31 hx32 hx33
    go_wp2_with fail
    refine (implValidOf_any _ n bs n (unhide HL) _ mn L mn (unhide HLL) seq o blk _ ((unhide HG2).below (hb5 _) (Nat.le_refl _)) (unhide HN9) ((unhide HR2).below (hb5 _) (Nat.le_refl _)) (by omega)).mono ?_
    rintro e w6 ⟨r6, rfl, hr6, hB6⟩
    obtain rfl : r6 = r := hr6.one hr
    have hs6 := hB6.size
    simp at hs6
    have hB46 : Below w4.heap.size w4 w6 := (hb5 _).trans (hB6.mono (by simp))
    have hx60 := (hB46.cell (p := ⟨w.heap.size, 0, none⟩) (by show w.heap.size < _; omega)).trans hx40
    have hx61 := (hB46.cell (p := ⟨w.heap.size, 1, none⟩) (by show w.heap.size < _; omega)).trans hx41
    have hx62 := (hB46.cell (p := ⟨w.heap.size, 2, none⟩) (by show w.heap.size < _; omega)).trans hx42
    have hx63 := (hB46.cell (p := ⟨w.heap.size, 3, none⟩) (by show w.heap.size < _; omega)).trans hx43
    have hy60 : w6.cell? ⟨w4.heap.size, 0, none⟩ = some (.slice (some ⟨g2, 0, none⟩) n n) := by
      rw [hB6.cell (p := ⟨w4.heap.size, 0, none⟩) (by simp)]
      simp
    have hy61 : w6.cell? ⟨w4.heap.size, 1, none⟩ = some (.slice (some ⟨m2, 0, none⟩) mn mn) := by
      rw [hB6.cell (p := ⟨w4.heap.size, 1, none⟩) (by simp)]
      simp
    have hy62 : w6.cell? ⟨w4.heap.size, 2, none⟩ = some (.int .i64 seq) := by
      rw [hB6.cell (p := ⟨w4.heap.size, 2, none⟩) (by simp)]
      simp
    have hy63 : w6.cell? ⟨w4.heap.size, 3, none⟩ = some (.int .i64 o) := by
      rw [hB6.cell (p := ⟨w4.heap.size, 3, none⟩) (by simp)]
      simp
    have hW6 := hW4.trans (hB46.mono hW4.size)
    have HW6 := hide hW6.drew
    have HA6 : Hid (BlocksAt w6.drew a bs) := (unhide HA).below hW6.drew (Nat.le_refl _)
    have HI6 : Hid (IntsAt w6.drew ma L) := (unhide HI).below hW6.drew (Nat.le_refl _)
    have HG6 : Hid (BlocksAt w6.drew (some ⟨g2, 0, none⟩) bs) := (unhide HG2).below hB46.drew (Nat.le_refl _)
    have HR6 : Hid (IntsAt w6.drew (some ⟨m2, 0, none⟩) L) := (unhide HR2).below hB46.drew (Nat.le_refl _)
    have hne : (r6 != r6) = false := by simp
    clear hr hr6
    have hl06 : w.heap.size < w6.heap.size := by omega
    have hl46 : w4.heap.size < w6.heap.size := by omega
    clear hB6 hB46 hW6 hW4 HG2 HR2 hb5 hx40 hx41 hx42 hx43
    go_wp2
    go_region_with (first
      | (refine (toFtl_any a c bs n (unhide HL) ma mc L mn (unhide HLL) seq o _ (unhide HA6) (unhide HN) (unhide HI6) hm1).mono ?_
         rintro e w7 ⟨g3, H3, m3, rfl, _, _, _, hO3, hR3, hB7⟩
         have hs7 := hB7.size
         have hy70 := (hB7.cell (p := ⟨w4.heap.size, 0, none⟩) hl46).trans hy60
         have hy71 := (hB7.cell (p := ⟨w4.heap.size, 1, none⟩) hl46).trans hy61
         have hy72 := (hB7.cell (p := ⟨w4.heap.size, 2, none⟩) hl46).trans hy62
         have hy73 := (hB7.cell (p := ⟨w4.heap.size, 3, none⟩) hl46).trans hy63
         have HW7 := hide ((unhide HW6).trans (hB7.mono (unhide HW6).size))
         have HG7 := hide ((unhide HG6).below hB7 (Nat.le_refl _))
         have HR7 := hide ((unhide HR6).below hB7 (Nat.le_refl _))
         have HH7 := hide (hO3.blocksAt (by rw [unhide HL]; exact Nat.le_refl _))
         have HJ7 := hide (RowInts.intsAt hR3 (by rw [unhide HLL]; exact Nat.le_refl _))
         clear hB7 hO3 hR3)
      | (refine (eqFtl_same _ _ n n bs n (unhide HL) _ _ mn mn L mn (unhide HLL) seq o _ (unhide HG7) (unhide HH7) (unhide HN) (unhide HR7) (unhide HJ7) hm1).mono ?_
         rintro e w8 ⟨rfl, hB8⟩
         have HW8 := hide ((unhide HW7).trans (hB8.mono (unhide HW7).size))
         clear hB8))
    all_goals (
      go_wp2
      go_ret
      exact ⟨rfl, unhide HW8⟩)

set_option maxRecDepth 100000 in
theorem lifted (os : Os) (started : os.Started) (H : Type) (enc : TypeId × Value → H) :
    ReturnsInHanded {} Try.checked os 11 .any (Rows.fnExactValidOfSpec.pre6 enc Try.prog Try.f11 Rows.fnExactValidOfRow.domain false) (Rows.fnExactValidOfSpec.post enc Try.prog Try.f11 false true false false) := by
  refine returnsInHanded_of_change (C := Try.checked) own started (by kernel_rfl) Try.func11
    (ChangeSpec.witness6 (enc := enc) (C := Try.checked) false ⟨#[], #[.agg #[.slice none 0 0, .slice none 0 0, .int .i64 0, .int .i64 0], .int .i64 0], []⟩ 8 (by kernel_rfl) (by kernel_rfl) (by kernel_rfl) (by kernel_rfl)) ?_
  intro W base args ds gs before hval0 hW hcnd _
  have hval : ∀ (j : Nat) t v, Try.f11.params[j]? = some t → args[j]? = some v → Value.okWide Try.prog W .any base t v := hval0
  have hW' := hW
  obtain ⟨p, q, hA0, hV, rfl, hfz, hnd⟩ := hW
  have hA : DataW.TrodAll enc Try.prog W 0 (fun _ => true) true Try.f11.params.toList args.toList ds p := hA0
  rw [Try.params11] at hA hval
  obtain ⟨v0, vs0, d0, ds0, p0, q0, hargs, rfl, rfl, h0, r0⟩ := trodAll_cons hA
  obtain ⟨v1, vs1, d1, ds1, p1, q1, rfl, rfl, rfl, h1, r1⟩ := trodAll_cons r0
  obtain ⟨rfl, rfl, rfl⟩ := trodAll_nil r1
  obtain rfl : args = #[v0, v1] := by cases args; simp_all
  obtain ⟨rfl, rfl⟩ := trodVars_none hV
  have k0 := h0
  have lt0 : ∀ x ∈ p0, x.block < W.heap.size := by obtain ⟨m, hm⟩ := k0; exact DataW.trod_lt m _ _ _ hm
  obtain ⟨a, c, bs, ma, mc, L, seq, o, rfl, hbs, hl, ht, hI, hLl⟩ := open_ftl (hval 0 53 v0 rfl rfl) h0
  obtain ⟨a1, rfl, rfl, rfl, w1⟩ := open_int Try.underlying2 (hval 1 2 v1 rfl rfl) h1
  clear hA0 hval0
  refine (walk a c bs _ rfl ma mc L _ rfl seq o a1 W hbs hl ht hI hLl).mono fun e W' ⟨he, bel⟩ => ?_
  subst he
  exact ⟨_, rfl, _, _, _, [], _, [], hW', trodAll_mk1 (shut_bool Try.underlying4 _), (trodAll_cons_mk (Below.trod laidOut (by kernel_rfl) (of_decide_eq_true (by kernel_rfl)) k0 bel lt0) (trodAll_cons_mk (shut_int Try.underlying2 w1) trodAll_mk0)), rfl, bel.frame _, fun h => by cases h⟩

theorem over : Rows.fnExactValidOfRow.holds Try.pinned (OpenSpec.ofChange Rows.fnExactValidOfSpec) :=
  OpenClaim.holds_of_wide 11 Try.f11 rfl rfl rfl rfl rfl rfl rfl ⟨rfl, rfl, rfl, rfl, rfl⟩ rfl rfl rfl rfl rfl (by kernel_rfl) Try.func11 (by kernel_rfl)
    (of_decide_eq_true (by kernel_rfl)) (by unfold Func.isWrapper; first | (rw [if_pos (by decide +kernel)]; kernel_rfl) | (rw [if_neg (by decide +kernel)]; exact ⟨rfl, rfl⟩))
    (fun os started H enc _ => lifted os started H enc)

end Go.Proofs.Ytageolbmplhgaaa.fnExactValidOf
namespace Go.Proofs.Ytageolbmplhgaaa
theorem validOf_holds : Rows.FnExactValidOfSaid := fnExactValidOf.over
end Go.Proofs.Ytageolbmplhgaaa
