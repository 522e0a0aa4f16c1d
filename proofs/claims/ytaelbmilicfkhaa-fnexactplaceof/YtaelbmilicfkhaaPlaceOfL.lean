/- Whatever the weights and the block, the law FnExactPlaceOf answers true: the program's PlaceOf is the model's in both numbers, and it leaves the list as it was. No condition. -/
import Derived.Test.YtaelbmilicfkhaaRows
import Derived.Test.YtaelbmilicfkhaaLayS
import Derived.Test.YtaelbmilicfkhaaLayJ
import Derived.Test.YtaelbmilicfkhaaIntT
import Derived.Test.YtaelbmilicfkhaaOpenI
import Derived.Test.YtaelbmilicfkhaaLaw0
import Derived.WalkKit
import Derived.ProofKit
import Derived.OpenShut
import Derived.ChangeOld
import Derived.Below
namespace Go.Proofs.Ytaelbmilicfkhaa.fnExactPlaceOf
open Go.ChangeShapes Go.WideShapes Go.ChangeAt Go.RowKit
set_option linter.unusedVariables false
set_option linter.unusedSimpArgs false

set_option maxRecDepth 100000 in
set_option maxHeartbeats 2000000 in
theorem walk (a : Option Addr) (c : Nat) (L : List Int) (n : Nat) (hl : L.length = n) (x1 : Int) (w : World) (h : IntsAt w a L) (hn : n ≤ 9223372036854775807) :
    Calls Try.prog 10 #[.slice a n c, .int .i64 x1] w fun e w' => e = .returned (.bool true) ∧ Below w.heap.size w w' := by
  have HL := hide hl
  have HA := hide h
  clear hl h
  go_enter Try.func10, Try.ntmps10
  by_cases hbig : n ≤ 1048576
  · go_wp2_with fail
    refine (toInt64S_any a c L n (unhide HL) _ (unhide HA) hbig).mono ?_
    rintro e w1 ⟨rfl, hG1, hB1⟩
    have HG1 := hide (hG1.intsAt (by rw [unhide HL]; exact Nat.le_refl _))
    have HA1 := hide ((unhide HA).below hB1 (Nat.le_refl _))
    have hW1 := hB1
    clear hG1 hB1
    go_wp2_with fail
    refine (specPlaceOf_any _ _ L n (unhide HL) x1 _ (unhide HG1)).mono ?_
    rintro e w2 ⟨r, q, rfl, hr, rfl⟩
    have HR := hide hr
    clear hr
    have hne : (r != r) = false := by simp
    have hne2 : (q != q) = false := by simp
    go_wp2_with fail
    refine (toInt64S_any a c L n (unhide HL) _ (unhide HA1) hbig).mono ?_
    rintro e w3 ⟨rfl, hG3, hB3⟩
    have HG3 := hide (hG3.intsAt (by rw [unhide HL]; exact Nat.le_refl _))
    have HA3 := hide ((unhide HA1).below hB3 (Nat.le_refl _))
    have hW3 := hW1.trans (hB3.mono hW1.size)
    clear hG3 hB3
    go_wp2_with fail
    refine (implPlaceOf_any _ _ L n (unhide HL) x1 _ (unhide HG3)).mono ?_
    rintro e w4 ⟨r2, q2, rfl, hr2, hB4⟩
    obtain ⟨rfl, rfl⟩ : r2 = r ∧ q2 = q := hr2.one (unhide HR)
    clear hr2 HR
    have HG4 := hide ((unhide HG3).below hB4 (Nat.le_refl _))
    have HA4 := hide ((unhide HA3).below hB4 (Nat.le_refl _))
    have hW4 := hW3.trans (hB4.mono hW3.size)
    clear hB4
    go_wp2_with fail
    refine (toInt64S_any a c L n (unhide HL) _ (unhide HA4) hbig).mono ?_
    rintro e w5 ⟨rfl, hG5, hB5⟩
    have HG5 := hide (hG5.intsAt (by rw [unhide HL]; exact Nat.le_refl _))
    have HG6 := hide ((unhide HG4).below hB5 (Nat.le_refl _))
    have hW5 := hW4.trans (hB5.mono hW4.size)
    clear hG5 hB5
    go_wp2_with fail
    refine (eqInt64S_same _ _ _ _ L n (unhide HL) _ (unhide HG6) (unhide HG5) hbig).mono ?_
    rintro e w6 ⟨rfl, hB6⟩
    have hW6 := hW5.trans (hB6.mono hW5.size)
    go_wp2
    go_ret
    exact ⟨rfl, hW6⟩
  · go_wp2
    go_ret
    exact ⟨rfl, Below.refl _ _⟩

set_option maxRecDepth 100000 in
theorem lifted (os : Os) (started : os.Started) (H : Type) (enc : TypeId × Value → H) :
    ReturnsInHanded {} Try.checked os 10 .any (Rows.fnExactPlaceOfSpec.pre6 enc Try.prog Try.f10 Rows.fnExactPlaceOfRow.domain false) (Rows.fnExactPlaceOfSpec.post enc Try.prog Try.f10 false true false false) := by
  refine returnsInHanded_of_change (C := Try.checked) own started (by kernel_rfl) Try.func10
    (ChangeSpec.witness6 (enc := enc) (C := Try.checked) false ⟨#[], #[.slice none 0 0, .int .i64 0], []⟩ 8 (by kernel_rfl) (by kernel_rfl) (by kernel_rfl) (by kernel_rfl)) ?_
  intro W base args ds gs before hval0 hW hcnd _
  have hval : ∀ (j : Nat) t v, Try.f10.params[j]? = some t → args[j]? = some v → Value.okWide Try.prog W .any base t v := hval0
  have hW' := hW
  obtain ⟨p, q, hA0, hV, rfl, hfz, hnd⟩ := hW
  have hA : DataW.TrodAll enc Try.prog W 0 (fun _ => true) true Try.f10.params.toList args.toList ds p := hA0
  rw [Try.params10] at hA hval
  obtain ⟨v0, vs0, d0, ds0, p0, q0, hargs, rfl, rfl, h0, r0⟩ := trodAll_cons hA
  obtain ⟨v1, vs1, d1, ds1, p1, q1, rfl, rfl, rfl, h1, r1⟩ := trodAll_cons r0
  obtain ⟨rfl, rfl, rfl⟩ := trodAll_nil r1
  obtain rfl : args = #[v0, v1] := by cases args; simp_all
  obtain ⟨rfl, rfl⟩ := trodVars_none hV
  have k0 := h0
  have lt0 : ∀ x ∈ p0, x.block < W.heap.size := by obtain ⟨m, hm⟩ := k0; exact DataW.trod_lt m _ _ _ hm
  obtain ⟨a, c, L, rfl, hL, hlen⟩ := open_intsArg Try.underlying30 Try.underlying2 (by kernel_rfl) (hval 0 30 v0 rfl rfl) h0
  obtain ⟨x1, rfl, rfl, rfl, w1⟩ := open_int Try.underlying2 (hval 1 2 v1 rfl rfl) h1
  clear hA0 hval0
  refine (walk a c L _ rfl x1 W hL hlen).mono fun e W' ⟨he, bel⟩ => ?_
  subst he
  exact ⟨_, rfl, _, _, _, [], _, [], hW', trodAll_mk1 (shut_bool Try.underlying4 _), (trodAll_cons_mk (Below.trod laidOut (by kernel_rfl) (of_decide_eq_true (by kernel_rfl)) k0 bel lt0) (trodAll_cons_mk (shut_int Try.underlying2 w1) trodAll_mk0)), rfl, bel.frame _, fun h => by cases h⟩

theorem over : Rows.fnExactPlaceOfRow.holds Try.pinned (OpenSpec.ofChange Rows.fnExactPlaceOfSpec) :=
  OpenClaim.holds_of_wide 10 Try.f10 rfl rfl rfl rfl rfl rfl rfl ⟨rfl, rfl, rfl, rfl, rfl⟩ rfl rfl rfl rfl rfl (by kernel_rfl) Try.func10 (by kernel_rfl)
    (of_decide_eq_true (by kernel_rfl)) (by unfold Func.isWrapper; first | (rw [if_pos (by decide +kernel)]; kernel_rfl) | (rw [if_neg (by decide +kernel)]; exact ⟨rfl, rfl⟩))
    (fun os started H enc _ => lifted os started H enc)

end Go.Proofs.Ytaelbmilicfkhaa.fnExactPlaceOf
namespace Go.Proofs.Ytaelbmilicfkhaa
theorem placeOf_holds : Rows.FnExactPlaceOfSaid := fnExactPlaceOf.over
end Go.Proofs.Ytaelbmilicfkhaa
