/- Whatever the list of texts, the law FnExactXor answers true: the program's Xor is the model's, text and flag, and it leaves the list as it was. No condition. -/
import Derived.Test.YtaelbmilicfkhaaRows
import Derived.Test.YtaelbmilicfkhaaTextT
import Derived.Test.YtaelbmilicfkhaaXorI
import Derived.Test.YtaelbmilicfkhaaOpenI
import Derived.Test.YtaelbmilicfkhaaLaw0
import Derived.WalkKit
import Derived.ProofKit
import Derived.OpenShut
import Derived.ChangeOld
import Derived.Below
namespace Go.Proofs.Ytaelbmilicfkhaa.fnExactXor
open Go.ChangeShapes Go.WideShapes Go.ChangeAt Go.RowKit
set_option linter.unusedVariables false
set_option linter.unusedSimpArgs false

set_option maxRecDepth 100000 in
set_option maxHeartbeats 2000000 in
theorem walk (a : Option Addr) (c : Nat) (L : List ByteArray) (n : Nat) (hl : L.length = n) (w : World) (h : TextsAt w a L) (hn : n ≤ 9223372036854775807) (ht : ∀ s ∈ L, s.size ≤ 9223372036854775807) :
    Calls Try.prog 12 #[.slice a n c] w fun e w' => e = .returned (.bool true) ∧ Below w.heap.size w w' := by
  have HL := hide hl
  have HA := hide h
  have HT := hide ht
  clear hl h ht
  go_enter Try.func12, Try.ntmps12
  go_wp2_with fail
  refine (szStringS_any a c L n (unhide HL) 1048576 _ (unhide HA) hn (unhide HT) (by omega) (by omega)).mono ?_
  rintro e w0 ⟨left, rfl, hle, hlens, rfl⟩
  by_cases h0 : left < 0
  · clear hlens
    go_wp2
    go_ret
    exact ⟨rfl, Below.refl _ _⟩
  · have hlens := hlens (by omega)
    have hbig := hlens.1
    have HT2 := hide hlens.2
    clear hlens
    go_wp2_with fail
    refine (toStringS_any a c L n (unhide HL) _ (unhide HA) hbig).mono ?_
    rintro e w1 ⟨rfl, hG1, hB1⟩
    have HG1 := hide (hG1.textsAt (by rw [unhide HL]; exact Nat.le_refl _))
    have HA1 := hide ((unhide HA).below hB1 (Nat.le_refl _))
    have hW1 := hB1
    clear hG1 hB1
    go_wp2_with fail
    refine (specXor_any _ _ L n (unhide HL) _ (unhide HG1) hbig (unhide HT2)).mono ?_
    rintro e w2 ⟨hr, hB2⟩
    have hr' : e = .returned (.tuple #[.string (xorT L), .bool (decide (XorOk L))]) := hr
    subst hr'
    have hW2 := hW1.trans (hB2.mono hW1.size)
    have HA2 := hide ((unhide HA1).below hB2 (Nat.le_refl _))
    clear hB2
    clear hr
    have hne2 : (decide (XorOk L) != decide (XorOk L)) = false := by simp
    go_wp2_with fail
    refine (toStringS_any a c L n (unhide HL) _ (unhide HA2) hbig).mono ?_
    rintro e w3 ⟨rfl, hG3, hB3⟩
    have HG3 := hide (hG3.textsAt (by rw [unhide HL]; exact Nat.le_refl _))
    have HA3 := hide ((unhide HA2).below hB3 (Nat.le_refl _))
    have hW3 := hW2.trans (hB3.mono hW2.size)
    clear hG3 hB3
    go_wp2_with fail
    refine (implXor_any _ _ L n (unhide HL) _ (unhide HG3) hbig (unhide HT2)).mono ?_
    rintro e w4 ⟨hr, hB4⟩
    have hr' : e = .returned (.tuple #[.string (xorT L), .bool (decide (XorOk L))]) := hr
    subst hr'
    clear hr
    have HG4 := hide ((unhide HG3).below hB4 (Nat.le_refl _))
    have HA4 := hide ((unhide HA3).below hB4 (Nat.le_refl _))
    have hW4 := hW3.trans (hB4.mono hW3.size)
    clear hB4
    go_wp2_with fail
    refine (toStringS_any a c L n (unhide HL) _ (unhide HA4) hbig).mono ?_
    rintro e w5 ⟨rfl, hG5, hB5⟩
    have HG5 := hide (hG5.textsAt (by rw [unhide HL]; exact Nat.le_refl _))
    have HG6 := hide ((unhide HG4).below hB5 (Nat.le_refl _))
    have hW5 := hW4.trans (hB5.mono hW4.size)
    clear hG5 hB5
    go_wp2_with fail
    refine (eqStringS_same _ _ _ _ L n (unhide HL) _ (unhide HG6) (unhide HG5) hbig).mono ?_
    rintro e w6 ⟨rfl, hB6⟩
    have hW6 := hW5.trans (hB6.mono hW5.size)
    go_wp2
    go_ret
    exact ⟨rfl, hW6⟩

set_option maxRecDepth 100000 in
theorem lifted (os : Os) (started : os.Started) (H : Type) (enc : TypeId × Value → H) :
    ReturnsInHanded {} Try.checked os 12 .any (Rows.fnExactXorSpec.pre6 enc Try.prog Try.f12 Rows.fnExactXorRow.domain false) (Rows.fnExactXorSpec.post enc Try.prog Try.f12 false true false false) := by
  refine returnsInHanded_of_change (C := Try.checked) own started (by kernel_rfl) Try.func12
    (ChangeSpec.witness6 (enc := enc) (C := Try.checked) false ⟨#[], #[.slice none 0 0], []⟩ 8 (by kernel_rfl) (by kernel_rfl) (by kernel_rfl) (by kernel_rfl)) ?_
  intro W base args ds gs before hval0 hW hcnd _
  have hval : ∀ (j : Nat) t v, Try.f12.params[j]? = some t → args[j]? = some v → Value.okWide Try.prog W .any base t v := hval0
  have hW' := hW
  obtain ⟨p, q, hA0, hV, rfl, hfz, hnd⟩ := hW
  have hA : DataW.TrodAll enc Try.prog W 0 (fun _ => true) true Try.f12.params.toList args.toList ds p := hA0
  rw [Try.params12] at hA hval
  obtain ⟨v0, vs0, d0, ds0, p0, q0, hargs, rfl, rfl, h0, r0⟩ := trodAll_cons hA
  obtain ⟨rfl, rfl, rfl⟩ := trodAll_nil r0
  obtain rfl : args = #[v0] := by cases args; simp_all
  obtain ⟨rfl, rfl⟩ := trodVars_none hV
  have k0 := h0
  have lt0 : ∀ x ∈ p0, x.block < W.heap.size := by obtain ⟨m, hm⟩ := k0; exact DataW.trod_lt m _ _ _ hm
  obtain ⟨a, c, L, rfl, hL, hlen, htx⟩ := open_textsArg Try.underlying53 Try.underlying9 (by kernel_rfl) (hval 0 53 v0 rfl rfl) h0

  clear hA0 hval0
  refine (walk a c L _ rfl W hL hlen htx).mono fun e W' ⟨he, bel⟩ => ?_
  subst he
  exact ⟨_, rfl, _, _, _, [], _, [], hW', trodAll_mk1 (shut_bool Try.underlying4 _), (trodAll_cons_mk (Below.trod laidOut (by kernel_rfl) (of_decide_eq_true (by kernel_rfl)) k0 bel lt0) trodAll_mk0), rfl, bel.frame _, fun h => by cases h⟩

theorem over : Rows.fnExactXorRow.holds Try.pinned (OpenSpec.ofChange Rows.fnExactXorSpec) :=
  OpenClaim.holds_of_wide 12 Try.f12 rfl rfl rfl rfl rfl rfl rfl ⟨rfl, rfl, rfl, rfl, rfl⟩ rfl rfl rfl rfl rfl (by kernel_rfl) Try.func12 (by kernel_rfl)
    (of_decide_eq_true (by kernel_rfl)) (by unfold Func.isWrapper; first | (rw [if_pos (by decide +kernel)]; kernel_rfl) | (rw [if_neg (by decide +kernel)]; exact ⟨rfl, rfl⟩))
    (fun os started H enc _ => lifted os started H enc)

end Go.Proofs.Ytaelbmilicfkhaa.fnExactXor
namespace Go.Proofs.Ytaelbmilicfkhaa
theorem xor_holds : Rows.FnExactXorSaid := fnExactXor.over
end Go.Proofs.Ytaelbmilicfkhaa
