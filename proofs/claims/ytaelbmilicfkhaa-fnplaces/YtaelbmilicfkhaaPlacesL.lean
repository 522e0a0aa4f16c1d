/- Whatever the code that is drawn from, the law FnPlaces answers true: each block has a place, which is no parity's, and each such place has its block; the program's PlaceOf, LbaOf, ParityOf and LayoutOk are the model's there. No condition. -/
import Derived.Test.YtaelbmilicfkhaaRows
import Derived.Test.YtaelbmilicfkhaaLayS
import Derived.Test.YtaelbmilicfkhaaLayJ
import Derived.Test.YtaelbmilicfkhaaLayM
import Derived.Test.YtaelbmilicfkhaaDr5
import Derived.Test.YtaelbmilicfkhaaOpenI
import Derived.Test.YtaelbmilicfkhaaLaw0
import Derived.WalkKit
import Derived.ProofKit
import Derived.OpenShut
import Derived.ChangeOld
import Derived.Below
namespace Go.Proofs.Ytaelbmilicfkhaa.fnPlaces
open Go.ChangeShapes Go.WideShapes Go.ChangeAt Go.RowKit
set_option linter.unusedVariables false
set_option linter.unusedSimpArgs false

set_option maxRecDepth 100000 in
set_option maxHeartbeats 2000000 in
theorem walk (a : Option Addr) (n c : Nat) (w : World) (h : CodeAt w a n) (hn : n ≤ 9223372036854775807) :
    Calls Try.prog 4 #[.slice a n c] w fun e w' => e = .returned (.bool true) ∧ Below w.heap.size w w' := by
  have HC := hide h
  clear h
  go_enter Try.func4, Try.ntmps4
  go_wp2_with fail
  refine (big_any a n c _ hn).mono ?_
  rintro e w0 ⟨rfl, rfl⟩
  by_cases hbig : (1048576 : Int) < (n : Int)
  · have hd : decide ((1048576 : Int) < (n : Int)) = true := by simpa using hbig
    rw [hd]
    clear hd
    go_wp2
    go_ret
    exact ⟨rfl, Below.refl _ _⟩
  · have hd : decide ((1048576 : Int) < (n : Int)) = false := by simpa using hbig
    have hbig' : n ≤ 1048576 := by omega
    rw [hd]
    clear hd hbig
    go_wp2_with fail
    refine (drawPlaceOf_any a n c _ (unhide HC) hbig').mono ?_
    rintro e w1 ⟨g, len, cap, lba, L, rfl, hD, hB1⟩
    have HC1 := hide ((unhide HC).below hB1 (Nat.le_refl _))
    have HD1 := hide hD
    have hW1 := hB1
    clear hD hB1 HC
    go_wp2_with fail
    refine (implPlaceOf_any _ _ L len (unhide HD1).2.1 lba _ (unhide HD1).1).mono ?_
    rintro e w2 ⟨m, s, rfl, hP, hB2⟩
    have HP := hide hP
    have HC2 := hide ((unhide HC1).below hB2 (Nat.le_refl _))
    have HD2 := hide ((unhide HD1).below hB2 (Nat.le_refl _))
    have hW2 := hW1.trans (hB2.mono hW1.size)
    clear hP hB2 HC1 HD1
    go_wp2_with fail
    refine (specPlaceOf_any _ _ L len (unhide HD2).2.1 lba _ (unhide HD2).1).mono ?_
    rintro e w3 ⟨m', s', rfl, hP2, rfl⟩
    obtain ⟨rfl, rfl⟩ := hP2.one (unhide HP)
    clear hP2
    have hne1 : (m' != m') = false := by simp
    have hne2 : (s' != s') = false := by simp
    go_wp2_with fail
    refine (implLayoutOk_any _ _ L len (unhide HD2).2.1 _ (unhide HD2).1).mono ?_
    rintro e w4 ⟨rfl, hB4⟩
    have HC4 := hide ((unhide HC2).below hB4 (Nat.le_refl _))
    have HD4 := hide ((unhide HD2).below hB4 (Nat.le_refl _))
    have hW4 := hW2.trans (hB4.mono hW2.size)
    clear hB4 HC2 HD2
    go_wp2_with fail
    refine (specLayoutOk_any _ _ L len (unhide HD4).2.1 _ (unhide HD4).1).mono ?_
    rintro e w5 ⟨rfl, rfl⟩
    have hne3 : (decide (LayOk L) != decide (LayOk L)) = false := by simp
    by_cases hc1 : 0 ≤ m'
    · by_cases hc2 : s' < 250000000
      · go_wp2_with fail
        refine (implLbaOf_any _ _ L len (unhide HD4).2.1 m' s' _ (unhide HD4).1).mono ?_
        rintro e w6 ⟨r, rfl, hr, hB6⟩
        obtain rfl := (unhide HP).backR hc1 hc2 hr
        have HR := hide hr
        have HC6 := hide ((unhide HC4).below hB6 (Nat.le_refl _))
        have HD6 := hide ((unhide HD4).below hB6 (Nat.le_refl _))
        have hW6 := hW4.trans (hB6.mono hW4.size)
        have hne4 : (r != r) = false := by simp
        clear hr hB6 HC4 HD4
        go_wp2_with fail
        refine (implParityOf_any _ _ L len (unhide HD6).2.1 s' _ (unhide HD6).1).mono ?_
        rintro e w7 ⟨p, rfl, hp, hB7⟩
        have hpm := ((unhide HP).back hc1 hc2 (unhide HR) hp).2
        have heq : (p == m') = false := by simpa using hpm
        have HC7 := hide ((unhide HC6).below hB7 (Nat.le_refl _))
        have hW7 := hW6.trans (hB7.mono hW6.size)
        clear hp hB7 HC6 HD6 hpm
        go_wp2_with fail
        refine (drawLbaOf_any a n c _ (unhide HC7) hbig').mono ?_
        rintro e w8 ⟨g2, len2, cap2, mem, st, L2, rfl, hD, hB8⟩
        have HD8 := hide hD
        have hW8 := hW7.trans (hB8.mono hW7.size)
        clear hD hB8 HC7 HP
        go_wp2_with fail
        refine (implLbaOf_any _ _ L2 len2 (unhide HD8).2.1 mem st _ (unhide HD8).1).mono ?_
        rintro e w9 ⟨l, rfl, hl, hB9⟩
        have HLB := hide hl
        have HD9 := hide ((unhide HD8).below hB9 (Nat.le_refl _))
        have hW9 := hW8.trans (hB9.mono hW8.size)
        clear hl hB9 HD8
        go_wp2_with fail
        refine (specLbaOf_any _ _ L2 len2 (unhide HD9).2.1 mem st _ (unhide HD9).1).mono ?_
        rintro e w10 ⟨l', rfl, hl', rfl⟩
        obtain rfl := hl'.one (unhide HLB)
        clear hl'
        have hne9 : (l' != l') = false := by simp
        have heq9 : (l' == l') = true := by simp
        by_cases hneg : l' < 0
        · go_wp2_with fail
          refine (specLbaOf_any _ _ L2 len2 (unhide HD9).2.1 mem st _ (unhide HD9).1).mono ?_
          rintro e w11 ⟨l2, rfl, hl2, rfl⟩
          obtain rfl := hl2.one (unhide HLB)
          clear hl2
          go_wp2
          go_ret
          exact ⟨by simp, hW9⟩
        · go_wp2_with fail
          refine (implPlaceOf_any _ _ L2 len2 (unhide HD9).2.1 l' _ (unhide HD9).1).mono ?_
          rintro e w11 ⟨x, y, rfl, hxy, hB11⟩
          obtain ⟨rfl, rfl⟩ := (unhide HLB).back (by omega) hxy
          have hW11 := hW9.trans (hB11.mono hW9.size)
          have heqx : (x == x) = true := by simp
          have heqy : (y == y) = true := by simp
          clear hxy hB11
          go_wp2
          go_ret
          exact ⟨by simp, hW11⟩
      · have HC7 := HC4
        have hW7 := hW4
        clear HC4 HD4
        go_wp2_with fail
        refine (drawLbaOf_any a n c _ (unhide HC7) hbig').mono ?_
        rintro e w8 ⟨g2, len2, cap2, mem, st, L2, rfl, hD, hB8⟩
        have HD8 := hide hD
        have hW8 := hW7.trans (hB8.mono hW7.size)
        clear hD hB8 HC7 HP
        go_wp2_with fail
        refine (implLbaOf_any _ _ L2 len2 (unhide HD8).2.1 mem st _ (unhide HD8).1).mono ?_
        rintro e w9 ⟨l, rfl, hl, hB9⟩
        have HLB := hide hl
        have HD9 := hide ((unhide HD8).below hB9 (Nat.le_refl _))
        have hW9 := hW8.trans (hB9.mono hW8.size)
        clear hl hB9 HD8
        go_wp2_with fail
        refine (specLbaOf_any _ _ L2 len2 (unhide HD9).2.1 mem st _ (unhide HD9).1).mono ?_
        rintro e w10 ⟨l', rfl, hl', rfl⟩
        obtain rfl := hl'.one (unhide HLB)
        clear hl'
        have hne9 : (l' != l') = false := by simp
        have heq9 : (l' == l') = true := by simp
        by_cases hneg : l' < 0
        · go_wp2_with fail
          refine (specLbaOf_any _ _ L2 len2 (unhide HD9).2.1 mem st _ (unhide HD9).1).mono ?_
          rintro e w11 ⟨l2, rfl, hl2, rfl⟩
          obtain rfl := hl2.one (unhide HLB)
          clear hl2
          go_wp2
          go_ret
          exact ⟨by simp, hW9⟩
        · go_wp2_with fail
          refine (implPlaceOf_any _ _ L2 len2 (unhide HD9).2.1 l' _ (unhide HD9).1).mono ?_
          rintro e w11 ⟨x, y, rfl, hxy, hB11⟩
          obtain ⟨rfl, rfl⟩ := (unhide HLB).back (by omega) hxy
          have hW11 := hW9.trans (hB11.mono hW9.size)
          have heqx : (x == x) = true := by simp
          have heqy : (y == y) = true := by simp
          clear hxy hB11
          go_wp2
          go_ret
          exact ⟨by simp, hW11⟩
    · have HC7 := HC4
      have hW7 := hW4
      clear HC4 HD4
      go_wp2_with fail
      refine (drawLbaOf_any a n c _ (unhide HC7) hbig').mono ?_
      rintro e w8 ⟨g2, len2, cap2, mem, st, L2, rfl, hD, hB8⟩
      have HD8 := hide hD
      have hW8 := hW7.trans (hB8.mono hW7.size)
      clear hD hB8 HC7 HP
      go_wp2_with fail
      refine (implLbaOf_any _ _ L2 len2 (unhide HD8).2.1 mem st _ (unhide HD8).1).mono ?_
      rintro e w9 ⟨l, rfl, hl, hB9⟩
      have HLB := hide hl
      have HD9 := hide ((unhide HD8).below hB9 (Nat.le_refl _))
      have hW9 := hW8.trans (hB9.mono hW8.size)
      clear hl hB9 HD8
      go_wp2_with fail
      refine (specLbaOf_any _ _ L2 len2 (unhide HD9).2.1 mem st _ (unhide HD9).1).mono ?_
      rintro e w10 ⟨l', rfl, hl', rfl⟩
      obtain rfl := hl'.one (unhide HLB)
      clear hl'
      have hne9 : (l' != l') = false := by simp
      have heq9 : (l' == l') = true := by simp
      by_cases hneg : l' < 0
      · go_wp2_with fail
        refine (specLbaOf_any _ _ L2 len2 (unhide HD9).2.1 mem st _ (unhide HD9).1).mono ?_
        rintro e w11 ⟨l2, rfl, hl2, rfl⟩
        obtain rfl := hl2.one (unhide HLB)
        clear hl2
        go_wp2
        go_ret
        exact ⟨by simp, hW9⟩
      · go_wp2_with fail
        refine (implPlaceOf_any _ _ L2 len2 (unhide HD9).2.1 l' _ (unhide HD9).1).mono ?_
        rintro e w11 ⟨x, y, rfl, hxy, hB11⟩
        obtain ⟨rfl, rfl⟩ := (unhide HLB).back (by omega) hxy
        have hW11 := hW9.trans (hB11.mono hW9.size)
        have heqx : (x == x) = true := by simp
        have heqy : (y == y) = true := by simp
        clear hxy hB11
        go_wp2
        go_ret
        exact ⟨by simp, hW11⟩

set_option maxRecDepth 100000 in
theorem lifted (os : Os) (started : os.Started) (H : Type) (enc : TypeId × Value → H) :
    ReturnsInHanded {} Try.checked os 4 .any (Rows.fnPlacesSpec.pre6 enc Try.prog Try.f4 Rows.fnPlacesRow.domain false) (Rows.fnPlacesSpec.post enc Try.prog Try.f4 false true false false) := by
  refine returnsInHanded_of_change (C := Try.checked) own started (by kernel_rfl) Try.func4
    (ChangeSpec.witness6 (enc := enc) (C := Try.checked) false ⟨#[], #[.slice none 0 0], []⟩ 8 (by kernel_rfl) (by kernel_rfl) (by kernel_rfl) (by kernel_rfl)) ?_
  intro W base args ds gs before hval0 hW hcnd _
  have hval : ∀ (j : Nat) t v, Try.f4.params[j]? = some t → args[j]? = some v → Value.okWide Try.prog W .any base t v := hval0
  have hW' := hW
  obtain ⟨p, q, hA0, hV, rfl, hfz, hnd⟩ := hW
  have hA : DataW.TrodAll enc Try.prog W 0 (fun _ => true) true Try.f4.params.toList args.toList ds p := hA0
  rw [Try.params4] at hA hval
  obtain ⟨v0, vs0, d0, ds0, p0, q0, hargs, rfl, rfl, h0, r0⟩ := trodAll_cons hA
  obtain ⟨rfl, rfl, rfl⟩ := trodAll_nil r0
  obtain rfl : args = #[v0] := by cases args; simp_all
  obtain ⟨rfl, rfl⟩ := trodVars_none hV
  have k0 := h0
  have lt0 : ∀ x ∈ p0, x.block < W.heap.size := by obtain ⟨m, hm⟩ := k0; exact DataW.trod_lt m _ _ _ hm
  obtain ⟨a, n, c, rfl, hL, hlen⟩ := open_code Try.underlying22 Try.underlying5 (by kernel_rfl) (hval 0 22 v0 rfl rfl) h0

  clear hA0 hval0
  refine (walk a n c W hL hlen).mono fun e W' ⟨he, bel⟩ => ?_
  subst he
  exact ⟨_, rfl, _, _, _, [], _, [], hW', trodAll_mk1 (shut_bool Try.underlying4 _), (trodAll_cons_mk (Below.trod laidOut (by kernel_rfl) (of_decide_eq_true (by kernel_rfl)) k0 bel lt0) trodAll_mk0), rfl, bel.frame _, fun h => by cases h⟩

theorem over : Rows.fnPlacesRow.holds Try.pinned (OpenSpec.ofChange Rows.fnPlacesSpec) :=
  OpenClaim.holds_of_wide 4 Try.f4 rfl rfl rfl rfl rfl rfl rfl ⟨rfl, rfl, rfl, rfl, rfl⟩ rfl rfl rfl rfl rfl (by kernel_rfl) Try.func4 (by kernel_rfl)
    (of_decide_eq_true (by kernel_rfl)) (by unfold Func.isWrapper; first | (rw [if_pos (by decide +kernel)]; kernel_rfl) | (rw [if_neg (by decide +kernel)]; exact ⟨rfl, rfl⟩))
    (fun os started H enc _ => lifted os started H enc)

end Go.Proofs.Ytaelbmilicfkhaa.fnPlaces
namespace Go.Proofs.Ytaelbmilicfkhaa
theorem places_holds : Rows.FnPlacesSaid := fnPlaces.over
end Go.Proofs.Ytaelbmilicfkhaa
