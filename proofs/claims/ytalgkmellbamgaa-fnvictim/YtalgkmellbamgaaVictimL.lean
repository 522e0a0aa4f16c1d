/- Whatever the code, the law FnVictim answers true: the block that is emptied is full, and no full block but the open one has fewer pages that are the newest. No condition. -/
import Derived.Test.YtalgkmellbamgaaRows
import Derived.Test.YtalgkmellbamgaaG25
import Derived.Test.YtalgkmellbamgaaG28
import Derived.Test.YtalgkmellbamgaaG30
import Derived.Test.YtalgkmellbamgaaG09
import Derived.Test.YtalgkmellbamgaaG29
import Derived.Test.YtalgkmellbamgaaG13
import Derived.Test.YtalgkmellbamgaaG08
import Derived.Test.YtalgkmellbamgaaG20
import Derived.WalkKit
import Derived.ProofKit
import Derived.OpenShut
import Derived.ChangeOld
import Derived.Below
namespace Go.Proofs.Ytalgkmellbamgaa.fnVictim
open Go.ChangeShapes Go.WideShapes Go.ChangeAt Go.RowKit
set_option linter.unusedVariables false
set_option linter.unusedSimpArgs false

theorem lens9V {bs : List Bk} (h : Lens 1048576 bs) : Lens 9223372036854775807 bs := ⟨by have := h.1; omega, fun b hb => by have := h.2 b hb; omega⟩
theorem next_full {bs : List Bk} {b : Nat} {x : Bk} {r : Int} (hok : ChipOk bs) (hx : bs[b]? = some x) (h : NextOfIs bs (b : Int) r) : r < 0 ↔ fullB x = true := by
  have hb := (List.getElem?_eq_some_iff.1 hx).1
  rcases h with ⟨h, _⟩ | ⟨_, y, hy, hn⟩
  · exact absurd ⟨hok, by omega, by omega⟩ h
  · rw [Int.toNat_natCast, hx] at hy
    cases hy
    exact fullB_next hn

set_option maxRecDepth 100000 in
set_option maxHeartbeats 8000000 in
theorem walk (a : Option Addr) (n c : Nat) (w : World) (h : CodeAt w a n) (hn : n ≤ 9223372036854775807) :
    Calls Try.prog 6 #[.slice a n c] w fun e w' => e = .returned (.bool true) ∧ Below w.heap.size w w' := by
  have HC := hide h
  clear h
  go_enter Try.func6, Try.ntmps6
  go_wp2_with fail
  refine (big_any a n c _ hn).mono ?_
  rintro e w0 ⟨rfl, rfl⟩
  by_cases hbig : (1048576 : Int) < (n : Int)
  · have hd : decide ((1048576 : Int) < (n : Int)) = true := by simpa using hbig
    rw [hd]
    clear hd
    go_wp2
    go_ret
    exact ⟨rfl, Below.refl _ _⟩
  have hd : decide ((1048576 : Int) < (n : Int)) = false := by simpa using hbig
  have hbig' : n ≤ 1048576 := by omega
  rw [hd]
  clear hd hbig
  go_wp2_with fail
  refine (drawVictimOf_any a n c _ (unhide HC) hbig').mono ?_
  rintro e w1 ⟨a1, n1, c1, ma, mn, mc, m, rfl, hM1, hS1, hW1⟩
  have hs1 := hW1.size
  have HSH := hide hS1
  obtain ⟨w2, hw2⟩ : ∃ w2, w2 = w1.alloc (.cells #[.slice a1 n1 c1, .slice ma mn mc, .int .i64 m.seq, .int .i64 m.o] 44) := ⟨_, rfl⟩
  have hB2 : Below w1.heap.size w1 w2 := by rw [hw2]; exact (Below.refl _ _).alloc (Nat.le_refl _) _
  have HX2 : Hid (BoxAt w2 w1.heap.size a1 n1 c1 ma mn mc m.seq m.o) := by rw [hw2]; exact BoxAt.alloc _ _ _ _ _ _ _ _ _ _
  have HM2 := hide (hM1.below hB2)
  have hW2 := hW1.trans (hB2.mono hW1.size)
  have hmn : mn ≤ 36 := by have := hS1.2.2; have := hM1.L; omega
  have hl1 : w1.heap.size < w2.heap.size := (unhide HX2).lt
  clear HC hM1 hS1 hB2 hW1
  obtain ⟨x0, x1, x2, x3⟩ := (unhide HX2).cells
  go_wp2_with fail
  rw [← hw2]
  clear hw2
  refine (implVictimOf_any a1 c1 m.bs n1 (unhide HM2).bs ma mc m.L mn (unhide HM2).L m.seq m.o _ (unhide HM2).blocks (lens9V (unhide HSH).1) (unhide HM2).ints (by omega)).mono ?_
  rintro e w3 ⟨r, rfl, hV3, hB3⟩
  have hs3 := hB3.size
  have HX3 := hide ((unhide HX2).below hB3 (by omega))
  have HM3 := hide ((unhide HM2).below hB3)
  have hW3 := hW2.trans (hB3.mono hW2.size)
  clear hB3 HX2 HM2 hW2 x0 x1 x2 x3
  obtain ⟨x0, x1, x2, x3⟩ := (unhide HX3).cells
  have HV := hide hV3
  clear hV3
  go_wp2_with fail
  refine (specVictimOf_any a1 c1 m.bs n1 (unhide HM3).bs ma mc m.L mn (unhide HM3).L m.seq m.o _ (unhide HM3).blocks (unhide HSH).1 (unhide HM3).ints (by omega)).mono ?_
  rintro e w4 ⟨r4, rfl, hV4, hB4⟩
  obtain rfl := hV4.one (unhide HV)
  have hs4 := hB4.size
  have HX4 := hide ((unhide HX3).below hB4 (by omega))
  have HM4 := hide ((unhide HM3).below hB4)
  have hW4 := hW3.trans (hB4.mono hW3.size)
  clear hB4 HX3 HM3 hW3 x0 x1 x2 x3
  obtain ⟨x0, x1, x2, x3⟩ := (unhide HX4).cells
  clear hV4
  have hne : (r4 != r4) = false := by simp
  go_wp2_with fail
  refine (specFtlOk_any a1 c1 m.bs n1 (unhide HM4).bs ma mc m.L mn (unhide HM4).L m.seq m.o _ (unhide HM4).blocks (unhide HSH).1 (unhide HM4).ints (by omega)).mono ?_
  rintro e w5 ⟨⟨q, rfl, hq⟩, hB5⟩
  have hs5 := hB5.size
  have HX5 := hide ((unhide HX4).below hB5 (by omega))
  have HM5 := hide ((unhide HM4).below hB5)
  have hW5 := hW4.trans (hB5.mono hW4.size)
  clear hB5 HX4 HM4 hW4 x0 x1 x2 x3
  obtain ⟨x0, x1, x2, x3⟩ := (unhide HX5).cells
  have HQ := hide hq
  clear hq
  cases q with
  | false =>
    go_wp2_with fail
    refine (specVictimOf_any a1 c1 m.bs n1 (unhide HM5).bs ma mc m.L mn (unhide HM5).L m.seq m.o _ (unhide HM5).blocks (unhide HSH).1 (unhide HM5).ints (by omega)).mono ?_
    rintro e w6 ⟨r6, rfl, hV6, hB6⟩
    obtain rfl := hV6.one (unhide HV)
    have hW6 := hW5.trans (hB6.mono hW5.size)
    clear hB6 hV6 x0 x1 x2 x3
    go_wp2
    go_ret
    exact ⟨by simp, hW6⟩
  | true =>
    have hok : FtlOk m.bs m.L m.seq m.o := (unhide HQ).1 (by trivial)
    have hr : r4 = vicOf m.bs m.L m.o := by
      rcases unhide HV with ⟨_, h⟩ | ⟨h, _⟩
      · exact h
      · exact absurd hok h
    have HOK := hide hok
    have HR := hide hr
    have hvb := vicTo_bounds m.bs m.L m.o m.bs.length
    have hvn : r4 < (n1 : Int) := by have := (unhide HM5).bs; unfold vicOf at hr; omega
    have hn12 : n1 ≤ 12 := by have := hok.chip.count; have := (unhide HM5).bs; omega
    have HVAL : Hid (∀ (b : Nat) (r : Int), b < n1 → ValidIs m.bs m.L m.seq m.o (b : Int) r → r = (validIn m.L (b : Int) : Int)) := fun b r hb h => by
      rcases h with ⟨_, h⟩ | ⟨h, _⟩
      · exact h
      · exact absurd ⟨unhide HOK, by omega, by have := (unhide HM5).bs; omega⟩ h
    have HFEW : Hid (∀ b : Nat, validIn m.L (b : Int) ≤ 4) := fun b => (unhide HOK).validFew b
    have HSUM : Hid (∀ b, sumTo (fun i => validIn m.L (i : Int)) b ≤ b * 4) := fun b => by
      induction b with
      | zero => exact Nat.le_refl _
      | succ b ih => have := unhide HFEW b; simp only [sumTo]; omega
    have hl15 : w1.heap.size < w5.heap.size := by omega
    clear hok hr HQ HV hvb
    go_wp2
    clear x0 x1 x2 x3
    go_loopw [5, 6] (fun vs vi wr => ∃ b : Nat, b ≤ n1 ∧ vi = .int .i64 b ∧ vs = .int .i64 (sumTo (fun i => validIn m.L (i : Int)) b : Nat) ∧ Below w5.heap.size w5 wr) (fun _ vi _ => n1 - (intOf vi).toNat)
    case atStart => exact ⟨0, Nat.zero_le _, rfl, rfl, Below.refl _ _⟩
    case round =>
      obtain ⟨b, hb, rfl, rfl, hB⟩ := hrel
      obtain ⟨w6, rfl⟩ : ∃ w6, w6 = wr := ⟨_, rfl⟩
      have hs6 := hB.size
      have HX6 := hide ((unhide HX5).below hB hl15)
      have HM6 := hide ((unhide HM5).below hB)
      have HB6 := hide hB
      obtain ⟨x0, x1, x2, x3⟩ := (unhide HX6).cells
      clear hB
      by_cases hlt : b < n1
      · have hbi : (b : Int) < (n1 : Int) := by omega
        obtain ⟨y, hy⟩ := getElem?_ex (l := m.bs) (k := b) (by have := (unhide HM5).bs; omega)
        have HY := hide hy
        have hsm := unhide HSUM b
        have hfw := unhide HFEW b
        clear hy
        go_wp2_with fail
        refine (implValidOf_any a1 c1 m.bs n1 (unhide HM6).bs ma mc m.L mn (unhide HM6).L m.seq m.o (b : Int) _ (unhide HM6).blocks (lens9V (unhide HSH).1) (unhide HM6).ints (by omega)).mono ?_
        rintro e w7 ⟨r7, rfl, hr7, hB7⟩
        obtain rfl := unhide HVAL b r7 hlt hr7
        have hs7 := hB7.size
        have HX7 := hide ((unhide HX6).below hB7 (by omega))
        have HM7 := hide ((unhide HM6).below hB7)
        have HB7 := hide ((unhide HB6).trans (hB7.mono hs6))
        clear hB7 hr7 x0 x1 x2 x3 HX6 HM6 HB6
        obtain ⟨x0, x1, x2, x3⟩ := (unhide HX7).cells
        obtain ⟨V, hV⟩ : ∃ V, V = validIn m.L (b : Int) := ⟨_, rfl⟩
        have hss : sumTo (fun i => validIn m.L (i : Int)) (b + 1) = sumTo (fun i => validIn m.L (i : Int)) b + V := by rw [hV]; rfl
        obtain ⟨S, hS⟩ : ∃ S, S = sumTo (fun i => validIn m.L (i : Int)) b := ⟨_, rfl⟩
        rw [← hS] at hss hsm ⊢
        rw [← hV] at hfw ⊢
        have HSS := hide hss
        have HVE := hide hV
        clear hss hS hV
        go_wp2_with fail
        refine (implNextOf_any a1 c1 m.bs n1 (unhide HM7).bs (b : Int) _ (unhide HM7).blocks (lens9V (unhide HSH).1)).mono ?_
        rintro e w8 ⟨r8, rfl, hr8, hB8⟩
        have hfull := next_full (unhide HOK).chip (unhide HY) hr8
        have hs8 := hB8.size
        have HX8 := hide ((unhide HX7).below hB8 (by omega))
        have HM8 := hide ((unhide HM7).below hB8)
        have HB8 := hide ((unhide HB7).trans (hB8.mono (by omega)))
        have hFU := hide hfull
        clear hB8 hr8 x0 x1 x2 x3 HX7 HM7 HB7 hfull
        obtain ⟨x0, x1, x2, x3⟩ := (unhide HX8).cells
        have hv4 : ¬ (4 : Int) < (V : Int) := by omega
        have hv0 : ¬ (V : Int) < 0 := by omega
        have HREL : ∀ wr, Below w5.heap.size w5 wr → ∃ b' : Nat, b' ≤ n1 ∧ Value.int .i64 ((b : Int) + 1) = .int .i64 b' ∧ Value.int .i64 ((S : Int) + (V : Int)) = .int .i64 (sumTo (fun i => validIn m.L (i : Int)) b' : Nat) ∧ Below w5.heap.size w5 wr := fun wr hB => ⟨b + 1, by omega, by simp, by rw [unhide HSS]; simp, hB⟩
        have HREL := hide HREL
        by_cases hf : r8 < 0 ∧ (b : Int) ≠ m.o
        · obtain ⟨hf1, hf2⟩ := hf
          have hbo : ((b : Int) != m.o) = true := by simpa using hf2
          have hv : 0 ≤ r4 := by rw [unhide HR]; exact vicTo_full (unhide HY) hf2 ((unhide hFU).1 hf1) _ (by have := (unhide HM8).bs; omega)
          obtain ⟨v, rfl⟩ := Int.eq_ofNat_of_zero_le hv
          have hmin : validIn m.L (v : Int) ≤ V := by
            have := vicTo_min (L := m.L) (o := m.o) m.bs.length b y (by have := (unhide HM8).bs; omega) (unhide HY) hf2 ((unhide hFU).1 hf1)
            rw [unhide HVE]
            have e := unhide HR
            unfold vicOf at e
            rw [e]
            exact this
          have hnv : ¬ (v : Int) < 0 := by omega
          have HMIN := hide hmin
          clear hmin
          go_wp2_with fail
          refine (implValidOf_any a1 c1 m.bs n1 (unhide HM8).bs ma mc m.L mn (unhide HM8).L m.seq m.o (v : Int) _ (unhide HM8).blocks (lens9V (unhide HSH).1) (unhide HM8).ints (by omega)).mono ?_
          rintro e w9 ⟨r9, rfl, hr9, hB9⟩
          obtain rfl := unhide HVAL v r9 (by omega) hr9
          have hlv : ¬ (V : Int) < (validIn m.L (v : Int) : Int) := by have := unhide HMIN; omega
          have HB9 := hide ((unhide HB8).trans (hB9.mono (by omega)))
          clear hB9 hr9 x0 x1 x2 x3
          go_wp2
          go_roundw
          case rel => exact unhide HREL _ (unhide HB9)
          case measure => simp [intOf]; omega
        · by_cases hf1 : r8 < 0
          · have hbo : ((b : Int) != m.o) = false := by
              by_cases e : (b : Int) = m.o
              · simp [e]
              · exact absurd ⟨hf1, e⟩ hf
            clear hf
            go_wp2
            go_roundw
            case rel => exact unhide HREL _ (unhide HB8)
            case measure => simp [intOf]; omega
          · clear hf
            go_wp2
            go_roundw
            case rel => exact unhide HREL _ (unhide HB8)
            case measure => simp [intOf]; omega
      · obtain rfl : b = n1 := by omega
        have hsum : sumTo (fun i => validIn m.L (i : Int)) b = someIn m.L := by have := (unhide HOK).sum; rw [(unhide HM5).bs] at this; exact this
        rw [hsum]
        have hW6 := hW5.trans ((unhide HB6).mono hW5.size)
        have hs36 : someIn m.L ≤ m.L.length := List.length_filter_le _ _
        have hmL := (unhide HM5).L
        have hl16 : w1.heap.size < w6.heap.size := by omega
        clear hsum
        go_wp2
        clear x0 x1 x2 x3
        go_loopw [9, 10] (fun vs vi wr => ∃ k : Nat, k ≤ mn ∧ vi = .int .i64 k ∧ vs = .int .i64 (someIn (m.L.take k) : Nat) ∧ wr = w6) (fun _ vi _ => mn - (intOf vi).toNat)
        case atStart => exact ⟨0, Nat.zero_le _, rfl, rfl, rfl⟩
        case round =>
          obtain ⟨k, hk, rfl, rfl, rfl⟩ := hrel
          obtain ⟨x0, x1, x2, x3⟩ := (unhide HX6).cells
          have hsk : someIn (m.L.take k) ≤ k := by unfold someIn; have := List.length_filter_le (fun x => decide ((0 : Int) ≤ x)) (m.L.take k); rw [List.length_take] at this; omega
          by_cases hlt2 : k < mn
          · obtain ⟨z, hz⟩ := getElem?_ex (l := m.L) (k := k) (by omega)
            obtain ⟨g, o, rfl, hcz⟩ := (unhide HM6).ints k z hz
            have hst := someIn_take hz
            obtain ⟨S, hS⟩ : ∃ S, S = someIn (m.L.take k) := ⟨_, rfl⟩
            rw [← hS] at hst hsk ⊢
            have HST := hide hst
            clear hst hS hz
            by_cases h0 : 0 ≤ z
            · go_wp2
              go_roundw
              case rel => exact ⟨k + 1, by omega, by go_num, by rw [unhide HST, if_pos h0]; go_num, trivial⟩
              case measure => simp [intOf]; omega
            · go_wp2
              go_roundw
              case rel => exact ⟨k + 1, by omega, by go_num, by rw [unhide HST, if_neg h0]; simp, trivial⟩
              case measure => simp [intOf]; omega
          · obtain rfl : k = mn := by omega
            have htk : m.L.take k = m.L := List.take_of_length_le (by omega)
            rw [htk]
            have heq : (((someIn m.L : Nat) : Int) == ((someIn m.L : Nat) : Int)) = true := by simp
            clear htk
            by_cases hv : r4 < 0
            · go_wp2
              go_ret
              exact ⟨rfl, hW6⟩
            · obtain ⟨v, y, e, hy, hfy, hvo⟩ := FtlOk.victimFull (bs := m.bs) (L := m.L) (o := m.o) (by have := unhide HR; omega)
              obtain rfl : r4 = (v : Int) := by rw [unhide HR, e]
              have hvo2 : ((v : Int) != m.o) = true := by simpa using hvo
              have HY := hide hy
              clear hy e
              go_wp2_with fail
              refine (implNextOf_any a1 c1 m.bs b (unhide HM6).bs (v : Int) _ (unhide HM6).blocks (lens9V (unhide HSH).1)).mono ?_
              rintro e w9 ⟨r9, rfl, hr9, hB9⟩
              have hneg : r9 < 0 := (next_full (unhide HOK).chip (unhide HY) hr9).2 hfy
              have y3 := ((unhide HX6).below hB9 (by omega)).cells.2.2.2
              have hW9 := hW6.trans (hB9.mono hW6.size)
              clear hB9 hr9 x0 x1 x2 x3
              go_wp2
              go_ret
              exact ⟨rfl, hW9⟩

set_option maxRecDepth 100000 in
theorem lifted (os : Os) (started : os.Started) (H : Type) (enc : TypeId × Value → H) :
    ReturnsInHanded {} Try.checked os 6 .any (Rows.fnVictimSpec.pre6 enc Try.prog Try.f6 Rows.fnVictimRow.domain false) (Rows.fnVictimSpec.post enc Try.prog Try.f6 false true false false) := by
  refine returnsInHanded_of_change (C := Try.checked) own started (by kernel_rfl) Try.func6
    (ChangeSpec.witness6 (enc := enc) (C := Try.checked) false ⟨#[], #[.slice none 0 0], []⟩ 8 (by kernel_rfl) (by kernel_rfl) (by kernel_rfl) (by kernel_rfl)) ?_
  intro W base args ds gs before hval0 hW hcnd _
  have hval : ∀ (j : Nat) t v, Try.f6.params[j]? = some t → args[j]? = some v → Value.okWide Try.prog W .any base t v := hval0
  have hW' := hW
  obtain ⟨p, q, hA0, hV, rfl, hfz, hnd⟩ := hW
  have hA : DataW.TrodAll enc Try.prog W 0 (fun _ => true) true Try.f6.params.toList args.toList ds p := hA0
  rw [Try.params6] at hA hval
  obtain ⟨v0, vs0, d0, ds0, p0, q0, hargs, rfl, rfl, h0, r0⟩ := trodAll_cons hA
  obtain ⟨rfl, rfl, rfl⟩ := trodAll_nil r0
  obtain rfl : args = #[v0] := by cases args; simp_all
  obtain ⟨rfl, rfl⟩ := trodVars_none hV
  have k0 := h0
  have lt0 : ∀ x ∈ p0, x.block < W.heap.size := by obtain ⟨m, hm⟩ := k0; exact DataW.trod_lt m _ _ _ hm
  obtain ⟨a, n, c, rfl, hL, hlen⟩ := open_code Try.underlying22 Try.underlying5 (by kernel_rfl) (hval 0 22 v0 rfl rfl) h0

  clear hA0 hval0
  refine (walk a n c W hL hlen).mono fun e W' ⟨he, bel⟩ => ?_
  subst he
  exact ⟨_, rfl, _, _, _, [], _, [], hW', trodAll_mk1 (shut_bool Try.underlying4 _), (trodAll_cons_mk (Below.trod laidOut (by kernel_rfl) (of_decide_eq_true (by kernel_rfl)) k0 bel lt0) trodAll_mk0), rfl, bel.frame _, fun h => by cases h⟩

theorem over : Rows.fnVictimRow.holds Try.pinned (OpenSpec.ofChange Rows.fnVictimSpec) :=
  OpenClaim.holds_of_wide 6 Try.f6 rfl rfl rfl rfl rfl rfl rfl ⟨rfl, rfl, rfl, rfl, rfl⟩ rfl rfl rfl rfl rfl (by kernel_rfl) Try.func6 (by kernel_rfl)
    (of_decide_eq_true (by kernel_rfl)) (by unfold Func.isWrapper; first | (rw [if_pos (by decide +kernel)]; kernel_rfl) | (rw [if_neg (by decide +kernel)]; exact ⟨rfl, rfl⟩))
    (fun os started H enc _ => lifted os started H enc)

end Go.Proofs.Ytalgkmellbamgaa.fnVictim
namespace Go.Proofs.Ytalgkmellbamgaa
theorem victimP_holds : Rows.FnVictimSaid := fnVictim.over
end Go.Proofs.Ytalgkmellbamgaa
