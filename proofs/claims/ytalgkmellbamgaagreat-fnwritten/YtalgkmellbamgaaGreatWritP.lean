/- Whatever the code, the law FnWritten answers true: what is written is read, and all else as it was; a right member stays one. No condition. -/
import Derived.Test.YtalgkmellbamgaaGreatRows
import Derived.Test.YtalgkmellbamgaaGreatG43
import Derived.Test.YtalgkmellbamgaaGreatG33
import Derived.Test.YtalgkmellbamgaaGreatG19
import Derived.Test.YtalgkmellbamgaaGreatG44
import Derived.Test.YtalgkmellbamgaaGreatG42
import Derived.Test.YtalgkmellbamgaaGreatG28
import Derived.WalkKit
import Derived.ProofKit
import Derived.OpenShut
import Derived.ChangeOld
import Derived.Below
namespace Go.Proofs.YtalgkmellbamgaaGreat.fnWritten
open Go.ChangeShapes Go.WideShapes Go.ChangeAt Go.RowKit
set_option linter.unusedVariables false
set_option linter.unusedSimpArgs false

theorem lens9W {bs : List Bk} (h : Lens 1048576 bs) : Lens 9223372036854775807 bs := ⟨by have := h.1; omega, fun b hb => by have := h.2 b hb; omega⟩
theorem page_read {bs : List Bk} {L : List Int} {seq o : Int} {i : Nat} {d : ByteArray} {r : Bool} (hok : FtlOk bs L seq o) (hi : i < L.length) (h : PageIs bs L seq o (i : Int) d r) : r = true ∧ d = readOf bs (i : Int) := by
  rcases h with ⟨_, h1, x, hx, hd⟩ | ⟨h, _⟩
  · rw [Int.toNat_natCast] at hx
    exact ⟨h1, hd.trans (hok.read hx)⟩
  · exact absurd ⟨hok, by omega, by omega⟩ h

set_option maxRecDepth 100000 in
set_option maxHeartbeats 8000000 in
theorem walk (a : Option Addr) (n c : Nat) (w : World) (h : CodeAt w a n) (hn : n ≤ 9223372036854775807) :
    Calls Tryz.prog 3 #[.slice a n c] w fun e w' => e = .returned (.bool true) ∧ Below w.heap.size w w' := by
  have HC := hide h
  clear h
  go_enter Tryz.func3, Tryz.ntmps3
  go_wp2_with fail
  refine (big_any a n c _ hn).mono ?_
  rintro e w0 ⟨rfl, rfl⟩
  by_cases hbig : (1048576 : Int) < (n : Int)
  · have hd : decide ((1048576 : Int) < (n : Int)) = true := by simpa using hbig
    rw [hd]
    clear hd
    go_wp2
    go_ret
    exact ⟨rfl, Below.refl _ _⟩
  have hd : decide ((1048576 : Int) < (n : Int)) = false := by simpa using hbig
  have hbig' : n ≤ 1048576 := by omega
  rw [hd]
  clear hd hbig
  go_wp2_with fail
  refine (drawWritten_any a n c _ (unhide HC) hbig').mono ?_
  rintro e w1 ⟨a1, n1, c1, ma, mn, mc, m, lg, d, rfl, hM1, hS1, hd1, hW1⟩
  have hs1 := hW1.size
  have HSH := hide hS1
  obtain ⟨w2, hw2⟩ : ∃ w2, w2 = w1.alloc (.cells #[.slice a1 n1 c1, .slice ma mn mc, .int .i64 m.seq, .int .i64 m.o] 29) := ⟨_, rfl⟩
  have hBw2 : Below w1.heap.size w1 w2 := by rw [hw2]; exact (Below.refl _ _).alloc (Nat.le_refl _) _
  have HX2 : Hid (BoxAt w2 w1.heap.size a1 n1 c1 ma mn mc m.seq m.o) := by rw [hw2]; exact BoxAt.alloc _ _ _ _ _ _ _ _ _ _
  have HM2 := hide (hM1.below hBw2)
  have hW2 := hW1.trans (hBw2.mono hW1.size)
  have hmn : mn ≤ 36 := by have := hS1.2.2; have := hM1.L; omega
  have hl12 : w1.heap.size < w2.heap.size := (unhide HX2).lt
  clear HC hM1 hS1 hBw2 hW1
  obtain ⟨x0, x1, x2, x3⟩ := (unhide HX2).cells
  go_wp2_with fail
  rw [← hw2]
  clear hw2
  refine (implWritten_any a1 c1 m.bs n1 (unhide HM2).bs ma mc m.L mn (unhide HM2).L m.seq m.o lg d _ (unhide HM2).blocks (lens9W (unhide HSH).1) (unhide HM2).ints (by omega) hd1).mono ?_
  rintro e w3 ⟨a6, n6, c6, ma6, mn6, mc6, bs6, L6, s6, o6, code, rfl, hWI, hO3, hB3⟩
  have hs3 := hB3.size
  have hsh := hWI.short
  have HWI := hide hWI
  have HS6 := hide hsh.1
  have hm6 : mn6 ≤ 36 := by have := hsh.2.2; have := hO3.length.2; omega
  obtain ⟨w4, hw4⟩ : ∃ w4, w4 = w3.alloc (.cells #[.slice a6 n6 c6, .slice ma6 mn6 mc6, .int .i64 s6, .int .i64 o6] 29) := ⟨_, rfl⟩
  have hBw4 : Below w3.heap.size w3 w4 := by rw [hw4]; exact (Below.refl _ _).alloc (Nat.le_refl _) _
  have HG4 : Hid (BoxAt w4 w3.heap.size a6 n6 c6 ma6 mn6 mc6 s6 o6) := by rw [hw4]; exact BoxAt.alloc _ _ _ _ _ _ _ _ _ _
  have hB24 := hB3.trans (hBw4.mono hB3.size)
  have HX4 := hide ((unhide HX2).below hB24 (by omega))
  have HM4 := hide ((unhide HM2).below hB24)
  have HO4 := hide (hO3.below hBw4)
  have hW4 := hW2.trans (hB24.mono hW2.size)
  have hl34 : w3.heap.size < w4.heap.size := (unhide HG4).lt
  have hl13 : w1.heap.size < w3.heap.size := by omega
  have HX3 := hide ((unhide HX2).below hB3 (by omega))
  clear hB3 hWI hO3 hBw4 hB24 hsh x0 x1 x2 x3 HX2 HM2 hW2
  obtain ⟨x0, x1, x2, x3⟩ := (unhide HX3).cells
  go_wp2_with fail
  rw [← hw4]
  clear hw4
  refine (specWritten_any a1 c1 m.bs n1 (unhide HM4).bs ma mc m.L mn (unhide HM4).L m.seq m.o lg d _ (unhide HM4).blocks (unhide HSH).1 (unhide HM4).ints (by omega) hd1).mono ?_
  rintro e w5 ⟨a7, n7, c7, ma7, mn7, mc7, bs7, L7, s7, o7, code7, rfl, hWI7, hbl, hLl, hA5, hI5, _, hB5⟩
  obtain ⟨rfl, rfl, rfl, rfl, rfl⟩ := hWI7.one (unhide HWI)
  obtain rfl : n7 = n6 := by have := (unhide HO4).length.1; omega
  obtain rfl : mn7 = mn6 := by have := (unhide HO4).length.2; omega
  have hs5 := hB5.size
  obtain ⟨w6, hw6⟩ : ∃ w6, w6 = w5.alloc (.cells #[.slice a7 n7 c7, .slice ma7 mn7 mc7, .int .i64 s7, .int .i64 o7] 29) := ⟨_, rfl⟩
  have hBw6 : Below w5.heap.size w5 w6 := by rw [hw6]; exact (Below.refl _ _).alloc (Nat.le_refl _) _
  have HV6 : Hid (BoxAt w6 w5.heap.size a7 n7 c7 ma7 mn7 mc7 s7 o7) := by rw [hw6]; exact BoxAt.alloc _ _ _ _ _ _ _ _ _ _
  have hB46 := hB5.trans (hBw6.mono hB5.size)
  have HX6 := hide ((unhide HX4).below hB46 (by omega))
  have HG6 := hide ((unhide HG4).below hB46 (by omega))
  have HM6 := hide ((unhide HM4).below hB46)
  have HO6 := hide ((unhide HO4).below hB46)
  have HA6 := hide (hA5.below hBw6 (Nat.le_refl _))
  have HI6 := hide (hI5.below hBw6 (Nat.le_refl _))
  have HBL := hide hbl
  have HLL := hide hLl
  have hW6 := hW4.trans (hB46.mono hW4.size)
  have hl56 : w5.heap.size < w6.heap.size := (unhide HV6).lt
  have hne : (code7 != code7) = false := by simp
  have heq : (code7 == code7) = true := by simp
  have hl35 : w3.heap.size < w5.heap.size := by omega
  have HG5 := hide ((unhide HG4).below hB5 (by omega))
  clear hB5 hWI7 hbl hLl hA5 hI5 hBw6 hB46 x0 x1 x2 x3 HX3 HX4 HG4 HM4 HO4 hW4
  obtain ⟨y0, y1, y2, y3⟩ := (unhide HG5).cells
  go_wp2_with fail
  rw [← hw6]
  clear hw6
  refine (sameFtl_same a6 a7 c6 c7 bs7 n7 (unhide HBL) ma6 ma7 mc6 mc7 L7 mn7 (unhide HLL) s7 o7 _ (unhide HO6).blocksAt (unhide HA6) (unhide HS6) (unhide HO6).2.1 (unhide HI6) (by omega)).mono ?_
  rintro e w7 ⟨rfl, hB7⟩
  have hs7 := hB7.size
  have HX7 := hide ((unhide HX6).below hB7 (by omega))
  have HG7 := hide ((unhide HG6).below hB7 (by omega))
  have HV7 := hide ((unhide HV6).below hB7 (by omega))
  have HM7 := hide ((unhide HM6).below hB7)
  have HO7 := hide ((unhide HO6).below hB7)
  have HA7 := hide ((unhide HA6).below hB7 (Nat.le_refl _))
  have HI7 := hide ((unhide HI6).below hB7 (Nat.le_refl _))
  have hW7 := hW6.trans (hB7.mono hW6.size)
  clear hB7 y0 y1 y2 y3 HG5 HX6 HG6 HV6 HM6 HO6 HA6 HI6 hW6
  by_cases h1 : code7 = 1
  · have hc1 : (code7 == 1) = true := by simpa using h1
    obtain ⟨y0, y1, y2, y3⟩ := (unhide HG7).cells
    obtain ⟨v0, v1, v2, v3⟩ := (unhide HV7).cells
    go_wp2_with fail
    refine (sameFtl_same a6 a7 c6 c7 bs7 n7 (unhide HBL) ma6 ma7 mc6 mc7 L7 mn7 (unhide HLL) s7 o7 _ (unhide HO7).blocksAt (unhide HA7) (unhide HS6) (unhide HO7).2.1 (unhide HI7) (by omega)).mono ?_
    rintro e w8 ⟨rfl, hB8⟩
    have hW8 := hW7.trans (hB8.mono hW7.size)
    clear hB8
    go_wp2
    go_ret
    exact ⟨rfl, hW8⟩
  have hc1 : (code7 == 1) = false := by simpa using h1
  by_cases h0 : code7 = 0
  case neg =>
    have hc0 : (code7 != 0) = true := by simpa using h0
    obtain ⟨rfl, rfl, rfl, rfl⟩ : bs7 = m.bs ∧ L7 = m.L ∧ s7 = m.seq ∧ o7 = m.o := by
      rcases unhide HWI with ⟨_, _, _, _, _, h⟩ | ⟨_, _, q1, q2, q3, q4, _⟩ | ⟨_, _, _, q1, q2, q3, q4, _⟩ | ⟨_, _, _, _, h⟩
      · exact absurd h h1
      · exact ⟨q1, q2, q3, q4⟩
      · exact ⟨q1, q2, q3, q4⟩
      · exact absurd h h0
    obtain rfl : n7 = n1 := by have := unhide HBL; have := (unhide HM7).bs; omega
    obtain rfl : mn7 = mn := by have := unhide HLL; have := (unhide HM7).L; omega
    obtain ⟨y0, y1, y2, y3⟩ := (unhide HG7).cells
    obtain ⟨x0, x1, x2, x3⟩ := (unhide HX7).cells
    go_wp2_with fail
    refine (sameFtl_same a6 a1 c6 c1 m.bs n7 (unhide HBL) ma6 ma mc6 mc m.L mn7 (unhide HLL) m.seq m.o _ (unhide HO7).blocksAt (unhide HM7).blocks (unhide HS6) (unhide HO7).2.1 (unhide HM7).ints (by omega)).mono ?_
    rintro e w8 ⟨rfl, hB8⟩
    have hW8 := hW7.trans (hB8.mono hW7.size)
    clear hB8
    go_wp2
    go_ret
    exact ⟨rfl, hW8⟩
  case pos =>
    subst h0
    obtain ⟨hok, hfo, hro, hdone⟩ : FtlOk m.bs m.L m.seq m.o ∧ formOk m.bs lg d ∧ roomy m.bs m.seq ∧ DoneIs m.bs m.L m.seq m.o lg d bs7 L7 s7 o7 := by
      rcases unhide HWI with ⟨_, _, _, _, _, h⟩ | ⟨_, _, _, _, _, _, h⟩ | ⟨_, _, _, _, _, _, _, h⟩ | ⟨q1, q2, q3, q4, _⟩
      · cases h
      · cases h
      · cases h
      · exact ⟨q1, q2, q3, q4⟩
    obtain ⟨hok', hlen', hread⟩ := hok.wrote hfo hro hdone
    have hmm : mn7 = mn := by
      have e1 := hok.len
      have e2 := hok'.len
      have := unhide HLL
      have := (unhide HM7).L
      rw [hlen'] at e2
      omega
    subst hmm
    have HOK := hide hok
    have HOK2 := hide hok'
    have HRD := hide hread
    have hl17 : w1.heap.size < w7.heap.size := by omega
    have hl37 : w3.heap.size < w7.heap.size := by omega
    clear hok hfo hro hdone hok' hlen' hread HWI hc1 h1
    obtain ⟨x0, x1, x2, x3⟩ := (unhide HX7).cells
    go_wp2
    clear x0 x1 x2 x3
    go_loopw [10] (fun vi wr => ∃ k : Nat, k ≤ mn7 ∧ vi = .int .i64 k ∧ Below w7.heap.size w7 wr) (fun vi _ => mn7 - (intOf vi).toNat)
    case atStart => exact ⟨0, Nat.zero_le _, rfl, Below.refl _ _⟩
    case round =>
      obtain ⟨k, hk, rfl, hB⟩ := hrel
      obtain ⟨w8, rfl⟩ : ∃ w8, w8 = wr := ⟨_, rfl⟩
      have hs8 := hB.size
      have HX8 := hide ((unhide HX7).below hB hl17)
      have HG8 := hide ((unhide HG7).below hB hl37)
      have HM8 := hide ((unhide HM7).below hB)
      have HO8 := hide ((unhide HO7).below hB)
      have hW8 := hW7.trans (hB.mono hW7.size)
      have HB8 := hide hB
      obtain ⟨x0, x1, x2, x3⟩ := (unhide HX8).cells
      clear hB
      by_cases hlt : k < mn7
      · have hki : (k : Int) < (mn7 : Int) := by omega
        go_wp2_with fail
        refine (implPageAt_any a1 c1 m.bs n1 (unhide HM8).bs ma mc m.L mn7 (unhide HM8).L m.seq m.o (k : Int) _ (unhide HM8).blocks (lens9W (unhide HSH).1) (unhide HM8).ints (by omega)).mono ?_
        rintro e w9 ⟨d9, r9, rfl, hP9, hB9⟩
        obtain ⟨rfl, rfl⟩ := page_read (unhide HOK) (by have := (unhide HM8).L; omega) hP9
        have hs9 := hB9.size
        have HG9 := hide ((unhide HG8).below hB9 (by omega))
        have HO9 := hide ((unhide HO8).below hB9)
        have HB9 := hide ((unhide HB8).trans (hB9.mono hs8))
        clear hB9 hP9 x0 x1 x2 x3 HX8 HG8 HO8 HB8
        obtain ⟨y0, y1, y2, y3⟩ := (unhide HG9).cells
        go_wp2_with fail
        refine (implPageAt_any a6 c6 bs7 n7 (unhide HBL) ma6 mc6 L7 mn7 (unhide HLL) s7 o7 (k : Int) _ (unhide HO9).blocksAt (lens9W (unhide HS6)) (unhide HO9).2.1 (by omega)).mono ?_
        rintro e w10 ⟨d10, r10, rfl, hP10, hB10⟩
        obtain ⟨rfl, rfl⟩ := page_read (unhide HOK2) (by have := unhide HLL; omega) hP10
        have HB10 := hide ((unhide HB9).trans (hB10.mono (by omega)))
        rw [unhide HRD (k : Int)]
        clear hB10 hP10 y0 y1 y2 y3 HG9 HO9 HB9
        by_cases hkl : (k : Int) = lg
        · have hb : ((k : Int) == lg) = true := by simpa using hkl
          rw [if_pos hkl.symm]
          clear hkl
          go_wp2
          go_roundw
          case rel => exact ⟨k + 1, by omega, by go_num, unhide HB10⟩
          case measure => simp [intOf]; omega
        · have hb : ((k : Int) == lg) = false := by simpa using hkl
          rw [if_neg (fun h => hkl h.symm)]
          clear hkl
          go_wp2
          go_roundw
          case rel => exact ⟨k + 1, by omega, by go_num, unhide HB10⟩
          case measure => simp [intOf]; omega
      · obtain rfl : k = mn7 := by omega
        obtain ⟨y0, y1, y2, y3⟩ := (unhide HG8).cells
        go_wp2_with fail
        refine (implFtlOk_any a6 c6 bs7 n7 (unhide HBL) ma6 mc6 L7 k (unhide HLL) s7 o7 _ (unhide HO8).blocksAt (lens9W (unhide HS6)) (unhide HO8).2.1 (by omega)).mono ?_
        rintro e w9 ⟨⟨r9, rfl, hr9⟩, hB9⟩
        obtain rfl : r9 = true := hr9.2 (unhide HOK2)
        have z1 := ((unhide HG8).below hB9 (by omega)).cells.2.1
        have q1 := ((unhide HX8).below hB9 (by omega)).cells.2.1
        have hW9 := hW8.trans (hB9.mono hW8.size)
        clear hB9 hr9 x0 x1 x2 x3 y0 y1 y2 y3
        go_wp2
        go_ret
        exact ⟨by simp, hW9⟩

set_option maxRecDepth 100000 in
theorem lifted (os : Os) (started : os.Started) (H : Type) (enc : TypeId × Value → H) :
    ReturnsInHanded {} Tryz.checked os 3 .any (Rows.fnWrittenSpec.pre6 enc Tryz.prog Tryz.f3 Rows.fnWrittenRow.domain false) (Rows.fnWrittenSpec.post enc Tryz.prog Tryz.f3 false true false false) := by
  refine returnsInHanded_of_change (C := Tryz.checked) own started (by kernel_rfl) Tryz.func3
    (ChangeSpec.witness6 (enc := enc) (C := Tryz.checked) false ⟨#[], #[.slice none 0 0], []⟩ 8 (by kernel_rfl) (by kernel_rfl) (by kernel_rfl) (by kernel_rfl)) ?_
  intro W base args ds gs before hval0 hW hcnd _
  have hval : ∀ (j : Nat) t v, Tryz.f3.params[j]? = some t → args[j]? = some v → Value.okWide Tryz.prog W .any base t v := hval0
  have hW' := hW
  obtain ⟨p, q, hA0, hV, rfl, hfz, hnd⟩ := hW
  have hA : DataW.TrodAll enc Tryz.prog W 0 (fun _ => true) true Tryz.f3.params.toList args.toList ds p := hA0
  rw [Tryz.params3] at hA hval
  obtain ⟨v0, vs0, d0, ds0, p0, q0, hargs, rfl, rfl, h0, r0⟩ := trodAll_cons hA
  obtain ⟨rfl, rfl, rfl⟩ := trodAll_nil r0
  obtain rfl : args = #[v0] := by cases args; simp_all
  obtain ⟨rfl, rfl⟩ := trodVars_none hV
  have k0 := h0
  have lt0 : ∀ x ∈ p0, x.block < W.heap.size := by obtain ⟨m, hm⟩ := k0; exact DataW.trod_lt m _ _ _ hm
  obtain ⟨a, n, c, rfl, hL, hlen⟩ := open_code Tryz.underlying22 Tryz.underlying5 (by kernel_rfl) (hval 0 22 v0 rfl rfl) h0

  clear hA0 hval0
  refine (walk a n c W hL hlen).mono fun e W' ⟨he, bel⟩ => ?_
  subst he
  exact ⟨_, rfl, _, _, _, [], _, [], hW', trodAll_mk1 (shut_bool Tryz.underlying4 _), (trodAll_cons_mk (Below.trod laidOut (by kernel_rfl) (of_decide_eq_true (by kernel_rfl)) k0 bel lt0) trodAll_mk0), rfl, bel.frame _, fun h => by cases h⟩

theorem over : Rows.fnWrittenRow.holds Tryz.pinned (OpenSpec.ofChange Rows.fnWrittenSpec) :=
  OpenClaim.holds_of_wide 3 Tryz.f3 rfl rfl rfl rfl rfl rfl rfl ⟨rfl, rfl, rfl, rfl, rfl⟩ rfl rfl rfl rfl rfl (by kernel_rfl) Tryz.func3 (by kernel_rfl)
    (of_decide_eq_true (by kernel_rfl)) (by unfold Func.isWrapper; first | (rw [if_pos (by decide +kernel)]; kernel_rfl) | (rw [if_neg (by decide +kernel)]; exact ⟨rfl, rfl⟩))
    (fun os started H enc _ => lifted os started H enc)

end Go.Proofs.YtalgkmellbamgaaGreat.fnWritten
namespace Go.Proofs.YtalgkmellbamgaaGreat
theorem writtenP_holds : Rows.FnWrittenSaid := fnWritten.over
end Go.Proofs.YtalgkmellbamgaaGreat
