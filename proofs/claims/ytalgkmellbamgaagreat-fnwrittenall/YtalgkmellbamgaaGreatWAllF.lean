/- Whatever the code, the law FnWrittenAll answers true: of many writes each log has what was written last. No condition. -/
import Derived.Test.YtalgkmellbamgaaGreatRows
import Derived.Test.YtalgkmellbamgaaGreatG45
import Derived.Test.YtalgkmellbamgaaGreatG37
import Derived.Test.YtalgkmellbamgaaGreatG36
import Derived.Test.YtalgkmellbamgaaGreatG44
import Derived.Test.YtalgkmellbamgaaGreatG42
import Derived.Test.YtalgkmellbamgaaGreatG28
import Derived.WalkKit
import Derived.ProofKit
import Derived.OpenShut
import Derived.ChangeOld
import Derived.Below
namespace Go.Proofs.YtalgkmellbamgaaGreat.fnWrittenAll
open Go.ChangeShapes Go.WideShapes Go.ChangeAt Go.RowKit
set_option linter.unusedVariables false
set_option linter.unusedSimpArgs false

theorem lens9V {bs : List Bk} (h : Lens 1048576 bs) : Lens 9223372036854775807 bs := ⟨by have := h.1; omega, fun b hb => by have := h.2 b hb; omega⟩
theorem page_readV {bs : List Bk} {L : List Int} {seq o : Int} {i : Nat} {d : ByteArray} {r : Bool} (hok : FtlOk bs L seq o) (hi : i < L.length) (h : PageIs bs L seq o (i : Int) d r) : r = true ∧ d = readOf bs (i : Int) := by
  rcases h with ⟨_, h1, x, hx, hd⟩ | ⟨h, _⟩
  · rw [Int.toNat_natCast] at hx
    exact ⟨h1, hd.trans (hok.read hx)⟩
  · exact absurd ⟨hok, by omega, by omega⟩ h
/-- What a log has behind many writes. -/
def lastOf (xs : List (Int × ByteArray)) (i : Int) (d : ByteArray) : ByteArray := xs.foldl (fun d x => if x.1 = i then x.2 else d) d
theorem lastOf_take {xs : List (Int × ByteArray)} {k : Nat} {x : Int × ByteArray} (hx : xs[k]? = some x) (i : Int) (d : ByteArray) : lastOf (xs.take (k + 1)) i d = if x.1 = i then x.2 else lastOf (xs.take k) i d := by
  obtain ⟨hk, rfl⟩ := List.getElem?_eq_some_iff.1 hx
  rw [List.take_succ_eq_append_getElem hk]
  unfold lastOf
  rw [List.foldl_append]
  rfl
theorem Steps.wrote : ∀ {xs : List (Int × ByteArray)} {m m' : Mb}, m.Ok → Steps xs m m' → m'.Ok ∧ m'.bs.length = m.bs.length ∧ ∀ i, readOf m'.bs i = lastOf xs i (readOf m.bs i) := by
  intro xs
  induction xs with
  | nil => intro m m' h k; cases k; exact ⟨h, rfl, fun i => rfl⟩
  | cons x xs ih =>
    rintro m m' h ⟨a, h1, h2⟩
    rcases h1 with ⟨_, _, _, _, _, q⟩ | ⟨_, _, _, _, _, _, q⟩ | ⟨_, _, _, _, _, _, _, q⟩ | ⟨q1, q2, q3, q4, _⟩
    · cases q
    · cases q
    · cases q
    · obtain ⟨k1, k2, k3⟩ := FtlOk.wrote q1 q2 q3 q4
      obtain ⟨e1, e2, e3⟩ := ih (m := a) k1 h2
      refine ⟨e1, e2.trans k2, fun i => ?_⟩
      rw [e3 i, k3 i]
      rfl
theorem texts_block {w w' : World} {P : Nat} : True := trivial

set_option maxRecDepth 100000 in
set_option maxHeartbeats 8000000 in
theorem walk (a : Option Addr) (n c : Nat) (w : World) (h : CodeAt w a n) (hn : n ≤ 9223372036854775807) :
    Calls Tryz.prog 4 #[.slice a n c] w fun e w' => e = .returned (.bool true) ∧ Below w.heap.size w w' := by
  have HC := hide h
  clear h
  go_enter Tryz.func4, Tryz.ntmps4
  go_wp2_with fail
  refine (big_any a n c _ hn).mono ?_
  rintro e w0 ⟨rfl, rfl⟩
  by_cases hbig : (1048576 : Int) < (n : Int)
  · have hd : decide ((1048576 : Int) < (n : Int)) = true := by simpa using hbig
    rw [hd]
    clear hd
    go_wp2
    go_ret
    exact ⟨rfl, Below.refl _ _⟩
  have hd : decide ((1048576 : Int) < (n : Int)) = false := by simpa using hbig
  have hbig' : n ≤ 1048576 := by omega
  rw [hd]
  clear hd hbig
  go_wp2_with fail
  refine (drawWrittenAll_any a n c _ (unhide HC) hbig').mono ?_
  rintro e w1 ⟨a1, n1, c1, ma, mn, mc, m, la, lc, Ls, ta, tc, Ts, rfl, hM1, hS1, hI1, hX1, hll, hl17, hs4, hW1⟩
  have hs1 := hW1.size
  have HSH := hide hS1
  obtain ⟨nl, hnl⟩ : ∃ nl, nl = Ls.length := ⟨_, rfl⟩
  obtain ⟨nt, hnt⟩ : ∃ nt, nt = Ts.length := ⟨_, rfl⟩
  rw [← hnl, ← hnt]
  have hl17' : nl ≤ 17 := by omega
  have hnt17 : nt ≤ 17 := by omega
  have HNL := hide hnl.symm
  have HNT := hide hnt.symm
  have HD4 : Hid (∀ d ∈ Ts, d.size ≤ 1048576) := fun d hd => by have := hs4 d hd; omega
  obtain ⟨w2, hw2⟩ : ∃ w2, w2 = w1.alloc (.cells #[.slice a1 n1 c1, .slice ma mn mc, .int .i64 m.seq, .int .i64 m.o] 29) := ⟨_, rfl⟩
  have hBw2 : Below w1.heap.size w1 w2 := by rw [hw2]; exact (Below.refl _ _).alloc (Nat.le_refl _) _
  have HX2 : Hid (BoxAt w2 w1.heap.size a1 n1 c1 ma mn mc m.seq m.o) := by rw [hw2]; exact BoxAt.alloc _ _ _ _ _ _ _ _ _ _
  have HM2 := hide (hM1.below hBw2)
  have HI2 := hide (hI1.below hBw2 (Nat.le_refl _))
  have HT2 := hide (hX1.below hBw2 (Nat.le_refl _))
  have hW2 := hW1.trans (hBw2.mono hW1.size)
  have hmn : mn ≤ 36 := by have := hS1.2.2; have := hM1.L; omega
  have hl12 : w1.heap.size < w2.heap.size := (unhide HX2).lt
  clear HC hM1 hS1 hBw2 hW1 hI1 hX1 hll hl17 hs4 hnl hnt
  obtain ⟨x0, x1, x2, x3⟩ := (unhide HX2).cells
  go_wp2_with fail
  rw [← hw2]
  clear hw2
  refine (implWrittenAll_any a1 c1 m n1 (unhide HM2).bs ma mc mn (unhide HM2).L la lc Ls nl (unhide HNL) ta tc Ts nt (unhide HNT) _ (unhide HM2).blocks (lens9V (unhide HSH).1) (unhide HM2).ints (by omega) (unhide HI2) (unhide HT2) (unhide HD4) (by omega) (by omega)).mono ?_
  rintro e w3 ⟨a6, n6, c6, ma6, mn6, mc6, m6, code, rfl, hWI, hO3, hB3⟩
  have hs3 := hB3.size
  have hsh := hWI.short
  have HWI := hide hWI
  have HS6 := hide hsh.1
  have hm6 : mn6 ≤ 36 := by have := hsh.2.2; have := hO3.length.2; omega
  obtain ⟨w4, hw4⟩ : ∃ w4, w4 = w3.alloc (.cells #[.slice a6 n6 c6, .slice ma6 mn6 mc6, .int .i64 m6.seq, .int .i64 m6.o] 29) := ⟨_, rfl⟩
  have hBw4 : Below w3.heap.size w3 w4 := by rw [hw4]; exact (Below.refl _ _).alloc (Nat.le_refl _) _
  have HG4 : Hid (BoxAt w4 w3.heap.size a6 n6 c6 ma6 mn6 mc6 m6.seq m6.o) := by rw [hw4]; exact BoxAt.alloc _ _ _ _ _ _ _ _ _ _
  have hB24 := hB3.trans (hBw4.mono hB3.size)
  have HX4 := hide ((unhide HX2).below hB24 (by omega))
  have HM4 := hide ((unhide HM2).below hB24)
  have HI4 := hide ((unhide HI2).below hB24 (Nat.le_refl _))
  have HT4 := hide ((unhide HT2).below hB24 (Nat.le_refl _))
  have HO4 := hide (hO3.below hBw4)
  have hW4 := hW2.trans (hB24.mono hW2.size)
  have hl34 : w3.heap.size < w4.heap.size := (unhide HG4).lt
  have hl13 : w1.heap.size < w3.heap.size := by omega
  have HX3 := hide ((unhide HX2).below hB3 (by omega))
  clear hB3 hWI hO3 hBw4 hB24 hsh x0 x1 x2 x3 HX2 HM2 HI2 HT2 hW2
  obtain ⟨x0, x1, x2, x3⟩ := (unhide HX3).cells
  go_wp2_with fail
  rw [← hw4]
  clear hw4
  refine (specWrittenAll_any a1 c1 m n1 (unhide HM4).bs ma mc mn (unhide HM4).L la lc Ls nl (unhide HNL) ta tc Ts nt (unhide HNT) _ (unhide HM4).blocks (unhide HSH).1 (unhide HM4).ints (by omega) (unhide HI4) (unhide HT4) (unhide HD4) (by omega) (by omega)).mono ?_
  rintro e w5 ⟨a7, n7, c7, ma7, mn7, mc7, m7, code7, rfl, hWI7, hA5, hB5⟩
  obtain ⟨rfl, rfl⟩ := hWI7.one (unhide HWI)
  obtain rfl : n7 = n6 := by have := (unhide HO4).length.1; have := hA5.bs; omega
  obtain rfl : mn7 = mn6 := by have := (unhide HO4).length.2; have := hA5.L; omega
  have hs5 := hB5.size
  obtain ⟨w6, hw6⟩ : ∃ w6, w6 = w5.alloc (.cells #[.slice a7 n7 c7, .slice ma7 mn7 mc7, .int .i64 m7.seq, .int .i64 m7.o] 29) := ⟨_, rfl⟩
  have hBw6 : Below w5.heap.size w5 w6 := by rw [hw6]; exact (Below.refl _ _).alloc (Nat.le_refl _) _
  have HV6 : Hid (BoxAt w6 w5.heap.size a7 n7 c7 ma7 mn7 mc7 m7.seq m7.o) := by rw [hw6]; exact BoxAt.alloc _ _ _ _ _ _ _ _ _ _
  have hB46 := hB5.trans (hBw6.mono hB5.size)
  have HX6 := hide ((unhide HX4).below hB46 (by omega))
  have HG6 := hide ((unhide HG4).below hB46 (by omega))
  have HM6 := hide ((unhide HM4).below hB46)
  have HI6 := hide ((unhide HI4).below hB46 (Nat.le_refl _))
  have HT6 := hide ((unhide HT4).below hB46 (Nat.le_refl _))
  have HO6 := hide ((unhide HO4).below hB46)
  have HA6 := hide (hA5.below hBw6)
  have hW6 := hW4.trans (hB46.mono hW4.size)
  have hl56 : w5.heap.size < w6.heap.size := (unhide HV6).lt
  have hne : (code7 != code7) = false := by simp
  have heq : (code7 == code7) = true := by simp
  have hl35 : w3.heap.size < w5.heap.size := by omega
  have HG5 := hide ((unhide HG4).below hB5 (by omega))
  clear hB5 hWI7 hA5 hBw6 hB46 x0 x1 x2 x3 HX3 HX4 HG4 HM4 HI4 HT4 HO4 hW4
  obtain ⟨y0, y1, y2, y3⟩ := (unhide HG5).cells
  go_wp2_with fail
  rw [← hw6]
  clear hw6
  refine (sameFtl_same a6 a7 c6 c7 m7.bs n7 (unhide HA6).bs ma6 ma7 mc6 mc7 m7.L mn7 (unhide HA6).L m7.seq m7.o _ (unhide HO6).blocksAt (unhide HA6).blocks (unhide HS6) (unhide HO6).2.1 (unhide HA6).ints (by omega)).mono ?_
  rintro e w7 ⟨rfl, hB7⟩
  have hs7 := hB7.size
  have HX7 := hide ((unhide HX6).below hB7 (by omega))
  have HG7 := hide ((unhide HG6).below hB7 (by omega))
  have HV7 := hide ((unhide HV6).below hB7 (by omega))
  have HM7 := hide ((unhide HM6).below hB7)
  have HI7 := hide ((unhide HI6).below hB7 (Nat.le_refl _))
  have HT7 := hide ((unhide HT6).below hB7 (Nat.le_refl _))
  have HO7 := hide ((unhide HO6).below hB7)
  have HA7 := hide ((unhide HA6).below hB7)
  have hW7 := hW6.trans (hB7.mono hW6.size)
  clear hB7 y0 y1 y2 y3 HG5 HX6 HG6 HV6 HM6 HO6 HA6 HI6 HT6 hW6
  by_cases h1 : code7 = 1
  · have hc1 : (code7 == 1) = true := by simpa using h1
    obtain ⟨y0, y1, y2, y3⟩ := (unhide HG7).cells
    obtain ⟨v0, v1, v2, v3⟩ := (unhide HV7).cells
    go_wp2_with fail
    refine (sameFtl_same a6 a7 c6 c7 m7.bs n7 (unhide HA7).bs ma6 ma7 mc6 mc7 m7.L mn7 (unhide HA7).L m7.seq m7.o _ (unhide HO7).blocksAt (unhide HA7).blocks (unhide HS6) (unhide HO7).2.1 (unhide HA7).ints (by omega)).mono ?_
    rintro e w8 ⟨rfl, hB8⟩
    have hW8 := hW7.trans (hB8.mono hW7.size)
    clear hB8
    go_wp2
    go_ret
    exact ⟨rfl, hW8⟩
  have hc1 : (code7 == 1) = false := by simpa using h1
  by_cases h0 : code7 = 0
  case neg =>
    have hc0 : (code7 != 0) = true := by simpa using h0
    obtain rfl : m7 = m := by
      rcases unhide HWI with ⟨_, _, h⟩ | ⟨_, _, h, _⟩ | ⟨_, _, h, _⟩ | ⟨_, _, _, h⟩
      · exact absurd h h1
      · exact h
      · exact h
      · exact absurd h h0
    obtain rfl : n7 = n1 := by have := (unhide HA7).bs; have := (unhide HM7).bs; omega
    obtain rfl : mn7 = mn := by have := (unhide HA7).L; have := (unhide HM7).L; omega
    obtain ⟨y0, y1, y2, y3⟩ := (unhide HG7).cells
    obtain ⟨x0, x1, x2, x3⟩ := (unhide HX7).cells
    go_wp2_with fail
    refine (sameFtl_same a6 a1 c6 c1 m7.bs n7 (unhide HA7).bs ma6 ma mc6 mc m7.L mn7 (unhide HA7).L m7.seq m7.o _ (unhide HO7).blocksAt (unhide HM7).blocks (unhide HS6) (unhide HO7).2.1 (unhide HM7).ints (by omega)).mono ?_
    rintro e w8 ⟨rfl, hB8⟩
    have hW8 := hW7.trans (hB8.mono hW7.size)
    clear hB8
    go_wp2
    go_ret
    exact ⟨rfl, hW8⟩
  case pos =>
    subst h0
    obtain ⟨hok, hsteps⟩ : m.Ok ∧ Steps (Ls.zip Ts) m m7 := by
      rcases unhide HWI with ⟨_, _, h⟩ | ⟨_, _, _, h⟩ | ⟨_, _, _, h⟩ | ⟨q1, _, q2, _⟩
      · cases h
      · cases h
      · exact absurd rfl h.1
      · exact ⟨q1, q2⟩
    obtain ⟨hok', hlen', hread⟩ := Steps.wrote hok hsteps
    have hmm : mn7 = mn := by
      have e1 := FtlOk.len hok
      have e2 := FtlOk.len hok'
      have := (unhide HA7).L
      have := (unhide HM7).L
      rw [hlen'] at e2
      omega
    subst hmm
    have HLT : Hid (nl = nt) := by
      rcases unhide HWI with ⟨_, _, h⟩ | ⟨_, _, _, h⟩ | ⟨_, _, _, h⟩ | ⟨_, q1, _, _⟩
      · cases h
      · cases h
      · exact absurd rfl h.1
      · have := q1.1; have := unhide HNL; have := unhide HNT; show nl = nt; omega
    have HOK := hide hok
    have HOK2 := hide hok'
    have HRD := hide hread
    have hl17 : w1.heap.size < w7.heap.size := by omega
    have hl37 : w3.heap.size < w7.heap.size := by omega
    clear hok hsteps hok' hlen' hread HWI hc1 h1
    obtain ⟨x0, x1, x2, x3⟩ := (unhide HX7).cells
    go_wp2
    clear x0 x1 x2 x3
    go_loopw [10] (fun vi wr => ∃ k : Nat, k ≤ mn7 ∧ vi = .int .i64 k ∧ Below w7.heap.size w7 wr) (fun vi _ => mn7 - (intOf vi).toNat)
    case atStart => exact ⟨0, Nat.zero_le _, rfl, Below.refl _ _⟩
    case round =>
      obtain ⟨k, hk, rfl, hB⟩ := hrel
      obtain ⟨w8, rfl⟩ : ∃ w8, w8 = wr := ⟨_, rfl⟩
      have hs8 := hB.size
      have HX8 := hide ((unhide HX7).below hB hl17)
      have HG8 := hide ((unhide HG7).below hB hl37)
      have HM8 := hide ((unhide HM7).below hB)
      have HI8 := hide ((unhide HI7).below hB (Nat.le_refl _))
      have HT8 := hide ((unhide HT7).below hB (Nat.le_refl _))
      have HO8 := hide ((unhide HO7).below hB)
      have hW8 := hW7.trans (hB.mono hW7.size)
      have HB8 := hide hB
      obtain ⟨x0, x1, x2, x3⟩ := (unhide HX8).cells
      clear hB
      by_cases hlt : k < mn7
      · have hki : (k : Int) < (mn7 : Int) := by omega
        go_wp2_with fail
        refine (implPageAt_any a1 c1 m.bs n1 (unhide HM8).bs ma mc m.L mn7 (unhide HM8).L m.seq m.o (k : Int) _ (unhide HM8).blocks (lens9V (unhide HSH).1) (unhide HM8).ints (by omega)).mono ?_
        rintro e w9 ⟨d9, r9, rfl, hP9, hB9⟩
        obtain ⟨rfl, rfl⟩ := page_readV (unhide HOK) (by have := (unhide HM8).L; omega) hP9
        have hs9 := hB9.size
        have HG9 := hide ((unhide HG8).below hB9 (by omega))
        have HO9 := hide ((unhide HO8).below hB9)
        have HI9 := hide ((unhide HI8).below hB9 (Nat.le_refl _))
        have HT9 := hide ((unhide HT8).below hB9 (Nat.le_refl _))
        have HB9 := hide ((unhide HB8).trans (hB9.mono hs8))
        have hl39 : w3.heap.size < w9.heap.size := by omega
        clear hB9 hP9 x0 x1 x2 x3 HX8 HG8 HO8 HB8 HI8 HT8
        go_wp2
        go_loopw [11, 13] (fun v11 v13 wr => ∃ j : Nat, j ≤ nl ∧ v13 = .int .i64 j ∧ v11 = .string (lastOf ((Ls.zip Ts).take j) (k : Int) (readOf m.bs (k : Int))) ∧ Below w9.heap.size w9 wr) (fun _ v13 _ => nl - (intOf v13).toNat)
        case atStart => exact ⟨0, Nat.zero_le _, rfl, rfl, Below.refl _ _⟩
        case round =>
          obtain ⟨j, hj, rfl, rfl, hBj⟩ := hrel
          obtain ⟨w10, rfl⟩ : ∃ w10, w10 = wr := ⟨_, rfl⟩
          have hs10 := hBj.size
          by_cases hjt : j < nl
          · obtain ⟨l, hl⟩ := getElem?_ex (l := Ls) (k := j) (by have := unhide HNL; omega)
            obtain ⟨t, ht⟩ := getElem?_ex (l := Ts) (k := j) (by have := unhide HNT; have := unhide HLT; omega)
            obtain ⟨b1, o1, rfl, z1⟩ := ((unhide HI9).below hBj (Nat.le_refl _)) j l hl
            obtain ⟨b2, o2, rfl, z2⟩ := ((unhide HT9).below hBj (Nat.le_refl _)) j t ht
            have HLS := hide (lastOf_take (xs := Ls.zip Ts) (k := j) (x := (l, t)) (List.getElem?_zip_eq_some.2 ⟨hl, ht⟩) (k : Int) (readOf m.bs (k : Int)))
            have hjn : (j : Int) < (nl : Int) := by omega
            have hjm : (j : Int) < (nt : Int) := by have := unhide HLT; omega
            have HBj := hide hBj
            generalize lastOf ((Ls.zip Ts).take j) (k : Int) (readOf m.bs (k : Int)) = sj at HLS ⊢
            clear hl ht hBj
            by_cases hlk : l = (k : Int)
            · have hb : (l == (k : Int)) = true := by simpa using hlk
              go_wp2
              go_roundw
              case rel => exact ⟨j + 1, by omega, by go_num, by rw [unhide HLS, if_pos hlk], unhide HBj⟩
              case measure => simp [intOf]; omega
            · have hb : (l == (k : Int)) = false := by simpa using hlk
              go_wp2
              go_roundw
              case rel => exact ⟨j + 1, by omega, by go_num, by rw [unhide HLS, if_neg hlk], unhide HBj⟩
              case measure => simp [intOf]; omega
          · obtain rfl : j = nl := by omega
            have HEQ : Hid (lastOf ((Ls.zip Ts).take j) (k : Int) (readOf m.bs (k : Int)) = readOf m7.bs (k : Int)) := by
              show _ = _
              rw [List.take_of_length_le (by rw [List.length_zip]; have := unhide HNL; omega), ← unhide HRD (k : Int)]
            rw [unhide HEQ]
            have HG10 := hide ((unhide HG9).below hBj hl39)
            have HO10 := hide ((unhide HO9).below hBj)
            have HB10 := hide ((unhide HB9).trans (hBj.mono (by omega)))
            have hl310 : w3.heap.size < w10.heap.size := by omega
            clear hBj HG9 HO9 HB9 HEQ
            obtain ⟨y0, y1, y2, y3⟩ := (unhide HG10).cells
            go_wp2_with fail
            refine (implPageAt_any a6 c6 m7.bs n7 (unhide HA7).bs ma6 mc6 m7.L mn7 (unhide HA7).L m7.seq m7.o (k : Int) _ (unhide HO10).blocksAt (lens9V (unhide HS6)) (unhide HO10).2.1 (by omega)).mono ?_
            rintro e w11 ⟨d11, r11, rfl, hP11, hB11⟩
            obtain ⟨rfl, rfl⟩ := page_readV (unhide HOK2) (by have := (unhide HA7).L; omega) hP11
            have HB11 := hide ((unhide HB10).trans (hB11.mono (by omega)))
            clear hB11 hP11 y0 y1 y2 y3 HG10 HO10 HB10
            generalize readOf m7.bs (k : Int) = dd
            go_wp2
            go_roundw
            case rel => exact ⟨k + 1, by omega, by go_num, unhide HB11⟩
            case measure => simp [intOf]; omega
      · obtain rfl : k = mn7 := by omega
        obtain ⟨y0, y1, y2, y3⟩ := (unhide HG8).cells
        go_wp2_with fail
        refine (implFtlOk_any a6 c6 m7.bs n7 (unhide HA7).bs ma6 mc6 m7.L k (unhide HA7).L m7.seq m7.o _ (unhide HO8).blocksAt (lens9V (unhide HS6)) (unhide HO8).2.1 (by omega)).mono ?_
        rintro e w9 ⟨⟨r9, rfl, hr9⟩, hB9⟩
        obtain rfl : r9 = true := hr9.2 (unhide HOK2)
        have hW9 := hW8.trans (hB9.mono hW8.size)
        clear hB9 hr9 x0 x1 x2 x3 y0 y1 y2 y3
        go_wp2
        go_ret
        exact ⟨rfl, hW9⟩

set_option maxRecDepth 100000 in
theorem lifted (os : Os) (started : os.Started) (H : Type) (enc : TypeId × Value → H) :
    ReturnsInHanded {} Tryz.checked os 4 .any (Rows.fnWrittenAllSpec.pre6 enc Tryz.prog Tryz.f4 Rows.fnWrittenAllRow.domain false) (Rows.fnWrittenAllSpec.post enc Tryz.prog Tryz.f4 false true false false) := by
  refine returnsInHanded_of_change (C := Tryz.checked) own started (by kernel_rfl) Tryz.func4
    (ChangeSpec.witness6 (enc := enc) (C := Tryz.checked) false ⟨#[], #[.slice none 0 0], []⟩ 8 (by kernel_rfl) (by kernel_rfl) (by kernel_rfl) (by kernel_rfl)) ?_
  intro W base args ds gs before hval0 hW hcnd _
  have hval : ∀ (j : Nat) t v, Tryz.f4.params[j]? = some t → args[j]? = some v → Value.okWide Tryz.prog W .any base t v := hval0
  have hW' := hW
  obtain ⟨p, q, hA0, hV, rfl, hfz, hnd⟩ := hW
  have hA : DataW.TrodAll enc Tryz.prog W 0 (fun _ => true) true Tryz.f4.params.toList args.toList ds p := hA0
  rw [Tryz.params4] at hA hval
  obtain ⟨v0, vs0, d0, ds0, p0, q0, hargs, rfl, rfl, h0, r0⟩ := trodAll_cons hA
  obtain ⟨rfl, rfl, rfl⟩ := trodAll_nil r0
  obtain rfl : args = #[v0] := by cases args; simp_all
  obtain ⟨rfl, rfl⟩ := trodVars_none hV
  have k0 := h0
  have lt0 : ∀ x ∈ p0, x.block < W.heap.size := by obtain ⟨m, hm⟩ := k0; exact DataW.trod_lt m _ _ _ hm
  obtain ⟨a, n, c, rfl, hL, hlen⟩ := open_code Tryz.underlying22 Tryz.underlying5 (by kernel_rfl) (hval 0 22 v0 rfl rfl) h0

  clear hA0 hval0
  refine (walk a n c W hL hlen).mono fun e W' ⟨he, bel⟩ => ?_
  subst he
  exact ⟨_, rfl, _, _, _, [], _, [], hW', trodAll_mk1 (shut_bool Tryz.underlying4 _), (trodAll_cons_mk (Below.trod laidOut (by kernel_rfl) (of_decide_eq_true (by kernel_rfl)) k0 bel lt0) trodAll_mk0), rfl, bel.frame _, fun h => by cases h⟩

theorem over : Rows.fnWrittenAllRow.holds Tryz.pinned (OpenSpec.ofChange Rows.fnWrittenAllSpec) :=
  OpenClaim.holds_of_wide 4 Tryz.f4 rfl rfl rfl rfl rfl rfl rfl ⟨rfl, rfl, rfl, rfl, rfl⟩ rfl rfl rfl rfl rfl (by kernel_rfl) Tryz.func4 (by kernel_rfl)
    (of_decide_eq_true (by kernel_rfl)) (by unfold Func.isWrapper; first | (rw [if_pos (by decide +kernel)]; kernel_rfl) | (rw [if_neg (by decide +kernel)]; exact ⟨rfl, rfl⟩))
    (fun os started H enc _ => lifted os started H enc)

end Go.Proofs.YtalgkmellbamgaaGreat.fnWrittenAll
namespace Go.Proofs.YtalgkmellbamgaaGreat
theorem writtenAllP_holds : Rows.FnWrittenAllSaid := fnWrittenAll.over
end Go.Proofs.YtalgkmellbamgaaGreat
