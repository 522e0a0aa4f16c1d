/- Whatever the code, the law FnOps answers true: the ops that are told are five at most, they make the chip that is written, and a block is erased when no newest page stands in it. No condition. -/
import Derived.Test.YtalgkmellbamgaaRows
import Derived.Test.YtalgkmellbamgaaG31
import Derived.Test.YtalgkmellbamgaaG32
import Derived.Test.YtalgkmellbamgaaG36
import Derived.Test.YtalgkmellbamgaaG10
import Derived.Test.YtalgkmellbamgaaG41
import Derived.Test.YtalgkmellbamgaaG28
import Derived.Test.YtalgkmellbamgaaG42
import Derived.Test.YtalgkmellbamgaaG40
import Derived.Test.YtalgkmellbamgaaG23
import Derived.Test.YtalgkmellbamgaaG20
import Derived.Test.YtalgkmellbamgaaG07
import Derived.WalkKit
import Derived.ProofKit
import Derived.OpenShut
import Derived.ChangeOld
import Derived.Below
import Derived.BigQuiet
import Derived.Deep.DeepCutAuto
namespace Go.Proofs.Ytalgkmellbamgaa.fnOps
open Go.ChangeShapes Go.WideShapes Go.ChangeAt Go.RowKit
set_option linter.unusedVariables false
set_option linter.unusedSimpArgs false

theorem lens9O {bs : List Bk} (h : Lens 1048576 bs) : Lens 9223372036854775807 bs := ⟨by have := h.1; omega, fun b hb => by have := h.2 b hb; omega⟩

/-- What a call has left: its answer in a variable, and that it was done. -/
def MadeD (wz : World) (out : List Bk) (v10 v11 : Value) (wx : World) : Prop :=
  ∃ P a0 n0 c0, v10 = .pointer (some ⟨P, 0, none⟩) ∧ v11 = .bool true ∧ wz.heap.size ≤ P ∧ P < wx.heap.size ∧ wx.cell? ⟨P, 0, none⟩ = some (.slice a0 n0 c0) ∧ ChipIn wx a0 n0 out ∧ Below wz.heap.size wz wx
theorem madeD_new {wz w3 : World} {out : List Bk} {a0 : Option Addr} {n0 c0 : Nat} (t : TypeId) (hZ : Below wz.heap.size wz w3) (hC : ChipIn w3 a0 n0 out) :
    MadeD wz out (.pointer (some ⟨w3.heap.size, 0, none⟩)) (.bool true) (w3.alloc (.cells #[.slice a0 n0 c0] t)) :=
  ⟨w3.heap.size, a0, n0, c0, rfl, rfl, hZ.size, by simp, by simp, hC.below ((Below.refl _ _).alloc (Nat.le_refl _) _), hZ.alloc hZ.size _⟩
theorem madeD_set {wz w3 : World} {out : List Bk} {a0 : Option Addr} {n0 c0 P : Nat} (hc : w3.cell? ⟨P, 0, none⟩ = some (.slice none 0 0)) (hP : wz.heap.size ≤ P) (hZ : Below wz.heap.size wz w3) (hC : ChipIn w3 a0 n0 out) :
    MadeD wz out (.pointer (some ⟨P, 0, none⟩)) (.bool true) (w3.setCell ⟨P, 0, none⟩ (.slice a0 n0 c0)) :=
  ⟨P, a0, n0, c0, rfl, rfl, hP, by simpa using World.block_lt_of_cell? _ _ hc, World.cell?_setCell_same' _ _ _ (by rw [hc]; rfl), ⟨hC.1, setApartB hc hC.2.1 _, hC.2.2⟩, hZ.setCell hP _⟩
theorem mapOf_place {bs : List Bk} {r : Bool} {L : List Int} (h : MapOfIs bs r L) {k : Nat} {z : Int} (hz : L[k]? = some z) : z = -1 ∨ (0 ≤ z ∧ z < 48) := by
  rcases h with ⟨hok, hM⟩ | ⟨_, _, h⟩
  · rw [hM.2] at hz
    cases r with
    | false => simp at hz
    | true =>
      rw [if_pos rfl] at hz
      have hx := List.mem_of_getElem? hz
      unfold placesOf at hx
      simp only [List.mem_map, List.mem_range] at hx
      obtain ⟨i, hi, rfl⟩ := hx
      cases e : newestAt (usedOf bs) (i : Int) with
      | none => left; rfl
      | some y =>
        right
        obtain ⟨hm, _⟩ := newestAt_mem e
        obtain ⟨b, k, y', hy', _, h4, ez, _⟩ := (usedOf_iff hok).1 hm
        have hlt := (List.getElem?_eq_some_iff.1 hy').1
        have h12 := hok.count.2
        simp only [placeIn]
        rw [ez]
        omega
  · rw [h] at hz; simp at hz
theorem opsTake {w : World} {a : Option Addr} {xs : List Opn} (h : OpsAt w a xs) (k : Nat) : OpsAt w a (xs.take k) := by
  intro i x hx
  rw [List.getElem?_take] at hx
  by_cases e : i < k
  · rw [if_pos e] at hx; exact h i x hx
  · rw [if_neg e] at hx; cases hx

set_option maxRecDepth 100000 in
set_option maxHeartbeats 8000000 in
theorem walk (a : Option Addr) (n c : Nat) (w : World) (h : CodeAt w a n) (hn : n ≤ 9223372036854775807) :
    Calls Try.prog 7 #[.slice a n c] w fun e w' => e = .returned (.bool true) ∧ Below w.heap.size w w' := by
  have HC := hide h
  clear h
  go_enter Try.func7, Try.ntmps7
  go_wp2_with fail
  refine (big_any a n c _ hn).mono ?_
  rintro e w0 ⟨rfl, rfl⟩
  by_cases hbig : (1048576 : Int) < (n : Int)
  · have hd : decide ((1048576 : Int) < (n : Int)) = true := by simpa using hbig
    rw [hd]
    clear hd
    go_wp2
    go_ret
    exact ⟨rfl, Below.refl _ _⟩
  have hd : decide ((1048576 : Int) < (n : Int)) = false := by simpa using hbig
  have hbig' : n ≤ 1048576 := by omega
  rw [hd]
  clear hd hbig
  go_wp2_with fail
  refine (drawOpsOf_any a n c _ (unhide HC) hbig').mono ?_
  rintro e w1 ⟨a1, n1, c1, ma, mn, mc, m, lg, d, rfl, hM1, hS1, hd1, hW1⟩
  have hs1 := hW1.size
  have HSH := hide hS1
  obtain ⟨w2, hw2⟩ : ∃ w2, w2 = w1.alloc (.cells #[.slice a1 n1 c1, .slice ma mn mc, .int .i64 m.seq, .int .i64 m.o] 44) := ⟨_, rfl⟩
  have hBw2 : Below w1.heap.size w1 w2 := by rw [hw2]; exact (Below.refl _ _).alloc (Nat.le_refl _) _
  have HX2 : Hid (BoxAt w2 w1.heap.size a1 n1 c1 ma mn mc m.seq m.o) := by rw [hw2]; exact BoxAt.alloc _ _ _ _ _ _ _ _ _ _
  have HM2 := hide (hM1.below hBw2)
  have hW2 := hW1.trans (hBw2.mono hW1.size)
  have hmn : mn ≤ 36 := by have := hS1.2.2; have := hM1.L; omega
  have hl12 : w1.heap.size < w2.heap.size := (unhide HX2).lt
  clear HC hM1 hS1 hBw2 hW1
  obtain ⟨x0, x1, x2, x3⟩ := (unhide HX2).cells
  go_wp2_with fail
  rw [← hw2]
  clear hw2
  refine (implOpsOf_cap a1 c1 m.bs n1 (unhide HM2).bs ma mc m.L mn (unhide HM2).L m.seq m.o lg d _ (unhide HM2).blocks (lens9O (unhide HSH).1) (unhide HM2).ints (by omega) hd1).mono ?_
  rintro e w3 ⟨la, lc, xs, r, rfl, hO3, hP3, hcap, hB3⟩
  have hs3 := hB3.size
  have HO := hide hO3
  have HX3 := hide ((unhide HX2).below hB3 hl12)
  have HM3 := hide ((unhide HM2).below hB3)
  have HP3 := hide hP3
  have hW3 := hW2.trans (hB3.mono hW2.size)
  have hxl := hO3.length
  have hl13 : w1.heap.size < w3.heap.size := by omega
  obtain ⟨q, hq⟩ : ∃ q, q = xs.length := ⟨_, rfl⟩
  rw [← hq] at hcap hxl ⊢
  have HQ := hide hq.symm
  clear hB3 hO3 hP3 x0 x1 x2 x3 HX2 HM2 hW2 hq
  obtain ⟨x0, x1, x2, x3⟩ := (unhide HX3).cells
  go_wp2_with fail
  refine (specOpsOf_any a1 c1 m.bs n1 (unhide HM3).bs ma mc m.L mn (unhide HM3).L m.seq m.o lg d _ (unhide HM3).blocks (unhide HSH).1 (unhide HM3).ints (by omega) hd1).mono ?_
  rintro e w4 ⟨v, xs2, r2, rfl, hO4, hV4, hB4⟩
  obtain ⟨rfl, rfl⟩ := hO4.one (unhide HO)
  obtain ⟨va, vc, rfl, hva, _⟩ := hV4.form
  rw [unhide HQ]
  have hs4 := hB4.size
  have HX4 := hide ((unhide HX3).below hB4 hl13)
  have HM4 := hide ((unhide HM3).below hB4)
  have HP4 := hide ((unhide HP3).below hB4)
  have HV4 := hide hva
  have hW4 := hW3.trans (hB4.mono hW3.size)
  have hl14 : w1.heap.size < w4.heap.size := by omega
  have hne : (r2 != r2) = false := by simp
  have heq : (r2 == r2) = true := by simp
  clear hB4 hO4 hV4 hva x0 x1 x2 x3 HX3 HM3 HP3 hW3
  go_wp2_with fail
  refine (sameOps_same la va lc vc xs2 q (unhide HQ) _ (unhide HP4).opsAt (unhide HV4) (by omega)).mono ?_
  rintro e w5 ⟨rfl, hB5⟩
  have hs5 := hB5.size
  have HX5 := hide ((unhide HX4).below hB5 hl14)
  have HM5 := hide ((unhide HM4).below hB5)
  have HP5 := hide ((unhide HP4).below hB5)
  have HV5 := hide ((unhide HV4).below hB5 (Nat.le_refl _))
  have hW5 := hW4.trans (hB5.mono hW4.size)
  have hl15 : w1.heap.size < w5.heap.size := by omega
  clear hB5 HX4 HM4 HP4 HV4 hW4
  cases r2 with
  | false =>
    go_wp2_with fail
    refine (sameOps_same la va lc vc xs2 q (unhide HQ) _ (unhide HP5).opsAt (unhide HV5) (by omega)).mono ?_
    rintro e w6 ⟨rfl, hB6⟩
    have hW6 := hW5.trans (hB6.mono hW5.size)
    clear hB6
    go_wp2
    go_ret
    exact ⟨rfl, hW6⟩
  | true =>
    obtain ⟨⟨hok, hfo, hro⟩, hxs⟩ : (FtlOk m.bs m.L m.seq m.o ∧ formOk m.bs lg d ∧ roomy m.bs m.seq) ∧ xs2 = writeOps m.bs m.L m.seq m.o lg d := by
      rcases unhide HO with ⟨_, h1, h2⟩ | ⟨h, _⟩
      · exact ⟨h1, h2⟩
      · cases h
    have h5 : q ≤ 5 := by have := hok.opsFew (lg := lg) (data := d); have := unhide HQ; rw [hxs] at this; omega
    have HXS := hide hxs
    have HOK := hide hok
    have HFO := hide hfo
    have HRO := hide hro
    clear hxs hok hfo hro HO HV5
    obtain ⟨x0, x1, x2, x3⟩ := (unhide HX5).cells
    go_wp2_with fail
    refine (implWritten_any a1 c1 m.bs n1 (unhide HM5).bs ma mc m.L mn (unhide HM5).L m.seq m.o lg d _ (unhide HM5).blocks (lens9O (unhide HSH).1) (unhide HM5).ints (by omega) hd1).mono ?_
    rintro e w6 ⟨a6, n6, c6, ma6, mn6, mc6, bs6, L6, s6, o6, code, rfl, hWI, hO6, hB6⟩
    have hs6 := hB6.size
    have hrun : Runs m.bs xs2 bs6 := by
      rcases hWI with ⟨h, _⟩ | ⟨_, h, _⟩ | ⟨_, _, h, _⟩ | ⟨_, _, _, h, _⟩
      · exact absurd (unhide HOK) h
      · exact absurd (unhide HFO) h
      · exact absurd (unhide HRO) h
      · rw [unhide HXS]; exact h.1
    have HRN := hide hrun
    have HS6 := hide hWI.short.1
    obtain ⟨w7, hw7⟩ : ∃ w7, w7 = w6.alloc (.cells #[.slice a6 n6 c6, .slice ma6 mn6 mc6, .int .i64 s6, .int .i64 o6] 44) := ⟨_, rfl⟩
    have hBw7 : Below w6.heap.size w6 w7 := by rw [hw7]; exact (Below.refl _ _).alloc (Nat.le_refl _) _
    have HG7 : Hid (BoxAt w7 w6.heap.size a6 n6 c6 ma6 mn6 mc6 s6 o6) := by rw [hw7]; exact BoxAt.alloc _ _ _ _ _ _ _ _ _ _
    have hB57 := hB6.trans (hBw7.mono hB6.size)
    have hl67 : w6.heap.size < w7.heap.size := (unhide HG7).lt
    have hl16 : w1.heap.size < w6.heap.size := by omega
    have HX6 := hide ((unhide HX5).below hB6 hl15)
    have HX7 := hide ((unhide HX5).below hB57 hl15)
    have HM7 := hide ((unhide HM5).below hB57)
    have HP7 := hide ((unhide HP5).below hB57)
    have HO7 := hide (hO6.below hBw7)
    have hW7 := hW5.trans (hB57.mono hW5.size)
    have hl17 : w1.heap.size < w7.heap.size := by omega
    clear hB6 hBw7 hB57 hWI hO6 hrun x0 x1 x2 x3 HX5 HM5 HP5 hW5
    obtain ⟨x0, x1, x2, x3⟩ := (unhide HX6).cells
    go_wp2_with fail
    rw [← hw7]
    clear hw7
    refine (implDid_own a1 c1 m.bs n1 (unhide HM7).bs la lc xs2 q (unhide HQ) (by omega) _ (unhide HM7).blocks (lens9O (unhide HSH).1) (unhide HP7).opsAt).mono ?_
    rintro e w8 ⟨a8, n8, c8, out, r8, rfl, hD8, hC8, hB8⟩
    obtain ⟨rfl, rfl⟩ : r8 = true ∧ out = bs6 := by
      rcases hD8 with ⟨h1, _, _, h2⟩ | ⟨_, _, h⟩
      · exact ⟨h1, h2.one (unhide HRN)⟩
      · exact absurd ⟨(unhide HOK).chip, by have := unhide HQ; omega, _, unhide HRN⟩ h
    obtain rfl : n8 = n6 := by have := hC8.1; have := (unhide HO7).length.1; omega
    have hs8 := hB8.size
    obtain ⟨w9, hw9⟩ : ∃ w9, w9 = w8.alloc (.cells #[.slice a8 n8 c8] 26) := ⟨_, rfl⟩
    have hBw9 : Below w8.heap.size w8 w9 := by rw [hw9]; exact (Below.refl _ _).alloc (Nat.le_refl _) _
    have hc9 : w9.cell? ⟨w8.heap.size, 0, none⟩ = some (.slice a8 n8 c8) := by rw [hw9]; simp
    have hB79 := hB8.trans (hBw9.mono hB8.size)
    have HG8 := hide ((unhide HG7).below hB8 hl67)
    have hl68 : w6.heap.size < w8.heap.size := by omega
    have HG9 := hide ((unhide HG7).below hB79 hl67)
    have HX9 := hide ((unhide HX7).below hB79 hl17)
    have HM9 := hide ((unhide HM7).below hB79)
    have HP9 := hide ((unhide HP7).below hB79)
    have HO9 := hide ((unhide HO7).below hB79)
    have HC9 := hide (hC8.blocksAt.below hBw9 (Nat.le_refl _))
    have hL9 : out.length = n8 := hC8.1
    have hW9 := hW7.trans (hB79.mono hW7.size)
    have hl19 : w1.heap.size < w9.heap.size := by have := hBw9.size; omega
    have hd5 : decide ((5 : Int) < (q : Int)) = false := by simp; omega
    clear hB8 hBw9 hB79 hD8 hC8 x0 x1 x2 x3 HX6 HX7 HG7 HM7 HP7 HO7 hW7
    obtain ⟨y0, y1, y2, y3⟩ := (unhide HG8).cells
    go_wp2_with fail
    rw [← hw9]
    clear hw9
    refine (sameChip_same a8 a6 c8 c6 out n8 hL9 _ (unhide HC9) (unhide HO9).blocksAt (unhide HS6)).mono ?_
    rintro e w10 ⟨rfl, hB10⟩
    have hs10 := hB10.size
    have HX10 := hide ((unhide HX9).below hB10 hl19)
    have HM10 := hide ((unhide HM9).below hB10)
    have HP10 := hide ((unhide HP9).below hB10)
    have hW10 := hW9.trans (hB10.mono hW9.size)
    have hl110 : w1.heap.size < w10.heap.size := by omega
    clear hB10 y0 y1 y2 y3 HG8 HG9 HX9 HM9 HP9 HO9 HC9 hW9
    go_wp2_with fail
    go_loopw [14] (fun vi wr => ∃ k : Nat, k ≤ q ∧ vi = .int .i64 k ∧ Below w10.heap.size w10 wr) (fun vi _ => q - (intOf vi).toNat)
    case atStart => exact ⟨0, Nat.zero_le _, rfl, Below.refl _ _⟩
    case round =>
      obtain ⟨k, hk, rfl, hB⟩ := hrel
      obtain ⟨w11, rfl⟩ : ∃ w11, w11 = wr := ⟨_, rfl⟩
      have hs11 := hB.size
      by_cases hlt : k < q
      · obtain ⟨x, hx⟩ := getElem?_ex (l := xs2) (k := k) (by have := unhide HQ; omega)
        obtain ⟨b1, o1, rfl, s0, s1, _, _, _, _⟩ := ((unhide HP10).opsAt.below hB (Nat.le_refl _)) k x hx
        by_cases hk2 : x.kind = 2
        · have hb2 : (x.kind != 2) = false := by simp [hk2]
          obtain ⟨mid, hmr, hmok, hmlen, hmleft⟩ := (unhide HOK).erases (unhide HRO).2 (i := k) (x := x) (by rw [← unhide HXS]; exact hx) (by rw [hk2]; decide)
          rw [← unhide HXS] at hmr
          have hxl := unhide HQ
          have HM1 : Hid (∀ o r, DidIs m.bs (xs2.take k) o r → o = mid ∧ r = true) := fun o r h => h.one (.inl ⟨rfl, (unhide HOK).chip, by rw [List.length_take]; omega, hmr⟩)
          have HT1 : Hid ((xs2.take k).length = k) := by show _ = _; rw [List.length_take]; omega
          have HML := hide hmleft
          have hki : (k : Int) ≤ (q : Int) := by omega
          have hkc : (k : Int) ≤ (lc : Int) := by omega
          have hk0 : (0 : Int) ≤ (k : Int) := by omega
          have HX11 := hide ((unhide HX10).below hB (by omega))
          have HM11 := hide ((unhide HM10).below hB)
          have HP11 := hide ((unhide HP10).opsAt.below hB (Nat.le_refl _))
          have hW11 := hW10.trans (hB.mono hW10.size)
          have hl111 : w1.heap.size < w11.heap.size := by omega
          have HB11 := hide hB
          have HXT : Hid (∀ W, Below w11.heap.size w11 W → OpsAt W (some ⟨b1, o1, none⟩) (xs2.take k)) := fun W hW => opsTake ((unhide HP11).below hW (Nat.le_refl _)) k
          have HXX := hide hx
          clear hmr hmok hmlen hmleft hxl hx hB
          obtain ⟨x0, x1, x2, x3⟩ := (unhide HX11).cells
          go_upto_region 16 with fail
          go_cut [15, 16] (fun v15 v16 wx => MadeD w11 mid v15 v16 wx)
          case first =>
            go_region_with (first
              | (go_at_call 37
                 refine (implDid_own a1 c1 m.bs n1 (unhide HM11).bs _ _ (xs2.take k) _ (unhide HT1) (by omega) _ (by first | exact ((unhide HM11).blocks.below (Below.refl _ w11).drew (Nat.le_refl _)) | exact ((unhide HM11).blocks.below (((Below.refl w11.heap.size w11).alloc (Nat.le_refl _) _).drew) (Nat.le_refl _))) (lens9O (unhide HSH).1) (by first | exact (unhide HXT) _ (Below.refl _ w11).drew | exact (unhide HXT) _ (((Below.refl w11.heap.size w11).alloc (Nat.le_refl _) _).drew))).mono ?_
                 rintro e wn ⟨an, nn, cn, on, rn, rfl, hEn, hOn, hBn⟩
                 obtain ⟨e5, e6⟩ := unhide HM1 _ _ hEn
                 subst e6
                 have HDn : Hid (ChipIn wn an nn mid) := by
                   show ChipIn wn an nn mid
                   rw [← e5]
                   exact ⟨hOn.1, hOn.blocksAt, hEn.lens⟩
                 have HBn : Hid (Below w11.heap.size w11 wn) := by first | exact (Below.refl _ w11).drew.trans hBn | exact (((Below.refl w11.heap.size w11).alloc (Nat.le_refl _) _).drew).trans (hBn.mono (by simp))
                 try have hcb : wn.cell? ⟨w11.heap.size, 0, none⟩ = some (.slice none 0 0) := by first | (rw [hBn.cell (p := ⟨w11.heap.size, 0, none⟩) (by simp)]; simp; done)
                 try have hfb : wn.frozen? ⟨w11.heap.size, 0, none⟩ = false := by first | (rw [hBn.frozen (p := ⟨w11.heap.size, 0, none⟩) (by simp)]; simp; done)
                 clear hEn hOn hBn e5))
            all_goals (
              go_wp2_with fail
              go_meet
              first
                | exact madeD_new _ (unhide HBn) (unhide HDn)
                | exact madeD_set hcb (Nat.le_refl _) (unhide HBn) (unhide HDn))
          case rest =>
            obtain ⟨P12, a5, n5, c5, rfl, rfl, hP12, hPl, p12, hC12, hB12⟩ := hcut
            rename World => w12
            have hs12 := hB12.size
            have HC12 := hide hC12
            have HP12 := hide ((unhide HP11).below hB12 (Nat.le_refl _))
            have hW12 := hW11.trans (hB12.mono hW11.size)
            have HB12 := hide ((unhide HB11).trans (hB12.mono hs11))
            clear hB12 hC12 HXT HX11 HM11 HP11 hW11 x0 x1 x2 x3 s0 s1 HB11 HM1
            go_wp2_with fail
            refine (implMapOf_any a5 c5 mid n5 (unhide HC12).1 _ (unhide HC12).2.1 (lens9O (unhide HC12).2.2)).mono ?_
            rintro e w13 ⟨⟨v, r, Lk, rfl, hMk, hOk⟩, hB13⟩
            obtain ⟨va, vc, rfl, hIk, _⟩ := hOk.form
            have hL36 := hMk.length
            obtain ⟨qm, hqm⟩ : ∃ qm, qm = Lk.length := ⟨_, rfl⟩
            rw [← hqm] at hL36 ⊢
            have HQM := hide hqm
            have HNN : Hid (∀ (i : Nat) (z : Int), Lk[i]? = some z → 0 ≤ z → ¬ z / 4 = x.block) := by
              intro i z hz h0
              rcases hMk with ⟨_, h⟩ | ⟨_, _, h⟩
              · exact noneNamed (unhide HML) h hz h0
              · rw [h] at hz; simp at hz
            have HIk := hide hIk
            have HPL : Hid (∀ (i : Nat) (z : Int), Lk[i]? = some z → z = -1 ∨ (0 ≤ z ∧ z < 48)) := fun i z hz => mapOf_place hMk hz
            have hs13 := hB13.size
            have HP13 := hide ((unhide HP12).below hB13 (Nat.le_refl _))
            have hW13 := hW12.trans (hB13.mono hW12.size)
            have HB13 := hide ((unhide HB12).trans (hB13.mono (by omega)))
            clear hB13 hMk hOk hIk hqm HC12 HP12 hW12 p12 HML HB12
            go_wp2
            go_loopw [19] (fun vi wr => ∃ j : Nat, j ≤ qm ∧ vi = .int .i64 j ∧ Below w13.heap.size w13 wr) (fun vi _ => qm - (intOf vi).toNat)
            case atStart => exact ⟨0, Nat.zero_le _, rfl, Below.refl _ _⟩
            case round =>
              obtain ⟨j, hj, rfl, hBj⟩ := hrel
              obtain ⟨w14, rfl⟩ : ∃ w14, w14 = wr := ⟨_, rfl⟩
              have hs14 := hBj.size
              by_cases hjt : j < qm
              · obtain ⟨z, hz⟩ := getElem?_ex (l := Lk) (k := j) (by have := unhide HQM; omega)
                obtain ⟨bz, oz, rfl, cz⟩ := ((unhide HIk).below hBj (Nat.le_refl _)) j z hz
                obtain ⟨b2, o2, e2, _, s1, _, _, _, _⟩ := ((unhide HP13).below hBj (Nat.le_refl _)) k x (unhide HXX)
                cases e2
                have hzp := unhide HPL j z hz
                have hnn := unhide HNN j z hz
                have hjq : (j : Int) < (qm : Int) := by omega
                have hkq : (k : Int) < (q : Int) := by omega
                clear hz
                by_cases hz0 : 0 ≤ z
                · have hz48 : z < 48 := by omega
                  have hne : (z / 4 == x.block) = false := by simpa using hnn hz0
                  clear hzp hnn
                  go_wp2_with fail
                  go_quiet (fail)
                  go_wp2
                  go_roundw
                  case rel => exact ⟨j + 1, by omega, by go_num, Below.drewN hBj _⟩
                  case measure => simp [intOf]; omega
                · have hz1 : z = -1 := by omega
                  subst hz1
                  clear hzp hnn hz0
                  go_wp2_with fail
                  go_quiet (fail)
                  go_wp2
                  go_roundw
                  case rel => exact ⟨j + 1, by omega, by go_num, Below.drewN hBj _⟩
                  case measure => simp [intOf]; omega
              · have hBE := (unhide HB13).trans (hBj.mono (by omega))
                go_wp2
                go_roundw
                case rel => exact ⟨k + 1, by omega, by go_num, hBE⟩
                case measure => simp [intOf]; omega
        · have hb2 : (x.kind != 2) = true := by simpa using hk2
          clear hx s1
          go_wp2
          go_roundw
          case rel => exact ⟨k + 1, by omega, by go_num, hB⟩
          case measure => simp [intOf]; omega
      · have hWE := hW10.trans (hB.mono hW10.size)
        go_wp2
        go_ret
        exact ⟨rfl, hWE⟩

set_option maxRecDepth 100000 in
theorem lifted (os : Os) (started : os.Started) (H : Type) (enc : TypeId × Value → H) :
    ReturnsInHanded {} Try.checked os 7 .any (Rows.fnOpsSpec.pre6 enc Try.prog Try.f7 Rows.fnOpsRow.domain false) (Rows.fnOpsSpec.post enc Try.prog Try.f7 false true false false) := by
  refine returnsInHanded_of_change (C := Try.checked) own started (by kernel_rfl) Try.func7
    (ChangeSpec.witness6 (enc := enc) (C := Try.checked) false ⟨#[], #[.slice none 0 0], []⟩ 8 (by kernel_rfl) (by kernel_rfl) (by kernel_rfl) (by kernel_rfl)) ?_
  intro W base args ds gs before hval0 hW hcnd _
  have hval : ∀ (j : Nat) t v, Try.f7.params[j]? = some t → args[j]? = some v → Value.okWide Try.prog W .any base t v := hval0
  have hW' := hW
  obtain ⟨p, q, hA0, hV, rfl, hfz, hnd⟩ := hW
  have hA : DataW.TrodAll enc Try.prog W 0 (fun _ => true) true Try.f7.params.toList args.toList ds p := hA0
  rw [Try.params7] at hA hval
  obtain ⟨v0, vs0, d0, ds0, p0, q0, hargs, rfl, rfl, h0, r0⟩ := trodAll_cons hA
  obtain ⟨rfl, rfl, rfl⟩ := trodAll_nil r0
  obtain rfl : args = #[v0] := by cases args; simp_all
  obtain ⟨rfl, rfl⟩ := trodVars_none hV
  have k0 := h0
  have lt0 : ∀ x ∈ p0, x.block < W.heap.size := by obtain ⟨m, hm⟩ := k0; exact DataW.trod_lt m _ _ _ hm
  obtain ⟨a, n, c, rfl, hL, hlen⟩ := open_code Try.underlying22 Try.underlying5 (by kernel_rfl) (hval 0 22 v0 rfl rfl) h0

  clear hA0 hval0
  refine (walk a n c W hL hlen).mono fun e W' ⟨he, bel⟩ => ?_
  subst he
  exact ⟨_, rfl, _, _, _, [], _, [], hW', trodAll_mk1 (shut_bool Try.underlying4 _), (trodAll_cons_mk (Below.trod laidOut (by kernel_rfl) (of_decide_eq_true (by kernel_rfl)) k0 bel lt0) trodAll_mk0), rfl, bel.frame _, fun h => by cases h⟩

theorem over : Rows.fnOpsRow.holds Try.pinned (OpenSpec.ofChange Rows.fnOpsSpec) :=
  OpenClaim.holds_of_wide 7 Try.f7 rfl rfl rfl rfl rfl rfl rfl ⟨rfl, rfl, rfl, rfl, rfl⟩ rfl rfl rfl rfl rfl (by kernel_rfl) Try.func7 (by kernel_rfl)
    (of_decide_eq_true (by kernel_rfl)) (by unfold Func.isWrapper; first | (rw [if_pos (by decide +kernel)]; kernel_rfl) | (rw [if_neg (by decide +kernel)]; exact ⟨rfl, rfl⟩))
    (fun os started H enc _ => lifted os started H enc)

end Go.Proofs.Ytalgkmellbamgaa.fnOps
namespace Go.Proofs.Ytalgkmellbamgaa
theorem opsP_holds : Rows.FnOpsSaid := fnOps.over
end Go.Proofs.Ytalgkmellbamgaa
