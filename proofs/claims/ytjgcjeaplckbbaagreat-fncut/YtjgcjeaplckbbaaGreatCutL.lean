/- Whatever the code, the law FnCut answers true: between any two ops of a write the member is recovered from its chip, and has what was written, or what was there. No condition. -/
import Derived.Test.YtjgcjeaplckbbaaGreatRows
import Derived.Test.YtjgcjeaplckbbaaGreatG19
import Derived.Test.YtjgcjeaplckbbaaGreatG26
import Derived.Test.YtjgcjeaplckbbaaGreatG06
import Derived.Test.YtjgcjeaplckbbaaGreatG30
import Derived.Test.YtjgcjeaplckbbaaGreatG14
import Derived.Test.YtjgcjeaplckbbaaGreatG04
import Derived.WalkKit
import Derived.ProofKit
import Derived.OpenShut
import Derived.ChangeOld
import Derived.Below
import Derived.BigQuiet
import Derived.MapKept
import Derived.Deep.DeepCutAuto
namespace Go.Proofs.YtjgcjeaplckbbaaGreat.fnCut
open Go.ChangeShapes Go.WideShapes Go.ChangeAt Go.RowKit
set_option linter.unusedVariables false
set_option linter.unusedSimpArgs false

theorem lens9C {bs : List Bk} (h : Lens 1048576 bs) : Lens 9223372036854775807 bs := ⟨by have := h.1; omega, fun b hb => by have := h.2 b hb; omega⟩

/-- What a call has left: its answer in a variable, and that it was done. -/
def MadeE (wz : World) (out : List Bk) (v10 v11 : Value) (wx : World) : Prop :=
  ∃ P a0 n0 c0, v10 = .pointer (some ⟨P, 0, none⟩) ∧ v11 = .bool true ∧ wz.heap.size ≤ P ∧ P < wx.heap.size ∧ wx.cell? ⟨P, 0, none⟩ = some (.slice a0 n0 c0) ∧ ChipIn wx a0 n0 out ∧ Below wz.heap.size wz wx
theorem madeE_new {wz w3 : World} {out : List Bk} {a0 : Option Addr} {n0 c0 : Nat} (t : TypeId) (hZ : Below wz.heap.size wz w3) (hC : ChipIn w3 a0 n0 out) :
    MadeE wz out (.pointer (some ⟨w3.heap.size, 0, none⟩)) (.bool true) (w3.alloc (.cells #[.slice a0 n0 c0] t)) :=
  ⟨w3.heap.size, a0, n0, c0, rfl, rfl, hZ.size, by simp, by simp, hC.below ((Below.refl _ _).alloc (Nat.le_refl _) _), hZ.alloc hZ.size _⟩
theorem madeE_set {wz w3 : World} {out : List Bk} {a0 : Option Addr} {n0 c0 P : Nat} (hc : w3.cell? ⟨P, 0, none⟩ = some (.slice none 0 0)) (hP : wz.heap.size ≤ P) (hZ : Below wz.heap.size wz w3) (hC : ChipIn w3 a0 n0 out) :
    MadeE wz out (.pointer (some ⟨P, 0, none⟩)) (.bool true) (w3.setCell ⟨P, 0, none⟩ (.slice a0 n0 c0)) :=
  ⟨P, a0, n0, c0, rfl, rfl, hP, by simpa using World.block_lt_of_cell? _ _ hc, World.cell?_setCell_same' _ _ _ (by rw [hc]; rfl), ⟨hC.1, setApartB hc hC.2.1 _, hC.2.2⟩, hZ.setCell hP _⟩
theorem opsTakeC {w : World} {a : Option Addr} {xs : List Opn} (h : OpsAt w a xs) (k : Nat) : OpsAt w a (xs.take k) := by
  intro i x hx
  rw [List.getElem?_take] at hx
  by_cases e : i < k
  · rw [if_pos e] at hx; exact h i x hx
  · rw [if_neg e] at hx; cases hx

theorem page_readC {bs : List Bk} {L : List Int} {seq o : Int} {i : Nat} {d : ByteArray} {r : Bool} (hok : FtlOk bs L seq o) (hi : i < L.length) (h : PageIs bs L seq o (i : Int) d r) : r = true ∧ d = readOf bs (i : Int) := by
  rcases h with ⟨_, h1, x, hx, hd⟩ | ⟨h, _⟩
  · rw [Int.toNat_natCast] at hx
    exact ⟨h1, hd.trans (hok.read hx)⟩
  · exact absurd ⟨hok, by omega, by omega⟩ h
theorem bytes_ne {a b : ByteArray} (h : a ≠ b) : (a == b) = false := by
  cases e : (a == b) with
  | false => rfl
  | true => exact absurd ((Go.MapKept.bytes_beq a b).1 e) h
theorem bytes_bne {a b : ByteArray} (h : a ≠ b) : (a != b) = true := by
  unfold bne
  rw [bytes_ne h]
  rfl
theorem bytes_eq (a : ByteArray) : (a == a) = true := (Go.MapKept.bytes_beq a a).2 rfl
theorem bytes_beqn (a : ByteArray) : (a != a) = false := by
  unfold bne
  rw [bytes_eq a]
  rfl
/-- What is recovered, of a chip between two ops. -/
theorem recIs_cut {mid : List Bk} {m6 : Mb} {r : Bool} (hok : ChipOk mid) (ht : TidyOk mid) (h : RecIs mid m6 r) : r = true ∧ m6.Ok ∧ m6.bs.length = mid.length ∧ ∀ l, readOf m6.bs l = readOf mid l := by
  rcases h with ⟨h1, _, _, hR, ⟨q, hM⟩, hs, ho⟩ | ⟨_, h, _⟩
  · obtain ⟨out, hrun, hlen, hftl, hread⟩ := tidy_done hok ht
    obtain rfl := hR.one hrun
    refine ⟨h1, ?_, hlen, hread⟩
    unfold Mb.Ok
    rw [hs, ho]
    exact hftl _ _ hM
  · exact absurd ⟨hok, ht⟩ h

set_option maxRecDepth 100000 in
set_option maxHeartbeats 8000000 in
theorem walk (a : Option Addr) (n c : Nat) (w : World) (h : CodeAt w a n) (hn : n ≤ 9223372036854775807) :
    Calls Tryz.prog 3 #[.slice a n c] w fun e w' => e = .returned (.bool true) ∧ Below w.heap.size w w' := by
  have HC := hide h
  clear h
  go_enter Tryz.func3, Tryz.ntmps3
  go_wp2_with fail
  refine (big_any a n c _ hn).mono ?_
  rintro e w0 ⟨rfl, rfl⟩
  by_cases hbig : (1048576 : Int) < (n : Int)
  · have hd : decide ((1048576 : Int) < (n : Int)) = true := by simpa using hbig
    rw [hd]
    clear hd
    go_wp2
    go_ret
    exact ⟨rfl, Below.refl _ _⟩
  have hd : decide ((1048576 : Int) < (n : Int)) = false := by simpa using hbig
  have hbig' : n ≤ 1048576 := by omega
  rw [hd]
  clear hd hbig
  go_wp2_with fail
  refine (drawOpsOf_young a n c _ (unhide HC) hbig').mono ?_
  rintro e w1 ⟨a1, n1, c1, ma, mn, mc, m, lg, d, rfl, hM1, hS1, hY1, hd1, hW1⟩
  have HY := hide hY1
  have hs1 := hW1.size
  have HSH := hide hS1
  obtain ⟨w2, hw2⟩ : ∃ w2, w2 = w1.alloc (.cells #[.slice a1 n1 c1, .slice ma mn mc, .int .i64 m.seq, .int .i64 m.o] 29) := ⟨_, rfl⟩
  have hBw2 : Below w1.heap.size w1 w2 := by rw [hw2]; exact (Below.refl _ _).alloc (Nat.le_refl _) _
  have HX2 : Hid (BoxAt w2 w1.heap.size a1 n1 c1 ma mn mc m.seq m.o) := by rw [hw2]; exact BoxAt.alloc _ _ _ _ _ _ _ _ _ _
  have HM2 := hide (hM1.below hBw2)
  have hW2 := hW1.trans (hBw2.mono hW1.size)
  have hmn : mn ≤ 36 := by have := hS1.2.2; have := hM1.L; omega
  have hl12 : w1.heap.size < w2.heap.size := (unhide HX2).lt
  clear HC hY1 hM1 hS1 hBw2 hW1
  obtain ⟨x0, x1, x2, x3⟩ := (unhide HX2).cells
  go_wp2_with fail
  rw [← hw2]
  clear hw2
  refine (implOpsOf_cap a1 c1 m.bs n1 (unhide HM2).bs ma mc m.L mn (unhide HM2).L m.seq m.o lg d _ (unhide HM2).blocks (lens9C (unhide HSH).1) (unhide HM2).ints (by omega) hd1).mono ?_
  rintro e w3 ⟨la, lc, xs, r, rfl, hO3, hP3, hcap, hB3⟩
  have hs3 := hB3.size
  have HO := hide hO3
  have HX3 := hide ((unhide HX2).below hB3 hl12)
  have HM3 := hide ((unhide HM2).below hB3)
  have HP3 := hide hP3
  have hW3 := hW2.trans (hB3.mono hW2.size)
  have hxl := hO3.length
  have hl13 : w1.heap.size < w3.heap.size := by omega
  obtain ⟨q, hq⟩ : ∃ q, q = xs.length := ⟨_, rfl⟩
  rw [← hq] at hcap hxl ⊢
  have HQ := hide hq.symm
  clear hB3 hO3 hP3 x0 x1 x2 x3 HX2 HM2 hW2 hq
  obtain ⟨x0, x1, x2, x3⟩ := (unhide HX3).cells
  go_wp2_with fail
  refine (specOpsOf_any a1 c1 m.bs n1 (unhide HM3).bs ma mc m.L mn (unhide HM3).L m.seq m.o lg d _ (unhide HM3).blocks (unhide HSH).1 (unhide HM3).ints (by omega) hd1).mono ?_
  rintro e w4 ⟨v, xs2, r2, rfl, hO4, hV4, hB4⟩
  obtain ⟨rfl, rfl⟩ := hO4.one (unhide HO)
  obtain ⟨va, vc, rfl, hva, _⟩ := hV4.form
  rw [unhide HQ]
  have hs4 := hB4.size
  have HX4 := hide ((unhide HX3).below hB4 hl13)
  have HM4 := hide ((unhide HM3).below hB4)
  have HP4 := hide ((unhide HP3).below hB4)
  have HV4 := hide hva
  have hW4 := hW3.trans (hB4.mono hW3.size)
  have hl14 : w1.heap.size < w4.heap.size := by omega
  have hne : (r2 != r2) = false := by simp
  have heq : (r2 == r2) = true := by simp
  clear hB4 hO4 hV4 hva x0 x1 x2 x3 HX3 HM3 HP3 hW3 HV4
  cases r2 with
  | false =>
    go_wp2
    go_ret
    exact ⟨rfl, hW4⟩
  | true =>
    obtain ⟨⟨hok, hfo, hro⟩, hxs⟩ : (FtlOk m.bs m.L m.seq m.o ∧ formOk m.bs lg d ∧ roomy m.bs m.seq) ∧ xs2 = writeOps m.bs m.L m.seq m.o lg d := by
      rcases unhide HO with ⟨_, h1, h2⟩ | ⟨h, _⟩
      · exact ⟨h1, h2⟩
      · cases h
    have hq6 : q ≤ 6 := by have := (writeOps_length m.bs m.L m.seq m.o lg d).2; have := unhide HQ; rw [hxs] at this; omega
    have HXS := hide hxs
    have HOK := hide hok
    have HFO := hide hfo
    have HRO := hide hro
    clear hxs hok hfo hro HO
    go_wp2
    go_loopw [10] (fun vi wr => ∃ k : Nat, k ≤ q + 1 ∧ vi = .int .i64 k ∧ Below w4.heap.size w4 wr) (fun vi _ => q + 1 - (intOf vi).toNat)
    case atStart => exact ⟨0, Nat.zero_le _, rfl, Below.refl _ _⟩
    case round =>
      obtain ⟨k, hk, rfl, hB⟩ := hrel
      obtain ⟨w11, rfl⟩ : ∃ w11, w11 = wr := ⟨_, rfl⟩
      have hs11 := hB.size
      by_cases hle : k ≤ q
      · obtain ⟨outw, hrunw, _⟩ := (unhide HOK).runs (unhide HFO) (unhide HRO)
        rw [← unhide HXS] at hrunw
        obtain ⟨mid, hmr⟩ := hrunw.part (k := k)
        have hxl := unhide HQ
        have hy := unhide HY (unhide HOK)
        obtain ⟨hmok, hmlen, hmtidy, hmread, hmlg, hmend⟩ := (unhide HOK).cut (unhide HFO) hy.2 hy.1 (k := k) (mid := mid) (by rw [← unhide HXS]; omega) (by rw [← unhide HXS]; exact hmr)
        have HM1 : Hid (∀ o r, DidIs m.bs (xs2.take k) o r → o = mid ∧ r = true) := fun o r h => h.one (.inl ⟨rfl, (unhide HOK).chip, by rw [List.length_take]; omega, hmr⟩)
        have HT1 : Hid ((xs2.take k).length = k) := by show _ = _; rw [List.length_take]; omega
        have HMOK := hide hmok
        have HMT := hide hmtidy
        have HML := hide hmlen
        have HMR := hide hmread
        have HMG := hide hmlg
        have HME : Hid (k = q → readOf mid lg = d) := fun e => hmend (by rw [← unhide HXS]; omega)
        have hki : (k : Int) ≤ (q : Int) := by omega
        have hkc : (k : Int) ≤ (lc : Int) := by omega
        have hk0 : (0 : Int) ≤ (k : Int) := by omega
        have HX11 := hide ((unhide HX4).below hB (by omega))
        have HM11 := hide ((unhide HM4).below hB)
        have HP11 := hide ((unhide HP4).opsAt.below hB (Nat.le_refl _))
        have hW11 := hW4.trans (hB.mono hW4.size)
        have hl111 : w1.heap.size < w11.heap.size := by omega
        have HB11 := hide hB
        have HXT : Hid (∀ W, Below w11.heap.size w11 W → OpsAt W la (xs2.take k)) := fun W hW => opsTakeC ((unhide HP11).below hW (Nat.le_refl _)) k
        clear hmr hmok hmlen hmtidy hmread hmlg hmend hxl hy hB hrunw
        obtain ⟨x0, x1, x2, x3⟩ := (unhide HX11).cells
        go_upto_region 11 with fail
        go_cut [11, 12] (fun v11 v12 wx => MadeE w11 mid v11 v12 wx)
        case first =>
          go_region_with (first
            | (go_at_call 8
               refine (implDid_own a1 c1 m.bs n1 (unhide HM11).bs _ _ (xs2.take k) _ (unhide HT1) (by omega) _ (by first | exact ((unhide HM11).blocks.below (Below.refl _ w11).drew (Nat.le_refl _)) | exact ((unhide HM11).blocks.below (((Below.refl w11.heap.size w11).alloc (Nat.le_refl _) _).drew) (Nat.le_refl _))) (lens9C (unhide HSH).1) (by first | exact (unhide HXT) _ (Below.refl _ w11).drew | exact (unhide HXT) _ (((Below.refl w11.heap.size w11).alloc (Nat.le_refl _) _).drew))).mono ?_
               rintro e wn ⟨an, nn, cn, on, rn, rfl, hEn, hOn, hBn⟩
               obtain ⟨e5, e6⟩ := unhide HM1 _ _ hEn
               subst e6
               have HDn : Hid (ChipIn wn an nn mid) := by
                 show ChipIn wn an nn mid
                 rw [← e5]
                 exact ⟨hOn.1, hOn.blocksAt, hEn.lens⟩
               have HBn : Hid (Below w11.heap.size w11 wn) := by first | exact (Below.refl _ w11).drew.trans hBn | exact (((Below.refl w11.heap.size w11).alloc (Nat.le_refl _) _).drew).trans (hBn.mono (by simp))
               try have hcb : wn.cell? ⟨w11.heap.size, 0, none⟩ = some (.slice none 0 0) := by first | (rw [hBn.cell (p := ⟨w11.heap.size, 0, none⟩) (by simp)]; simp; done)
               try have hfb : wn.frozen? ⟨w11.heap.size, 0, none⟩ = false := by first | (rw [hBn.frozen (p := ⟨w11.heap.size, 0, none⟩) (by simp)]; simp; done)
               clear hEn hOn hBn e5))
          all_goals (
            go_wp2_with fail
            go_meet
            first
              | exact madeE_new _ (unhide HBn) (unhide HDn)
              | exact madeE_set hcb (Nat.le_refl _) (unhide HBn) (unhide HDn))
        case rest =>
          obtain ⟨P12, a5, n5, c5, rfl, rfl, hP12, hPl, p12, hC12, hB12⟩ := hcut
          rename World => w12
          have hs12 := hB12.size
          have HC12 := hide hC12
          have HX12 := hide ((unhide HX11).below hB12 hl111)
          have HM12 := hide ((unhide HM11).below hB12)
          have hW12 := hW11.trans (hB12.mono hW11.size)
          have HB12 := hide ((unhide HB11).trans (hB12.mono hs11))
          have hl112 : w1.heap.size < w12.heap.size := by omega
          clear hB12 hC12 HXT HX11 HM11 HP11 hW11 x0 x1 x2 x3 HB11 HM1
          go_wp2_with fail
          refine (implRecovered_any a5 c5 mid n5 (unhide HC12).1 _ (unhide HC12).2.1 (lens9C (unhide HC12).2.2)).mono ?_
          rintro e w13 ⟨⟨a6, n6, c6, ma6, mn6, mc6, m6, r6, rfl, hRec, hF6⟩, hB13⟩
          obtain ⟨rfl, hok6, hlen6, hread6⟩ := recIs_cut (unhide HMOK) (unhide HMT) hRec
          have hs13 := hB13.size
          have hsh6 := hok6.short
          have HS6 := hide hsh6.1
          have hmm : mn6 = mn := by
            have e1 := FtlOk.len (unhide HOK)
            have e2 := FtlOk.len hok6
            have e3 := hF6.length.2
            have e4 := (unhide HM12).L
            have e5 := unhide HML
            rw [hlen6, e5] at e2
            omega
          subst hmm
          have hnl6 : m6.bs.length = n6 := hF6.length.1
          have hnL6 : m6.L.length = mn6 := hF6.length.2
          obtain ⟨w14, hw14⟩ : ∃ w14, w14 = w13.alloc (.cells #[.slice a6 n6 c6, .slice ma6 mn6 mc6, .int .i64 m6.seq, .int .i64 m6.o] 29) := ⟨_, rfl⟩
          have hBw14 : Below w13.heap.size w13 w14 := by rw [hw14]; exact (Below.refl _ _).alloc (Nat.le_refl _) _
          have HG14 : Hid (BoxAt w14 w13.heap.size a6 n6 c6 ma6 mn6 mc6 m6.seq m6.o) := by rw [hw14]; exact BoxAt.alloc _ _ _ _ _ _ _ _ _ _
          have hB124 := hB13.trans (hBw14.mono hB13.size)
          have HF14 := hide (hF6.below hBw14)
          have HX14 := hide ((unhide HX12).below hB124 (by omega))
          have HM14 := hide ((unhide HM12).below hB124)
          have hW14 := hW12.trans (hB124.mono hW12.size)
          have HB14 := hide ((unhide HB12).trans (hB124.mono (by omega)))
          have hl134 : w13.heap.size < w14.heap.size := (unhide HG14).lt
          have HOK6 := hide hok6
          have HRD : Hid (∀ l, readOf m6.bs l = readOf mid l) := hread6
          clear hRec hF6 hB13 hBw14 hB124 hok6 hread6 hsh6 HC12 HX12 HM12 hW12 p12 HB12 HMOK HMT hlen6
          obtain ⟨y0, y1, y2, y3⟩ := (unhide HG14).cells
          go_wp2_with fail
          rw [← hw14]
          clear hw14
          refine (implFtlOk_any a6 c6 m6.bs n6 hnl6 ma6 mc6 m6.L mn6 hnL6 m6.seq m6.o _ (unhide HF14).blocksAt (lens9C (unhide HS6)) (unhide HF14).2.1 (by omega)).mono ?_
          rintro e w15 ⟨⟨r15, rfl, hr15⟩, hB15⟩
          obtain rfl : r15 = true := hr15.2 (unhide HOK6)
          have hs15 := hB15.size
          have HG15 := hide ((unhide HG14).below hB15 hl134)
          have HF15 := hide ((unhide HF14).below hB15)
          have HX15 := hide ((unhide HX14).below hB15 (by omega))
          have HM15 := hide ((unhide HM14).below hB15)
          have hW15 := hW14.trans (hB15.mono hW14.size)
          have HB15 := hide ((unhide HB14).trans (hB15.mono (by omega)))
          clear hB15 hr15 HG14 HF14 HX14 HM14 hW14 HB14 y0 y1 y2 y3
          obtain ⟨x0, x1, x2, x3⟩ := (unhide HX15).cells
          go_wp2
          clear x0 x1 x2 x3
          go_loopw [15] (fun vi wr => ∃ j : Nat, j ≤ mn6 ∧ vi = .int .i64 j ∧ Below w15.heap.size w15 wr) (fun vi _ => mn6 - (intOf vi).toNat)
          case atStart => exact ⟨0, Nat.zero_le _, rfl, Below.refl _ _⟩
          case round =>
            obtain ⟨j, hj, rfl, hBj⟩ := hrel
            obtain ⟨w16, rfl⟩ : ∃ w16, w16 = wr := ⟨_, rfl⟩
            have hs16 := hBj.size
            have HX16 := hide ((unhide HX15).below hBj (by omega))
            have HG16 := hide ((unhide HG15).below hBj (by omega))
            have HM16 := hide ((unhide HM15).below hBj)
            have HF16 := hide ((unhide HF15).below hBj)
            have HB16 := hide hBj
            have HBE := hide ((unhide HB15).trans (hBj.mono (by omega)))
            clear hBj
            obtain ⟨x0, x1, x2, x3⟩ := (unhide HX16).cells
            by_cases hjt : j < mn6
            · have hji : (j : Int) < (mn6 : Int) := by omega
              go_wp2_with fail
              refine (implPageAt_any a1 c1 m.bs n1 (unhide HM16).bs ma mc m.L mn6 (unhide HM16).L m.seq m.o (j : Int) _ (unhide HM16).blocks (lens9C (unhide HSH).1) (unhide HM16).ints (by omega)).mono ?_
              rintro e w17 ⟨d17, r17, rfl, hP17, hB17⟩
              obtain ⟨rfl, rfl⟩ := page_readC (unhide HOK) (by have := (unhide HM16).L; omega) hP17
              have hs17 := hB17.size
              have HG17 := hide ((unhide HG16).below hB17 (by omega))
              have HF17 := hide ((unhide HF16).below hB17)
              have HB17 := hide ((unhide HB16).trans (hB17.mono hs16))
              clear hB17 hP17 x0 x1 x2 x3 HX16 HG16 HM16 HF16 HB16
              obtain ⟨y0, y1, y2, y3⟩ := (unhide HG17).cells
              go_wp2_with fail
              refine (implPageAt_any a6 c6 m6.bs n6 hnl6 ma6 mc6 m6.L mn6 hnL6 m6.seq m6.o (j : Int) _ (unhide HF17).blocksAt (lens9C (unhide HS6)) (unhide HF17).2.1 (by omega)).mono ?_
              rintro e w18 ⟨d18, r18, rfl, hP18, hB18⟩
              obtain ⟨rfl, rfl⟩ := page_readC (unhide HOK6) (by omega) hP18
              have HB18 := hide ((unhide HB17).trans (hB18.mono (by omega)))
              rw [unhide HRD (j : Int)]
              clear hB18 hP18 y0 y1 y2 y3 HG17 HF17 HB17
              have hcase : (readOf mid (j : Int) = readOf m.bs (j : Int) ∧ ((j : Int) ≠ lg ∨ k ≠ q ∨ readOf m.bs (j : Int) = d)) ∨ (readOf mid (j : Int) = d ∧ (j : Int) = lg ∧ d ≠ readOf m.bs (j : Int)) := by
                by_cases hjl : (j : Int) = lg
                · rw [hjl]
                  have h1 := unhide HMG
                  have h2 := unhide HME
                  by_cases e : d = readOf m.bs lg
                  · left
                    refine ⟨?_, .inr (.inr e.symm)⟩
                    rcases h1 with h1 | h1
                    · exact h1
                    · rw [h1]; exact e
                  · by_cases e2 : readOf mid lg = d
                    · exact .inr ⟨e2, rfl, e⟩
                    · refine .inl ⟨h1.resolve_right e2, .inr (.inl fun e3 => e2 (h2 e3))⟩
                · exact .inl ⟨unhide HMR _ hjl, .inl hjl⟩
              obtain ⟨S, hS⟩ : ∃ S, S = readOf m.bs (j : Int) := ⟨_, rfl⟩
              obtain ⟨Tt, hTt⟩ : ∃ Tt, Tt = readOf mid (j : Int) := ⟨_, rfl⟩
              rw [← hS, ← hTt] at hcase ⊢
              clear hS hTt
              have hkq : ((k : Int) == (q : Int)) = true ∨ ((k : Int) == (q : Int)) = false := by cases ((k : Int) == (q : Int)) <;> simp
              rcases hcase with ⟨rfl, hor⟩ | ⟨rfl, hjl, hds⟩
              · have e1 := bytes_eq Tt
                have e2 := bytes_beqn Tt
                by_cases hjl : (j : Int) = lg
                · have b1 : ((j : Int) == lg) = true := by simpa using hjl
                  have b2 : ((j : Int) != lg) = false := by simpa using hjl
                  by_cases hkk : k = q
                  · obtain rfl : Tt = d := by
                      rcases hor with h | h | h
                      · exact absurd hjl h
                      · exact absurd hkk h
                      · exact h
                    have b3 : ((k : Int) == (q : Int)) = true := by simp; omega
                    clear hor hjl hkk hkq
                    go_wp2
                    go_roundw
                    case rel => exact ⟨j + 1, by omega, by go_num, unhide HB18⟩
                    case measure => simp [intOf]; omega
                  · have b3 : ((k : Int) == (q : Int)) = false := by simp; omega
                    clear hor hjl hkk hkq
                    go_wp2
                    go_roundw
                    case rel => exact ⟨j + 1, by omega, by go_num, unhide HB18⟩
                    case measure => simp [intOf]; omega
                · have b1 : ((j : Int) == lg) = false := by simpa using hjl
                  have b2 : ((j : Int) != lg) = true := by simpa using hjl
                  rcases hkq with b3 | b3
                  all_goals (
                    clear hor hjl
                    go_wp2
                    go_roundw
                    case rel => exact ⟨j + 1, by omega, by go_num, unhide HB18⟩
                    case measure => simp [intOf]; omega)
              · have b1 : ((j : Int) == lg) = true := by simpa using hjl
                have b2 : ((j : Int) != lg) = false := by simpa using hjl
                have e1 := bytes_ne hds
                have e2 := bytes_bne hds
                have e3 := bytes_eq Tt
                have e4 := bytes_beqn Tt
                rcases hkq with b3 | b3
                all_goals (
                  clear hjl hds
                  go_wp2
                  all_goals (
                    go_roundw
                    case rel => exact ⟨j + 1, by omega, by go_num, unhide HB18⟩
                    case measure => simp [intOf]; omega))
            · obtain rfl : j = mn6 := by omega
              go_wp2
              go_roundw
              case rel => exact ⟨k + 1, by omega, by go_num, unhide HBE⟩
              case measure => simp [intOf]; omega
      · have hki : ¬ (k : Int) ≤ (q : Int) := by omega
        have hWE := hW4.trans (hB.mono hW4.size)
        go_wp2
        go_ret
        exact ⟨rfl, hWE⟩

set_option maxRecDepth 100000 in
theorem lifted (os : Os) (started : os.Started) (H : Type) (enc : TypeId × Value → H) :
    ReturnsInHanded {} Tryz.checked os 3 .any (Rows.fnCutSpec.pre6 enc Tryz.prog Tryz.f3 Rows.fnCutRow.domain false) (Rows.fnCutSpec.post enc Tryz.prog Tryz.f3 false true false false) := by
  refine returnsInHanded_of_change (C := Tryz.checked) own started (by kernel_rfl) Tryz.func3
    (ChangeSpec.witness6 (enc := enc) (C := Tryz.checked) false ⟨#[], #[.slice none 0 0], []⟩ 8 (by kernel_rfl) (by kernel_rfl) (by kernel_rfl) (by kernel_rfl)) ?_
  intro W base args ds gs before hval0 hW hcnd _
  have hval : ∀ (j : Nat) t v, Tryz.f3.params[j]? = some t → args[j]? = some v → Value.okWide Tryz.prog W .any base t v := hval0
  have hW' := hW
  obtain ⟨p, q, hA0, hV, rfl, hfz, hnd⟩ := hW
  have hA : DataW.TrodAll enc Tryz.prog W 0 (fun _ => true) true Tryz.f3.params.toList args.toList ds p := hA0
  rw [Tryz.params3] at hA hval
  obtain ⟨v0, vs0, d0, ds0, p0, q0, hargs, rfl, rfl, h0, r0⟩ := trodAll_cons hA
  obtain ⟨rfl, rfl, rfl⟩ := trodAll_nil r0
  obtain rfl : args = #[v0] := by cases args; simp_all
  obtain ⟨rfl, rfl⟩ := trodVars_none hV
  have k0 := h0
  have lt0 : ∀ x ∈ p0, x.block < W.heap.size := by obtain ⟨m, hm⟩ := k0; exact DataW.trod_lt m _ _ _ hm
  obtain ⟨a, n, c, rfl, hL, hlen⟩ := open_code Tryz.underlying22 Tryz.underlying5 (by kernel_rfl) (hval 0 22 v0 rfl rfl) h0

  clear hA0 hval0
  refine (walk a n c W hL hlen).mono fun e W' ⟨he, bel⟩ => ?_
  subst he
  exact ⟨_, rfl, _, _, _, [], _, [], hW', trodAll_mk1 (shut_bool Tryz.underlying4 _), (trodAll_cons_mk (Below.trod laidOut (by kernel_rfl) (of_decide_eq_true (by kernel_rfl)) k0 bel lt0) trodAll_mk0), rfl, bel.frame _, fun h => by cases h⟩

theorem over : Rows.fnCutRow.holds Tryz.pinned (OpenSpec.ofChange Rows.fnCutSpec) :=
  OpenClaim.holds_of_wide 3 Tryz.f3 rfl rfl rfl rfl rfl rfl rfl ⟨rfl, rfl, rfl, rfl, rfl⟩ rfl rfl rfl rfl rfl (by kernel_rfl) Tryz.func3 (by kernel_rfl)
    (of_decide_eq_true (by kernel_rfl)) (by unfold Func.isWrapper; first | (rw [if_pos (by decide +kernel)]; kernel_rfl) | (rw [if_neg (by decide +kernel)]; exact ⟨rfl, rfl⟩))
    (fun os started H enc _ => lifted os started H enc)

end Go.Proofs.YtjgcjeaplckbbaaGreat.fnCut
namespace Go.Proofs.YtjgcjeaplckbbaaGreat
theorem cutP_holds : Rows.FnCutSaid := fnCut.over
end Go.Proofs.YtjgcjeaplckbbaaGreat
