/- Whatever the code that is drawn from, the law FnParities answers true: of as many stripes as all weights together, from a drawn one on, each member has as many parities as it weighs; the program's ParityOf is the model's there. No condition. -/
import Derived.Test.YtaelbmilicfkhaaRows
import Derived.Test.YtaelbmilicfkhaaLayS
import Derived.Test.YtaelbmilicfkhaaLayJ
import Derived.Test.YtaelbmilicfkhaaParM
import Derived.Test.YtaelbmilicfkhaaSameI
import Derived.Test.YtaelbmilicfkhaaDr5
import Derived.Test.YtaelbmilicfkhaaOpenI
import Derived.Test.YtaelbmilicfkhaaLaw0
import Derived.WalkKit
import Derived.ProofKit
import Derived.OpenShut
import Derived.ChangeOld
import Derived.Below
namespace Go.Proofs.Ytaelbmilicfkhaa.fnParities
open Go.ChangeShapes Go.WideShapes Go.ChangeAt Go.RowKit
set_option linter.unusedVariables false
set_option linter.unusedSimpArgs false

theorem makeInts (n : Nat) (hn : n ≤ 1048576) (w : World) :
    (Instr.makeSlice 30 (.int .i64 (n : Int)) (.int .i64 (n : Int))).run Try.prog w = .ok (.slice (some ⟨w.heap.size, 0, none⟩) n n) (w.alloc (.cells (madeCells #[.int .i64 0] n) 2)) := by
  obtain ⟨i, hi, hz0, hz1, hz2⟩ := info_get infoInt64W
  have h := run_make (P := Try.prog) w 30 2 i _ Try.underlying30 hi hz0 .i64 .i64 (n : Int) (n : Int) (by omega) (Int.le_refl _) (by rw [hz2]; omega) (by omega)
  rw [hz1] at h
  simpa [Value.cells] using h

def seenF (L : List Int) (a : Int) (i : Nat) (m : Nat) : Value := .int .i64 (seenOf L a i m)

theorem seen_le {L : List Int} (ho : LayOk L) (s : Int) (i m : Nat) (hi : (i : Int) ≤ L.sum) (hm : m < L.length) : -100 ≤ seenOf L (s % L.sum) i m ∧ seenOf L (s % L.sum) i m ≤ 100 := by
  have hS := ho.sum
  have h0 := Int.emod_nonneg s (b := L.sum) (by omega)
  have h1 := Int.emod_lt_of_pos s (b := L.sum) (by omega)
  have u1 := ho.2.1.upto m (by omega)
  have u2 := upto_mono ho.2.1 m (m + 1) (by omega) (by omega)
  have u3 := upto_le_sum ho.2.1 (k := m + 1) (by omega)
  unfold seenOf jOf
  split <;> omega

set_option maxRecDepth 100000 in
set_option maxHeartbeats 2000000 in
theorem walk (a : Option Addr) (n c : Nat) (w : World) (h : CodeAt w a n) (hn : n ≤ 9223372036854775807) :
    Calls Try.prog 5 #[.slice a n c] w fun e w' => e = .returned (.bool true) ∧ Below w.heap.size w w' := by
  have HC := hide h
  clear h
  go_enter Try.func5, Try.ntmps5
  go_wp2_with fail
  refine (big_any a n c _ hn).mono ?_
  rintro e w0 ⟨rfl, rfl⟩
  by_cases hbig : (1048576 : Int) < (n : Int)
  · have hd : decide ((1048576 : Int) < (n : Int)) = true := by simpa using hbig
    rw [hd]
    clear hd
    go_wp2
    go_ret
    exact ⟨rfl, Below.refl _ _⟩
  · have hd : decide ((1048576 : Int) < (n : Int)) = false := by simpa using hbig
    have hbig' : n ≤ 1048576 := by omega
    rw [hd]
    clear hd hbig
    go_wp2_with fail
    refine (drawParityOf_any a n c _ (unhide HC) hbig').mono ?_
    rintro e w1 ⟨g, len, cap, s, L, rfl, hD, hB1⟩
    have HD1 := hide hD
    have hW1 := hB1
    clear hD hB1 HC
    go_wp2_with fail
    refine (implParityOf_any _ _ L len (unhide HD1).2.1 s _ (unhide HD1).1).mono ?_
    rintro e w2 ⟨p, rfl, hP, hB2⟩
    have HP := hide hP
    have HD2 := hide ((unhide HD1).below hB2 (Nat.le_refl _))
    have hW2 := hW1.trans (hB2.mono hW1.size)
    clear hP hB2 HD1
    go_wp2_with fail
    refine (specParityOf_any _ _ L len (unhide HD2).2.1 s _ (unhide HD2).1).mono ?_
    rintro e w3 ⟨p', rfl, hP2, rfl⟩
    obtain rfl := hP2.one (unhide HP)
    clear hP2
    have hne1 : (p' != p') = false := by simp
    have heq1 : (p' == p') = true := by simp
    by_cases hc1 : p' < 0
    · go_wp2_with fail
      refine (specParityOf_any _ _ L len (unhide HD2).2.1 s _ (unhide HD2).1).mono ?_
      rintro e w4 ⟨p2, rfl, hP2, rfl⟩
      obtain rfl := hP2.one (unhide HP)
      clear hP2
      go_wp2
      go_ret
      exact ⟨by simp, hW2⟩
    · by_cases hc2 : 999999970 < s
      · go_wp2_with fail
        refine (specParityOf_any _ _ L len (unhide HD2).2.1 s _ (unhide HD2).1).mono ?_
        rintro e w4 ⟨p2, rfl, hP2, rfl⟩
        obtain rfl := hP2.one (unhide HP)
        clear hP2
        go_wp2
        go_ret
        exact ⟨by simp, hW2⟩
      · have hal : LayOk L ∧ 0 ≤ s := by
          rcases unhide HP with ⟨h1, h2, _⟩ | ⟨_, h2⟩
          · exact ⟨h1, h2.1⟩
          · omega
        have HO := hide hal.1
        have hs0 := hal.2
        have hsum := hal.1.sum
        have hlen := (unhide HD2).2.1
        have h25 := (unhide HD2).2.2
        have HLEN := hide hlen
        clear hal hlen HP
        go_wp2
        go_loop [6, 7] (fun v i => ∃ k : Nat, k ≤ len ∧ i = .int .i64 k ∧ v = .int .i64 (upto L k)) (fun _ i => len - (intOf i).toNat)
        case atStart => exact ⟨0, Nat.zero_le _, rfl, by simp [upto_zero]⟩
        case round =>
          obtain ⟨k, hk, rfl, rfl⟩ := hrel
          by_cases hlt : k < len
          · obtain ⟨x, hx⟩ := getElem?_ex (l := L) (k := k) (by have := unhide HLEN; omega)
            obtain ⟨b1, o1, hbo, g1⟩ := (unhide HD2).1 k x hx
            cases hbo
            rw [Nat.zero_add] at g1
            have hu := (unhide HO).2.1.upto k (by have := unhide HLEN; omega)
            have hx5 := (unhide HO).2.1.at hx
            have HX := hide (upto_step hx)
            clear hx
            generalize upto L k = u at hu HX ⊢
            go_wp2
            go_round
            case rel => exact ⟨k + 1, by omega, by go_num, by rw [unhide HX]⟩
            case measure => simp [intOf]; omega
          · have hk' : upto L k = L.sum := by rw [show k = L.length by have := unhide HLEN; omega, upto_all]
            rw [hk']
            clear hk'
            have hmk := makeInts len (by omega)
            obtain ⟨S, hS⟩ := Int.eq_ofNat_of_zero_le (show 0 ≤ L.sum by omega)
            have HS := hide hS
            rw [hS] at hsum ⊢
            clear hS
            go_wp2
            clear hmk
            go_loopw [9] (fun i wr => ∃ k : Nat, k ≤ S ∧ i = .int .i64 k ∧ wr.rowIs w3.heap.size 2 len (seenF L (s % L.sum) k) ∧ Below w3.heap.size w3 wr) (fun i _ => S - (intOf i).toNat)
            case atStart =>
              refine ⟨0, Nat.zero_le _, rfl, ?_, (Below.refl _ _).alloc (Nat.le_refl _) _⟩
              refine (World.rowIs_made w3 (.int .i64 0) len _).congr fun i hi => ?_
              unfold seenF
              rw [seenOf_zero (Int.emod_lt_of_pos _ (unhide HO).2.2)]
            case round =>
              obtain ⟨q, hq, rfl, hR, hB⟩ := hrel
              have HR := hide hR
              by_cases hqS : q < S
              · go_wp2_with fail
                refine (implParityOf_any _ _ L len (unhide HLEN) (s + (q : Int)) _ ((unhide HD2).below hB (Nat.le_refl _)).1).mono ?_
                rintro e w5 ⟨r, rfl, hr, hB5⟩
                have hrp : ∃ m : Nat, r = (m : Int) ∧ ParIs L (s + (q : Int)) m := by
                  rcases hr with ⟨_, _, m, h1, h2⟩ | ⟨h1, _⟩
                  · exact ⟨m, h1, h2⟩
                  · exact absurd ⟨unhide HO, by omega⟩ h1
                obtain ⟨m, rfl, hm⟩ := hrp
                have hml : m < len := by have := hm.lt; have := unhide HLEN; omega
                have hsz := World.rowIs.lt hR
                have hR5 : w5.rowIs w3.heap.size 2 len (seenF L (s % L.sum) q) := hR.of_block (hB5.block _ hsz)
                have c0 := hR5.cell (i := m) hml
                have f0 := hR5.frozen
                have hbd := seen_le (unhide HO) s q m (by rw [unhide HS]; omega) (by have := unhide HLEN; omega)
                have hstep := fun j (hj : j < len) => seenOf_step (unhide HO) (i := q) (by rw [unhide HS]; omega) hm (m := j) (by have := unhide HLEN; omega)
                have HST := hide hstep
                have HR5 := hide hR5
                have hW5 := hB.trans (hB5.mono hB.size)
                unfold seenF at c0
                obtain ⟨y, hy⟩ : ∃ y, y = seenOf L (s % L.sum) q m := ⟨_, rfl⟩
                rw [← hy] at c0 hbd
                have HY := hide hy
                clear hr hR5 hstep hm hB5 hR HR hy
                go_wp2
                go_roundw
                case rel =>
                  refine ⟨q + 1, by omega, by go_num, ?_, hW5.setCell (Nat.le_refl _) _⟩
                  refine ((unhide HR5).set m (.int .i64 (y + 1))).congr fun j hj => ?_
                  unfold seenF
                  rw [unhide HST j hj]
                  by_cases e : j = m
                  · subst e; simp [unhide HY]
                  · simp [e]
                case measure => simp [intOf]; omega
              · have hqe : q = S := by omega
                subst hqe
                have hI1 : IntsAt wr (some ⟨w3.heap.size, 0, none⟩) L := by
                  intro j x hx
                  have hj := (List.getElem?_eq_some_iff.1 hx).1
                  refine ⟨_, _, rfl, ?_⟩
                  rw [Nat.zero_add, hR.cell (i := j) (by have := unhide HLEN; omega)]
                  unfold seenF
                  rw [seenOf_all (unhide HO) (unhide HS).symm hx]
                have HI1 := hide hI1
                have HI2 := hide ((unhide HD2).below hB (Nat.le_refl _)).1
                clear hR HR hI1
                go_wp2_with fail
                refine (sameInts_same _ _ _ _ L len (unhide HLEN) _ (unhide HI1) (unhide HI2) (by omega)).mono ?_
                rintro e w6 ⟨rfl, hB6⟩
                have hW6 := (hW2.trans (hB.mono hW2.size))
                have hW7 := hW6.trans (hB6.mono hW6.size)
                go_wp2
                go_ret
                exact ⟨rfl, hW7⟩

set_option maxRecDepth 100000 in
theorem lifted (os : Os) (started : os.Started) (H : Type) (enc : TypeId × Value → H) :
    ReturnsInHanded {} Try.checked os 5 .any (Rows.fnParitiesSpec.pre6 enc Try.prog Try.f5 Rows.fnParitiesRow.domain false) (Rows.fnParitiesSpec.post enc Try.prog Try.f5 false true false false) := by
  refine returnsInHanded_of_change (C := Try.checked) own started (by kernel_rfl) Try.func5
    (ChangeSpec.witness6 (enc := enc) (C := Try.checked) false ⟨#[], #[.slice none 0 0], []⟩ 8 (by kernel_rfl) (by kernel_rfl) (by kernel_rfl) (by kernel_rfl)) ?_
  intro W base args ds gs before hval0 hW hcnd _
  have hval : ∀ (j : Nat) t v, Try.f5.params[j]? = some t → args[j]? = some v → Value.okWide Try.prog W .any base t v := hval0
  have hW' := hW
  obtain ⟨p, q, hA0, hV, rfl, hfz, hnd⟩ := hW
  have hA : DataW.TrodAll enc Try.prog W 0 (fun _ => true) true Try.f5.params.toList args.toList ds p := hA0
  rw [Try.params5] at hA hval
  obtain ⟨v0, vs0, d0, ds0, p0, q0, hargs, rfl, rfl, h0, r0⟩ := trodAll_cons hA
  obtain ⟨rfl, rfl, rfl⟩ := trodAll_nil r0
  obtain rfl : args = #[v0] := by cases args; simp_all
  obtain ⟨rfl, rfl⟩ := trodVars_none hV
  have k0 := h0
  have lt0 : ∀ x ∈ p0, x.block < W.heap.size := by obtain ⟨m, hm⟩ := k0; exact DataW.trod_lt m _ _ _ hm
  obtain ⟨a, n, c, rfl, hL, hlen⟩ := open_code Try.underlying22 Try.underlying5 (by kernel_rfl) (hval 0 22 v0 rfl rfl) h0

  clear hA0 hval0
  refine (walk a n c W hL hlen).mono fun e W' ⟨he, bel⟩ => ?_
  subst he
  exact ⟨_, rfl, _, _, _, [], _, [], hW', trodAll_mk1 (shut_bool Try.underlying4 _), (trodAll_cons_mk (Below.trod laidOut (by kernel_rfl) (of_decide_eq_true (by kernel_rfl)) k0 bel lt0) trodAll_mk0), rfl, bel.frame _, fun h => by cases h⟩

theorem over : Rows.fnParitiesRow.holds Try.pinned (OpenSpec.ofChange Rows.fnParitiesSpec) :=
  OpenClaim.holds_of_wide 5 Try.f5 rfl rfl rfl rfl rfl rfl rfl ⟨rfl, rfl, rfl, rfl, rfl⟩ rfl rfl rfl rfl rfl (by kernel_rfl) Try.func5 (by kernel_rfl)
    (of_decide_eq_true (by kernel_rfl)) (by unfold Func.isWrapper; first | (rw [if_pos (by decide +kernel)]; kernel_rfl) | (rw [if_neg (by decide +kernel)]; exact ⟨rfl, rfl⟩))
    (fun os started H enc _ => lifted os started H enc)

end Go.Proofs.Ytaelbmilicfkhaa.fnParities
namespace Go.Proofs.Ytaelbmilicfkhaa
theorem parities_holds : Rows.FnParitiesSaid := fnParities.over
end Go.Proofs.Ytaelbmilicfkhaa
