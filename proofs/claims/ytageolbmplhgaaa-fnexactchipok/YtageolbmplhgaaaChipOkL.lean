/- Whatever the chip, the law FnExactChipOk answers true: the program calls a chip right just where the model does, and leaves it as it was. No condition. -/
import Derived.Test.YtageolbmplhgaaaRows
import Derived.Test.YtageolbmplhgaaaCells
import Derived.Test.YtageolbmplhgaaaSpecOk
import Derived.Test.YtageolbmplhgaaaEq
import Derived.Test.YtageolbmplhgaaaSz
import Derived.Test.YtageolbmplhgaaaTo
import Derived.Test.YtageolbmplhgaaaOpenC
import Derived.WalkKit
import Derived.ProofKit
import Derived.OpenShut
import Derived.ChangeOld
import Derived.Below
namespace Go.Proofs.Ytageolbmplhgaaa.fnExactChipOk
open Go.ChangeShapes Go.WideShapes Go.ChangeAt Go.RowKit
set_option linter.unusedVariables false
set_option linter.unusedSimpArgs false

theorem own : ownKnob Try.prog.godebug = none := by kernel_rfl
theorem laidOut : laidOutB Try.prog = true := by kernel_rfl

noncomputable def okB (bs : List Bk) : Bool := @decide (ChipOk bs) (Classical.propDecidable _)
theorem okB_eq {bs : List Bk} {r : Bool} (h : r = true ↔ ChipOk bs) : r = okB bs := by
  unfold okB
  have := @decide_eq_true_iff (ChipOk bs) (Classical.propDecidable _)
  rw [Bool.eq_iff_iff]
  exact h.trans this.symm

theorem eqChip_n {n : Nat} (a1 a2 : Option Addr) (c1 c2 : Nat) (bs : List Bk) (hl : bs.length = n) (w : World) (h1 : BlocksAt w a1 bs) (h2 : BlocksAt w a2 bs) (hn : Lens 1048576 bs) :
    Calls Try.prog 19 #[.agg #[.slice a1 n c1], .agg #[.slice a2 n c2]] w fun e w' => e = .returned (.bool true) ∧ Below w.heap.size w w' := by
  subst hl; exact eqChip_same a1 a2 c1 c2 bs w h1 h2 hn
theorem szChip_n {n : Nat} (a : Option Addr) (c : Nat) (bs : List Bk) (hl : bs.length = n) (w : World) (h : BlocksAt w a bs) (hn : Lens 9223372036854775807 bs) (ht : Texts bs) :
    Calls Try.prog 15 #[.agg #[.slice a n c], .int .i64 1048576] w fun e w' => ∃ n : Int, e = .returned (.int .i64 n) ∧ n ≤ 1048576 ∧ (0 ≤ n → Lens 1048576 bs) ∧ Below w.heap.size w w' := by
  subst hl; exact szChip_any a c bs _ w h hn ht (by omega) (by omega)
theorem toChip_n {n : Nat} (a : Option Addr) (c : Nat) (bs : List Bk) (hl : bs.length = n) (w : World) (h : BlocksAt w a bs) (hn : Lens 1048576 bs) :
    Calls Try.prog 17 #[.agg #[.slice a n c]] w fun e w' => ∃ g, e = .returned (.agg #[.slice (some ⟨g, 0, none⟩) n n]) ∧ BlocksAt w' (some ⟨g, 0, none⟩) bs ∧ Below w.heap.size w w' := by
  subst hl
  refine (toChip_any a c bs w h hn).mono ?_
  rintro e w1 ⟨g, H, rfl, _, hO, hB⟩
  exact ⟨g, rfl, hO.blocksAt (Nat.le_refl _), hB⟩
theorem specChipOk_n {n : Nat} (a : Option Addr) (c : Nat) (bs : List Bk) (hl : bs.length = n) (w : World) (h : BlocksAt w a bs) (hn : Lens 1048576 bs) :
    Calls Try.prog 16 #[.agg #[.slice a n c]] w fun e w' => e = .returned (.bool (okB bs)) ∧ Below w.heap.size w w' := by
  subst hl
  refine (specChipOk_any a c bs w h hn).mono ?_
  rintro e w1 ⟨r, rfl, hr, hB⟩
  refine ⟨?_, hB⟩
  rw [← okB_eq hr]
theorem implChipOk_n {n : Nat} (a : Option Addr) (c : Nat) (bs : List Bk) (hl : bs.length = n) (w : World) (h : BlocksAt w a bs) (hn : Lens 1048576 bs) :
    Calls Try.prog 18 #[.agg #[.slice a n c]] w fun e w' => e = .returned (.bool (okB bs)) ∧ Below w.heap.size w w' := by
  subst hl
  refine (implChipOk_any a c bs w h ⟨by have := hn.1; omega, fun b hb => by have := hn.2 b hb; omega⟩).mono ?_
  rintro e w1 ⟨⟨r, rfl, hr⟩, hB⟩
  refine ⟨?_, hB⟩
  rw [← okB_eq hr]

set_option maxRecDepth 100000 in
set_option maxHeartbeats 2000000 in
theorem walk (a : Option Addr) (c : Nat) (bs : List Bk) (n : Nat) (hl : bs.length = n) (w : World) (h : BlocksAt w a bs) (hn : Lens 9223372036854775807 bs) (ht : Texts bs) :
    Calls Try.prog 3 #[.agg #[.slice a n c]] w fun e w' => e = .returned (.bool true) ∧ Below w.heap.size w w' := by
  have hb0 : ∀ o, Below w.heap.size w (w.alloc o) := fun o => (Below.refl _ w).alloc (Nat.le_refl _) _
  have hmix : Try.prog.follows .mixedOrders = true := by kernel_rfl
  have HL := hide hl
  clear hl
  go_enter Try.func3, Try.ntmps3
  go_wp2_with fail
  refine (szChip_n a c bs (unhide HL) _ (h.below (hb0 _) (Nat.le_refl _)) hn ht).mono ?_
  rintro e w1 ⟨left, rfl, _, hlens, hB1⟩
  have hs1 := hB1.size
  simp at hs1
  have hx1 : w1.cell? ⟨w.heap.size, 0, none⟩ = some (.slice a n c) := by
    rw [hB1.cell (p := ⟨w.heap.size, 0, none⟩) (by simp)]
    simp
  have hW1 : Below w.heap.size w w1 := (hb0 _).trans (hB1.mono (by simp))
  have HA1 := hide (h.below hW1 (Nat.le_refl _))
  clear hb0 hB1 h hn ht
  by_cases h0 : left < 0
  · clear hlens
    go_wp2
    go_ret
    exact ⟨rfl, hW1⟩
  · have HN := hide (hlens (by omega))
    clear hlens
    go_wp2_with fail
    refine (toChip_n a c bs (unhide HL) _ (unhide HA1) (unhide HN)).mono ?_
    rintro e w2 ⟨g1, rfl, hG1, hB2⟩
    have hs2 := hB2.size
    have hx2 := (hB2.cell (p := ⟨w.heap.size, 0, none⟩) (by show w.heap.size < _; omega)).trans hx1
    have hW2 := hW1.trans (hB2.mono hW1.size)
    have HA2 := hide ((unhide HA1).below hB2 (Nat.le_refl _))
    have HG1 := hide hG1
    clear hB2 hW1 hx1 hG1 HA1
    go_wp2_with fail
    refine (specChipOk_n _ n bs (unhide HL) _ (unhide HG1) (unhide HN)).mono ?_
    rintro e w3 ⟨rfl, hB3⟩
    generalize hrr : okB bs = r
    have hs3 := hB3.size
    have hx3 := (hB3.cell (p := ⟨w.heap.size, 0, none⟩) (by show w.heap.size < _; omega)).trans hx2
    have hW3 := hW2.trans (hB3.mono hW2.size)
    have HA3 := hide ((unhide HA2).below hB3 (Nat.le_refl _))
    clear hB3 hW2 hx2 HA2 HG1
    go_wp2_with fail
    refine (toChip_n a c bs (unhide HL) _ (unhide HA3) (unhide HN)).mono ?_
    rintro e w4 ⟨g2, rfl, hG2, hB4⟩
    have hs4 := hB4.size
    have hx4 := (hB4.cell (p := ⟨w.heap.size, 0, none⟩) (by show w.heap.size < _; omega)).trans hx3
    have hW4 := hW3.trans (hB4.mono hW3.size)
    have HA4 := hide ((unhide HA3).below hB4 (Nat.le_refl _))
    have HG2 := hide hG2
    clear hB4 hW3 hx3 hG2 HA3
    go_wp2_with fail
    have hb5 : ∀ o, Below w4.heap.size w4 (w4.alloc o) := fun o => (Below.refl _ w4).alloc (Nat.le_refl _) _
    refine (implChipOk_n _ n bs (unhide HL) _ ((unhide HG2).below (hb5 _) (Nat.le_refl _)) (unhide HN)).mono ?_
    rw [hrr]
    rintro e w6 ⟨rfl, hB6⟩
    have hs6 := hB6.size
    simp at hs6
    have hx6 : w6.cell? ⟨w.heap.size, 0, none⟩ = some (.slice a n c) := by
      rw [hB6.cell (p := ⟨w.heap.size, 0, none⟩) (by simp; omega), cell_alloc_lt _ _ _ _ (by omega)]
      exact hx4
    have hy6 : w6.cell? ⟨w4.heap.size, 0, none⟩ = some (.slice (some ⟨g2, 0, none⟩) n n) := by
      rw [hB6.cell (p := ⟨w4.heap.size, 0, none⟩) (by simp)]
      simp
    have hB46 : Below w4.heap.size w4 w6 := (hb5 _).trans (hB6.mono (by simp))
    have hW6 := hW4.trans (hB46.mono hW4.size)
    have hA6 : BlocksAt w6.drew a bs := (unhide HA4).below hB46.drew (Nat.le_refl _)
    have hG6 : BlocksAt w6.drew (some ⟨g2, 0, none⟩) bs := (unhide HG2).below hB46.drew (Nat.le_refl _)
    have HA6 := hide hA6
    have HG6 := hide hG6
    have HW6 := hide hW6.drew
    have hne : (r != r) = false := by simp
    have hl06 : w.heap.size < w6.heap.size := by omega
    have hl46 : w4.heap.size < w6.heap.size := by omega
    clear hB6 hB46 hW6 hW4 hx4 hA6 hG6 HA4 HG2 hb5
    go_wp2
    go_region_with (first
      | (refine (toChip_n a c bs (unhide HL) _ (unhide HA6) (unhide HN)).mono ?_
         rintro e w7 ⟨g3, rfl, hG3, hB7⟩
         have hs7 := hB7.size
         have hy7 := (hB7.cell (p := ⟨w4.heap.size, 0, none⟩) hl46).trans hy6
         have HW7 := hide ((unhide HW6).trans (hB7.mono (unhide HW6).size))
         have HG7 := hide ((unhide HG6).below hB7 (Nat.le_refl _))
         have HH7 := hide hG3
         clear hB7 hG3)
      | (refine (eqChip_n _ _ n n bs (unhide HL) _ (unhide HG7) (unhide HH7) (unhide HN)).mono ?_
         rintro e w8 ⟨rfl, hB8⟩
         have HW8 := hide ((unhide HW7).trans (hB8.mono (unhide HW7).size))
         clear hB8))
    all_goals (
      go_wp2
      go_ret
      exact ⟨rfl, unhide HW8⟩)

set_option maxRecDepth 100000 in
theorem lifted (os : Os) (started : os.Started) (H : Type) (enc : TypeId × Value → H) :
    ReturnsInHanded {} Try.checked os 3 .any (Rows.fnExactChipOkSpec.pre6 enc Try.prog Try.f3 Rows.fnExactChipOkRow.domain false) (Rows.fnExactChipOkSpec.post enc Try.prog Try.f3 false true false false) := by
  refine returnsInHanded_of_change (C := Try.checked) own started (by kernel_rfl) Try.func3
    (ChangeSpec.witness6 (enc := enc) (C := Try.checked) false ⟨#[], #[.agg #[.slice none 0 0]], []⟩ 8 (by kernel_rfl) (by kernel_rfl) (by kernel_rfl) (by kernel_rfl)) ?_
  intro W base args ds gs before hval0 hW hcnd _
  have hval : ∀ (j : Nat) t v, Try.f3.params[j]? = some t → args[j]? = some v → Value.okWide Try.prog W .any base t v := hval0
  have hW' := hW
  obtain ⟨p, q, hA0, hV, rfl, hfz, hnd⟩ := hW
  have hA : DataW.TrodAll enc Try.prog W 0 (fun _ => true) true Try.f3.params.toList args.toList ds p := hA0
  rw [Try.params3] at hA hval
  obtain ⟨v0, vs0, d0, ds0, p0, q0, hargs, rfl, rfl, h0, r0⟩ := trodAll_cons hA
  obtain ⟨rfl, rfl, rfl⟩ := trodAll_nil r0
  obtain rfl : args = #[v0] := by cases args; simp_all
  obtain ⟨rfl, rfl⟩ := trodVars_none hV
  have k0 := h0
  have lt0 : ∀ x ∈ p0, x.block < W.heap.size := by obtain ⟨m, hm⟩ := k0; exact DataW.trod_lt m _ _ _ hm
  obtain ⟨a, c, bs, rfl, hbs, hl, ht⟩ := open_chip (hval 0 24 v0 rfl rfl) h0
  clear hA0 hval0
  refine (walk a c bs _ rfl W hbs hl ht).mono fun e W' ⟨he, bel⟩ => ?_
  subst he
  exact ⟨_, rfl, _, _, _, [], _, [], hW', trodAll_mk1 (shut_bool Try.underlying4 _), (trodAll_cons_mk (Below.trod laidOut (by kernel_rfl) (of_decide_eq_true (by kernel_rfl)) k0 bel lt0) trodAll_mk0), rfl, bel.frame _, fun h => by cases h⟩

theorem over : Rows.fnExactChipOkRow.holds Try.pinned (OpenSpec.ofChange Rows.fnExactChipOkSpec) :=
  OpenClaim.holds_of_wide 3 Try.f3 rfl rfl rfl rfl rfl rfl rfl ⟨rfl, rfl, rfl, rfl, rfl⟩ rfl rfl rfl rfl rfl (by kernel_rfl) Try.func3 (by kernel_rfl)
    (of_decide_eq_true (by kernel_rfl)) (by unfold Func.isWrapper; first | (rw [if_pos (by decide +kernel)]; kernel_rfl) | (rw [if_neg (by decide +kernel)]; exact ⟨rfl, rfl⟩))
    (fun os started H enc _ => lifted os started H enc)

end Go.Proofs.Ytageolbmplhgaaa.fnExactChipOk
namespace Go.Proofs.Ytageolbmplhgaaa
theorem chipOk_holds : Rows.FnExactChipOkSaid := fnExactChipOk.over
end Go.Proofs.Ytageolbmplhgaaa
