/- Whatever the number of blocks, the law FnExactFtlNew answers true: the program's new member is the model's, and owns its memory. No condition. -/
import Derived.Test.YtageolbmplhgaaaRows
import Derived.Test.YtageolbmplhgaaaNewF
import Derived.Test.YtageolbmplhgaaaLawC
import Derived.WalkKit
import Derived.ProofKit
import Derived.OpenShut
import Derived.ChangeOld
import Derived.Below
namespace Go.Proofs.Ytageolbmplhgaaa.fnExactFtlNew
open Go.ChangeShapes Go.WideShapes Go.ChangeAt Go.RowKit
set_option linter.unusedVariables false
set_option linter.unusedSimpArgs false

set_option maxRecDepth 100000 in
set_option maxHeartbeats 8000000 in
theorem walk (b : Int) (w : World) :
    Calls Try.prog 10 #[.int .i64 b] w fun e w' => e = .returned (.bool true) ∧ Below w.heap.size w w' := by
  go_enter Try.func10, Try.ntmps10
  go_wp2_with fail
  refine (specFtlNew_any b w).mono ?_
  rintro e w1 ⟨a0, n, c0, ma0, mn, mc0, out, L, seq, o, r, rfl, hE0, hln, hlm, hA0, hI0, hB1⟩
  have hs1 := hB1.size
  obtain ⟨hlen, hm36⟩ := hE0.lens
  have hmn : mn ≤ 36 := by omega
  have hkk := kAfter_upto out 1 hlen.2
  have HKO : Hid (1 ≤ kAfter 1 out ∧ kAfter 1 out + mn ≤ 1125899906842624) := ⟨hkk.1, by have := hlen.1; have h2 := hkk.2; have h3 : (out.length : Int) * 4194305 ≤ 1048576 * 4194305 := Int.mul_le_mul_of_nonneg_right (by omega) (by omega); omega⟩
  have HE := hide hE0
  have HLN := hide hln
  have HLM := hide hlm
  have HLE := hide hlen
  have HA0 := hide hA0
  have HI0 := hide hI0
  have hb1 : ∀ o, Below w1.heap.size w1 (w1.alloc o) := fun o => (Below.refl _ w1).alloc (Nat.le_refl _) _
  clear hE0 hln hlm hlen hA0 hI0 hkk hm36
  go_wp2_with fail
  refine (implFtlNew_own b _).mono ?_
  rintro e w2 ⟨a1, n1, c1, ma1, mn1, mc1, out1, L1, seq1, o1, r1, rfl, hE1, hO1, hB2⟩
  obtain ⟨rfl, rfl, rfl, rfl, rfl⟩ := hE1.one (unhide HE)
  obtain rfl : n1 = n := by have := hO1.length.1; have := unhide HLN; omega
  obtain rfl : mn1 = mn := by have := hO1.length.2; have := unhide HLM; omega
  simp only [World.size_alloc] at hO1
  have hs2 := hB2.size
  simp at hs2
  have hx20 : w2.cell? ⟨w1.heap.size, 0, none⟩ = some (.slice a0 n1 c0) := by
    rw [hB2.cell (p := ⟨w1.heap.size, 0, none⟩) (by simp)]
    simp
  have hx21 : w2.cell? ⟨w1.heap.size, 1, none⟩ = some (.slice ma0 mn1 mc0) := by
    rw [hB2.cell (p := ⟨w1.heap.size, 1, none⟩) (by simp)]
    simp
  have hx22 : w2.cell? ⟨w1.heap.size, 2, none⟩ = some (.int .i64 seq1) := by
    rw [hB2.cell (p := ⟨w1.heap.size, 2, none⟩) (by simp)]
    simp
  have hx23 : w2.cell? ⟨w1.heap.size, 3, none⟩ = some (.int .i64 o1) := by
    rw [hB2.cell (p := ⟨w1.heap.size, 3, none⟩) (by simp)]
    simp
  have hB12 : Below w1.heap.size w1 w2 := (hb1 _).trans (hB2.mono (by simp))
  have hW2 := hB1.trans (hB12.mono hB1.size)
  have HO2 := hide hO1
  have hl12 : w1.heap.size < w2.heap.size := by omega
  have hb2 : ∀ o, Below w2.heap.size w2 (w2.alloc o) := fun o => (Below.refl _ w2).alloc (Nat.le_refl _) _
  have hne : (r1 != r1) = false := by simp
  have hy20 : ∀ o', (w2.alloc o').cell? ⟨w1.heap.size, 0, none⟩ = some (.slice a0 n1 c0) := fun o' => (cell_alloc_lt _ _ _ _ hl12).trans hx20
  have hy21 : ∀ o', (w2.alloc o').cell? ⟨w1.heap.size, 1, none⟩ = some (.slice ma0 mn1 mc0) := fun o' => (cell_alloc_lt _ _ _ _ hl12).trans hx21
  have hy22 : ∀ o', (w2.alloc o').cell? ⟨w1.heap.size, 2, none⟩ = some (.int .i64 seq1) := fun o' => (cell_alloc_lt _ _ _ _ hl12).trans hx22
  have hy23 : ∀ o', (w2.alloc o').cell? ⟨w1.heap.size, 3, none⟩ = some (.int .i64 o1) := fun o' => (cell_alloc_lt _ _ _ _ hl12).trans hx23
  clear hB2 hO1 hE1 hb1 hx20 hx21 hx22 hx23
  go_wp2_with fail
  refine (eqFtl_same a1 a0 c1 c0 out1 n1 (unhide HLN) ma1 ma0 mc1 mc0 L1 mn1 (unhide HLM) seq1 o1 _ ((unhide HO2).below (hb2 _)).blocksAt ((unhide HA0).below (hB12.trans ((hb2 _).mono (by omega))) (Nat.le_refl _)) (unhide HLE) ((unhide HO2).below (hb2 _)).2.1 ((unhide HI0).below (hB12.trans ((hb2 _).mono (by omega))) (Nat.le_refl _)) (by omega)).mono ?_
  rintro e w3 ⟨rfl, hB3⟩
  have hs3 := hB3.size
  simp at hs3
  have hz30 : w3.cell? ⟨w2.heap.size, 0, none⟩ = some (.slice a1 n1 c1) := by
    rw [hB3.cell (p := ⟨w2.heap.size, 0, none⟩) (by simp)]
    simp
  have hz31 : w3.cell? ⟨w2.heap.size, 1, none⟩ = some (.slice ma1 mn1 mc1) := by
    rw [hB3.cell (p := ⟨w2.heap.size, 1, none⟩) (by simp)]
    simp
  have hz32 : w3.cell? ⟨w2.heap.size, 2, none⟩ = some (.int .i64 seq1) := by
    rw [hB3.cell (p := ⟨w2.heap.size, 2, none⟩) (by simp)]
    simp
  have hz33 : w3.cell? ⟨w2.heap.size, 3, none⟩ = some (.int .i64 o1) := by
    rw [hB3.cell (p := ⟨w2.heap.size, 3, none⟩) (by simp)]
    simp
  have hx30 := (hB3.cell (p := ⟨w1.heap.size, 0, none⟩) (by simp; omega)).trans (hy20 _)
  have hx31 := (hB3.cell (p := ⟨w1.heap.size, 1, none⟩) (by simp; omega)).trans (hy21 _)
  have hx32 := (hB3.cell (p := ⟨w1.heap.size, 2, none⟩) (by simp; omega)).trans (hy22 _)
  have hx33 := (hB3.cell (p := ⟨w1.heap.size, 3, none⟩) (by simp; omega)).trans (hy23 _)
  have hB23 : Below w2.heap.size w2 w3 := (hb2 _).trans (hB3.mono (by simp))
  have HB13 := hide (hB12.trans (hB23.mono (by omega)))
  have HW3 := hide (hW2.trans (hB23.mono hW2.size))
  have HO3 := hide ((unhide HO2).below hB23)
  have hl13 : w1.heap.size < w3.heap.size := by omega
  have hl23 : w2.heap.size < w3.heap.size := by omega
  clear hB3 hB12 hB23 hW2 HO2 hb2 hy20 hy21 hy22 hy23
  go_wp2_with fail
  refine (markFtl_own a1 n1 c1 out1 ma1 mn1 mc1 L1 seq1 o1 _ (unhide HO3) (by omega) (unhide HLE) (by omega) (unhide HKO).2).mono ?_
  rintro e w4 ⟨rfl, hMk, hT⟩
  have hs4 := hT.size
  have hTb : Below (w1.heap.size + 1) w3 w4 := hT.below (by omega) (fun k hk => hk.1)
  have hx40 := (hTb.cell (p := ⟨w1.heap.size, 0, none⟩) (by simp)).trans hx30
  have hx41 := (hTb.cell (p := ⟨w1.heap.size, 1, none⟩) (by simp)).trans hx31
  have hx42 := (hTb.cell (p := ⟨w1.heap.size, 2, none⟩) (by simp)).trans hx32
  have hx43 := (hTb.cell (p := ⟨w1.heap.size, 3, none⟩) (by simp)).trans hx33
  have hz40 := (World.cell?_of_block (w := w3) (a := ⟨w2.heap.size, 0, none⟩) (hT.block w2.heap.size hl23 (fun hs => Nat.lt_irrefl _ hs.2))).trans hz30
  have hz41 := (World.cell?_of_block (w := w3) (a := ⟨w2.heap.size, 1, none⟩) (hT.block w2.heap.size hl23 (fun hs => Nat.lt_irrefl _ hs.2))).trans hz31
  have hz42 := (World.cell?_of_block (w := w3) (a := ⟨w2.heap.size, 2, none⟩) (hT.block w2.heap.size hl23 (fun hs => Nat.lt_irrefl _ hs.2))).trans hz32
  have hz43 := (World.cell?_of_block (w := w3) (a := ⟨w2.heap.size, 3, none⟩) (hT.block w2.heap.size hl23 (fun hs => Nat.lt_irrefl _ hs.2))).trans hz33
  have hW4 := (unhide HW3).trans (hTb.mono (by omega))
  have HB14 := hide ((unhide HB13).trans (hTb.mono (by omega)))
  have HMK := hide hMk
  have HH := hide (fun W hW => heldFtl_own a1 n1 c1 out1 (unhide HLN) ma1 mn1 mc1 seq1 o1 W hW (unhide HLE) (by omega) (unhide HKO).2)
  have hq1 := (unhide HKO).1
  obtain ⟨q, hq⟩ : ∃ q, q = kAfter 1 out1 + (mn1 : Int) := ⟨_, rfl⟩
  rw [← hq] at HH ⊢
  have hq2 : 1 ≤ q := by omega
  have hneq : (q != q) = false := by simp
  clear hMk hT hTb HW3 HB13 HO3 hq HKO hq1 hx30 hx31 hx32 hx33 hz30 hz31 hz32 hz33
  go_wp2_with fail
  refine (unhide HH _ (unhide HMK)).mono ?_
  rintro e w5 ⟨rfl, hB5⟩
  have hs5 := hB5.size
  have hx50 := (hB5.cell (p := ⟨w1.heap.size, 0, none⟩) (by show w1.heap.size < _; omega)).trans hx40
  have hx51 := (hB5.cell (p := ⟨w1.heap.size, 1, none⟩) (by show w1.heap.size < _; omega)).trans hx41
  have hx52 := (hB5.cell (p := ⟨w1.heap.size, 2, none⟩) (by show w1.heap.size < _; omega)).trans hx42
  have hx53 := (hB5.cell (p := ⟨w1.heap.size, 3, none⟩) (by show w1.heap.size < _; omega)).trans hx43
  have hz50 := (hB5.cell (p := ⟨w2.heap.size, 0, none⟩) (by show w2.heap.size < _; omega)).trans hz40
  have hz51 := (hB5.cell (p := ⟨w2.heap.size, 1, none⟩) (by show w2.heap.size < _; omega)).trans hz41
  have hz52 := (hB5.cell (p := ⟨w2.heap.size, 2, none⟩) (by show w2.heap.size < _; omega)).trans hz42
  have hz53 := (hB5.cell (p := ⟨w2.heap.size, 3, none⟩) (by show w2.heap.size < _; omega)).trans hz43
  have hW5 := hW4.trans (hB5.mono hW4.size)
  have HMK5 := hide ((unhide HMK).below hB5)
  have HB15 := hide ((unhide HB14).trans (hB5.mono (by omega)))
  clear hB5 hW4 HMK HB14 hx40 hx41 hx42 hx43 hz40 hz41 hz42 hz43
  go_wp2_with fail
  refine (implFtlNew_own b _).mono ?_
  rintro e w6 ⟨a2, n2, c2, ma2, mn2, mc2, out2, L2, seq2, o2, r2, rfl, hE2, hO2, hB6⟩
  obtain ⟨rfl, rfl, rfl, rfl, rfl⟩ := hE2.one (unhide HE)
  obtain rfl : n2 = n1 := by have := hO2.length.1; have := unhide HLN; omega
  obtain rfl : mn2 = mn1 := by have := hO2.length.2; have := unhide HLM; omega
  have hs6 := hB6.size
  have hx60 := (hB6.cell (p := ⟨w1.heap.size, 0, none⟩) (by show w1.heap.size < _; omega)).trans hx50
  have hx61 := (hB6.cell (p := ⟨w1.heap.size, 1, none⟩) (by show w1.heap.size < _; omega)).trans hx51
  have hx62 := (hB6.cell (p := ⟨w1.heap.size, 2, none⟩) (by show w1.heap.size < _; omega)).trans hx52
  have hx63 := (hB6.cell (p := ⟨w1.heap.size, 3, none⟩) (by show w1.heap.size < _; omega)).trans hx53
  have hz60 := (hB6.cell (p := ⟨w2.heap.size, 0, none⟩) (by show w2.heap.size < _; omega)).trans hz50
  have hz61 := (hB6.cell (p := ⟨w2.heap.size, 1, none⟩) (by show w2.heap.size < _; omega)).trans hz51
  have hz62 := (hB6.cell (p := ⟨w2.heap.size, 2, none⟩) (by show w2.heap.size < _; omega)).trans hz52
  have hz63 := (hB6.cell (p := ⟨w2.heap.size, 3, none⟩) (by show w2.heap.size < _; omega)).trans hz53
  have hW6 := hW5.trans (hB6.mono hW5.size)
  have HMK6 := hide ((unhide HMK5).below hB6)
  have HB16 := hide ((unhide HB15).trans (hB6.mono (by omega)))
  have HO6 := hide hO2
  have hb6 : ∀ o, Below w6.heap.size w6 (w6.alloc o) := fun o => (Below.refl _ w6).alloc (Nat.le_refl _) _
  have hl16 : w1.heap.size < w6.heap.size := by omega
  have hl26 : w2.heap.size < w6.heap.size := by omega
  have hy60 : ∀ o', (w6.alloc o').cell? ⟨w1.heap.size, 0, none⟩ = some (.slice a0 n2 c0) := fun o' => (cell_alloc_lt _ _ _ _ hl16).trans hx60
  have hy61 : ∀ o', (w6.alloc o').cell? ⟨w1.heap.size, 1, none⟩ = some (.slice ma0 mn2 mc0) := fun o' => (cell_alloc_lt _ _ _ _ hl16).trans hx61
  have hy62 : ∀ o', (w6.alloc o').cell? ⟨w1.heap.size, 2, none⟩ = some (.int .i64 seq2) := fun o' => (cell_alloc_lt _ _ _ _ hl16).trans hx62
  have hy63 : ∀ o', (w6.alloc o').cell? ⟨w1.heap.size, 3, none⟩ = some (.int .i64 o2) := fun o' => (cell_alloc_lt _ _ _ _ hl16).trans hx63
  clear hB6 hW5 HMK5 HB15 hO2 hE2 hx50 hx51 hx52 hx53 hz50 hz51 hz52 hz53 hx60 hx61 hx62 hx63
  go_wp2_with fail
  refine (eqFtl_same a2 a0 c2 c0 out2 n2 (unhide HLN) ma2 ma0 mc2 mc0 L2 mn2 (unhide HLM) seq2 o2 _ ((unhide HO6).below (hb6 _)).blocksAt ((unhide HA0).below ((unhide HB16).trans ((hb6 _).mono (by omega))) (Nat.le_refl _)) (unhide HLE) ((unhide HO6).below (hb6 _)).2.1 ((unhide HI0).below ((unhide HB16).trans ((hb6 _).mono (by omega))) (Nat.le_refl _)) (by omega)).mono ?_
  rintro e w7 ⟨rfl, hB7⟩
  have hs7 := hB7.size
  simp at hs7
  have hB67 : Below w6.heap.size w6 w7 := (hb6 _).trans (hB7.mono (by simp))
  have hz70 := (hB67.cell (p := ⟨w2.heap.size, 0, none⟩) hl26).trans hz60
  have hz71 := (hB67.cell (p := ⟨w2.heap.size, 1, none⟩) hl26).trans hz61
  have hz72 := (hB67.cell (p := ⟨w2.heap.size, 2, none⟩) hl26).trans hz62
  have hz73 := (hB67.cell (p := ⟨w2.heap.size, 3, none⟩) hl26).trans hz63
  have hW7 := hW6.trans (hB67.mono hW6.size)
  have HMK7 := hide ((unhide HMK6).below hB67)
  clear hB7 hB67 hW6 HMK6 HB16 HO6 hb6 hy60 hy61 hy62 hy63 hz60 hz61 hz62 hz63
  go_wp2_with fail
  refine (unhide HH _ (unhide HMK7)).mono ?_
  rintro e w8 ⟨rfl, hB8⟩
  have hW8 := hW7.trans (hB8.mono hW7.size)
  clear HMK7 HH hB8 hW7 hz70 hz71 hz72 hz73
  go_wp2
  go_ret
  exact ⟨rfl, hW8⟩

set_option maxRecDepth 100000 in
theorem lifted (os : Os) (started : os.Started) (H : Type) (enc : TypeId × Value → H) :
    ReturnsInHanded {} Try.checked os 10 .any (Rows.fnExactFtlNewSpec.pre6 enc Try.prog Try.f10 Rows.fnExactFtlNewRow.domain false) (Rows.fnExactFtlNewSpec.post enc Try.prog Try.f10 false true false false) := by
  refine returnsInHanded_of_change (C := Try.checked) own started (by kernel_rfl) Try.func10
    (ChangeSpec.witness6 (enc := enc) (C := Try.checked) false ⟨#[], #[.int .i64 0], []⟩ 8 (by kernel_rfl) (by kernel_rfl) (by kernel_rfl) (by kernel_rfl)) ?_
  intro W base args ds gs before hval0 hW hcnd _
  have hval : ∀ (j : Nat) t v, Try.f10.params[j]? = some t → args[j]? = some v → Value.okWide Try.prog W .any base t v := hval0
  have hW' := hW
  obtain ⟨p, q, hA0, hV, rfl, hfz, hnd⟩ := hW
  have hA : DataW.TrodAll enc Try.prog W 0 (fun _ => true) true Try.f10.params.toList args.toList ds p := hA0
  rw [Try.params10] at hA hval
  obtain ⟨v0, vs0, d0, ds0, p0, q0, hargs, rfl, rfl, h0, r0⟩ := trodAll_cons hA
  obtain ⟨rfl, rfl, rfl⟩ := trodAll_nil r0
  obtain rfl : args = #[v0] := by cases args; simp_all
  obtain ⟨rfl, rfl⟩ := trodVars_none hV
  obtain ⟨a0, rfl, rfl, rfl, w0⟩ := open_int Try.underlying2 (hval 0 2 v0 rfl rfl) h0
  clear hA0 hval0
  refine (walk a0 W).mono fun e W' ⟨he, bel⟩ => ?_
  subst he
  exact ⟨_, rfl, _, _, _, [], _, [], hW', trodAll_mk1 (shut_bool Try.underlying4 _), (trodAll_cons_mk (shut_int Try.underlying2 w0) trodAll_mk0), rfl, bel.frame _, fun h => by cases h⟩

theorem over : Rows.fnExactFtlNewRow.holds Try.pinned (OpenSpec.ofChange Rows.fnExactFtlNewSpec) :=
  OpenClaim.holds_of_wide 10 Try.f10 rfl rfl rfl rfl rfl rfl rfl ⟨rfl, rfl, rfl, rfl, rfl⟩ rfl rfl rfl rfl rfl (by kernel_rfl) Try.func10 (by kernel_rfl)
    (of_decide_eq_true (by kernel_rfl)) (by unfold Func.isWrapper; first | (rw [if_pos (by decide +kernel)]; kernel_rfl) | (rw [if_neg (by decide +kernel)]; exact ⟨rfl, rfl⟩))
    (fun os started H enc _ => lifted os started H enc)

end Go.Proofs.Ytageolbmplhgaaa.fnExactFtlNew
namespace Go.Proofs.Ytageolbmplhgaaa
theorem ftlNew_holds : Rows.FnExactFtlNewSaid := fnExactFtlNew.over
end Go.Proofs.Ytageolbmplhgaaa
