/- Whatever the weights and the number of blocks, the law FnExactArrayNew answers true: the program's ArrayNew is the model's, it leaves its argument as it was, and its answer owns its memory. No condition. -/
import Derived.Test.YtimencianaclmaaRows
import Derived.Test.YtimencianaclmaaG21
import Derived.Test.YtimencianaclmaaG07
import Derived.Test.YtimencianaclmaaG10
import Derived.Test.YtimencianaclmaaG08
import Derived.WalkKit
import Derived.ProofKit
import Derived.OpenShut
import Derived.ChangeOld
import Derived.Below
namespace Go.Proofs.Ytimencianaclmaa.fnExactArrayNew
open Go.ChangeShapes Go.WideShapes Go.ChangeAt Go.RowKit
set_option linter.unusedVariables false
set_option linter.unusedSimpArgs false

set_option maxRecDepth 100000 in
set_option maxHeartbeats 8000000 in
theorem walk (a : Option Addr) (c : Nat) (L : List Int) (n : Nat) (hl : L.length = n) (x1 : Int) (w : World) (h : IntsAt w a L) (hn : n ≤ 9223372036854775807) :
    Calls Try.prog 11 #[.slice a n c, .int .i64 x1] w fun e w' => e = .returned (.bool true) ∧ Below w.heap.size w w' := by
  have HL := hide hl
  have HA := hide h
  clear hl h
  go_enter Try.func11, Try.ntmps11
  by_cases hbig : n ≤ 1048576
  · go_wp2_with fail
    refine (toInt64S_any a c L n (unhide HL) _ (unhide HA) hbig).mono ?_
    rintro e w1 ⟨rfl, hG1, hB1⟩
    have HG1 := hide (hG1.intsAt (by rw [unhide HL]; exact Nat.le_refl _))
    have hW1 := hB1
    clear hG1 hB1
    go_wp2_with fail
    refine (spec_ans _ _ L n (unhide HL) hbig x1 _ (unhide HG1)).mono ?_
    rintro e w2 ⟨a0, k0, c0, i1, i2, m0, mk, d0, r, rfl, hkey, hS, hB2⟩
    have hs2 := hB2.size
    have hW2 := hW1.trans (hB2.mono hW1.size)
    have HKEY := hide hkey
    have HS := hide hS
    have hne : (r != r) = false := by simp
    clear hkey hS hB2 hW1 HG1
    have hb2 : ∀ o, Below w2.heap.size w2 (w2.alloc o) := fun o => (Below.refl _ w2).alloc (Nat.le_refl _) _
    go_wp2_with fail
    refine (toInt64S_any a c L n (unhide HL) _ ((unhide HA).below (hW2.alloc hW2.size _) (Nat.le_refl _)) hbig).mono ?_
    rintro e w3 ⟨rfl, hG3, hB3⟩
    have hs3 := hB3.size
    simp at hs3 hG3
    have hB23 : Below w2.heap.size w2 w3 := (hb2 _).trans (hB3.mono (by simp))
    have hr0 : w3.heap[w2.heap.size]? = some (.cells #[.slice a0 k0 c0, .int .i64 i1, .int .i64 i2, .bool false, .slice m0 mk d0, .slice none 0 0] 89 (0, 0)) := (hB3.block w2.heap.size (by simp)).trans (World.alloc_heap_new w2 _)
    have hX : w2.heap.size + 1 < w3.heap.size := World.rowIs.lt hG3
    have HG3 := hide hG3
    have HR0 := hide hr0
    clear hb2 hB3 hG3 hr0
    go_wp2_with fail
    try simp only [World.size_alloc]
    refine (impl_ans _ _ L n (unhide HL) x1 _ ((unhide HG3).intsAt (by rw [unhide HL]; exact Nat.le_refl _))).mono ?_
    rintro e w4 ⟨a1, k0', c1, i1', i2', m1, mk', d1, r', rfl, hkey', hM, hB4⟩
    obtain ⟨rfl, rfl, rfl, rfl, rfl⟩ := hkey'.one (unhide HKEY)
    have hs4 := hB4.size
    have hB24 := hB23.trans (hB4.mono (by omega))
    have hr0 := (hB4.block w2.heap.size (by omega)).trans (unhide HR0)
    have u0 := cell_of_row _ _ 0 _ _ _ hr0
    have u1 := cell_of_row _ _ 1 _ _ _ hr0
    have u2 := cell_of_row _ _ 2 _ _ _ hr0
    have u3 := cell_of_row _ _ 3 _ _ _ hr0
    have u4 := cell_of_row _ _ 4 _ _ _ hr0
    have u5 := cell_of_row _ _ 5 _ _ _ hr0
    simp at u0 u1 u2 u3 u4 u5
    have hl4 : w2.heap.size < w4.heap.size := by omega
    have y0 : ∀ o', (w4.alloc o').cell? ⟨w2.heap.size, 0, none⟩ = some (.slice a0 k0' c0) := fun o' => (cell_alloc_lt _ _ _ _ hl4).trans u0
    have y1 : ∀ o', (w4.alloc o').cell? ⟨w2.heap.size, 1, none⟩ = some (.int .i64 i1') := fun o' => (cell_alloc_lt _ _ _ _ hl4).trans u1
    have y2 : ∀ o', (w4.alloc o').cell? ⟨w2.heap.size, 2, none⟩ = some (.int .i64 i2') := fun o' => (cell_alloc_lt _ _ _ _ hl4).trans u2
    have y3 : ∀ o', (w4.alloc o').cell? ⟨w2.heap.size, 3, none⟩ = some (.bool false) := fun o' => (cell_alloc_lt _ _ _ _ hl4).trans u3
    have y4 : ∀ o', (w4.alloc o').cell? ⟨w2.heap.size, 4, none⟩ = some (.slice m0 mk' d0) := fun o' => (cell_alloc_lt _ _ _ _ hl4).trans u4
    have y5 : ∀ o', (w4.alloc o').cell? ⟨w2.heap.size, 5, none⟩ = some (.slice none 0 0) := fun o' => (cell_alloc_lt _ _ _ _ hl4).trans u5
    have HR04 := hide hr0
    have HM := hide hM
    have HB24 := hide hB24
    have HG4 := hide ((unhide HG3).below hB4 hX)
    have hb4 : ∀ o, Below w4.heap.size w4 (w4.alloc o) := fun o => (Below.refl _ w4).alloc (Nat.le_refl _) _
    clear hr0 hM hB24 hB23 hB4 HG3 HR0 hkey' u0 u1 u2 u3 u4 u5
    go_wp2_with fail
    refine (eq_ans L n (unhide HL) hbig x1 _ _ _ _ _ _ _ _ _ _ _ _ _ (unhide HKEY) _ _ _ ((unhide HM).below (hb4 _)) ((unhide HS).below ((unhide HB24).trans ((hb4 _).mono (by omega))))).mono ?_
    rintro e w5 ⟨rfl, hB5⟩
    have hs5 := hB5.size
    simp at hs5
    have hr1 : w5.heap[w4.heap.size]? = some (.cells #[.slice a1 k0' c1, .int .i64 i1', .int .i64 i2', .bool false, .slice m1 mk' d1, .slice none 0 0] 89 (0, 0)) := (hB5.block w4.heap.size (by simp)).trans (World.alloc_heap_new w4 _)
    have hB45 : Below w4.heap.size w4 w5 := (hb4 _).trans (hB5.mono (by simp))
    have HR1 := hide hr1
    have HR05 := hide ((hB45.block w2.heap.size hl4).trans (unhide HR04))
    have HM5 := hide ((unhide HM).below hB45)
    have HG5 := hide ((unhide HG4).below hB45 (by omega))
    have HB25 := hide ((unhide HB24).trans (hB45.mono (by omega)))
    have hW5 := hW2.trans ((unhide HB25).mono hW2.size)
    clear hB5 hB45 hb4 hr1 HM HG4 HB24 HR04 y0 y1 y2 y3 y4 y5
    go_wp2_with fail
    refine (toInt64S_any a c L n (unhide HL) _ ((unhide HA).below hW5 (Nat.le_refl _)) hbig).mono ?_
    rintro e w6 ⟨rfl, hG6, hB6⟩
    have HG6 := hide (hG6.intsAt (by rw [unhide HL]; exact Nat.le_refl _))
    have hs6 := hB6.size
    clear hG6
    go_wp2_with fail
    refine (eqInt64S_same _ _ _ _ L n (unhide HL) _ (((unhide HG5).below hB6 (by omega)).intsAt (by rw [unhide HL]; exact Nat.le_refl _)) (unhide HG6) hbig).mono ?_
    rintro e w7 ⟨rfl, hB7⟩
    have hs7 := hB7.size
    have hB57 : Below w5.heap.size w5 w7 := hB6.trans (hB7.mono hB6.size)
    have HG7 := hide ((unhide HG5).below hB57 (by omega))
    have HM7 := hide ((unhide HM5).below hB57)
    have HB27 := hide ((unhide HB25).trans (hB57.mono (by omega)))
    have HR07 := hide ((hB57.block w2.heap.size (by omega)).trans (unhide HR05))
    have HR17 := hide ((hB57.block w4.heap.size (by omega)).trans (unhide HR1))
    clear hB6 hB7 hB57 HG5 HG6 HM5 HB25 HR05 HR1 hW5
    go_wp2_with fail
    refine (markInt64S_any _ 0 n n 1 _ ((unhide HG7).mine (unhide HL)) hbig (by omega) (by omega)).mono ?_
    rintro e w8 ⟨rfl, -, hT8⟩
    have hs8 := hT8.size
    have hB78 : Below (w2.heap.size + 1) w7 w8 := hT8.below (by omega) (fun q hq => by omega)
    have hr0 := (hT8.block w2.heap.size (by omega) (fun hs => by omega)).trans (unhide HR07)
    have hr1 := (hT8.block w4.heap.size (by omega) (fun hs => by omega)).trans (unhide HR17)
    have HM8 := hide ((unhide HM7).touch hT8 (fun q hq => by omega))
    have HB28 := hide ((unhide HB27).trans (hB78.mono (by omega)))
    have u0 := cell_of_row _ _ 0 _ _ _ hr0
    have u1 := cell_of_row _ _ 1 _ _ _ hr0
    have u2 := cell_of_row _ _ 2 _ _ _ hr0
    have u3 := cell_of_row _ _ 3 _ _ _ hr0
    have u4 := cell_of_row _ _ 4 _ _ _ hr0
    have u5 := cell_of_row _ _ 5 _ _ _ hr0
    simp at u0 u1 u2 u3 u4 u5
    have z0 := cell_of_row _ _ 0 _ _ _ hr1
    have z1 := cell_of_row _ _ 1 _ _ _ hr1
    have z2 := cell_of_row _ _ 2 _ _ _ hr1
    have z3 := cell_of_row _ _ 3 _ _ _ hr1
    have z4 := cell_of_row _ _ 4 _ _ _ hr1
    have z5 := cell_of_row _ _ 5 _ _ _ hr1
    simp at z0 z1 z2 z3 z4 z5
    have HR08 := hide hr0
    have HR18 := hide hr1
    have hpos : ¬ (1 + (n : Int)) < 0 := by omega
    clear hT8 hB78 hr0 hr1 HM7 HB27 HG7 HR07 HR17
    go_wp2_with fail
    refine (eq_ans L n (unhide HL) hbig x1 _ _ _ _ _ _ _ _ _ _ _ _ _ (unhide HKEY) _ _ _ (unhide HM8) ((unhide HS).below (unhide HB28))).mono ?_
    rintro e w9 ⟨rfl, hB9⟩
    have hs9 := hB9.size
    have hr0 := (hB9.block w2.heap.size (by omega)).trans (unhide HR08)
    have hr1 := (hB9.block w4.heap.size (by omega)).trans (unhide HR18)
    have HM9 := hide ((unhide HM8).below hB9)
    have HB29 := hide ((unhide HB28).trans (hB9.mono (by omega)))
    clear hB9 HM8 HB28 HR08 HR18 u0 u1 u2 u3 u4 u5 z0 z1 z2 z3 z4 z5
    have z0 := cell_of_row _ _ 0 _ _ _ hr1
    have z1 := cell_of_row _ _ 1 _ _ _ hr1
    have z2 := cell_of_row _ _ 2 _ _ _ hr1
    have z3 := cell_of_row _ _ 3 _ _ _ hr1
    have z4 := cell_of_row _ _ 4 _ _ _ hr1
    have z5 := cell_of_row _ _ 5 _ _ _ hr1
    simp at z0 z1 z2 z3 z4 z5
    have HR09 := hide hr0
    have HR19 := hide hr1
    clear hr0 hr1
    go_wp2_with fail
    refine (mark_ans L x1 _ _ _ _ _ _ _ _ _ (unhide HKEY) _ _ _ (unhide HM9)).mono ?_
    rintro e w10 ⟨rfl, hMk, hT10⟩
    have hs10 := hT10.size
    have hr0 := (hT10.block w2.heap.size (by omega) (fun hs => by omega)).trans (unhide HR09)
    have hr1 := (hT10.block w4.heap.size (by omega) (fun hs => by omega)).trans (unhide HR19)
    have HMK := hide hMk
    have HB210 := hide ((unhide HB29).trans ((hT10.below (B := w2.heap.size) (by omega) (fun q hq => by omega))))
    clear hMk hT10 HB29 HM9 HR09 HR19 z0 z1 z2 z3 z4 z5
    obtain ⟨q, hq⟩ : ∃ q, q = markOf L x1 := ⟨_, rfl⟩
    have hq1 : 1 ≤ q := by rw [hq]; exact (markOf_range L x1).1
    have HH : Hid (∀ W, MarkAns W L x1 a1 c1 m1 d1 → Calls Try.prog 63 #[.agg #[.slice a1 k0' c1, .int .i64 i1', .int .i64 i2', .bool false, .slice m1 mk' d1, .slice none 0 0], .int .i64 1] W fun e w' => e = .returned (.int .i64 q) ∧ Below W.heap.size W w') := fun W hW => by rw [hq]; exact held_ans L x1 _ _ _ _ _ _ _ _ _ (unhide HKEY) W hW
    rw [← hq]
    have hneq : (q != q) = false := by simp
    have hqn : ¬ q < 0 := by omega
    clear hq
    have z0 := cell_of_row _ _ 0 _ _ _ hr1
    have z1 := cell_of_row _ _ 1 _ _ _ hr1
    have z2 := cell_of_row _ _ 2 _ _ _ hr1
    have z3 := cell_of_row _ _ 3 _ _ _ hr1
    have z4 := cell_of_row _ _ 4 _ _ _ hr1
    have z5 := cell_of_row _ _ 5 _ _ _ hr1
    simp at z0 z1 z2 z3 z4 z5
    have HR010 := hide hr0
    have HR110 := hide hr1
    clear hr0 hr1
    go_wp2_with fail
    refine (unhide HH _ (unhide HMK)).mono ?_
    rintro e w11 ⟨rfl, hB11⟩
    have hs11 := hB11.size
    have HMK11 := hide ((unhide HMK).below hB11)
    have HB211 := hide ((unhide HB210).trans (hB11.mono (by omega)))
    have HR011 := hide ((hB11.block w2.heap.size (by omega)).trans (unhide HR010))
    have HR111 := hide ((hB11.block w4.heap.size (by omega)).trans (unhide HR110))
    have hW11 := hW2.trans ((unhide HB211).mono hW2.size)
    clear hB11 HMK HB210 HR010 HR110 z0 z1 z2 z3 z4 z5
    go_wp2_with fail
    refine (toInt64S_any a c L n (unhide HL) _ ((unhide HA).below hW11 (Nat.le_refl _)) hbig).mono ?_
    rintro e w12 ⟨rfl, hG12, hB12⟩
    have HG12 := hide (hG12.intsAt (by rw [unhide HL]; exact Nat.le_refl _))
    have hs12 := hB12.size
    clear hG12
    go_wp2_with fail
    refine (impl_ans _ _ L n (unhide HL) x1 _ (unhide HG12)).mono ?_
    rintro e w13 ⟨a2, k0'', c2, i1'', i2'', m2, mk'', d2, r'', rfl, hkey', hM13, hB13⟩
    obtain ⟨rfl, rfl, rfl, rfl, rfl⟩ := hkey'.one (unhide HKEY)
    have hs13 := hB13.size
    have hB1113 := hB12.trans (hB13.mono hB12.size)
    have hr0 := (hB1113.block w2.heap.size (by omega)).trans (unhide HR011)
    have hr1 := (hB1113.block w4.heap.size (by omega)).trans (unhide HR111)
    have HMK13 := hide ((unhide HMK11).below hB1113)
    have HB213 := hide ((unhide HB211).trans (hB1113.mono (by omega)))
    have HM13 := hide hM13
    have u0 := cell_of_row _ _ 0 _ _ _ hr0
    have u1 := cell_of_row _ _ 1 _ _ _ hr0
    have u2 := cell_of_row _ _ 2 _ _ _ hr0
    have u3 := cell_of_row _ _ 3 _ _ _ hr0
    have u4 := cell_of_row _ _ 4 _ _ _ hr0
    have u5 := cell_of_row _ _ 5 _ _ _ hr0
    simp at u0 u1 u2 u3 u4 u5
    have hl13 : w2.heap.size < w13.heap.size := by omega
    have y0 : ∀ o', (w13.alloc o').cell? ⟨w2.heap.size, 0, none⟩ = some (.slice a0 k0'' c0) := fun o' => (cell_alloc_lt _ _ _ _ hl13).trans u0
    have y1 : ∀ o', (w13.alloc o').cell? ⟨w2.heap.size, 1, none⟩ = some (.int .i64 i1'') := fun o' => (cell_alloc_lt _ _ _ _ hl13).trans u1
    have y2 : ∀ o', (w13.alloc o').cell? ⟨w2.heap.size, 2, none⟩ = some (.int .i64 i2'') := fun o' => (cell_alloc_lt _ _ _ _ hl13).trans u2
    have y3 : ∀ o', (w13.alloc o').cell? ⟨w2.heap.size, 3, none⟩ = some (.bool false) := fun o' => (cell_alloc_lt _ _ _ _ hl13).trans u3
    have y4 : ∀ o', (w13.alloc o').cell? ⟨w2.heap.size, 4, none⟩ = some (.slice m0 mk'' d0) := fun o' => (cell_alloc_lt _ _ _ _ hl13).trans u4
    have y5 : ∀ o', (w13.alloc o').cell? ⟨w2.heap.size, 5, none⟩ = some (.slice none 0 0) := fun o' => (cell_alloc_lt _ _ _ _ hl13).trans u5
    have HR113 := hide hr1
    have hb13 : ∀ o, Below w13.heap.size w13 (w13.alloc o) := fun o => (Below.refl _ w13).alloc (Nat.le_refl _) _
    clear hr0 hr1 hM13 hB12 hB13 hB1113 HMK11 HB211 HR011 HR111 HG12 hkey' u0 u1 u2 u3 u4 u5
    go_wp2_with fail
    refine (eq_ans L n (unhide HL) hbig x1 _ _ _ _ _ _ _ _ _ _ _ _ _ (unhide HKEY) _ _ _ ((unhide HM13).below (hb13 _)) ((unhide HS).below ((unhide HB213).trans ((hb13 _).mono (by omega))))).mono ?_
    rintro e w14 ⟨rfl, hB14⟩
    have hs14 := hB14.size
    simp at hs14
    have hB1314 : Below w13.heap.size w13 w14 := (hb13 _).trans (hB14.mono (by simp))
    have hr1 := (hB1314.block w4.heap.size (by omega)).trans (unhide HR113)
    have HMK14 := hide ((unhide HMK13).below hB1314)
    have hW14 := hW2.trans (((unhide HB213).trans (hB1314.mono (by omega))).mono hW2.size)
    clear hB14 hB1314 hb13 HM13 HMK13 HB213 HR113 y0 y1 y2 y3 y4 y5
    have z0 := cell_of_row _ _ 0 _ _ _ hr1
    have z1 := cell_of_row _ _ 1 _ _ _ hr1
    have z2 := cell_of_row _ _ 2 _ _ _ hr1
    have z3 := cell_of_row _ _ 3 _ _ _ hr1
    have z4 := cell_of_row _ _ 4 _ _ _ hr1
    have z5 := cell_of_row _ _ 5 _ _ _ hr1
    simp at z0 z1 z2 z3 z4 z5
    go_wp2_with fail
    refine (unhide HH _ (unhide HMK14)).mono ?_
    rintro e w15 ⟨rfl, hB15⟩
    have hW15 := hW14.trans (hB15.mono hW14.size)
    clear hB15 HMK14 HH hr1 hW14 z0 z1 z2 z3 z4 z5
    go_wp2
    go_ret
    exact ⟨rfl, hW15⟩
  · go_wp2
    go_ret
    exact ⟨rfl, Below.refl _ _⟩

set_option maxRecDepth 100000 in
theorem lifted (os : Os) (started : os.Started) (H : Type) (enc : TypeId × Value → H) :
    ReturnsInHanded {} Try.checked os 11 .any (Rows.fnExactArrayNewSpec.pre6 enc Try.prog Try.f11 Rows.fnExactArrayNewRow.domain false) (Rows.fnExactArrayNewSpec.post enc Try.prog Try.f11 false true false false) := by
  refine returnsInHanded_of_change (C := Try.checked) own started (by kernel_rfl) Try.func11
    (ChangeSpec.witness6 (enc := enc) (C := Try.checked) false ⟨#[], #[.slice none 0 0, .int .i64 0], []⟩ 8 (by kernel_rfl) (by kernel_rfl) (by kernel_rfl) (by kernel_rfl)) ?_
  intro W base args ds gs before hval0 hW hcnd _
  have hval : ∀ (j : Nat) t v, Try.f11.params[j]? = some t → args[j]? = some v → Value.okWide Try.prog W .any base t v := hval0
  have hW' := hW
  obtain ⟨p, q, hA0, hV, rfl, hfz, hnd⟩ := hW
  have hA : DataW.TrodAll enc Try.prog W 0 (fun _ => true) true Try.f11.params.toList args.toList ds p := hA0
  rw [Try.params11] at hA hval
  obtain ⟨v0, vs0, d0, ds0, p0, q0, hargs, rfl, rfl, h0, r0⟩ := trodAll_cons hA
  obtain ⟨v1, vs1, d1, ds1, p1, q1, rfl, rfl, rfl, h1, r1⟩ := trodAll_cons r0
  obtain ⟨rfl, rfl, rfl⟩ := trodAll_nil r1
  obtain rfl : args = #[v0, v1] := by cases args; simp_all
  obtain ⟨rfl, rfl⟩ := trodVars_none hV
  have k0 := h0
  have lt0 : ∀ x ∈ p0, x.block < W.heap.size := by obtain ⟨m, hm⟩ := k0; exact DataW.trod_lt m _ _ _ hm
  obtain ⟨a, c, L, rfl, hL, hlen⟩ := open_intsArg Try.underlying41 Try.underlying2 (by kernel_rfl) (hval 0 41 v0 rfl rfl) h0
  obtain ⟨x1, rfl, rfl, rfl, w1⟩ := open_int Try.underlying2 (hval 1 2 v1 rfl rfl) h1
  clear hA0 hval0
  refine (walk a c L _ rfl x1 W hL hlen).mono fun e W' ⟨he, bel⟩ => ?_
  subst he
  exact ⟨_, rfl, _, _, _, [], _, [], hW', trodAll_mk1 (shut_bool Try.underlying4 _), (trodAll_cons_mk (Below.trod laidOut (by kernel_rfl) (of_decide_eq_true (by kernel_rfl)) k0 bel lt0) (trodAll_cons_mk (shut_int Try.underlying2 w1) trodAll_mk0)), rfl, bel.frame _, fun h => by cases h⟩

theorem over : Rows.fnExactArrayNewRow.holds Try.pinned (OpenSpec.ofChange Rows.fnExactArrayNewSpec) :=
  OpenClaim.holds_of_wide 11 Try.f11 rfl rfl rfl rfl rfl rfl rfl ⟨rfl, rfl, rfl, rfl, rfl⟩ rfl rfl rfl rfl rfl (by kernel_rfl) Try.func11 (by kernel_rfl)
    (of_decide_eq_true (by kernel_rfl)) (by unfold Func.isWrapper; first | (rw [if_pos (by decide +kernel)]; kernel_rfl) | (rw [if_neg (by decide +kernel)]; exact ⟨rfl, rfl⟩))
    (fun os started H enc _ => lifted os started H enc)

end Go.Proofs.Ytimencianaclmaa.fnExactArrayNew
namespace Go.Proofs.Ytimencianaclmaa
theorem arrayNew_holds : Rows.FnExactArrayNewSaid := fnExactArrayNew.over
end Go.Proofs.Ytimencianaclmaa
