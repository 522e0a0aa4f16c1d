/- Whatever the number of blocks, the law FnExactChipNew answers true: the program's new chip is the model's, and owns its memory. No condition. -/
import Derived.Test.YtageolbmplhgaaaNewIO
import Derived.Test.YtageolbmplhgaaaRows
import Derived.Test.YtageolbmplhgaaaNewI
import Derived.Test.YtageolbmplhgaaaEq
import Derived.Test.YtageolbmplhgaaaMark
import Derived.WalkKit
import Derived.ProofKit
import Derived.OpenShut
import Derived.ChangeOld
import Derived.Below
namespace Go.Proofs.Ytageolbmplhgaaa.fnExactChipNew
open Go.ChangeShapes Go.WideShapes Go.ChangeAt Go.RowKit
set_option linter.unusedVariables false
set_option linter.unusedSimpArgs false

theorem own : ownKnob Try.prog.godebug = none := by kernel_rfl
theorem laidOut : laidOutB Try.prog = true := by kernel_rfl

theorem eqChip_n {n : Nat} (a1 a2 : Option Addr) (c1 c2 : Nat) (bs : List Bk) (hl : bs.length = n) (w : World) (h1 : BlocksAt w a1 bs) (h2 : BlocksAt w a2 bs) (hn : Lens 1048576 bs) :
    Calls Try.prog 19 #[.agg #[.slice a1 n c1], .agg #[.slice a2 n c2]] w fun e w' => e = .returned (.bool true) ∧ Below w.heap.size w w' := by
  subst hl; exact eqChip_same a1 a2 c1 c2 bs w h1 h2 hn
theorem markChip_n {n : Nat} (g : Nat) (H : Nat → Nat) (c : Nat) (bs : List Bk) (hl : bs.length = n) (k : Int) (w : World) (h : OwnBlocks w 75 44 g H n bs) (hn : Lens 1048576 bs) (h0 : 0 < k) (h1 : kAfter k bs ≤ 1125899906842624) :
    Calls Try.prog 22 #[.agg #[.slice (some ⟨g, 0, none⟩) n c], .int .i64 k] w fun e w' => e = .returned (.int .i64 (kAfter k bs)) ∧ OwnBlocks w' 75 44 g H n (markBs k bs) ∧ Touch (fun j => j = g ∨ ∃ i, i < n ∧ j = H i) w w' := by
  subst hl; exact markChip_any g H c bs k w h hn h0 h1
theorem heldChip_n {n : Nat} (a : Option Addr) (c : Nat) (bs : List Bk) (hl : bs.length = n) (k : Int) (w : World) (h : BlocksAt w a (markBs k bs)) (hn : Lens 1048576 bs) (h0 : 0 < k) (h1 : kAfter k bs ≤ 1125899906842624) :
    Calls Try.prog 23 #[.agg #[.slice a n c], .int .i64 k] w fun e w' => e = .returned (.int .i64 (kAfter k bs)) ∧ Below w.heap.size w w' := by
  subst hl; exact heldChip_any a c bs k w h hn h0 h1

theorem lensNew (n : Nat) (h : n ≤ 12) : Lens 1048576 (List.replicate n zeroBk) := ⟨by simp; omega, fun b hb => by
  rw [List.eq_of_mem_replicate hb]; simp [zeroBk]⟩
theorem kAfterNew (n : Nat) : ∀ k, kAfter k (List.replicate n zeroBk) = k + 17 * n := by
  induction n with
  | zero => intro k; simp [kAfter]
  | succ n ih =>
    intro k
    rw [List.replicate_succ]
    show kAfter (k + 1 + 4 * ((zeroBk.pages.length : Nat) : Int)) _ = _
    rw [ih]
    simp [zeroBk]
    omega

set_option maxRecDepth 100000 in
set_option maxHeartbeats 2000000 in
theorem walk_yes (n : Nat) (w : World) (h1 : 4 ≤ n) (h2 : n ≤ 12) :
    Calls Try.prog 4 #[.int .i64 n] w fun e w' => e = .returned (.bool true) ∧ Below w.heap.size w w' := by
  obtain ⟨bs, hbs⟩ : ∃ bs, bs = List.replicate n zeroBk := ⟨_, rfl⟩
  have hl : bs.length = n := by rw [hbs]; simp
  have hlen : Lens 1048576 bs := by rw [hbs]; exact lensNew n h2
  have hka : kAfter 1 bs = 1 + 17 * n := by rw [hbs]; exact kAfterNew n 1
  have Hl := hide hl
  have Hlen := hide hlen
  have Hka := hide hka
  have Hbs := hide hbs
  clear hl hlen hka hbs
  go_enter Try.func4, Try.ntmps4
  go_wp2_with fail
  refine (specChipNew_yes n w h1 h2).mono ?_
  rintro e w1 ⟨a, c, rfl, hA, hB1⟩
  rw [← unhide Hbs] at hA
  have HA := hide hA
  clear hA
  go_wp2_with fail
  refine (implChipNew_yes n _ h1 h2).mono ?_
  rintro e w2 ⟨g, H, rfl, hg, hO, hB2⟩
  rw [← unhide Hbs] at hO
  simp at hg
  have HO := hide hO
  have hs2 := hB2.size
  simp at hs2
  have hx3 : w2.cell? ⟨w1.heap.size, 0, none⟩ = some (.slice a n c) := by
    rw [hB2.cell (p := ⟨w1.heap.size, 0, none⟩) (by simp)]
    simp
  have hglt : g < w2.heap.size := hO.row.lt
  have hl12 : w1.heap.size < w2.heap.size := by omega
  have HS : Hid (∀ j, (j = g ∨ ∃ i, i < n ∧ j = H i) → w1.heap.size + 1 ≤ j ∧ j < w2.heap.size) := fun j hj => by
    rcases hj with rfl | ⟨i, hi, rfl⟩
    · exact ⟨hg, hglt⟩
    · have hi' : i < bs.length := by rw [unhide Hl]; exact hi
      have := hO.ahead i hi'
      exact ⟨by omega, hO.lt hi'⟩
  clear hO
  go_wp2_with fail
  have hb3 : ∀ o, Below w2.heap.size w2 (w2.alloc o) := fun o => (Below.refl _ w2).alloc (Nat.le_refl _) _
  have hB1' : ∀ o, Below w1.heap.size w1 (w1.alloc o) := fun o => (Below.refl _ w1).alloc (Nat.le_refl _) _
  refine (eqChip_n _ a n c bs (unhide Hl) _ (((unhide HO).blocksAt (by rw [unhide Hl]; exact Nat.le_refl _)).below (hb3 _) (Nat.le_refl _)) ((((unhide HA).below (hB1' _) (Nat.le_refl _)).below hB2 (Nat.le_refl _)).below (hb3 _) (Nat.le_refl _)) (unhide Hlen)).mono ?_
  rintro e w3 ⟨rfl, hB3⟩
  have hs3 := hB3.size
  simp at hs3
  have hl23 : w2.heap.size < w3.heap.size := by omega
  have hl13 : w1.heap.size < w3.heap.size := by omega
  have hx3' : w3.cell? ⟨w1.heap.size, 0, none⟩ = some (.slice a n c) := by
    rw [hB3.cell (p := ⟨w1.heap.size, 0, none⟩) (by simp; omega), cell_alloc_lt _ _ _ _ hl12]
    exact hx3
  have hx5 : w3.cell? ⟨w2.heap.size, 0, none⟩ = some (.slice (some ⟨g, 0, none⟩) n n) := by
    rw [hB3.cell (p := ⟨w2.heap.size, 0, none⟩) (by simp)]
    simp
  have hO3 : OwnBlocks w3 75 44 g H n bs := ((unhide HO).below (hb3 _) (Nat.le_refl _)).below hB3 (Nat.le_refl _)
  have hA3 : BlocksAt w3 a bs := (((((unhide HA).below (hB1' _) (Nat.le_refl _)).below hB2 (Nat.le_refl _)).below (hb3 _) (Nat.le_refl _))).below hB3 (Nat.le_refl _)
  have hA2 : BlocksAt (w1.alloc (.cells #[.slice a n c] 29)) a bs := (unhide HA).below (hB1' _) (Nat.le_refl _)
  have HO3 := hide hO3
  have HA3 := hide hA3
  have HA2 := hide hA2
  clear hO3 hA3 HO HA hx3 hA2
  go_wp2_with fail
  refine (markChip_n g H n bs (unhide Hl) 1 _ (unhide HO3) (unhide Hlen) (by omega) (by rw [unhide Hka]; omega)).mono ?_
  rintro e w4 ⟨rfl, hO4, hT4⟩
  have hml : (markBs 1 bs).length = n := by rw [markBs_length]; exact unhide Hl
  have hT4b : Below (w1.heap.size + 1) w3 w4 := hT4.below (by omega) (fun k hk => (unhide HS k hk).1)
  have hBA4 : Below (w1.heap.size + 1) (w1.alloc (.cells #[.slice a n c] 29)) w4 :=
    (((hB2.mono (by simp)).trans ((hb3 _).mono (by omega))).trans (hB3.mono (by simp; omega))).trans hT4b
  have hA4 : BlocksAt w4 a bs := (unhide HA2).below hBA4 (by simp)
  have hx34 : w4.cell? ⟨w1.heap.size, 0, none⟩ = some (.slice a n c) := by
    rw [hBA4.cell (p := ⟨w1.heap.size, 0, none⟩) (by simp)]
    simp
  have hs4 := hT4.size
  have hx54 : w4.cell? ⟨w2.heap.size, 0, none⟩ = some (.slice (some ⟨g, 0, none⟩) n n) := by
    rw [World.cell?_of_block (w := w3) (a := ⟨w2.heap.size, 0, none⟩) (hT4.block w2.heap.size hl23 (fun hk => by have := (unhide HS _ hk).2; omega))]
    exact hx5
  have hM4 : BlocksAt w4 (some ⟨g, 0, none⟩) (markBs 1 bs) := hO4.blocksAt (by rw [hml]; exact Nat.le_refl _)
  have hW4 : Below w.heap.size w w4 := ((hB1.trans ((hB1' _).mono hB1.size))).trans (hBA4.mono (by have := hB1.size; omega))
  have hl14 : w1.heap.size < w4.heap.size := by omega
  have hl24 : w2.heap.size < w4.heap.size := by omega
  have Hml := hide hml
  have HA4 := hide hA4
  have HM4 := hide hM4
  have hka := unhide Hka
  generalize hkk : kAfter 1 bs = kk at *
  have Hkk := hide hkk
  have hk1 : 1 ≤ kk := by omega
  clear hml hA4 hM4 hO4 hT4 HO3 HA3 HA2 hx3' hx5 hkk hka
  go_wp2_with fail
  refine (heldChip_n (some ⟨g, 0, none⟩) n bs (unhide Hl) 1 _ (unhide HM4) (unhide Hlen) (by omega) (by rw [unhide Hkk]; have := unhide Hka; omega)).mono ?_
  rw [unhide Hkk]
  rintro e w5 ⟨rfl, hB5⟩
  have hx35 := (hB5.cell (p := ⟨w1.heap.size, 0, none⟩) hl14).trans hx34
  have hx55 := (hB5.cell (p := ⟨w2.heap.size, 0, none⟩) hl24).trans hx54
  have HA5 := hide ((unhide HA4).below hB5 (Nat.le_refl _))
  have HM5 := hide ((unhide HM4).below hB5 (Nat.le_refl _))
  have hW5 := hW4.trans (hB5.mono hW4.size)
  have hs5 := hB5.size
  clear HA4 HM4 hx34 hx54
  have hne : (kk != kk) = false := by simp
  go_wp2_with fail
  refine (implChipNew_yes n _ h1 h2).mono ?_
  rintro e w6 ⟨g', H', rfl, hg', hO6, hB6⟩
  rw [← unhide Hbs] at hO6
  have hs6 := hB6.size
  have hx36 := (hB6.cell (p := ⟨w1.heap.size, 0, none⟩) (by show w1.heap.size < _; omega)).trans hx35
  have hx56 := (hB6.cell (p := ⟨w2.heap.size, 0, none⟩) (by show w2.heap.size < _; omega)).trans hx55
  have HA6 := hide ((unhide HA5).below hB6 (Nat.le_refl _))
  have HM6 := hide ((unhide HM5).below hB6 (Nat.le_refl _))
  have HG6 := hide (hO6.blocksAt (by rw [unhide Hl]; exact Nat.le_refl _))
  have hW6 := hW5.trans (hB6.mono hW5.size)
  have hl16 : w1.heap.size < w6.heap.size := by omega
  have hl26 : w2.heap.size < w6.heap.size := by omega
  clear HA5 HM5 hx35 hx55 hO6
  go_wp2_with fail
  have hb7 : ∀ o, Below w6.heap.size w6 (w6.alloc o) := fun o => (Below.refl _ w6).alloc (Nat.le_refl _) _
  refine (eqChip_n _ a n c bs (unhide Hl) _ ((unhide HG6).below (hb7 _) (Nat.le_refl _)) ((unhide HA6).below (hb7 _) (Nat.le_refl _)) (unhide Hlen)).mono ?_
  rintro e w7 ⟨rfl, hB7⟩
  have hx57 : w7.cell? ⟨w2.heap.size, 0, none⟩ = some (.slice (some ⟨g, 0, none⟩) n n) := by
    rw [hB7.cell (p := ⟨w2.heap.size, 0, none⟩) (by simp; omega), cell_alloc_lt _ _ _ _ hl26]
    exact hx56
  have HM7 := hide (((unhide HM6).below (hb7 _) (Nat.le_refl _)).below hB7 (Nat.le_refl _))
  have hW7 := (hW6.trans ((hb7 _).mono hW6.size)).trans (hB7.mono (by have := hW6.size; simp; omega))
  clear HA6 HM6 HG6 hx36 hx56
  go_wp2_with fail
  refine (heldChip_n (some ⟨g, 0, none⟩) n bs (unhide Hl) 1 _ (unhide HM7) (unhide Hlen) (by omega) (by rw [unhide Hkk]; have := unhide Hka; omega)).mono ?_
  rw [unhide Hkk]
  rintro e w8 ⟨rfl, hB8⟩
  have hW8 := hW7.trans (hB8.mono hW7.size)
  have HW8 := hide hW8
  clear hW8 hW7 hW6 hW5 hW4 hB1 hB2 hB3 hB5 hB6 hB7 hB8 hb3 hb7 hB1' hT4b hBA4
  go_wp2
  go_ret
  exact ⟨rfl, unhide HW8⟩
set_option maxRecDepth 100000 in
set_option maxHeartbeats 2000000 in
theorem walk_no (n : Int) (w : World) (h : ¬ (4 ≤ n ∧ n ≤ 12)) :
    Calls Try.prog 4 #[.int .i64 n] w fun e w' => e = .returned (.bool true) ∧ Below w.heap.size w w' := by
  have hnil : ∀ w, BlocksAt w none [] := fun w i b hb => by simp at hb
  have hlen : Lens 1048576 [] := ⟨by simp, fun b hb => by simp at hb⟩
  have Hnil := hide hnil
  have Hlen := hide hlen
  clear hnil hlen
  go_enter Try.func4, Try.ntmps4
  go_wp2_with fail
  refine (specChipNew_no n w h).mono ?_
  rintro e w1 ⟨rfl, hB1⟩
  go_wp2_with fail
  refine (implChipNew_no n _ h).mono ?_
  rintro e w2 ⟨rfl, hB2⟩
  have hx3 : w2.cell? ⟨w1.heap.size, 0, none⟩ = some (.slice none 0 0) := by
    rw [hB2.cell (p := ⟨w1.heap.size, 0, none⟩) (by simp)]
    simp
  have hs2 := hB2.size
  simp at hs2
  have hl12 : w1.heap.size < w2.heap.size := by omega
  have hW2 := (hB1.trans (((Below.refl _ w1).alloc (Nat.le_refl _) (.cells #[.slice none 0 0] 29)).mono hB1.size)).trans (hB2.mono (by have := hB1.size; simp; omega))
  clear hB1 hB2
  go_wp2_with fail
  have hb3 : ∀ o, Below w2.heap.size w2 (w2.alloc o) := fun o => (Below.refl _ w2).alloc (Nat.le_refl _) _
  refine (eqChip_same none none 0 0 [] _ (unhide Hnil _) (unhide Hnil _) (unhide Hlen)).mono ?_
  rintro e w3 ⟨rfl, hB3⟩
  have hs3 := hB3.size
  simp at hs3
  have hx33 : w3.cell? ⟨w1.heap.size, 0, none⟩ = some (.slice none 0 0) := by
    rw [hB3.cell (p := ⟨w1.heap.size, 0, none⟩) (by simp; omega), cell_alloc_lt _ _ _ _ hl12]
    exact hx3
  have hx53 : w3.cell? ⟨w2.heap.size, 0, none⟩ = some (.slice none 0 0) := by
    rw [hB3.cell (p := ⟨w2.heap.size, 0, none⟩) (by simp)]
    simp
  have hW3 := (hW2.trans ((hb3 _).mono hW2.size)).trans (hB3.mono (by have := hW2.size; simp; omega))
  have hl13 : w1.heap.size < w3.heap.size := by omega
  have hl23 : w2.heap.size < w3.heap.size := by omega
  clear hB3 hb3 hW2 hx3
  go_wp2_with fail
  refine (markChip_nil 1 _).mono ?_
  rintro e w4 ⟨rfl, hB4⟩
  have hx34 := (hB4.cell (p := ⟨w1.heap.size, 0, none⟩) hl13).trans hx33
  have hx54 := (hB4.cell (p := ⟨w2.heap.size, 0, none⟩) hl23).trans hx53
  have hs4 := hB4.size
  have hW4 := hW3.trans (hB4.mono hW3.size)
  have hl14 : w1.heap.size < w4.heap.size := by omega
  have hl24 : w2.heap.size < w4.heap.size := by omega
  clear hB4 hW3 hx33 hx53
  go_wp2_with fail
  refine (heldChip_any none 0 [] 1 _ (unhide Hnil _) (unhide Hlen) (by omega) (by simp [kAfter])).mono ?_
  rintro e w5 ⟨rfl, hB5⟩
  have hx35 := (hB5.cell (p := ⟨w1.heap.size, 0, none⟩) hl14).trans hx34
  have hx55 := (hB5.cell (p := ⟨w2.heap.size, 0, none⟩) hl24).trans hx54
  have hs5 := hB5.size
  have hW5 := hW4.trans (hB5.mono hW4.size)
  clear hB5 hW4 hx34 hx54
  simp only [kAfter]
  go_wp2_with fail
  refine (implChipNew_no n _ h).mono ?_
  rintro e w6 ⟨rfl, hB6⟩
  have hx36 := (hB6.cell (p := ⟨w1.heap.size, 0, none⟩) (by show w1.heap.size < _; omega)).trans hx35
  have hx56 := (hB6.cell (p := ⟨w2.heap.size, 0, none⟩) (by show w2.heap.size < _; omega)).trans hx55
  have hs6 := hB6.size
  have hW6 := hW5.trans (hB6.mono hW5.size)
  have hl16 : w1.heap.size < w6.heap.size := by omega
  have hl26 : w2.heap.size < w6.heap.size := by omega
  clear hB6 hW5 hx35 hx55
  go_wp2_with fail
  have hb7 : ∀ o, Below w6.heap.size w6 (w6.alloc o) := fun o => (Below.refl _ w6).alloc (Nat.le_refl _) _
  refine (eqChip_same none none 0 0 [] _ (unhide Hnil _) (unhide Hnil _) (unhide Hlen)).mono ?_
  rintro e w7 ⟨rfl, hB7⟩
  have hx57 : w7.cell? ⟨w2.heap.size, 0, none⟩ = some (.slice none 0 0) := by
    rw [hB7.cell (p := ⟨w2.heap.size, 0, none⟩) (by simp; omega), cell_alloc_lt _ _ _ _ hl26]
    exact hx56
  have hW7 := (hW6.trans ((hb7 _).mono hW6.size)).trans (hB7.mono (by have := hW6.size; simp; omega))
  clear hx36 hx56 hB7 hb7 hW6
  go_wp2_with fail
  refine (heldChip_any none 0 [] 1 _ (unhide Hnil _) (unhide Hlen) (by omega) (by simp [kAfter])).mono ?_
  rintro e w8 ⟨rfl, hB8⟩
  have HW8 := hide (hW7.trans (hB8.mono hW7.size))
  clear hB8 hW7 hx57
  simp only [kAfter]
  go_wp2
  go_ret
  exact ⟨rfl, unhide HW8⟩

theorem walk (n : Int) (w : World) : Calls Try.prog 4 #[.int .i64 n] w fun e w' => e = .returned (.bool true) ∧ Below w.heap.size w w' := by
  by_cases h : 4 ≤ n ∧ n ≤ 12
  · obtain ⟨k, rfl⟩ := Int.eq_ofNat_of_zero_le (show 0 ≤ n by omega)
    exact walk_yes k w (by omega) (by omega)
  · exact walk_no n w h

set_option maxRecDepth 100000 in
theorem lifted (os : Os) (started : os.Started) (H : Type) (enc : TypeId × Value → H) :
    ReturnsInHanded {} Try.checked os 4 .any (Rows.fnExactChipNewSpec.pre6 enc Try.prog Try.f4 Rows.fnExactChipNewRow.domain false) (Rows.fnExactChipNewSpec.post enc Try.prog Try.f4 false true false false) := by
  refine returnsInHanded_of_change (C := Try.checked) own started (by kernel_rfl) Try.func4
    (ChangeSpec.witness6 (enc := enc) (C := Try.checked) false ⟨#[], #[.int .i64 0], []⟩ 8 (by kernel_rfl) (by kernel_rfl) (by kernel_rfl) (by kernel_rfl)) ?_
  intro W base args ds gs before hval0 hW hcnd _
  have hval : ∀ (j : Nat) t v, Try.f4.params[j]? = some t → args[j]? = some v → Value.okWide Try.prog W .any base t v := hval0
  have hW' := hW
  obtain ⟨p, q, hA0, hV, rfl, hfz, hnd⟩ := hW
  have hA : DataW.TrodAll enc Try.prog W 0 (fun _ => true) true Try.f4.params.toList args.toList ds p := hA0
  rw [Try.params4] at hA hval
  obtain ⟨v0, vs0, d0, ds0, p0, q0, hargs, rfl, rfl, h0, r0⟩ := trodAll_cons hA
  obtain ⟨rfl, rfl, rfl⟩ := trodAll_nil r0
  obtain rfl : args = #[v0] := by cases args; simp_all
  obtain ⟨rfl, rfl⟩ := trodVars_none hV
  obtain ⟨a0, rfl, rfl, rfl, w0⟩ := open_int Try.underlying2 (hval 0 2 v0 rfl rfl) h0
  clear hA0 hval0
  refine (walk a0 W).mono fun e W' ⟨he, bel⟩ => ?_
  subst he
  exact ⟨_, rfl, _, _, _, [], _, [], hW', trodAll_mk1 (shut_bool Try.underlying4 _), (trodAll_cons_mk (shut_int Try.underlying2 w0) trodAll_mk0), rfl, bel.frame _, fun h => by cases h⟩

theorem over : Rows.fnExactChipNewRow.holds Try.pinned (OpenSpec.ofChange Rows.fnExactChipNewSpec) :=
  OpenClaim.holds_of_wide 4 Try.f4 rfl rfl rfl rfl rfl rfl rfl ⟨rfl, rfl, rfl, rfl, rfl⟩ rfl rfl rfl rfl rfl (by kernel_rfl) Try.func4 (by kernel_rfl)
    (of_decide_eq_true (by kernel_rfl)) (by unfold Func.isWrapper; first | (rw [if_pos (by decide +kernel)]; kernel_rfl) | (rw [if_neg (by decide +kernel)]; exact ⟨rfl, rfl⟩))
    (fun os started H enc _ => lifted os started H enc)

end Go.Proofs.Ytageolbmplhgaaa.fnExactChipNew
namespace Go.Proofs.Ytageolbmplhgaaa
theorem chipNew_holds : Rows.FnExactChipNewSaid := fnExactChipNew.over
end Go.Proofs.Ytageolbmplhgaaa
