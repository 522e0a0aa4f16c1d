/- 1 texts in one. -/
import Derived.Test.YtalgkmellbamgaaG38
import Derived.Test.YtalgkmellbamgaaG20
import Derived.WalkKit
import Derived.Outline

/- The program's Did. -/
namespace Go.Proofs.Ytalgkmellbamgaa
open Go.RowKit
set_option linter.unusedVariables false
set_option linter.unusedSimpArgs false

theorem OpStep.good {bs : List Bk} {x : Opn} {out : List Bk} (h : OpStep bs x out) : goodOp x := by
  rcases h with ⟨h, _⟩ | ⟨h, _, h2⟩
  · exact .inl h
  · exact .inr ⟨h, h2⟩
theorem Runs.good {xs : List Opn} : ∀ {bs out : List Bk}, Runs bs xs out → ∀ x ∈ xs, goodOp x := by
  induction xs with
  | nil => intro bs out _ x hx; cases hx
  | cons y ys ih =>
    rintro bs out ⟨mid, h1, h2⟩ x hx
    rcases List.mem_cons.1 hx with rfl | hx
    · exact h1.good
    · exact ih h2 x hx
theorem DidIs.lens {bs : List Bk} {xs : List Opn} {out : List Bk} {r : Bool} (h : DidIs bs xs out r) : Lens 1048576 out := by
  rcases h with ⟨_, h1, _, h2⟩ | ⟨_, rfl, _⟩
  · exact lens_of_ok (h2.ok h1)
  · exact ⟨by simp, fun b hb => by simp at hb⟩

set_option maxRecDepth 100000 in
set_option maxHeartbeats 4000000 in
theorem implDid_own (a : Option Addr) (c : Nat) (bs : List Bk) (n : Nat) (hl : bs.length = n) (la : Option Addr) (lc : Nat) (xs : List Opn) (q : Nat) (hq : xs.length = q) (hq20 : q ≤ 1048576) (w : World) (h : BlocksAt w a bs) (hn : Lens 9223372036854775807 bs) (hx : OpsAt w la xs) :
    Calls Try.prog 37 #[.agg #[.slice a n c], .slice la q lc] w fun e w' => ∃ a2 n2 c2 out r, e = .returned (.tuple #[.agg #[.slice a2 n2 c2], .bool r]) ∧ DidIs bs xs out r ∧ ChipOwn w' w.heap.size w'.heap.size a2 n2 c2 out ∧ Below w.heap.size w w' := by
  subst hl
  have hb0 : ∀ o1 o2, Below w.heap.size w ((w.alloc o1).alloc o2) := fun o1 o2 => ((Below.refl _ w).alloc (Nat.le_refl _) _).alloc (by simp) _
  have HX := hide hx
  have HQ := hide hq
  have HNO : Hid (∀ w', ¬ (ChipOk bs ∧ xs.length ≤ 20 ∧ ∃ o, Runs bs xs o) → Below w.heap.size w w' → ∃ a2 n2 c2 out r, Ending.returned (.tuple #[.agg #[.slice none 0 0], .bool false]) = .returned (.tuple #[.agg #[.slice a2 n2 c2], .bool r]) ∧ DidIs bs xs out r ∧ ChipOwn w' w.heap.size w'.heap.size a2 n2 c2 out ∧ Below w.heap.size w w') := fun w' hno hB => ⟨none, 0, 0, [], false, rfl, .inr ⟨rfl, rfl, hno⟩, ⟨rfl, .inl ⟨rfl, rfl, rfl⟩⟩, hB⟩
  clear hx hq
  go_enter Try.func37, Try.ntmps37
  go_wp2_with fail
  refine (cellsOf_any a c bs _ (h.below (hb0 _ _) (Nat.le_refl _)) hn).mono ?_
  rintro e w1 ⟨⟨m, r, rfl, hr, hm⟩, hB1⟩
  have hW1 : Below w.heap.size w w1 := (hb0 _ _).trans (hB1.mono (by simp; omega))
  have hs1 := hB1.size
  simp at hs1
  have hrow1 := (hB1.block (w.heap.size + 1) (by simp)).trans (heap_alloc2_new _ _ _)
  have hz1 := cell_of_one hrow1
  have hf1 := free_of_one hrow1
  have hl1 : w.heap.size + 1 < w1.heap.size := by omega
  have hsc := store_cc m w1
  have hAs := ccA_size m
  have HSZ := hide (sizeCC m)
  have HR := hide hr
  have HE : Hid (∀ (hok : ChipOk bs) (hct : m.count = bs.length) (hbs : ccBs m bs.length = bs) (g : Nat) (W : World), CoAt W (some ⟨g, 0, none⟩) xs → Calls Try.prog 92 #[.agg (ccA m), .slice (some ⟨g, 0, none⟩) q q] W fun e w' => AllRet bs xs e ∧ Below W.heap.size W w') := fun hok hct hbs g W hco => afterAll_any bs hok m hct hbs (some ⟨g, 0, none⟩) q xs q (unhide HQ) hq20 W hco
  have HM := hide hm
  obtain ⟨A, hA⟩ : ∃ A, A = ccA m := ⟨_, rfl⟩
  rw [← hA] at hsc hAs HSZ HE ⊢
  clear hr hm h hn hB1 hb0 hA hrow1
  cases r with
  | false =>
    have HN : Hid (¬ ChipOk bs) := fun hc => by have := (unhide HR).2 hc; cases this
    clear HE HM HR
    go_wp2
    refine bodyPost_ret (v := .tuple #[.agg #[.slice none 0 0], .bool false]) (by simp [results, Try.results37, go_sem, hz1, hl1, cell_alloc_lt]) rfl (unhide HNO _ (fun h => unhide HN h.1) ?_)
    repeat (first | exact hW1 | refine Below.drew ?_ | refine Below.alloc ?_ (by simp [World.setCell] <;> omega) _ | refine Below.setCell ?_ (by simp <;> omega) _)
  | true =>
    have hok := (unhide HR).1 rfl
    have hc12 := hok.count
    obtain ⟨hct, hbss⟩ := unhide HM rfl
    have HE1 := hide (unhide HE hok hct hbss)
    have HO := hide hok
    clear HE HM HR hok hct hbss
    by_cases hgt : 20 < q
    · have hgt' : (20 : Int) < (q : Int) := by omega
      clear HE1
      go_wp2
      refine bodyPost_ret (v := .tuple #[.agg #[.slice none 0 0], .bool false]) (by simp [results, Try.results37, go_sem, hz1, hl1, cell_alloc_lt]) rfl (unhide HNO _ (fun h => by have := h.2.1; have := unhide HQ; omega) ?_)
      repeat (first | exact hW1 | refine Below.drew ?_ | refine Below.alloc ?_ (by simp [World.setCell] <;> omega) _ | refine Below.setCell ?_ (by simp <;> omega) _)
    · have hle : ¬ (20 : Int) < (q : Int) := by omega
      have hb1 : ∀ o, Below w1.heap.size w1 (w1.alloc o) := fun o => (Below.refl _ w1).alloc (Nat.le_refl _) _
      go_wp2_with fail
      refine (opsOf_any la lc xs q (unhide HQ) hq20 _ ((unhide HX).below (hW1.trans ((hb1 _).mono hW1.size)) (Nat.le_refl _))).mono ?_
      rintro e w2 ⟨v, r2, rfl, h1, h2, hB2⟩
      have hs2 := hB2.size
      simp at hs2
      have hB12 : Below w1.heap.size w1 w2 := (hb1 _).trans (hB2.mono (by simp))
      have hW2 := hW1.trans (hB12.mono hW1.size)
      have hrow2 : w2.heap[w1.heap.size]? = some (.cells A 97 (0, 0)) := (hB2.block _ (by simp)).trans (Go.Deep.blk_alloc_new _ _)
      have hz2 := (hB12.cell (p := ⟨w.heap.size + 1, 0, none⟩) hl1).trans hz1
      have hf2 := (hB12.frozen (p := ⟨w.heap.size + 1, 0, none⟩) hl1).trans hf1
      have HROW2 := hide hrow2
      have H2 := hide h2
      have H1 := hide h1
      clear hB2 hB12 hW1 hz1 hf1 hrow2 h1 h2 hsc hb1
      cases r2 with
      | false =>
        have HN : Hid (¬ (ChipOk bs ∧ xs.length ≤ 20 ∧ ∃ o, Runs bs xs o)) := fun h => by
          obtain ⟨x, hxm, hbad⟩ := unhide H2 rfl
          obtain ⟨o, ho⟩ := h.2.2
          exact hbad (ho.good x hxm)
        clear HE1 H1 H2
        go_wp2
        refine bodyPost_ret (v := .tuple #[.agg #[.slice none 0 0], .bool false]) (by simp [results, Try.results37, go_sem, hz2]) rfl (unhide HNO _ (unhide HN) ?_)
        repeat (first | exact hW2 | refine Below.drew ?_ | refine Below.alloc ?_ (by simp [World.setCell] <;> omega) _ | refine Below.setCell ?_ (by simp <;> omega) _)
      | true =>
        obtain ⟨g, rfl, hco⟩ := unhide H1 rfl
        have HCO := hide hco
        clear H1 H2 hco
        go_wp2_with fail
        refine wp_load_row 97 _ rfl w1.heap.size rfl 97 A (0, 0) _ (unhide HROW2) Try.underlying97 rfl (unhide HSZ) ?_
        go_wp2_with fail
        refine (unhide HE1 g _ (unhide HCO)).mono ?_
        rintro e w3 ⟨⟨m2, r3, rfl, hyes, hno⟩, hB3⟩
        have hs3 := hB3.size
        have hl12 : w1.heap.size < w2.heap.size := by omega
        have hrow3 := (hB3.block w1.heap.size hl12).trans (unhide HROW2)
        have hz3 := (hB3.cell (p := ⟨w.heap.size + 1, 0, none⟩) (by show w.heap.size + 1 < _; omega)).trans hz2
        have hf3 := (hB3.frozen (p := ⟨w.heap.size + 1, 0, none⟩) (by show w.heap.size + 1 < _; omega)).trans hf2
        have hW3 := hW2.trans (hB3.mono hW2.size)
        have hst := store_row Try.prog w3 w1.heap.size 97 A (ccA m2) hrow3 (by rw [ccA_size, hAs]) (ccA_one m2)
        have hrow4 : (w3.setRow w1.heap.size (ccA m2)).heap[w1.heap.size]? = some (.cells (ccA m2) 97 (0, 0)) := setRow_heap _ _ _ _ _ _ hrow3
        have hz4 : (w3.setRow w1.heap.size (ccA m2)).cell? ⟨w.heap.size + 1, 0, none⟩ = some (.slice none 0 0) := (World.cell?_of_block (w := w3) (a := ⟨w.heap.size + 1, 0, none⟩) (setRow_other _ _ _ _ (by show w.heap.size + 1 ≠ _; omega))).trans hz3
        have hf4 : (w3.setRow w1.heap.size (ccA m2)).frozen? ⟨w.heap.size + 1, 0, none⟩ = false := by
          have : (w3.setRow w1.heap.size (ccA m2)).frozen? ⟨w.heap.size + 1, 0, none⟩ = w3.frozen? ⟨w.heap.size + 1, 0, none⟩ := by
            have e := setRow_other w3 w1.heap.size (w.heap.size + 1) (ccA m2) (by omega)
            simp [World.frozen?, e]
          exact this.trans hf3
        have hW4 := Below.setRow hW3 (g := w1.heap.size) (by omega) (ccA m2)
        have hs4 : (w3.setRow w1.heap.size (ccA m2)).heap.size = w3.heap.size := setRow_size _ _ _
        generalize w3.setRow w1.heap.size (ccA m2) = W4 at hst hrow4 hz4 hf4 hW4 hs4
        have HYES := hide hyes
        have HNOR := hide hno
        have HC := hide (fun (hct2 : m2.count = bs.length) W => chip_any m2 bs.length hct2 hc12.2 W)
        have hAs2 := ccA_size m2
        have HSZ2 := hide (sizeCC m2)
        obtain ⟨A2, hA2⟩ : ∃ A2, A2 = ccA m2 := ⟨_, rfl⟩
        rw [← hA2] at hst hrow4 HC hAs2 HSZ2 ⊢
        have HR4 := hide hrow4
        clear hA2 hrow4 hrow3 hB3 hz3 hf3 hW3 hz2 hf2 hW2 HE1 HROW2 HCO hyes hno
        cases r3 with
        | false =>
          have HN : Hid (¬ (ChipOk bs ∧ xs.length ≤ 20 ∧ ∃ o, Runs bs xs o)) := fun h => unhide HNOR rfl h.2.2
          clear HC HYES HNOR HR4
          go_wp2
          refine bodyPost_ret (v := .tuple #[.agg #[.slice none 0 0], .bool false]) (by simp [results, Try.results37, go_sem, hz4]) rfl (unhide HNO _ (unhide HN) ?_)
          repeat (first | exact hW4 | refine Below.drew ?_ | refine Below.alloc ?_ (by simp [World.setCell] <;> omega) _ | refine Below.setCell ?_ (by simp <;> omega) _)
        | true =>
          obtain ⟨hct2, hruns⟩ := unhide HYES rfl
          have HC1 := hide (unhide HC hct2)
          have HRUN := hide hruns
          clear HC HYES HNOR hct2 hruns
          go_wp2_with (refine wpList_load_row rfl 97 _ rfl w1.heap.size rfl 97 A2 (0, 0) _ (unhide HR4) Try.underlying97 rfl (unhide HSZ2) ?_)
          refine (unhide HC1 _).mono ?_
          rintro e w5 ⟨g5, H5, rfl, hg5, hO5, hB5⟩
          have hz5 := (hB5.cell (p := ⟨w.heap.size + 1, 0, none⟩) (by show w.heap.size + 1 < _; omega)).trans hz4
          have hf5 := (hB5.frozen (p := ⟨w.heap.size + 1, 0, none⟩) (by show w.heap.size + 1 < _; omega)).trans hf4
          have hW5 := hW4.trans (hB5.mono hW4.size)
          have HO5 := hide hO5
          clear hO5 hB5 hW4 hz4 hf4 HC1 HR4 hst
          go_wp2
          have hfin := (unhide HO5).setOther (a := ⟨w.heap.size + 1, 0, none⟩) (by simp; omega) (.slice (some ⟨g5, 0, none⟩) bs.length bs.length)
          refine bodyPost_ret (v := .tuple #[.agg #[.slice (some ⟨g5, 0, none⟩) bs.length bs.length], .bool true]) (by simp [results, Try.results37, go_sem, hz5]) rfl ⟨_, _, _, ccBs m2 bs.length, true, rfl, .inl ⟨rfl, unhide HO, by have := unhide HQ; omega, unhide HRUN⟩, ⟨ccBs_length _ _, .inr ⟨g5, H5, rfl, by omega, hfin.row.lt, fun i hi => ⟨by have := hfin.ahead i (by rw [ccBs_length]; exact hi); omega, hfin.lt (by rw [ccBs_length]; exact hi)⟩, hfin⟩⟩, hW5.setCell (by show w.heap.size ≤ w.heap.size + 1; omega) _⟩
end Go.Proofs.Ytalgkmellbamgaa
