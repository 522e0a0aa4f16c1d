/- 5 texts in one. -/
import Derived.Test.YtjgcjeaplckbbaaGreatG18
import Derived.WalkKit
import Derived.Outline
import Derived.Deep.RegionHeld3
import Derived.Test.YtjgcjeaplckbbaaGreatG01
import Derived.Test.YtjgcjeaplckbbaaGreatG10
import Derived.Deep.RegionLaw
import Derived.Test.YtjgcjeaplckbbaaGreatG12
import Derived.Test.YtjgcjeaplckbbaaGreatG09
import Derived.Test.YtjgcjeaplckbbaaGreatG14
import Derived.Test.YtjgcjeaplckbbaaGreatG03
import Derived.Test.YtjgcjeaplckbbaaGreatG16
import Derived.BigQuiet

/- Draws over a member: DrawOpsOf, with its numbers. -/
namespace Go.Proofs.YtjgcjeaplckbbaaGreat
open Go.RowKit
set_option linter.unusedVariables false
set_option linter.unusedSimpArgs false

def strY (k : Nat) : ByteArray := if k = 0 then ⟨#[97, 98, 99, 100]⟩ else if k = 1 then ⟨#[97, 98, 99]⟩ else ⟨#[97, 98, 99, 100, 101]⟩
theorem strY_size (k : Nat) : (strY k).size ≤ 1048576 := by
  unfold strY
  split
  · decide
  · split <;> decide
theorem strY_new (w : World) (ty : TypeId) (k : Nat) (hk : k < 3) : (w.alloc (.cells #[.string ⟨#[97, 98, 99, 100]⟩, .string ⟨#[97, 98, 99]⟩, .string ⟨#[97, 98, 99, 100, 101]⟩] ty)).cell? ⟨w.heap.size, k, none⟩ = some (.string (strY k)) := by
  have h3 : k = 0 ∨ k = 1 ∨ k = 2 := by omega
  rw [cell_of_row _ _ k _ _ _ (World.alloc_heap_new _ _)]
  rcases h3 with rfl | rfl | rfl <;> rfl

set_option maxRecDepth 100000 in
set_option maxHeartbeats 4000000 in
theorem drawOpsOf_young (a : Option Addr) (n c : Nat) (w : World) (h : CodeAt w a n) (hn : n ≤ 1048576) :
    Calls Tryz.prog 5 #[.slice a n c] w fun e w' => ∃ a2 n2 c2 ma2 mn2 mc2 m lg d, e = .returned (.tuple #[.agg #[.slice a2 n2 c2, .slice ma2 mn2 mc2, .int .i64 (Mb.seq m), .int .i64 m.o], .int .i64 lg, .string d]) ∧ MbAt w' a2 n2 ma2 mn2 w.heap.size m ∧ m.Short ∧ m.Young ∧ d.size ≤ 1048576 ∧ Below w.heap.size w w' := by
  obtain ⟨w0, hw0⟩ : ∃ w0, w0 = w.alloc (.cells #[.slice none 0 0, .slice none 0 0, .int .i64 0, .int .i64 0] 29) := ⟨_, rfl⟩
  have hB0 : Below w.heap.size w w0 := by rw [hw0]; exact (Below.refl _ w).alloc (Nat.le_refl _) _
  have hs0 : w0.heap.size = w.heap.size + 1 := by rw [hw0]; simp
  have HZ0 : Hid (BoxAt w0 w.heap.size none 0 0 none 0 0 0 0) := by rw [hw0]; exact BoxAt.alloc _ _ _ _ _ _ _ _ _ _
  have HC0 := hide (h.below hB0 (Nat.le_refl _))
  clear h
  go_enter Tryz.func5, Tryz.ntmps5
  go_wp2_with fail
  rw [← hw0]
  clear hw0
  refine (l1Open_any a n c _ (unhide HC0) hn).mono ?_
  rintro e w1 ⟨rfl, hR1, hB1⟩
  have hs1 := hB1.size
  have HZ1 := hide ((unhide HZ0).below hB1 (by omega))
  have hW1 := hB0.trans (hB1.mono hB0.size)
  obtain ⟨r, hr⟩ : ∃ r, r = w0.heap.size := ⟨_, rfl⟩
  rw [← hr] at hR1 ⊢
  have hrl := hR1.lt
  have HR1 := hide hR1
  have hwr : w.heap.size < r := by omega
  clear hR1 hB1 hB0 HZ0 HC0 hs0 hr
  go_wp2_with fail
  refine (ftl_young r 30 _ (unhide HR1) (by omega) (by omega)).mono ?_
  rintro e w2 ⟨a2, n2, c2, ma2, mn2, mc2, m, rfl, hM2, hS2, hY2, hR2, hT2⟩
  have HYO := hide hY2
  have hs2 := hT2.size
  have HZ2 := hide ((unhide HZ1).touch hT2 (by omega))
  have hW2 : Below w.heap.size w w2 := hW1.trans (hT2.below hW1.size fun k hk => by subst hk; omega)
  have HM2 := hide hM2
  have HS2 := hide hS2
  have HR2 := hide hR2
  clear hM2 hS2 hY2 hR2 hT2 HR1 HZ1 hW1
  obtain ⟨w3, hw3⟩ : ∃ w3, w3 = w2.alloc (.cells #[.slice a2 n2 c2, .slice ma2 mn2 mc2, .int .i64 m.seq, .int .i64 m.o] 29) := ⟨_, rfl⟩
  have hB3 : Below w2.heap.size w2 w3 := by rw [hw3]; exact (Below.refl _ _).alloc (Nat.le_refl _) _
  have HX3 : Hid (BoxAt w3 w2.heap.size a2 n2 c2 ma2 mn2 mc2 m.seq m.o) := by rw [hw3]; exact BoxAt.alloc _ _ _ _ _ _ _ _ _ _
  have hs3 : w2.heap.size < w3.heap.size := (unhide HX3).lt
  have HZ3 := hide ((unhide HZ2).below hB3 (by omega))
  have HM3 := hide ((unhide HM2).below hB3)
  have HR3 := hide ((unhide HR2).below hB3)
  have hW3 := hW2.trans (hB3.mono hW2.size)
  have hmn : mn2 ≤ 36 := by have := (unhide HS2).2.2; have := (unhide HM2).L; omega
  clear hB3 HZ2 HM2 HR2 hW2
  go_wp2_with fail
  rw [← hw3]
  clear hw3
  refine (once_any r 12 _ (unhide HR3) (by omega) (by omega)).mono ?_
  rintro e w4 ⟨y0, rfl, hR4, hT4⟩
  have hs4 := hT4.size
  have HX4 := hide ((unhide HX3).touch hT4 (by omega))
  have HZ4 := hide ((unhide HZ3).touch hT4 (by omega))
  have HM4 := hide ((unhide HM3).drawn (unhide HR3) (by omega) hT4)
  have hW4 : Below w.heap.size w w4 := hW3.trans (hT4.below hW3.size fun k hk => by subst hk; omega)
  have HR4 := hide hR4
  obtain ⟨w3, rfl⟩ : ∃ w3, w3 = w4 := ⟨_, rfl⟩
  have HX3 := HX4
  have HZ3 := HZ4
  have HM3 := HM4
  have HR3 := HR4
  have hW3 := hW4
  have hs3 : w2.heap.size < w3.heap.size := (unhide HX3).lt
  have hrw3 : r < w3.heap.size := (unhide HR3).lt
  clear hR4 hT4 HX4 HZ4 HM4 HR4 hW4 hs4
  obtain ⟨x0, x1, x2, x3⟩ := (unhide HX3).cells
  have HR3d : Hid (RdAt w3.drew r) := (unhide HR3)
  have HWR : Hid (IntKind.i64.wrap ((mn2 : Int) - 1) = (mn2 : Int) - 1) := by
    unfold Hid
    simp [IntKind.wrap, IntKind.bits, IntKind.signed]
    omega
  cases hb : (y0 == (12 : Int) - 1) with
  | false =>
    skip
    · go_wp2_with fail
      go_region_held3 (fun W => ∀ b o, b = w2.heap.size → W.cell? ⟨b, o, none⟩ = w3.cell? ⟨b, o, none⟩)
        (first
          | (intro b o hb; subst hb; rw [World.cell?_setCell_other _ _ _ _ (by simp <;> omega), World.cell?_setCell_other _ _ _ _ (by simp <;> omega), World.cell?_setCell_other _ _ _ _ (by simp <;> omega), World.cell?_setCell_other _ _ _ _ (by simp <;> omega)]; first | exact (unhide HT5).cell (by omega) (by show ¬ w2.heap.size = r; omega) | (rw [cell_alloc_lt _ _ _ _ (by omega)]; exact (unhide HT5).cell (by omega) (by show ¬ w2.heap.size = r; omega)))
          | (intro b o hb; subst hb; exact (unhide HT5).cell (by omega) (by show ¬ w2.heap.size = r; omega))
          | (intro b o hb; subst hb; rw [cell_alloc_lt _ _ _ _ (by omega)]; exact (unhide HT5).cell (by omega) (by show ¬ w2.heap.size = r; omega))
          | (intro b o hb; subst hb; exact (unhide HT4).cell (by omega) (by show ¬ w2.heap.size = r; omega))
          | (intro b o hb; subst hb; rw [cell_alloc_lt _ _ _ _ (by omega)]; exact (unhide HT4).cell (by omega) (by show ¬ w2.heap.size = r; omega))
          | (intro b o hb; subst hb; rw [cell_alloc_lt _ _ _ _ (by first | omega | (simp; omega))]; rfl)
          | (intro b o hb; subst hb; rw [cell_drew, cell_alloc_lt _ _ _ _ (by first | omega | (simp; omega))])
          | (intro b o hb; rfl))
      (first
        | (go_at_call 16
           generalize hq : (if (1 : Int) < (mn2 : Int) then (mn2 : Int) else 1) = q
           have hq9 : q ≤ 1000000000000 := by rw [← hq]; split <;> omega
           clear hq
           refine (belowAny r q _ (unhide HR3d) hq9).mono ?_
           rintro e w4 ⟨z, rfl, _, _, hR4, hT4⟩
           have HT4 : Hid (Touch (· = r) w3 w4) := (Touch.refl _ w3).drew.trans hT4
           have HR4 := hide hR4
           have hs4 := (unhide HT4).size
           clear hR4 hT4)
        | (go_at_call 17
           refine (data_any r _ (unhide HR4)).mono ?_
           rintro e w5 ⟨xd, rfl, hxd, hR5, hT5⟩
           have HT5 : Hid (Touch (· = r) w3 w5) := (unhide HT4).trans hT5
           have HZ5 := hide ((unhide HZ3).touch (unhide HT5) (by omega))
           have zq0 := (unhide HZ5).cells.1
           have zq1 := (unhide HZ5).cells.2.1
           have zq2 := (unhide HZ5).cells.2.2.1
           have zq3 := (unhide HZ5).cells.2.2.2
           have zf0 := (unhide HZ5).2 0
           have zf1 := (unhide HZ5).2 1
           have zf2 := (unhide HZ5).2 2
           have zf3 := (unhide HZ5).2 3
           have hs5 := (unhide HT5).size
           clear hR5 hT5))
      skip
      have HM5 := hide ((unhide HM3).drawn (unhide HR3) (by omega) (unhide HT5))
      have hWb5 : Below w.heap.size w w5 := hW3.trans ((unhide HT5).below hW3.size fun k hk => by subst hk; omega)
      clear zq0 zq1 zq2 zq3 zf0 zf1 zf2 zf3 x0 x1 x2 x3 HR3d
      obtain ⟨W5, hW5⟩ : ∃ W5, W5 = set4B w5 w.heap.size (.slice a2 n2 c2) (.slice ma2 mn2 mc2) (.int .i64 m.seq) (.int .i64 m.o) := ⟨_, rfl⟩
      have hY := (unhide HZ5).store a2 n2 c2 ma2 mn2 mc2 m.seq m.o
      have hF := MbAt.stored (unhide HZ5) (unhide HM5) (OffRow.above ((unhide HM5)).mine (by omega)) (.slice a2 n2 c2) (.slice ma2 mn2 mc2) (.int .i64 m.seq) (.int .i64 m.o)
      have hWB := set4B_below hWb5 (Nat.le_refl w.heap.size) (.slice a2 n2 c2) (.slice ma2 mn2 mc2) (.int .i64 m.seq) (.int .i64 m.o)
      rw [← hW5] at hY hF hWB
      obtain ⟨z0, z1, z2, z3⟩ := (unhide HZ5).cells
      obtain ⟨f0, f1, f2, f3⟩ := (unhide HZ5).free
      obtain ⟨v0, v1, v2, v3⟩ := hY.cells
      have HF := hide hF
      clear hY hF
      unfold set4B at hW5
      go_wp2
      try rw [← hW5]
      exact bodyPost_ret (v := .tuple #[.agg #[.slice a2 n2 c2, .slice ma2 mn2 mc2, .int .i64 m.seq, .int .i64 m.o], .int .i64 z, .string (xd)]) (by simp [results, Tryz.results5, go_sem, v0, v1, v2, v3]) rfl ⟨a2, n2, c2, ma2, mn2, mc2, m, z, xd, rfl, (unhide HF).lower (by omega), unhide HS2, unhide HYO, by omega, hWB⟩

  | true =>
    go_wp2_with fail
    have hmix : Tryz.prog.follows .mixedOrders = true := by kernel_rfl
    refine wp_region_held_drew (S := fun W => ∀ b o, b = w2.heap.size → W.cell? ⟨b, o, none⟩ = w3.cell? ⟨b, o, none⟩) hmix (fun b o hb => rfl) (fun hHeld => ?_)
    refine wpAnyH_take (i := 0) (v := .agg #[.slice a2 n2 c2, .slice ma2 mn2 mc2, .int .i64 m.seq, .int .i64 m.o]) rfl (by kernel_rfl) (by kernel_rfl) (by kernel_rfl) (fun _ _ _ h => h) (Or.inl ⟨by rfl, ?_⟩) hHeld ?_
    · (intro W hSW; go_simp)
    simp only [Act.put, List.setIfInBounds_toArray, List.set_cons_zero, List.set_cons_succ]
    refine wpAnyH_take (i := 1) (v := .pointer (some ⟨r, 0, none⟩)) rfl (by kernel_rfl) (by kernel_rfl) (by kernel_rfl) (fun _ _ _ h => h) (Or.inl ⟨by rfl, ?_⟩) hHeld ?_
    · (intro W hSW; go_simp)
    simp only [Act.put, List.setIfInBounds_toArray, List.set_cons_zero, List.set_cons_succ]
    refine wpAnyH_take (i := 2) (v := .pointer (some ⟨w2.heap.size, 1, none⟩)) rfl (by kernel_rfl) (by kernel_rfl) (by kernel_rfl) (fun _ _ _ h => h) (Or.inl ⟨by rfl, ?_⟩) hHeld ?_
    · (intro W hSW; go_simp)
    simp only [Act.put, List.setIfInBounds_toArray, List.set_cons_zero, List.set_cons_succ]
    refine wpAnyH_take (i := 3) (v := .slice ma2 mn2 mc2) rfl (by kernel_rfl) (by kernel_rfl) (by kernel_rfl) (fun _ _ _ h => h) (Or.inl ⟨by rfl, ?_⟩) hHeld ?_
    · (intro W hSW; go_simp)
    simp only [Act.put, List.setIfInBounds_toArray, List.set_cons_zero, List.set_cons_succ]
    refine wpAnyH_take (i := 4) (v := .int .i64 (mn2 : Int)) rfl (by kernel_rfl) (by kernel_rfl) (by kernel_rfl) (fun _ _ _ h => h) (Or.inl ⟨by rfl, ?_⟩) hHeld ?_
    · (intro W hSW; go_simp)
    simp only [Act.put, List.setIfInBounds_toArray, List.set_cons_zero, List.set_cons_succ]
    refine wpAnyH_take (i := 5) (v := .int .i64 (IntKind.i64.wrap ((mn2 : Int) - 1))) rfl (by kernel_rfl) (by kernel_rfl) (by kernel_rfl) (fun _ _ _ h => h) (Or.inl ⟨by rfl, ?_⟩) hHeld ?_
    · (intro W hSW; go_simp)
    simp only [Act.put, List.setIfInBounds_toArray, List.set_cons_zero, List.set_cons_succ]
    refine wpAnyH_take (i := 8) (v := .pointer (some ⟨r, 0, none⟩)) rfl (by kernel_rfl) (by kernel_rfl) (by kernel_rfl) (fun _ _ _ h => h) (Or.inl ⟨by rfl, ?_⟩) hHeld ?_
    · (intro W hSW; go_simp)
    simp only [Act.put, List.setIfInBounds_toArray, List.set_cons_zero, List.set_cons_succ]
    refine wpAnyH_ready (rs := [6, 7]) (by kernel_rfl) (by simp) ?_
    refine AllReadyH.cons rfl (fun K hK => ?_) (AllReadyH.cons rfl (fun K hK => ?_) AllReadyH.nil)
    · go_simp
      try rw [unhide HWR]
      refine (off2_any r 0 ((mn2 : Int) - 1) w3.drew (unhide HR3d) (by omega) (by omega) (by omega) (by omega)).mono ?_
      rintro e w4 ⟨z, rfl, hR4, hT4⟩
      have HT4 : Hid (Touch (· = r) w3 w4) := ((Touch.refl (· = r) w3).drew).trans hT4
      have HR4 := hide hR4
      clear hR4 hT4
      try go_wp2_with fail
      refine hK.out _ _ ?_ (fun hHeld2 => ?_)
      · (intro b o hb; subst hb; exact (unhide HT4).cell hs3 (by show ¬ w2.heap.size = r; omega))
      clear hK K
      have hHeld := hHeld2
      clear hHeld2
      try simp only [Act.put, List.setIfInBounds_toArray, List.set_cons_zero, List.set_cons_succ]
      refine wpAnyH_ready (rs := [7, 9]) (by kernel_rfl) (by simp) ?_
      refine AllReadyH.cons rfl (fun K hK => ?_) (AllReadyH.cons rfl (fun K hK => ?_) AllReadyH.nil)
      · go_simp
        obtain ⟨wA, hwA⟩ : ∃ wA, wA = w4.alloc (.cells #[.string ⟨#[97, 98, 99, 100]⟩, .string ⟨#[97, 98, 99]⟩, .string ⟨#[97, 98, 99, 100, 101]⟩] 9) := ⟨_, rfl⟩
        rw [← hwA]
        have hBA : Below w4.heap.size w4 wA := by rw [hwA]; exact (Below.refl _ _).alloc (Nat.le_refl _) _
        have HTA : Hid (Touch (· = r) w3 wA) := (unhide HT4).trans (Touch.of_below hBA)
        have HRA : Hid (RdAt wA r) := (unhide HR4).below hBA
        obtain ⟨gA, hgA⟩ : ∃ gA, gA = w4.heap.size := ⟨_, rfl⟩
        have hrg : r < gA := by rw [hgA]; exact (unhide HR4).lt
        have HSA : Hid (∀ k, k < 3 → wA.cell? ⟨gA, k, none⟩ = some (.string (strY k))) := fun k hk => by rw [hwA, hgA]; exact strY_new w4 _ k hk
        have hgl : gA < wA.heap.size := by rw [hwA, hgA]; simp
        rw [← hgA]
        clear hwA hBA hgA
        refine hK.out _ _ ?_ (fun hHeld2 => ?_)
        · (intro b o hb; subst hb; exact (unhide HTA).cell hs3 (by show ¬ w2.heap.size = r; omega))
        clear hK K
        have hHeld := hHeld2
        clear hHeld2
        try simp only [Act.put, List.setIfInBounds_toArray, List.set_cons_zero, List.set_cons_succ]
        refine wpAnyH_ready (rs := [9]) (by kernel_rfl) (by simp) ?_
        refine AllReadyH.cons rfl (fun K hK => ?_) AllReadyH.nil
        go_simp
        refine (below_any r 3 wA (unhide HRA) (by omega) (by omega)).mono ?_
        rintro e w5 ⟨y, rfl, hy0, hy1, hR5, hT5⟩
        obtain ⟨k, rfl⟩ := Int.eq_ofNat_of_zero_le hy0
        have hk3 : k < 3 := by omega
        have hki : (k : Int) < 3 := by omega
        have HT5 : Hid (Touch (· = r) w3 w5) := (unhide HTA).trans hT5
        have HR5 := hide hR5
        have hst : w5.cell? ⟨gA, k, none⟩ = some (.string (strY k)) := (hT5.cell hgl (by show ¬ gA = r; omega)).trans (unhide HSA k hk3)
        clear hR5 hT5 hy0 hy1
        try go_wp2_with fail
        refine hK.out _ _ ?_ (fun hHeld2 => ?_)
        · (intro b o hb; subst hb; exact (unhide HT5).cell hs3 (by show ¬ w2.heap.size = r; omega))
        clear hK K
        have hHeld := hHeld2
        clear hHeld2
        try simp only [Act.put, List.setIfInBounds_toArray, List.set_cons_zero, List.set_cons_succ]
        refine wpAnyH_take (i := 10) (v := .pointer (some ⟨gA, k, none⟩)) rfl (by kernel_rfl) (by kernel_rfl) (by kernel_rfl) (fun _ _ _ h => h) (Or.inl ⟨by rfl, ?_⟩) hHeld ?_
        · (intro W hSW; go_simp)
        simp only [Act.put, List.setIfInBounds_toArray, List.set_cons_zero, List.set_cons_succ]
        have HZW := hide ((unhide HZ3).touch (unhide HT5) (by omega))
        have HMW := hide ((unhide HM3).drawn (unhide HR3) (by omega) (unhide HT5))
        have hWb : Below w.heap.size w w5 := hW3.trans ((unhide HT5).below hW3.size fun k hk => by subst hk; omega)
        have hlw : w.heap.size < w5.heap.size := (unhide HZW).lt
        obtain ⟨z0, z1, z2, z3⟩ := (unhide HZW).cells
        obtain ⟨f0, f1, f2, f3⟩ := (unhide HZW).free
        have hgw : gA ≠ w.heap.size := by omega
        have hgw2 : w.heap.size ≠ gA := by omega
        refine wpAnyH_ready (rs := [11, 12]) (by kernel_rfl) (by simp) ?_
        refine AllReadyH.cons rfl (fun K hK => ?_) (AllReadyH.cons rfl (fun K hK => ?_) AllReadyH.nil)
        · go_simp
          refine hK.out _ _ ?_ (fun hHeld2 => ?_)
          · (intro b o hb; subst hb; exact (unhide HT5).cell hs3 (by show ¬ w2.heap.size = r; omega))
          clear hK K
          have hHeld := hHeld2
          clear hHeld2
          try simp only [Act.put, List.setIfInBounds_toArray, List.set_cons_zero, List.set_cons_succ]
          refine wpAnyH_ready (rs := [12]) (by kernel_rfl) (by simp) ?_
          refine AllReadyH.cons rfl (fun K hK => ?_) AllReadyH.nil
          go_simp
          refine hK.out _ _ ?_ (fun hHeld2 => ?_)
          · (intro b o hb; subst hb; rw [World.cell?_setCell_other _ _ _ _ (by simp <;> omega), World.cell?_setCell_other _ _ _ _ (by simp <;> omega), World.cell?_setCell_other _ _ _ _ (by simp <;> omega), World.cell?_setCell_other _ _ _ _ (by simp <;> omega)]; exact (unhide HT5).cell hs3 (by show ¬ w2.heap.size = r; omega))
          clear hK K
          have hHeld := hHeld2
          clear hHeld2
          try simp only [Act.put, List.setIfInBounds_toArray, List.set_cons_zero, List.set_cons_succ]
          clear z0 z1 z2 z3 f0 f1 f2 f3
          refine wpAnyH_ready (rs := [13]) (by kernel_rfl) (by simp) ?_
          refine AllReadyH.cons rfl (fun K hK => ?_) AllReadyH.nil
          go_simp
          refine hK.out _ _ ?_ (fun hHeld2 => ?_)
          · (intro b o hb; subst hb; rw [World.cell?_setCell_other _ _ _ _ (by simp <;> omega), World.cell?_setCell_other _ _ _ _ (by simp <;> omega), World.cell?_setCell_other _ _ _ _ (by simp <;> omega), World.cell?_setCell_other _ _ _ _ (by simp <;> omega)]; exact (unhide HT5).cell hs3 (by show ¬ w2.heap.size = r; omega))
          clear hK K
          have hHeld := hHeld2
          clear hHeld2
          try simp only [Act.put, List.setIfInBounds_toArray, List.set_cons_zero, List.set_cons_succ]
          refine wpAnyH_ready (rs := [14]) (by kernel_rfl) (by simp) ?_
          refine AllReadyH.cons rfl (fun K hK => ?_) AllReadyH.nil
          go_simp
          refine hK.out _ _ ?_ (fun hHeld2 => ?_)
          · (intro b o hb; subst hb; rw [World.cell?_setCell_other _ _ _ _ (by simp <;> omega), World.cell?_setCell_other _ _ _ _ (by simp <;> omega), World.cell?_setCell_other _ _ _ _ (by simp <;> omega), World.cell?_setCell_other _ _ _ _ (by simp <;> omega)]; exact (unhide HT5).cell hs3 (by show ¬ w2.heap.size = r; omega))
          clear hK K
          have hHeld := hHeld2
          clear hHeld2
          try simp only [Act.put, List.setIfInBounds_toArray, List.set_cons_zero, List.set_cons_succ]
          refine wpAnyH_done (by kernel_rfl) ?_ _
          obtain ⟨W5, hW5⟩ : ∃ W5, W5 = set4B w5 w.heap.size (.slice a2 n2 c2) (.slice ma2 mn2 mc2) (.int .i64 m.seq) (.int .i64 m.o) := ⟨_, rfl⟩
          have hY := (unhide HZW).store a2 n2 c2 ma2 mn2 mc2 m.seq m.o
          have hF := MbAt.stored (unhide HZW) (unhide HMW) (OffRow.above ((unhide HMW)).mine (by omega)) (.slice a2 n2 c2) (.slice ma2 mn2 mc2) (.int .i64 m.seq) (.int .i64 m.o)
          have hWB := set4B_below hWb (Nat.le_refl w.heap.size) (.slice a2 n2 c2) (.slice ma2 mn2 mc2) (.int .i64 m.seq) (.int .i64 m.o)
          rw [← hW5] at hY hF hWB
          obtain ⟨z0, z1, z2, z3⟩ := (unhide HZW).cells
          obtain ⟨f0, f1, f2, f3⟩ := (unhide HZW).free
          obtain ⟨v0, v1, v2, v3⟩ := hY.cells
          have HF := hide hF
          clear hY hF
          unfold set4B at hW5
          go_wp2
          try rw [← hW5]
          exact bodyPost_ret (v := .tuple #[.agg #[.slice a2 n2 c2, .slice ma2 mn2 mc2, .int .i64 m.seq, .int .i64 m.o], .int .i64 z, .string (strY k)]) (by simp [results, Tryz.results5, go_sem, v0, v1, v2, v3]) rfl ⟨a2, n2, c2, ma2, mn2, mc2, m, z, strY k, rfl, (unhide HF).lower (by omega), unhide HS2, unhide HYO, strY_size k, hWB⟩
        · go_simp
          refine hK.out _ _ ?_ (fun hHeld2 => ?_)
          · (intro b o hb; subst hb; rw [World.cell?_setCell_other _ _ _ _ (by simp <;> omega), World.cell?_setCell_other _ _ _ _ (by simp <;> omega), World.cell?_setCell_other _ _ _ _ (by simp <;> omega), World.cell?_setCell_other _ _ _ _ (by simp <;> omega)]; exact (unhide HT5).cell hs3 (by show ¬ w2.heap.size = r; omega))
          clear hK K
          have hHeld := hHeld2
          clear hHeld2
          try simp only [Act.put, List.setIfInBounds_toArray, List.set_cons_zero, List.set_cons_succ]
          refine wpAnyH_ready (rs := [11, 13]) (by kernel_rfl) (by simp) ?_
          refine AllReadyH.cons rfl (fun K hK => ?_) (AllReadyH.cons rfl (fun K hK => ?_) AllReadyH.nil)
          · go_simp
            refine hK.out _ _ ?_ (fun hHeld2 => ?_)
            · (intro b o hb; subst hb; rw [World.cell?_setCell_other _ _ _ _ (by simp <;> omega), World.cell?_setCell_other _ _ _ _ (by simp <;> omega), World.cell?_setCell_other _ _ _ _ (by simp <;> omega), World.cell?_setCell_other _ _ _ _ (by simp <;> omega)]; exact (unhide HT5).cell hs3 (by show ¬ w2.heap.size = r; omega))
            clear hK K
            have hHeld := hHeld2
            clear hHeld2
            try simp only [Act.put, List.setIfInBounds_toArray, List.set_cons_zero, List.set_cons_succ]
            refine wpAnyH_ready (rs := [13]) (by kernel_rfl) (by simp) ?_
            refine AllReadyH.cons rfl (fun K hK => ?_) AllReadyH.nil
            go_simp
            refine hK.out _ _ ?_ (fun hHeld2 => ?_)
            · (intro b o hb; subst hb; rw [World.cell?_setCell_other _ _ _ _ (by simp <;> omega), World.cell?_setCell_other _ _ _ _ (by simp <;> omega), World.cell?_setCell_other _ _ _ _ (by simp <;> omega), World.cell?_setCell_other _ _ _ _ (by simp <;> omega)]; exact (unhide HT5).cell hs3 (by show ¬ w2.heap.size = r; omega))
            clear hK K
            have hHeld := hHeld2
            clear hHeld2
            try simp only [Act.put, List.setIfInBounds_toArray, List.set_cons_zero, List.set_cons_succ]
            clear z0 z1 z2 z3 f0 f1 f2 f3
            refine wpAnyH_ready (rs := [14]) (by kernel_rfl) (by simp) ?_
            refine AllReadyH.cons rfl (fun K hK => ?_) AllReadyH.nil
            go_simp
            refine hK.out _ _ ?_ (fun hHeld2 => ?_)
            · (intro b o hb; subst hb; rw [World.cell?_setCell_other _ _ _ _ (by simp <;> omega), World.cell?_setCell_other _ _ _ _ (by simp <;> omega), World.cell?_setCell_other _ _ _ _ (by simp <;> omega), World.cell?_setCell_other _ _ _ _ (by simp <;> omega)]; exact (unhide HT5).cell hs3 (by show ¬ w2.heap.size = r; omega))
            clear hK K
            have hHeld := hHeld2
            clear hHeld2
            try simp only [Act.put, List.setIfInBounds_toArray, List.set_cons_zero, List.set_cons_succ]
            refine wpAnyH_done (by kernel_rfl) ?_ _
            obtain ⟨W5, hW5⟩ : ∃ W5, W5 = set4B w5 w.heap.size (.slice a2 n2 c2) (.slice ma2 mn2 mc2) (.int .i64 m.seq) (.int .i64 m.o) := ⟨_, rfl⟩
            have hY := (unhide HZW).store a2 n2 c2 ma2 mn2 mc2 m.seq m.o
            have hF := MbAt.stored (unhide HZW) (unhide HMW) (OffRow.above ((unhide HMW)).mine (by omega)) (.slice a2 n2 c2) (.slice ma2 mn2 mc2) (.int .i64 m.seq) (.int .i64 m.o)
            have hWB := set4B_below hWb (Nat.le_refl w.heap.size) (.slice a2 n2 c2) (.slice ma2 mn2 mc2) (.int .i64 m.seq) (.int .i64 m.o)
            rw [← hW5] at hY hF hWB
            obtain ⟨z0, z1, z2, z3⟩ := (unhide HZW).cells
            obtain ⟨f0, f1, f2, f3⟩ := (unhide HZW).free
            obtain ⟨v0, v1, v2, v3⟩ := hY.cells
            have HF := hide hF
            clear hY hF
            unfold set4B at hW5
            go_wp2
            try rw [← hW5]
            exact bodyPost_ret (v := .tuple #[.agg #[.slice a2 n2 c2, .slice ma2 mn2 mc2, .int .i64 m.seq, .int .i64 m.o], .int .i64 z, .string (strY k)]) (by simp [results, Tryz.results5, go_sem, v0, v1, v2, v3]) rfl ⟨a2, n2, c2, ma2, mn2, mc2, m, z, strY k, rfl, (unhide HF).lower (by omega), unhide HS2, unhide HYO, strY_size k, hWB⟩
          · go_simp
            refine hK.out _ _ ?_ (fun hHeld2 => ?_)
            · (intro b o hb; subst hb; rw [World.cell?_setCell_other _ _ _ _ (by simp <;> omega), World.cell?_setCell_other _ _ _ _ (by simp <;> omega), World.cell?_setCell_other _ _ _ _ (by simp <;> omega), World.cell?_setCell_other _ _ _ _ (by simp <;> omega)]; exact (unhide HT5).cell hs3 (by show ¬ w2.heap.size = r; omega))
            clear hK K
            have hHeld := hHeld2
            clear hHeld2
            try simp only [Act.put, List.setIfInBounds_toArray, List.set_cons_zero, List.set_cons_succ]
            refine wpAnyH_ready (rs := [11]) (by kernel_rfl) (by simp) ?_
            refine AllReadyH.cons rfl (fun K hK => ?_) AllReadyH.nil
            go_simp
            refine hK.out _ _ ?_ (fun hHeld2 => ?_)
            · (intro b o hb; subst hb; rw [World.cell?_setCell_other _ _ _ _ (by simp <;> omega), World.cell?_setCell_other _ _ _ _ (by simp <;> omega), World.cell?_setCell_other _ _ _ _ (by simp <;> omega), World.cell?_setCell_other _ _ _ _ (by simp <;> omega)]; exact (unhide HT5).cell hs3 (by show ¬ w2.heap.size = r; omega))
            clear hK K
            have hHeld := hHeld2
            clear hHeld2
            try simp only [Act.put, List.setIfInBounds_toArray, List.set_cons_zero, List.set_cons_succ]
            clear z0 z1 z2 z3 f0 f1 f2 f3
            refine wpAnyH_ready (rs := [14]) (by kernel_rfl) (by simp) ?_
            refine AllReadyH.cons rfl (fun K hK => ?_) AllReadyH.nil
            go_simp
            refine hK.out _ _ ?_ (fun hHeld2 => ?_)
            · (intro b o hb; subst hb; rw [World.cell?_setCell_other _ _ _ _ (by simp <;> omega), World.cell?_setCell_other _ _ _ _ (by simp <;> omega), World.cell?_setCell_other _ _ _ _ (by simp <;> omega), World.cell?_setCell_other _ _ _ _ (by simp <;> omega)]; exact (unhide HT5).cell hs3 (by show ¬ w2.heap.size = r; omega))
            clear hK K
            have hHeld := hHeld2
            clear hHeld2
            try simp only [Act.put, List.setIfInBounds_toArray, List.set_cons_zero, List.set_cons_succ]
            refine wpAnyH_done (by kernel_rfl) ?_ _
            obtain ⟨W5, hW5⟩ : ∃ W5, W5 = set4B w5 w.heap.size (.slice a2 n2 c2) (.slice ma2 mn2 mc2) (.int .i64 m.seq) (.int .i64 m.o) := ⟨_, rfl⟩
            have hY := (unhide HZW).store a2 n2 c2 ma2 mn2 mc2 m.seq m.o
            have hF := MbAt.stored (unhide HZW) (unhide HMW) (OffRow.above ((unhide HMW)).mine (by omega)) (.slice a2 n2 c2) (.slice ma2 mn2 mc2) (.int .i64 m.seq) (.int .i64 m.o)
            have hWB := set4B_below hWb (Nat.le_refl w.heap.size) (.slice a2 n2 c2) (.slice ma2 mn2 mc2) (.int .i64 m.seq) (.int .i64 m.o)
            rw [← hW5] at hY hF hWB
            obtain ⟨z0, z1, z2, z3⟩ := (unhide HZW).cells
            obtain ⟨f0, f1, f2, f3⟩ := (unhide HZW).free
            obtain ⟨v0, v1, v2, v3⟩ := hY.cells
            have HF := hide hF
            clear hY hF
            unfold set4B at hW5
            go_wp2
            try rw [← hW5]
            exact bodyPost_ret (v := .tuple #[.agg #[.slice a2 n2 c2, .slice ma2 mn2 mc2, .int .i64 m.seq, .int .i64 m.o], .int .i64 z, .string (strY k)]) (by simp [results, Tryz.results5, go_sem, v0, v1, v2, v3]) rfl ⟨a2, n2, c2, ma2, mn2, mc2, m, z, strY k, rfl, (unhide HF).lower (by omega), unhide HS2, unhide HYO, strY_size k, hWB⟩
      · go_simp
        refine (below_any r 3 w4 (unhide HR4) (by omega) (by omega)).mono ?_
        rintro e w5 ⟨y, rfl, hy0, hy1, hR5, hT5⟩
        obtain ⟨k, rfl⟩ := Int.eq_ofNat_of_zero_le hy0
        have hk3 : k < 3 := by omega
        have hki : (k : Int) < 3 := by omega
        have HT5 : Hid (Touch (· = r) w3 w5) := (unhide HT4).trans hT5
        have HR5 := hide hR5
        clear hR5 hT5 hy0 hy1
        try go_wp2_with fail
        refine hK.out _ _ ?_ (fun hHeld2 => ?_)
        · (intro b o hb; subst hb; exact (unhide HT5).cell hs3 (by show ¬ w2.heap.size = r; omega))
        clear hK K
        have hHeld := hHeld2
        clear hHeld2
        try simp only [Act.put, List.setIfInBounds_toArray, List.set_cons_zero, List.set_cons_succ]
        have HZW := hide ((unhide HZ3).touch (unhide HT5) (by omega))
        have HMW := hide ((unhide HM3).drawn (unhide HR3) (by omega) (unhide HT5))
        have hWb : Below w.heap.size w w5 := hW3.trans ((unhide HT5).below hW3.size fun k hk => by subst hk; omega)
        have hlw : w.heap.size < w5.heap.size := (unhide HZW).lt
        obtain ⟨z0, z1, z2, z3⟩ := (unhide HZW).cells
        obtain ⟨f0, f1, f2, f3⟩ := (unhide HZW).free
        refine wpAnyH_ready (rs := [7, 12]) (by kernel_rfl) (by simp) ?_
        refine AllReadyH.cons rfl (fun K hK => ?_) (AllReadyH.cons rfl (fun K hK => ?_) AllReadyH.nil)
        · go_simp
          obtain ⟨wA, hwA⟩ : ∃ wA, wA = w5.alloc (.cells #[.string ⟨#[97, 98, 99, 100]⟩, .string ⟨#[97, 98, 99]⟩, .string ⟨#[97, 98, 99, 100, 101]⟩] 9) := ⟨_, rfl⟩
          rw [← hwA]
          have hBA : Below w5.heap.size w5 wA := by rw [hwA]; exact (Below.refl _ _).alloc (Nat.le_refl _) _
          have HTA : Hid (Touch (· = r) w3 wA) := (unhide HT5).trans (Touch.of_below hBA)
          have HRA : Hid (RdAt wA r) := (unhide HR5).below hBA
          obtain ⟨gA, hgA⟩ : ∃ gA, gA = w5.heap.size := ⟨_, rfl⟩
          have hrg : r < gA := by rw [hgA]; exact (unhide HR5).lt
          have HSA : Hid (∀ k, k < 3 → wA.cell? ⟨gA, k, none⟩ = some (.string (strY k))) := fun k hk => by rw [hwA, hgA]; exact strY_new w5 _ k hk
          have hgl : gA < wA.heap.size := by rw [hwA, hgA]; simp
          rw [← hgA]
          clear hwA hBA hgA
          have hst := unhide HSA k hk3
          clear z0 z1 z2 z3 f0 f1 f2 f3 hlw hWb HZW HMW
          refine hK.out _ _ ?_ (fun hHeld2 => ?_)
          · (intro b o hb; subst hb; exact (unhide HTA).cell hs3 (by show ¬ w2.heap.size = r; omega))
          clear hK K
          have hHeld := hHeld2
          clear hHeld2
          try simp only [Act.put, List.setIfInBounds_toArray, List.set_cons_zero, List.set_cons_succ]
          refine wpAnyH_take (i := 10) (v := .pointer (some ⟨gA, k, none⟩)) rfl (by kernel_rfl) (by kernel_rfl) (by kernel_rfl) (fun _ _ _ h => h) (Or.inl ⟨by rfl, ?_⟩) hHeld ?_
          · (intro W hSW; go_simp)
          simp only [Act.put, List.setIfInBounds_toArray, List.set_cons_zero, List.set_cons_succ]
          have HZW := hide ((unhide HZ3).touch (unhide HTA) (by omega))
          have HMW := hide ((unhide HM3).drawn (unhide HR3) (by omega) (unhide HTA))
          have hWb : Below w.heap.size w wA := hW3.trans ((unhide HTA).below hW3.size fun k hk => by subst hk; omega)
          have hlw : w.heap.size < wA.heap.size := (unhide HZW).lt
          obtain ⟨z0, z1, z2, z3⟩ := (unhide HZW).cells
          obtain ⟨f0, f1, f2, f3⟩ := (unhide HZW).free
          have hgw : gA ≠ w.heap.size := by omega
          have hgw2 : w.heap.size ≠ gA := by omega
          refine wpAnyH_ready (rs := [11, 12]) (by kernel_rfl) (by simp) ?_
          refine AllReadyH.cons rfl (fun K hK => ?_) (AllReadyH.cons rfl (fun K hK => ?_) AllReadyH.nil)
          · go_simp
            refine hK.out _ _ ?_ (fun hHeld2 => ?_)
            · (intro b o hb; subst hb; exact (unhide HTA).cell hs3 (by show ¬ w2.heap.size = r; omega))
            clear hK K
            have hHeld := hHeld2
            clear hHeld2
            try simp only [Act.put, List.setIfInBounds_toArray, List.set_cons_zero, List.set_cons_succ]
            refine wpAnyH_ready (rs := [12]) (by kernel_rfl) (by simp) ?_
            refine AllReadyH.cons rfl (fun K hK => ?_) AllReadyH.nil
            go_simp
            refine hK.out _ _ ?_ (fun hHeld2 => ?_)
            · (intro b o hb; subst hb; rw [World.cell?_setCell_other _ _ _ _ (by simp <;> omega), World.cell?_setCell_other _ _ _ _ (by simp <;> omega), World.cell?_setCell_other _ _ _ _ (by simp <;> omega), World.cell?_setCell_other _ _ _ _ (by simp <;> omega)]; exact (unhide HTA).cell hs3 (by show ¬ w2.heap.size = r; omega))
            clear hK K
            have hHeld := hHeld2
            clear hHeld2
            try simp only [Act.put, List.setIfInBounds_toArray, List.set_cons_zero, List.set_cons_succ]
            clear z0 z1 z2 z3 f0 f1 f2 f3
            refine wpAnyH_ready (rs := [13]) (by kernel_rfl) (by simp) ?_
            refine AllReadyH.cons rfl (fun K hK => ?_) AllReadyH.nil
            go_simp
            refine hK.out _ _ ?_ (fun hHeld2 => ?_)
            · (intro b o hb; subst hb; rw [World.cell?_setCell_other _ _ _ _ (by simp <;> omega), World.cell?_setCell_other _ _ _ _ (by simp <;> omega), World.cell?_setCell_other _ _ _ _ (by simp <;> omega), World.cell?_setCell_other _ _ _ _ (by simp <;> omega)]; exact (unhide HTA).cell hs3 (by show ¬ w2.heap.size = r; omega))
            clear hK K
            have hHeld := hHeld2
            clear hHeld2
            try simp only [Act.put, List.setIfInBounds_toArray, List.set_cons_zero, List.set_cons_succ]
            refine wpAnyH_ready (rs := [14]) (by kernel_rfl) (by simp) ?_
            refine AllReadyH.cons rfl (fun K hK => ?_) AllReadyH.nil
            go_simp
            refine hK.out _ _ ?_ (fun hHeld2 => ?_)
            · (intro b o hb; subst hb; rw [World.cell?_setCell_other _ _ _ _ (by simp <;> omega), World.cell?_setCell_other _ _ _ _ (by simp <;> omega), World.cell?_setCell_other _ _ _ _ (by simp <;> omega), World.cell?_setCell_other _ _ _ _ (by simp <;> omega)]; exact (unhide HTA).cell hs3 (by show ¬ w2.heap.size = r; omega))
            clear hK K
            have hHeld := hHeld2
            clear hHeld2
            try simp only [Act.put, List.setIfInBounds_toArray, List.set_cons_zero, List.set_cons_succ]
            refine wpAnyH_done (by kernel_rfl) ?_ _
            obtain ⟨W5, hW5⟩ : ∃ W5, W5 = set4B wA w.heap.size (.slice a2 n2 c2) (.slice ma2 mn2 mc2) (.int .i64 m.seq) (.int .i64 m.o) := ⟨_, rfl⟩
            have hY := (unhide HZW).store a2 n2 c2 ma2 mn2 mc2 m.seq m.o
            have hF := MbAt.stored (unhide HZW) (unhide HMW) (OffRow.above ((unhide HMW)).mine (by omega)) (.slice a2 n2 c2) (.slice ma2 mn2 mc2) (.int .i64 m.seq) (.int .i64 m.o)
            have hWB := set4B_below hWb (Nat.le_refl w.heap.size) (.slice a2 n2 c2) (.slice ma2 mn2 mc2) (.int .i64 m.seq) (.int .i64 m.o)
            rw [← hW5] at hY hF hWB
            obtain ⟨z0, z1, z2, z3⟩ := (unhide HZW).cells
            obtain ⟨f0, f1, f2, f3⟩ := (unhide HZW).free
            obtain ⟨v0, v1, v2, v3⟩ := hY.cells
            have HF := hide hF
            clear hY hF
            unfold set4B at hW5
            go_wp2
            try rw [← hW5]
            exact bodyPost_ret (v := .tuple #[.agg #[.slice a2 n2 c2, .slice ma2 mn2 mc2, .int .i64 m.seq, .int .i64 m.o], .int .i64 z, .string (strY k)]) (by simp [results, Tryz.results5, go_sem, v0, v1, v2, v3]) rfl ⟨a2, n2, c2, ma2, mn2, mc2, m, z, strY k, rfl, (unhide HF).lower (by omega), unhide HS2, unhide HYO, strY_size k, hWB⟩
          · go_simp
            refine hK.out _ _ ?_ (fun hHeld2 => ?_)
            · (intro b o hb; subst hb; rw [World.cell?_setCell_other _ _ _ _ (by simp <;> omega), World.cell?_setCell_other _ _ _ _ (by simp <;> omega), World.cell?_setCell_other _ _ _ _ (by simp <;> omega), World.cell?_setCell_other _ _ _ _ (by simp <;> omega)]; exact (unhide HTA).cell hs3 (by show ¬ w2.heap.size = r; omega))
            clear hK K
            have hHeld := hHeld2
            clear hHeld2
            try simp only [Act.put, List.setIfInBounds_toArray, List.set_cons_zero, List.set_cons_succ]
            refine wpAnyH_ready (rs := [11, 13]) (by kernel_rfl) (by simp) ?_
            refine AllReadyH.cons rfl (fun K hK => ?_) (AllReadyH.cons rfl (fun K hK => ?_) AllReadyH.nil)
            · go_simp
              refine hK.out _ _ ?_ (fun hHeld2 => ?_)
              · (intro b o hb; subst hb; rw [World.cell?_setCell_other _ _ _ _ (by simp <;> omega), World.cell?_setCell_other _ _ _ _ (by simp <;> omega), World.cell?_setCell_other _ _ _ _ (by simp <;> omega), World.cell?_setCell_other _ _ _ _ (by simp <;> omega)]; exact (unhide HTA).cell hs3 (by show ¬ w2.heap.size = r; omega))
              clear hK K
              have hHeld := hHeld2
              clear hHeld2
              try simp only [Act.put, List.setIfInBounds_toArray, List.set_cons_zero, List.set_cons_succ]
              refine wpAnyH_ready (rs := [13]) (by kernel_rfl) (by simp) ?_
              refine AllReadyH.cons rfl (fun K hK => ?_) AllReadyH.nil
              go_simp
              refine hK.out _ _ ?_ (fun hHeld2 => ?_)
              · (intro b o hb; subst hb; rw [World.cell?_setCell_other _ _ _ _ (by simp <;> omega), World.cell?_setCell_other _ _ _ _ (by simp <;> omega), World.cell?_setCell_other _ _ _ _ (by simp <;> omega), World.cell?_setCell_other _ _ _ _ (by simp <;> omega)]; exact (unhide HTA).cell hs3 (by show ¬ w2.heap.size = r; omega))
              clear hK K
              have hHeld := hHeld2
              clear hHeld2
              try simp only [Act.put, List.setIfInBounds_toArray, List.set_cons_zero, List.set_cons_succ]
              clear z0 z1 z2 z3 f0 f1 f2 f3
              refine wpAnyH_ready (rs := [14]) (by kernel_rfl) (by simp) ?_
              refine AllReadyH.cons rfl (fun K hK => ?_) AllReadyH.nil
              go_simp
              refine hK.out _ _ ?_ (fun hHeld2 => ?_)
              · (intro b o hb; subst hb; rw [World.cell?_setCell_other _ _ _ _ (by simp <;> omega), World.cell?_setCell_other _ _ _ _ (by simp <;> omega), World.cell?_setCell_other _ _ _ _ (by simp <;> omega), World.cell?_setCell_other _ _ _ _ (by simp <;> omega)]; exact (unhide HTA).cell hs3 (by show ¬ w2.heap.size = r; omega))
              clear hK K
              have hHeld := hHeld2
              clear hHeld2
              try simp only [Act.put, List.setIfInBounds_toArray, List.set_cons_zero, List.set_cons_succ]
              refine wpAnyH_done (by kernel_rfl) ?_ _
              obtain ⟨W5, hW5⟩ : ∃ W5, W5 = set4B wA w.heap.size (.slice a2 n2 c2) (.slice ma2 mn2 mc2) (.int .i64 m.seq) (.int .i64 m.o) := ⟨_, rfl⟩
              have hY := (unhide HZW).store a2 n2 c2 ma2 mn2 mc2 m.seq m.o
              have hF := MbAt.stored (unhide HZW) (unhide HMW) (OffRow.above ((unhide HMW)).mine (by omega)) (.slice a2 n2 c2) (.slice ma2 mn2 mc2) (.int .i64 m.seq) (.int .i64 m.o)
              have hWB := set4B_below hWb (Nat.le_refl w.heap.size) (.slice a2 n2 c2) (.slice ma2 mn2 mc2) (.int .i64 m.seq) (.int .i64 m.o)
              rw [← hW5] at hY hF hWB
              obtain ⟨z0, z1, z2, z3⟩ := (unhide HZW).cells
              obtain ⟨f0, f1, f2, f3⟩ := (unhide HZW).free
              obtain ⟨v0, v1, v2, v3⟩ := hY.cells
              have HF := hide hF
              clear hY hF
              unfold set4B at hW5
              go_wp2
              try rw [← hW5]
              exact bodyPost_ret (v := .tuple #[.agg #[.slice a2 n2 c2, .slice ma2 mn2 mc2, .int .i64 m.seq, .int .i64 m.o], .int .i64 z, .string (strY k)]) (by simp [results, Tryz.results5, go_sem, v0, v1, v2, v3]) rfl ⟨a2, n2, c2, ma2, mn2, mc2, m, z, strY k, rfl, (unhide HF).lower (by omega), unhide HS2, unhide HYO, strY_size k, hWB⟩
            · go_simp
              refine hK.out _ _ ?_ (fun hHeld2 => ?_)
              · (intro b o hb; subst hb; rw [World.cell?_setCell_other _ _ _ _ (by simp <;> omega), World.cell?_setCell_other _ _ _ _ (by simp <;> omega), World.cell?_setCell_other _ _ _ _ (by simp <;> omega), World.cell?_setCell_other _ _ _ _ (by simp <;> omega)]; exact (unhide HTA).cell hs3 (by show ¬ w2.heap.size = r; omega))
              clear hK K
              have hHeld := hHeld2
              clear hHeld2
              try simp only [Act.put, List.setIfInBounds_toArray, List.set_cons_zero, List.set_cons_succ]
              refine wpAnyH_ready (rs := [11]) (by kernel_rfl) (by simp) ?_
              refine AllReadyH.cons rfl (fun K hK => ?_) AllReadyH.nil
              go_simp
              refine hK.out _ _ ?_ (fun hHeld2 => ?_)
              · (intro b o hb; subst hb; rw [World.cell?_setCell_other _ _ _ _ (by simp <;> omega), World.cell?_setCell_other _ _ _ _ (by simp <;> omega), World.cell?_setCell_other _ _ _ _ (by simp <;> omega), World.cell?_setCell_other _ _ _ _ (by simp <;> omega)]; exact (unhide HTA).cell hs3 (by show ¬ w2.heap.size = r; omega))
              clear hK K
              have hHeld := hHeld2
              clear hHeld2
              try simp only [Act.put, List.setIfInBounds_toArray, List.set_cons_zero, List.set_cons_succ]
              clear z0 z1 z2 z3 f0 f1 f2 f3
              refine wpAnyH_ready (rs := [14]) (by kernel_rfl) (by simp) ?_
              refine AllReadyH.cons rfl (fun K hK => ?_) AllReadyH.nil
              go_simp
              refine hK.out _ _ ?_ (fun hHeld2 => ?_)
              · (intro b o hb; subst hb; rw [World.cell?_setCell_other _ _ _ _ (by simp <;> omega), World.cell?_setCell_other _ _ _ _ (by simp <;> omega), World.cell?_setCell_other _ _ _ _ (by simp <;> omega), World.cell?_setCell_other _ _ _ _ (by simp <;> omega)]; exact (unhide HTA).cell hs3 (by show ¬ w2.heap.size = r; omega))
              clear hK K
              have hHeld := hHeld2
              clear hHeld2
              try simp only [Act.put, List.setIfInBounds_toArray, List.set_cons_zero, List.set_cons_succ]
              refine wpAnyH_done (by kernel_rfl) ?_ _
              obtain ⟨W5, hW5⟩ : ∃ W5, W5 = set4B wA w.heap.size (.slice a2 n2 c2) (.slice ma2 mn2 mc2) (.int .i64 m.seq) (.int .i64 m.o) := ⟨_, rfl⟩
              have hY := (unhide HZW).store a2 n2 c2 ma2 mn2 mc2 m.seq m.o
              have hF := MbAt.stored (unhide HZW) (unhide HMW) (OffRow.above ((unhide HMW)).mine (by omega)) (.slice a2 n2 c2) (.slice ma2 mn2 mc2) (.int .i64 m.seq) (.int .i64 m.o)
              have hWB := set4B_below hWb (Nat.le_refl w.heap.size) (.slice a2 n2 c2) (.slice ma2 mn2 mc2) (.int .i64 m.seq) (.int .i64 m.o)
              rw [← hW5] at hY hF hWB
              obtain ⟨z0, z1, z2, z3⟩ := (unhide HZW).cells
              obtain ⟨f0, f1, f2, f3⟩ := (unhide HZW).free
              obtain ⟨v0, v1, v2, v3⟩ := hY.cells
              have HF := hide hF
              clear hY hF
              unfold set4B at hW5
              go_wp2
              try rw [← hW5]
              exact bodyPost_ret (v := .tuple #[.agg #[.slice a2 n2 c2, .slice ma2 mn2 mc2, .int .i64 m.seq, .int .i64 m.o], .int .i64 z, .string (strY k)]) (by simp [results, Tryz.results5, go_sem, v0, v1, v2, v3]) rfl ⟨a2, n2, c2, ma2, mn2, mc2, m, z, strY k, rfl, (unhide HF).lower (by omega), unhide HS2, unhide HYO, strY_size k, hWB⟩
        · go_simp
          refine hK.out _ _ ?_ (fun hHeld2 => ?_)
          · (intro b o hb; subst hb; rw [World.cell?_setCell_other _ _ _ _ (by simp <;> omega), World.cell?_setCell_other _ _ _ _ (by simp <;> omega), World.cell?_setCell_other _ _ _ _ (by simp <;> omega), World.cell?_setCell_other _ _ _ _ (by simp <;> omega)]; exact (unhide HT5).cell hs3 (by show ¬ w2.heap.size = r; omega))
          clear hK K
          have hHeld := hHeld2
          clear hHeld2
          try simp only [Act.put, List.setIfInBounds_toArray, List.set_cons_zero, List.set_cons_succ]
          obtain ⟨w6, hw6⟩ : ∃ W5, W5 = set4B w5 w.heap.size (.slice a2 n2 c2) (.slice ma2 mn2 mc2) (.int .i64 m.seq) (.int .i64 m.o) := ⟨_, rfl⟩
          have hY := (unhide HZW).store a2 n2 c2 ma2 mn2 mc2 m.seq m.o
          have hF := MbAt.stored (unhide HZW) (unhide HMW) (OffRow.above ((unhide HMW)).mine (by omega)) (.slice a2 n2 c2) (.slice ma2 mn2 mc2) (.int .i64 m.seq) (.int .i64 m.o)
          have hWB := set4B_below hWb (Nat.le_refl w.heap.size) (.slice a2 n2 c2) (.slice ma2 mn2 mc2) (.int .i64 m.seq) (.int .i64 m.o)
          have hz6 := set4B_size w5 w.heap.size (.slice a2 n2 c2) (.slice ma2 mn2 mc2) (.int .i64 m.seq) (.int .i64 m.o)
          have hT6 := set4B_touch w5 w.heap.size (.slice a2 n2 c2) (.slice ma2 mn2 mc2) (.int .i64 m.seq) (.int .i64 m.o)
          rw [← hw6] at hY hF hWB hz6 hT6
          have h25 : w2.heap.size < w5.heap.size := Nat.lt_of_lt_of_le hs3 (unhide HT5).size
          have hl26 : w2.heap.size < w6.heap.size := by omega
          have hr26 : r < w6.heap.size := by have := (unhide HR5).lt; omega
          have HS6 : Hid (∀ o, w6.cell? ⟨w2.heap.size, o, none⟩ = w3.cell? ⟨w2.heap.size, o, none⟩) := fun o => (hT6.cell h25 (by show ¬ w2.heap.size = w.heap.size; omega)).trans ((unhide HT5).cell hs3 (by show ¬ w2.heap.size = r; omega))
          have HY6 := hide hY
          have HF6 := hide hF
          have HWB6 := hide hWB
          have hlw6 := hY.lt
          clear hY hF hWB hz6 hT6 z0 z1 z2 z3 f0 f1 f2 f3 hlw hWb HZW HMW h25
          unfold set4B at hw6
          rw [← hw6]
          clear hw6
          refine wpAnyH_ready (rs := [7, 13]) (by kernel_rfl) (by simp) ?_
          refine AllReadyH.cons rfl (fun K hK => ?_) (AllReadyH.cons rfl (fun K hK => ?_) AllReadyH.nil)
          · go_simp
            obtain ⟨wA, hwA⟩ : ∃ wA, wA = w6.alloc (.cells #[.string ⟨#[97, 98, 99, 100]⟩, .string ⟨#[97, 98, 99]⟩, .string ⟨#[97, 98, 99, 100, 101]⟩] 9) := ⟨_, rfl⟩
            rw [← hwA]
            have hBA : Below w6.heap.size w6 wA := by rw [hwA]; exact (Below.refl _ _).alloc (Nat.le_refl _) _
            have HYA := hide ((unhide HY6).below hBA hlw6)
            have HFA := hide ((unhide HF6).below hBA)
            have HWA := hide ((unhide HWB6).trans (hBA.mono (Nat.le_of_lt hlw6)))
            have HS6A : Hid (∀ o, wA.cell? ⟨w2.heap.size, o, none⟩ = w3.cell? ⟨w2.heap.size, o, none⟩) := fun o => ((Touch.of_below (S := (· = r)) hBA).cell hl26 (by show ¬ w2.heap.size = r; omega)).trans (unhide HS6 o)
            obtain ⟨gA, hgA⟩ : ∃ gA, gA = w6.heap.size := ⟨_, rfl⟩
            have hrg : r < gA := by rw [hgA]; exact hr26
            have hgw : gA ≠ w.heap.size := by omega
            have hgw2 : w.heap.size ≠ gA := by omega
            have hst : wA.cell? ⟨gA, k, none⟩ = some (.string (strY k)) := by rw [hwA, hgA]; exact strY_new w6 _ k hk3
            have hgl : gA < wA.heap.size := by rw [hwA, hgA]; simp
            rw [← hgA]
            clear hwA hBA hgA HS6 HY6 HF6 HWB6 hl26 hr26 hlw6
            refine hK.out _ _ ?_ (fun hHeld2 => ?_)
            · (intro b o hb; subst hb; exact unhide HS6A o)
            clear hK K
            have hHeld := hHeld2
            clear hHeld2
            try simp only [Act.put, List.setIfInBounds_toArray, List.set_cons_zero, List.set_cons_succ]
            refine wpAnyH_take (i := 10) (v := .pointer (some ⟨gA, k, none⟩)) rfl (by kernel_rfl) (by kernel_rfl) (by kernel_rfl) (fun _ _ _ h => h) (Or.inl ⟨by rfl, ?_⟩) hHeld ?_
            · (intro W hSW; go_simp)
            simp only [Act.put, List.setIfInBounds_toArray, List.set_cons_zero, List.set_cons_succ]
            refine wpAnyH_ready (rs := [11, 13]) (by kernel_rfl) (by simp) ?_
            refine AllReadyH.cons rfl (fun K hK => ?_) (AllReadyH.cons rfl (fun K hK => ?_) AllReadyH.nil)
            · go_simp
              refine hK.out _ _ ?_ (fun hHeld2 => ?_)
              · (intro b o hb; subst hb; exact unhide HS6A o)
              clear hK K
              have hHeld := hHeld2
              clear hHeld2
              try simp only [Act.put, List.setIfInBounds_toArray, List.set_cons_zero, List.set_cons_succ]
              refine wpAnyH_ready (rs := [13]) (by kernel_rfl) (by simp) ?_
              refine AllReadyH.cons rfl (fun K hK => ?_) AllReadyH.nil
              go_simp
              refine hK.out _ _ ?_ (fun hHeld2 => ?_)
              · (intro b o hb; subst hb; exact unhide HS6A o)
              clear hK K
              have hHeld := hHeld2
              clear hHeld2
              try simp only [Act.put, List.setIfInBounds_toArray, List.set_cons_zero, List.set_cons_succ]
              refine wpAnyH_ready (rs := [14]) (by kernel_rfl) (by simp) ?_
              refine AllReadyH.cons rfl (fun K hK => ?_) AllReadyH.nil
              go_simp
              refine hK.out _ _ ?_ (fun hHeld2 => ?_)
              · (intro b o hb; subst hb; exact unhide HS6A o)
              clear hK K
              have hHeld := hHeld2
              clear hHeld2
              try simp only [Act.put, List.setIfInBounds_toArray, List.set_cons_zero, List.set_cons_succ]
              refine wpAnyH_done (by kernel_rfl) ?_ _
              obtain ⟨v0, v1, v2, v3⟩ := (unhide HYA).cells
              go_wp2
              exact bodyPost_ret (v := .tuple #[.agg #[.slice a2 n2 c2, .slice ma2 mn2 mc2, .int .i64 m.seq, .int .i64 m.o], .int .i64 z, .string (strY k)]) (by simp [results, Tryz.results5, go_sem, v0, v1, v2, v3]) rfl ⟨a2, n2, c2, ma2, mn2, mc2, m, z, strY k, rfl, (unhide HFA).lower (by omega), unhide HS2, unhide HYO, strY_size k, unhide HWA⟩
            · go_simp
              refine hK.out _ _ ?_ (fun hHeld2 => ?_)
              · (intro b o hb; subst hb; exact unhide HS6A o)
              clear hK K
              have hHeld := hHeld2
              clear hHeld2
              try simp only [Act.put, List.setIfInBounds_toArray, List.set_cons_zero, List.set_cons_succ]
              refine wpAnyH_ready (rs := [11]) (by kernel_rfl) (by simp) ?_
              refine AllReadyH.cons rfl (fun K hK => ?_) AllReadyH.nil
              go_simp
              refine hK.out _ _ ?_ (fun hHeld2 => ?_)
              · (intro b o hb; subst hb; exact unhide HS6A o)
              clear hK K
              have hHeld := hHeld2
              clear hHeld2
              try simp only [Act.put, List.setIfInBounds_toArray, List.set_cons_zero, List.set_cons_succ]
              refine wpAnyH_ready (rs := [14]) (by kernel_rfl) (by simp) ?_
              refine AllReadyH.cons rfl (fun K hK => ?_) AllReadyH.nil
              go_simp
              refine hK.out _ _ ?_ (fun hHeld2 => ?_)
              · (intro b o hb; subst hb; exact unhide HS6A o)
              clear hK K
              have hHeld := hHeld2
              clear hHeld2
              try simp only [Act.put, List.setIfInBounds_toArray, List.set_cons_zero, List.set_cons_succ]
              refine wpAnyH_done (by kernel_rfl) ?_ _
              obtain ⟨v0, v1, v2, v3⟩ := (unhide HYA).cells
              go_wp2
              exact bodyPost_ret (v := .tuple #[.agg #[.slice a2 n2 c2, .slice ma2 mn2 mc2, .int .i64 m.seq, .int .i64 m.o], .int .i64 z, .string (strY k)]) (by simp [results, Tryz.results5, go_sem, v0, v1, v2, v3]) rfl ⟨a2, n2, c2, ma2, mn2, mc2, m, z, strY k, rfl, (unhide HFA).lower (by omega), unhide HS2, unhide HYO, strY_size k, unhide HWA⟩
          · go_simp
            refine hK.out _ _ ?_ (fun hHeld2 => ?_)
            · (intro b o hb; subst hb; exact unhide HS6 o)
            clear hK K
            have hHeld := hHeld2
            clear hHeld2
            try simp only [Act.put, List.setIfInBounds_toArray, List.set_cons_zero, List.set_cons_succ]
            refine wpAnyH_ready (rs := [7]) (by kernel_rfl) (by simp) ?_
            refine AllReadyH.cons rfl (fun K hK => ?_) AllReadyH.nil
            go_simp
            obtain ⟨wA, hwA⟩ : ∃ wA, wA = w6.alloc (.cells #[.string ⟨#[97, 98, 99, 100]⟩, .string ⟨#[97, 98, 99]⟩, .string ⟨#[97, 98, 99, 100, 101]⟩] 9) := ⟨_, rfl⟩
            rw [← hwA]
            have hBA : Below w6.heap.size w6 wA := by rw [hwA]; exact (Below.refl _ _).alloc (Nat.le_refl _) _
            have HYA := hide ((unhide HY6).below hBA hlw6)
            have HFA := hide ((unhide HF6).below hBA)
            have HWA := hide ((unhide HWB6).trans (hBA.mono (Nat.le_of_lt hlw6)))
            have HS6A : Hid (∀ o, wA.cell? ⟨w2.heap.size, o, none⟩ = w3.cell? ⟨w2.heap.size, o, none⟩) := fun o => ((Touch.of_below (S := (· = r)) hBA).cell hl26 (by show ¬ w2.heap.size = r; omega)).trans (unhide HS6 o)
            obtain ⟨gA, hgA⟩ : ∃ gA, gA = w6.heap.size := ⟨_, rfl⟩
            have hrg : r < gA := by rw [hgA]; exact hr26
            have hgw : gA ≠ w.heap.size := by omega
            have hgw2 : w.heap.size ≠ gA := by omega
            have hst : wA.cell? ⟨gA, k, none⟩ = some (.string (strY k)) := by rw [hwA, hgA]; exact strY_new w6 _ k hk3
            have hgl : gA < wA.heap.size := by rw [hwA, hgA]; simp
            rw [← hgA]
            clear hwA hBA hgA HS6 HY6 HF6 HWB6 hl26 hr26 hlw6
            refine hK.out _ _ ?_ (fun hHeld2 => ?_)
            · (intro b o hb; subst hb; exact unhide HS6A o)
            clear hK K
            have hHeld := hHeld2
            clear hHeld2
            try simp only [Act.put, List.setIfInBounds_toArray, List.set_cons_zero, List.set_cons_succ]
            refine wpAnyH_take (i := 10) (v := .pointer (some ⟨gA, k, none⟩)) rfl (by kernel_rfl) (by kernel_rfl) (by kernel_rfl) (fun _ _ _ h => h) (Or.inl ⟨by rfl, ?_⟩) hHeld ?_
            · (intro W hSW; go_simp)
            simp only [Act.put, List.setIfInBounds_toArray, List.set_cons_zero, List.set_cons_succ]
            refine wpAnyH_ready (rs := [11]) (by kernel_rfl) (by simp) ?_
            refine AllReadyH.cons rfl (fun K hK => ?_) AllReadyH.nil
            go_simp
            refine hK.out _ _ ?_ (fun hHeld2 => ?_)
            · (intro b o hb; subst hb; exact unhide HS6A o)
            clear hK K
            have hHeld := hHeld2
            clear hHeld2
            try simp only [Act.put, List.setIfInBounds_toArray, List.set_cons_zero, List.set_cons_succ]
            refine wpAnyH_ready (rs := [14]) (by kernel_rfl) (by simp) ?_
            refine AllReadyH.cons rfl (fun K hK => ?_) AllReadyH.nil
            go_simp
            refine hK.out _ _ ?_ (fun hHeld2 => ?_)
            · (intro b o hb; subst hb; exact unhide HS6A o)
            clear hK K
            have hHeld := hHeld2
            clear hHeld2
            try simp only [Act.put, List.setIfInBounds_toArray, List.set_cons_zero, List.set_cons_succ]
            refine wpAnyH_done (by kernel_rfl) ?_ _
            obtain ⟨v0, v1, v2, v3⟩ := (unhide HYA).cells
            go_wp2
            exact bodyPost_ret (v := .tuple #[.agg #[.slice a2 n2 c2, .slice ma2 mn2 mc2, .int .i64 m.seq, .int .i64 m.o], .int .i64 z, .string (strY k)]) (by simp [results, Tryz.results5, go_sem, v0, v1, v2, v3]) rfl ⟨a2, n2, c2, ma2, mn2, mc2, m, z, strY k, rfl, (unhide HFA).lower (by omega), unhide HS2, unhide HYO, strY_size k, unhide HWA⟩
    · go_simp
      obtain ⟨wA, hwA⟩ : ∃ wA, wA = w3.alloc (.cells #[.string ⟨#[97, 98, 99, 100]⟩, .string ⟨#[97, 98, 99]⟩, .string ⟨#[97, 98, 99, 100, 101]⟩] 9) := ⟨_, rfl⟩
      rw [← hwA]
      have hBA : Below w3.heap.size w3 wA := by rw [hwA]; exact (Below.refl _ _).alloc (Nat.le_refl _) _
      have HTA : Hid (Touch (· = r) w3 wA) := (Touch.refl (· = r) w3).trans (Touch.of_below hBA)
      have HRA : Hid (RdAt wA r) := (unhide HR3).below hBA
      obtain ⟨gA, hgA⟩ : ∃ gA, gA = w3.heap.size := ⟨_, rfl⟩
      have hrg : r < gA := by rw [hgA]; exact (unhide HR3).lt
      have HSA : Hid (∀ k, k < 3 → wA.cell? ⟨gA, k, none⟩ = some (.string (strY k))) := fun k hk => by rw [hwA, hgA]; exact strY_new w3 _ k hk
      have hgl : gA < wA.heap.size := by rw [hwA, hgA]; simp
      rw [← hgA]
      clear hwA hBA hgA
      refine hK.out _ _ ?_ (fun hHeld2 => ?_)
      · (intro b o hb; subst hb; exact (unhide HTA).cell hs3 (by show ¬ w2.heap.size = r; omega))
      clear hK K
      have hHeld := hHeld2
      clear hHeld2
      try simp only [Act.put, List.setIfInBounds_toArray, List.set_cons_zero, List.set_cons_succ]
      refine wpAnyH_ready (rs := [6]) (by kernel_rfl) (by simp) ?_
      refine AllReadyH.cons rfl (fun K hK => ?_) AllReadyH.nil
      go_simp
      try rw [unhide HWR]
      refine (off2_any r 0 ((mn2 : Int) - 1) wA.drew (unhide HRA) (by omega) (by omega) (by omega) (by omega)).mono ?_
      rintro e w4 ⟨z, rfl, hR4, hT4⟩
      have HT4 : Hid (Touch (· = r) w3 w4) := ((unhide HTA).drew).trans hT4
      have HR4 := hide hR4
      have HS4 : Hid (∀ k, k < 3 → w4.cell? ⟨gA, k, none⟩ = some (.string (strY k))) := fun k hk => (hT4.cell hgl (by show ¬ gA = r; omega)).trans (unhide HSA k hk)
      have hg4 : gA < w4.heap.size := Nat.lt_of_lt_of_le hgl hT4.size
      clear hR4 hT4
      try go_wp2_with fail
      refine hK.out _ _ ?_ (fun hHeld2 => ?_)
      · (intro b o hb; subst hb; exact (unhide HT4).cell hs3 (by show ¬ w2.heap.size = r; omega))
      clear hK K
      have hHeld := hHeld2
      clear hHeld2
      try simp only [Act.put, List.setIfInBounds_toArray, List.set_cons_zero, List.set_cons_succ]
      refine wpAnyH_ready (rs := [9]) (by kernel_rfl) (by simp) ?_
      refine AllReadyH.cons rfl (fun K hK => ?_) AllReadyH.nil
      go_simp
      refine (below_any r 3 w4 (unhide HR4) (by omega) (by omega)).mono ?_
      rintro e w5 ⟨y, rfl, hy0, hy1, hR5, hT5⟩
      obtain ⟨k, rfl⟩ := Int.eq_ofNat_of_zero_le hy0
      have hk3 : k < 3 := by omega
      have hki : (k : Int) < 3 := by omega
      have HT5 : Hid (Touch (· = r) w3 w5) := (unhide HT4).trans hT5
      have HR5 := hide hR5
      have hst : w5.cell? ⟨gA, k, none⟩ = some (.string (strY k)) := (hT5.cell hg4 (by show ¬ gA = r; omega)).trans (unhide HS4 k hk3)
      clear hR5 hT5 hy0 hy1
      try go_wp2_with fail
      refine hK.out _ _ ?_ (fun hHeld2 => ?_)
      · (intro b o hb; subst hb; exact (unhide HT5).cell hs3 (by show ¬ w2.heap.size = r; omega))
      clear hK K
      have hHeld := hHeld2
      clear hHeld2
      try simp only [Act.put, List.setIfInBounds_toArray, List.set_cons_zero, List.set_cons_succ]
      refine wpAnyH_take (i := 10) (v := .pointer (some ⟨gA, k, none⟩)) rfl (by kernel_rfl) (by kernel_rfl) (by kernel_rfl) (fun _ _ _ h => h) (Or.inl ⟨by rfl, ?_⟩) hHeld ?_
      · (intro W hSW; go_simp)
      simp only [Act.put, List.setIfInBounds_toArray, List.set_cons_zero, List.set_cons_succ]
      have HZW := hide ((unhide HZ3).touch (unhide HT5) (by omega))
      have HMW := hide ((unhide HM3).drawn (unhide HR3) (by omega) (unhide HT5))
      have hWb : Below w.heap.size w w5 := hW3.trans ((unhide HT5).below hW3.size fun k hk => by subst hk; omega)
      have hlw : w.heap.size < w5.heap.size := (unhide HZW).lt
      obtain ⟨z0, z1, z2, z3⟩ := (unhide HZW).cells
      obtain ⟨f0, f1, f2, f3⟩ := (unhide HZW).free
      have hgw : gA ≠ w.heap.size := by omega
      have hgw2 : w.heap.size ≠ gA := by omega
      refine wpAnyH_ready (rs := [11, 12]) (by kernel_rfl) (by simp) ?_
      refine AllReadyH.cons rfl (fun K hK => ?_) (AllReadyH.cons rfl (fun K hK => ?_) AllReadyH.nil)
      · go_simp
        refine hK.out _ _ ?_ (fun hHeld2 => ?_)
        · (intro b o hb; subst hb; exact (unhide HT5).cell hs3 (by show ¬ w2.heap.size = r; omega))
        clear hK K
        have hHeld := hHeld2
        clear hHeld2
        try simp only [Act.put, List.setIfInBounds_toArray, List.set_cons_zero, List.set_cons_succ]
        refine wpAnyH_ready (rs := [12]) (by kernel_rfl) (by simp) ?_
        refine AllReadyH.cons rfl (fun K hK => ?_) AllReadyH.nil
        go_simp
        refine hK.out _ _ ?_ (fun hHeld2 => ?_)
        · (intro b o hb; subst hb; rw [World.cell?_setCell_other _ _ _ _ (by simp <;> omega), World.cell?_setCell_other _ _ _ _ (by simp <;> omega), World.cell?_setCell_other _ _ _ _ (by simp <;> omega), World.cell?_setCell_other _ _ _ _ (by simp <;> omega)]; exact (unhide HT5).cell hs3 (by show ¬ w2.heap.size = r; omega))
        clear hK K
        have hHeld := hHeld2
        clear hHeld2
        try simp only [Act.put, List.setIfInBounds_toArray, List.set_cons_zero, List.set_cons_succ]
        clear z0 z1 z2 z3 f0 f1 f2 f3
        refine wpAnyH_ready (rs := [13]) (by kernel_rfl) (by simp) ?_
        refine AllReadyH.cons rfl (fun K hK => ?_) AllReadyH.nil
        go_simp
        refine hK.out _ _ ?_ (fun hHeld2 => ?_)
        · (intro b o hb; subst hb; rw [World.cell?_setCell_other _ _ _ _ (by simp <;> omega), World.cell?_setCell_other _ _ _ _ (by simp <;> omega), World.cell?_setCell_other _ _ _ _ (by simp <;> omega), World.cell?_setCell_other _ _ _ _ (by simp <;> omega)]; exact (unhide HT5).cell hs3 (by show ¬ w2.heap.size = r; omega))
        clear hK K
        have hHeld := hHeld2
        clear hHeld2
        try simp only [Act.put, List.setIfInBounds_toArray, List.set_cons_zero, List.set_cons_succ]
        refine wpAnyH_ready (rs := [14]) (by kernel_rfl) (by simp) ?_
        refine AllReadyH.cons rfl (fun K hK => ?_) AllReadyH.nil
        go_simp
        refine hK.out _ _ ?_ (fun hHeld2 => ?_)
        · (intro b o hb; subst hb; rw [World.cell?_setCell_other _ _ _ _ (by simp <;> omega), World.cell?_setCell_other _ _ _ _ (by simp <;> omega), World.cell?_setCell_other _ _ _ _ (by simp <;> omega), World.cell?_setCell_other _ _ _ _ (by simp <;> omega)]; exact (unhide HT5).cell hs3 (by show ¬ w2.heap.size = r; omega))
        clear hK K
        have hHeld := hHeld2
        clear hHeld2
        try simp only [Act.put, List.setIfInBounds_toArray, List.set_cons_zero, List.set_cons_succ]
        refine wpAnyH_done (by kernel_rfl) ?_ _
        obtain ⟨W5, hW5⟩ : ∃ W5, W5 = set4B w5 w.heap.size (.slice a2 n2 c2) (.slice ma2 mn2 mc2) (.int .i64 m.seq) (.int .i64 m.o) := ⟨_, rfl⟩
        have hY := (unhide HZW).store a2 n2 c2 ma2 mn2 mc2 m.seq m.o
        have hF := MbAt.stored (unhide HZW) (unhide HMW) (OffRow.above ((unhide HMW)).mine (by omega)) (.slice a2 n2 c2) (.slice ma2 mn2 mc2) (.int .i64 m.seq) (.int .i64 m.o)
        have hWB := set4B_below hWb (Nat.le_refl w.heap.size) (.slice a2 n2 c2) (.slice ma2 mn2 mc2) (.int .i64 m.seq) (.int .i64 m.o)
        rw [← hW5] at hY hF hWB
        obtain ⟨z0, z1, z2, z3⟩ := (unhide HZW).cells
        obtain ⟨f0, f1, f2, f3⟩ := (unhide HZW).free
        obtain ⟨v0, v1, v2, v3⟩ := hY.cells
        have HF := hide hF
        clear hY hF
        unfold set4B at hW5
        go_wp2
        try rw [← hW5]
        exact bodyPost_ret (v := .tuple #[.agg #[.slice a2 n2 c2, .slice ma2 mn2 mc2, .int .i64 m.seq, .int .i64 m.o], .int .i64 z, .string (strY k)]) (by simp [results, Tryz.results5, go_sem, v0, v1, v2, v3]) rfl ⟨a2, n2, c2, ma2, mn2, mc2, m, z, strY k, rfl, (unhide HF).lower (by omega), unhide HS2, unhide HYO, strY_size k, hWB⟩
      · go_simp
        refine hK.out _ _ ?_ (fun hHeld2 => ?_)
        · (intro b o hb; subst hb; rw [World.cell?_setCell_other _ _ _ _ (by simp <;> omega), World.cell?_setCell_other _ _ _ _ (by simp <;> omega), World.cell?_setCell_other _ _ _ _ (by simp <;> omega), World.cell?_setCell_other _ _ _ _ (by simp <;> omega)]; exact (unhide HT5).cell hs3 (by show ¬ w2.heap.size = r; omega))
        clear hK K
        have hHeld := hHeld2
        clear hHeld2
        try simp only [Act.put, List.setIfInBounds_toArray, List.set_cons_zero, List.set_cons_succ]
        refine wpAnyH_ready (rs := [11, 13]) (by kernel_rfl) (by simp) ?_
        refine AllReadyH.cons rfl (fun K hK => ?_) (AllReadyH.cons rfl (fun K hK => ?_) AllReadyH.nil)
        · go_simp
          refine hK.out _ _ ?_ (fun hHeld2 => ?_)
          · (intro b o hb; subst hb; rw [World.cell?_setCell_other _ _ _ _ (by simp <;> omega), World.cell?_setCell_other _ _ _ _ (by simp <;> omega), World.cell?_setCell_other _ _ _ _ (by simp <;> omega), World.cell?_setCell_other _ _ _ _ (by simp <;> omega)]; exact (unhide HT5).cell hs3 (by show ¬ w2.heap.size = r; omega))
          clear hK K
          have hHeld := hHeld2
          clear hHeld2
          try simp only [Act.put, List.setIfInBounds_toArray, List.set_cons_zero, List.set_cons_succ]
          refine wpAnyH_ready (rs := [13]) (by kernel_rfl) (by simp) ?_
          refine AllReadyH.cons rfl (fun K hK => ?_) AllReadyH.nil
          go_simp
          refine hK.out _ _ ?_ (fun hHeld2 => ?_)
          · (intro b o hb; subst hb; rw [World.cell?_setCell_other _ _ _ _ (by simp <;> omega), World.cell?_setCell_other _ _ _ _ (by simp <;> omega), World.cell?_setCell_other _ _ _ _ (by simp <;> omega), World.cell?_setCell_other _ _ _ _ (by simp <;> omega)]; exact (unhide HT5).cell hs3 (by show ¬ w2.heap.size = r; omega))
          clear hK K
          have hHeld := hHeld2
          clear hHeld2
          try simp only [Act.put, List.setIfInBounds_toArray, List.set_cons_zero, List.set_cons_succ]
          clear z0 z1 z2 z3 f0 f1 f2 f3
          refine wpAnyH_ready (rs := [14]) (by kernel_rfl) (by simp) ?_
          refine AllReadyH.cons rfl (fun K hK => ?_) AllReadyH.nil
          go_simp
          refine hK.out _ _ ?_ (fun hHeld2 => ?_)
          · (intro b o hb; subst hb; rw [World.cell?_setCell_other _ _ _ _ (by simp <;> omega), World.cell?_setCell_other _ _ _ _ (by simp <;> omega), World.cell?_setCell_other _ _ _ _ (by simp <;> omega), World.cell?_setCell_other _ _ _ _ (by simp <;> omega)]; exact (unhide HT5).cell hs3 (by show ¬ w2.heap.size = r; omega))
          clear hK K
          have hHeld := hHeld2
          clear hHeld2
          try simp only [Act.put, List.setIfInBounds_toArray, List.set_cons_zero, List.set_cons_succ]
          refine wpAnyH_done (by kernel_rfl) ?_ _
          obtain ⟨W5, hW5⟩ : ∃ W5, W5 = set4B w5 w.heap.size (.slice a2 n2 c2) (.slice ma2 mn2 mc2) (.int .i64 m.seq) (.int .i64 m.o) := ⟨_, rfl⟩
          have hY := (unhide HZW).store a2 n2 c2 ma2 mn2 mc2 m.seq m.o
          have hF := MbAt.stored (unhide HZW) (unhide HMW) (OffRow.above ((unhide HMW)).mine (by omega)) (.slice a2 n2 c2) (.slice ma2 mn2 mc2) (.int .i64 m.seq) (.int .i64 m.o)
          have hWB := set4B_below hWb (Nat.le_refl w.heap.size) (.slice a2 n2 c2) (.slice ma2 mn2 mc2) (.int .i64 m.seq) (.int .i64 m.o)
          rw [← hW5] at hY hF hWB
          obtain ⟨z0, z1, z2, z3⟩ := (unhide HZW).cells
          obtain ⟨f0, f1, f2, f3⟩ := (unhide HZW).free
          obtain ⟨v0, v1, v2, v3⟩ := hY.cells
          have HF := hide hF
          clear hY hF
          unfold set4B at hW5
          go_wp2
          try rw [← hW5]
          exact bodyPost_ret (v := .tuple #[.agg #[.slice a2 n2 c2, .slice ma2 mn2 mc2, .int .i64 m.seq, .int .i64 m.o], .int .i64 z, .string (strY k)]) (by simp [results, Tryz.results5, go_sem, v0, v1, v2, v3]) rfl ⟨a2, n2, c2, ma2, mn2, mc2, m, z, strY k, rfl, (unhide HF).lower (by omega), unhide HS2, unhide HYO, strY_size k, hWB⟩
        · go_simp
          refine hK.out _ _ ?_ (fun hHeld2 => ?_)
          · (intro b o hb; subst hb; rw [World.cell?_setCell_other _ _ _ _ (by simp <;> omega), World.cell?_setCell_other _ _ _ _ (by simp <;> omega), World.cell?_setCell_other _ _ _ _ (by simp <;> omega), World.cell?_setCell_other _ _ _ _ (by simp <;> omega)]; exact (unhide HT5).cell hs3 (by show ¬ w2.heap.size = r; omega))
          clear hK K
          have hHeld := hHeld2
          clear hHeld2
          try simp only [Act.put, List.setIfInBounds_toArray, List.set_cons_zero, List.set_cons_succ]
          refine wpAnyH_ready (rs := [11]) (by kernel_rfl) (by simp) ?_
          refine AllReadyH.cons rfl (fun K hK => ?_) AllReadyH.nil
          go_simp
          refine hK.out _ _ ?_ (fun hHeld2 => ?_)
          · (intro b o hb; subst hb; rw [World.cell?_setCell_other _ _ _ _ (by simp <;> omega), World.cell?_setCell_other _ _ _ _ (by simp <;> omega), World.cell?_setCell_other _ _ _ _ (by simp <;> omega), World.cell?_setCell_other _ _ _ _ (by simp <;> omega)]; exact (unhide HT5).cell hs3 (by show ¬ w2.heap.size = r; omega))
          clear hK K
          have hHeld := hHeld2
          clear hHeld2
          try simp only [Act.put, List.setIfInBounds_toArray, List.set_cons_zero, List.set_cons_succ]
          clear z0 z1 z2 z3 f0 f1 f2 f3
          refine wpAnyH_ready (rs := [14]) (by kernel_rfl) (by simp) ?_
          refine AllReadyH.cons rfl (fun K hK => ?_) AllReadyH.nil
          go_simp
          refine hK.out _ _ ?_ (fun hHeld2 => ?_)
          · (intro b o hb; subst hb; rw [World.cell?_setCell_other _ _ _ _ (by simp <;> omega), World.cell?_setCell_other _ _ _ _ (by simp <;> omega), World.cell?_setCell_other _ _ _ _ (by simp <;> omega), World.cell?_setCell_other _ _ _ _ (by simp <;> omega)]; exact (unhide HT5).cell hs3 (by show ¬ w2.heap.size = r; omega))
          clear hK K
          have hHeld := hHeld2
          clear hHeld2
          try simp only [Act.put, List.setIfInBounds_toArray, List.set_cons_zero, List.set_cons_succ]
          refine wpAnyH_done (by kernel_rfl) ?_ _
          obtain ⟨W5, hW5⟩ : ∃ W5, W5 = set4B w5 w.heap.size (.slice a2 n2 c2) (.slice ma2 mn2 mc2) (.int .i64 m.seq) (.int .i64 m.o) := ⟨_, rfl⟩
          have hY := (unhide HZW).store a2 n2 c2 ma2 mn2 mc2 m.seq m.o
          have hF := MbAt.stored (unhide HZW) (unhide HMW) (OffRow.above ((unhide HMW)).mine (by omega)) (.slice a2 n2 c2) (.slice ma2 mn2 mc2) (.int .i64 m.seq) (.int .i64 m.o)
          have hWB := set4B_below hWb (Nat.le_refl w.heap.size) (.slice a2 n2 c2) (.slice ma2 mn2 mc2) (.int .i64 m.seq) (.int .i64 m.o)
          rw [← hW5] at hY hF hWB
          obtain ⟨z0, z1, z2, z3⟩ := (unhide HZW).cells
          obtain ⟨f0, f1, f2, f3⟩ := (unhide HZW).free
          obtain ⟨v0, v1, v2, v3⟩ := hY.cells
          have HF := hide hF
          clear hY hF
          unfold set4B at hW5
          go_wp2
          try rw [← hW5]
          exact bodyPost_ret (v := .tuple #[.agg #[.slice a2 n2 c2, .slice ma2 mn2 mc2, .int .i64 m.seq, .int .i64 m.o], .int .i64 z, .string (strY k)]) (by simp [results, Tryz.results5, go_sem, v0, v1, v2, v3]) rfl ⟨a2, n2, c2, ma2, mn2, mc2, m, z, strY k, rfl, (unhide HF).lower (by omega), unhide HS2, unhide HYO, strY_size k, hWB⟩

end Go.Proofs.YtjgcjeaplckbbaaGreat

/- The model's new chip, with where its rows lie. -/
namespace Go.Proofs.YtjgcjeaplckbbaaGreat
open Go.RowKit
set_option linter.unusedVariables false
set_option linter.unusedSimpArgs false

set_option maxRecDepth 100000 in
set_option maxHeartbeats 1000000 in
theorem specChipNew_soft (n : Nat) (w : World) (h1 : 4 ≤ n) (h2 : n ≤ 12) :
    Calls Tryz.prog 71 #[.int .i64 n] w fun e w' => ∃ a c, e = .returned (.tuple #[.agg #[.slice a n c], .bool true]) ∧ ChipS (fun k => w.heap.size ≤ k ∧ k < w'.heap.size) w' a (List.replicate n zeroBk) ∧ Below w.heap.size w w' := by
  go_enter Tryz.func71, Tryz.ntmps71
  go_wp2_with fail
  refine (l1In_any _ _ _ _).mono ?_
  rintro e w1 ⟨rfl, rfl⟩
  have hd : decide (4 ≤ (n : Int) ∧ (n : Int) ≤ 12) = true := by simp; omega
  rw [hd]
  go_wp2
  go_loopw [5] (fun i wr => ∃ (k : Nat) (v : Value) (Q C : Nat → Nat), k ≤ n ∧ i = .int .i64 k ∧ wr.heap[w.heap.size + 1]? = some (.cells #[v] 26 (0, 0)) ∧ SpecBlocks wr 108 51 (w.heap.size + 2) v Q C (List.replicate k zeroBk) ∧ Below (w.heap.size + 1) (w.alloc (.cells #[.slice none 0 0] 26)) wr ∧ w.heap.size + 2 ≤ wr.heap.size) (fun i _ => n - (intOf i).toNat)
  case atStart =>
    refine ⟨0, .slice none 0 0, fun _ => 0, fun _ => 0, Nat.zero_le _, rfl, ?_, SpecBlocks.nil _ _ _ _ _ _, ?_, by simp⟩
    · exact heap_alloc2_new _ _ _
    · exact (Below.refl _ _).alloc (by simp) _
  case round =>
    obtain ⟨k, v, Q, C, hk, rfl, hv, hS, hB, hsz⟩ := hrel
    by_cases hlt : k < n
    · have hcv := cell_of_one hv
      have hfv := free_of_one hv
      have hvl : w.heap.size + 1 < wr.heap.size := by omega
      have hne : some (w.heap.size + 1) ≠ v.ownBlock := fun e => by have := (hS.row.lt _ e.symm).1; omega
      have hR : wr.ownsRow (w.heap.size + 2) 108 2 v k (bkCells Q C 0 (List.replicate k zeroBk)) := by have := hS.row; rwa [List.length_replicate] at this
      have HS := hide hS
      clear hS
      obtain ⟨X, hX⟩ : ∃ X, X = bkCells Q C 0 (List.replicate k zeroBk) := ⟨_, rfl⟩
      rw [← hX] at hR
      have HX := hide hX
      clear hX
      obtain ⟨i0, hi, hz0, hz1, hz2⟩ := info_parts infoBlock
      have hvl0 : w.heap.size < wr.heap.size := by omega
      have hmk := make_pages4
      go_wp2
      go_region_law
        (first | (refine step_append_lies _ rfl (.tmp 17) (.tmp 20) 24 rfl (w.heap.size + 2) 108 i0 _ 2 32 Tryz.underlying24 hi hz0 hz1 hz2 rfl (by decide) v k X (by simp [Act.eval]) (by exact (hR.alloc _).alloc _) ⟨wr.heap.size + 1, 0, none⟩ 1 1 [.int .i64 0, .slice (some ⟨wr.heap.size, 0, none⟩) 4 4] (by simp [Act.eval]) rfl (World.news_of_block (cs := #[.int .i64 0, .slice (some ⟨wr.heap.size, 0, none⟩) 4 4]) (t := 108) (fr := (0, 0)) (by exact heap_alloc2_new _ _ _)) (by simp [Value.oneCell']) (by omega) (by unfold maxLen; omega) (by omega) (by simp; omega) (wr.heap.size + 1 + 1) (by simp) ?_; intro g cap w1 hown hgrow hat hlt1; have hk1 : w1.cell? ⟨w.heap.size + 1, 0, none⟩ = some v := (hgrow.cell_far ⟨w.heap.size + 1, 0, none⟩ (by simp; omega) hne).trans (by simp [*, frozen_alloc_lt, cell_alloc_lt, frozen_drew, cell_drew]); have hk2 : w1.frozen? ⟨w.heap.size + 1, 0, none⟩ = false := (hgrow.frozen_far ⟨w.heap.size + 1, 0, none⟩ (by simp; omega) hne).trans (by simp [*, frozen_alloc_lt, cell_alloc_lt, frozen_drew, cell_drew])))
      all_goals go_wp2
      all_goals
        go_roundw
        case rel =>
          rw [unhide HX] at hown
          obtain ⟨Q', C', h2⟩ := newStep (unhide HS) hsz hown hgrow hat
          have hbl : w1.heap[w.heap.size + 1]? = some (.cells #[v] 26 (0, 0)) := by
            rw [hgrow.block _ (by simp; omega) hne]
            show (((wr.heap.push _).push _))[w.heap.size + 1]? = _
            rw [Array.getElem?_push, if_neg (by simp; omega), Array.getElem?_push, if_neg (by omega)]
            exact hv
          have hsz1 := hgrow.size
          simp at hsz1
          refine ⟨k + 1, _, Q', C', by omega, by go_num, one_setCell hbl, h2.setLow (by show w.heap.size + 1 < w.heap.size + 2; omega) _, ?_, by simp [World.setCell]; omega⟩
          refine (Below.setCell ?_ (by simp) _)
          refine Below.grown (((hB.alloc (by omega) _).alloc (by simp; omega) _).drew) hgrow (by simp; omega) (fun j e => ?_)
          have := ((unhide HS).row.lt j e).1
          omega
        case measure => simp [intOf]; omega
    · have hk' : k = n := by omega
      subst hk'
      obtain ⟨a, c, rfl, hBA⟩ := hS.form
      have hcv := cell_of_one hv
      have hfv := free_of_one hv
      have hcell0 : wr.cell? ⟨w.heap.size, 0, none⟩ = some (.slice none 0 0) := by rw [hB.cell (p := ⟨w.heap.size, 0, none⟩) (by simp)]; simp
      have hfr0 : wr.frozen? ⟨w.heap.size, 0, none⟩ = false := by rw [hB.frozen (p := ⟨w.heap.size, 0, none⟩) (by simp)]; simp
      have HBA := hide hBA
      have HSS := hide hS
      clear hBA hS
      simp only [List.length_replicate] at hcv hv
      go_wp2
      refine bodyPost_ret (v := .tuple #[.agg #[.slice a k c], .bool true]) (by simp [results, Tryz.results71, go_sem, hcell0]) rfl ⟨a, c, rfl, ?_, ?_⟩
      · have hx : SpecBlocks (wr.setCell ⟨w.heap.size, 0, none⟩ (.slice a k c)) _ _ _ _ _ _ _ := (unhide HSS).setLow (a := ⟨w.heap.size, 0, none⟩) (by show w.heap.size < w.heap.size + 2; omega) (.slice a k c)
        exact hx.chipS.mono fun k hk => ⟨by omega, hk.2⟩
      · refine (((Below.refl _ w).alloc (Nat.le_refl _) _).trans (hB.mono (by omega))).setCell (by simp) _

end Go.Proofs.YtjgcjeaplckbbaaGreat

/- The chips that the laws draw: raw. -/
namespace Go.Proofs.YtjgcjeaplckbbaaGreat
open Go.RowKit
set_option linter.unusedVariables false
set_option linter.unusedSimpArgs false

theorem zeroBk_pageR {k : Nat} {p : Pg} (h : zeroBk.pages[k]? = some p) : p = zeroPg := by
  have hm := List.mem_of_getElem? h
  simp [zeroBk] at hm
  exact hm
theorem newOk {n : Nat} (h1 : 4 ≤ n) (h2 : n ≤ 12) : ChipOk (List.replicate n zeroBk) := by
  have hs : ∀ k, seqs (List.replicate k zeroBk) = [] := fun k => by
    induction k with
    | zero => rfl
    | succ k ih => simp [seqs, seqsP, zeroBk, zeroPg]
  refine ⟨by simp; omega, fun b hb => ?_, by rw [hs]; exact List.nodup_nil⟩
  rw [List.eq_of_mem_replicate hb]
  exact ⟨by simp [zeroBk], rfl, fun k p hp => by rw [zeroBk_pageR hp]; rfl, fun k p q hq hp hu => by rw [zeroBk_pageR hp] at hu; cases hu⟩

/-- What raw gives: a chip of four to twelve blocks of four pages, in rows from B on. -/
def RawAt (w : World) (B : Nat) (a : Option Addr) (n : Nat) (bs : List Bk) : Prop :=
  bs.length = n ∧ 4 ≤ n ∧ n ≤ 12 ∧ (∀ b ∈ bs, b.pages.length = 4) ∧ ChipS (fun k => B ≤ k) w a bs

theorem RawAt.lens {w : World} {B : Nat} {a : Option Addr} {n : Nat} {bs : List Bk} (h : RawAt w B a n bs) : Lens 1048576 bs := ⟨by have := h.1; have := h.2.2.1; omega, fun b hb => by rw [h.2.2.2.1 b hb]; omega⟩
theorem RawAt.touch {w w' : World} {r B : Nat} {a : Option Addr} {n : Nat} {bs : List Bk} (h : RawAt w B a n bs) (hr : r < B) (hT : Touch (· = r) w w') : RawAt w' B a n bs := ⟨h.1, h.2.1, h.2.2.1, h.2.2.2.1, h.2.2.2.2.touch h.2.2.2.1 hT fun k hk => by show ¬ k = r; omega⟩
theorem RawAt.below {w w' : World} {B : Nat} {a : Option Addr} {n : Nat} {bs : List Bk} (h : RawAt w B a n bs) (hB : Below w.heap.size w w') : RawAt w' B a n bs := ⟨h.1, h.2.1, h.2.2.1, h.2.2.2.1, h.2.2.2.2.below h.2.2.2.1 hB⟩
theorem RawAt.setApart {w : World} {B : Nat} {P : Nat} {x : Option Addr} {y z : Nat} (hP : w.cell? ⟨P, 0, none⟩ = some (.slice x y z)) {a : Option Addr} {n : Nat} {bs : List Bk} (h : RawAt w B a n bs) (u : Value) : RawAt (w.setCell ⟨P, 0, none⟩ u) B a n bs := ⟨h.1, h.2.1, h.2.2.1, h.2.2.2.1, h.2.2.2.2.setApart hP u⟩
theorem RawAt.store {w : World} {B : Nat} {a : Option Addr} {n : Nat} {bs : List Bk} (h : RawAt w B a n bs) {t : Addr} {y : Int} (ht : w.cell? t = some (.int .i64 y)) (x : Int) : ∃ bs', RawAt (w.setCell t (.int .i64 x)) B a n bs' := by
  obtain ⟨bs', hl, hb, hC⟩ := h.2.2.2.2.store ht x
  refine ⟨bs', hl.trans h.1, h.2.1, h.2.2.1, fun b hm => ?_, hC⟩
  obtain ⟨i, hi⟩ := List.mem_iff_getElem?.1 hm
  obtain ⟨c, hc, e⟩ := hb i b hi
  rw [e]
  exact h.2.2.2.1 c (List.mem_of_getElem? hc)
theorem RawAt.of {w : World} {B B' K : Nat} {a : Option Addr} {n : Nat} {bs : List Bk} (hl : bs.length = n) (hok : ChipOk bs) (h : ChipS (fun k => B' ≤ k ∧ k < K) w a bs) (hr : B ≤ B') : RawAt w B a n bs :=
  ⟨hl, by have := hok.count; omega, by have := hok.count; omega, fun b hb => (hok.block b hb).four, h.mono fun k hk => by omega⟩
theorem RawAt.drew {w : World} {B : Nat} {a : Option Addr} {n : Nat} {bs : List Bk} (h : RawAt w B a n bs) : RawAt w.drew B a n bs := h.below (Below.refl _ w).drew

theorem rd_store {w : World} {r : Nat} (h : RdAt w r) {t : Addr} {y : Int} (ht : w.cell? t = some (.int .i64 y)) (hr : t.block ≠ r) (x : Int) : RdAt (w.setCell t (.int .i64 x)) r := by
  obtain ⟨a, n, c, p, h0, h1, hf, h2, h3, h4⟩ := h
  have ho : ∀ j, t ≠ ⟨r, j, none⟩ := fun j e => hr (by rw [e])
  have hc : ∀ j v, w.cell? ⟨r, j, none⟩ = some v → (w.setCell t (.int .i64 x)).cell? ⟨r, j, none⟩ = some v := fun j v hv => by
    rw [World.cell?_setCell_other _ _ _ _ (by first | exact ho j | exact fun e => ho j e.symm)]; exact hv
  refine ⟨a, n, c, p, hc _ _ h0, hc _ _ h1, ⟨fun i => by simpa using hf.1 i, fun i => by rw [World.cell?_setCell_other _ _ _ _ (by first | exact ho _ | exact fun e => ho _ e.symm)]; exact hf.2 i⟩, h2, h3, fun i hi => ?_⟩
  obtain ⟨b, o, z, ha, hb, hz, hx⟩ := h4 i hi
  refine ⟨b, o, z, ha, hb, ?_, hx⟩
  have hne : t ≠ ⟨b, o + i, none⟩ := fun e => by
    rw [← e, ht] at hz
    cases hz
  rw [World.cell?_setCell_other _ _ _ _ (by first | exact hne | exact fun e => hne e.symm)]
  exact hz

theorem rd_apart {w : World} {r P : Nat} (h : RdAt w r) (hP : r < P) (u : Value) : RdAt (w.setCell ⟨P, 0, none⟩ u) r := by
  exact h.past ((Below.refl P w).setCell (Nat.le_refl _) _) hP

theorem Touch.setNew {S : Nat → Prop} {w w' : World} (h : Touch S w w') {p : Addr} (hp : w.heap.size ≤ p.block) (u : Value) : Touch S w (w'.setCell p u) :=
  ⟨h.os, h.tape, h.output, by simpa [World.setCell] using h.size, fun k hk hs => (Below.heap_setCell _ _ _ _ (fun e => by omega)).trans (h.block k hk hs)⟩

end Go.Proofs.YtjgcjeaplckbbaaGreat

/- What the laws over chips draw. -/
namespace Go.Proofs.YtjgcjeaplckbbaaGreat
open Go.RowKit
set_option linter.unusedVariables false
set_option linter.unusedSimpArgs false

/-- A drawn chip, as it lies. -/
def ChipIn (w : World) (a : Option Addr) (n : Nat) (bs : List Bk) : Prop := bs.length = n ∧ BlocksAt w a bs ∧ Lens 1048576 bs
theorem ChipIn.below {w w' : World} {a : Option Addr} {n : Nat} {bs : List Bk} (h : ChipIn w a n bs) (hB : Below w.heap.size w w') : ChipIn w' a n bs := ⟨h.1, h.2.1.below hB (Nat.le_refl _), h.2.2⟩
theorem RawAt.chipIn {w : World} {B : Nat} {a : Option Addr} {n : Nat} {bs : List Bk} (h : RawAt w B a n bs) : ChipIn w a n bs := ⟨h.1, h.2.2.2.2.blocksAt, h.lens⟩

theorem setApartB {w : World} {P : Nat} {x : Option Addr} {y z : Nat} (hP : w.cell? ⟨P, 0, none⟩ = some (.slice x y z)) {a : Option Addr} {bs : List Bk} (h : BlocksAt w a bs) (u : Value) : BlocksAt (w.setCell ⟨P, 0, none⟩ u) a bs := by
  intro i b hb
  obtain ⟨g, o, pa, pc, ha, h0, h1, h2⟩ := h i b hb
  refine ⟨g, o, pa, pc, ha, cell_apartS hP h0 (.inr fun _ _ _ e => by cases e) u, cell_apartS hP h1 (.inl (by omega)) u, fun j p hp => ?_⟩
  obtain ⟨q, r, hq, c0, c1, c2, c3⟩ := h2 j p hp
  exact ⟨q, r, hq, cell_apartS hP c0 (.inr fun _ _ _ e => by cases e) u, cell_apartS hP c1 (.inr fun _ _ _ e => by cases e) u, cell_apartS hP c2 (.inr fun _ _ _ e => by cases e) u, cell_apartS hP c3 (.inr fun _ _ _ e => by cases e) u⟩


end Go.Proofs.YtjgcjeaplckbbaaGreat

/- Whether all blocks but the open one are settled: the program's settledBut. Whether two lists are the same: slices.Equal. -/
namespace Go.Proofs.YtjgcjeaplckbbaaGreat
open Go.RowKit
set_option linter.unusedVariables false
set_option linter.unusedSimpArgs false

/-- A struct or an array is read out of the middle of a row, by an operation whose guard says yes. -/
theorem wpList_load_mid_g {P : Program} {ops : Array Oper} {rest : List Oper} {o : Oper} {a : Act} {w : World} {Q : Exit → Act → World → Prop} (hw : Region.wanted o (yielded ops a.tmps) = true) (ty : TypeId) (x : Operand) (ho : o.op = .load ty x)
    (g off : Nat) (hx : a.eval x = .pointer (some ⟨g, off, none⟩)) (A : Array Value) (s : Nat) (hA : A.size = s) (hc : ∀ j, j < s → w.cell? ⟨g, off + j, none⟩ = A[j]?) (d : TypeDesc)
    (hu : P.underlying ty = some d) (hd : (match d with | .struct _ | .array _ _ => true | _ => false) = true) (hi : (P.info? ty).map (·.size) = some s)
    (h : wpList P ops Q rest (a.put o.dst (.agg A)) w) : wpList P ops Q (o :: rest) a w :=
  BigFrame.wpList_want hw fun _ hK => wp_load_mid ty x ho g off hx A s hA hc d hu hd hi (hK _ _ h)

theorem pu_cc (m : CC) {n k t : Nat} (hk : k < n) (ht : t < 4) {x : Bk} (hx : (ccBs m n)[k]? = some x) : pu x t = (m.page k t).used := by
  rw [ccBs_at m hk] at hx
  cases hx
  show (pagesF (ccPs m k) t).used = _
  simp only [pagesF]
  rw [ccPs_at m k ht]
  rfl

set_option maxRecDepth 100000 in
set_option maxHeartbeats 1000000 in
theorem begun_any (x : Int) (f : Nat → Pg) (b : Bk) (hb : ∀ t, t < 4 → pu b t = (f t).used) (w : World) :
    Calls Tryz.prog 75 #[.agg (bcA x f)] w fun e w' => e = .returned (.bool (halfB b)) ∧ Below w.heap.size w w' := by
  have hb0 : ∀ o, Below w.heap.size w (w.alloc o) := fun o => (Below.refl _ w).alloc (Nat.le_refl _) _
  go_enter Tryz.func75, Tryz.ntmps75
  go_wp2_with (refine wpList_load_row rfl 54 _ rfl w.heap.size rfl 54 (bcA x f) (0, 0) _ (Go.Deep.blk_alloc_new _ _) Tryz.underlying54 rfl (by rw [bcA_size]; exact sizeBC) ?_)
  refine (next_any x f _).mono ?_
  rintro e w1 ⟨r, rfl, hr, hB⟩
  have hd := (NextIs.kinds (hr.congr (fun k hk => (hb k hk).symm))).2.1
  have HD := hide hd
  clear hr hd
  generalize bcA x f = A at *
  go_wp2
  go_ret
  exact ⟨by rw [← unhide HD]; simp, (hb0 _).trans (hB.mono (by simp))⟩

set_option maxRecDepth 100000 in
set_option maxHeartbeats 1000000 in
theorem full_any (x : Int) (f : Nat → Pg) (b : Bk) (hb : ∀ t, t < 4 → pu b t = (f t).used) (w : World) :
    Calls Tryz.prog 46 #[.agg (bcA x f)] w fun e w' => e = .returned (.bool (fullB b)) ∧ Below w.heap.size w w' := by
  have hb0 : ∀ o, Below w.heap.size w (w.alloc o) := fun o => (Below.refl _ w).alloc (Nat.le_refl _) _
  go_enter Tryz.func46, Tryz.ntmps46
  go_wp2_with (refine wpList_load_row rfl 54 _ rfl w.heap.size rfl 54 (bcA x f) (0, 0) _ (Go.Deep.blk_alloc_new _ _) Tryz.underlying54 rfl (by rw [bcA_size]; exact sizeBC) ?_)
  refine (next_any x f _).mono ?_
  rintro e w1 ⟨r, rfl, hr, hB⟩
  have hd := (NextIs.kinds (hr.congr (fun k hk => (hb k hk).symm))).2.2
  have HD := hide hd
  clear hr hd
  generalize bcA x f = A at *
  go_wp2
  go_ret
  exact ⟨by rw [← unhide HD]; simp, (hb0 _).trans (hB.mono (by simp))⟩

set_option maxRecDepth 100000 in
set_option maxHeartbeats 1000000 in
theorem settledBut_any (A : Array Value) (m : CC) (bs : List Bk) (n : Nat) (hl : bs.length = n) (hbs : ccBs m n = bs) (hA0 : A[0]? = some (.int .i64 (n : Int))) (hAb : ∀ b i, b < 12 → i < 17 → A[1 + b * 17 + i]? = (bcA (m.wear b) (m.page b))[i]?) (hn : n ≤ 12) (o : Int) (w : World) :
    Calls Tryz.prog 44 #[.agg A, .int .i64 o] w fun e w' => RetIff (Settled bs o) e ∧ Below w.heap.size w w' := by
  have HAB := hide hAb
  have HBS := hide hbs
  have HL := hide hl
  clear hAb hbs hl
  go_enter Tryz.func44, Tryz.ntmps44
  go_wp2
  go_loopw [5, 9] (fun v i wr => ∃ (k : Nat) (r : Bool), k ≤ n ∧ i = .int .i64 k ∧ v = .bool r ∧ (r = true ↔ oneFree bs o k) ∧ noHalf bs o k ∧ Below (w.heap.size + 1) (w.alloc (.cells A 57)) wr) (fun _ i _ => n - (intOf i).toNat)
  case atStart =>
    refine ⟨0, false, Nat.zero_le _, rfl, rfl, ?_, fun i x hi => absurd hi (Nat.not_lt_zero _), Below.refl _ _⟩
    simp only [Bool.false_eq_true, false_iff]
    rintro ⟨i, x, hi, _⟩
    omega
  case round =>
    obtain ⟨k, r, hk, rfl, rfl, hO, hH, hB⟩ := hrel
    have hsz := hB.size
    simp at hsz
    have hWw : Below w.heap.size w wr := ((Below.refl _ w).alloc (Nat.le_refl _) _).trans (hB.mono (by omega))
    by_cases hlt : k < n
    · have hblk : ∀ j, j < 17 → wr.cell? ⟨w.heap.size, 1 + k * 17 + j, none⟩ = (bcA (m.wear k) (m.page k))[j]? := fun j hj => by
        rw [hB.cell (p := ⟨w.heap.size, 1 + k * 17 + j, none⟩) (by simp), cell_of_row _ _ _ _ _ _ (Go.Deep.blk_alloc_new _ _)]
        exact unhide HAB k j (by omega) hj
      have HB := hide hblk
      have hki : (k : Int) < 12 := by omega
      obtain ⟨x, hx⟩ := getElem?_ex (l := bs) (k := k) (by have := unhide HL; omega)
      have hpu : ∀ t, t < 4 → pu x t = (m.page k t).used := fun t ht => pu_cc m (n := n) hlt ht (by rw [unhide HBS]; exact hx)
      have hno := noHalf_succ (o := o) hx
      have hof := oneFree_succ (o := o) hx
      have HPU := hide hpu
      have HNO := hide hno
      have HOF := hide hof
      have HO := hide hO
      have HH := hide hH
      have HX := hide hx
      clear hpu hno hof hO hH hblk hA0 hx
      by_cases heq : (k : Int) = o
      · subst heq
        go_wp2
        go_roundw
        case rel =>
          refine ⟨k + 1, r, by omega, by go_num, rfl, ?_, ?_, hB⟩
          · rw [unhide HOF, unhide HO]; simp
          · rw [unhide HNO]; exact ⟨unhide HH, fun h => absurd rfl h⟩
        case measure => simp [intOf]; omega
      · have heq' : ((k : Int) == o) = false := by simpa using heq
        go_wp2_with (refine wpList_load_mid rfl 54 _ rfl w.heap.size (1 + k * 17) rfl (bcA (m.wear k) (m.page k)) 17 (bcA_size _ _) (unhide HB) _ Tryz.underlying54 rfl sizeBC ?_)
        refine (begun_any _ _ x (unhide HPU) _).mono ?_
        rintro e w2 ⟨rfl, hB2⟩
        have hs2 := hB2.size
        have hBB : Below (w.heap.size + 1) (w.alloc (.cells A 57)) w2 := hB.trans (hB2.mono (by omega))
        have hWw2 : Below w.heap.size w w2 := hWw.trans (hB2.mono hWw.size)
        have hblk2 : ∀ j, j < 17 → w2.cell? ⟨w.heap.size, 1 + k * 17 + j, none⟩ = (bcA (m.wear k) (m.page k))[j]? := fun j hj => (hB2.cell (p := ⟨w.heap.size, 1 + k * 17 + j, none⟩) (by show w.heap.size < _; omega)).trans (unhide HB j hj)
        have HB2 := hide hblk2
        clear HB hB2 hB hWw hblk2
        cases hh : halfB x with
        | true =>
          generalize bcA (m.wear k) (m.page k) = A2 at *
          go_wp2
          go_ret
          refine ⟨RetIff.no (fun hs => ?_), hWw2⟩
          have := hs.1 k x (by have := unhide HL; omega) (unhide HX) heq
          rw [hh] at this
          cases this
        | false =>
          cases r with
          | true =>
            generalize bcA (m.wear k) (m.page k) = A2 at *
            go_wp2
            go_roundw
            case rel =>
              refine ⟨k + 1, true, by omega, by go_num, rfl, ?_, ?_, hBB⟩
              · rw [unhide HOF]; exact ⟨fun _ => .inl (by have := unhide HO; simpa using this), fun _ => rfl⟩
              · rw [unhide HNO]; exact ⟨unhide HH, fun _ => hh⟩
            case measure => simp [intOf]; omega
          | false =>
            have hfr : freeB x = !(m.page k 0).used := by unfold freeB; rw [unhide HPU 0 (by omega)]
            go_wp2_with (refine wpList_load_mid_g rfl 54 _ rfl w.heap.size (1 + k * 17) rfl (bcA (m.wear k) (m.page k)) 17 (bcA_size _ _) (unhide HB2) _ Tryz.underlying54 rfl sizeBC ?_)
            refine (free_any _ _ _).mono ?_
            rintro e w3 ⟨rfl, hB3⟩
            rw [← hfr]
            have HFR := hide hfr
            have hBB3 : Below (w.heap.size + 1) (w.alloc (.cells A 57)) w3 := hBB.trans (hB3.mono (by omega))
            clear hfr HB2 hB3 hBB
            generalize bcA (m.wear k) (m.page k) = A2 at *
            go_wp2
            go_roundw
            case rel =>
              refine ⟨k + 1, freeB x, by omega, by go_num, rfl, ?_, ?_, hBB3⟩
              · rw [unhide HOF]
                constructor
                · intro h; exact .inr ⟨heq, h⟩
                · rintro (h | h)
                  · have := (unhide HO).2 h; cases this
                  · exact h.2
              · rw [unhide HNO]; exact ⟨unhide HH, fun _ => hh⟩
            case measure => simp [intOf]; omega
    · have hk' : k = n := by omega
      subst hk'
      have HO := hide hO
      have HH := hide hH
      clear hO hH
      go_wp2
      go_ret
      refine ⟨⟨r, rfl, ?_⟩, hWw⟩
      rw [unhide HO]
      unfold Settled
      rw [unhide HL]
      exact ⟨fun h => ⟨unhide HH, h⟩, fun h => h.2⟩

set_option maxRecDepth 100000 in
set_option maxHeartbeats 1000000 in
theorem slicesEqual_any (a b : Option Addr) (ca cb : Nat) (L M : List Int) (nL nM : Nat) (hL : L.length = nL) (hM : M.length = nM) (w : World) (h1 : IntsAt w a L) (h2 : IntsAt w b M) (hl1 : nL ≤ 9223372036854775807) (hl2 : nM ≤ 9223372036854775807) :
    Calls Tryz.prog 42 #[.slice a nL ca, .slice b nM cb] w fun e w' => RetIff (L = M) e ∧ Below w.heap.size w w' := by
  by_cases hlen : nL = nM
  · subst hlen
    go_enter Tryz.func42, Tryz.ntmps42
    go_wp2
    go_loopw [13] (fun i wr => ∃ k : Nat, k ≤ nL ∧ i = .int .i64 k ∧ (∀ j, j < k → L[j]? = M[j]?) ∧ Below w.heap.size w wr) (fun i _ => nL - (intOf i).toNat)
    case atStart => exact ⟨0, Nat.zero_le _, rfl, fun j hj => absurd hj (Nat.not_lt_zero _), Below.refl _ _⟩
    case round =>
      obtain ⟨k, hk, rfl, hall, hB⟩ := hrel
      by_cases hlt : k < nL
      · obtain ⟨x, hx⟩ := getElem?_ex (l := L) (k := k) (by omega)
        obtain ⟨y, hy⟩ := getElem?_ex (l := M) (k := k) (by omega)
        obtain ⟨b1, o1, rfl, c1⟩ := (h1.below hB (Nat.le_refl _)) k x hx
        obtain ⟨b2, o2, rfl, c2⟩ := (h2.below hB (Nat.le_refl _)) k y hy
        have HA := hide hall
        have HX := hide hx
        have HY := hide hy
        have HL := hide (And.intro hL hM)
        clear hall hx hy h1 h2 hL hM
        by_cases hxy : x = y
        · subst hxy
          have hne : (x != x) = false := by simp
          go_wp2_with fail
          go_quiet (fail)
          go_wp2
          go_roundw
          case rel =>
            refine ⟨k + 1, by omega, by go_num, fun j hj => ?_, Below.drewN hB _⟩
            by_cases e : j = k
            · subst e; rw [unhide HX, unhide HY]
            · exact unhide HA j (by omega)
          case measure => simp [intOf]; omega
        · have hne : (x != y) = true := by simpa using hxy
          go_wp2_with fail
          go_quiet (fail)
          go_wp2
          go_ret
          refine ⟨RetIff.no (fun e => ?_), Below.drewN hB _⟩
          have := unhide HX
          rw [e, unhide HY] at this
          cases this
          exact hxy rfl
      · obtain rfl : k = nL := by omega
        have HA := hide hall
        have HL := hide (And.intro hL hM)
        clear hall h1 h2 hL hM
        go_wp2
        go_ret
        refine ⟨RetIff.yes (List.ext_getElem? (fun j => ?_)), hB⟩
        by_cases hj : j < k
        · exact unhide HA j hj
        · rw [List.getElem?_eq_none (by have := (unhide HL).1; omega), List.getElem?_eq_none (by have := (unhide HL).2; omega)]
  · have hne : ((nL : Int) != (nM : Int)) = true := by simp; omega
    have HL := hide (And.intro hL hM)
    clear h1 h2 hL hM
    go_enter Tryz.func42, Tryz.ntmps42
    go_wp2
    go_ret
    refine ⟨RetIff.no (fun e => hlen ?_), Below.refl _ _⟩
    rw [← (unhide HL).1, ← (unhide HL).2, e]
end Go.Proofs.YtjgcjeaplckbbaaGreat
