/- What the law over Programmed draws. -/
import Derived.Test.YtalgkmellbamgaaDrC
import Derived.WalkKit
import Derived.Outline
namespace Go.Proofs.Ytalgkmellbamgaa
open Go.RowKit
set_option linter.unusedVariables false
set_option linter.unusedSimpArgs false

theorem RawAt.low {w w' : World} {B : Nat} {a : Option Addr} {n : Nat} {bs : List Bk} (h : RawAt w B a n bs) (hT : Touch (fun k => k < B) w w') : RawAt w' B a n bs := ⟨h.1, h.2.1, h.2.2.1, h.2.2.2.1, h.2.2.2.2.touch h.2.2.2.1 hT fun k hk => by show ¬ k < B; omega⟩

set_option maxRecDepth 100000 in
set_option maxHeartbeats 4000000 in
theorem drawProgrammed_any (a : Option Addr) (n c : Nat) (w : World) (h : CodeAt w a n) (hn : n ≤ 1048576) :
    Calls Try.prog 12 #[.slice a n c] w fun e w' => ∃ a2 n2 c2 bs z u l s d, e = .returned (.tuple #[.agg #[.slice a2 n2 c2], .int .i64 z, .agg #[.bool u, .int .i64 l, .int .i64 s, .string d]]) ∧ ChipIn w' a2 n2 bs ∧ Below w.heap.size w w' := by
  have hB1 : ∀ o1 o2, Below w.heap.size w ((w.alloc o1).alloc o2) := fun o1 o2 => ((Below.refl _ _).alloc (Nat.le_refl _) _).alloc (by simp) _
  go_enter Try.func12, Try.ntmps12
  go_wp2_with fail
  refine (l1Open_any a n c _ (h.below (hB1 _ _) (Nat.le_refl _)) hn).mono ?_
  rintro e w1 ⟨rfl, hR, hB⟩
  have c1 : w1.cell? ⟨w.heap.size, 0, none⟩ = some (.slice none 0 0) := (hB.cell (p := ⟨w.heap.size, 0, none⟩) (by simp; omega)).trans (by rw [cell_alloc_lt _ _ _ _ (by simp)]; simp)
  have f1 : w1.frozen? ⟨w.heap.size, 0, none⟩ = false := (hB.frozen (p := ⟨w.heap.size, 0, none⟩) (by simp; omega)).trans (by rw [frozen_alloc_lt _ _ _ _ (by simp)]; simp)
  have hbR : w1.heap[w.heap.size + 1]? = some (.cells #[.bool false, .int .i64 0, .int .i64 0, .string ByteArray.empty] 28 (0, 0)) := by
    rw [hB.block _ (by simp)]
    exact heap_alloc2_new _ _ _
  have hW1 : Below w.heap.size w w1 := (hB1 _ _).trans (hB.mono (by simp; omega))
  simp only [World.size_alloc] at hR hB ⊢
  obtain ⟨r, hr⟩ : ∃ r, r = w.heap.size + 1 + 1 := ⟨_, rfl⟩
  rw [← hr] at hR hB ⊢
  have hrl := hR.lt
  have HR1 := hide hR
  have HBR1 := hide hbR
  have hwr : w.heap.size + 1 < r := by omega
  clear h hB hR hB1 hr hbR
  go_wp2_with fail
  refine (raw_any r _ (unhide HR1)).mono ?_
  rintro e w2 ⟨a2, n2, c2, bs, rfl, hraw, hR2, hT2⟩
  have hs2 := hT2.size
  have d2 := (hT2.cell (b := w.heap.size) (o := 0) (by omega) (by show ¬ w.heap.size = r; omega)).trans c1
  have f2 := (hT2.frozen (b := w.heap.size) (o := 0) (by omega) (by show ¬ w.heap.size = r; omega)).trans f1
  have HBR2 := hide ((hT2.block (w.heap.size + 1) (by omega) (by show ¬ w.heap.size + 1 = r; omega)).trans (unhide HBR1))
  have hW2 : Below w.heap.size w w2 := hW1.trans (hT2.below hW1.size fun k hk => by subst hk; omega)
  have HR2 := hide hR2
  have HRW2 := hide hraw
  have hr2 : r < w2.heap.size := by omega
  clear hraw hR2 hT2 HR1 c1 f1 hW1 HBR1
  obtain ⟨w3, hw3⟩ : ∃ w3, w3 = w2.alloc (.cells #[.slice a2 n2 c2] 26) := ⟨_, rfl⟩
  have hB3 : Below w2.heap.size w2 w3 := by rw [hw3]; exact (Below.refl _ _).alloc (Nat.le_refl _) _
  have hs3 : w2.heap.size + 1 ≤ w3.heap.size := by rw [hw3]; simp
  have p3 : w3.cell? ⟨w2.heap.size, 0, none⟩ = some (.slice a2 n2 c2) := by rw [hw3]; simp
  have HR3 := hide ((unhide HR2).below hB3)
  have HT3 : Hid (Touch (· = r) w2 w3) := Touch.of_below hB3
  go_wp2_with fail
  rw [← hw3]
  clear hw3 hB3 HR2
  refine (below_any r 5 _ (unhide HR3) (by omega) (by omega)).mono ?_
  rintro e w4 ⟨y4, rfl, hy40, hy41, hR4, hT4⟩
  have hs4 := hT4.size
  have p4 := (hT4.cell (b := w2.heap.size) (o := 0) (by omega) (by show ¬ w2.heap.size = r; omega)).trans p3
  have HR4 := hide hR4
  have HT4 := hide ((unhide HT3).trans hT4)
  clear hR4 hT4 HR3 HT3 p3
  go_wp2_with fail
  refine (below_any r 60 _ (unhide HR4) (by omega) (by omega)).mono ?_
  rintro e w5 ⟨y5, rfl, hy50, hy51, hR5, hT5⟩
  have hs5 := hT5.size
  have p5 := (hT5.cell (b := w2.heap.size) (o := 0) (by omega) (by show ¬ w2.heap.size = r; omega)).trans p4
  have HR5 := hide hR5
  have HT5 := hide ((unhide HT4).trans hT5)
  clear hR5 hT5 HR4 HT4 p4
  go_wp2_with fail
  refine (data_any r _ (unhide HR5)).mono ?_
  rintro e w6 ⟨x6, rfl, hx6, hR6, hT6⟩
  have hs6 := hT6.size
  have p6 := (hT6.cell (b := w2.heap.size) (o := 0) (by omega) (by show ¬ w2.heap.size = r; omega)).trans p5
  have HR6 := hide hR6
  have HT6 := hide ((unhide HT5).trans hT6)
  clear hR6 hT6 HR5 HT5 p5
  obtain ⟨w7, hw7⟩ : ∃ w7, w7 = w6.alloc (.cells #[.bool true, .int .i64 y4, .int .i64 (1 + y5), .string x6] 28) := ⟨_, rfl⟩
  have hB7 : Below w6.heap.size w6 w7 := by rw [hw7]; exact (Below.refl _ _).alloc (Nat.le_refl _) _
  have hs7 : w6.heap.size + 1 ≤ w7.heap.size := by rw [hw7]; simp
  have HP7 : Hid (w7.heap[w6.heap.size]? = some (.cells #[.bool true, .int .i64 y4, .int .i64 (1 + y5), .string x6] 28 (0, 0))) := by rw [hw7]; exact Go.Deep.blk_alloc_new _ _
  have p7 := (hB7.cell (p := ⟨w2.heap.size, 0, none⟩) (by show w2.heap.size < _; omega)).trans p6
  have HR7 := hide ((unhide HR6).below hB7)
  have HT7 : Hid (Touch (· = r) w2 w7) := (unhide HT6).trans (Touch.of_below hB7)
  have hl67 : w6.heap.size < w7.heap.size := by omega
  have hl26 : w2.heap.size < w6.heap.size := by omega
  go_wp2_with fail
  rw [← hw7]
  clear hw7 hB7 HR6 HT6 p6
  refine (below_any r 12 _ (unhide HR7) (by omega) (by omega)).mono ?_
  rintro e w8 ⟨v, rfl, hv0, hv1, hR8, hT8⟩
  have hs8 := hT8.size
  have p8 := (hT8.cell (b := w2.heap.size) (o := 0) (by omega) (by show ¬ w2.heap.size = r; omega)).trans p7
  have hP8 : w8.heap[w6.heap.size]? = some (.cells #[.bool true, .int .i64 y4, .int .i64 (1 + y5), .string x6] 28 (0, 0)) := (hT8.block w6.heap.size hl67 (by show ¬ w6.heap.size = r; omega)).trans (unhide HP7)
  have HR8 := hide hR8
  have HT8 := hide ((unhide HT7).trans hT8)
  have g0 := cell_of_row _ _ 0 _ _ _ hP8
  have g1 := cell_of_row _ _ 1 _ _ _ hP8
  have g2 := cell_of_row _ _ 2 _ _ _ hP8
  have g3 := cell_of_row _ _ 3 _ _ _ hP8
  simp at g0 g1 g2 g3
  have q8 : ∀ j, w8.frozen? ⟨w6.heap.size, j, none⟩ = false := fun j => by simp [World.frozen?, hP8]
  clear hR8 hT8 HR7 HT7 HP7 p7 hP8
  obtain ⟨P, hP⟩ : ∃ P, P = w6.heap.size := ⟨_, rfl⟩
  rw [← hP] at g0 g1 g2 g3 q8 hl67 hl26 ⊢
  have hP8 : P < w8.heap.size := by omega
  have hPr : ¬ P = r := by omega
  have hT8s := (unhide HT8).size
  clear hP
  have h4 : v = 9 ∨ v = 10 ∨ v = 11 ∨ ((v == 9) = false ∧ (v == 10) = false ∧ (v == 11) = false) := by simp; omega
  rcases h4 with rfl | rfl | rfl | ⟨hv9, hv10, hv11⟩
  · go_wp2_with fail
    refine (off_any r 0 39 _ (unhide HR8) (by omega) (by omega) (by omega)).mono ?_
    rintro e w9 ⟨z9, rfl, hR9, hT9⟩
    have hs9 := hT9.size
    have p9 := (hT9.cell (b := w2.heap.size) (o := 0) (by omega) (by show ¬ w2.heap.size = r; omega)).trans p8
    have k0 := (hT9.cell (b := P) (o := 0) hP8 hPr).trans g0
    have k1 := (hT9.cell (b := P) (o := 1) hP8 hPr).trans g1
    have k2 := (hT9.cell (b := P) (o := 2) hP8 hPr).trans g2
    have k3 := (hT9.cell (b := P) (o := 3) hP8 hPr).trans g3
    have q9 := fun j => (hT9.frozen (b := P) (o := j) hP8 hPr).trans (q8 j)
    have HR9 := hide hR9
    have HT9 := hide ((unhide HT8).trans hT9)
    clear hR9 hT9 HR8 HT8 p8 g0 g1 g2 g3 q8
    go_wp2_with fail
    obtain ⟨wA, hwA⟩ : ∃ wA, wA = w9.setCell ⟨P, 1, none⟩ (.int .i64 z9) := ⟨_, rfl⟩
    have pA : wA.cell? ⟨w2.heap.size, 0, none⟩ = some (.slice a2 n2 c2) := by rw [hwA, World.cell?_setCell_other _ _ _ _ (by simp <;> omega)]; exact p9
    have m0 : wA.cell? ⟨P, 0, none⟩ = some (.bool true) := by rw [hwA, World.cell?_setCell_other _ _ _ _ (by simp)]; exact k0
    have m1 : wA.cell? ⟨P, 1, none⟩ = some (.int .i64 z9) := by rw [hwA]; exact World.cell?_setCell_same' _ _ _ (by rw [k1]; rfl)
    have m2 : wA.cell? ⟨P, 2, none⟩ = some (.int .i64 (1 + y5)) := by rw [hwA, World.cell?_setCell_other _ _ _ _ (by simp)]; exact k2
    have m3 : wA.cell? ⟨P, 3, none⟩ = some (.string x6) := by rw [hwA, World.cell?_setCell_other _ _ _ _ (by simp)]; exact k3
    have hRA : RdAt wA r := by rw [hwA]; exact (unhide HR9).past ((Below.refl P w9).setCell (Nat.le_refl _) _) (by omega)
    have HTA : Hid (Touch (· = r) w2 wA) := by rw [hwA]; exact (unhide HT9).setNew (by show w2.heap.size ≤ P; omega) _
    have hsA : w9.heap.size ≤ wA.heap.size := by rw [hwA]; simp [World.setCell]
    rw [← hwA]
    clear hwA
    have HRA : Hid (RdAt wA.drew r) := hRA
    have hPA : P < wA.heap.size := by omega
    have h2A : w2.heap.size < wA.heap.size := by omega
    go_region_with (first
      | (go_at_call 59
         refine (off_any r 0 3 _ (unhide HRA) (by omega) (by omega) (by omega)).mono ?_
         rintro e wo ⟨z, rfl, hRo, hTo⟩
         have hTA : Touch (· = r) wA wo := (Touch.refl _ wA).drew.trans hTo
         have po := (hTA.cell (b := w2.heap.size) (o := 0) h2A (by show ¬ w2.heap.size = r; omega)).trans pA
         have o0 := (hTA.cell (b := P) (o := 0) hPA hPr).trans m0
         have o1 := (hTA.cell (b := P) (o := 1) hPA hPr).trans m1
         have o2 := (hTA.cell (b := P) (o := 2) hPA hPr).trans m2
         have o3 := (hTA.cell (b := P) (o := 3) hPA hPr).trans m3
         have HTo := hide ((unhide HTA).trans hTA)
         have do2 := ((unhide HTo).cell (b := w.heap.size) (o := 0) (by omega) (by show ¬ w.heap.size = r; omega)).trans d2
         have fo2 := ((unhide HTo).frozen (b := w.heap.size) (o := 0) (by omega) (by show ¬ w.heap.size = r; omega)).trans f2
         have hRo4 := ((unhide HTo).block (w.heap.size + 1) (by omega) (by show ¬ w.heap.size + 1 = r; omega)).trans (unhide HBR2)
         have e0 := cell_of_row _ _ 0 _ _ _ hRo4
         have e1 := cell_of_row _ _ 1 _ _ _ hRo4
         have e2 := cell_of_row _ _ 2 _ _ _ hRo4
         have e3 := cell_of_row _ _ 3 _ _ _ hRo4
         simp at e0 e1 e2 e3
         have fo4 : ∀ j, wo.frozen? ⟨w.heap.size + 1, j, none⟩ = false := fun j => by simp [World.frozen?, hRo4]
         clear hRo hTo hTA hRo4))
    all_goals (
      go_wp2
      have hTe : Touch (fun k => k < w1.heap.size) w2 (((((wo.setCell ⟨w.heap.size, 0, none⟩ (.slice a2 n2 c2)).setCell ⟨w.heap.size + 1, 0, none⟩ (.bool true)).setCell ⟨w.heap.size + 1, 1, none⟩ (.int .i64 z9)).setCell ⟨w.heap.size + 1, 2, none⟩ (.int .i64 (1 + y5))).setCell ⟨w.heap.size + 1, 3, none⟩ (.string x6)) :=
        (((((((unhide HTo).mono fun k hk => by subst hk; omega).setCell (by show w.heap.size < _; omega) _).setCell (by show w.heap.size + 1 < _; omega) _).setCell (by show w.heap.size + 1 < _; omega) _).setCell (by show w.heap.size + 1 < _; omega) _).setCell (by show w.heap.size + 1 < _; omega) _)
      have hBe : Below w.heap.size w (((((wo.setCell ⟨w.heap.size, 0, none⟩ (.slice a2 n2 c2)).setCell ⟨w.heap.size + 1, 0, none⟩ (.bool true)).setCell ⟨w.heap.size + 1, 1, none⟩ (.int .i64 z9)).setCell ⟨w.heap.size + 1, 2, none⟩ (.int .i64 (1 + y5))).setCell ⟨w.heap.size + 1, 3, none⟩ (.string x6)) :=
        (((((hW2.trans ((unhide HTo).below hW2.size fun k hk => by subst hk; omega)).setCell (by simp) _).setCell (by simp) _).setCell (by simp) _).setCell (by simp) _).setCell (by simp) _
      exact bodyPost_ret (v := .tuple #[.agg #[.slice a2 n2 c2], .int .i64 z, .agg #[.bool true, .int .i64 z9, .int .i64 (1 + y5), .string x6]]) (by simp [results, Try.results12, go_sem, do2, e0, e1, e2, e3]) rfl ⟨_, n2, c2, bs, z, _, _, _, _, rfl, ((unhide HRW2).low hTe).chipIn, hBe⟩)
  · go_wp2_with fail
    obtain ⟨wA, hwA⟩ : ∃ wA, wA = w8.setCell ⟨P, 0, none⟩ (.bool false) := ⟨_, rfl⟩
    have pA : wA.cell? ⟨w2.heap.size, 0, none⟩ = some (.slice a2 n2 c2) := by rw [hwA, World.cell?_setCell_other _ _ _ _ (by simp <;> omega)]; exact p8
    have m0 : wA.cell? ⟨P, 0, none⟩ = some (.bool false) := by rw [hwA]; exact World.cell?_setCell_same' _ _ _ (by rw [g0]; rfl)
    have m1 : wA.cell? ⟨P, 1, none⟩ = some (.int .i64 y4) := by rw [hwA, World.cell?_setCell_other _ _ _ _ (by simp)]; exact g1
    have m2 : wA.cell? ⟨P, 2, none⟩ = some (.int .i64 (1 + y5)) := by rw [hwA, World.cell?_setCell_other _ _ _ _ (by simp)]; exact g2
    have m3 : wA.cell? ⟨P, 3, none⟩ = some (.string x6) := by rw [hwA, World.cell?_setCell_other _ _ _ _ (by simp)]; exact g3
    have hRA : RdAt wA r := by rw [hwA]; exact (unhide HR8).past ((Below.refl P w8).setCell (Nat.le_refl _) _) (by omega)
    have HTA : Hid (Touch (· = r) w2 wA) := by rw [hwA]; exact (unhide HT8).setNew (by show w2.heap.size ≤ P; omega) _
    have hsA : w8.heap.size ≤ wA.heap.size := by rw [hwA]; simp [World.setCell]
    rw [← hwA]
    clear hwA
    have HRA : Hid (RdAt wA.drew r) := hRA
    have hPA : P < wA.heap.size := by omega
    have h2A : w2.heap.size < wA.heap.size := by omega
    go_region_with (first
      | (go_at_call 59
         refine (off_any r 0 3 _ (unhide HRA) (by omega) (by omega) (by omega)).mono ?_
         rintro e wo ⟨z, rfl, hRo, hTo⟩
         have hTA : Touch (· = r) wA wo := (Touch.refl _ wA).drew.trans hTo
         have po := (hTA.cell (b := w2.heap.size) (o := 0) h2A (by show ¬ w2.heap.size = r; omega)).trans pA
         have o0 := (hTA.cell (b := P) (o := 0) hPA hPr).trans m0
         have o1 := (hTA.cell (b := P) (o := 1) hPA hPr).trans m1
         have o2 := (hTA.cell (b := P) (o := 2) hPA hPr).trans m2
         have o3 := (hTA.cell (b := P) (o := 3) hPA hPr).trans m3
         have HTo := hide ((unhide HTA).trans hTA)
         have do2 := ((unhide HTo).cell (b := w.heap.size) (o := 0) (by omega) (by show ¬ w.heap.size = r; omega)).trans d2
         have fo2 := ((unhide HTo).frozen (b := w.heap.size) (o := 0) (by omega) (by show ¬ w.heap.size = r; omega)).trans f2
         have hRo4 := ((unhide HTo).block (w.heap.size + 1) (by omega) (by show ¬ w.heap.size + 1 = r; omega)).trans (unhide HBR2)
         have e0 := cell_of_row _ _ 0 _ _ _ hRo4
         have e1 := cell_of_row _ _ 1 _ _ _ hRo4
         have e2 := cell_of_row _ _ 2 _ _ _ hRo4
         have e3 := cell_of_row _ _ 3 _ _ _ hRo4
         simp at e0 e1 e2 e3
         have fo4 : ∀ j, wo.frozen? ⟨w.heap.size + 1, j, none⟩ = false := fun j => by simp [World.frozen?, hRo4]
         clear hRo hTo hTA hRo4))
    all_goals (
      go_wp2
      have hTe : Touch (fun k => k < w1.heap.size) w2 (((((wo.setCell ⟨w.heap.size, 0, none⟩ (.slice a2 n2 c2)).setCell ⟨w.heap.size + 1, 0, none⟩ (.bool false)).setCell ⟨w.heap.size + 1, 1, none⟩ (.int .i64 y4)).setCell ⟨w.heap.size + 1, 2, none⟩ (.int .i64 (1 + y5))).setCell ⟨w.heap.size + 1, 3, none⟩ (.string x6)) :=
        (((((((unhide HTo).mono fun k hk => by subst hk; omega).setCell (by show w.heap.size < _; omega) _).setCell (by show w.heap.size + 1 < _; omega) _).setCell (by show w.heap.size + 1 < _; omega) _).setCell (by show w.heap.size + 1 < _; omega) _).setCell (by show w.heap.size + 1 < _; omega) _)
      have hBe : Below w.heap.size w (((((wo.setCell ⟨w.heap.size, 0, none⟩ (.slice a2 n2 c2)).setCell ⟨w.heap.size + 1, 0, none⟩ (.bool false)).setCell ⟨w.heap.size + 1, 1, none⟩ (.int .i64 y4)).setCell ⟨w.heap.size + 1, 2, none⟩ (.int .i64 (1 + y5))).setCell ⟨w.heap.size + 1, 3, none⟩ (.string x6)) :=
        (((((hW2.trans ((unhide HTo).below hW2.size fun k hk => by subst hk; omega)).setCell (by simp) _).setCell (by simp) _).setCell (by simp) _).setCell (by simp) _).setCell (by simp) _
      exact bodyPost_ret (v := .tuple #[.agg #[.slice a2 n2 c2], .int .i64 z, .agg #[.bool false, .int .i64 y4, .int .i64 (1 + y5), .string x6]]) (by simp [results, Try.results12, go_sem, do2, e0, e1, e2, e3]) rfl ⟨_, n2, c2, bs, z, _, _, _, _, rfl, ((unhide HRW2).low hTe).chipIn, hBe⟩)
  · go_wp2_with fail
    obtain ⟨wA, hwA⟩ : ∃ wA, wA = w8.setCell ⟨P, 3, none⟩ (.string ⟨#[97, 98, 99]⟩) := ⟨_, rfl⟩
    have pA : wA.cell? ⟨w2.heap.size, 0, none⟩ = some (.slice a2 n2 c2) := by rw [hwA, World.cell?_setCell_other _ _ _ _ (by simp <;> omega)]; exact p8
    have m0 : wA.cell? ⟨P, 0, none⟩ = some (.bool true) := by rw [hwA, World.cell?_setCell_other _ _ _ _ (by simp)]; exact g0
    have m1 : wA.cell? ⟨P, 1, none⟩ = some (.int .i64 y4) := by rw [hwA, World.cell?_setCell_other _ _ _ _ (by simp)]; exact g1
    have m2 : wA.cell? ⟨P, 2, none⟩ = some (.int .i64 (1 + y5)) := by rw [hwA, World.cell?_setCell_other _ _ _ _ (by simp)]; exact g2
    have m3 : wA.cell? ⟨P, 3, none⟩ = some (.string ⟨#[97, 98, 99]⟩) := by rw [hwA]; exact World.cell?_setCell_same' _ _ _ (by rw [g3]; rfl)
    have hRA : RdAt wA r := by rw [hwA]; exact (unhide HR8).past ((Below.refl P w8).setCell (Nat.le_refl _) _) (by omega)
    have HTA : Hid (Touch (· = r) w2 wA) := by rw [hwA]; exact (unhide HT8).setNew (by show w2.heap.size ≤ P; omega) _
    have hsA : w8.heap.size ≤ wA.heap.size := by rw [hwA]; simp [World.setCell]
    rw [← hwA]
    clear hwA
    have HRA : Hid (RdAt wA.drew r) := hRA
    have hPA : P < wA.heap.size := by omega
    have h2A : w2.heap.size < wA.heap.size := by omega
    go_region_with (first
      | (go_at_call 59
         refine (off_any r 0 3 _ (unhide HRA) (by omega) (by omega) (by omega)).mono ?_
         rintro e wo ⟨z, rfl, hRo, hTo⟩
         have hTA : Touch (· = r) wA wo := (Touch.refl _ wA).drew.trans hTo
         have po := (hTA.cell (b := w2.heap.size) (o := 0) h2A (by show ¬ w2.heap.size = r; omega)).trans pA
         have o0 := (hTA.cell (b := P) (o := 0) hPA hPr).trans m0
         have o1 := (hTA.cell (b := P) (o := 1) hPA hPr).trans m1
         have o2 := (hTA.cell (b := P) (o := 2) hPA hPr).trans m2
         have o3 := (hTA.cell (b := P) (o := 3) hPA hPr).trans m3
         have HTo := hide ((unhide HTA).trans hTA)
         have do2 := ((unhide HTo).cell (b := w.heap.size) (o := 0) (by omega) (by show ¬ w.heap.size = r; omega)).trans d2
         have fo2 := ((unhide HTo).frozen (b := w.heap.size) (o := 0) (by omega) (by show ¬ w.heap.size = r; omega)).trans f2
         have hRo4 := ((unhide HTo).block (w.heap.size + 1) (by omega) (by show ¬ w.heap.size + 1 = r; omega)).trans (unhide HBR2)
         have e0 := cell_of_row _ _ 0 _ _ _ hRo4
         have e1 := cell_of_row _ _ 1 _ _ _ hRo4
         have e2 := cell_of_row _ _ 2 _ _ _ hRo4
         have e3 := cell_of_row _ _ 3 _ _ _ hRo4
         simp at e0 e1 e2 e3
         have fo4 : ∀ j, wo.frozen? ⟨w.heap.size + 1, j, none⟩ = false := fun j => by simp [World.frozen?, hRo4]
         clear hRo hTo hTA hRo4))
    all_goals (
      go_wp2
      have hTe : Touch (fun k => k < w1.heap.size) w2 (((((wo.setCell ⟨w.heap.size, 0, none⟩ (.slice a2 n2 c2)).setCell ⟨w.heap.size + 1, 0, none⟩ (.bool true)).setCell ⟨w.heap.size + 1, 1, none⟩ (.int .i64 y4)).setCell ⟨w.heap.size + 1, 2, none⟩ (.int .i64 (1 + y5))).setCell ⟨w.heap.size + 1, 3, none⟩ (.string ⟨#[97, 98, 99]⟩)) :=
        (((((((unhide HTo).mono fun k hk => by subst hk; omega).setCell (by show w.heap.size < _; omega) _).setCell (by show w.heap.size + 1 < _; omega) _).setCell (by show w.heap.size + 1 < _; omega) _).setCell (by show w.heap.size + 1 < _; omega) _).setCell (by show w.heap.size + 1 < _; omega) _)
      have hBe : Below w.heap.size w (((((wo.setCell ⟨w.heap.size, 0, none⟩ (.slice a2 n2 c2)).setCell ⟨w.heap.size + 1, 0, none⟩ (.bool true)).setCell ⟨w.heap.size + 1, 1, none⟩ (.int .i64 y4)).setCell ⟨w.heap.size + 1, 2, none⟩ (.int .i64 (1 + y5))).setCell ⟨w.heap.size + 1, 3, none⟩ (.string ⟨#[97, 98, 99]⟩)) :=
        (((((hW2.trans ((unhide HTo).below hW2.size fun k hk => by subst hk; omega)).setCell (by simp) _).setCell (by simp) _).setCell (by simp) _).setCell (by simp) _).setCell (by simp) _
      exact bodyPost_ret (v := .tuple #[.agg #[.slice a2 n2 c2], .int .i64 z, .agg #[.bool true, .int .i64 y4, .int .i64 (1 + y5), .string ⟨#[97, 98, 99]⟩]]) (by simp [results, Try.results12, go_sem, do2, e0, e1, e2, e3]) rfl ⟨_, n2, c2, bs, z, _, _, _, _, rfl, ((unhide HRW2).low hTe).chipIn, hBe⟩)
  · go_wp2_with fail
    obtain ⟨wA, hwA⟩ : ∃ wA, wA = w8 := ⟨_, rfl⟩
    rw [← hwA] at p8 g0 g1 g2 g3 HR8 HT8 ⊢
    have hRA := unhide HR8
    have HTA := HT8
    have hsA : w8.heap.size ≤ wA.heap.size := by rw [hwA]; exact Nat.le_refl _
    clear hwA
    have HRA : Hid (RdAt wA.drew r) := hRA
    have hPA : P < wA.heap.size := by omega
    have h2A : w2.heap.size < wA.heap.size := by omega
    go_region_with (first
      | (go_at_call 59
         refine (off_any r 0 3 _ (unhide HRA) (by omega) (by omega) (by omega)).mono ?_
         rintro e wo ⟨z, rfl, hRo, hTo⟩
         have hTA : Touch (· = r) wA wo := (Touch.refl _ wA).drew.trans hTo
         have po := (hTA.cell (b := w2.heap.size) (o := 0) h2A (by show ¬ w2.heap.size = r; omega)).trans p8
         have o0 := (hTA.cell (b := P) (o := 0) hPA hPr).trans g0
         have o1 := (hTA.cell (b := P) (o := 1) hPA hPr).trans g1
         have o2 := (hTA.cell (b := P) (o := 2) hPA hPr).trans g2
         have o3 := (hTA.cell (b := P) (o := 3) hPA hPr).trans g3
         have HTo := hide ((unhide HTA).trans hTA)
         have do2 := ((unhide HTo).cell (b := w.heap.size) (o := 0) (by omega) (by show ¬ w.heap.size = r; omega)).trans d2
         have fo2 := ((unhide HTo).frozen (b := w.heap.size) (o := 0) (by omega) (by show ¬ w.heap.size = r; omega)).trans f2
         have hRo4 := ((unhide HTo).block (w.heap.size + 1) (by omega) (by show ¬ w.heap.size + 1 = r; omega)).trans (unhide HBR2)
         have e0 := cell_of_row _ _ 0 _ _ _ hRo4
         have e1 := cell_of_row _ _ 1 _ _ _ hRo4
         have e2 := cell_of_row _ _ 2 _ _ _ hRo4
         have e3 := cell_of_row _ _ 3 _ _ _ hRo4
         simp at e0 e1 e2 e3
         have fo4 : ∀ j, wo.frozen? ⟨w.heap.size + 1, j, none⟩ = false := fun j => by simp [World.frozen?, hRo4]
         clear hRo hTo hTA hRo4))
    all_goals (
      go_wp2
      have hTe : Touch (fun k => k < w1.heap.size) w2 (((((wo.setCell ⟨w.heap.size, 0, none⟩ (.slice a2 n2 c2)).setCell ⟨w.heap.size + 1, 0, none⟩ (.bool true)).setCell ⟨w.heap.size + 1, 1, none⟩ (.int .i64 y4)).setCell ⟨w.heap.size + 1, 2, none⟩ (.int .i64 (1 + y5))).setCell ⟨w.heap.size + 1, 3, none⟩ (.string x6)) :=
        (((((((unhide HTo).mono fun k hk => by subst hk; omega).setCell (by show w.heap.size < _; omega) _).setCell (by show w.heap.size + 1 < _; omega) _).setCell (by show w.heap.size + 1 < _; omega) _).setCell (by show w.heap.size + 1 < _; omega) _).setCell (by show w.heap.size + 1 < _; omega) _)
      have hBe : Below w.heap.size w (((((wo.setCell ⟨w.heap.size, 0, none⟩ (.slice a2 n2 c2)).setCell ⟨w.heap.size + 1, 0, none⟩ (.bool true)).setCell ⟨w.heap.size + 1, 1, none⟩ (.int .i64 y4)).setCell ⟨w.heap.size + 1, 2, none⟩ (.int .i64 (1 + y5))).setCell ⟨w.heap.size + 1, 3, none⟩ (.string x6)) :=
        (((((hW2.trans ((unhide HTo).below hW2.size fun k hk => by subst hk; omega)).setCell (by simp) _).setCell (by simp) _).setCell (by simp) _).setCell (by simp) _).setCell (by simp) _
      exact bodyPost_ret (v := .tuple #[.agg #[.slice a2 n2 c2], .int .i64 z, .agg #[.bool true, .int .i64 y4, .int .i64 (1 + y5), .string x6]]) (by simp [results, Try.results12, go_sem, do2, e0, e1, e2, e3]) rfl ⟨_, n2, c2, bs, z, _, _, _, _, rfl, ((unhide HRW2).low hTe).chipIn, hBe⟩)
end Go.Proofs.Ytalgkmellbamgaa
