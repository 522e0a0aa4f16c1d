/- What the laws over chips draw. -/
import Derived.Test.YtalgkmellbamgaaRaw
import Derived.Test.YtalgkmellbamgaaDr0
import Derived.WalkKit
import Derived.Outline
namespace Go.Proofs.Ytalgkmellbamgaa
open Go.RowKit
set_option linter.unusedVariables false
set_option linter.unusedSimpArgs false

/-- A drawn chip, as it lies. -/
def ChipIn (w : World) (a : Option Addr) (n : Nat) (bs : List Bk) : Prop := bs.length = n ∧ BlocksAt w a bs ∧ Lens 1048576 bs
theorem ChipIn.below {w w' : World} {a : Option Addr} {n : Nat} {bs : List Bk} (h : ChipIn w a n bs) (hB : Below w.heap.size w w') : ChipIn w' a n bs := ⟨h.1, h.2.1.below hB (Nat.le_refl _), h.2.2⟩
theorem RawAt.chipIn {w : World} {B : Nat} {a : Option Addr} {n : Nat} {bs : List Bk} (h : RawAt w B a n bs) : ChipIn w a n bs := ⟨h.1, h.2.2.2.2.blocksAt, h.lens⟩

theorem setApartB {w : World} {P : Nat} {x : Option Addr} {y z : Nat} (hP : w.cell? ⟨P, 0, none⟩ = some (.slice x y z)) {a : Option Addr} {bs : List Bk} (h : BlocksAt w a bs) (u : Value) : BlocksAt (w.setCell ⟨P, 0, none⟩ u) a bs := by
  intro i b hb
  obtain ⟨g, o, pa, pc, ha, h0, h1, h2⟩ := h i b hb
  refine ⟨g, o, pa, pc, ha, cell_apartS hP h0 (.inr fun _ _ _ e => by cases e) u, cell_apartS hP h1 (.inl (by omega)) u, fun j p hp => ?_⟩
  obtain ⟨q, r, hq, c0, c1, c2, c3⟩ := h2 j p hp
  exact ⟨q, r, hq, cell_apartS hP c0 (.inr fun _ _ _ e => by cases e) u, cell_apartS hP c1 (.inr fun _ _ _ e => by cases e) u, cell_apartS hP c2 (.inr fun _ _ _ e => by cases e) u, cell_apartS hP c3 (.inr fun _ _ _ e => by cases e) u⟩

set_option maxRecDepth 100000 in
set_option maxHeartbeats 2000000 in
theorem drawNextOf_any (a : Option Addr) (n c : Nat) (w : World) (h : CodeAt w a n) (hn : n ≤ 1048576) :
    Calls Try.prog 70 #[.slice a n c] w fun e w' => ∃ a2 n2 c2 bs z, e = .returned (.tuple #[.agg #[.slice a2 n2 c2], .int .i64 z]) ∧ ChipIn w' a2 n2 bs ∧ Below w.heap.size w w' := by
  have hB1 : ∀ o, Below w.heap.size w (w.alloc o) := fun o => (Below.refl _ _).alloc (Nat.le_refl _) _
  go_enter Try.func70, Try.ntmps70
  go_wp2_with fail
  refine (l1Open_any a n c _ (h.below (hB1 _) (Nat.le_refl _)) hn).mono ?_
  rintro e w1 ⟨rfl, hR, hB⟩
  have c1 : w1.cell? ⟨w.heap.size, 0, none⟩ = some (.slice none 0 0) := (hB.cell (p := ⟨w.heap.size, 0, none⟩) (by simp)).trans (by simp)
  have f1 : w1.frozen? ⟨w.heap.size, 0, none⟩ = false := (hB.frozen (p := ⟨w.heap.size, 0, none⟩) (by simp)).trans (by simp)
  have hW1 : Below w.heap.size w w1 := (hB1 _).trans (hB.mono (by simp))
  simp only [World.size_alloc] at hR hB ⊢
  obtain ⟨r, hr⟩ : ∃ r, r = w.heap.size + 1 := ⟨_, rfl⟩
  rw [← hr] at hR hB ⊢
  have hrl := hR.lt
  have HR1 := hide hR
  have hwr : w.heap.size < r := by omega
  clear h hB hR hB1 hr
  go_wp2_with fail
  refine (raw_any r _ (unhide HR1)).mono ?_
  rintro e w2 ⟨a2, n2, c2, bs, rfl, hraw, hR2, hT2⟩
  have hs2 := hT2.size
  have c2' := (hT2.cell (b := w.heap.size) (o := 0) (by omega) (by show ¬ w.heap.size = r; omega)).trans c1
  have f2' := (hT2.frozen (b := w.heap.size) (o := 0) (by omega) (by show ¬ w.heap.size = r; omega)).trans f1
  have hW2 : Below w.heap.size w w2 := hW1.trans (hT2.below hW1.size fun k hk => by subst hk; omega)
  have HR2 := hide hR2
  have HRW2 := hide hraw
  clear hraw hR2 hT2 HR1 c1 f1 hW1
  obtain ⟨w3, hw3⟩ : ∃ w3, w3 = w2.alloc (.cells #[.slice a2 n2 c2] 26) := ⟨_, rfl⟩
  have hB3 : Below w2.heap.size w2 w3 := by rw [hw3]; exact (Below.refl _ _).alloc (Nat.le_refl _) _
  have hs3 : w2.heap.size + 1 ≤ w3.heap.size := by rw [hw3]; simp
  have p3 : w3.cell? ⟨w2.heap.size, 0, none⟩ = some (.slice a2 n2 c2) := by rw [hw3]; simp
  have c3 := (hB3.cell (p := ⟨w.heap.size, 0, none⟩) (by show w.heap.size < _; omega)).trans c2'
  have f3 := (hB3.frozen (p := ⟨w.heap.size, 0, none⟩) (by show w.heap.size < _; omega)).trans f2'
  have hW3 := hW2.trans (hB3.mono hW2.size)
  have HR3 : Hid (RdAt w3.drew r) := (unhide HR2).below hB3.drew
  have HRW3 := hide ((unhide HRW2).below hB3)
  go_wp2_with fail
  rw [← hw3]
  clear hw3 hB3 HR2 HRW2 c2' f2' hW2
  go_region_with (first
    | (go_at_call 59
       refine (off_any r 0 5 _ (unhide HR3) (by omega) (by omega) (by omega)).mono ?_
       rintro e w4 ⟨z, rfl, hR4, hT4⟩
       have hT34 : Touch (· = r) w3 w4 := (Touch.refl _ w3).drew.trans hT4
       have p4 := (hT34.cell (b := w2.heap.size) (o := 0) (by omega) (by show ¬ w2.heap.size = r; omega)).trans p3
       have c4 := (hT34.cell (b := w.heap.size) (o := 0) (by omega) (by show ¬ w.heap.size = r; omega)).trans c3
       have f4 := (hT34.frozen (b := w.heap.size) (o := 0) (by omega) (by show ¬ w.heap.size = r; omega)).trans f3
       have HT4 := hide hT34
       clear hR4 hT4 hT34))
  all_goals (
    have hW4 : Below w.heap.size w w4 := hW3.trans ((unhide HT4).below hW3.size fun k hk => by subst hk; omega)
    have HRW4 := hide ((unhide HRW3).touch hrl (unhide HT4))
    clear p3 c3 f3 hW3 HT4 HRW3 p4
    go_wp2
    exact bodyPost_ret (v := .tuple #[.agg #[.slice a2 n2 c2], .int .i64 z]) (by simp [results, Try.results70, go_sem, c4]) rfl ⟨_, n2, c2, bs, z, rfl, ((unhide HRW4).setApart c4 _).chipIn, hW4.setCell (by simp) _⟩)

theorem drawErased_any (a : Option Addr) (n c : Nat) (w : World) (h : CodeAt w a n) (hn : n ≤ 1048576) :
    Calls Try.prog 19 #[.slice a n c] w fun e w' => ∃ a2 n2 c2 bs z, e = .returned (.tuple #[.agg #[.slice a2 n2 c2], .int .i64 z]) ∧ ChipIn w' a2 n2 bs ∧ Below w.heap.size w w' := by
  have hB1 : ∀ o, Below w.heap.size w (w.alloc o) := fun o => (Below.refl _ _).alloc (Nat.le_refl _) _
  go_enter Try.func19, Try.ntmps19
  go_wp2_with fail
  refine (drawNextOf_any a n c _ (h.below (hB1 _) (Nat.le_refl _)) hn).mono ?_
  rintro e w1 ⟨a2, n2, c2, bs, z, rfl, hC, hB⟩
  have c1 : w1.cell? ⟨w.heap.size, 0, none⟩ = some (.slice none 0 0) := (hB.cell (p := ⟨w.heap.size, 0, none⟩) (by simp)).trans (by simp)
  have f1 : w1.frozen? ⟨w.heap.size, 0, none⟩ = false := (hB.frozen (p := ⟨w.heap.size, 0, none⟩) (by simp)).trans (by simp)
  have hW1 : Below w.heap.size w w1 := (hB1 _).trans (hB.mono (by simp))
  have HC := hide hC
  clear h hB hC hB1
  go_wp2
  have hA : BlocksAt (w1.setCell ⟨w.heap.size, 0, none⟩ (.slice a2 n2 c2)) a2 bs := setApartB c1 (unhide HC).2.1 _
  exact bodyPost_ret (v := .tuple #[.agg #[.slice a2 n2 c2], .int .i64 z]) (by simp [results, Try.results19, go_sem, c1]) rfl ⟨_, n2, c2, bs, z, rfl, ⟨(unhide HC).1, hA, (unhide HC).2.2⟩, hW1.setCell (by simp) _⟩
end Go.Proofs.Ytalgkmellbamgaa
