/- 2 texts in one. -/
import Derived.Test.YtalgkmellbamgaaG31
import Derived.Test.YtalgkmellbamgaaG17
import Derived.Test.YtalgkmellbamgaaG14
import Derived.Test.YtalgkmellbamgaaG19
import Derived.WalkKit
import Derived.Outline

/- The chips that the laws draw: raw. -/
namespace Go.Proofs.Ytalgkmellbamgaa
open Go.RowKit
set_option linter.unusedVariables false
set_option linter.unusedSimpArgs false

theorem zeroBk_pageR {k : Nat} {p : Pg} (h : zeroBk.pages[k]? = some p) : p = zeroPg := by
  have hm := List.mem_of_getElem? h
  simp [zeroBk] at hm
  exact hm
theorem newOk {n : Nat} (h1 : 4 ≤ n) (h2 : n ≤ 12) : ChipOk (List.replicate n zeroBk) := by
  have hs : ∀ k, seqs (List.replicate k zeroBk) = [] := fun k => by
    induction k with
    | zero => rfl
    | succ k ih => simp [seqs, seqsP, zeroBk, zeroPg]
  refine ⟨by simp; omega, fun b hb => ?_, by rw [hs]; exact List.nodup_nil⟩
  rw [List.eq_of_mem_replicate hb]
  exact ⟨by simp [zeroBk], rfl, fun k p hp => by rw [zeroBk_pageR hp]; rfl, fun k p q hq hp hu => by rw [zeroBk_pageR hp] at hu; cases hu⟩

/-- What raw gives: a chip of four to twelve blocks of four pages, in rows from B on. -/
def RawAt (w : World) (B : Nat) (a : Option Addr) (n : Nat) (bs : List Bk) : Prop :=
  bs.length = n ∧ 4 ≤ n ∧ n ≤ 12 ∧ (∀ b ∈ bs, b.pages.length = 4) ∧ ChipS (fun k => B ≤ k) w a bs

theorem RawAt.lens {w : World} {B : Nat} {a : Option Addr} {n : Nat} {bs : List Bk} (h : RawAt w B a n bs) : Lens 1048576 bs := ⟨by have := h.1; have := h.2.2.1; omega, fun b hb => by rw [h.2.2.2.1 b hb]; omega⟩
theorem RawAt.touch {w w' : World} {r B : Nat} {a : Option Addr} {n : Nat} {bs : List Bk} (h : RawAt w B a n bs) (hr : r < B) (hT : Touch (· = r) w w') : RawAt w' B a n bs := ⟨h.1, h.2.1, h.2.2.1, h.2.2.2.1, h.2.2.2.2.touch h.2.2.2.1 hT fun k hk => by show ¬ k = r; omega⟩
theorem RawAt.below {w w' : World} {B : Nat} {a : Option Addr} {n : Nat} {bs : List Bk} (h : RawAt w B a n bs) (hB : Below w.heap.size w w') : RawAt w' B a n bs := ⟨h.1, h.2.1, h.2.2.1, h.2.2.2.1, h.2.2.2.2.below h.2.2.2.1 hB⟩
theorem RawAt.setApart {w : World} {B : Nat} {P : Nat} {x : Option Addr} {y z : Nat} (hP : w.cell? ⟨P, 0, none⟩ = some (.slice x y z)) {a : Option Addr} {n : Nat} {bs : List Bk} (h : RawAt w B a n bs) (u : Value) : RawAt (w.setCell ⟨P, 0, none⟩ u) B a n bs := ⟨h.1, h.2.1, h.2.2.1, h.2.2.2.1, h.2.2.2.2.setApart hP u⟩
theorem RawAt.store {w : World} {B : Nat} {a : Option Addr} {n : Nat} {bs : List Bk} (h : RawAt w B a n bs) {t : Addr} {y : Int} (ht : w.cell? t = some (.int .i64 y)) (x : Int) : ∃ bs', RawAt (w.setCell t (.int .i64 x)) B a n bs' := by
  obtain ⟨bs', hl, hb, hC⟩ := h.2.2.2.2.store ht x
  refine ⟨bs', hl.trans h.1, h.2.1, h.2.2.1, fun b hm => ?_, hC⟩
  obtain ⟨i, hi⟩ := List.mem_iff_getElem?.1 hm
  obtain ⟨c, hc, e⟩ := hb i b hi
  rw [e]
  exact h.2.2.2.1 c (List.mem_of_getElem? hc)
theorem RawAt.of {w : World} {B B' K : Nat} {a : Option Addr} {n : Nat} {bs : List Bk} (hl : bs.length = n) (hok : ChipOk bs) (h : ChipS (fun k => B' ≤ k ∧ k < K) w a bs) (hr : B ≤ B') : RawAt w B a n bs :=
  ⟨hl, by have := hok.count; omega, by have := hok.count; omega, fun b hb => (hok.block b hb).four, h.mono fun k hk => by omega⟩
theorem RawAt.drew {w : World} {B : Nat} {a : Option Addr} {n : Nat} {bs : List Bk} (h : RawAt w B a n bs) : RawAt w.drew B a n bs := h.below (Below.refl _ w).drew

theorem rd_store {w : World} {r : Nat} (h : RdAt w r) {t : Addr} {y : Int} (ht : w.cell? t = some (.int .i64 y)) (hr : t.block ≠ r) (x : Int) : RdAt (w.setCell t (.int .i64 x)) r := by
  obtain ⟨a, n, c, p, h0, h1, hf, h2, h3, h4⟩ := h
  have ho : ∀ j, t ≠ ⟨r, j, none⟩ := fun j e => hr (by rw [e])
  have hc : ∀ j v, w.cell? ⟨r, j, none⟩ = some v → (w.setCell t (.int .i64 x)).cell? ⟨r, j, none⟩ = some v := fun j v hv => by
    rw [World.cell?_setCell_other _ _ _ _ (by first | exact ho j | exact fun e => ho j e.symm)]; exact hv
  refine ⟨a, n, c, p, hc _ _ h0, hc _ _ h1, ⟨fun i => by simpa using hf.1 i, fun i => by rw [World.cell?_setCell_other _ _ _ _ (by first | exact ho _ | exact fun e => ho _ e.symm)]; exact hf.2 i⟩, h2, h3, fun i hi => ?_⟩
  obtain ⟨b, o, z, ha, hb, hz, hx⟩ := h4 i hi
  refine ⟨b, o, z, ha, hb, ?_, hx⟩
  have hne : t ≠ ⟨b, o + i, none⟩ := fun e => by
    rw [← e, ht] at hz
    cases hz
  rw [World.cell?_setCell_other _ _ _ _ (by first | exact hne | exact fun e => hne e.symm)]
  exact hz

theorem rd_apart {w : World} {r P : Nat} (h : RdAt w r) (hP : r < P) (u : Value) : RdAt (w.setCell ⟨P, 0, none⟩ u) r := by
  exact h.past ((Below.refl P w).setCell (Nat.le_refl _) _) hP

theorem Touch.setNew {S : Nat → Prop} {w w' : World} (h : Touch S w w') {p : Addr} (hp : w.heap.size ≤ p.block) (u : Value) : Touch S w (w'.setCell p u) :=
  ⟨h.os, h.tape, h.output, by simpa [World.setCell] using h.size, fun k hk hs => (Below.heap_setCell _ _ _ _ (fun e => by omega)).trans (h.block k hk hs)⟩

set_option maxRecDepth 100000 in
set_option maxHeartbeats 4000000 in
theorem raw_any (r : Nat) (w : World) (h : RdAt w r) :
    Calls Try.prog 56 #[.pointer (some ⟨r, 0, none⟩)] w fun e w' => ∃ a n c bs, e = .returned (.agg #[.slice a n c]) ∧ RawAt w' w.heap.size a n bs ∧ RdAt w' r ∧ Touch (· = r) w w' := by
  have hrl := h.lt
  have hB1 : ∀ o, Below w.heap.size w (w.alloc o) := fun o => (Below.refl _ _).alloc (Nat.le_refl _) _
  go_enter Try.func56, Try.ntmps56
  go_wp2_with fail
  refine (below_any r 3 _ (h.below (hB1 _)) (by omega) (by omega)).mono ?_
  rintro e w1 ⟨x, rfl, hx0, hx1, hR1, hT1⟩
  have hT01 : Touch (· = r) w w1 := ((Touch.refl (· = r) w).alloc _).trans hT1
  have hs1 := hT1.size
  simp at hs1
  have c1 : w1.cell? ⟨w.heap.size, 0, none⟩ = some (.slice none 0 0) := (hT1.cell (by simp) (by show ¬ w.heap.size = r; omega)).trans (by simp)
  have f1 : w1.frozen? ⟨w.heap.size, 0, none⟩ = false := (hT1.frozen (by simp) (by show ¬ w.heap.size = r; omega)).trans (by simp)
  have HR1 := hide hR1
  obtain ⟨x, rfl⟩ := Int.eq_ofNat_of_zero_le hx0
  clear hR1 hT1 h hB1
  have HCN := hide (specChipNew_soft (4 + x) w1 (by omega) (by omega))
  go_wp2_with fail
  have e4 : (4 : Int) + (x : Int) = ((4 + x : Nat) : Int) := by omega
  first | rw [e4] | skip
  refine (unhide HCN).mono ?_
  rintro e w2 ⟨a, c, rfl, hS, hB2⟩
  have hs2 := hB2.size
  have hok : ChipOk (List.replicate (4 + x) zeroBk) := newOk (by omega) (by omega)
  have hraw := RawAt.of (B := w.heap.size) (n := 4 + x) (by simp) hok hS (by omega)
  have HOK := hide hok
  have c2 := (hB2.cell (p := ⟨w.heap.size, 0, none⟩) (by show w.heap.size < _; omega)).trans c1
  have f2 := (hB2.frozen (p := ⟨w.heap.size, 0, none⟩) (by show w.heap.size < _; omega)).trans f1
  have hT02 := hT01.trans (Touch.of_below hB2)
  have HR2 := hide ((unhide HR1).below hB2)
  obtain ⟨bs, hbs⟩ : ∃ bs, bs = List.replicate (4 + x) zeroBk := ⟨_, rfl⟩
  rw [← hbs] at hraw HOK
  have HRW := hide hraw
  obtain ⟨n, hn⟩ : ∃ n, n = 4 + x := ⟨_, rfl⟩
  rw [← hn] at HRW ⊢
  clear hS hB2 hok hraw HR1 hbs HCN c1 f1 hT01 hn e4
  obtain ⟨w3, hw3⟩ : ∃ w3, w3 = w2.alloc (.cells #[.slice a n c] 26) := ⟨_, rfl⟩
  have hB3 : Below w2.heap.size w2 w3 := by rw [hw3]; exact (Below.refl _ _).alloc (Nat.le_refl _) _
  have hs3 : w2.heap.size + 1 ≤ w3.heap.size := by rw [hw3]; simp
  have p3 : w3.cell? ⟨w2.heap.size, 0, none⟩ = some (.slice a n c) := by rw [hw3]; simp
  have q3 : w3.frozen? ⟨w2.heap.size, 0, none⟩ = false := by rw [hw3]; simp
  have c3 := (hB3.cell (p := ⟨w.heap.size, 0, none⟩) (by show w.heap.size < _; omega)).trans c2
  have f3 := (hB3.frozen (p := ⟨w.heap.size, 0, none⟩) (by show w.heap.size < _; omega)).trans f2
  have hT03 := hT02.trans (Touch.of_below hB3)
  have HR3 := hide ((unhide HR2).below hB3)
  have HRW3 := hide ((unhide HRW).below hB3)
  have hP : r < w2.heap.size := by omega
  have hP0 : w.heap.size < w2.heap.size := by omega
  obtain ⟨P, hPe⟩ : ∃ P, P = w2.heap.size := ⟨_, rfl⟩
  go_wp2_with (fail)
  rw [← hw3]
  rw [← hPe] at hs3 p3 q3 hP hP0 ⊢
  clear hw3 hB3 HR2 HRW c2 f2 hT02 hPe hs2
  refine (below_any r 18 _ (unhide HR3) (by omega) (by omega)).mono ?_
  rintro e w4 ⟨k0, rfl, hk0, hk1, hR4, hT4⟩
  have c4 := (hT4.cell (b := w.heap.size) (o := 0) (by omega) (by show ¬ w.heap.size = r; omega)).trans c3
  have f4 := (hT4.frozen (b := w.heap.size) (o := 0) (by omega) (by show ¬ w.heap.size = r; omega)).trans f3
  have p4 := (hT4.cell (b := P) (o := 0) (by omega) (by show ¬ P = r; omega)).trans p3
  have q4 := (hT4.frozen (b := P) (o := 0) (by omega) (by show ¬ P = r; omega)).trans q3
  have HRW4 := hide ((unhide HRW3).touch hrl hT4)
  have HR4 := hide hR4
  have hT04 := hT03.trans hT4
  have hs4 := hT4.size
  obtain ⟨k0, rfl⟩ := Int.eq_ofNat_of_zero_le hk0
  clear hR4 hT4 HR3 HRW3 c3 f3 p3 q3 hT03
  go_wp2
  go_loopw [5, 6] (fun vs vi wr => ∃ (s : Int) (k : Nat) (a : Option Addr) (n c : Nat) (bs : List Bk), vs = .int .i64 s ∧ vi = .int .i64 k ∧ k ≤ 17 ∧ 0 ≤ s ∧ s ≤ 60 - 3 * (k : Int) ∧ ChipOk bs ∧ RawAt wr w.heap.size a n bs ∧ wr.cell? ⟨P, 0, none⟩ = some (.slice a n c) ∧ wr.frozen? ⟨P, 0, none⟩ = false ∧ wr.cell? ⟨w.heap.size, 0, none⟩ = some (.slice none 0 0) ∧ wr.frozen? ⟨w.heap.size, 0, none⟩ = false ∧ RdAt wr r ∧ Touch (· = r) w wr ∧ P < wr.heap.size) (fun _ vi _ => (intOf vi).toNat)
  case atStart => exact ⟨1, k0, a, n, c, bs, rfl, rfl, by omega, by omega, by omega, unhide HOK, unhide HRW4, p4, q4, c4, f4, unhide HR4, hT04, by omega⟩
  case round =>
    clear p4 q4 c4 f4 HR4 HRW4 hT04 hs4 hs3
    obtain ⟨s, k, a, n, c, bs, rfl, rfl, hk17, hs0, hs60, hok, hraw, p5, q5, c5, f5, hR5, hT05, hPl⟩ := hrel
    obtain ⟨w5, rfl⟩ : ∃ w5, w5 = wr := ⟨_, rfl⟩
    have hn4 : 4 ≤ n := hraw.2.1
    have hn12 : n ≤ 12 := hraw.2.2.1
    have HOK := hide hok
    have HRW5 := hide hraw
    have HR5 := hide hR5
    clear hok hraw hR5
    by_cases hlt : 0 < k
    · have hki : (0 : Int) < (k : Int) := by omega
      go_wp2_with fail
      refine (below_any r (n : Int) _ (unhide HR5) (by omega) (by omega)).mono ?_
      rintro e w6 ⟨blk, rfl, hb0, hb1, hR6, hT6⟩
      have hs6 := hT6.size
      have c6 := (hT6.cell (b := w.heap.size) (o := 0) (by omega) (by show ¬ w.heap.size = r; omega)).trans c5
      have f6 := (hT6.frozen (b := w.heap.size) (o := 0) (by omega) (by show ¬ w.heap.size = r; omega)).trans f5
      have p6 := (hT6.cell (b := P) (o := 0) (by omega) (by show ¬ P = r; omega)).trans p5
      have q6 := (hT6.frozen (b := P) (o := 0) (by omega) (by show ¬ P = r; omega)).trans q5
      have HRW6 := hide ((unhide HRW5).touch hrl hT6)
      have HR6 := hide hR6
      have hT06 := hT05.trans hT6
      clear hR6 hT6 HR5 HRW5 c5 f5 p5 q5 hT05
      go_wp2_with fail
      refine (once_any r 6 _ (unhide HR6) (by omega) (by omega)).mono ?_
      rintro e w7 ⟨z, rfl, hR7, hT7⟩
      have hs7 := hT7.size
      have c7 := (hT7.cell (b := w.heap.size) (o := 0) (by omega) (by show ¬ w.heap.size = r; omega)).trans c6
      have f7 := (hT7.frozen (b := w.heap.size) (o := 0) (by omega) (by show ¬ w.heap.size = r; omega)).trans f6
      have p7 := (hT7.cell (b := P) (o := 0) (by omega) (by show ¬ P = r; omega)).trans p6
      have q7 := (hT7.frozen (b := P) (o := 0) (by omega) (by show ¬ P = r; omega)).trans q6
      have HRW7 := hide ((unhide HRW6).touch hrl hT7)
      have HR7 := hide hR7
      have hT07 := hT06.trans hT7
      have hP7 : P < w7.heap.size := by omega
      have hr7 : r < w7.heap.size := by omega
      clear hR7 hT7 HR6 HRW6 c6 f6 p6 q6 hT06
      cases hz : (z == (6 : Int) - 1) with
      | true =>
        go_wp2_with fail
        refine (specErased_soft a c bs n (unhide HRW7).1 blk _ (unhide HRW7).2.2.2.2.blocksAt (unhide HRW7).lens).mono ?_
        rintro e w8 ⟨a2, n2, c2, out, code, rfl, hE, hol, hS, hB8⟩
        have hs8 := hB8.size
        have hok2 := hE.ok (unhide HOK)
        have c8 := (hB8.cell (p := ⟨w.heap.size, 0, none⟩) (by show w.heap.size < _; omega)).trans c7
        have f8 := (hB8.frozen (p := ⟨w.heap.size, 0, none⟩) (by show w.heap.size < _; omega)).trans f7
        have p8 := (hB8.cell (p := ⟨P, 0, none⟩) hP7).trans p7
        have q8 := (hB8.frozen (p := ⟨P, 0, none⟩) hP7).trans q7
        have hraw8 : RawAt w8 w.heap.size a2 n2 out := RawAt.of hol hok2 hS (by omega)
        have HRW8 := hide hraw8
        have HOK8 := hide hok2
        have HR8 := hide ((unhide HR7).below hB8)
        have hT08 := hT07.trans (Touch.of_below hB8)
        have hPw : ¬ P < w.heap.size := by omega
        clear hE hS hok2 hB8 HR7 HRW7 c7 f7 p7 q7 hT07 hraw8
        go_wp2
        go_roundw
        case rel =>
          refine ⟨s, k - 1, a2, n2, c2, out, rfl, by first | go_num | (congr 1; omega), by omega, hs0, by omega, unhide HOK8, (unhide HRW8).setApart p8 _, World.cell?_setCell_same' _ _ _ (by rw [p8]; rfl), by simpa using q8, ?_, by simpa using f8, rd_apart (unhide HR8) hP _, hT08.setNew (by show w.heap.size ≤ P; omega) _, by simp [World.setCell]; omega⟩
          rw [World.cell?_setCell_other _ _ _ _ (by simp <;> omega)]; exact c8
        case measure => simp [intOf]; omega
      | false =>
        go_wp2_with fail
        refine (below_any r 3 _ (unhide HR7) (by omega) (by omega)).mono ?_
        rintro e w8 ⟨y, rfl, hy0, hy1, hR8, hT8⟩
        have hs8 := hT8.size
        have c8 := (hT8.cell (b := w.heap.size) (o := 0) (by omega) (by show ¬ w.heap.size = r; omega)).trans c7
        have f8 := (hT8.frozen (b := w.heap.size) (o := 0) (by omega) (by show ¬ w.heap.size = r; omega)).trans f7
        have p8 := (hT8.cell (b := P) (o := 0) (by omega) (by show ¬ P = r; omega)).trans p7
        have q8 := (hT8.frozen (b := P) (o := 0) (by omega) (by show ¬ P = r; omega)).trans q7
        have HRW8 := hide ((unhide HRW7).touch hrl hT8)
        have HR8 := hide hR8
        have hT08 := hT07.trans hT8
        clear hR8 hT8 HR7 HRW7 c7 f7 p7 q7 hT07
        have hP8 : P < w8.heap.size := by omega
        have hr8 : r < w8.heap.size := by omega
        have HR8d : Hid (RdAt w8.drew r) := (unhide HR8)
        have hw8 : w.heap.size ≤ w8.heap.size := by omega
        have HT8d : Hid (Touch (· = r) w8 w8.drew) := (Touch.refl _ w8).drew
        go_wp2_with fail
        go_region_with (first
          | (go_at_call 57
             refine (below_any r 5 _ (by first | exact unhide HRd | exact unhide HR8d) (by omega) (by omega)).mono ?_
             rintro e wb ⟨yb, rfl, hyb0, hyb1, hRb, hTb⟩
             have HTb : Hid (Touch (· = r) w8 wb) := by first | exact (unhide HTd).trans hTb | exact (unhide HT8d).trans hTb
             have HRb := hide hRb
             have pb := ((unhide HTb).cell (b := P) (o := 0) hP8 (by show ¬ P = r; omega)).trans p8
             clear hRb hTb)
          | (go_at_call 58
             refine (data_any r _ (by first | exact unhide HRb | exact unhide HR8d)).mono ?_
             rintro e wd ⟨xd, rfl, hxd, hRd, hTd⟩
             have HTd : Hid (Touch (· = r) w8 wd) := by first | exact (unhide HTb).trans hTd | exact (unhide HT8d).trans hTd
             have HRd := hide hRd
             have pd := ((unhide HTd).cell (b := P) (o := 0) hP8 (by show ¬ P = r; omega)).trans p8
             clear hRd hTd)
          | (go_at_call 14
             refine (specProgrammed_soft a c bs n (unhide HRW8).1 blk true yb (s + (1 + y)) xd _ (by first | exact ((unhide HRW8).touch hrl (unhide HTd)).2.2.2.2.blocksAt | exact ((unhide HRW8).touch hrl (unhide HTb)).2.2.2.2.blocksAt) (unhide HRW8).lens).mono ?_
             rintro e wp ⟨a2, n2, c2, out, code, rfl, hE, hol, hS, hBp⟩
             have hraww : RawAt wp w.heap.size a2 n2 out := RawAt.of hol (hE.ok (unhide HOK)) hS (by first | exact Nat.le_trans hw8 (unhide HTd).size | exact Nat.le_trans hw8 (unhide HTb).size)
             have HRWp := hide hraww
             have HOKp := hide (hE.ok (unhide HOK))
             have HTp : Hid (Touch (· = r) w8 wp) := by first | exact (unhide HTd).trans (Touch.of_below hBp) | exact (unhide HTb).trans (Touch.of_below hBp)
             have HRp : Hid (RdAt wp r) := by first | exact (unhide HRd).below hBp | exact (unhide HRb).below hBp
             have pp := ((unhide HTp).cell (b := P) (o := 0) hP8 (by show ¬ P = r; omega)).trans p8
             have qp := ((unhide HTp).frozen (b := P) (o := 0) hP8 (by show ¬ P = r; omega)).trans q8
             clear hE hS hBp hraww))
        all_goals (
          have hsp := (unhide HTp).size
          have cp := ((unhide HTp).cell (b := w.heap.size) (o := 0) (by omega) (by show ¬ w.heap.size = r; omega)).trans c8
          have fp := ((unhide HTp).frozen (b := w.heap.size) (o := 0) (by omega) (by show ¬ w.heap.size = r; omega)).trans f8
          clear c8 f8 p8 q8
          try clear pb
          try clear pd
          go_wp2
          go_roundw
          case rel =>
            refine ⟨s + (1 + y), k - 1, a2, n2, c2, out, rfl, by first | go_num | (congr 1; omega), by omega, by omega, by omega, unhide HOKp, (unhide HRWp).setApart pp _, World.cell?_setCell_same' _ _ _ (by rw [pp]; rfl), by simpa using qp, ?_, by simpa using fp, rd_apart (unhide HRp) hP _, (hT08.trans (unhide HTp)).setNew (by show w.heap.size ≤ P; omega) _, by simp [World.setCell]; omega⟩
            rw [World.cell?_setCell_other _ _ _ _ (by simp <;> omega)]; exact cp
          case measure => simp [intOf]; omega)
    · have hki : ¬ (0 : Int) < (k : Int) := by omega
      go_wp2_with fail
      refine (below_any r 40 _ (unhide HR5) (by omega) (by omega)).mono ?_
      rintro e w6 ⟨x6, rfl, hx60, hx61, hR6, hT6⟩
      have hs6 := hT6.size
      have c6 := (hT6.cell (b := w.heap.size) (o := 0) (by omega) (by show ¬ w.heap.size = r; omega)).trans c5
      have f6 := (hT6.frozen (b := w.heap.size) (o := 0) (by omega) (by show ¬ w.heap.size = r; omega)).trans f5
      have p6 := (hT6.cell (b := P) (o := 0) (by omega) (by show ¬ P = r; omega)).trans p5
      have q6 := (hT6.frozen (b := P) (o := 0) (by omega) (by show ¬ P = r; omega)).trans q5
      have HRW6 := hide ((unhide HRW5).touch hrl hT6)
      have HR6 := hide hR6
      have hT06 := hT05.trans hT6
      clear hR6 hT6 HR5 HRW5 c5 f5 p5 q5 hT05
      have hP6 : P < w6.heap.size := by omega
      have hr6 : r < w6.heap.size := by omega
      obtain ⟨b0, hb0⟩ := getElem?_ex (l := bs) (k := 0) (by have := (unhide HRW6).1; omega)
      have h4 := (unhide HRW6).2.2.2.1 b0 (List.mem_of_getElem? hb0)
      obtain ⟨g, o, q, qo, pc, rfl, hgr, hqr, fg, fq, d0, d1, hPg⟩ := (unhide HRW6).2.2.2.2 0 b0 hb0
      obtain ⟨pg, hpg⟩ := getElem?_ex (l := b0.pages) (k := 0) (by omega)
      have e2 := (pagesAt_cells4 hPg hpg).2.2.1
      simp only [Nat.zero_mul, Nat.add_zero] at d0 d1 e2
      rw [h4] at d1
      have hg6 : g < w6.heap.size := World.block_lt_of_cell? _ _ d0
      have hq6 : q < w6.heap.size := World.block_lt_of_cell? _ _ e2
      have hn0 : (0 : Int) < (n : Int) := by omega
      have HR6d : Hid (RdAt w6.drew r) := (unhide HR6)
      have HT6d : Hid (Touch (· = r) w6 w6.drew) := (Touch.refl _ w6).drew
      have hgr' : w.heap.size ≤ g := hgr
      have hqr' : w.heap.size ≤ q := hqr
      clear hPg hpg hb0 h4
      by_cases e38 : x6 = 38
      · subst e38
        go_wp2_with fail
        go_region_with (first
          | (go_at_call 59
             refine (off_any r 1 9 _ (unhide HR6d) (by omega) (by omega) (by omega)).mono ?_
             rintro e w8 ⟨z, rfl, hR8, hT8⟩
             have hT68 := (unhide HT6d).trans hT8
             have p8 := (hT68.cell (b := P) (o := 0) hP6 (by show ¬ P = r; omega)).trans p6
             have d18 := (hT68.cell (b := g) (o := o + 1) hg6 (by show ¬ g = r; omega)).trans d1
             have e28 := (hT68.cell (b := q) (o := qo + 2) hq6 (by show ¬ q = r; omega)).trans e2
             have fq8 := fun j => (hT68.frozen (b := q) (o := j) hq6 (by show ¬ q = r; omega)).trans (fq j)
             have HT8 := hide hT68
             have HR8 := hide hR8
             clear hR8 hT8 hT68))
        all_goals (
          obtain ⟨bs9, hraw9⟩ := ((unhide HRW6).touch hrl (unhide HT8)).store e28 z
          have c8 := ((unhide HT8).cell (b := w.heap.size) (o := 0) (by omega) (by show ¬ w.heap.size = r; omega)).trans c6
          have f8 := ((unhide HT8).frozen (b := w.heap.size) (o := 0) (by omega) (by show ¬ w.heap.size = r; omega)).trans f6
          have c9 := keep_int e28 z c8 (fun _ _ e => by cases e)
          have p9 := keep_int e28 z p8 (fun _ _ e => by cases e)
          have f9 : (w8.setCell ⟨q, qo + 2, none⟩ (.int .i64 z)).frozen? ⟨w.heap.size, 0, none⟩ = false := by simpa using f8
          have hR9 := rd_store (unhide HR8) e28 (by show q ≠ r; omega) z
          have hT9 : Touch (· = r) w (w8.setCell ⟨q, qo + 2, none⟩ (.int .i64 z)) := (hT06.trans (unhide HT8)).setNew (by show w.heap.size ≤ q; exact hqr) _
          generalize w8.setCell ⟨q, qo + 2, none⟩ (.int .i64 z) = w9 at c9 p9 f9 hR9 hT9 hraw9 ⊢
          have HR9 := hide hR9
          have HRW9 := hide hraw9
          clear c8 f8 p8 c6 f6 p6 q6 hR9 hraw9 HR8 HRW6 HR6 hT06 d0 d1 e2 fg fq HR6d HT6d
          try clear d18
          try clear e28
          try clear fq8
          go_wp2
          refine bodyPost_ret (v := .agg #[.slice (some ⟨g, o, none⟩) n c]) (by simp [results, Try.results56, go_sem, c9]) rfl ⟨_, n, c, bs9, rfl, (unhide HRW9).setApart c9 _, rd_apart (unhide HR9) hrl _, hT9.setNew (Nat.le_refl _) _⟩)
      · have hb38 : (x6 == 38) = false := by simpa using e38
        by_cases e39 : x6 = 39
        · subst e39
          go_wp2_with fail
          go_region_with (first
            | (go_at_call 59
               refine (off_any r 0 1000000000 _ (unhide HR6d) (by omega) (by omega) (by omega)).mono ?_
               rintro e w8 ⟨z, rfl, hR8, hT8⟩
               have hT68 := (unhide HT6d).trans hT8
               have p8 := (hT68.cell (b := P) (o := 0) hP6 (by show ¬ P = r; omega)).trans p6
               have d08 := (hT68.cell (b := g) (o := o) hg6 (by show ¬ g = r; omega)).trans d0
               have fq8 := fun j => (hT68.frozen (b := g) (o := j) hg6 (by show ¬ g = r; omega)).trans (fg j)
               have HT8 := hide hT68
               have HR8 := hide hR8
               clear hR8 hT8 hT68))
          all_goals (
            obtain ⟨bs9, hraw9⟩ := ((unhide HRW6).touch hrl (unhide HT8)).store d08 z
            have c8 := ((unhide HT8).cell (b := w.heap.size) (o := 0) (by omega) (by show ¬ w.heap.size = r; omega)).trans c6
            have f8 := ((unhide HT8).frozen (b := w.heap.size) (o := 0) (by omega) (by show ¬ w.heap.size = r; omega)).trans f6
            have c9 := keep_int d08 z c8 (fun _ _ e => by cases e)
            have p9 := keep_int d08 z p8 (fun _ _ e => by cases e)
            have f9 : (w8.setCell ⟨g, o, none⟩ (.int .i64 z)).frozen? ⟨w.heap.size, 0, none⟩ = false := by simpa using f8
            have hR9 := rd_store (unhide HR8) d08 (by show g ≠ r; omega) z
            have hT9 : Touch (· = r) w (w8.setCell ⟨g, o, none⟩ (.int .i64 z)) := (hT06.trans (unhide HT8)).setNew (by show w.heap.size ≤ g; exact hgr) _
            generalize w8.setCell ⟨g, o, none⟩ (.int .i64 z) = w9 at c9 p9 f9 hR9 hT9 hraw9 ⊢
            have HR9 := hide hR9
            have HRW9 := hide hraw9
            clear c8 f8 p8 c6 f6 p6 q6 hR9 hraw9 HR8 HRW6 HR6 hT06 d0 d1 e2 fg fq HR6d HT6d
            try clear d18
            try clear d08
            try clear fq8
            go_wp2
            refine bodyPost_ret (v := .agg #[.slice (some ⟨g, o, none⟩) n c]) (by simp [results, Try.results56, go_sem, c9]) rfl ⟨_, n, c, bs9, rfl, (unhide HRW9).setApart c9 _, rd_apart (unhide HR9) hrl _, hT9.setNew (Nat.le_refl _) _⟩)
        · have hb39 : (x6 == 39) = false := by simpa using e39
          go_wp2
          exact bodyPost_ret (v := .agg #[.slice (some ⟨g, o, none⟩) n c]) (by simp [results, Try.results56, go_sem, c6]) rfl ⟨_, n, c, bs, rfl, (unhide HRW6).setApart c6 _, rd_apart (unhide HR6) hrl _, hT06.setNew (Nat.le_refl _) _⟩
end Go.Proofs.Ytalgkmellbamgaa

/- What the laws over chips draw. -/
namespace Go.Proofs.Ytalgkmellbamgaa
open Go.RowKit
set_option linter.unusedVariables false
set_option linter.unusedSimpArgs false

/-- A drawn chip, as it lies. -/
def ChipIn (w : World) (a : Option Addr) (n : Nat) (bs : List Bk) : Prop := bs.length = n ∧ BlocksAt w a bs ∧ Lens 1048576 bs
theorem ChipIn.below {w w' : World} {a : Option Addr} {n : Nat} {bs : List Bk} (h : ChipIn w a n bs) (hB : Below w.heap.size w w') : ChipIn w' a n bs := ⟨h.1, h.2.1.below hB (Nat.le_refl _), h.2.2⟩
theorem RawAt.chipIn {w : World} {B : Nat} {a : Option Addr} {n : Nat} {bs : List Bk} (h : RawAt w B a n bs) : ChipIn w a n bs := ⟨h.1, h.2.2.2.2.blocksAt, h.lens⟩

theorem setApartB {w : World} {P : Nat} {x : Option Addr} {y z : Nat} (hP : w.cell? ⟨P, 0, none⟩ = some (.slice x y z)) {a : Option Addr} {bs : List Bk} (h : BlocksAt w a bs) (u : Value) : BlocksAt (w.setCell ⟨P, 0, none⟩ u) a bs := by
  intro i b hb
  obtain ⟨g, o, pa, pc, ha, h0, h1, h2⟩ := h i b hb
  refine ⟨g, o, pa, pc, ha, cell_apartS hP h0 (.inr fun _ _ _ e => by cases e) u, cell_apartS hP h1 (.inl (by omega)) u, fun j p hp => ?_⟩
  obtain ⟨q, r, hq, c0, c1, c2, c3⟩ := h2 j p hp
  exact ⟨q, r, hq, cell_apartS hP c0 (.inr fun _ _ _ e => by cases e) u, cell_apartS hP c1 (.inr fun _ _ _ e => by cases e) u, cell_apartS hP c2 (.inr fun _ _ _ e => by cases e) u, cell_apartS hP c3 (.inr fun _ _ _ e => by cases e) u⟩

set_option maxRecDepth 100000 in
set_option maxHeartbeats 2000000 in
theorem drawNextOf_any (a : Option Addr) (n c : Nat) (w : World) (h : CodeAt w a n) (hn : n ≤ 1048576) :
    Calls Try.prog 70 #[.slice a n c] w fun e w' => ∃ a2 n2 c2 bs z, e = .returned (.tuple #[.agg #[.slice a2 n2 c2], .int .i64 z]) ∧ ChipIn w' a2 n2 bs ∧ Below w.heap.size w w' := by
  have hB1 : ∀ o, Below w.heap.size w (w.alloc o) := fun o => (Below.refl _ _).alloc (Nat.le_refl _) _
  go_enter Try.func70, Try.ntmps70
  go_wp2_with fail
  refine (l1Open_any a n c _ (h.below (hB1 _) (Nat.le_refl _)) hn).mono ?_
  rintro e w1 ⟨rfl, hR, hB⟩
  have c1 : w1.cell? ⟨w.heap.size, 0, none⟩ = some (.slice none 0 0) := (hB.cell (p := ⟨w.heap.size, 0, none⟩) (by simp)).trans (by simp)
  have f1 : w1.frozen? ⟨w.heap.size, 0, none⟩ = false := (hB.frozen (p := ⟨w.heap.size, 0, none⟩) (by simp)).trans (by simp)
  have hW1 : Below w.heap.size w w1 := (hB1 _).trans (hB.mono (by simp))
  simp only [World.size_alloc] at hR hB ⊢
  obtain ⟨r, hr⟩ : ∃ r, r = w.heap.size + 1 := ⟨_, rfl⟩
  rw [← hr] at hR hB ⊢
  have hrl := hR.lt
  have HR1 := hide hR
  have hwr : w.heap.size < r := by omega
  clear h hB hR hB1 hr
  go_wp2_with fail
  refine (raw_any r _ (unhide HR1)).mono ?_
  rintro e w2 ⟨a2, n2, c2, bs, rfl, hraw, hR2, hT2⟩
  have hs2 := hT2.size
  have c2' := (hT2.cell (b := w.heap.size) (o := 0) (by omega) (by show ¬ w.heap.size = r; omega)).trans c1
  have f2' := (hT2.frozen (b := w.heap.size) (o := 0) (by omega) (by show ¬ w.heap.size = r; omega)).trans f1
  have hW2 : Below w.heap.size w w2 := hW1.trans (hT2.below hW1.size fun k hk => by subst hk; omega)
  have HR2 := hide hR2
  have HRW2 := hide hraw
  clear hraw hR2 hT2 HR1 c1 f1 hW1
  obtain ⟨w3, hw3⟩ : ∃ w3, w3 = w2.alloc (.cells #[.slice a2 n2 c2] 26) := ⟨_, rfl⟩
  have hB3 : Below w2.heap.size w2 w3 := by rw [hw3]; exact (Below.refl _ _).alloc (Nat.le_refl _) _
  have hs3 : w2.heap.size + 1 ≤ w3.heap.size := by rw [hw3]; simp
  have p3 : w3.cell? ⟨w2.heap.size, 0, none⟩ = some (.slice a2 n2 c2) := by rw [hw3]; simp
  have c3 := (hB3.cell (p := ⟨w.heap.size, 0, none⟩) (by show w.heap.size < _; omega)).trans c2'
  have f3 := (hB3.frozen (p := ⟨w.heap.size, 0, none⟩) (by show w.heap.size < _; omega)).trans f2'
  have hW3 := hW2.trans (hB3.mono hW2.size)
  have HR3 : Hid (RdAt w3.drew r) := (unhide HR2).below hB3.drew
  have HRW3 := hide ((unhide HRW2).below hB3)
  go_wp2_with fail
  rw [← hw3]
  clear hw3 hB3 HR2 HRW2 c2' f2' hW2
  go_region_with (first
    | (go_at_call 59
       refine (off_any r 0 5 _ (unhide HR3) (by omega) (by omega) (by omega)).mono ?_
       rintro e w4 ⟨z, rfl, hR4, hT4⟩
       have hT34 : Touch (· = r) w3 w4 := (Touch.refl _ w3).drew.trans hT4
       have p4 := (hT34.cell (b := w2.heap.size) (o := 0) (by omega) (by show ¬ w2.heap.size = r; omega)).trans p3
       have c4 := (hT34.cell (b := w.heap.size) (o := 0) (by omega) (by show ¬ w.heap.size = r; omega)).trans c3
       have f4 := (hT34.frozen (b := w.heap.size) (o := 0) (by omega) (by show ¬ w.heap.size = r; omega)).trans f3
       have HT4 := hide hT34
       clear hR4 hT4 hT34))
  all_goals (
    have hW4 : Below w.heap.size w w4 := hW3.trans ((unhide HT4).below hW3.size fun k hk => by subst hk; omega)
    have HRW4 := hide ((unhide HRW3).touch hrl (unhide HT4))
    clear p3 c3 f3 hW3 HT4 HRW3 p4
    go_wp2
    exact bodyPost_ret (v := .tuple #[.agg #[.slice a2 n2 c2], .int .i64 z]) (by simp [results, Try.results70, go_sem, c4]) rfl ⟨_, n2, c2, bs, z, rfl, ((unhide HRW4).setApart c4 _).chipIn, hW4.setCell (by simp) _⟩)

theorem drawErased_any (a : Option Addr) (n c : Nat) (w : World) (h : CodeAt w a n) (hn : n ≤ 1048576) :
    Calls Try.prog 19 #[.slice a n c] w fun e w' => ∃ a2 n2 c2 bs z, e = .returned (.tuple #[.agg #[.slice a2 n2 c2], .int .i64 z]) ∧ ChipIn w' a2 n2 bs ∧ Below w.heap.size w w' := by
  have hB1 : ∀ o, Below w.heap.size w (w.alloc o) := fun o => (Below.refl _ _).alloc (Nat.le_refl _) _
  go_enter Try.func19, Try.ntmps19
  go_wp2_with fail
  refine (drawNextOf_any a n c _ (h.below (hB1 _) (Nat.le_refl _)) hn).mono ?_
  rintro e w1 ⟨a2, n2, c2, bs, z, rfl, hC, hB⟩
  have c1 : w1.cell? ⟨w.heap.size, 0, none⟩ = some (.slice none 0 0) := (hB.cell (p := ⟨w.heap.size, 0, none⟩) (by simp)).trans (by simp)
  have f1 : w1.frozen? ⟨w.heap.size, 0, none⟩ = false := (hB.frozen (p := ⟨w.heap.size, 0, none⟩) (by simp)).trans (by simp)
  have hW1 : Below w.heap.size w w1 := (hB1 _).trans (hB.mono (by simp))
  have HC := hide hC
  clear h hB hC hB1
  go_wp2
  have hA : BlocksAt (w1.setCell ⟨w.heap.size, 0, none⟩ (.slice a2 n2 c2)) a2 bs := setApartB c1 (unhide HC).2.1 _
  exact bodyPost_ret (v := .tuple #[.agg #[.slice a2 n2 c2], .int .i64 z]) (by simp [results, Try.results19, go_sem, c1]) rfl ⟨_, n2, c2, bs, z, rfl, ⟨(unhide HC).1, hA, (unhide HC).2.2⟩, hW1.setCell (by simp) _⟩
end Go.Proofs.Ytalgkmellbamgaa
