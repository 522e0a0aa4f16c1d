/- Whatever the code, the law FnProgrammed answers true: a page that is programmed stands behind those of its block, and all others are as they were; a block is full after four pages. No condition. -/
import Derived.Test.YtalgkmellbamgaaRows
import Derived.Test.YtalgkmellbamgaaDrP
import Derived.Test.YtalgkmellbamgaaSamK
import Derived.Test.YtalgkmellbamgaaQt
import Derived.Test.YtalgkmellbamgaaProgC
import Derived.Test.YtalgkmellbamgaaNextI
import Derived.Test.YtalgkmellbamgaaLaw0
import Derived.WalkKit
import Derived.ProofKit
import Derived.OpenShut
import Derived.ChangeOld
import Derived.Below
namespace Go.Proofs.Ytalgkmellbamgaa.fnProgrammed
open Go.ChangeShapes Go.WideShapes Go.ChangeAt Go.RowKit
set_option linter.unusedVariables false
set_option linter.unusedSimpArgs false

theorem lens9 {bs : List Bk} (h : Lens 1048576 bs) : Lens 9223372036854775807 bs := ⟨by have := h.1; omega, fun b hb => by have := h.2 b hb; omega⟩
theorem chipOkI_n (a : Option Addr) (c : Nat) (bs : List Bk) (n : Nat) (hl : bs.length = n) (w : World) (h : BlocksAt w a bs) (hn : Lens 9223372036854775807 bs) :
    Calls Try.prog 16 #[.agg #[.slice a n c]] w fun e w' => RetIff (ChipOk bs) e ∧ Below w.heap.size w w' := by
  subst hl; exact implChipOk_any a c bs w h hn
theorem chipOkS_n (a : Option Addr) (c : Nat) (bs : List Bk) (n : Nat) (hl : bs.length = n) (w : World) (h : BlocksAt w a bs) (hn : Lens 1048576 bs) :
    Calls Try.prog 17 #[.agg #[.slice a n c]] w fun e w' => ∃ r : Bool, e = .returned (.bool r) ∧ (r = true ↔ ChipOk bs) ∧ Below w.heap.size w w' := by
  subst hl; exact specChipOk_any a c bs w h hn

theorem pu_at {b : Bk} {k : Nat} {p : Pg} (h : b.pages[k]? = some p) : pu b k = p.used := by unfold pu pagesF; rw [h]; rfl

/-- Behind a page that was put into the first free place of a right block. -/
theorem next_prog {bs : List Bk} {k j : Nat} {b : Bk} {p : Pg} {r : Int} (hok : ChipOk bs) (hb : bs[k]? = some b) (hj : j < 4) (hnx : NextIs (pu b) 4 (j : Int)) (hu : p.used = true) (hoko : ChipOk (bs.set k ⟨b.wear, b.pages.set j p⟩)) (h : NextOfIs (bs.set k ⟨b.wear, b.pages.set j p⟩) (k : Int) r) :
    (j < 3 ∧ r = (j : Int) + 1) ∨ (j = 3 ∧ r = -1) := by
  have hk := (List.getElem?_eq_some_iff.1 hb).1
  have hB := hok.block b (List.mem_of_getElem? hb)
  have h4 := hB.four
  have hfree : pu b j = false ∧ ∀ i, i < j → pu b i = true := by
    rcases hnx with ⟨i, hi, e, h1, h2⟩ | ⟨e, _⟩
    · obtain rfl : j = i := by omega
      exact ⟨h1, h2⟩
    · omega
  have hat : ∀ i, i < 4 → ∃ q, b.pages[i]? = some q := fun i hi => getElem?_ex (by omega)
  have hnew : ∀ i, i < 4 → pu ⟨b.wear, b.pages.set j p⟩ i = if i = j then true else pu b i := fun i hi => by
    obtain ⟨q, hq⟩ := hat i hi
    by_cases e : i = j
    · subst e
      rw [if_pos rfl, pu_at (p := p) (by show (b.pages.set i p)[i]? = some p; rw [List.getElem?_set_self (by omega)])]
      exact hu
    · rw [if_neg e, pu_at hq, pu_at (p := q) (by show (b.pages.set j p)[i]? = some q; rw [List.getElem?_set_ne (fun x => e x.symm)]; exact hq)]
  have hgot : ∀ s, NextIs (pu ⟨b.wear, b.pages.set j p⟩) 4 s → r = s := fun s hs =>
    h.one (.inr ⟨⟨hoko, by omega, by rw [List.length_set]; omega⟩, ⟨b.wear, b.pages.set j p⟩, by simp [hk], hs⟩)
  by_cases h3 : j < 3
  · left
    refine ⟨h3, hgot _ (.inl ⟨j + 1, by omega, by omega, ?_, fun i hi => ?_⟩)⟩
    · rw [hnew _ (by omega), if_neg (by omega)]
      obtain ⟨q, hq⟩ := hat j (by omega)
      obtain ⟨q1, hq1⟩ := hat (j + 1) (by omega)
      rw [pu_at hq1]
      cases hqu : q1.used with
      | false => rfl
      | true =>
        have := hB.order j q1 q hq hq1 hqu
        rw [pu_at hq] at hfree
        rw [hfree.1] at this
        cases this
    · rw [hnew _ (by omega)]
      by_cases e : i = j
      · rw [if_pos e]
      · rw [if_neg e]; exact hfree.2 i (by omega)
  · right
    obtain rfl : j = 3 := by omega
    refine ⟨rfl, hgot _ (.inr ⟨rfl, fun i hi => ?_⟩)⟩
    rw [hnew _ hi]
    by_cases e : i = 3
    · rw [if_pos e]
    · rw [if_neg e]; exact hfree.2 i (by omega)

set_option maxRecDepth 100000 in
set_option maxHeartbeats 8000000 in
theorem walk (a : Option Addr) (n c : Nat) (w : World) (h : CodeAt w a n) (hn : n ≤ 9223372036854775807) :
    Calls Try.prog 3 #[.slice a n c] w fun e w' => e = .returned (.bool true) ∧ Below w.heap.size w w' := by
  have HC := hide h
  have hmix : Try.prog.follows .mixedOrders = true := by kernel_rfl
  clear h
  go_enter Try.func3, Try.ntmps3
  go_wp2_with fail
  refine (big_any a n c _ hn).mono ?_
  rintro e w0 ⟨rfl, rfl⟩
  by_cases hbig : (1048576 : Int) < (n : Int)
  · have hd : decide ((1048576 : Int) < (n : Int)) = true := by simpa using hbig
    rw [hd]
    clear hd
    go_wp2
    go_ret
    exact ⟨rfl, Below.refl _ _⟩
  · have hd : decide ((1048576 : Int) < (n : Int)) = false := by simpa using hbig
    have hbig' : n ≤ 1048576 := by omega
    rw [hd]
    clear hd hbig
    go_wp2_with fail
    refine (drawProgrammed_any a n c _ (unhide HC) hbig').mono ?_
    rintro e w1 ⟨a1, n1, c1, bs, z, u, l, s, d, rfl, hC1, hW1⟩
    have hs1 := hW1.size
    have HC1 := hide hC1
    have hb1 : ∀ o1 o2, Below w1.heap.size w1 ((w1.alloc o1).alloc o2) := fun o1 o2 => ((Below.refl _ w1).alloc (Nat.le_refl _) _).alloc (by simp) _
    clear HC hC1
    go_wp2_with fail
    refine (implProgrammed_own a1 c1 bs n1 (unhide HC1).1 z u l s d _ ((unhide HC1).below (hb1 _ _)).2.1 (lens9 (unhide HC1).2.2)).mono ?_
    rintro e w2 ⟨a2, n2, c2, out, code, rfl, hE2, hO2, hB2⟩
    have hs2 := hB2.size
    simp at hs2
    have hl12 : w1.heap.size < w2.heap.size := by omega
    have hl12' : w1.heap.size + 1 < w2.heap.size := by omega
    have x2 : w2.cell? ⟨w1.heap.size, 0, none⟩ = some (.slice a1 n1 c1) := (hB2.cell (p := ⟨w1.heap.size, 0, none⟩) (by simp; omega)).trans (by rw [cell_alloc_lt _ _ _ _ (by simp)]; simp)
    have hp2 : w2.heap[w1.heap.size + 1]? = some (.cells #[.bool u, .int .i64 l, .int .i64 s, .string d] 28 (0, 0)) := (hB2.block _ (by simp)).trans (heap_alloc2_new _ _ _)
    have HP2 := hide hp2
    have u0 := cell_of_row _ _ 0 _ _ _ hp2
    have u1 := cell_of_row _ _ 1 _ _ _ hp2
    have u2 := cell_of_row _ _ 2 _ _ _ hp2
    have u3 := cell_of_row _ _ 3 _ _ _ hp2
    simp at u0 u1 u2 u3
    have hB12 : Below w1.heap.size w1 w2 := (hb1 _ _).trans (hB2.mono (by simp; omega))
    have HC2 := hide ((unhide HC1).below hB12)
    have HD2 : Hid (ChipIn w2 a2 n2 out) := ⟨hO2.1, hO2.blocksAt, hE2.lens (unhide HC1).2.2⟩
    have hW2 := hW1.trans (hB12.mono hW1.size)
    have hb2 : ∀ o, Below w2.heap.size w2 (w2.alloc o) := fun o => (Below.refl _ w2).alloc (Nat.le_refl _) _
    have HE2 := hide hE2
    clear hO2 hB2 hB12 HC1 hW1 hb1 hE2 hp2
    go_wp2_with fail
    refine (specProgrammed_any a1 c1 bs n1 (unhide HC2).1 z u l s d _ ((unhide HC2).below (hb2 _)).2.1 (unhide HC2).2.2).mono ?_
    rintro e w3 ⟨a3, n3, c3, out3, code3, rfl, hE3, hl3, hA3, hB3⟩
    obtain ⟨rfl, rfl⟩ := (unhide HE2).one hE3
    obtain rfl : n3 = n2 := hl3.symm.trans (unhide HD2).1
    have hs3 := hB3.size
    simp at hs3
    have d3 : w3.cell? ⟨w2.heap.size, 0, none⟩ = some (.slice a2 n3 c2) := (hB3.cell (p := ⟨w2.heap.size, 0, none⟩) (by simp)).trans (by simp)
    have x3 := (hB3.cell (p := ⟨w1.heap.size, 0, none⟩) (by simp; omega)).trans ((cell_alloc_lt _ _ _ _ (by omega)).trans x2)
    have hB23 : Below w2.heap.size w2 w3 := (hb2 _).trans (hB3.mono (by simp))
    have HP3 := hide ((hB23.block _ hl12').trans (unhide HP2))
    have HC3 := hide ((unhide HC2).below hB23)
    have HD3 := hide ((unhide HD2).below hB23)
    have HT3 : Hid (ChipIn w3 a3 n3 out) := ⟨hl3, hA3, (unhide HD2).2.2⟩
    have hW3 := hW2.trans (hB23.mono hW2.size)
    have hb3 : ∀ o, Below w3.heap.size w3 (w3.alloc o) := fun o => (Below.refl _ w3).alloc (Nat.le_refl _) _
    have hne : (code != code) = false := by simp
    have heq : (code == code) = true := by simp
    have hl13 : w1.heap.size < w3.heap.size := by omega
    have hl13' : w1.heap.size + 1 < w3.heap.size := by omega
    have hl23 : w2.heap.size < w3.heap.size := by omega
    clear hA3 hB3 hB23 HC2 HD2 hW2 hb2 x2 hE3 hl3 HP2 u0 u1 u2 u3
    go_wp2_with fail
    refine (sameChip_same a2 a3 c2 c3 out n3 (unhide HD3).1 _ ((unhide HD3).below (hb3 _)).2.1 ((unhide HT3).below (hb3 _)).2.1 (unhide HD3).2.2).mono ?_
    rintro e w4 ⟨rfl, hB4⟩
    have hs4 := hB4.size
    simp at hs4
    have y4 : w4.cell? ⟨w3.heap.size, 0, none⟩ = some (.slice a3 n3 c3) := (hB4.cell (p := ⟨w3.heap.size, 0, none⟩) (by simp)).trans (by simp)
    have x4 := (hB4.cell (p := ⟨w1.heap.size, 0, none⟩) (by simp; omega)).trans ((cell_alloc_lt _ _ _ _ hl13).trans x3)
    have d4 := (hB4.cell (p := ⟨w2.heap.size, 0, none⟩) (by simp; omega)).trans ((cell_alloc_lt _ _ _ _ hl23).trans d3)
    have hB34 : Below w3.heap.size w3 w4 := (hb3 _).trans (hB4.mono (by simp))
    have HP4 := hide ((hB34.block _ hl13').trans (unhide HP3))
    have HC4 := hide ((unhide HC3).below hB34)
    have HD4 := hide ((unhide HD3).below hB34)
    have HT4 := hide ((unhide HT3).below hB34)
    have hW4 := hW3.trans (hB34.mono hW3.size)
    have hl14 : w1.heap.size < w4.heap.size := by omega
    have hl14' : w1.heap.size + 1 < w4.heap.size := by omega
    have hl24 : w2.heap.size < w4.heap.size := by omega
    have hl34 : w3.heap.size < w4.heap.size := by omega
    clear hB4 hB34 HC3 HD3 HT3 hW3 hb3 x3 d3 HP3
    rcases unhide HE2 with ⟨hno, h1, h2⟩ | hr
    · subst h2
      have HNO := hide hno
      clear HE2 hno h1
      go_wp2_with fail
      refine wp_region_grown (Below w4.heap.size w4) hmix (by kernel_rfl) (below_drawn w4) ?_
      go_big_quiet_step (exact fun _ => rfl)
      go_big_quiet_step (exact fun _ => rfl)
      go_big_quiet_step (exact fun _ => rfl)
      go_big_quiet_step (exact fun _ => rfl)
      refine wpQuiet_val rfl (.agg #[.slice a2 n3 c2]) (fun W hC => ?_) ?_
      · have hcl := (hC.cell (p := ⟨w2.heap.size, 0, none⟩) hl24).trans d4
        go_simp
      simp only [Act.put, List.setIfInBounds_toArray, List.set_cons_zero, List.set_cons_succ]
      refine wpQuiet_val rfl (.agg #[.slice a3 n3 c3]) (fun W hC => ?_) ?_
      · have hcl := (hC.cell (p := ⟨w3.heap.size, 0, none⟩) hl34).trans y4
        go_simp
      simp only [Act.put, List.setIfInBounds_toArray, List.set_cons_zero, List.set_cons_succ]
      refine wpQuiet_val rfl (.bool true) (fun W hC => ?_) ?_
      · go_simp
        refine (sameChip_same a2 a3 c2 c3 out n3 (unhide HD4).1 W ((unhide HD4).below hC).2.1 ((unhide HT4).below hC).2.1 (unhide HD4).2.2).mono ?_
        rintro e w' ⟨rfl, hB'⟩
        exact ⟨rfl, hC.trans (hB'.mono hC.size)⟩
      simp only [Act.put, List.setIfInBounds_toArray, List.set_cons_zero, List.set_cons_succ]
      go_big_quiet_step (exact fun _ => rfl)
      go_big_quiet_step (exact fun _ => rfl)
      refine wpQuiet_val rfl (.agg #[.slice a1 n1 c1]) (fun W hC => ?_) ?_
      · have hcl := (hC.cell (p := ⟨w1.heap.size, 0, none⟩) hl14).trans x4
        go_simp
      simp only [Act.put, List.setIfInBounds_toArray, List.set_cons_zero, List.set_cons_succ]
      refine wpQuiet_val rfl (.bool false) (fun W hC => ?_) ?_
      · go_simp
        refine (chipOkI_n a1 c1 bs n1 (unhide HC4).1 W ((unhide HC4).below hC).2.1 (lens9 (unhide HC4).2.2)).mono ?_
        rintro e w' ⟨⟨r7, rfl, hr7⟩, hB'⟩
        obtain rfl : r7 = false := by cases r7 with | false => rfl | true => exact absurd (hr7.1 rfl) (unhide HNO)
        exact ⟨rfl, hC.trans (hB'.mono hC.size)⟩
      simp only [Act.put, List.setIfInBounds_toArray, List.set_cons_zero, List.set_cons_succ]
      refine wpQuiet_val rfl (.agg #[.slice a1 n1 c1]) (fun W hC => ?_) ?_
      · have hcl := (hC.cell (p := ⟨w1.heap.size, 0, none⟩) hl14).trans x4
        go_simp
      simp only [Act.put, List.setIfInBounds_toArray, List.set_cons_zero, List.set_cons_succ]
      refine wpQuiet_val rfl (.bool false) (fun W hC => ?_) ?_
      · go_simp
        refine (chipOkS_n a1 c1 bs n1 (unhide HC4).1 W ((unhide HC4).below hC).2.1 (unhide HC4).2.2).mono ?_
        rintro e w' ⟨r7, rfl, hr7, hB'⟩
        obtain rfl : r7 = false := by cases r7 with | false => rfl | true => exact absurd (hr7.1 rfl) (unhide HNO)
        exact ⟨rfl, hC.trans (hB'.mono hC.size)⟩
      simp only [Act.put, List.setIfInBounds_toArray, List.set_cons_zero, List.set_cons_succ]
      go_big_quiet_step (exact fun _ => rfl)
      go_big_quiet_step (exact fun _ => rfl)
      go_big_quiet_step (exact fun _ => rfl)
      refine wpQuiet_nil ?_
      intro w8 hC8
      have hW8 := hW4.trans (hC8.mono hW4.size)
      clear hC8
      go_wp2
      go_ret
      exact ⟨rfl, hW8⟩
    · by_cases h0 : code = 0
      · subst h0
        obtain ⟨hok, hpo, b, j, hb, hj4, hnx, hout⟩ : ChipOk bs ∧ ProgOk bs z ⟨u, l, s, d⟩ ∧ ∃ (b : Bk) (j : Nat), bs[z.toNat]? = some b ∧ j < 4 ∧ NextIs (pu b) 4 (j : Int) ∧ out = bs.set z.toNat ⟨b.wear, b.pages.set j ⟨u, l, s, d⟩⟩ := by
          rcases hr with ⟨_, _, _, h⟩ | ⟨h1, h2, b, r, hb, hx, ⟨_, _, h⟩ | ⟨h3, h4, _⟩⟩
          · cases h
          · cases h
          · obtain ⟨j, rfl⟩ := Int.eq_ofNat_of_zero_le h3
            refine ⟨h1, h2, b, j, hb, ?_, hx, by simpa using h4⟩
            rcases hx with ⟨i, hi, e, _⟩ | ⟨e, _⟩ <;> omega
        have hoko : ChipOk out := (unhide HE2).ok hok
        obtain ⟨k, rfl⟩ := Int.eq_ofNat_of_zero_le hpo.1.1
        simp only [Int.toNat_natCast] at hb hout
        have hkb : k < bs.length := (List.getElem?_eq_some_iff.1 hb).1
        have h4 := (hok.block b (List.mem_of_getElem? hb)).four
        have hu : u = true := by have := hpo.2.1; cases u with | true => rfl | false => simp [rightUsed] at this
        have HNX : Hid (∀ r, NextOfIs out (k : Int) r → (j < 3 ∧ r = (j : Int) + 1) ∨ (j = 3 ∧ r = -1)) := fun r hr => by
          subst hout
          exact next_prog hok hb hj4 hnx hu hoko hr
        have HNB : Hid (∀ r, NextOfIs bs (k : Int) r → r = (j : Int)) := fun r hr => hr.one (.inr ⟨⟨hok, by omega, by omega⟩, b, by simpa using hb, hnx⟩)
        have hob : out[k]? = some ⟨b.wear, b.pages.set j ⟨u, l, s, d⟩⟩ := by rw [hout]; simp [hkb]
        have HOB := hide hob
        have HBB := hide hb
        have HOK := hide hoko
        have hn1 : (k : Int) < (n1 : Int) := by have := (unhide HC4).1; omega
        have hn3 : (k : Int) < (n3 : Int) := by have := (unhide HD4).1; have := (List.getElem?_eq_some_iff.1 hob).1; omega
        have hweq : (b.wear == b.wear) = true := by simp
        have hlen : (b.pages.set j ⟨u, l, s, d⟩).length = 4 := by rw [List.length_set]; exact h4
        have hpj : (b.pages.set j ⟨u, l, s, d⟩)[j]? = some ⟨u, l, s, d⟩ := List.getElem?_set_self (by omega)
        have HPJ := hide hpj
        have HLN := hide hlen
        clear hr HE2 hoko hob hb hout hok hkb HT4 y4 hpo hnx hlen hpj h4
        go_wp2_with fail
        refine (implNextOf_any a1 c1 bs n1 (unhide HC4).1 (k : Int) _ (unhide HC4).2.1 (lens9 (unhide HC4).2.2)).mono ?_
        rintro e w5 ⟨r5, rfl, hr5, hB5⟩
        obtain rfl : r5 = (j : Int) := unhide HNB _ hr5
        have hs5 := hB5.size
        have x5 := (hB5.cell (p := ⟨w1.heap.size, 0, none⟩) hl14).trans x4
        have d5 := (hB5.cell (p := ⟨w2.heap.size, 0, none⟩) hl24).trans d4
        have HP5 := hide ((hB5.block _ hl14').trans (unhide HP4))
        have HC5 := hide ((unhide HC4).below hB5)
        have HD5 := hide ((unhide HD4).below hB5)
        have hW5 := hW4.trans (hB5.mono hW4.size)
        clear hB5 hr5 HC4 HD4 hW4 x4 d4 HP4
        go_wp2_with fail
        refine (implNextOf_any a2 c2 out n3 (unhide HD5).1 (k : Int) _ (unhide HD5).2.1 (lens9 (unhide HD5).2.2)).mono ?_
        rintro e w6 ⟨r6, rfl, hr6, hB6⟩
        have hnext := unhide HNX _ hr6
        have hs6 := hB6.size
        have x6 := (hB6.cell (p := ⟨w1.heap.size, 0, none⟩) (by show w1.heap.size < _; omega)).trans x5
        have d6 := (hB6.cell (p := ⟨w2.heap.size, 0, none⟩) (by show w2.heap.size < _; omega)).trans d5
        have hp6 := (hB6.block (w1.heap.size + 1) (by omega)).trans (unhide HP5)
        have HC6 := hide ((unhide HC5).below hB6)
        have HD6 := hide ((unhide HD5).below hB6)
        have hW6 := hW5.trans (hB6.mono hW5.size)
        have u0 := cell_of_row _ _ 0 _ _ _ hp6
        have u1 := cell_of_row _ _ 1 _ _ _ hp6
        have u2 := cell_of_row _ _ 2 _ _ _ hp6
        have u3 := cell_of_row _ _ 3 _ _ _ hp6
        simp at u0 u1 u2 u3
        have hl16 : w1.heap.size < w6.heap.size := by omega
        have hl16' : w1.heap.size + 1 < w6.heap.size := by omega
        have hl26 : w2.heap.size < w6.heap.size := by omega
        obtain ⟨g2, o2, pa2, pc2, e2, wo6, wp6, hPA⟩ := (unhide HD6).2.1 k _ (unhide HOB)
        obtain ⟨g1, o1, pa1, pc1, e1, wb6, _, _⟩ := (unhide HC6).2.1 k _ (unhide HBB)
        obtain ⟨q, qo, e3, v0, v1, v2, v3⟩ := hPA j _ (unhide HPJ)
        subst e1 e2 e3
        simp only at wo6 wb6 wp6 v0 v1 v2 v3
        rw [unhide HLN] at wp6
        have hg2 : g2 < w6.heap.size := World.block_lt_of_cell? _ _ wo6
        have hg1 : g1 < w6.heap.size := World.block_lt_of_cell? _ _ wb6
        have hq : q < w6.heap.size := World.block_lt_of_cell? _ _ v0
        have hj4i : (j : Int) < 4 := by omega
        have hj0 : (0 : Int) ≤ (j : Int) := by omega
        have hue : (u == u) = true := by simp
        have hle : (l == l) = true := by simp
        have hse : (s == s) = true := by simp
        clear hB6 hr6 HC5 HD5 hW5 x5 d5 HP5 hPA hp6 HNX HNB HPJ HLN hmix
        have hmix : Try.prog.follows .mixedOrders = true := by kernel_rfl
        rcases hnext with ⟨hj3, rfl⟩ | ⟨rfl, rfl⟩
        · go_wp2_with fail
          refine wp_region_grown (Below w6.heap.size w6) hmix (by kernel_rfl) (below_drawn w6) ?_
          refine wpQuiet_val rfl (.agg #[.slice (some ⟨g2, o2, none⟩) n3 c2]) (fun W hC => ?_) ?_
          · have hcl := (hC.cell (p := ⟨w2.heap.size, 0, none⟩) hl26).trans d6
            go_simp
          simp only [Act.put, List.setIfInBounds_toArray, List.set_cons_zero, List.set_cons_succ]
          refine wpQuiet_val rfl (.bool true) (fun W hC => ?_) ?_
          · go_simp
            refine (chipOkI_n (some ⟨g2, o2, none⟩) c2 out n3 (unhide HD6).1 W ((unhide HD6).below hC).2.1 (lens9 (unhide HD6).2.2)).mono ?_
            rintro e w' ⟨⟨r7, rfl, hr7⟩, hB'⟩
            obtain rfl : r7 = true := hr7.2 (unhide HOK)
            exact ⟨rfl, hC.trans (hB'.mono hC.size)⟩
          simp only [Act.put, List.setIfInBounds_toArray, List.set_cons_zero, List.set_cons_succ]
          go_big_quiet_step (exact fun _ => rfl)
          go_big_quiet_step (exact fun _ => rfl)
          refine wpQuiet_val rfl (.bool true) (fun W hC => ?_) ?_
          · go_simp
          simp only [Act.put, List.setIfInBounds_toArray, List.set_cons_zero, List.set_cons_succ]
          go_big_quiet_step (exact fun _ => rfl)
          go_big_quiet_step (exact fun _ => rfl)
          go_big_quiet_step (exact fun _ => rfl)
          refine wpQuiet_val rfl (.slice (some ⟨g2, o2, none⟩) n3 c2) (fun W hC => ?_) ?_
          · have hcl := (hC.cell (p := ⟨w2.heap.size, 0, none⟩) hl26).trans d6
            go_simp
          simp only [Act.put, List.setIfInBounds_toArray, List.set_cons_zero, List.set_cons_succ]
          go_big_quiet_step (exact fun _ => rfl)
          go_big_quiet_step (exact fun _ => rfl)
          go_big_quiet_step (exact fun _ => rfl)
          refine wpQuiet_val rfl (.slice (some ⟨q, qo, none⟩) 4 pc2) (fun W hC => ?_) ?_
          · have hcl := (hC.cell (p := ⟨g2, o2 + k * 2 + 1, none⟩) hg2).trans wp6
            go_simp
          simp only [Act.put, List.setIfInBounds_toArray, List.set_cons_zero, List.set_cons_succ]
          go_big_quiet_step (exact fun _ => rfl)
          go_big_quiet_step (exact fun _ => rfl)
          refine wpQuiet_val rfl (.agg #[.bool u, .int .i64 l, .int .i64 s, .string d]) (fun W hC => ?_) ?_
          · have hcl0 := (hC.cell (p := ⟨q, qo + j * 4, none⟩) hq).trans v0
            have hcl1 := (hC.cell (p := ⟨q, qo + j * 4 + 1, none⟩) hq).trans v1
            have hcl2 := (hC.cell (p := ⟨q, qo + j * 4 + 2, none⟩) hq).trans v2
            have hcl3 := (hC.cell (p := ⟨q, qo + j * 4 + 3, none⟩) hq).trans v3
            go_simp
          simp only [Act.put, List.setIfInBounds_toArray, List.set_cons_zero, List.set_cons_succ]
          refine wpQuiet_val rfl (.agg #[.bool u, .int .i64 l, .int .i64 s, .string d]) (fun W hC => ?_) ?_
          · have hcl0 := (hC.cell (p := ⟨w1.heap.size + 1, 0, none⟩) hl16').trans u0
            have hcl1 := (hC.cell (p := ⟨w1.heap.size + 1, 1, none⟩) hl16').trans u1
            have hcl2 := (hC.cell (p := ⟨w1.heap.size + 1, 2, none⟩) hl16').trans u2
            have hcl3 := (hC.cell (p := ⟨w1.heap.size + 1, 3, none⟩) hl16').trans u3
            go_simp
          simp only [Act.put, List.setIfInBounds_toArray, List.set_cons_zero, List.set_cons_succ]
          refine wpQuiet_val rfl (.bool true) (fun W hC => ?_) ?_
          · go_simp
          simp only [Act.put, List.setIfInBounds_toArray, List.set_cons_zero, List.set_cons_succ]
          go_big_quiet_step (exact fun _ => rfl)
          go_big_quiet_step (exact fun _ => rfl)
          go_big_quiet_step (exact fun _ => rfl)
          go_big_quiet_step (exact fun _ => rfl)
          refine wpQuiet_val rfl (.int .i64 ((j : Int) + 1)) (fun W hC => ?_) ?_
          · go_simp
            simp [IntKind.wrap, IntKind.bits, IntKind.signed]
            omega
          simp only [Act.put, List.setIfInBounds_toArray, List.set_cons_zero, List.set_cons_succ]
          refine wpQuiet_val rfl (.bool true) (fun W hC => ?_) ?_
          · go_simp
          simp only [Act.put, List.setIfInBounds_toArray, List.set_cons_zero, List.set_cons_succ]
          go_big_quiet_step (exact fun _ => rfl)
          go_big_quiet_step (exact fun _ => rfl)
          go_big_quiet_step (exact fun _ => rfl)
          go_big_quiet_step (exact fun _ => rfl)
          go_big_quiet_step (exact fun _ => rfl)
          go_big_quiet_step (exact fun _ => rfl)
          go_big_quiet_step (exact fun _ => rfl)
          go_big_quiet_step (exact fun _ => rfl)
          go_big_quiet_step (exact fun _ => rfl)
          go_big_quiet_step (exact fun _ => rfl)
          go_big_quiet_step (exact fun _ => rfl)
          refine wpQuiet_val rfl (.slice (some ⟨g2, o2, none⟩) n3 c2) (fun W hC => ?_) ?_
          · have hcl := (hC.cell (p := ⟨w2.heap.size, 0, none⟩) hl26).trans d6
            go_simp
          simp only [Act.put, List.setIfInBounds_toArray, List.set_cons_zero, List.set_cons_succ]
          go_big_quiet_step (exact fun _ => rfl)
          go_big_quiet_step (exact fun _ => rfl)
          go_big_quiet_step (exact fun _ => rfl)
          refine wpQuiet_val rfl (.int .i64 b.wear) (fun W hC => ?_) ?_
          · have hcl := (hC.cell (p := ⟨g2, o2 + k * 2, none⟩) hg2).trans wo6
            go_simp
          simp only [Act.put, List.setIfInBounds_toArray, List.set_cons_zero, List.set_cons_succ]
          go_big_quiet_step (exact fun _ => rfl)
          refine wpQuiet_val rfl (.slice (some ⟨g1, o1, none⟩) n1 c1) (fun W hC => ?_) ?_
          · have hcl := (hC.cell (p := ⟨w1.heap.size, 0, none⟩) hl16).trans x6
            go_simp
          simp only [Act.put, List.setIfInBounds_toArray, List.set_cons_zero, List.set_cons_succ]
          go_big_quiet_step (exact fun _ => rfl)
          go_big_quiet_step (exact fun _ => rfl)
          go_big_quiet_step (exact fun _ => rfl)
          refine wpQuiet_val rfl (.int .i64 b.wear) (fun W hC => ?_) ?_
          · have hcl := (hC.cell (p := ⟨g1, o1 + k * 2, none⟩) hg1).trans wb6
            go_simp
          simp only [Act.put, List.setIfInBounds_toArray, List.set_cons_zero, List.set_cons_succ]
          refine wpQuiet_val rfl (.bool true) (fun W hC => ?_) ?_
          · go_simp
          simp only [Act.put, List.setIfInBounds_toArray, List.set_cons_zero, List.set_cons_succ]
          go_big_quiet_step (exact fun _ => rfl)
          go_big_quiet_step (exact fun _ => rfl)
          refine wpQuiet_nil ?_
          intro w8 hC8
          have hW8 := hW6.trans (hC8.mono hW6.size)
          clear hC8
          go_wp2
          go_ret
          exact ⟨rfl, hW8⟩
        · go_wp2_with fail
          refine wp_region_grown (Below w6.heap.size w6) hmix (by kernel_rfl) (below_drawn w6) ?_
          refine wpQuiet_val rfl (.agg #[.slice (some ⟨g2, o2, none⟩) n3 c2]) (fun W hC => ?_) ?_
          · have hcl := (hC.cell (p := ⟨w2.heap.size, 0, none⟩) hl26).trans d6
            go_simp
          simp only [Act.put, List.setIfInBounds_toArray, List.set_cons_zero, List.set_cons_succ]
          refine wpQuiet_val rfl (.bool true) (fun W hC => ?_) ?_
          · go_simp
            refine (chipOkI_n (some ⟨g2, o2, none⟩) c2 out n3 (unhide HD6).1 W ((unhide HD6).below hC).2.1 (lens9 (unhide HD6).2.2)).mono ?_
            rintro e w' ⟨⟨r7, rfl, hr7⟩, hB'⟩
            obtain rfl : r7 = true := hr7.2 (unhide HOK)
            exact ⟨rfl, hC.trans (hB'.mono hC.size)⟩
          simp only [Act.put, List.setIfInBounds_toArray, List.set_cons_zero, List.set_cons_succ]
          go_big_quiet_step (exact fun _ => rfl)
          go_big_quiet_step (exact fun _ => rfl)
          go_big_quiet_step (exact fun _ => rfl)
          go_big_quiet_step (exact fun _ => rfl)
          go_big_quiet_step (exact fun _ => rfl)
          go_big_quiet_step (exact fun _ => rfl)
          refine wpQuiet_val rfl (.slice (some ⟨g2, o2, none⟩) n3 c2) (fun W hC => ?_) ?_
          · have hcl := (hC.cell (p := ⟨w2.heap.size, 0, none⟩) hl26).trans d6
            go_simp
          simp only [Act.put, List.setIfInBounds_toArray, List.set_cons_zero, List.set_cons_succ]
          go_big_quiet_step (exact fun _ => rfl)
          go_big_quiet_step (exact fun _ => rfl)
          go_big_quiet_step (exact fun _ => rfl)
          refine wpQuiet_val rfl (.slice (some ⟨q, qo, none⟩) 4 pc2) (fun W hC => ?_) ?_
          · have hcl := (hC.cell (p := ⟨g2, o2 + k * 2 + 1, none⟩) hg2).trans wp6
            go_simp
          simp only [Act.put, List.setIfInBounds_toArray, List.set_cons_zero, List.set_cons_succ]
          go_big_quiet_step (exact fun _ => rfl)
          go_big_quiet_step (exact fun _ => rfl)
          refine wpQuiet_val rfl (.agg #[.bool u, .int .i64 l, .int .i64 s, .string d]) (fun W hC => ?_) ?_
          · have hcl0 := (hC.cell (p := ⟨q, qo + 3 * 4, none⟩) hq).trans v0
            have hcl1 := (hC.cell (p := ⟨q, qo + 3 * 4 + 1, none⟩) hq).trans v1
            have hcl2 := (hC.cell (p := ⟨q, qo + 3 * 4 + 2, none⟩) hq).trans v2
            have hcl3 := (hC.cell (p := ⟨q, qo + 3 * 4 + 3, none⟩) hq).trans v3
            go_simp
          simp only [Act.put, List.setIfInBounds_toArray, List.set_cons_zero, List.set_cons_succ]
          refine wpQuiet_val rfl (.agg #[.bool u, .int .i64 l, .int .i64 s, .string d]) (fun W hC => ?_) ?_
          · have hcl0 := (hC.cell (p := ⟨w1.heap.size + 1, 0, none⟩) hl16').trans u0
            have hcl1 := (hC.cell (p := ⟨w1.heap.size + 1, 1, none⟩) hl16').trans u1
            have hcl2 := (hC.cell (p := ⟨w1.heap.size + 1, 2, none⟩) hl16').trans u2
            have hcl3 := (hC.cell (p := ⟨w1.heap.size + 1, 3, none⟩) hl16').trans u3
            go_simp
          simp only [Act.put, List.setIfInBounds_toArray, List.set_cons_zero, List.set_cons_succ]
          refine wpQuiet_val rfl (.bool true) (fun W hC => ?_) ?_
          · go_simp
          simp only [Act.put, List.setIfInBounds_toArray, List.set_cons_zero, List.set_cons_succ]
          go_big_quiet_step (exact fun _ => rfl)
          go_big_quiet_step (exact fun _ => rfl)
          go_big_quiet_step (exact fun _ => rfl)
          go_big_quiet_step (exact fun _ => rfl)
          go_big_quiet_step (exact fun _ => rfl)
          go_big_quiet_step (exact fun _ => rfl)
          go_big_quiet_step (exact fun _ => rfl)
          go_big_quiet_step (exact fun _ => rfl)
          go_big_quiet_step (exact fun _ => rfl)
          go_big_quiet_step (exact fun _ => rfl)
          go_big_quiet_step (exact fun _ => rfl)
          go_big_quiet_step (exact fun _ => rfl)
          go_big_quiet_step (exact fun _ => rfl)
          go_big_quiet_step (exact fun _ => rfl)
          go_big_quiet_step (exact fun _ => rfl)
          go_big_quiet_step (exact fun _ => rfl)
          go_big_quiet_step (exact fun _ => rfl)
          refine wpQuiet_val rfl (.slice (some ⟨g2, o2, none⟩) n3 c2) (fun W hC => ?_) ?_
          · have hcl := (hC.cell (p := ⟨w2.heap.size, 0, none⟩) hl26).trans d6
            go_simp
          simp only [Act.put, List.setIfInBounds_toArray, List.set_cons_zero, List.set_cons_succ]
          go_big_quiet_step (exact fun _ => rfl)
          go_big_quiet_step (exact fun _ => rfl)
          go_big_quiet_step (exact fun _ => rfl)
          refine wpQuiet_val rfl (.int .i64 b.wear) (fun W hC => ?_) ?_
          · have hcl := (hC.cell (p := ⟨g2, o2 + k * 2, none⟩) hg2).trans wo6
            go_simp
          simp only [Act.put, List.setIfInBounds_toArray, List.set_cons_zero, List.set_cons_succ]
          go_big_quiet_step (exact fun _ => rfl)
          refine wpQuiet_val rfl (.slice (some ⟨g1, o1, none⟩) n1 c1) (fun W hC => ?_) ?_
          · have hcl := (hC.cell (p := ⟨w1.heap.size, 0, none⟩) hl16).trans x6
            go_simp
          simp only [Act.put, List.setIfInBounds_toArray, List.set_cons_zero, List.set_cons_succ]
          go_big_quiet_step (exact fun _ => rfl)
          go_big_quiet_step (exact fun _ => rfl)
          go_big_quiet_step (exact fun _ => rfl)
          refine wpQuiet_val rfl (.int .i64 b.wear) (fun W hC => ?_) ?_
          · have hcl := (hC.cell (p := ⟨g1, o1 + k * 2, none⟩) hg1).trans wb6
            go_simp
          simp only [Act.put, List.setIfInBounds_toArray, List.set_cons_zero, List.set_cons_succ]
          refine wpQuiet_val rfl (.bool true) (fun W hC => ?_) ?_
          · go_simp
          simp only [Act.put, List.setIfInBounds_toArray, List.set_cons_zero, List.set_cons_succ]
          go_big_quiet_step (exact fun _ => rfl)
          go_big_quiet_step (exact fun _ => rfl)
          refine wpQuiet_nil ?_
          intro w8 hC8
          have hW8 := hW6.trans (hC8.mono hW6.size)
          clear hC8
          go_wp2
          go_ret
          exact ⟨rfl, hW8⟩
      · have hob : out = bs := by
          rcases hr with ⟨_, _, h, _⟩ | ⟨h1, h2, b, r, hb, _, ⟨_, h, _⟩ | ⟨h3, h4, h5⟩⟩
          · exact h
          · exact h
          · exact absurd h5 h0
        have h1 : code ≠ 1 := by
          rcases hr with ⟨_, _, _, h⟩ | ⟨_, _, _, _, _, _, ⟨_, _, h⟩ | ⟨_, _, h⟩⟩ <;> omega
        have hc1 : (code == 1) = false := by simpa using h1
        have hc0 : (code != 0) = true := by simpa using h0
        subst hob
        obtain rfl : n3 = n1 := (unhide HD4).1.symm.trans (unhide HC4).1
        clear hr HE2
        go_wp2_with fail
        refine (sameChip_same a2 a1 c2 c1 out n3 (unhide HD4).1 _ (unhide HD4).2.1 (unhide HC4).2.1 (unhide HD4).2.2).mono ?_
        rintro e w5 ⟨rfl, hB5⟩
        have hW5 := hW4.trans (hB5.mono hW4.size)
        clear hB5
        go_wp2
        go_ret
        exact ⟨rfl, hW5⟩

set_option maxRecDepth 100000 in
theorem lifted (os : Os) (started : os.Started) (H : Type) (enc : TypeId × Value → H) :
    ReturnsInHanded {} Try.checked os 3 .any (Rows.fnProgrammedSpec.pre6 enc Try.prog Try.f3 Rows.fnProgrammedRow.domain false) (Rows.fnProgrammedSpec.post enc Try.prog Try.f3 false true false false) := by
  refine returnsInHanded_of_change (C := Try.checked) own started (by kernel_rfl) Try.func3
    (ChangeSpec.witness6 (enc := enc) (C := Try.checked) false ⟨#[], #[.slice none 0 0], []⟩ 8 (by kernel_rfl) (by kernel_rfl) (by kernel_rfl) (by kernel_rfl)) ?_
  intro W base args ds gs before hval0 hW hcnd _
  have hval : ∀ (j : Nat) t v, Try.f3.params[j]? = some t → args[j]? = some v → Value.okWide Try.prog W .any base t v := hval0
  have hW' := hW
  obtain ⟨p, q, hA0, hV, rfl, hfz, hnd⟩ := hW
  have hA : DataW.TrodAll enc Try.prog W 0 (fun _ => true) true Try.f3.params.toList args.toList ds p := hA0
  rw [Try.params3] at hA hval
  obtain ⟨v0, vs0, d0, ds0, p0, q0, hargs, rfl, rfl, h0, r0⟩ := trodAll_cons hA
  obtain ⟨rfl, rfl, rfl⟩ := trodAll_nil r0
  obtain rfl : args = #[v0] := by cases args; simp_all
  obtain ⟨rfl, rfl⟩ := trodVars_none hV
  have k0 := h0
  have lt0 : ∀ x ∈ p0, x.block < W.heap.size := by obtain ⟨m, hm⟩ := k0; exact DataW.trod_lt m _ _ _ hm
  obtain ⟨a, n, c, rfl, hL, hlen⟩ := open_code Try.underlying22 Try.underlying5 (by kernel_rfl) (hval 0 22 v0 rfl rfl) h0

  clear hA0 hval0
  refine (walk a n c W hL hlen).mono fun e W' ⟨he, bel⟩ => ?_
  subst he
  exact ⟨_, rfl, _, _, _, [], _, [], hW', trodAll_mk1 (shut_bool Try.underlying4 _), (trodAll_cons_mk (Below.trod laidOut (by kernel_rfl) (of_decide_eq_true (by kernel_rfl)) k0 bel lt0) trodAll_mk0), rfl, bel.frame _, fun h => by cases h⟩

theorem over : Rows.fnProgrammedRow.holds Try.pinned (OpenSpec.ofChange Rows.fnProgrammedSpec) :=
  OpenClaim.holds_of_wide 3 Try.f3 rfl rfl rfl rfl rfl rfl rfl ⟨rfl, rfl, rfl, rfl, rfl⟩ rfl rfl rfl rfl rfl (by kernel_rfl) Try.func3 (by kernel_rfl)
    (of_decide_eq_true (by kernel_rfl)) (by unfold Func.isWrapper; first | (rw [if_pos (by decide +kernel)]; kernel_rfl) | (rw [if_neg (by decide +kernel)]; exact ⟨rfl, rfl⟩))
    (fun os started H enc _ => lifted os started H enc)

end Go.Proofs.Ytalgkmellbamgaa.fnProgrammed
namespace Go.Proofs.Ytalgkmellbamgaa
theorem programmedP_holds : Rows.FnProgrammedSaid := fnProgrammed.over
end Go.Proofs.Ytalgkmellbamgaa
