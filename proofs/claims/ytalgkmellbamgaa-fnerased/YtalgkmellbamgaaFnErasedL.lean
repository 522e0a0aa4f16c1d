/- Whatever the code, the law FnErased answers true: a block that is erased is free, and worn by one more; all others are as they were. No condition. -/
import Derived.Test.YtalgkmellbamgaaRows
import Derived.Test.YtalgkmellbamgaaDrC
import Derived.Test.YtalgkmellbamgaaSamK
import Derived.Test.YtalgkmellbamgaaQt
import Derived.Test.YtalgkmellbamgaaEraO
import Derived.Test.YtalgkmellbamgaaNextI
import Derived.Test.YtalgkmellbamgaaFreeI
import Derived.Test.YtalgkmellbamgaaLaw0
import Derived.WalkKit
import Derived.ProofKit
import Derived.OpenShut
import Derived.ChangeOld
import Derived.Below
namespace Go.Proofs.Ytalgkmellbamgaa.fnErased
open Go.ChangeShapes Go.WideShapes Go.ChangeAt Go.RowKit
set_option linter.unusedVariables false
set_option linter.unusedSimpArgs false

theorem lens9 {bs : List Bk} (h : Lens 1048576 bs) : Lens 9223372036854775807 bs := ⟨by have := h.1; omega, fun b hb => by have := h.2 b hb; omega⟩
theorem chipOkI_n (a : Option Addr) (c : Nat) (bs : List Bk) (n : Nat) (hl : bs.length = n) (w : World) (h : BlocksAt w a bs) (hn : Lens 9223372036854775807 bs) :
    Calls Try.prog 16 #[.agg #[.slice a n c]] w fun e w' => RetIff (ChipOk bs) e ∧ Below w.heap.size w w' := by
  subst hl; exact implChipOk_any a c bs w h hn

theorem pu_zero (k : Nat) : pu zeroBk k = false := by
  unfold pu pagesF
  match k with
  | 0 | 1 | 2 | 3 => rfl
  | k + 4 => rfl
theorem pu_pages {b c : Bk} (h : b.pages = c.pages) (k : Nat) : pu b k = pu c k := by unfold pu; rw [h]

theorem free_erased {bs : List Bk} {k : Nat} {x : Int} (hk : k < bs.length) {L : List Int} (hok : ChipOk (bs.set k ⟨x, zeroBk.pages⟩)) (h : FreeIs (bs.set k ⟨x, zeroBk.pages⟩) L) : (k : Int) ∈ L := by
  rcases h with ⟨_, rfl⟩ | ⟨h, _⟩
  · unfold freeTo
    refine List.mem_map.2 ⟨k, List.mem_filter.2 ⟨List.mem_range.2 (by rw [List.length_set]; exact hk), ?_⟩, rfl⟩
    unfold begun
    rw [List.getElem?_set_self hk]
    show (!pu ⟨x, zeroBk.pages⟩ 0) = true
    have e : pu (⟨x, zeroBk.pages⟩ : Bk) 0 = false := pu_zero 0
    rw [e]
    rfl
  · exact absurd hok h

theorem next_erased {bs : List Bk} {k : Nat} {x r : Int} (hk : k < bs.length) (hok : ChipOk (bs.set k ⟨x, zeroBk.pages⟩)) (h : NextOfIs (bs.set k ⟨x, zeroBk.pages⟩) (k : Int) r) : r = 0 := by
  refine h.one (.inr ⟨⟨hok, by omega, by rw [List.length_set]; omega⟩, ⟨x, zeroBk.pages⟩, by simp [hk], .inl ⟨0, by omega, rfl, ?_, fun j hj => absurd hj (Nat.not_lt_zero _)⟩⟩)
  exact pu_zero 0

set_option maxRecDepth 100000 in
set_option maxHeartbeats 8000000 in
theorem walk (a : Option Addr) (n c : Nat) (w : World) (h : CodeAt w a n) (hn : n ≤ 9223372036854775807) :
    Calls Try.prog 4 #[.slice a n c] w fun e w' => e = .returned (.bool true) ∧ Below w.heap.size w w' := by
  have HC := hide h
  have hmix : Try.prog.follows .mixedOrders = true := by kernel_rfl
  clear h
  go_enter Try.func4, Try.ntmps4
  go_wp2_with fail
  refine (big_any a n c _ hn).mono ?_
  rintro e w0 ⟨rfl, rfl⟩
  by_cases hbig : (1048576 : Int) < (n : Int)
  · have hd : decide ((1048576 : Int) < (n : Int)) = true := by simpa using hbig
    rw [hd]
    clear hd
    go_wp2
    go_ret
    exact ⟨rfl, Below.refl _ _⟩
  · have hd : decide ((1048576 : Int) < (n : Int)) = false := by simpa using hbig
    have hbig' : n ≤ 1048576 := by omega
    rw [hd]
    clear hd hbig
    go_wp2_with fail
    refine (drawErased_any a n c _ (unhide HC) hbig').mono ?_
    rintro e w1 ⟨a1, n1, c1, bs, z, rfl, hC1, hW1⟩
    have hs1 := hW1.size
    have HC1 := hide hC1
    have hb1 : ∀ o, Below w1.heap.size w1 (w1.alloc o) := fun o => (Below.refl _ w1).alloc (Nat.le_refl _) _
    clear HC hC1
    go_wp2_with fail
    refine (implErased_own a1 c1 bs n1 (unhide HC1).1 z _ ((unhide HC1).below (hb1 _)).2.1 (lens9 (unhide HC1).2.2)).mono ?_
    rintro e w2 ⟨a2, n2, c2, out, code, rfl, hE2, hO2, hB2⟩
    have hs2 := hB2.size
    simp at hs2
    have hl12 : w1.heap.size < w2.heap.size := by omega
    have x2 : w2.cell? ⟨w1.heap.size, 0, none⟩ = some (.slice a1 n1 c1) := (hB2.cell (p := ⟨w1.heap.size, 0, none⟩) (by simp)).trans (by simp)
    have hB12 : Below w1.heap.size w1 w2 := (hb1 _).trans (hB2.mono (by simp))
    have HC2 := hide ((unhide HC1).below hB12)
    have HD2 : Hid (ChipIn w2 a2 n2 out) := ⟨hO2.1, hO2.blocksAt, hE2.lens (unhide HC1).2.2⟩
    have hW2 := hW1.trans (hB12.mono hW1.size)
    have hb2 : ∀ o, Below w2.heap.size w2 (w2.alloc o) := fun o => (Below.refl _ w2).alloc (Nat.le_refl _) _
    have HE2 := hide hE2
    clear hO2 hB2 hB12 HC1 hW1 hb1 hE2
    go_wp2_with fail
    refine (specErased_any a1 c1 bs n1 (unhide HC2).1 z _ ((unhide HC2).below (hb2 _)).2.1 (unhide HC2).2.2).mono ?_
    rintro e w3 ⟨a3, n3, c3, out3, code3, rfl, hE3, hl3, hA3, hB3⟩
    obtain ⟨rfl, rfl⟩ := (unhide HE2).one hE3
    obtain rfl : n3 = n2 := hl3.symm.trans (unhide HD2).1
    have hs3 := hB3.size
    simp at hs3
    have d3 : w3.cell? ⟨w2.heap.size, 0, none⟩ = some (.slice a2 n3 c2) := (hB3.cell (p := ⟨w2.heap.size, 0, none⟩) (by simp)).trans (by simp)
    have x3 := (hB3.cell (p := ⟨w1.heap.size, 0, none⟩) (by simp; omega)).trans ((cell_alloc_lt _ _ _ _ (by omega)).trans x2)
    have hB23 : Below w2.heap.size w2 w3 := (hb2 _).trans (hB3.mono (by simp))
    have HC3 := hide ((unhide HC2).below hB23)
    have HD3 := hide ((unhide HD2).below hB23)
    have HT3 : Hid (ChipIn w3 a3 n3 out) := ⟨hl3, hA3, (unhide HD2).2.2⟩
    have hW3 := hW2.trans (hB23.mono hW2.size)
    have hb3 : ∀ o, Below w3.heap.size w3 (w3.alloc o) := fun o => (Below.refl _ w3).alloc (Nat.le_refl _) _
    have hne : (code != code) = false := by simp
    have heq : (code == code) = true := by simp
    have hl13 : w1.heap.size < w3.heap.size := by omega
    have hl23 : w2.heap.size < w3.heap.size := by omega
    clear hA3 hB3 hB23 HC2 HD2 hW2 hb2 x2 hE3 hl3
    go_wp2_with fail
    refine (sameChip_same a2 a3 c2 c3 out n3 (unhide HD3).1 _ ((unhide HD3).below (hb3 _)).2.1 ((unhide HT3).below (hb3 _)).2.1 (unhide HD3).2.2).mono ?_
    rintro e w4 ⟨rfl, hB4⟩
    have hs4 := hB4.size
    simp at hs4
    have y4 : w4.cell? ⟨w3.heap.size, 0, none⟩ = some (.slice a3 n3 c3) := (hB4.cell (p := ⟨w3.heap.size, 0, none⟩) (by simp)).trans (by simp)
    have x4 := (hB4.cell (p := ⟨w1.heap.size, 0, none⟩) (by simp; omega)).trans ((cell_alloc_lt _ _ _ _ hl13).trans x3)
    have d4 := (hB4.cell (p := ⟨w2.heap.size, 0, none⟩) (by simp; omega)).trans ((cell_alloc_lt _ _ _ _ hl23).trans d3)
    have hB34 : Below w3.heap.size w3 w4 := (hb3 _).trans (hB4.mono (by simp))
    have HC4 := hide ((unhide HC3).below hB34)
    have HD4 := hide ((unhide HD3).below hB34)
    have HT4 := hide ((unhide HT3).below hB34)
    have hW4 := hW3.trans (hB34.mono hW3.size)
    clear hB4 hB34 HC3 HD3 HT3 hW3 hb3 x3 d3
    rcases unhide HE2 with ⟨hno, h1, h2⟩ | hr
    · subst h2
      clear HE2
      go_wp2_with fail
      refine (sameChip_same a2 a3 c2 c3 out n3 (unhide HD4).1 _ (unhide HD4).2.1 (unhide HT4).2.1 (unhide HD4).2.2).mono ?_
      rintro e w5 ⟨rfl, hB5⟩
      have hW5 := hW4.trans (hB5.mono hW4.size)
      clear hB5
      go_wp2
      go_ret
      exact ⟨rfl, hW5⟩
    · by_cases h0 : code = 0
      · subst h0
        obtain ⟨hok, hin, b, hb, hwear, hout⟩ : ChipOk bs ∧ InB bs z ∧ ∃ b, bs[z.toNat]? = some b ∧ b.wear ≠ 1000000000 ∧ out = bs.set z.toNat ⟨b.wear + 1, zeroBk.pages⟩ := by
          rcases hr with ⟨_, _, _, h⟩ | ⟨h1, h2, b, hb, ⟨_, _, h⟩ | ⟨h3, h4, _⟩⟩
          · cases h
          · cases h
          · exact ⟨h1, h2, b, hb, h3, h4⟩
        have hoko : ChipOk out := (unhide HE2).ok hok
        obtain ⟨k, rfl⟩ := Int.eq_ofNat_of_zero_le hin.1
        simp only [Int.toNat_natCast] at hb hout
        have hkb : k < bs.length := (List.getElem?_eq_some_iff.1 hb).1
        have hwr := (hok.block b (List.mem_of_getElem? hb)).wear
        have HFR : Hid (∀ L, FreeIs out L → (k : Int) ∈ L) := fun L hL => by
          subst hout
          exact free_erased hkb hoko hL
        have HNX : Hid (∀ r, NextOfIs out (k : Int) r → r = 0) := fun r hr => by
          subst hout
          exact next_erased hkb hoko hr
        have hob : out[k]? = some ⟨b.wear + 1, zeroBk.pages⟩ := by rw [hout]; simp [hkb]
        have HOB := hide hob
        have HBB := hide hb
        have HOK := hide hoko
        have hn1 : (k : Int) < (n1 : Int) := by have := (unhide HC4).1; omega
        have hn3 : (k : Int) < (n3 : Int) := by have := (unhide HD4).1; have := (List.getElem?_eq_some_iff.1 hob).1; omega
        have hweq : (b.wear + 1 == b.wear + 1) = true := by simp
        clear hr HE2 hoko hob hb hout hok hin hwear hkb HT4 y4
        go_wp2_with fail
        refine (implFreeOf_any a2 c2 out n3 (unhide HD4).1 _ (unhide HD4).2.1 (lens9 (unhide HD4).2.2)).mono ?_
        rintro e w5 ⟨v, L, rfl, hF, hO5, hB5⟩
        have hm12 := hF.length
        have hmem := unhide HFR L hF
        obtain ⟨a5, c5, rfl, hI5, _⟩ := hO5.form
        have hs5 := hB5.size
        have x5 := (hB5.cell (p := ⟨w1.heap.size, 0, none⟩) (by show w1.heap.size < _; omega)).trans x4
        have d5 := (hB5.cell (p := ⟨w2.heap.size, 0, none⟩) (by show w2.heap.size < _; omega)).trans d4
        have HC5 := hide ((unhide HC4).below hB5)
        have HD5 := hide ((unhide HD4).below hB5)
        have hW5 := hW4.trans (hB5.mono hW4.size)
        have HI5 := hide hI5
        have HME := hide hmem
        obtain ⟨m, hm⟩ : ∃ m, m = L.length := ⟨_, rfl⟩
        have HM := hide hm
        rw [← hm] at hm12 ⊢
        have hl15 : w1.heap.size < w5.heap.size := by omega
        have hl25 : w2.heap.size < w5.heap.size := by omega
        clear hF hO5 hB5 hI5 hmem hm HC4 HD4 hW4 x4 d4 HFR
        go_wp2
        go_loopw [10, 11] (fun vt vi wr => ∃ (t : Bool) (i : Nat), vt = .bool t ∧ vi = .int .i64 i ∧ i ≤ m ∧ ((k : Int) ∈ L.take i → t = true) ∧ Below w5.heap.size w5 wr) (fun _ vi _ => m - (intOf vi).toNat)
        case atStart => exact ⟨false, 0, rfl, rfl, Nat.zero_le _, fun h => by simp at h, Below.refl _ _⟩
        case round =>
          obtain ⟨t, i, rfl, rfl, him, hti, hB⟩ := hrel
          obtain ⟨w6, rfl⟩ : ∃ w6, w6 = wr := ⟨_, rfl⟩
          have hs6 := hB.size
          have HTI := hide hti
          clear hti
          by_cases hlt : i < m
          · obtain ⟨y, hy⟩ := getElem?_ex (l := L) (k := i) (by have := unhide HM; omega)
            obtain ⟨g5, o5, rfl, hcy⟩ := ((unhide HI5).below hB (Nat.le_refl _)) i y hy
            have HY := hide hy
            clear hy x5 d5
            cases t with
            | true =>
              go_wp2
              go_roundw
              case rel => exact ⟨true, i + 1, rfl, by go_num, by omega, fun _ => rfl, hB⟩
              case measure => simp [intOf]; omega
            | false =>
              go_wp2
              go_roundw
              case rel =>
                refine ⟨(y == (k : Int)), i + 1, rfl, by go_num, by omega, fun hmem => ?_, hB⟩
                rw [List.take_add_one, unhide HY] at hmem
                rcases List.mem_append.1 hmem with h1 | h1
                · have := unhide HTI h1
                  cases this
                · simp at h1
                  simp [h1]
              case measure => simp [intOf]; omega
          · obtain rfl : t = true := unhide HTI (by rw [List.take_of_length_le (by have := unhide HM; omega)]; exact unhide HME)
            have x6 := (hB.cell (p := ⟨w1.heap.size, 0, none⟩) hl15).trans x5
            have d6 := (hB.cell (p := ⟨w2.heap.size, 0, none⟩) hl25).trans d5
            have HC6 := hide ((unhide HC5).below hB)
            have HD6 := hide ((unhide HD5).below hB)
            have hW6 := hW5.trans (hB.mono hW5.size)
            have hl16 : w1.heap.size < w6.heap.size := by omega
            have hl26 : w2.heap.size < w6.heap.size := by omega
            have HD6d : Hid (ChipIn w6.drew a2 n3 out) := (unhide HD6).below (Below.refl _ w6).drew
            clear hB HC5 HD5 hW5 x5 d5 HTI HME HI5
            obtain ⟨g2, o2, pa2, pc2, e2, wo6, _, _⟩ := (unhide HD6).2.1 k _ (unhide HOB)
            obtain ⟨g1, o1, pa1, pc1, e1, wb6, _, _⟩ := (unhide HC6).2.1 k _ (unhide HBB)
            subst e1 e2
            simp only at wo6 wb6
            have hg2 : g2 < w6.heap.size := World.block_lt_of_cell? _ _ wo6
            have hg1 : g1 < w6.heap.size := World.block_lt_of_cell? _ _ wb6
            go_wp2_with fail
            refine wp_region_grown (Below w6.heap.size w6) hmix (by kernel_rfl) (below_drawn w6) ?_
            refine wpQuiet_val rfl (.agg #[.slice (some ⟨g2, o2, none⟩) n3 c2]) (fun W hC => ?_) ?_
            · have hcl := (hC.cell (p := ⟨w2.heap.size, 0, none⟩) hl26).trans d6
              go_simp
            simp only [Act.put, List.setIfInBounds_toArray, List.set_cons_zero, List.set_cons_succ]
            refine wpQuiet_val rfl (.bool true) (fun W hC => ?_) ?_
            · go_simp
              refine (chipOkI_n (some ⟨g2, o2, none⟩) c2 out n3 (unhide HD6).1 W ((unhide HD6).below hC).2.1 (lens9 (unhide HD6).2.2)).mono ?_
              rintro e w' ⟨⟨r7, rfl, hr7⟩, hB'⟩
              obtain rfl : r7 = true := hr7.2 (unhide HOK)
              exact ⟨rfl, hC.trans (hB'.mono hC.size)⟩
            simp only [Act.put, List.setIfInBounds_toArray, List.set_cons_zero, List.set_cons_succ]
            go_big_quiet_step (exact fun _ => rfl)
            go_big_quiet_step (exact fun _ => rfl)
            go_big_quiet_step (exact fun _ => rfl)
            go_big_quiet_step (exact fun _ => rfl)
            refine wpQuiet_val rfl (.agg #[.slice (some ⟨g2, o2, none⟩) n3 c2]) (fun W hC => ?_) ?_
            · have hcl := (hC.cell (p := ⟨w2.heap.size, 0, none⟩) hl26).trans d6
              go_simp
            simp only [Act.put, List.setIfInBounds_toArray, List.set_cons_zero, List.set_cons_succ]
            go_big_quiet_step (exact fun _ => rfl)
            refine wpQuiet_val rfl (.int .i64 0) (fun W hC => ?_) ?_
            · go_simp
              refine (implNextOf_any (some ⟨g2, o2, none⟩) c2 out n3 (unhide HD6).1 (k : Int) W ((unhide HD6).below hC).2.1 (lens9 (unhide HD6).2.2)).mono ?_
              rintro e w' ⟨r8, rfl, hr8, hB'⟩
              obtain rfl : r8 = 0 := unhide HNX _ hr8
              exact ⟨rfl, hC.trans (hB'.mono hC.size)⟩
            simp only [Act.put, List.setIfInBounds_toArray, List.set_cons_zero, List.set_cons_succ]
            go_big_quiet_step (exact fun _ => rfl)
            go_big_quiet_step (exact fun _ => rfl)
            go_big_quiet_step (exact fun _ => rfl)
            go_big_quiet_step (exact fun _ => rfl)
            refine wpQuiet_val rfl (.slice (some ⟨g2, o2, none⟩) n3 c2) (fun W hC => ?_) ?_
            · have hcl := (hC.cell (p := ⟨w2.heap.size, 0, none⟩) hl26).trans d6
              go_simp
            simp only [Act.put, List.setIfInBounds_toArray, List.set_cons_zero, List.set_cons_succ]
            go_big_quiet_step (exact fun _ => rfl)
            go_big_quiet_step (exact fun _ => rfl)
            go_big_quiet_step (exact fun _ => rfl)
            refine wpQuiet_val rfl (.int .i64 (b.wear + 1)) (fun W hC => ?_) ?_
            · have hcl := (hC.cell (p := ⟨g2, o2 + k * 2, none⟩) hg2).trans wo6
              go_simp
            simp only [Act.put, List.setIfInBounds_toArray, List.set_cons_zero, List.set_cons_succ]
            go_big_quiet_step (exact fun _ => rfl)
            refine wpQuiet_val rfl (.slice (some ⟨g1, o1, none⟩) n1 c1) (fun W hC => ?_) ?_
            · have hcl := (hC.cell (p := ⟨w1.heap.size, 0, none⟩) hl16).trans x6
              go_simp
            simp only [Act.put, List.setIfInBounds_toArray, List.set_cons_zero, List.set_cons_succ]
            go_big_quiet_step (exact fun _ => rfl)
            go_big_quiet_step (exact fun _ => rfl)
            go_big_quiet_step (exact fun _ => rfl)
            refine wpQuiet_val rfl (.int .i64 b.wear) (fun W hC => ?_) ?_
            · have hcl := (hC.cell (p := ⟨g1, o1 + k * 2, none⟩) hg1).trans wb6
              go_simp
            simp only [Act.put, List.setIfInBounds_toArray, List.set_cons_zero, List.set_cons_succ]
            refine wpQuiet_val rfl (.int .i64 (b.wear + 1)) (fun W hC => ?_) ?_
            · go_simp
              simp [IntKind.wrap, IntKind.bits, IntKind.signed]
              omega
            simp only [Act.put, List.setIfInBounds_toArray, List.set_cons_zero, List.set_cons_succ]
            refine wpQuiet_val rfl (.bool true) (fun W hC => ?_) ?_
            · go_simp
            simp only [Act.put, List.setIfInBounds_toArray, List.set_cons_zero, List.set_cons_succ]
            go_big_quiet_step (exact fun _ => rfl)
            go_big_quiet_step (exact fun _ => rfl)
            refine wpQuiet_nil ?_
            intro w8 hC8
            have hW8 := hW6.trans (hC8.mono hW6.size)
            clear hC8
            go_wp2
            go_ret
            exact ⟨rfl, hW8⟩
      · have hob : out = bs := by
          rcases hr with ⟨_, _, h, _⟩ | ⟨h1, h2, b, hb, ⟨_, h, _⟩ | ⟨h3, h4, h5⟩⟩
          · exact h
          · exact h
          · exact absurd h5 h0
        have h1 : code ≠ 1 := by
          rcases hr with ⟨_, _, _, h⟩ | ⟨_, _, _, _, ⟨_, _, h⟩ | ⟨_, _, h⟩⟩ <;> omega
        have hc1 : (code == 1) = false := by simpa using h1
        have hc0 : (code != 0) = true := by simpa using h0
        subst hob
        obtain rfl : n3 = n1 := (unhide HD4).1.symm.trans (unhide HC4).1
        clear hr HE2
        go_wp2_with fail
        refine (sameChip_same a2 a1 c2 c1 out n3 (unhide HD4).1 _ (unhide HD4).2.1 (unhide HC4).2.1 (unhide HD4).2.2).mono ?_
        rintro e w5 ⟨rfl, hB5⟩
        have hW5 := hW4.trans (hB5.mono hW4.size)
        clear hB5
        go_wp2
        go_ret
        exact ⟨rfl, hW5⟩

set_option maxRecDepth 100000 in
theorem lifted (os : Os) (started : os.Started) (H : Type) (enc : TypeId × Value → H) :
    ReturnsInHanded {} Try.checked os 4 .any (Rows.fnErasedSpec.pre6 enc Try.prog Try.f4 Rows.fnErasedRow.domain false) (Rows.fnErasedSpec.post enc Try.prog Try.f4 false true false false) := by
  refine returnsInHanded_of_change (C := Try.checked) own started (by kernel_rfl) Try.func4
    (ChangeSpec.witness6 (enc := enc) (C := Try.checked) false ⟨#[], #[.slice none 0 0], []⟩ 8 (by kernel_rfl) (by kernel_rfl) (by kernel_rfl) (by kernel_rfl)) ?_
  intro W base args ds gs before hval0 hW hcnd _
  have hval : ∀ (j : Nat) t v, Try.f4.params[j]? = some t → args[j]? = some v → Value.okWide Try.prog W .any base t v := hval0
  have hW' := hW
  obtain ⟨p, q, hA0, hV, rfl, hfz, hnd⟩ := hW
  have hA : DataW.TrodAll enc Try.prog W 0 (fun _ => true) true Try.f4.params.toList args.toList ds p := hA0
  rw [Try.params4] at hA hval
  obtain ⟨v0, vs0, d0, ds0, p0, q0, hargs, rfl, rfl, h0, r0⟩ := trodAll_cons hA
  obtain ⟨rfl, rfl, rfl⟩ := trodAll_nil r0
  obtain rfl : args = #[v0] := by cases args; simp_all
  obtain ⟨rfl, rfl⟩ := trodVars_none hV
  have k0 := h0
  have lt0 : ∀ x ∈ p0, x.block < W.heap.size := by obtain ⟨m, hm⟩ := k0; exact DataW.trod_lt m _ _ _ hm
  obtain ⟨a, n, c, rfl, hL, hlen⟩ := open_code Try.underlying22 Try.underlying5 (by kernel_rfl) (hval 0 22 v0 rfl rfl) h0

  clear hA0 hval0
  refine (walk a n c W hL hlen).mono fun e W' ⟨he, bel⟩ => ?_
  subst he
  exact ⟨_, rfl, _, _, _, [], _, [], hW', trodAll_mk1 (shut_bool Try.underlying4 _), (trodAll_cons_mk (Below.trod laidOut (by kernel_rfl) (of_decide_eq_true (by kernel_rfl)) k0 bel lt0) trodAll_mk0), rfl, bel.frame _, fun h => by cases h⟩

theorem over : Rows.fnErasedRow.holds Try.pinned (OpenSpec.ofChange Rows.fnErasedSpec) :=
  OpenClaim.holds_of_wide 4 Try.f4 rfl rfl rfl rfl rfl rfl rfl ⟨rfl, rfl, rfl, rfl, rfl⟩ rfl rfl rfl rfl rfl (by kernel_rfl) Try.func4 (by kernel_rfl)
    (of_decide_eq_true (by kernel_rfl)) (by unfold Func.isWrapper; first | (rw [if_pos (by decide +kernel)]; kernel_rfl) | (rw [if_neg (by decide +kernel)]; exact ⟨rfl, rfl⟩))
    (fun os started H enc _ => lifted os started H enc)

end Go.Proofs.Ytalgkmellbamgaa.fnErased
namespace Go.Proofs.Ytalgkmellbamgaa
theorem erasedP_holds : Rows.FnErasedSaid := fnErased.over
end Go.Proofs.Ytalgkmellbamgaa
