/- The block that is emptied: the program's victimBut and VictimOf. -/
import Derived.Test.YtageolbmplhgaaaVicP
import Derived.Test.YtageolbmplhgaaaValI
import Derived.BigQuiet
namespace Go.Proofs.Ytageolbmplhgaaa
open Go.RowKit
set_option linter.unusedVariables false
set_option linter.unusedSimpArgs false

set_option maxRecDepth 100000 in
set_option maxHeartbeats 4000000 in
theorem victimBut_any (A : Array Value) (m : CC) (bs : List Bk) (n : Nat) (hl : bs.length = n) (hbs : ccBs m n = bs) (hA0 : A[0]? = some (.int .i64 (n : Int))) (hAb : ∀ b i, b < 12 → i < 17 → A[1 + b * 17 + i]? = (bcA (m.wear b) (m.page b))[i]?) (hn : n ≤ 12)
    (ma : Option Addr) (mc : Nat) (L : List Int) (mn : Nat) (hL : L.length = mn) (hmn : mn ≤ 36) (hP : ∀ x ∈ L, x = -1 ∨ (0 ≤ x ∧ x < 48)) (o : Int) (w : World) (hI : IntsAt w ma L) :
    Calls Try.prog 81 #[.agg A, .slice ma mn mc, .int .i64 o] w fun e w' => e = .returned (.int .i64 (vicOf bs L o)) ∧ Below w.heap.size w w' := by
  have HAB := hide hAb
  have HBS := hide hbs
  have HL := hide hl
  have hb0 : ∀ o, Below w.heap.size w (w.alloc o) := fun o => (Below.refl _ w).alloc (Nat.le_refl _) _
  clear hAb hbs hl
  go_enter Try.func81, Try.ntmps81
  go_wp2_with fail
  refine (validCounts_any ma mc L mn hL hmn hP _ (hI.below (hb0 _) (Nat.le_refl _))).mono ?_
  rintro e w1 ⟨C, rfl, hC, hB1⟩
  have hs1 := hB1.size
  simp at hs1
  have hr1 : w1.heap[w.heap.size]? = some (.cells A 84 (0, 0)) := (hB1.block _ (by simp)).trans (World.alloc_heap_new _ _)
  have hW1 : Below w.heap.size w w1 := (hb0 _).trans (hB1.mono (by simp))
  have hc1 := (cell_of_row _ _ 0 _ _ _ hr1).trans hA0
  have HR1 := hide hr1
  have HC := hide hC
  have hCs := hC.1
  have hst : (storeCells ⟨w1.heap.size, 0, none⟩ C.toList).run Try.prog (w1.alloc (.cells #[.int .i64 0, .int .i64 0, .int .i64 0, .int .i64 0, .int .i64 0, .int .i64 0, .int .i64 0, .int .i64 0, .int .i64 0, .int .i64 0, .int .i64 0, .int .i64 0] 101)) = .ok () (w1.alloc (.cells C 101)) := by
    have := storeNew Try.prog w1 w1.heap.size rfl #[.int .i64 0, .int .i64 0, .int .i64 0, .int .i64 0, .int .i64 0, .int .i64 0, .int .i64 0, .int .i64 0, .int .i64 0, .int .i64 0, .int .i64 0, .int .i64 0] 101 C.toList (by simp [hC.1]) hC.one
    simpa only [Array.toArray_toList] using this
  have hc1' : ∀ o', (w1.alloc o').cell? ⟨w.heap.size, 0, none⟩ = some (.int .i64 (n : Int)) := fun o' => (cell_alloc_lt _ _ _ _ (by omega)).trans hc1
  clear hB1 hr1 hC hP hI hA0 hb0 hc1
  go_wp2
  clear hst hc1'
  obtain ⟨w2, hw2⟩ : ∃ w2, w2 = w1.alloc (.cells C 101) := ⟨_, rfl⟩
  have hs2 : w1.heap.size < w2.heap.size := by rw [hw2]; simp
  have HR2 : Hid (w2.heap[w.heap.size]? = some (.cells A 84 (0, 0))) := by rw [hw2]; exact (Below.heap_alloc _ _ _ (by omega)).trans (unhide HR1)
  have HC2 : Hid (w2.heap[w1.heap.size]? = some (.cells C 101 (0, 0))) := by rw [hw2]; exact World.alloc_heap_new _ _
  have hW2 : Below w.heap.size w w2 := by rw [hw2]; exact hW1.alloc hW1.size _
  rw [← hw2]
  clear hw2 HR1 hW1
  go_loopw [8, 14] (fun v i wr => ∃ k : Nat, k ≤ n ∧ i = .int .i64 k ∧ v = .int .i64 (vicTo bs L o k) ∧ Below w2.heap.size w2 wr) (fun _ i _ => n - (intOf i).toNat)
  case atStart => exact ⟨0, Nat.zero_le _, rfl, rfl, Below.refl _ _⟩
  case round =>
    obtain ⟨k, hk, rfl, rfl, hB⟩ := hrel
    have hsr := hB.size
    obtain ⟨hb1, hb2⟩ := vicTo_bounds bs L o k
    obtain ⟨best, hbest⟩ : ∃ best, best = vicTo bs L o k := ⟨_, rfl⟩
    rw [← hbest] at hb1 hb2 ⊢
    have HBE := hide hbest
    clear hbest
    by_cases hlt : k < n
    · have hki : (k : Int) < 12 := by omega
      obtain ⟨x, hx⟩ := getElem?_ex (l := bs) (k := k) (by have := unhide HL; omega)
      have hpu : ∀ t, t < 4 → pu x t = (m.page k t).used := fun t ht => pu_cc m (n := n) hlt ht (by rw [unhide HBS]; exact hx)
      have hxw : x.wear = m.wear k := by
        have e := ccBs_at m (n := n) hlt
        rw [unhide HBS, hx] at e
        cases e
        rfl
      have hblk : ∀ j, j < 17 → wr.cell? ⟨w.heap.size, 1 + k * 17 + j, none⟩ = (bcA (m.wear k) (m.page k))[j]? := fun j hj => by
        rw [hB.cell (p := ⟨w.heap.size, 1 + k * 17 + j, none⟩) (by show w.heap.size < _; omega), cell_of_row _ _ _ _ _ _ (unhide HR2)]
        exact unhide HAB k j (by omega) hj
      have HB := hide hblk
      have HPU := hide hpu
      have HX := hide hx
      have HXW := hide hxw
      clear hblk hpu hx hxw
      by_cases hko : (k : Int) = o
      · have heq : ((k : Int) == o) = true := by simpa using hko
        go_wp2
        go_roundw
        case rel => exact ⟨k + 1, by omega, by go_num, by rw [vicTo_skip (unhide HX) (.inl hko), ← unhide HBE], hB⟩
        case measure => simp [intOf]; omega
      · have heq : ((k : Int) == o) = false := by simpa using hko
        go_wp2_with (refine wpList_load_mid_g rfl 81 _ rfl w.heap.size (1 + k * 17) rfl (bcA (m.wear k) (m.page k)) 17 (bcA_size _ _) (unhide HB) _ Try.underlying81 rfl sizeBC ?_)
        refine (full_any _ _ x (unhide HPU) _).mono ?_
        rintro e w3 ⟨rfl, hB3⟩
        have hs3 := hB3.size
        have hBB : Below w2.heap.size w2 w3 := hB.trans (hB3.mono hB.size)
        clear HB HPU hB3 hB
        generalize bcA (m.wear k) (m.page k) = A2
        cases hfu : fullB x with
        | false =>
          go_wp2
          go_roundw
          case rel => exact ⟨k + 1, by omega, by go_num, by rw [vicTo_skip (unhide HX) (.inr hfu), ← unhide HBE], hBB⟩
          case measure => simp [intOf]; omega
        | true =>
          obtain ⟨V1, hV1⟩ : ∃ V1 : Int, V1 = (validIn L (k : Int) : Int) := ⟨_, rfl⟩
          have hck : w3.cell? ⟨w1.heap.size, k, none⟩ = some (.int .i64 V1) := by
            rw [hBB.cell (p := ⟨w1.heap.size, k, none⟩) hs2, cell_of_row _ _ _ _ _ _ (unhide HC2), hV1]
            exact (unhide HC).2 k (by omega)
          have hwk : w3.cell? ⟨w.heap.size, 1 + k * 17, none⟩ = some (.int .i64 x.wear) := by
            rw [hBB.cell (p := ⟨w.heap.size, 1 + k * 17, none⟩) (by show w.heap.size < _; omega), cell_of_row _ _ _ _ _ _ (unhide HR2), unhide HXW]
            exact (unhide HAB k 0 (by omega) (by omega)).trans ((bcA_get _ _ (i := 0) (by omega)).trans rfl)
          have HVK := hide hV1
          clear hV1
          by_cases hbn : best < 0
          · go_wp2_with fail
            go_quiet (fail)
            go_wp2
            go_roundw
            case rel => exact ⟨k + 1, by omega, by go_num, by rw [vicTo_take (unhide HX) hko hfu (by rw [← unhide HBE]; exact beats_neg hbn)], Below.drewN hBB _⟩
            case measure => simp [intOf]; omega
          · obtain ⟨kb, hkb⟩ : ∃ kb : Nat, best = (kb : Int) := ⟨best.toNat, by omega⟩
            subst hkb
            have hkbi : (kb : Int) < 12 := by omega
            obtain ⟨xb, hxb⟩ := getElem?_ex (l := bs) (k := kb) (by have := unhide HL; omega)
            have hwa := wearAt_of hxb
            have hxbw : xb.wear = m.wear kb := by
              have e := ccBs_at m (n := n) (b := kb) (by omega)
              rw [unhide HBS, hxb] at e
              cases e
              rfl
            obtain ⟨V2, hV2⟩ : ∃ V2 : Int, V2 = (validIn L (kb : Int) : Int) := ⟨_, rfl⟩
            have hcb : w3.cell? ⟨w1.heap.size, kb, none⟩ = some (.int .i64 V2) := by
              rw [hBB.cell (p := ⟨w1.heap.size, kb, none⟩) hs2, cell_of_row _ _ _ _ _ _ (unhide HC2), hV2]
              exact (unhide HC).2 kb (by omega)
            have hwb : w3.cell? ⟨w.heap.size, 1 + kb * 17, none⟩ = some (.int .i64 xb.wear) := by
              rw [hBB.cell (p := ⟨w.heap.size, 1 + kb * 17, none⟩) (by show w.heap.size < _; omega), cell_of_row _ _ _ _ _ _ (unhide HR2), hxbw]
              exact (unhide HAB kb 0 (by omega) (by omega)).trans ((bcA_get _ _ (i := 0) (by omega)).trans rfl)
            have HVB := hide hV2
            have HWA := hide hwa
            clear hV2 hwa hxbw hxb
            by_cases hv1 : V1 < V2
            · go_wp2_with fail
              go_quiet (fail)
              go_wp2
              go_roundw
              case rel => exact ⟨k + 1, by omega, by go_num, by rw [vicTo_take (unhide HX) hko hfu (by rw [← unhide HBE]; exact beats_few (by have := unhide HVK; have := unhide HVB; omega))], Below.drewN hBB _⟩
              case measure => simp [intOf]; omega
            · have hv1' : V2 ≤ V1 := by omega
              by_cases hv2 : V1 = V2
              · have hv2' : (V1 == V2) = true := by simpa using hv2
                have HE := hide hv2
                clear hv2
                by_cases hw : x.wear < xb.wear
                · go_wp2_with fail
                  go_quiet (fail)
                  go_wp2_with fail
                  go_quiet (fail)
                  go_wp2
                  go_roundw
                  case rel => exact ⟨k + 1, by omega, by go_num, by rw [vicTo_take (unhide HX) hko hfu (by rw [← unhide HBE]; exact beats_wear (by have := unhide HVK; have := unhide HVB; have := unhide HE; omega) (unhide HWA) hw)], Below.drewN hBB _⟩
                  case measure => simp [intOf]; omega
                · have hw' : xb.wear ≤ x.wear := by omega
                  go_wp2_with fail
                  go_quiet (fail)
                  go_wp2_with fail
                  go_quiet (fail)
                  go_wp2
                  go_roundw
                  case rel => exact ⟨k + 1, by omega, by go_num, by rw [vicTo_keep (unhide HX) hko hfu (by rw [← unhide HBE]; exact beats_worn (by omega) (by have := unhide HVK; have := unhide HVB; have := unhide HE; omega) (unhide HWA) hw'), ← unhide HBE], Below.drewN hBB _⟩
                  case measure => simp [intOf]; omega
              · have hv2' : (V1 == V2) = false := by simpa using hv2
                go_wp2_with fail
                go_quiet (fail)
                go_wp2_with fail
                go_quiet (fail)
                go_wp2
                go_roundw
                case rel => exact ⟨k + 1, by omega, by go_num, by rw [vicTo_keep (unhide HX) hko hfu (by rw [← unhide HBE]; exact beats_more (by omega) (by have := unhide HVK; have := unhide HVB; omega)), ← unhide HBE], Below.drewN hBB _⟩
                case measure => simp [intOf]; omega
    · obtain rfl : k = n := by omega
      have hW := hW2.trans (hB.mono hW2.size)
      have e : vicOf bs L o = best := by rw [unhide HBE]; unfold vicOf; rw [unhide HL]
      have HEND := hide e
      clear e
      go_wp2
      go_ret
      exact ⟨by rw [unhide HEND]; rfl, hW⟩

set_option maxRecDepth 100000 in
set_option maxHeartbeats 1000000 in
theorem implVictimOf_any (a : Option Addr) (c : Nat) (bs : List Bk) (n : Nat) (hl : bs.length = n) (ma : Option Addr) (mc : Nat) (L : List Int) (mn : Nat) (hL : L.length = mn) (seq o : Int) (w : World) (h : BlocksAt w a bs) (hn : Lens 9223372036854775807 bs) (hI : IntsAt w ma L) (hmn : mn ≤ 9223372036854775807) :
    Calls Try.prog 49 #[.agg #[.slice a n c, .slice ma mn mc, .int .i64 seq, .int .i64 o]] w fun e w' => ∃ r : Int, e = .returned (.int .i64 r) ∧ VictimIs bs L seq o r ∧ Below w.heap.size w w' := by
  have hb0 : ∀ o, Below w.heap.size w (w.alloc o) := fun o => (Below.refl _ w).alloc (Nat.le_refl _) _
  go_enter Try.func49, Try.ntmps49
  go_wp2_with fail
  refine (rightCells_any a c bs n hl ma mc L mn hL seq o _ (h.below (hb0 _) (Nat.le_refl _)) hn (hI.below (hb0 _) (Nat.le_refl _)) hmn).mono ?_
  rintro e w1 ⟨⟨m, r, rfl, hr, hm⟩, hB1⟩
  have hW1 : Below w.heap.size w w1 := (hb0 _).trans (hB1.mono (by simp))
  have hs1 := hB1.size
  simp at hs1
  have hx1 : ∀ o', (w1.alloc o').cell? ⟨w.heap.size, 1, none⟩ = some (.slice ma mn mc) := fun o' => by
    rw [cell_alloc_lt _ _ _ _ (by omega), hB1.cell (p := ⟨w.heap.size, 1, none⟩) (by simp)]
    simp
  have hx3 : ∀ o', (w1.alloc o').cell? ⟨w.heap.size, 3, none⟩ = some (.int .i64 o) := fun o' => by
    rw [cell_alloc_lt _ _ _ _ (by omega), hB1.cell (p := ⟨w.heap.size, 3, none⟩) (by simp)]
    simp
  have hsc := store_cc m w1
  have hAs := ccA_size m
  have hA0 := ccA_count m
  have HSZ := hide (sizeCC m)
  have HAB := hide (fun b i hb hi => ccA_block m (b := b) (i := i) hb hi)
  have HR := hide hr
  have HM := hide hm
  have HI := hide (hI.below hW1 (Nat.le_refl _))
  have HL := hide hl
  have HLL := hide hL
  generalize ccA m = A at hsc hAs hA0 HSZ HAB
  have HA0 := hide hA0
  clear hr hm hA0 h hn hB1 hb0 hI hl hL
  cases r with
  | false =>
    go_wp2
    go_ret
    exact ⟨_, rfl, .inr ⟨(fun hc => by have := (unhide HR).2 hc; cases this), rfl⟩, hW1.alloc hW1.size _⟩
  | true =>
    have hok := (unhide HR).1 (by trivial)
    have hc12 : 4 ≤ n ∧ n ≤ 12 := by have := hok.chip.count; have := unhide HL; omega
    have hm36 : mn ≤ 36 := by have := hok.len36; have := unhide HLL; omega
    have HP : Hid (∀ x ∈ L, x = -1 ∨ (0 ≤ x ∧ x < 48)) := fun x hx => by have h1 := hok.places x hx; have h2 := hok.chip.count; omega
    obtain ⟨hct, hbss⟩ := unhide HM (by trivial)
    have hA0 := unhide HA0
    rw [hct, unhide HL] at hA0
    rw [unhide HL] at hbss
    have HA0' := hide hA0
    have HS := hide hbss
    have HO := hide hok
    have hb1 : ∀ o, Below w1.heap.size w1 (w1.alloc o) := fun o => (Below.refl _ w1).alloc (Nat.le_refl _) _
    clear hok hA0 HA0 HM hct hbss
    go_wp2_with fail
    refine wp_load_row 84 _ rfl w1.heap.size rfl 84 A (0, 0) _ (Go.Deep.blk_alloc_new _ _) Try.underlying84 rfl (unhide HSZ) ?_
    clear hsc
    go_wp2_with fail
    refine (victimBut_any A m bs n (unhide HL) (unhide HS) (unhide HA0') (unhide HAB) hc12.2 ma mc L mn (unhide HLL) hm36 (unhide HP) o _ ((unhide HI).below (hb1 _) (Nat.le_refl _))).mono ?_
    rintro e w3 ⟨rfl, hB3⟩
    have hW3 := (hW1.alloc hW1.size _).trans (hB3.mono (by simp; omega))
    clear hB3 hx1 hx3 hb1
    go_wp2
    go_ret
    exact ⟨_, rfl, .inl ⟨unhide HO, rfl⟩, hW3⟩
end Go.Proofs.Ytageolbmplhgaaa
