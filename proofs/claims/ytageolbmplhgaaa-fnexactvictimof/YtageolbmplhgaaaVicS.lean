/- The block that is emptied: the model's l2Victim and VictimOf. -/
import Derived.Test.YtageolbmplhgaaaVicP
import Derived.Test.YtageolbmplhgaaaValS
import Derived.Test.YtageolbmplhgaaaQt
import Derived.BigQuiet
namespace Go.Proofs.Ytageolbmplhgaaa
open Go.RowKit
set_option linter.unusedVariables false
set_option linter.unusedSimpArgs false

set_option maxRecDepth 100000 in
set_option maxHeartbeats 4000000 in
theorem l2Victim_any (a : Option Addr) (c : Nat) (bs : List Bk) (n : Nat) (hl : bs.length = n) (hok : ChipOk bs) (ma : Option Addr) (mc : Nat) (L : List Int) (mn : Nat) (hL : L.length = mn) (o : Int) (w : World) (h : BlocksAt w a bs) (hI : IntsAt w ma L) (hmn : mn ≤ 1048576) (hP : ∀ x ∈ L, x = -1 ∨ (0 ≤ x ∧ x < 48)) :
    Calls Try.prog 80 #[.agg #[.slice a n c], .slice ma mn mc, .int .i64 o] w fun e w' => e = .returned (.int .i64 (vicOf bs L o)) ∧ Below w.heap.size w w' := by
  have hn12 : 4 ≤ n ∧ n ≤ 12 := by have := hok.count; omega
  have hmix : Try.prog.follows .mixedOrders = true := by kernel_rfl
  go_enter Try.func80, Try.ntmps80
  go_wp2_with fail
  obtain ⟨w0, hw0⟩ : ∃ w0, w0 = w.alloc (.cells #[.slice a n c] 29) := ⟨_, rfl⟩
  rw [← hw0]
  have hs0 : w.heap.size < w0.heap.size := by rw [hw0]; simp
  have hx0 : w0.cell? ⟨w.heap.size, 0, none⟩ = some (.slice a n c) := by rw [hw0]; simp
  have hW0 : Below w.heap.size w w0 := by rw [hw0]; exact (Below.refl _ w).alloc (Nat.le_refl _) _
  have HA := hide (h.below hW0 (Nat.le_refl _))
  have HI := hide (hI.below hW0 (Nat.le_refl _))
  have HL := hide hl
  have HLL := hide hL
  have HOK := hide hok
  have HP := hide hP
  clear h hI hw0 hl hL hok hP
  go_wp2
  go_loopw [7, 8] (fun v i wr => ∃ t : Nat, t ≤ n ∧ i = .int .i64 t ∧ v = .int .i64 (vicTo bs L o t) ∧ Below w0.heap.size w0 wr) (fun _ i _ => n - (intOf i).toNat)
  case atStart => exact ⟨0, Nat.zero_le _, rfl, rfl, Below.refl _ _⟩
  case round =>
    obtain ⟨t, ht, rfl, rfl, hB⟩ := hrel
    have hsr := hB.size
    have hxr := (hB.cell (p := ⟨w.heap.size, 0, none⟩) hs0).trans hx0
    obtain ⟨hb1, hb2⟩ := vicTo_bounds bs L o t
    obtain ⟨best, hbest⟩ : ∃ best, best = vicTo bs L o t := ⟨_, rfl⟩
    rw [← hbest] at hb1 hb2 ⊢
    have HBE := hide hbest
    clear hbest
    by_cases hlt : t < n
    · obtain ⟨x, hx⟩ := getElem?_ex (l := bs) (k := t) (by have := unhide HL; omega)
      have hAr := (unhide HA).below hB (Nat.le_refl _)
      obtain ⟨g1, o1, pa, pc, rfl, hcw, hcp, hpa⟩ := hAr t x hx
      have h4 := ((unhide HOK).block x (List.mem_of_getElem? hx)).four
      rw [h4] at hcp
      have hl1 := l1Next_any x.wear pa pc x.pages wr hpa (by omega)
      rw [h4] at hl1
      have HN1 := hide hl1
      have HX := hide hx
      have HAr := hide hAr
      have HCW := hide hcw
      have hgw : g1 < wr.heap.size := World.block_lt_of_cell? _ _ hcw
      clear hl1 hpa h4 hx hAr hx0
      by_cases hto : (t : Int) = o
      · have heq : ((t : Int) == o) = true := by simpa using hto
        clear hcw hcp
        go_wp2
        go_roundw
        case rel => exact ⟨t + 1, by omega, by go_num, by rw [vicTo_skip (unhide HX) (.inl hto), ← unhide HBE], hB⟩
        case measure => simp [intOf]; omega
      · have heq : ((t : Int) == o) = false := by simpa using hto
        go_wp2_with fail
        refine (unhide HN1).mono ?_
        rintro e w2 ⟨r, rfl, hr, hB2⟩
        obtain ⟨_, _, k3⟩ := NextIs.kinds (b := x) hr
        have hs2 := hB2.size
        have hBB : Below w0.heap.size w0 w2 := hB.trans (hB2.mono hB.size)
        have hx2 := (hB2.cell (p := ⟨w.heap.size, 0, none⟩) (by show w.heap.size < _; omega)).trans hxr
        have hcw2 := (hB2.cell (p := ⟨g1, o1 + t * 2, none⟩) hgw).trans hcw
        have hgw2 : g1 < w2.heap.size := by omega
        have HA2 := hide ((unhide HAr).below hB2 (Nat.le_refl _))
        have HV : Hid (∀ W, Below w2.heap.size w2 W → ∀ blk : Int, Calls Try.prog 78 #[.slice ma mn mc, .int .i64 blk] W fun e w' => e = .returned (.int .i64 (validIn L blk)) ∧ w' = W) := fun W hW blk => l2Valid_any ma mc L mn (unhide HLL) blk W (((unhide HI).below hBB (Nat.le_refl _)).below hW (Nat.le_refl _)) hmn (unhide HP)
        clear hr hB2 hB HN1 hxr hcw hcp HAr
        cases hfu : fullB x with
        | false =>
          rw [hfu] at k3
          have hr0 : 0 ≤ r := by simpa using k3
          clear k3
          go_wp2
          go_roundw
          case rel => exact ⟨t + 1, by omega, by go_num, by rw [vicTo_skip (unhide HX) (.inr hfu), ← unhide HBE], hBB⟩
          case measure => simp [intOf]; omega
        | true =>
          rw [hfu] at k3
          have hr0 : r < 0 := by simpa using k3
          clear k3
          obtain ⟨V1, hV1⟩ : ∃ V1 : Int, V1 = (validIn L (t : Int) : Int) := ⟨_, rfl⟩
          obtain ⟨V2, hV2⟩ : ∃ V2 : Int, V2 = (validIn L best : Int) := ⟨_, rfl⟩
          have HVK := hide hV1
          have HVB := hide hV2
          clear hV1 hV2
          go_wp2_with fail
          by_cases hbn : best < 0
          · refine wp_region_grown (Below w2.heap.size w2) hmix (by kernel_rfl) (below_drawn w2) ?_
            go_big_quiet_step (exact fun _ => rfl)
            go_big_quiet_step (exact fun _ => rfl)
            go_big_quiet_step (exact fun _ => rfl)
            go_big_quiet_step (exact fun _ => rfl)
            go_big_quiet_step (exact fun _ => rfl)
            go_big_quiet_step (exact fun _ => rfl)
            go_big_quiet_step (exact fun _ => rfl)
            go_big_quiet_step (exact fun _ => rfl)
            go_big_quiet_step (exact fun _ => rfl)
            go_big_quiet_step (exact fun _ => rfl)
            go_big_quiet_step (exact fun _ => rfl)
            go_big_quiet_step (exact fun _ => rfl)
            go_big_quiet_step (exact fun _ => rfl)
            go_big_quiet_step (exact fun _ => rfl)
            go_big_quiet_step (exact fun _ => rfl)
            go_big_quiet_step (exact fun _ => rfl)
            go_big_quiet_step (exact fun _ => rfl)
            go_big_quiet_step (exact fun _ => rfl)
            go_big_quiet_step (exact fun _ => rfl)
            go_big_quiet_step (exact fun _ => rfl)
            go_big_quiet_step (exact fun _ => rfl)
            go_big_quiet_step (exact fun _ => rfl)
            go_big_quiet_step (exact fun _ => rfl)
            go_big_quiet_step (exact fun _ => rfl)
            go_big_quiet_step (exact fun _ => rfl)
            go_big_quiet_step (exact fun _ => rfl)
            go_big_quiet_step (exact fun _ => rfl)
            go_big_quiet_step (exact fun _ => rfl)
            go_big_quiet_step (exact fun _ => rfl)
            go_big_quiet_step (exact fun _ => rfl)
            go_big_quiet_step (exact fun _ => rfl)
            go_big_quiet_step (exact fun _ => rfl)
            go_big_quiet_step (exact fun _ => rfl)
            go_big_quiet_step (exact fun _ => rfl)
            go_big_quiet_step (exact fun _ => rfl)
            refine wpQuiet_nil ?_
            intro w8 hC8
            have hBB8 : Below w0.heap.size w0 w8 := hBB.trans (hC8.mono hBB.size)
            clear hC8 HV
            clear hx2
            go_wp2
            go_roundw
            case rel => exact ⟨t + 1, by omega, by go_num, by rw [vicTo_take (unhide HX) hto hfu (by rw [← unhide HBE]; exact beats_neg hbn)], hBB8⟩
            case measure => simp [intOf]; omega
          · obtain ⟨kb, hkb⟩ : ∃ kb : Nat, best = (kb : Int) := ⟨best.toNat, by omega⟩
            subst hkb
            obtain ⟨xb, hxb⟩ := getElem?_ex (l := bs) (k := kb) (by have := unhide HL; omega)
            obtain ⟨g9, o9, _, _, e9, hcb2, _, _⟩ := (unhide HA2) kb xb hxb
            cases e9
            have hwb := wearAt_of hxb
            have HXB := hide (And.intro hxb hwb)
            clear hxb hwb
            by_cases hv1 : V1 < V2
            · refine wp_region_grown (Below w2.heap.size w2) hmix (by kernel_rfl) (below_drawn w2) ?_
              go_big_quiet_step (exact fun _ => rfl)
              go_big_quiet_step (exact fun _ => rfl)
              go_big_quiet_step (exact fun _ => rfl)
              go_big_quiet_step (exact fun _ => rfl)
              go_big_quiet_step (exact fun _ => rfl)
              refine wpQuiet_val rfl (.int .i64 V1) (fun W hC => ?_) ?_
              · go_simp
                refine (unhide HV W hC (t : Int)).mono ?_
                rintro e w' ⟨rfl, rfl⟩
                exact ⟨by rw [unhide HVK], hC⟩
              simp only [Act.put, List.setIfInBounds_toArray, List.set_cons_zero, List.set_cons_succ]
              go_big_quiet_step (exact fun _ => rfl)
              go_big_quiet_step (exact fun _ => rfl)
              refine wpQuiet_val rfl (.int .i64 V2) (fun W hC => ?_) ?_
              · go_simp
                refine (unhide HV W hC (kb : Int)).mono ?_
                rintro e w' ⟨rfl, rfl⟩
                exact ⟨by rw [unhide HVB], hC⟩
              simp only [Act.put, List.setIfInBounds_toArray, List.set_cons_zero, List.set_cons_succ]
              go_big_quiet_step (exact fun _ => rfl)
              go_big_quiet_step (exact fun _ => rfl)
              go_big_quiet_step (exact fun _ => rfl)
              go_big_quiet_step (exact fun _ => rfl)
              go_big_quiet_step (exact fun _ => rfl)
              go_big_quiet_step (exact fun _ => rfl)
              go_big_quiet_step (exact fun _ => rfl)
              go_big_quiet_step (exact fun _ => rfl)
              go_big_quiet_step (exact fun _ => rfl)
              go_big_quiet_step (exact fun _ => rfl)
              go_big_quiet_step (exact fun _ => rfl)
              go_big_quiet_step (exact fun _ => rfl)
              go_big_quiet_step (exact fun _ => rfl)
              go_big_quiet_step (exact fun _ => rfl)
              go_big_quiet_step (exact fun _ => rfl)
              go_big_quiet_step (exact fun _ => rfl)
              go_big_quiet_step (exact fun _ => rfl)
              go_big_quiet_step (exact fun _ => rfl)
              go_big_quiet_step (exact fun _ => rfl)
              go_big_quiet_step (exact fun _ => rfl)
              go_big_quiet_step (exact fun _ => rfl)
              go_big_quiet_step (exact fun _ => rfl)
              go_big_quiet_step (exact fun _ => rfl)
              go_big_quiet_step (exact fun _ => rfl)
              go_big_quiet_step (exact fun _ => rfl)
              go_big_quiet_step (exact fun _ => rfl)
              refine wpQuiet_nil ?_
              intro w8 hC8
              have hBB8 : Below w0.heap.size w0 w8 := hBB.trans (hC8.mono hBB.size)
              clear hC8 HV
              clear hx2
              go_wp2
              go_roundw
              case rel => exact ⟨t + 1, by omega, by go_num, by rw [vicTo_take (unhide HX) hto hfu (by rw [← unhide HBE]; exact beats_few (by have := unhide HVK; have := unhide HVB; omega))], hBB8⟩
              case measure => simp [intOf]; omega
            · have hv1' : V2 ≤ V1 := by omega
              by_cases hv2 : V1 = V2
              · have hv2' : (V1 == V2) = true := by simpa using hv2
                have HE := hide hv2
                clear hv2
                by_cases hw : x.wear < xb.wear
                · refine wp_region_grown (Below w2.heap.size w2) hmix (by kernel_rfl) (below_drawn w2) ?_
                  go_big_quiet_step (exact fun _ => rfl)
                  go_big_quiet_step (exact fun _ => rfl)
                  go_big_quiet_step (exact fun _ => rfl)
                  go_big_quiet_step (exact fun _ => rfl)
                  go_big_quiet_step (exact fun _ => rfl)
                  refine wpQuiet_val rfl (.int .i64 V1) (fun W hC => ?_) ?_
                  · go_simp
                    refine (unhide HV W hC (t : Int)).mono ?_
                    rintro e w' ⟨rfl, rfl⟩
                    exact ⟨by rw [unhide HVK], hC⟩
                  simp only [Act.put, List.setIfInBounds_toArray, List.set_cons_zero, List.set_cons_succ]
                  go_big_quiet_step (exact fun _ => rfl)
                  go_big_quiet_step (exact fun _ => rfl)
                  refine wpQuiet_val rfl (.int .i64 V2) (fun W hC => ?_) ?_
                  · go_simp
                    refine (unhide HV W hC (kb : Int)).mono ?_
                    rintro e w' ⟨rfl, rfl⟩
                    exact ⟨by rw [unhide HVB], hC⟩
                  simp only [Act.put, List.setIfInBounds_toArray, List.set_cons_zero, List.set_cons_succ]
                  go_big_quiet_step (exact fun _ => rfl)
                  go_big_quiet_step (exact fun _ => rfl)
                  go_big_quiet_step (exact fun _ => rfl)
                  go_big_quiet_step (exact fun _ => rfl)
                  go_big_quiet_step (exact fun _ => rfl)
                  refine wpQuiet_val rfl (.int .i64 V1) (fun W hC => ?_) ?_
                  · go_simp
                    refine (unhide HV W hC (t : Int)).mono ?_
                    rintro e w' ⟨rfl, rfl⟩
                    exact ⟨by rw [unhide HVK], hC⟩
                  simp only [Act.put, List.setIfInBounds_toArray, List.set_cons_zero, List.set_cons_succ]
                  go_big_quiet_step (exact fun _ => rfl)
                  go_big_quiet_step (exact fun _ => rfl)
                  refine wpQuiet_val rfl (.int .i64 V2) (fun W hC => ?_) ?_
                  · go_simp
                    refine (unhide HV W hC (kb : Int)).mono ?_
                    rintro e w' ⟨rfl, rfl⟩
                    exact ⟨by rw [unhide HVB], hC⟩
                  simp only [Act.put, List.setIfInBounds_toArray, List.set_cons_zero, List.set_cons_succ]
                  go_big_quiet_step (exact fun _ => rfl)
                  go_big_quiet_step (exact fun _ => rfl)
                  go_big_quiet_step (exact fun _ => rfl)
                  refine wpQuiet_val rfl (.slice (some ⟨g1, o1, none⟩) n c) (fun W hC => ?_) ?_
                  · have hcl := (hC.cell (p := ⟨w.heap.size, 0, none⟩) (by show w.heap.size < _; omega)).trans hx2
                    go_simp
                  simp only [Act.put, List.setIfInBounds_toArray, List.set_cons_zero, List.set_cons_succ]
                  go_big_quiet_step (exact fun _ => rfl)
                  go_big_quiet_step (exact fun _ => rfl)
                  go_big_quiet_step (exact fun _ => rfl)
                  refine wpQuiet_val rfl (.int .i64 x.wear) (fun W hC => ?_) ?_
                  · have hcl := (hC.cell (p := ⟨g1, o1 + t * 2, none⟩) (by show g1 < _; omega)).trans hcw2
                    go_simp
                  simp only [Act.put, List.setIfInBounds_toArray, List.set_cons_zero, List.set_cons_succ]
                  go_big_quiet_step (exact fun _ => rfl)
                  refine wpQuiet_val rfl (.slice (some ⟨g1, o1, none⟩) n c) (fun W hC => ?_) ?_
                  · have hcl := (hC.cell (p := ⟨w.heap.size, 0, none⟩) (by show w.heap.size < _; omega)).trans hx2
                    go_simp
                  simp only [Act.put, List.setIfInBounds_toArray, List.set_cons_zero, List.set_cons_succ]
                  go_big_quiet_step (exact fun _ => rfl)
                  go_big_quiet_step (exact fun _ => rfl)
                  go_big_quiet_step (exact fun _ => rfl)
                  refine wpQuiet_val rfl (.int .i64 xb.wear) (fun W hC => ?_) ?_
                  · have hcl := (hC.cell (p := ⟨g1, o1 + kb * 2, none⟩) (by show g1 < _; omega)).trans hcb2
                    go_simp
                  simp only [Act.put, List.setIfInBounds_toArray, List.set_cons_zero, List.set_cons_succ]
                  go_big_quiet_step (exact fun _ => rfl)
                  go_big_quiet_step (exact fun _ => rfl)
                  go_big_quiet_step (exact fun _ => rfl)
                  refine wpQuiet_nil ?_
                  intro w8 hC8
                  have hBB8 : Below w0.heap.size w0 w8 := hBB.trans (hC8.mono hBB.size)
                  clear hC8 HV
                  clear hx2
                  go_wp2
                  go_roundw
                  case rel => exact ⟨t + 1, by omega, by go_num, by rw [vicTo_take (unhide HX) hto hfu (by rw [← unhide HBE]; exact beats_wear (by have := unhide HVK; have := unhide HVB; have := unhide HE; omega) (unhide HXB).2 hw)], hBB8⟩
                  case measure => simp [intOf]; omega
                · have hw' : xb.wear ≤ x.wear := by omega
                  refine wp_region_grown (Below w2.heap.size w2) hmix (by kernel_rfl) (below_drawn w2) ?_
                  go_big_quiet_step (exact fun _ => rfl)
                  go_big_quiet_step (exact fun _ => rfl)
                  go_big_quiet_step (exact fun _ => rfl)
                  go_big_quiet_step (exact fun _ => rfl)
                  go_big_quiet_step (exact fun _ => rfl)
                  refine wpQuiet_val rfl (.int .i64 V1) (fun W hC => ?_) ?_
                  · go_simp
                    refine (unhide HV W hC (t : Int)).mono ?_
                    rintro e w' ⟨rfl, rfl⟩
                    exact ⟨by rw [unhide HVK], hC⟩
                  simp only [Act.put, List.setIfInBounds_toArray, List.set_cons_zero, List.set_cons_succ]
                  go_big_quiet_step (exact fun _ => rfl)
                  go_big_quiet_step (exact fun _ => rfl)
                  refine wpQuiet_val rfl (.int .i64 V2) (fun W hC => ?_) ?_
                  · go_simp
                    refine (unhide HV W hC (kb : Int)).mono ?_
                    rintro e w' ⟨rfl, rfl⟩
                    exact ⟨by rw [unhide HVB], hC⟩
                  simp only [Act.put, List.setIfInBounds_toArray, List.set_cons_zero, List.set_cons_succ]
                  go_big_quiet_step (exact fun _ => rfl)
                  go_big_quiet_step (exact fun _ => rfl)
                  go_big_quiet_step (exact fun _ => rfl)
                  go_big_quiet_step (exact fun _ => rfl)
                  go_big_quiet_step (exact fun _ => rfl)
                  refine wpQuiet_val rfl (.int .i64 V1) (fun W hC => ?_) ?_
                  · go_simp
                    refine (unhide HV W hC (t : Int)).mono ?_
                    rintro e w' ⟨rfl, rfl⟩
                    exact ⟨by rw [unhide HVK], hC⟩
                  simp only [Act.put, List.setIfInBounds_toArray, List.set_cons_zero, List.set_cons_succ]
                  go_big_quiet_step (exact fun _ => rfl)
                  go_big_quiet_step (exact fun _ => rfl)
                  refine wpQuiet_val rfl (.int .i64 V2) (fun W hC => ?_) ?_
                  · go_simp
                    refine (unhide HV W hC (kb : Int)).mono ?_
                    rintro e w' ⟨rfl, rfl⟩
                    exact ⟨by rw [unhide HVB], hC⟩
                  simp only [Act.put, List.setIfInBounds_toArray, List.set_cons_zero, List.set_cons_succ]
                  go_big_quiet_step (exact fun _ => rfl)
                  go_big_quiet_step (exact fun _ => rfl)
                  go_big_quiet_step (exact fun _ => rfl)
                  refine wpQuiet_val rfl (.slice (some ⟨g1, o1, none⟩) n c) (fun W hC => ?_) ?_
                  · have hcl := (hC.cell (p := ⟨w.heap.size, 0, none⟩) (by show w.heap.size < _; omega)).trans hx2
                    go_simp
                  simp only [Act.put, List.setIfInBounds_toArray, List.set_cons_zero, List.set_cons_succ]
                  go_big_quiet_step (exact fun _ => rfl)
                  go_big_quiet_step (exact fun _ => rfl)
                  go_big_quiet_step (exact fun _ => rfl)
                  refine wpQuiet_val rfl (.int .i64 x.wear) (fun W hC => ?_) ?_
                  · have hcl := (hC.cell (p := ⟨g1, o1 + t * 2, none⟩) (by show g1 < _; omega)).trans hcw2
                    go_simp
                  simp only [Act.put, List.setIfInBounds_toArray, List.set_cons_zero, List.set_cons_succ]
                  go_big_quiet_step (exact fun _ => rfl)
                  refine wpQuiet_val rfl (.slice (some ⟨g1, o1, none⟩) n c) (fun W hC => ?_) ?_
                  · have hcl := (hC.cell (p := ⟨w.heap.size, 0, none⟩) (by show w.heap.size < _; omega)).trans hx2
                    go_simp
                  simp only [Act.put, List.setIfInBounds_toArray, List.set_cons_zero, List.set_cons_succ]
                  go_big_quiet_step (exact fun _ => rfl)
                  go_big_quiet_step (exact fun _ => rfl)
                  go_big_quiet_step (exact fun _ => rfl)
                  refine wpQuiet_val rfl (.int .i64 xb.wear) (fun W hC => ?_) ?_
                  · have hcl := (hC.cell (p := ⟨g1, o1 + kb * 2, none⟩) (by show g1 < _; omega)).trans hcb2
                    go_simp
                  simp only [Act.put, List.setIfInBounds_toArray, List.set_cons_zero, List.set_cons_succ]
                  go_big_quiet_step (exact fun _ => rfl)
                  go_big_quiet_step (exact fun _ => rfl)
                  go_big_quiet_step (exact fun _ => rfl)
                  refine wpQuiet_nil ?_
                  intro w8 hC8
                  have hBB8 : Below w0.heap.size w0 w8 := hBB.trans (hC8.mono hBB.size)
                  clear hC8 HV
                  clear hx2
                  go_wp2
                  go_roundw
                  case rel => exact ⟨t + 1, by omega, by go_num, by rw [vicTo_keep (unhide HX) hto hfu (by rw [← unhide HBE]; exact beats_worn (by omega) (by have := unhide HVK; have := unhide HVB; have := unhide HE; omega) (unhide HXB).2 hw'), ← unhide HBE], hBB8⟩
                  case measure => simp [intOf]; omega
              · have hv2' : (V1 == V2) = false := by simpa using hv2
                refine wp_region_grown (Below w2.heap.size w2) hmix (by kernel_rfl) (below_drawn w2) ?_
                go_big_quiet_step (exact fun _ => rfl)
                go_big_quiet_step (exact fun _ => rfl)
                go_big_quiet_step (exact fun _ => rfl)
                go_big_quiet_step (exact fun _ => rfl)
                go_big_quiet_step (exact fun _ => rfl)
                refine wpQuiet_val rfl (.int .i64 V1) (fun W hC => ?_) ?_
                · go_simp
                  refine (unhide HV W hC (t : Int)).mono ?_
                  rintro e w' ⟨rfl, rfl⟩
                  exact ⟨by rw [unhide HVK], hC⟩
                simp only [Act.put, List.setIfInBounds_toArray, List.set_cons_zero, List.set_cons_succ]
                go_big_quiet_step (exact fun _ => rfl)
                go_big_quiet_step (exact fun _ => rfl)
                refine wpQuiet_val rfl (.int .i64 V2) (fun W hC => ?_) ?_
                · go_simp
                  refine (unhide HV W hC (kb : Int)).mono ?_
                  rintro e w' ⟨rfl, rfl⟩
                  exact ⟨by rw [unhide HVB], hC⟩
                simp only [Act.put, List.setIfInBounds_toArray, List.set_cons_zero, List.set_cons_succ]
                go_big_quiet_step (exact fun _ => rfl)
                go_big_quiet_step (exact fun _ => rfl)
                go_big_quiet_step (exact fun _ => rfl)
                go_big_quiet_step (exact fun _ => rfl)
                go_big_quiet_step (exact fun _ => rfl)
                refine wpQuiet_val rfl (.int .i64 V1) (fun W hC => ?_) ?_
                · go_simp
                  refine (unhide HV W hC (t : Int)).mono ?_
                  rintro e w' ⟨rfl, rfl⟩
                  exact ⟨by rw [unhide HVK], hC⟩
                simp only [Act.put, List.setIfInBounds_toArray, List.set_cons_zero, List.set_cons_succ]
                go_big_quiet_step (exact fun _ => rfl)
                go_big_quiet_step (exact fun _ => rfl)
                refine wpQuiet_val rfl (.int .i64 V2) (fun W hC => ?_) ?_
                · go_simp
                  refine (unhide HV W hC (kb : Int)).mono ?_
                  rintro e w' ⟨rfl, rfl⟩
                  exact ⟨by rw [unhide HVB], hC⟩
                simp only [Act.put, List.setIfInBounds_toArray, List.set_cons_zero, List.set_cons_succ]
                go_big_quiet_step (exact fun _ => rfl)
                go_big_quiet_step (exact fun _ => rfl)
                go_big_quiet_step (exact fun _ => rfl)
                go_big_quiet_step (exact fun _ => rfl)
                go_big_quiet_step (exact fun _ => rfl)
                go_big_quiet_step (exact fun _ => rfl)
                go_big_quiet_step (exact fun _ => rfl)
                go_big_quiet_step (exact fun _ => rfl)
                go_big_quiet_step (exact fun _ => rfl)
                go_big_quiet_step (exact fun _ => rfl)
                go_big_quiet_step (exact fun _ => rfl)
                go_big_quiet_step (exact fun _ => rfl)
                go_big_quiet_step (exact fun _ => rfl)
                go_big_quiet_step (exact fun _ => rfl)
                go_big_quiet_step (exact fun _ => rfl)
                go_big_quiet_step (exact fun _ => rfl)
                go_big_quiet_step (exact fun _ => rfl)
                refine wpQuiet_nil ?_
                intro w8 hC8
                have hBB8 : Below w0.heap.size w0 w8 := hBB.trans (hC8.mono hBB.size)
                clear hC8 HV
                clear hx2
                go_wp2
                go_roundw
                case rel => exact ⟨t + 1, by omega, by go_num, by rw [vicTo_keep (unhide HX) hto hfu (by rw [← unhide HBE]; exact beats_more (by omega) (by have := unhide HVK; have := unhide HVB; omega)), ← unhide HBE], hBB8⟩
                case measure => simp [intOf]; omega
    · obtain rfl : t = n := by omega
      have hW := hW0.trans (hB.mono hW0.size)
      have e : vicOf bs L o = best := by rw [unhide HBE]; unfold vicOf; rw [unhide HL]
      have HEND := hide e
      clear e
      go_wp2
      go_ret
      exact ⟨by rw [unhide HEND]; rfl, hW⟩

set_option maxRecDepth 100000 in
set_option maxHeartbeats 1000000 in
theorem specVictimOf_any (a : Option Addr) (c : Nat) (bs : List Bk) (n : Nat) (hl : bs.length = n) (ma : Option Addr) (mc : Nat) (L : List Int) (mn : Nat) (hL : L.length = mn) (seq o : Int) (w : World) (h : BlocksAt w a bs) (hn : Lens 1048576 bs) (hI : IntsAt w ma L) (hmn : mn ≤ 1048576) :
    Calls Try.prog 48 #[.agg #[.slice a n c, .slice ma mn mc, .int .i64 seq, .int .i64 o]] w fun e w' => ∃ r : Int, e = .returned (.int .i64 r) ∧ VictimIs bs L seq o r ∧ Below w.heap.size w w' := by
  have hb0 : ∀ o, Below w.heap.size w (w.alloc o) := fun o => (Below.refl _ w).alloc (Nat.le_refl _) _
  go_enter Try.func48, Try.ntmps48
  go_wp2_with fail
  refine (specFtlOk_any a c bs n hl ma mc L mn hL seq o _ (h.below (hb0 _) (Nat.le_refl _)) hn (hI.below (hb0 _) (Nat.le_refl _)) hmn).mono ?_
  rintro e w1 ⟨⟨r, rfl, hr⟩, hB1⟩
  have hs1 := hB1.size
  simp at hs1
  have hx0 : w1.cell? ⟨w.heap.size, 0, none⟩ = some (.slice a n c) := by
    rw [hB1.cell (p := ⟨w.heap.size, 0, none⟩) (by simp)]
    simp
  have hx1 : w1.cell? ⟨w.heap.size, 1, none⟩ = some (.slice ma mn mc) := by
    rw [hB1.cell (p := ⟨w.heap.size, 1, none⟩) (by simp)]
    simp
  have hx3 : w1.cell? ⟨w.heap.size, 3, none⟩ = some (.int .i64 o) := by
    rw [hB1.cell (p := ⟨w.heap.size, 3, none⟩) (by simp)]
    simp
  have hW1 : Below w.heap.size w w1 := (hb0 _).trans (hB1.mono (by simp))
  have HR := hide hr
  have HA := hide (h.below hW1 (Nat.le_refl _))
  have HI := hide (hI.below hW1 (Nat.le_refl _))
  have HL := hide hl
  have HLL := hide hL
  clear hr hB1 hb0 h hI hn hl hL
  cases r with
  | false =>
    go_wp2
    go_ret
    exact ⟨_, rfl, .inr ⟨(fun hc => by have := (unhide HR).2 hc; cases this), rfl⟩, hW1⟩
  | true =>
    have hok := (unhide HR).1 (by trivial)
    have HP : Hid (∀ x ∈ L, x = -1 ∨ (0 ≤ x ∧ x < 48)) := fun x hx => by have h1 := hok.places x hx; have h2 := hok.chip.count; omega
    have HOK := hide hok
    clear hok
    go_wp2_with fail
    refine (l2Victim_any a c bs n (unhide HL) (unhide HOK).chip ma mc L mn (unhide HLL) o _ (unhide HA) (unhide HI) hmn (unhide HP)).mono ?_
    rintro e w3 ⟨rfl, hB3⟩
    have hW3 := hW1.trans (hB3.mono hW1.size)
    clear hB3 hx0 hx1 hx3
    go_wp2
    go_ret
    exact ⟨_, rfl, .inl ⟨unhide HOK, rfl⟩, hW3⟩
end Go.Proofs.Ytageolbmplhgaaa
