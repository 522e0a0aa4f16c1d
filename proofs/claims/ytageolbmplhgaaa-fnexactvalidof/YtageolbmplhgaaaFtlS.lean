/- Whether a member is right: the model's FtlOk. -/
import Derived.Test.YtageolbmplhgaaaMapS
import Derived.Test.YtageolbmplhgaaaSeqS
import Derived.Test.YtageolbmplhgaaaNextS
import Derived.Test.YtageolbmplhgaaaFtlP
import Derived.Test.YtageolbmplhgaaaQt
import Derived.BigQuiet
namespace Go.Proofs.Ytageolbmplhgaaa
open Go.RowKit
set_option linter.unusedVariables false
set_option linter.unusedSimpArgs false

set_option maxRecDepth 100000 in
set_option maxHeartbeats 4000000 in
theorem specFtlOk_any (a : Option Addr) (c : Nat) (bs : List Bk) (n : Nat) (hl : bs.length = n) (ma : Option Addr) (mc : Nat) (L : List Int) (mn : Nat) (hL : L.length = mn) (seq o : Int) (w : World) (h : BlocksAt w a bs) (hn : Lens 1048576 bs) (hI : IntsAt w ma L) (hmn : mn ≤ 1048576) :
    Calls Try.prog 38 #[.agg #[.slice a n c, .slice ma mn mc, .int .i64 seq, .int .i64 o]] w fun e w' => RetIff (FtlOk bs L seq o) e ∧ Below w.heap.size w w' := by
  have hn1 : n ≤ 1048576 := by have := hn.1; omega
  have hmix : Try.prog.follows .mixedOrders = true := by kernel_rfl
  go_enter Try.func38, Try.ntmps38
  go_wp2_with fail
  obtain ⟨w0, hw0⟩ : ∃ w0, w0 = w.alloc (.cells #[.slice a n c, .slice ma mn mc, .int .i64 seq, .int .i64 o] 57) := ⟨_, rfl⟩
  rw [← hw0]
  have hs0 : w.heap.size < w0.heap.size := by rw [hw0]; simp
  have hx0 : w0.cell? ⟨w.heap.size, 0, none⟩ = some (.slice a n c) := by rw [hw0]; simp
  have hx1 : w0.cell? ⟨w.heap.size, 1, none⟩ = some (.slice ma mn mc) := by rw [hw0]; simp
  have hx2 : w0.cell? ⟨w.heap.size, 2, none⟩ = some (.int .i64 seq) := by rw [hw0]; simp
  have hx3 : w0.cell? ⟨w.heap.size, 3, none⟩ = some (.int .i64 o) := by rw [hw0]; simp
  have hW0 : Below w.heap.size w w0 := by rw [hw0]; exact (Below.refl _ w).alloc (Nat.le_refl _) _
  have HX1 := hide hx1
  have HA : Hid (∀ W, Below w0.heap.size w0 W → BlocksAt W a bs) := fun W hW => h.below (hW0.trans (hW.mono hW0.size)) (Nat.le_refl _)
  have HI : Hid (∀ W, Below w0.heap.size w0 W → IntsAt W ma L) := fun W hW => hI.below (hW0.trans (hW.mono hW0.size)) (Nat.le_refl _)
  have HCK : Hid (∀ W, Below w0.heap.size w0 W → Calls Try.prog 16 #[.agg #[.slice a n c]] W fun e w' => RetIff (ChipOk bs) e ∧ Below W.heap.size W w') := fun W hW => by
    subst hl
    refine (specChipOk_any a c bs W (unhide HA W hW) hn).mono ?_
    rintro e w' ⟨r, rfl, hr, hB⟩
    exact ⟨⟨r, rfl, hr⟩, hB⟩
  have HL := hide hl
  have HLL := hide hL
  clear hx1 h hI hn hl hL hw0
  by_cases hc0 : ChipOk bs
  · have hd0 : ∀ r : Bool, (r = true ↔ ChipOk bs) → r = true := fun r h => h.2 hc0
    have hc12 : 4 ≤ n ∧ n ≤ 12 := by have := hc0.count; have := unhide HL; omega
    have htb := hc0.top
    have HSQ : Hid (∀ W, Below w0.heap.size w0 W → Calls Try.prog 74 #[.agg #[.slice a n c]] W fun e w' => e = .returned (.int .i64 (topSeq bs)) ∧ Below W.heap.size W w') := fun W hW => l2Seq_any a c bs n (unhide HL) hc0 W (unhide HA W hW)
    have HOK := hide hc0
    obtain ⟨T, hT⟩ : ∃ T, T = topSeq bs := ⟨_, rfl⟩
    rw [← hT] at htb HSQ
    have HT := hide hT
    clear hT hc0
    by_cases hc1 : 0 ≤ o ∧ o ≤ (n : Int) - 1
    · have hd1 : decide ((0 : Int) ≤ o ∧ o ≤ (n : Int) - 1) = true := by simpa using hc1
      by_cases hc2 : 1 ≤ seq ∧ seq ≤ 1000000000
      · have hd2 : decide ((1 : Int) ≤ seq ∧ seq ≤ 1000000000) = true := by simpa using hc2
        by_cases hc3 : seq ≤ T
        · refine wp_region_grown (Below w0.heap.size w0) hmix (by kernel_rfl) (below_drawn w0) ?_
          go_big_quiet_step (exact fun _ => rfl)
          refine wpQuiet_val rfl (.agg #[.slice a n c]) (fun W hC => ?_) ?_
          · have hcl := (hC.cell (p := ⟨w.heap.size, 0, none⟩) (by show w.heap.size < _; omega)).trans hx0
            go_simp
          simp only [Act.put, List.setIfInBounds_toArray, List.set_cons_zero, List.set_cons_succ]
          refine wpQuiet_val rfl (.bool true) (fun W hC => ?_) ?_
          · go_simp
            refine (unhide HCK W hC).mono ?_
            rintro e w' ⟨⟨r9, rfl, hr9⟩, hB'⟩
            refine ⟨?_, hC.trans (hB'.mono hC.size)⟩
            have := hd0 r9 hr9
            rw [this]
          simp only [Act.put, List.setIfInBounds_toArray, List.set_cons_zero, List.set_cons_succ]
          go_big_quiet_step (exact fun _ => rfl)
          go_big_quiet_step (exact fun _ => rfl)
          go_big_quiet_step (exact fun _ => rfl)
          refine wpQuiet_val rfl (.int .i64 o) (fun W hC => ?_) ?_
          · have hcl := (hC.cell (p := ⟨w.heap.size, 3, none⟩) (by show w.heap.size < _; omega)).trans hx3
            go_simp
          simp only [Act.put, List.setIfInBounds_toArray, List.set_cons_zero, List.set_cons_succ]
          go_big_quiet_step (exact fun _ => rfl)
          go_big_quiet_step (exact fun _ => rfl)
          refine wpQuiet_val rfl (.slice a n c) (fun W hC => ?_) ?_
          · have hcl := (hC.cell (p := ⟨w.heap.size, 0, none⟩) (by show w.heap.size < _; omega)).trans hx0
            go_simp
          simp only [Act.put, List.setIfInBounds_toArray, List.set_cons_zero, List.set_cons_succ]
          go_big_quiet_step (exact fun _ => rfl)
          go_big_quiet_step (exact fun _ => rfl)
          refine wpQuiet_val rfl (.bool true) (fun W hC => ?_) ?_
          · go_simp
            refine (l1In_any o 0 ((n : Int) - 1) W).mono ?_
            rintro e w' ⟨rfl, rfl⟩
            exact ⟨by rw [hd1], hC⟩
          simp only [Act.put, List.setIfInBounds_toArray, List.set_cons_zero, List.set_cons_succ]
          go_big_quiet_step (exact fun _ => rfl)
          go_big_quiet_step (exact fun _ => rfl)
          go_big_quiet_step (exact fun _ => rfl)
          go_big_quiet_step (exact fun _ => rfl)
          refine wpQuiet_val rfl (.int .i64 seq) (fun W hC => ?_) ?_
          · have hcl := (hC.cell (p := ⟨w.heap.size, 2, none⟩) (by show w.heap.size < _; omega)).trans hx2
            go_simp
          simp only [Act.put, List.setIfInBounds_toArray, List.set_cons_zero, List.set_cons_succ]
          refine wpQuiet_val rfl (.bool true) (fun W hC => ?_) ?_
          · go_simp
            refine (l1In_any seq 1 1000000000 W).mono ?_
            rintro e w' ⟨rfl, rfl⟩
            exact ⟨by rw [hd2], hC⟩
          simp only [Act.put, List.setIfInBounds_toArray, List.set_cons_zero, List.set_cons_succ]
          go_big_quiet_step (exact fun _ => rfl)
          go_big_quiet_step (exact fun _ => rfl)
          go_big_quiet_step (exact fun _ => rfl)
          go_big_quiet_step (exact fun _ => rfl)
          refine wpQuiet_val rfl (.int .i64 seq) (fun W hC => ?_) ?_
          · have hcl := (hC.cell (p := ⟨w.heap.size, 2, none⟩) (by show w.heap.size < _; omega)).trans hx2
            go_simp
          simp only [Act.put, List.setIfInBounds_toArray, List.set_cons_zero, List.set_cons_succ]
          go_big_quiet_step (exact fun _ => rfl)
          refine wpQuiet_val rfl (.agg #[.slice a n c]) (fun W hC => ?_) ?_
          · have hcl := (hC.cell (p := ⟨w.heap.size, 0, none⟩) (by show w.heap.size < _; omega)).trans hx0
            go_simp
          simp only [Act.put, List.setIfInBounds_toArray, List.set_cons_zero, List.set_cons_succ]
          refine wpQuiet_val rfl (.int .i64 T) (fun W hC => ?_) ?_
          · go_simp
            refine (unhide HSQ W hC).mono ?_
            rintro e w' ⟨rfl, hB'⟩
            exact ⟨rfl, hC.trans (hB'.mono hC.size)⟩
          simp only [Act.put, List.setIfInBounds_toArray, List.set_cons_zero, List.set_cons_succ]
          go_big_quiet_step (exact fun _ => rfl)
          go_big_quiet_step (exact fun _ => rfl)
          refine wpQuiet_nil ?_
          intro w8 hC8
          have hW8 := hW0.trans (hC8.mono hW0.size)
          have HNO : Hid (¬ FtlOk bs L seq o) := fun hf => by have h1 := hf.seq.1; rw [← unhide HT] at h1; omega
          clear hC8 hx0 hx2 hx3 HCK
          go_wp2
          go_ret
          exact ⟨RetIff.no (unhide HNO), hW8⟩
        · refine wp_region_grown (Below w0.heap.size w0) hmix (by kernel_rfl) (below_drawn w0) ?_
          go_big_quiet_step (exact fun _ => rfl)
          refine wpQuiet_val rfl (.agg #[.slice a n c]) (fun W hC => ?_) ?_
          · have hcl := (hC.cell (p := ⟨w.heap.size, 0, none⟩) (by show w.heap.size < _; omega)).trans hx0
            go_simp
          simp only [Act.put, List.setIfInBounds_toArray, List.set_cons_zero, List.set_cons_succ]
          refine wpQuiet_val rfl (.bool true) (fun W hC => ?_) ?_
          · go_simp
            refine (unhide HCK W hC).mono ?_
            rintro e w' ⟨⟨r9, rfl, hr9⟩, hB'⟩
            refine ⟨?_, hC.trans (hB'.mono hC.size)⟩
            have := hd0 r9 hr9
            rw [this]
          simp only [Act.put, List.setIfInBounds_toArray, List.set_cons_zero, List.set_cons_succ]
          go_big_quiet_step (exact fun _ => rfl)
          go_big_quiet_step (exact fun _ => rfl)
          go_big_quiet_step (exact fun _ => rfl)
          refine wpQuiet_val rfl (.int .i64 o) (fun W hC => ?_) ?_
          · have hcl := (hC.cell (p := ⟨w.heap.size, 3, none⟩) (by show w.heap.size < _; omega)).trans hx3
            go_simp
          simp only [Act.put, List.setIfInBounds_toArray, List.set_cons_zero, List.set_cons_succ]
          go_big_quiet_step (exact fun _ => rfl)
          go_big_quiet_step (exact fun _ => rfl)
          refine wpQuiet_val rfl (.slice a n c) (fun W hC => ?_) ?_
          · have hcl := (hC.cell (p := ⟨w.heap.size, 0, none⟩) (by show w.heap.size < _; omega)).trans hx0
            go_simp
          simp only [Act.put, List.setIfInBounds_toArray, List.set_cons_zero, List.set_cons_succ]
          go_big_quiet_step (exact fun _ => rfl)
          go_big_quiet_step (exact fun _ => rfl)
          refine wpQuiet_val rfl (.bool true) (fun W hC => ?_) ?_
          · go_simp
            refine (l1In_any o 0 ((n : Int) - 1) W).mono ?_
            rintro e w' ⟨rfl, rfl⟩
            exact ⟨by rw [hd1], hC⟩
          simp only [Act.put, List.setIfInBounds_toArray, List.set_cons_zero, List.set_cons_succ]
          go_big_quiet_step (exact fun _ => rfl)
          go_big_quiet_step (exact fun _ => rfl)
          go_big_quiet_step (exact fun _ => rfl)
          go_big_quiet_step (exact fun _ => rfl)
          refine wpQuiet_val rfl (.int .i64 seq) (fun W hC => ?_) ?_
          · have hcl := (hC.cell (p := ⟨w.heap.size, 2, none⟩) (by show w.heap.size < _; omega)).trans hx2
            go_simp
          simp only [Act.put, List.setIfInBounds_toArray, List.set_cons_zero, List.set_cons_succ]
          refine wpQuiet_val rfl (.bool true) (fun W hC => ?_) ?_
          · go_simp
            refine (l1In_any seq 1 1000000000 W).mono ?_
            rintro e w' ⟨rfl, rfl⟩
            exact ⟨by rw [hd2], hC⟩
          simp only [Act.put, List.setIfInBounds_toArray, List.set_cons_zero, List.set_cons_succ]
          go_big_quiet_step (exact fun _ => rfl)
          go_big_quiet_step (exact fun _ => rfl)
          go_big_quiet_step (exact fun _ => rfl)
          go_big_quiet_step (exact fun _ => rfl)
          refine wpQuiet_val rfl (.int .i64 seq) (fun W hC => ?_) ?_
          · have hcl := (hC.cell (p := ⟨w.heap.size, 2, none⟩) (by show w.heap.size < _; omega)).trans hx2
            go_simp
          simp only [Act.put, List.setIfInBounds_toArray, List.set_cons_zero, List.set_cons_succ]
          go_big_quiet_step (exact fun _ => rfl)
          refine wpQuiet_val rfl (.agg #[.slice a n c]) (fun W hC => ?_) ?_
          · have hcl := (hC.cell (p := ⟨w.heap.size, 0, none⟩) (by show w.heap.size < _; omega)).trans hx0
            go_simp
          simp only [Act.put, List.setIfInBounds_toArray, List.set_cons_zero, List.set_cons_succ]
          refine wpQuiet_val rfl (.int .i64 T) (fun W hC => ?_) ?_
          · go_simp
            refine (unhide HSQ W hC).mono ?_
            rintro e w' ⟨rfl, hB'⟩
            exact ⟨rfl, hC.trans (hB'.mono hC.size)⟩
          simp only [Act.put, List.setIfInBounds_toArray, List.set_cons_zero, List.set_cons_succ]
          go_big_quiet_step (exact fun _ => rfl)
          go_big_quiet_step (exact fun _ => rfl)
          refine wpQuiet_nil ?_
          intro w8 hC8
          have hW8 := hW0.trans (hC8.mono hW0.size)
          have hs8 := hC8.size
          have hx8 := (hC8.cell (p := ⟨w.heap.size, 0, none⟩) (by show w.heap.size < _; omega)).trans hx0
          have hm8 := (hC8.cell (p := ⟨w.heap.size, 1, none⟩) (by show w.heap.size < _; omega)).trans (unhide HX1)
          have ho8 := (hC8.cell (p := ⟨w.heap.size, 3, none⟩) (by show w.heap.size < _; omega)).trans hx3
          have HSEQ : Hid (topSeq bs + 1 ≤ seq ∧ seq ≤ 1000000000) := ⟨by rw [← unhide HT]; omega, hc2.2⟩
          have HOPN : Hid (0 ≤ o ∧ o ≤ (bs.length : Int) - 1) := by rw [unhide HL]; exact hc1
          have HA8 := hide (unhide HA w8 hC8)
          have HI8 := hide (unhide HI w8 hC8)
          clear hx0 hx2 hx3 HCK HSQ HX1 hC8 hW0 hd0 hd1 hd2 hc2 hc3 htb HA HI hmix hc1
          go_wp2_with fail
          refine (l2Map_any a c bs n (unhide HL) (unhide HOK) w8 (unhide HA8)).mono ?_
          rintro e w9 ⟨⟨v, r, L2, rfl, hM, hv⟩, hB9⟩
          obtain ⟨a2, c2, rfl, hI2, _⟩ := hv.form
          have hs9 := hB9.size
          have hW9 := hW8.trans (hB9.mono hW8.size)
          have hx9 := (hB9.cell (p := ⟨w.heap.size, 0, none⟩) (by show w.heap.size < _; omega)).trans hx8
          have hm9 := (hB9.cell (p := ⟨w.heap.size, 1, none⟩) (by show w.heap.size < _; omega)).trans hm8
          have ho9 := (hB9.cell (p := ⟨w.heap.size, 3, none⟩) (by show w.heap.size < _; omega)).trans ho8
          have HA9 := hide ((unhide HA8).below hB9 (Nat.le_refl _))
          have HI9 := hide ((unhide HI8).below hB9 (Nat.le_refl _))
          have HI2 := hide hI2
          have HMM := hide hM
          clear hv hM hI2 hB9 hx8 hm8 ho8 HA8 HI8 hW8
          cases r with
          | false =>
            have HNF : Hid (¬ FtlOk bs L seq o) := fun hf => by have := (unhide HMM).1.2 hf.fits; cases this
            clear HMM
            go_wp2
            go_ret
            exact ⟨RetIff.no (unhide HNF), hW9⟩
          | true =>
            have HFT : Hid (Fits bs) := (unhide HMM).1.1 rfl
            have hl2 : L2 = placesOf (usedOf bs) (roomOf bs) := by have := (unhide HMM).2; simpa using this
            have HL2 := hide hl2
            have hl36 : L2.length ≤ 36 := (unhide HMM).length (by have := unhide HL; omega)
            clear HMM hl2
            obtain ⟨len, hlen⟩ : ∃ len, L2.length = len := ⟨_, rfl⟩
            rw [hlen] at hl36 ⊢
            have HLEN := hide hlen
            clear hlen
            by_cases hlm : len = mn
            · subst hlm
              go_wp2
              go_loopw [5] (fun i wr => ∃ k : Nat, k ≤ len ∧ i = .int .i64 k ∧ (∀ j, j < k → L2[j]? = L[j]?) ∧ Below w9.heap.size w9 wr) (fun i _ => len - (intOf i).toNat)
              case atStart => exact ⟨0, Nat.zero_le _, rfl, fun j hj => absurd hj (Nat.not_lt_zero _), Below.refl _ _⟩
              case round =>
                obtain ⟨k, hk, rfl, hall, hB⟩ := hrel
                have hsr := hB.size
                have hmr := (hB.cell (p := ⟨w.heap.size, 1, none⟩) (by show w.heap.size < _; omega)).trans hm9
                by_cases hlt : k < len
                · obtain ⟨x, hx⟩ := getElem?_ex (l := L2) (k := k) (by have := unhide HLEN; omega)
                  obtain ⟨y, hy⟩ := getElem?_ex (l := L) (k := k) (by have := unhide HLL; omega)
                  obtain ⟨b1, o1, rfl, c1⟩ := ((unhide HI2).below hB (Nat.le_refl _)) k x hx
                  obtain ⟨b2, o2, rfl, c2'⟩ := ((unhide HI9).below hB (Nat.le_refl _)) k y hy
                  have HAL := hide hall
                  have HX := hide hx
                  have HY := hide hy
                  clear hall hx hy
                  by_cases hxy : x = y
                  · subst hxy
                    have hne : (x != x) = false := by simp
                    go_wp2_with fail
                    go_quiet (fail)
                    go_wp2
                    go_roundw
                    case rel =>
                      refine ⟨k + 1, by omega, by go_num, fun j hj => ?_, Below.drewN hB _⟩
                      by_cases e : j = k
                      · subst e; rw [unhide HX, unhide HY]
                      · exact unhide HAL j (by omega)
                    case measure => simp [intOf]; omega
                  · have hne : (x != y) = true := by simpa using hxy
                    go_wp2_with fail
                    go_quiet (fail)
                    go_wp2
                    go_ret
                    refine ⟨RetIff.no (fun hf => ?_), hW9.trans (Below.drewN (hB.mono hW9.size) _)⟩
                    have e := unhide HX
                    rw [unhide HL2, ← hf.map, unhide HY] at e
                    cases e
                    exact hxy rfl
                · obtain rfl : k = len := by omega
                  have HLM : Hid (L = placesOf (usedOf bs) (roomOf bs)) := by
                    rw [← unhide HL2]
                    refine List.ext_getElem? (fun j => ?_)
                    by_cases hj : j < k
                    · exact (hall j hj).symm
                    · rw [List.getElem?_eq_none (by have := unhide HLL; omega), List.getElem?_eq_none (by have := unhide HLEN; omega)]
                  have hxr := (hB.cell (p := ⟨w.heap.size, 0, none⟩) (by show w.heap.size < _; omega)).trans hx9
                  have hor := (hB.cell (p := ⟨w.heap.size, 3, none⟩) (by show w.heap.size < _; omega)).trans ho9
                  have HAr := hide ((unhide HA9).below hB (Nat.le_refl _))
                  have hWr := hW9.trans (hB.mono hW9.size)
                  have hsrw : w.heap.size < wr.heap.size := by omega
                  clear hall hB HI9 HI2 HL2 hmr hx9 hm9 ho9 HA9 hW9
                  obtain ⟨w10, rfl⟩ : ∃ w10, w10 = wr := ⟨_, rfl⟩
                  go_wp2
                  go_loopw [6, 7] (fun f i wr => ∃ (t : Nat) (z : Nat), t ≤ n ∧ i = .int .i64 t ∧ f = .int .i64 z ∧ z ≤ t ∧ (0 < z ↔ oneFree bs o t) ∧ noHalf bs o t ∧ Below w10.heap.size w10 wr) (fun _ i _ => n - (intOf i).toNat)
                  case atStart =>
                    refine ⟨0, 0, Nat.zero_le _, rfl, rfl, Nat.le_refl _, ⟨fun hz => absurd hz (Nat.lt_irrefl _), ?_⟩, fun i x hi => absurd hi (Nat.not_lt_zero _), Below.refl _ _⟩
                    rintro ⟨i, x, hi, _⟩
                    exact absurd hi (Nat.not_lt_zero _)
                  case round =>
                    obtain ⟨t, z, ht, rfl, rfl, hzt, hO, hH, hB⟩ := hrel
                    have hsq := hB.size
                    have hxq := (hB.cell (p := ⟨w.heap.size, 0, none⟩) hsrw).trans hxr
                    have hoq := (hB.cell (p := ⟨w.heap.size, 3, none⟩) hsrw).trans hor
                    have HO := hide hO
                    have HH := hide hH
                    clear hO hH
                    by_cases hlt : t < n
                    · obtain ⟨x, hx⟩ := getElem?_ex (l := bs) (k := t) (by have := unhide HL; omega)
                      obtain ⟨g1, o1, pa, pc, rfl, hcw, hcp, hpa⟩ := ((unhide HAr).below hB (Nat.le_refl _)) t x hx
                      have h4 := ((unhide HOK).block x (List.mem_of_getElem? hx)).four
                      rw [h4] at hcp
                      have hl1 := l1Next_any x.wear pa pc x.pages wr hpa (by omega)
                      rw [h4] at hl1
                      have HN1 := hide hl1
                      have HNO := hide (noHalf_succ (o := o) hx)
                      have HOF := hide (oneFree_succ (o := o) hx)
                      have HX := hide hx
                      clear hl1 hpa h4 hx
                      go_wp2_with fail
                      refine (unhide HN1).mono ?_
                      rintro e w2 ⟨r, rfl, hr, hB2⟩
                      obtain ⟨k1, k2, _⟩ := NextIs.kinds (b := x) hr
                      have hs2 := hB2.size
                      have ho2 := (hB2.cell (p := ⟨w.heap.size, 3, none⟩) (by show w.heap.size < _; omega)).trans hoq
                      have hBB : Below w10.heap.size w10 w2 := hB.trans (hB2.mono hB.size)
                      have hW2 := hWr.trans (hBB.mono hWr.size)
                      clear hr hB2 hB HN1 hxq hoq hcw hcp
                      by_cases hto : (t : Int) = o
                      · have hne : ((t : Int) != o) = false := by simpa using hto
                        clear k1 k2
                        go_wp2
                        go_roundw
                        case rel =>
                          refine ⟨t + 1, z, by omega, by go_num, rfl, by omega, ?_, ?_, hBB⟩
                          · rw [unhide HOF, unhide HO]; exact ⟨fun hz => .inl hz, fun hz => hz.elim id (fun hz => absurd hto hz.1)⟩
                          · rw [unhide HNO]; exact ⟨unhide HH, fun hz => absurd hto hz⟩
                        case measure => simp [intOf]; omega
                      · have hne : ((t : Int) != o) = true := by simpa using hto
                        cases hh : halfB x with
                        | true =>
                          rw [hh] at k2
                          have hr0 : 0 < r := by simpa using k2
                          clear k1 k2
                          go_wp2
                          go_ret
                          refine ⟨RetIff.no (fun hf => ?_), hW2⟩
                          have := hf.settled.1 t x (by have := unhide HL; omega) (unhide HX) hto
                          rw [hh] at this
                          cases this
                        | false =>
                          rw [hh] at k2
                          have hr0 : ¬ 0 < r := by simpa using k2
                          cases hfr : freeB x with
                          | true =>
                            rw [hfr] at k1
                            obtain rfl : r = 0 := by simpa using k1
                            clear k1 k2 hr0
                            go_wp2
                            go_roundw
                            case rel =>
                              refine ⟨t + 1, z + 1, by omega, by go_num, by go_num, by omega, ?_, ?_, hBB⟩
                              · rw [unhide HOF]; exact ⟨fun _ => .inr ⟨hto, hfr⟩, fun _ => Nat.succ_pos _⟩
                              · rw [unhide HNO]; exact ⟨unhide HH, fun _ => hh⟩
                            case measure => simp [intOf]; omega
                          | false =>
                            rw [hfr] at k1
                            have hr1 : ¬ r = 0 := by simpa using k1
                            have hr2 : (r == 0) = false := by simpa using hr1
                            clear k1 k2
                            go_wp2
                            go_roundw
                            case rel =>
                              refine ⟨t + 1, z, by omega, by go_num, rfl, by omega, ?_, ?_, hBB⟩
                              · rw [unhide HOF, unhide HO]; exact ⟨fun hz => .inl hz, fun hz => hz.elim id (fun hz => by rw [hfr] at hz; cases hz.2)⟩
                              · rw [unhide HNO]; exact ⟨unhide HH, fun _ => hh⟩
                            case measure => simp [intOf]; omega
                    · obtain rfl : t = n := by omega
                      have hW2 := hWr.trans (hB.mono hWr.size)
                      go_wp2
                      go_ret
                      refine ⟨⟨_, rfl, ?_⟩, hW2⟩
                      simp only [decide_eq_true_eq]
                      constructor
                      · intro hz
                        refine ⟨unhide HOK, unhide HFT, unhide HLM, unhide HSEQ, unhide HOPN, ?_, ?_⟩
                        · rw [unhide HL]; exact unhide HH
                        · rw [unhide HL]; exact (unhide HO).1 (by omega)
                      · intro hf
                        have h1 := hf.settled.2
                        rw [unhide HL] at h1
                        have := (unhide HO).2 h1
                        omega
            · have hne : ((len : Int) != (mn : Int)) = true := by simp; omega
              have HNF : Hid (¬ FtlOk bs L seq o) := fun hf => hlm (by have h1 := unhide HLEN; have h2 := unhide HLL; have h3 := unhide HL2; rw [← hf.map] at h3; rw [h3] at h1; omega)
              go_wp2
              go_ret
              exact ⟨RetIff.no (unhide HNF), hW9⟩
      · have hd2 : decide ((1 : Int) ≤ seq ∧ seq ≤ 1000000000) = false := by simpa using hc2
        refine wp_region_grown (Below w0.heap.size w0) hmix (by kernel_rfl) (below_drawn w0) ?_
        go_big_quiet_step (exact fun _ => rfl)
        refine wpQuiet_val rfl (.agg #[.slice a n c]) (fun W hC => ?_) ?_
        · have hcl := (hC.cell (p := ⟨w.heap.size, 0, none⟩) (by show w.heap.size < _; omega)).trans hx0
          go_simp
        simp only [Act.put, List.setIfInBounds_toArray, List.set_cons_zero, List.set_cons_succ]
        refine wpQuiet_val rfl (.bool true) (fun W hC => ?_) ?_
        · go_simp
          refine (unhide HCK W hC).mono ?_
          rintro e w' ⟨⟨r9, rfl, hr9⟩, hB'⟩
          refine ⟨?_, hC.trans (hB'.mono hC.size)⟩
          have := hd0 r9 hr9
          rw [this]
        simp only [Act.put, List.setIfInBounds_toArray, List.set_cons_zero, List.set_cons_succ]
        go_big_quiet_step (exact fun _ => rfl)
        go_big_quiet_step (exact fun _ => rfl)
        go_big_quiet_step (exact fun _ => rfl)
        refine wpQuiet_val rfl (.int .i64 o) (fun W hC => ?_) ?_
        · have hcl := (hC.cell (p := ⟨w.heap.size, 3, none⟩) (by show w.heap.size < _; omega)).trans hx3
          go_simp
        simp only [Act.put, List.setIfInBounds_toArray, List.set_cons_zero, List.set_cons_succ]
        go_big_quiet_step (exact fun _ => rfl)
        go_big_quiet_step (exact fun _ => rfl)
        refine wpQuiet_val rfl (.slice a n c) (fun W hC => ?_) ?_
        · have hcl := (hC.cell (p := ⟨w.heap.size, 0, none⟩) (by show w.heap.size < _; omega)).trans hx0
          go_simp
        simp only [Act.put, List.setIfInBounds_toArray, List.set_cons_zero, List.set_cons_succ]
        go_big_quiet_step (exact fun _ => rfl)
        go_big_quiet_step (exact fun _ => rfl)
        refine wpQuiet_val rfl (.bool true) (fun W hC => ?_) ?_
        · go_simp
          refine (l1In_any o 0 ((n : Int) - 1) W).mono ?_
          rintro e w' ⟨rfl, rfl⟩
          exact ⟨by rw [hd1], hC⟩
        simp only [Act.put, List.setIfInBounds_toArray, List.set_cons_zero, List.set_cons_succ]
        go_big_quiet_step (exact fun _ => rfl)
        go_big_quiet_step (exact fun _ => rfl)
        go_big_quiet_step (exact fun _ => rfl)
        go_big_quiet_step (exact fun _ => rfl)
        refine wpQuiet_val rfl (.int .i64 seq) (fun W hC => ?_) ?_
        · have hcl := (hC.cell (p := ⟨w.heap.size, 2, none⟩) (by show w.heap.size < _; omega)).trans hx2
          go_simp
        simp only [Act.put, List.setIfInBounds_toArray, List.set_cons_zero, List.set_cons_succ]
        refine wpQuiet_val rfl (.bool false) (fun W hC => ?_) ?_
        · go_simp
          refine (l1In_any seq 1 1000000000 W).mono ?_
          rintro e w' ⟨rfl, rfl⟩
          exact ⟨by rw [hd2], hC⟩
        simp only [Act.put, List.setIfInBounds_toArray, List.set_cons_zero, List.set_cons_succ]
        go_big_quiet_step (exact fun _ => rfl)
        go_big_quiet_step (exact fun _ => rfl)
        go_big_quiet_step (exact fun _ => rfl)
        go_big_quiet_step (exact fun _ => rfl)
        go_big_quiet_step (exact fun _ => rfl)
        go_big_quiet_step (exact fun _ => rfl)
        go_big_quiet_step (exact fun _ => rfl)
        go_big_quiet_step (exact fun _ => rfl)
        go_big_quiet_step (exact fun _ => rfl)
        go_big_quiet_step (exact fun _ => rfl)
        refine wpQuiet_nil ?_
        intro w8 hC8
        have hW8 := hW0.trans (hC8.mono hW0.size)
        have HNO : Hid (¬ FtlOk bs L seq o) := fun hf => hc2 (by have h1 := hf.seq; rw [← unhide HT] at h1; omega)
        clear hC8 hx0 hx2 hx3 HCK
        go_wp2
        go_ret
        exact ⟨RetIff.no (unhide HNO), hW8⟩
    · have hd1 : decide ((0 : Int) ≤ o ∧ o ≤ (n : Int) - 1) = false := by simpa using hc1
      refine wp_region_grown (Below w0.heap.size w0) hmix (by kernel_rfl) (below_drawn w0) ?_
      go_big_quiet_step (exact fun _ => rfl)
      refine wpQuiet_val rfl (.agg #[.slice a n c]) (fun W hC => ?_) ?_
      · have hcl := (hC.cell (p := ⟨w.heap.size, 0, none⟩) (by show w.heap.size < _; omega)).trans hx0
        go_simp
      simp only [Act.put, List.setIfInBounds_toArray, List.set_cons_zero, List.set_cons_succ]
      refine wpQuiet_val rfl (.bool true) (fun W hC => ?_) ?_
      · go_simp
        refine (unhide HCK W hC).mono ?_
        rintro e w' ⟨⟨r9, rfl, hr9⟩, hB'⟩
        refine ⟨?_, hC.trans (hB'.mono hC.size)⟩
        have := hd0 r9 hr9
        rw [this]
      simp only [Act.put, List.setIfInBounds_toArray, List.set_cons_zero, List.set_cons_succ]
      go_big_quiet_step (exact fun _ => rfl)
      go_big_quiet_step (exact fun _ => rfl)
      go_big_quiet_step (exact fun _ => rfl)
      refine wpQuiet_val rfl (.int .i64 o) (fun W hC => ?_) ?_
      · have hcl := (hC.cell (p := ⟨w.heap.size, 3, none⟩) (by show w.heap.size < _; omega)).trans hx3
        go_simp
      simp only [Act.put, List.setIfInBounds_toArray, List.set_cons_zero, List.set_cons_succ]
      go_big_quiet_step (exact fun _ => rfl)
      go_big_quiet_step (exact fun _ => rfl)
      refine wpQuiet_val rfl (.slice a n c) (fun W hC => ?_) ?_
      · have hcl := (hC.cell (p := ⟨w.heap.size, 0, none⟩) (by show w.heap.size < _; omega)).trans hx0
        go_simp
      simp only [Act.put, List.setIfInBounds_toArray, List.set_cons_zero, List.set_cons_succ]
      go_big_quiet_step (exact fun _ => rfl)
      go_big_quiet_step (exact fun _ => rfl)
      refine wpQuiet_val rfl (.bool false) (fun W hC => ?_) ?_
      · go_simp
        refine (l1In_any o 0 ((n : Int) - 1) W).mono ?_
        rintro e w' ⟨rfl, rfl⟩
        exact ⟨by rw [hd1], hC⟩
      simp only [Act.put, List.setIfInBounds_toArray, List.set_cons_zero, List.set_cons_succ]
      go_big_quiet_step (exact fun _ => rfl)
      go_big_quiet_step (exact fun _ => rfl)
      go_big_quiet_step (exact fun _ => rfl)
      go_big_quiet_step (exact fun _ => rfl)
      go_big_quiet_step (exact fun _ => rfl)
      go_big_quiet_step (exact fun _ => rfl)
      go_big_quiet_step (exact fun _ => rfl)
      go_big_quiet_step (exact fun _ => rfl)
      go_big_quiet_step (exact fun _ => rfl)
      go_big_quiet_step (exact fun _ => rfl)
      go_big_quiet_step (exact fun _ => rfl)
      go_big_quiet_step (exact fun _ => rfl)
      go_big_quiet_step (exact fun _ => rfl)
      go_big_quiet_step (exact fun _ => rfl)
      go_big_quiet_step (exact fun _ => rfl)
      go_big_quiet_step (exact fun _ => rfl)
      refine wpQuiet_nil ?_
      intro w8 hC8
      have hW8 := hW0.trans (hC8.mono hW0.size)
      have HNO : Hid (¬ FtlOk bs L seq o) := fun hf => hc1 (by rw [← unhide HL]; exact hf.opn)
      clear hC8 hx0 hx2 hx3 HCK
      go_wp2
      go_ret
      exact ⟨RetIff.no (unhide HNO), hW8⟩
  · have hd0 : ∀ r : Bool, (r = true ↔ ChipOk bs) → r = false := fun r h => by cases r; rfl; exact absurd (h.1 rfl) hc0
    refine wp_region_grown (Below w0.heap.size w0) hmix (by kernel_rfl) (below_drawn w0) ?_
    go_big_quiet_step (exact fun _ => rfl)
    refine wpQuiet_val rfl (.agg #[.slice a n c]) (fun W hC => ?_) ?_
    · have hcl := (hC.cell (p := ⟨w.heap.size, 0, none⟩) (by show w.heap.size < _; omega)).trans hx0
      go_simp
    simp only [Act.put, List.setIfInBounds_toArray, List.set_cons_zero, List.set_cons_succ]
    refine wpQuiet_val rfl (.bool false) (fun W hC => ?_) ?_
    · go_simp
      refine (unhide HCK W hC).mono ?_
      rintro e w' ⟨⟨r9, rfl, hr9⟩, hB'⟩
      refine ⟨?_, hC.trans (hB'.mono hC.size)⟩
      have := hd0 r9 hr9
      rw [this]
    simp only [Act.put, List.setIfInBounds_toArray, List.set_cons_zero, List.set_cons_succ]
    go_big_quiet_step (exact fun _ => rfl)
    go_big_quiet_step (exact fun _ => rfl)
    go_big_quiet_step (exact fun _ => rfl)
    go_big_quiet_step (exact fun _ => rfl)
    go_big_quiet_step (exact fun _ => rfl)
    go_big_quiet_step (exact fun _ => rfl)
    go_big_quiet_step (exact fun _ => rfl)
    go_big_quiet_step (exact fun _ => rfl)
    go_big_quiet_step (exact fun _ => rfl)
    go_big_quiet_step (exact fun _ => rfl)
    go_big_quiet_step (exact fun _ => rfl)
    go_big_quiet_step (exact fun _ => rfl)
    go_big_quiet_step (exact fun _ => rfl)
    go_big_quiet_step (exact fun _ => rfl)
    go_big_quiet_step (exact fun _ => rfl)
    go_big_quiet_step (exact fun _ => rfl)
    go_big_quiet_step (exact fun _ => rfl)
    go_big_quiet_step (exact fun _ => rfl)
    go_big_quiet_step (exact fun _ => rfl)
    go_big_quiet_step (exact fun _ => rfl)
    go_big_quiet_step (exact fun _ => rfl)
    go_big_quiet_step (exact fun _ => rfl)
    go_big_quiet_step (exact fun _ => rfl)
    go_big_quiet_step (exact fun _ => rfl)
    go_big_quiet_step (exact fun _ => rfl)
    go_big_quiet_step (exact fun _ => rfl)
    refine wpQuiet_nil ?_
    intro w8 hC8
    have hW8 := hW0.trans (hC8.mono hW0.size)
    have HNO : Hid (¬ FtlOk bs L seq o) := fun hf => hc0 hf.chip
    clear hC8 hx0 hx2 hx3 HCK
    go_wp2
    go_ret
    exact ⟨RetIff.no (unhide HNO), hW8⟩
end Go.Proofs.Ytageolbmplhgaaa
