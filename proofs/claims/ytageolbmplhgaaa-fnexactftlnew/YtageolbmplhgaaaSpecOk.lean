/- The model's answer whether a chip is right. -/
import Derived.Test.YtageolbmplhgaaaChecked
import Derived.Test.YtageolbmplhgaaaOk
import Derived.Test.YtageolbmplhgaaaNew
import Derived.WalkKit
import Derived.Outline
import Derived.Laws.Closers25b
namespace Go.Proofs.Ytageolbmplhgaaa
open Go.RowKit
set_option linter.unusedVariables false
set_option linter.unusedSimpArgs false

theorem isEmpty_size (d : ByteArray) : d.toList.isEmpty = decide (d.size = 0) := by
  rw [Bool.eq_iff_iff]
  simp [List.isEmpty_iff, toList_nil_iff_emptyBytes]
theorem size_four (d : ByteArray) : ((d.size : Int) == 4) = decide (d.size = 4) := by
  rw [Bool.eq_iff_iff]
  simp
  omega
theorem ret_bool {a b : Bool} (h : a = b) : Ending.returned (.bool a) = .returned (.bool b) := by rw [h]

set_option maxHeartbeats 1000000 in
theorem l1Page_any (p : Pg) (w : World) : Calls Try.prog 56 #[.agg #[.bool p.used, .int .i64 p.log, .int .i64 p.seq, .string p.data]] w fun e w' => e = .returned (.bool (pgOk p)) ∧ Below w.heap.size w w' := by
  obtain ⟨u, l, s, d⟩ := p
  have hB : ∀ o, Below w.heap.size w (w.alloc o) := fun o => (Below.refl _ w).alloc (Nat.le_refl _) _
  cases u with
  | false =>
    by_cases h1 : l = 0
    · subst h1
      by_cases h2 : s = 0
      · subst h2
        go_enter Try.func56, Try.ntmps56
        go_wp2
        go_ret
        exact ⟨ret_bool (by simp [pgOk, isZero, isEmpty_size]), hB _⟩
      · have h2' : (s == 0) = false := by simpa using h2
        go_enter Try.func56, Try.ntmps56
        go_wp2
        go_ret
        exact ⟨ret_bool (by simp [pgOk, isZero, h2]), hB _⟩
    · have h1' : (l == 0) = false := by simpa using h1
      go_enter Try.func56, Try.ntmps56
      go_wp2
      go_ret
      exact ⟨ret_bool (by simp [pgOk, isZero, h1]), hB _⟩
  | true =>
    by_cases h1 : 0 ≤ l ∧ l ≤ 39
    · by_cases h2 : 1 ≤ s ∧ s ≤ 1000000000
      · have e1 : decide (0 ≤ l ∧ l ≤ 39) = true := by simpa using h1
        have e2 : decide (1 ≤ s ∧ s ≤ 1000000000) = true := by simpa using h2
        go_enter Try.func56, Try.ntmps56
        go_wp2_with (go_at_call 55; refine (l1In_any _ _ _ _).mono ?_; rintro e w1 ⟨rfl, rfl⟩)
        go_ret
        exact ⟨ret_bool (by simp [pgOk, rightUsed, h1, h2, size_four]), hB _⟩
      · have e1 : decide (0 ≤ l ∧ l ≤ 39) = true := by simpa using h1
        have e2 : decide (1 ≤ s ∧ s ≤ 1000000000) = false := by simpa using h2
        go_enter Try.func56, Try.ntmps56
        go_wp2_with (go_at_call 55; refine (l1In_any _ _ _ _).mono ?_; rintro e w1 ⟨rfl, rfl⟩)
        go_ret
        exact ⟨ret_bool (by simp [pgOk, rightUsed]; omega), hB _⟩
    · have e1 : decide (0 ≤ l ∧ l ≤ 39) = false := by simpa using h1
      go_enter Try.func56, Try.ntmps56
      go_wp2_with (go_at_call 55; refine (l1In_any _ _ _ _).mono ?_; rintro e w1 ⟨rfl, rfl⟩)
      go_ret
      exact ⟨ret_bool (by simp [pgOk, rightUsed]; omega), hB _⟩

set_option maxRecDepth 100000 in
set_option maxHeartbeats 2000000 in
theorem l1Seq_any (a : Option Addr) (c : Nat) (bs : List Bk) (s : Int) (w : World) (h : BlocksAt w a bs) (hn : Lens 1048576 bs) :
    Calls Try.prog 57 #[.agg #[.slice a bs.length c], .int .i64 s] w fun e w' => e = .returned (.int .i64 ((seqs bs).count s)) ∧ Below w.heap.size w w' := by
  have hn1 := hn.1
  go_enter Try.func57, Try.ntmps57
  go_wp2
  go_loopw [5, 6] (fun v i wr => ∃ (k : Nat), k ≤ bs.length ∧ i = .int .i64 k ∧ v = .int .i64 ((seqs (bs.take k)).count s) ∧ wr = w.alloc (.cells #[.slice a bs.length c] 29)) (fun _ i _ => bs.length - (intOf i).toNat)
  case atStart => exact ⟨0, Nat.zero_le _, rfl, by simp [seqs], rfl⟩
  case round =>
    obtain ⟨k, hk, rfl, rfl, rfl⟩ := hrel
    by_cases hlt : k < bs.length
    · obtain ⟨b, hb⟩ := getElem?_ex hlt
      obtain ⟨b1, o1, pa, pc, rfl, g10, g11, q⟩ := h k b hb
      have hb1 : b1 < w.heap.size := World.block_lt_of_cell? _ _ g10
      have hpl := hn.at hb
      have hsum : (seqs (bs.take k)).count s ≤ k * 1048576 := Nat.le_trans List.count_le_length (Nat.le_trans (seqs_length (fun b hb => hn.2 b (List.mem_of_mem_take hb))) (Nat.mul_le_mul_right _ (by simp; omega)))
      have hsnoc : (seqs (bs.take (k + 1))).count s = (seqs (bs.take k)).count s + (seqsP b.pages).count s := by rw [seqs_snoc hb, List.count_append]
      have HN := hide hsnoc
      have HB := hide hb
      generalize hm : (seqs (bs.take k)).count s = m at *
      have HM := hide hm
      clear hsnoc hb hm h
      go_wp2
      go_loopw [5, 7] (fun v i wr => ∃ (j : Nat), j ≤ b.pages.length ∧ i = .int .i64 j ∧ v = .int .i64 ((m : Int) + ((seqsP (b.pages.take j)).count s : Nat)) ∧ wr = w.alloc (.cells #[.slice (some ⟨b1, o1, none⟩) bs.length c] 29)) (fun _ i _ => b.pages.length - (intOf i).toNat)
      case atStart => exact ⟨0, Nat.zero_le _, rfl, by simp [seqsP], rfl⟩
      case round =>
        obtain ⟨j, hj, rfl, rfl, rfl⟩ := hrel
        by_cases hlt2 : j < b.pages.length
        · obtain ⟨p, hp⟩ := getElem?_ex hlt2
          obtain ⟨b2, o2, rfl, p0, p1, p2, p3⟩ := q j p hp
          have hb2 : b2 < w.heap.size := World.block_lt_of_cell? _ _ p0
          have hc : (seqsP (b.pages.take j)).count s ≤ 1048576 := Nat.le_trans List.count_le_length (Nat.le_trans (seqsP_length _) (by simp; omega))
          have hsn := congrArg (List.count s) (seqsP_snoc hp)
          rw [List.count_append] at hsn
          have HP := hide hsn
          generalize hr : (seqsP (b.pages.take j)).count s = r at *
          have HR := hide hr
          clear hsn hp hr q
          by_cases hu : p.used = true
          · rw [hu] at p0
            by_cases hs : p.seq = s
            · have hs' : (p.seq == s) = true := by simpa using hs
              go_wp2
              go_roundw
              case rel =>
                refine ⟨j + 1, by omega, by go_num, ?_, trivial⟩
                have := unhide HP
                rw [if_pos hu, hs] at this
                simp at this
                rw [this]
                go_num
              case measure => simp [intOf]; omega
            · have hs' : (p.seq == s) = false := by simpa using hs
              go_wp2
              go_roundw
              case rel =>
                refine ⟨j + 1, by omega, by go_num, ?_, trivial⟩
                have := unhide HP
                rw [if_pos hu, List.count_singleton, hs'] at this
                simp at this
                rw [this]
              case measure => simp [intOf]; omega
          · have hu' : p.used = false := by simpa using hu
            rw [hu'] at p0
            go_wp2
            go_roundw
            case rel =>
              refine ⟨j + 1, by omega, by go_num, ?_, trivial⟩
              have := unhide HP
              rw [if_neg hu] at this
              simp at this
              rw [this]
            case measure => simp [intOf]; omega
        · have hj' : j = b.pages.length := by omega
          subst hj'
          rw [List.take_length]
          have hc : (seqsP b.pages).count s ≤ 1048576 := Nat.le_trans List.count_le_length (Nat.le_trans (seqsP_length _) hpl)
          generalize hr : (seqsP b.pages).count s = r at *
          have HR := hide hr
          clear hr
          go_wp2
          go_roundw
          case rel =>
            refine ⟨k + 1, by omega, by go_num, ?_, trivial⟩
            rw [unhide HN]
            go_num
          case measure => simp [intOf]; omega
    · have hk' : k = bs.length := by omega
      subst hk'
      rw [List.take_length]
      generalize hm : (seqs bs).count s = m at *
      have HM := hide hm
      clear hm
      go_wp2
      go_ret
      refine ⟨?_, (Below.refl _ w).alloc (Nat.le_refl _) _⟩
      rw [unhide HM]
      rfl

set_option maxRecDepth 100000 in
set_option maxHeartbeats 4000000 in
theorem specChipOk_any (a : Option Addr) (c : Nat) (bs : List Bk) (w : World) (h : BlocksAt w a bs) (hn : Lens 1048576 bs) :
    Calls Try.prog 16 #[.agg #[.slice a bs.length c]] w fun e w' => ∃ r : Bool, e = .returned (.bool r) ∧ (r = true ↔ ChipOk bs) ∧ Below w.heap.size w w' := by
  have hn1 := hn.1
  have hb0 : ∀ o, Below w.heap.size w (w.alloc o) := fun o => (Below.refl _ w).alloc (Nat.le_refl _) _
  by_cases hcnt : 4 ≤ bs.length ∧ bs.length ≤ 12
  · go_enter Try.func16, Try.ntmps16
    go_wp2_with fail
    refine (l1In_any _ _ _ _).mono ?_
    rintro e w1 ⟨rfl, rfl⟩
    have hd : decide (4 ≤ (bs.length : Int) ∧ (bs.length : Int) ≤ 12) = true := by simp; omega
    rw [hd]
    go_wp2
    go_loopw [3] (fun i wr => ∃ (k : Nat), k ≤ bs.length ∧ i = .int .i64 k ∧ (∀ j b, j < k → bs[j]? = some b → BkOk b ∧ ∀ s ∈ seqsP b.pages, (seqs bs).count s = 1) ∧ wr.cell? ⟨w.heap.size, 0, none⟩ = some (.slice a bs.length c) ∧ Below w.heap.size w wr ∧ w.heap.size < wr.heap.size) (fun i _ => bs.length - (intOf i).toNat)
    case atStart => exact ⟨0, Nat.zero_le _, rfl, fun j b hj => absurd hj (Nat.not_lt_zero _), by simp, hb0 _, by simp⟩
    case round =>
      obtain ⟨k, hk, rfl, hall, hbox, hB, hsz⟩ := hrel
      by_cases hlt : k < bs.length
      · obtain ⟨b, hb⟩ := getElem?_ex hlt
        obtain ⟨b1, o1, pa, pc, rfl, g10, g11, q⟩ := (h.below hB (Nat.le_refl _)) k b hb
        have hb1 : b1 < wr.heap.size := World.block_lt_of_cell? _ _ g10
        have hpl := hn.at hb
        have HB := hide hb
        have HA := hide hall
        have hno : ¬ (BkOk b ∧ ∀ s ∈ seqsP b.pages, (seqs bs).count s = 1) → ¬ ChipOk bs := fun h1 h2 =>
          h1 ⟨h2.block b (List.mem_of_getElem? hb), fun s hs => h2.one (List.mem_flatMap.2 ⟨b, List.mem_of_getElem? hb, hs⟩)⟩
        have HNO := hide hno
        clear hb hall hno
        have hBout : ∀ W, Below wr.heap.size wr W → Below w.heap.size w W := fun W hW => hB.trans (hW.mono hB.size)
        by_cases hw : 0 ≤ b.wear ∧ b.wear ≤ 1000000000
        · have hd1 : decide (0 ≤ b.wear ∧ b.wear ≤ 1000000000) = true := by simpa using hw
          by_cases h4 : b.pages.length = 4
          · rw [h4] at g11
            have H4 := hide h4
            clear h4
            go_wp2_with fail
            refine (l1In_any _ _ _ _).mono ?_
            rintro e w1 ⟨rfl, rfl⟩
            rw [hd1]
            obtain ⟨W0, hW0⟩ : ∃ W0, W0 = wr.alloc (.cells #[.int .i64 b.wear, .slice pa 4 pc] 75) := ⟨_, rfl⟩
            have hBW : Below wr.heap.size wr W0 := by rw [hW0]; exact (Below.refl _ _).alloc (Nat.le_refl _) _
            have hsW : W0.heap.size = wr.heap.size + 1 := by rw [hW0]; simp
            have y1 : W0.cell? ⟨w.heap.size, 0, none⟩ = some (.slice (some ⟨b1, o1, none⟩) bs.length c) := by rw [hBW.cell (p := ⟨w.heap.size, 0, none⟩) hsz]; exact hbox
            have y2 : W0.cell? ⟨wr.heap.size, 1, none⟩ = some (.slice pa 4 pc) := by rw [hW0]; simp
            have HSW := hide hsW
            clear hsW
            go_wp2
            rw [← hW0]
            have HW0 := hide hW0
            have hltW : w.heap.size < W0.heap.size := by have := unhide HSW; omega
            have hltO : wr.heap.size < W0.heap.size := by have := unhide HSW; omega
            have HbaW := hide ((h.below hB (Nat.le_refl _)).below hBW (Nat.le_refl _))
            have HqW := hide (q.below hBW (Nat.le_refl _))
            have HoutW : Hid (∀ W, Below W0.heap.size W0 W → Below w.heap.size w W) := fun W hW => hBout W (hBW.trans (hW.mono hBW.size))
            clear hW0 g10 g11 h q hbox hB hBW hBout
            obtain ⟨wo, rfl⟩ : ∃ wo : World, wo = wr := ⟨_, rfl⟩
            go_loopw [5] (fun i wr2 => ∃ (j : Nat), j ≤ 4 ∧ i = .int .i64 j ∧ (∀ t p, t < j → b.pages[t]? = some p → pgOk p = true ∧ (p.used = true → (∀ t' q, t = t' + 1 → b.pages[t']? = some q → q.used = true) ∧ (seqs bs).count p.seq = 1)) ∧ Below W0.heap.size W0 wr2) (fun i _ => 4 - (intOf i).toNat)
            case atStart => exact ⟨0, by omega, rfl, fun t p ht => absurd ht (Nat.not_lt_zero _), Below.refl _ _⟩
            case round =>
              obtain ⟨j, hj, rfl, hpg, hB2⟩ := hrel
              have HPG := hide hpg
              clear hpg
              have hs2 := hB2.size
              have z1 := (hB2.cell (p := ⟨w.heap.size, 0, none⟩) hltW).trans y1
              have z2 := (hB2.cell (p := ⟨wo.heap.size, 1, none⟩) hltO).trans y2
              have hl1 : w.heap.size < wr.heap.size := by omega
              have hl2 : wo.heap.size < wr.heap.size := by omega
              by_cases hlt2 : j < 4
              · obtain ⟨p, hp⟩ := getElem?_ex (l := b.pages) (k := j) (by rw [unhide H4]; exact hlt2)
                obtain ⟨b2, o2, rfl, p0, p1, p2, p3⟩ := ((unhide HqW).below hB2 (Nat.le_refl _)) j p hp
                have hb2 : b2 < wr.heap.size := World.block_lt_of_cell? _ _ p0
                have HP := hide hp
                clear hp
                go_wp2_with fail
                refine (l1Page_any p _).mono ?_
                rintro e w1 ⟨rfl, hB3⟩
                clear p0 p1 p2 p3
                have hs3 := hB3.size
                simp at hs3
                have x1 : w1.cell? ⟨w.heap.size, 0, none⟩ = some (.slice (some ⟨b1, o1, none⟩) bs.length c) := by
                  rw [hB3.cell (p := ⟨w.heap.size, 0, none⟩) (by simp; omega), cell_alloc_lt _ _ _ _ hl1]; exact z1
                have x2 : w1.cell? ⟨wo.heap.size, 1, none⟩ = some (.slice (some ⟨b2, o2, none⟩) 4 pc) := by
                  rw [hB3.cell (p := ⟨wo.heap.size, 1, none⟩) (by simp; omega), cell_alloc_lt _ _ _ _ hl2]; exact z2
                have x3 : ∀ i, w1.cell? ⟨wr.heap.size, i, none⟩ = (#[Value.bool p.used, .int .i64 p.log, .int .i64 p.seq, .string p.data])[i]? := fun i => by
                  rw [hB3.cell (p := ⟨wr.heap.size, i, none⟩) (by simp)]; simp
                have x30 := x3 0
                have x32 := x3 2
                simp at x30 x32
                have hBw1 : Below W0.heap.size W0 w1 := (hB2.trans (((Below.refl _ wr).alloc (Nat.le_refl _) _).mono hB2.size)).trans (hB3.mono (by simp; omega))
                have HBW1 := hide hBw1
                have HX3 := hide x3
                clear x3 hBw1 z1 z2
                cases hpk : pgOk p with
                | false =>
                  go_wp2
                  go_ret
                  refine ⟨false, rfl, ?_, unhide HoutW _ (unhide HBW1)⟩
                  simp only [Bool.false_eq_true, false_iff]
                  refine unhide HNO (fun hx => ?_)
                  have := hx.1.page j p (unhide HP)
                  rw [hpk] at this
                  cases this
                | true =>
                  cases hu : p.used with
                  | false =>
                    rw [hu] at x30
                    go_wp2
                    go_roundw
                    case rel =>
                      refine ⟨j + 1, by omega, by go_num, ?_, unhide HBW1⟩
                      intro t p' ht hp'
                      by_cases e : t = j
                      · subst e
                        rw [unhide HP] at hp'
                        cases hp'
                        exact ⟨hpk, fun h => by rw [hu] at h; cases h⟩
                      · exact unhide HPG t p' (by omega) hp'
                    case measure => simp [intOf]; omega
                  | true =>
                    rw [hu] at x30
                    have hfin : ∀ (W : World), Below W0.heap.size W0 W → (∀ t' q, j = t' + 1 → b.pages[t']? = some q → q.used = true) → (seqs bs).count p.seq = 1 → ∀ t p', t < j + 1 → b.pages[t]? = some p' → pgOk p' = true ∧ (p'.used = true → (∀ t' q, t = t' + 1 → b.pages[t']? = some q → q.used = true) ∧ (seqs bs).count p'.seq = 1) := by
                      intro W _ h1 h2 t p' ht hp'
                      by_cases e : t = j
                      · subst e
                        rw [unhide HP] at hp'
                        cases hp'
                        exact ⟨hpk, fun _ => ⟨h1, h2⟩⟩
                      · exact unhide HPG t p' (by omega) hp'
                    have HFIN := hide hfin
                    clear hfin
                    have hseq : p.seq ∈ seqsP b.pages := mem_seqsP (unhide HP) hu
                    have HSEQ := hide hseq
                    clear hseq
                    cases j with
                    | zero =>
                      go_wp2_with fail
                      refine (l1Seq_any _ _ bs _ _ ((unhide HbaW).below (unhide HBW1) (Nat.le_refl _)) hn).mono ?_
                      rintro e w2 ⟨rfl, hB4⟩
                      have HB4 : Hid (Below W0.heap.size W0 w2) := (unhide HBW1).trans (hB4.mono (by have := (unhide HBW1).size; omega))
                      by_cases hc1 : (seqs bs).count p.seq = 1
                      · have hc1' : ((((seqs bs).count p.seq : Nat) : Int) != 1) = false := by simp [hc1]
                        have HC := hide hc1
                        clear hc1 hB4
                        go_wp2
                        go_roundw
                        case rel => exact ⟨0 + 1, by omega, by go_num, unhide HFIN w2 (unhide HB4) (fun t' q ht => by omega) (unhide HC), unhide HB4⟩
                        case measure => simp [intOf]
                      · have hc1' : ((((seqs bs).count p.seq : Nat) : Int) != 1) = true := by rw [bne_iff_ne]; omega
                        have HC := hide hc1
                        clear hc1 hB4
                        go_wp2
                        go_ret
                        refine ⟨false, rfl, ?_, unhide HoutW _ (unhide HB4)⟩
                        simp only [Bool.false_eq_true, false_iff]
                        exact unhide HNO (fun hx => unhide HC (hx.2 _ (unhide HSEQ)))
                    | succ t =>
                      obtain ⟨q', hq'⟩ := getElem?_ex (l := b.pages) (k := t) (by rw [unhide H4]; omega)
                      obtain ⟨b3, o3, e3, q0, _, _, _⟩ := ((unhide HqW).below (unhide HBW1) (Nat.le_refl _)) t q' hq'
                      simp at e3
                      obtain ⟨rfl, rfl⟩ := e3
                      have HQ := hide hq'
                      clear hq'
                      cases hu2 : q'.used with
                      | false =>
                        rw [hu2] at q0
                        go_wp2
                        go_ret
                        refine ⟨false, rfl, ?_, unhide HoutW _ (unhide HBW1)⟩
                        simp only [Bool.false_eq_true, false_iff]
                        refine unhide HNO (fun hx => ?_)
                        have := hx.1.order t p q' (unhide HQ) (unhide HP) hu
                        rw [hu2] at this
                        cases this
                      | true =>
                        rw [hu2] at q0
                        go_wp2_with fail
                        refine (l1Seq_any _ _ bs _ _ ((unhide HbaW).below (unhide HBW1) (Nat.le_refl _)) hn).mono ?_
                        rintro e w2 ⟨rfl, hB4⟩
                        have HB4 : Hid (Below W0.heap.size W0 w2) := (unhide HBW1).trans (hB4.mono (by have := (unhide HBW1).size; omega))
                        by_cases hc1 : (seqs bs).count p.seq = 1
                        · have hc1' : ((((seqs bs).count p.seq : Nat) : Int) != 1) = false := by simp [hc1]
                          have HC := hide hc1
                          clear hc1 hB4
                          go_wp2
                          go_roundw
                          case rel =>
                            refine ⟨t + 1 + 1, by omega, by go_num, unhide HFIN w2 (unhide HB4) (fun t' q ht hq => ?_) (unhide HC), unhide HB4⟩
                            have e : t' = t := by omega
                            subst e
                            rw [unhide HQ] at hq
                            cases hq
                            exact hu2
                          case measure => simp [intOf]; omega
                        · have hc1' : ((((seqs bs).count p.seq : Nat) : Int) != 1) = true := by rw [bne_iff_ne]; omega
                          have HC := hide hc1
                          clear hc1 hB4
                          go_wp2
                          go_ret
                          refine ⟨false, rfl, ?_, unhide HoutW _ (unhide HB4)⟩
                          simp only [Bool.false_eq_true, false_iff]
                          exact unhide HNO (fun hx => unhide HC (hx.2 _ (unhide HSEQ)))
              · have hj4 : j = 4 := by omega
                subst hj4
                go_wp2
                go_roundw
                case rel =>
                  refine ⟨k + 1, by omega, by go_num, ?_, z1, unhide HoutW _ hB2, hl1⟩
                  intro i b' hi hb'
                  by_cases e : i = k
                  · subst e
                    rw [unhide HB] at hb'
                    cases hb'
                    refine ⟨⟨hw, unhide H4, fun t p hp => (unhide HPG t p ?_ hp).1, fun t p q hq hp hu => ?_⟩, fun s hs => ?_⟩
                    · have := (List.getElem?_eq_some_iff.1 hp).1
                      rw [unhide H4] at this
                      exact this
                    · have := (List.getElem?_eq_some_iff.1 hp).1
                      rw [unhide H4] at this
                      exact ((unhide HPG (t + 1) p this hp).2 hu).1 t q rfl hq
                    · obtain ⟨p, hp, rfl⟩ := List.mem_map.1 hs
                      obtain ⟨hp1, hu⟩ := List.mem_filter.1 hp
                      obtain ⟨t, ht, rfl⟩ := List.getElem_of_mem hp1
                      exact ((unhide HPG t _ (by rw [← unhide H4]; exact ht) (by simp [ht])).2 hu).2
                  · exact unhide HA i b' (by omega) hb'
                case measure => simp [intOf]; omega
          · have h4' : ((b.pages.length : Int) != 4) = true := by rw [bne_iff_ne]; omega
            go_wp2_with fail
            refine (l1In_any _ _ _ _).mono ?_
            rintro e w1 ⟨rfl, rfl⟩
            rw [hd1]
            have HH := hide h4
            clear h4
            go_wp2
            go_ret
            refine ⟨false, rfl, ?_, hBout _ ((Below.refl _ _).alloc (Nat.le_refl _) _)⟩
            simp only [Bool.false_eq_true, false_iff]
            exact unhide HNO (fun hx => unhide HH hx.1.four)
        · have hd1 : decide (0 ≤ b.wear ∧ b.wear ≤ 1000000000) = false := by simpa using hw
          go_wp2_with fail
          refine (l1In_any _ _ _ _).mono ?_
          rintro e w1 ⟨rfl, rfl⟩
          rw [hd1]
          have HH := hide hw
          clear hw
          go_wp2
          go_ret
          refine ⟨false, rfl, ?_, hBout _ ((Below.refl _ _).alloc (Nat.le_refl _) _)⟩
          simp only [Bool.false_eq_true, false_iff]
          exact unhide HNO (fun hx => unhide HH hx.1.wear)
      · have hyes : ChipOk bs := by
          have hk' : k = bs.length := by omega
          subst hk'
          refine ⟨hcnt, fun b hb => ?_, nodup_of_one (fun s hs => ?_)⟩
          · obtain ⟨i, hi, rfl⟩ := List.getElem_of_mem hb
            exact (hall i _ hi (by simp [hi])).1
          · obtain ⟨b, hb, hs'⟩ := List.mem_flatMap.1 hs
            obtain ⟨i, hi, rfl⟩ := List.getElem_of_mem hb
            exact (hall i _ hi (by simp [hi])).2 s hs'
        have HY := hide hyes
        clear hyes hall
        go_wp2
        go_ret
        exact ⟨true, rfl, by simp [unhide HY], hB⟩
  · go_enter Try.func16, Try.ntmps16
    go_wp2_with fail
    refine (l1In_any _ _ _ _).mono ?_
    rintro e w1 ⟨rfl, rfl⟩
    have hd : decide (4 ≤ (bs.length : Int) ∧ (bs.length : Int) ≤ 12) = false := by simp; omega
    rw [hd]
    have HH := hide hcnt
    clear hcnt
    go_wp2
    go_ret
    refine ⟨false, rfl, ?_, hb0 _⟩
    simp only [Bool.false_eq_true, false_iff]
    exact fun hx => unhide HH hx.count
end Go.Proofs.Ytageolbmplhgaaa
