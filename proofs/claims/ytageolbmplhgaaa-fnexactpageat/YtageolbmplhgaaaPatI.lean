/- What is read of a log: the program's dataAt and PageAt. -/
import Derived.Test.YtageolbmplhgaaaPatS
import Derived.Test.YtageolbmplhgaaaRightI
import Derived.Test.YtageolbmplhgaaaRep
import Derived.BigQuiet
namespace Go.Proofs.Ytageolbmplhgaaa
open Go.RowKit
set_option linter.unusedVariables false
set_option linter.unusedSimpArgs false

theorem repeat4 (w : World) : Calls Try.prog 112 #[.string ⟨#[0]⟩, .int .i64 4] w fun e w' => e = .returned (.string zeros4) ∧ Below w.heap.size w w' := by
  refine (Any.strings_Repeat rep_lays rep_extra ⟨#[0]⟩ 4 w (by omega) (by decide)).mono ?_
  rintro e w1 ⟨rfl, hB⟩
  exact ⟨by rfl, hB⟩

theorem blankData_any (w : World) : Calls Try.prog 103 #[] w fun e w' => e = .returned (.string zeros4) ∧ Below w.heap.size w w' := by
  go_enter Try.func103, Try.ntmps103
  go_wp2_with fail
  refine (repeat4 _).mono ?_
  rintro e w1 ⟨rfl, hB⟩
  go_wp2
  go_ret
  exact ⟨rfl, hB⟩

set_option maxRecDepth 100000 in
set_option maxHeartbeats 1000000 in
theorem dataAt_any (A : Array Value) (m : CC) (bs : List Bk) (hbs : ccBs m bs.length = bs) (hAp : ∀ b k j, b < 12 → k < 4 → j < 4 → A[1 + b * 17 + 1 + k * 4 + j]? = some (pgV (m.page b k) j)) (L : List Int) (seq o : Int) (hok : FtlOk bs L seq o) (x : Int) (hx : x ∈ L) (w : World) :
    Calls Try.prog 85 #[.agg A, .int .i64 x] w fun e w' => e = .returned (.string (dataOf bs x)) ∧ Below w.heap.size w w' := by
  have hb0 : ∀ o, Below w.heap.size w (w.alloc o) := fun o => (Below.refl _ w).alloc (Nat.le_refl _) _
  have hpl := hok.places x hx
  by_cases h0 : x < 0
  · obtain rfl : x = -1 := by omega
    have HD := hide (dataOf_none (bs := bs) h0)
    clear hok hx hpl hAp hbs
    go_enter Try.func85, Try.ntmps85
    go_wp2_with fail
    refine (blankData_any _).mono ?_
    rintro e w1 ⟨rfl, hB⟩
    go_wp2
    go_ret
    exact ⟨by rw [unhide HD]; rfl, (hb0 _).trans (hB.mono (by simp))⟩
  · have hc := hok.chip.count
    obtain ⟨q, t, y, p, hq, ht, hqb, ht4, hy, hp⟩ := hok.placed hx (by omega)
    have HD := hide (dataOf_at (bs := bs) (by omega) hq ht hy hp)
    have hcd := hAp q t 3 (by omega) ht4 (by omega)
    have hpg : m.page q t = p := by
      have e := ccBs_at m hqb
      rw [hbs, hy] at e
      cases e
      have e2 := ccPs_at m q ht4
      rw [hp] at e2
      cases e2
      rfl
    rw [hpg] at hcd
    have hcw : ∀ ty, (w.alloc (.cells A ty)).cell? ⟨w.heap.size, 1 + q * 17 + 1 + t * 4 + 3, none⟩ = some (.string p.data) := fun ty => (cell_of_row _ _ _ _ _ _ (Go.Deep.blk_alloc_new _ _)).trans hcd
    have hq12 : (q : Int) < 12 := by omega
    have ht4' : (t : Int) < 4 := by omega
    have hx48 : x < 48 := by omega
    have hx0 : 0 ≤ x := by omega
    have hne : (x == -1) = false := by simp; omega
    clear hok hx hpl hAp hbs hcd hpg hy hp h0 hc hqb
    go_enter Try.func85, Try.ntmps85
    go_wp2
    go_ret
    exact ⟨by rw [unhide HD]; rfl, hb0 _⟩

set_option maxRecDepth 100000 in
set_option maxHeartbeats 1000000 in
theorem implPageAt_any (a : Option Addr) (c : Nat) (bs : List Bk) (n : Nat) (hl : bs.length = n) (ma : Option Addr) (mc : Nat) (L : List Int) (mn : Nat) (hL : L.length = mn) (seq o lg : Int) (w : World) (h : BlocksAt w a bs) (hn : Lens 9223372036854775807 bs) (hI : IntsAt w ma L) (hmn : mn ≤ 9223372036854775807) :
    Calls Try.prog 51 #[.agg #[.slice a n c, .slice ma mn mc, .int .i64 seq, .int .i64 o], .int .i64 lg] w fun e w' => ∃ (d : ByteArray) (r : Bool), e = .returned (.tuple #[.string d, .bool r]) ∧ PageIs bs L seq o lg d r ∧ Below w.heap.size w w' := by
  have hb0 : ∀ o, Below w.heap.size w (w.alloc o) := fun o => (Below.refl _ w).alloc (Nat.le_refl _) _
  have hmix : Try.prog.follows .mixedOrders = true := by kernel_rfl
  go_enter Try.func51, Try.ntmps51
  go_wp2_with fail
  refine (rightCells_any a c bs n hl ma mc L mn hL seq o _ (h.below (hb0 _) (Nat.le_refl _)) hn (hI.below (hb0 _) (Nat.le_refl _)) hmn).mono ?_
  rintro e w1 ⟨⟨m, r, rfl, hr, hm⟩, hB1⟩
  have hW1 : Below w.heap.size w w1 := (hb0 _).trans (hB1.mono (by simp))
  have hs1 := hB1.size
  simp at hs1
  have hx1 : ∀ o', (w1.alloc o').cell? ⟨w.heap.size, 1, none⟩ = some (.slice ma mn mc) := fun o' => by
    rw [cell_alloc_lt _ _ _ _ (by omega), hB1.cell (p := ⟨w.heap.size, 1, none⟩) (by simp)]
    simp
  have hsc := store_cc m w1
  have hAs := ccA_size m
  have hA0 := ccA_count m
  have HSZ := hide (sizeCC m)
  have HAP := hide (fun b k j hb hk hj => ccA_page m (b := b) (k := k) (j := j) hb hk hj)
  have HR := hide hr
  have HM := hide hm
  have HI := hide (hI.below hW1 (Nat.le_refl _))
  have HL := hide hl
  have HLL := hide hL
  generalize ccA m = A at hsc hAs hA0 HSZ HAP
  have HA0 := hide hA0
  clear hr hm hA0 h hn hB1 hb0 hI hl hL
  cases r with
  | false =>
    go_wp2
    exact bodyPost_ret (v := .tuple #[.string ⟨#[]⟩, .bool false]) (by simp [results, Try.results51, go_sem]) rfl ⟨_, _, rfl, .inr ⟨(fun hc => by have := (unhide HR).2 hc.1; cases this), rfl, rfl⟩, hW1.alloc hW1.size _⟩
  | true =>
    have hok := (unhide HR).1 (by trivial)
    have hc12 : 4 ≤ n ∧ n ≤ 12 := by have := hok.chip.count; have := unhide HL; omega
    have hmn4 : (mn : Int) = 4 * ((n : Int) - 3) := by have := hok.len; have := unhide HLL; have := unhide HL; omega
    obtain ⟨hct, hbss⟩ := unhide HM (by trivial)
    have hA0 := unhide HA0
    rw [hct, unhide HL] at hA0
    have hc0 : (w1.alloc (.cells A 84)).cell? ⟨w1.heap.size, 0, none⟩ = some (.int .i64 (n : Int)) := (cell_of_row _ _ 0 _ _ _ (Go.Deep.blk_alloc_new _ _)).trans hA0
    have HS := hide hbss
    have HO := hide hok
    have HMN := hide hmn4
    obtain ⟨w2, hw2⟩ : ∃ w2, w2 = w1.alloc (.cells A 84) := ⟨_, rfl⟩
    have hx2 := hx1 (.cells A 84)
    rw [← hw2] at hc0 hsc hx2
    have hs2 : w1.heap.size < w2.heap.size := by rw [hw2]; simp
    have HLD : Hid (∀ j, j < 205 → w2.cell? ⟨w1.heap.size, 0 + j, none⟩ = A[j]?) := fun j hj => by rw [hw2, Nat.zero_add]; exact cell_of_row _ _ j _ _ _ (Go.Deep.blk_alloc_new _ _)
    have hW2 : Below w.heap.size w w2 := by rw [hw2]; exact hW1.alloc hW1.size _
    have HI2 : Hid (IntsAt w2 ma L) := by rw [hw2]; exact (unhide HI).below ((Below.refl _ w1).alloc (Nat.le_refl _) _) (Nat.le_refl _)
    clear hok hA0 HA0 HM hct hbss hw2 hx1 HI hW1 hmn4
    go_wp2_with fail
    refine (implRoomFor_any (n : Int) _).mono ?_
    rintro e w3 ⟨rfl, rfl⟩
    rw [roomI_in (by omega), ← unhide HMN]
    have hmn36 : mn ≤ 36 := by have := unhide HMN; omega
    go_wp2_with fail
    refine (within_any _ _ _ _).mono ?_
    rintro e w4 ⟨rfl, rfl⟩
    by_cases hin : 0 ≤ lg ∧ lg ≤ (mn : Int) - 1
    · obtain ⟨k, rfl⟩ := Int.eq_ofNat_of_zero_le hin.1
      obtain ⟨x, hx⟩ := getElem?_ex (l := L) (k := k) (by have := unhide HLL; omega)
      have hd : decide ((0 : Int) ≤ (k : Int) ∧ (k : Int) ≤ (mn : Int) - 1) = true := by simpa using hin
      rw [hd]
      have hkm : (k : Int) < (mn : Int) := by omega
      obtain ⟨b1, o1, rfl, hcx⟩ := (unhide HI2) k x hx
      have hb1 : b1 < w4.heap.size := World.block_lt_of_cell? _ _ hcx
      have HDA : Hid (∀ W, Calls Try.prog 85 #[.agg A, .int .i64 x] W fun e w' => e = .returned (.string (dataOf bs x)) ∧ Below W.heap.size W w') := fun W => dataAt_any A m bs (unhide HS) (unhide HAP) L seq o (unhide HO) x (List.mem_of_getElem? hx) W
      have HX := hide hx
      have HIN := hide hin
      obtain ⟨D, hD⟩ : ∃ D, D = dataOf bs x := ⟨_, rfl⟩
      rw [← hD] at HDA
      have HDD := hide hD
      clear hx hin hd hc0 hsc hD
      go_wp2_with fail
      refine wp_region_grown (Below w4.heap.size w4) hmix (by kernel_rfl) (below_drawn w4) ?_
      refine wpQuiet_val rfl (.agg A) (fun W hC => quietAt_load_mid 84 _ rfl w1.heap.size 0 rfl A 205 hAs (fun j hj => (hC.cell (p := ⟨w1.heap.size, 0 + j, none⟩) (by show w1.heap.size < _; omega)).trans (unhide HLD j hj)) _ Try.underlying84 rfl sizeCC') ?_
      simp only [Act.put, List.setIfInBounds_toArray, List.set_cons_zero, List.set_cons_succ]
      go_big_quiet_step (exact fun _ => rfl)
      refine wpQuiet_val rfl (.slice (some ⟨b1, o1, none⟩) mn mc) (fun W hC => ?_) ?_
      · have hcl := (hC.cell (p := ⟨w.heap.size, 1, none⟩) (by show w.heap.size < _; omega)).trans hx2
        go_simp
      simp only [Act.put, List.setIfInBounds_toArray, List.set_cons_zero, List.set_cons_succ]
      go_big_quiet_step (exact fun _ => rfl)
      go_big_quiet_step (exact fun _ => rfl)
      refine wpQuiet_val rfl (.int .i64 x) (fun W hC => ?_) ?_
      · have hcl := (hC.cell (p := ⟨b1, o1 + k, none⟩) hb1).trans hcx
        go_simp
      simp only [Act.put, List.setIfInBounds_toArray, List.set_cons_zero, List.set_cons_succ]
      refine wpQuiet_val rfl (.string D) (fun W hC => ?_) ?_
      · go_simp
        refine (unhide HDA W).mono ?_
        rintro e w' ⟨rfl, hB'⟩
        exact ⟨rfl, hC.trans (hB'.mono hC.size)⟩
      simp only [Act.put, List.setIfInBounds_toArray, List.set_cons_zero, List.set_cons_succ]
      go_big_quiet_step (exact fun _ => rfl)
      go_big_quiet_step (exact fun _ => rfl)
      refine wpQuiet_nil ?_
      intro w8 hC8
      have hW8 := hW2.trans (hC8.mono hW2.size)
      clear hC8 hx2 hcx HDA
      go_wp2
      exact bodyPost_ret (v := .tuple #[.string D, .bool true]) (by simp [results, Try.results51, go_sem]) rfl ⟨_, _, rfl, .inl ⟨⟨unhide HO, (unhide HIN).1, by rw [unhide HLL]; exact (unhide HIN).2⟩, rfl, x, by simpa using unhide HX, unhide HDD⟩, hW8⟩
    · have hd : decide ((0 : Int) ≤ lg ∧ lg ≤ (mn : Int) - 1) = false := by simpa using hin
      rw [hd]
      clear hc0 hsc hx2
      go_wp2
      exact bodyPost_ret (v := .tuple #[.string ⟨#[]⟩, .bool false]) (by simp [results, Try.results51, go_sem]) rfl ⟨_, _, rfl, .inr ⟨fun hc => hin (by rw [← unhide HLL]; exact hc.2), rfl, rfl⟩, hW2⟩
end Go.Proofs.Ytageolbmplhgaaa
