/- 3 texts in one. -/
import Derived.Test.YtalgkmellbamgaaG35
import Derived.Test.YtalgkmellbamgaaG34
import Derived.Test.YtalgkmellbamgaaG30
import Derived.Test.YtalgkmellbamgaaG10
import Derived.WalkKit
import Derived.Outline
import Derived.BigQuiet
import Derived.Deep.DeepCutAuto
import Derived.Test.YtalgkmellbamgaaG14
import Derived.Test.YtalgkmellbamgaaG20
import Derived.Test.YtalgkmellbamgaaG06

/- OpsOf of the program, with the capacity of its list. -/
namespace Go.Proofs.Ytalgkmellbamgaa
open Go.RowKit
set_option linter.unusedVariables false
set_option linter.unusedSimpArgs false

set_option maxRecDepth 100000 in
set_option maxHeartbeats 2000000 in
theorem implOpsOf_cap (a : Option Addr) (c : Nat) (bs : List Bk) (n : Nat) (hl : bs.length = n) (ma : Option Addr) (mc : Nat) (L : List Int) (mn : Nat) (hL : L.length = mn) (seq o lg : Int) (data : ByteArray) (w : World) (h : BlocksAt w a bs) (hn : Lens 9223372036854775807 bs) (hI : IntsAt w ma L) (hmn : mn ≤ 9223372036854775807) (hd : data.size ≤ 1048576) :
    Calls Try.prog 33 #[.agg #[.slice a n c, .slice ma mn mc, .int .i64 seq, .int .i64 o], .int .i64 lg, .string data] w fun e w' => ∃ a1 c1 xs r, e = .returned (.tuple #[.slice a1 xs.length c1, .bool r]) ∧ OpsOfIs bs L seq o lg data xs r ∧ OpsMine w' w.heap.size w'.heap.size a1 c1 xs ∧ xs.length ≤ c1 ∧ Below w.heap.size w w' := by
  have hb0 : ∀ o, Below w.heap.size w (w.alloc o) := fun o => (Below.refl _ w).alloc (Nat.le_refl _) _
  go_enter Try.func33, Try.ntmps33
  go_wp2_with fail
  refine (rightCells_any a c bs n hl ma mc L mn hL seq o _ (h.below (hb0 _) (Nat.le_refl _)) hn (hI.below (hb0 _) (Nat.le_refl _)) hmn).mono ?_
  rintro e w1 ⟨⟨m, r, rfl, hr, hm⟩, hB1⟩
  have hW1 : Below w.heap.size w w1 := (hb0 _).trans (hB1.mono (by simp))
  have hs1 := hB1.size
  simp at hs1
  have hx : ∀ i, w1.cell? ⟨w.heap.size, i, none⟩ = (#[Value.slice a n c, .slice ma mn mc, .int .i64 seq, .int .i64 o])[i]? := fun i => by
    rw [hB1.cell (p := ⟨w.heap.size, i, none⟩) (by simp)]
    simp
  have hsc := store_cc m w1
  have hAs := ccA_size m
  have HSZ := hide (sizeCC m)
  have HR := hide hr
  have HM := hide hm
  have HI := hide hI
  have HL := hide hl
  have HLL := hide hL
  have HAP := hide (fun b i hb hi => ccA_pages m (b := b) (i := i) hb hi)
  have HCI : Hid (∀ hc : m.count = bs.length, ∀ hb : ccBs m bs.length = bs, n ≤ 12 → CellsIs (ccA m) m bs n) := fun hc hb h12 => CellsIs.of hl h12 hc hb
  generalize ccA m = A at hsc hAs HSZ HAP HCI ⊢
  clear hr hm h hn hB1 hb0 hI hl hL
  cases r with
  | false =>
    clear hx
    go_wp2
    exact bodyPost_ret (v := .tuple #[.slice none 0 0, .bool false]) (by simp [results, Try.results33, go_sem]) rfl ⟨none, 0, [], false, rfl, .inr ⟨rfl, rfl, fun hc => by have := (unhide HR).2 hc.1; cases this⟩, .inl ⟨rfl, rfl⟩, Nat.zero_le _, hW1.alloc hW1.size _⟩
  | true =>
    have hok := (unhide HR).1 (by trivial)
    have hc12 : 4 ≤ n ∧ n ≤ 12 := by have := hok.chip.count; have := unhide HL; omega
    obtain ⟨hct, hbss⟩ := unhide HM (by trivial)
    have HC := hide (unhide HCI hct hbss hc12.2)
    have HOK := hide hok
    obtain ⟨w2, hw2⟩ : ∃ w2, w2 = w1.alloc (.cells A 97) := ⟨_, rfl⟩
    have hs2 : w1.heap.size < w2.heap.size := by rw [hw2]; simp
    have hB2 : Below w1.heap.size w1 w2 := by rw [hw2]; exact (Below.refl _ w1).alloc (Nat.le_refl _) _
    have HR2 : Hid (w2.heap[w1.heap.size]? = some (.cells A 97 (0, 0))) := by rw [hw2]; exact World.alloc_heap_new _ _
    have hW2 := hW1.trans (hB2.mono hW1.size)
    have hx2 : ∀ i, w2.cell? ⟨w.heap.size, i, none⟩ = (#[Value.slice a n c, .slice ma mn mc, .int .i64 seq, .int .i64 o])[i]? := fun i => (hB2.cell (p := ⟨w.heap.size, i, none⟩) (by show w.heap.size < _; omega)).trans (hx i)
    have c0 := hx2 0
    have c1 := hx2 1
    have c2 := hx2 2
    have c3 := hx2 3
    simp at c0 c1 c2 c3
    rw [← hw2] at hsc
    clear hok hct hbss HM hx hx2 hW1 hw2 HCI hB2
    go_wp2_with fail
    refine wp_load_row 97 _ rfl w1.heap.size rfl 97 A (0, 0) _ (unhide HR2) Try.underlying97 rfl (unhide HSZ) ?_
    go_wp2_with fail
    refine (writeRefusal_any A m bs n (unhide HC) hc12.1 seq lg data hd _).mono ?_
    rintro e w3 ⟨code, rfl, hcode, hB3⟩
    have hs3 := hB3.size
    have hW3 := hW2.trans (hB3.mono hW2.size)
    have d0 := (hB3.cell (p := ⟨w.heap.size, 0, none⟩) (by show w.heap.size < _; omega)).trans c0
    have d1 := (hB3.cell (p := ⟨w.heap.size, 1, none⟩) (by show w.heap.size < _; omega)).trans c1
    have d2 := (hB3.cell (p := ⟨w.heap.size, 2, none⟩) (by show w.heap.size < _; omega)).trans c2
    have d3 := (hB3.cell (p := ⟨w.heap.size, 3, none⟩) (by show w.heap.size < _; omega)).trans c3
    have HR3 := hide ((hB3.block w1.heap.size hs2).trans (unhide HR2))
    have HCODE := hide hcode
    clear hcode hB3 HR2 c0 c1 c2 c3 hsc hW2 hAs
    by_cases h0 : code = 0
    · subst h0
      have HFR : Hid (formOk bs lg data ∧ roomy bs seq) := by
        rcases unhide HCODE with ⟨h, _⟩ | ⟨h, _⟩ | ⟨_, h1, h2⟩
        · omega
        · omega
        · exact ⟨h1, h2⟩
      clear HCODE
      go_wp2_with (refine wpList_load_row rfl 97 _ rfl w1.heap.size rfl 97 A (0, 0) _ (unhide HR3) Try.underlying97 rfl (unhide HSZ) ?_)
      refine (writeOps_any A m bs n (unhide HC) (unhide HAP) (.slice a n c) ma mc L mn (unhide HLL) seq o lg data (unhide HOK) _ ((unhide HI).below hW3 (Nat.le_refl _))).mono ?_
      rintro e w4 ⟨q, rfl, hq, hB4⟩
      have hs4 := hB4.size
      have hW4 := hW3.trans (hB4.mono hW3.size)
      obtain ⟨qa, qc, rfl, hco⟩ := hq.form (goodOps_write _ _ _ _ _ _)
      have hlen := writeOps_length bs L seq o lg data
      have HCO := hide hco
      clear hB4 hq d0 d1 d2 d3 hco HR3
      go_wp2_with fail
      refine (toldOps_any qa qc (writeOps bs L seq o lg data) _ rfl _ (unhide HCO) (by omega)).mono ?_
      rintro e w5 ⟨rfl, hO5, hB5⟩
      have hW5 := hW4.trans (hB5.mono hW4.size)
      have HO5 := hide hO5
      have hlt5 : w4.heap.size < w5.heap.size := World.rowIs.lt hO5
      obtain ⟨M, hM⟩ : ∃ M, M = (writeOps bs L seq o lg data).length := ⟨_, rfl⟩
      rw [← hM]
      have HMM := hide hM
      clear hO5 hB5 HCO hM hlen
      go_wp2
      exact bodyPost_ret (v := .tuple #[.slice (some ⟨w4.heap.size, 0, none⟩) M M, .bool true]) (by simp [results, Try.results33, go_sem]) rfl ⟨_, M, writeOps bs L seq o lg data, true, by rw [unhide HMM], .inl ⟨rfl, ⟨unhide HOK, unhide HFR⟩, rfl⟩, .inr ⟨w4.heap.size, rfl, by omega, hlt5, unhide HO5⟩, by rw [unhide HMM]; exact Nat.le_refl _, hW5⟩
    · have hne : (code != 0) = true := by simpa using h0
      have HNO : Hid (¬ (formOk bs lg data ∧ roomy bs seq)) := by
        rcases unhide HCODE with ⟨_, h⟩ | ⟨_, _, h⟩ | ⟨h, _⟩
        · exact fun hc => h hc.1
        · exact fun hc => h hc.2
        · exact absurd h h0
      clear d0 d1 d2 d3
      go_wp2
      exact bodyPost_ret (v := .tuple #[.slice none 0 0, .bool false]) (by simp [results, Try.results33, go_sem]) rfl ⟨none, 0, [], false, rfl, .inr ⟨rfl, rfl, fun hc => unhide HNO hc.2⟩, .inl ⟨rfl, rfl⟩, Nat.zero_le _, hW3⟩
end Go.Proofs.Ytalgkmellbamgaa

/- Whether two chips are the same: the laws' own sameChip, over two that are. -/
namespace Go.Proofs.Ytalgkmellbamgaa
open Go.RowKit
set_option linter.unusedVariables false
set_option linter.unusedSimpArgs false

theorem below_drewN {B : Nat} {a w : World} (h : Below B a w) (n : Nat) : Below B a (w.drewN n) := ⟨h.os, h.tape, h.output, h.size, h.block⟩

set_option maxRecDepth 100000 in
set_option maxHeartbeats 2000000 in
theorem sameChip_same (a1 a2 : Option Addr) (c1 c2 : Nat) (bs : List Bk) (n : Nat) (hl : bs.length = n) (w : World) (h1 : BlocksAt w a1 bs) (h2 : BlocksAt w a2 bs) (hn : Lens 1048576 bs) :
    Calls Try.prog 15 #[.agg #[.slice a1 n c1], .agg #[.slice a2 n c2]] w fun e w' => e = .returned (.bool true) ∧ Below w.heap.size w w' := by
  have hn1 : n ≤ 1048576 := by have := hn.1; omega
  have HL := hide hl
  have HN := hide hn
  clear hl hn
  go_enter Try.func15, Try.ntmps15
  go_wp2_with fail
  obtain ⟨w0, hw0⟩ : ∃ w0, w0 = (w.alloc (.cells #[.slice a1 n c1] 26)).alloc (.cells #[.slice a2 n c2] 26) := ⟨_, rfl⟩
  have hW0 : Below w.heap.size w w0 := by rw [hw0]; exact ((Below.refl _ w).alloc (Nat.le_refl _) _).alloc (by simp) _
  have hs0 : w.heap.size + 1 < w0.heap.size := by rw [hw0]; simp
  have hx0 : w0.cell? ⟨w.heap.size, 0, none⟩ = some (.slice a1 n c1) := by
    rw [hw0, cell_alloc_lt _ _ _ _ (by simp)]
    simp
  have hy0 : w0.cell? ⟨w.heap.size + 1, 0, none⟩ = some (.slice a2 n c2) := by
    rw [hw0, cell_of_row _ _ 0 _ _ _ (heap_alloc2_new _ _ _)]
    rfl
  rw [← hw0]
  have H1 := hide (h1.below hW0 (Nat.le_refl _))
  have H2 := hide (h2.below hW0 (Nat.le_refl _))
  clear hw0 h1 h2
  go_wp2
  go_loopw [5] (fun i wr => ∃ k : Nat, k ≤ n ∧ i = .int .i64 k ∧ Below w0.heap.size w0 wr) (fun i _ => n - (intOf i).toNat)
  case atStart => exact ⟨0, Nat.zero_le _, rfl, Below.refl _ _⟩
  case round =>
    obtain ⟨k, hk, rfl, hB⟩ := hrel
    obtain ⟨w1, rfl⟩ : ∃ w1, w1 = wr := ⟨_, rfl⟩
    have hs1 := hB.size
    have hx1 := (hB.cell (p := ⟨w.heap.size, 0, none⟩) (by show w.heap.size < _; omega)).trans hx0
    have hy1 := (hB.cell (p := ⟨w.heap.size + 1, 0, none⟩) hs0).trans hy0
    by_cases hlt : k < n
    · obtain ⟨x, hx⟩ := getElem?_ex (l := bs) (k := k) (by have := unhide HL; omega)
      obtain ⟨g1, o1, pa, pc, rfl, d0, d1, hp1⟩ := ((unhide H1).below hB (Nat.le_refl _)) k x hx
      obtain ⟨g2, o2, pb, pd, rfl, e0, e1, hp2⟩ := ((unhide H2).below hB (Nat.le_refl _)) k x hx
      have hln : x.pages.length ≤ 1048576 := (unhide HN).at hx
      obtain ⟨m, hm⟩ : ∃ m, x.pages.length = m := ⟨_, rfl⟩
      rw [hm] at d1 e1 hln
      have HM := hide hm
      have HP1 := hide hp1
      have HP2 := hide hp2
      have hne1 : (x.wear != x.wear) = false := by simp
      have hne2 : ((m : Int) != (m : Int)) = false := by simp
      have hg1 : g1 < w1.heap.size := World.block_lt_of_cell? _ _ d0
      have hg2 : g2 < w1.heap.size := World.block_lt_of_cell? _ _ e0
      clear hp1 hp2 hx hm hx0 hy0
      go_wp2_with fail
      go_quiet (fail)
      go_wp2
      go_loopw [6] (fun i wr => ∃ j : Nat, j ≤ m ∧ i = .int .i64 j ∧ Below w1.heap.size w1 wr) (fun i _ => m - (intOf i).toNat)
      case atStart => exact ⟨0, Nat.zero_le _, rfl, below_drewN (Below.refl _ _) _⟩
      case round =>
        obtain ⟨j, hj, rfl, hBj⟩ := hrel
        have hsj := hBj.size
        have hxj := (hBj.cell (p := ⟨w.heap.size, 0, none⟩) (by show w.heap.size < _; omega)).trans hx1
        have hyj := (hBj.cell (p := ⟨w.heap.size + 1, 0, none⟩) (by show w.heap.size + 1 < _; omega)).trans hy1
        have d1j := (hBj.cell (p := ⟨g1, o1 + k * 2 + 1, none⟩) hg1).trans d1
        have e1j := (hBj.cell (p := ⟨g2, o2 + k * 2 + 1, none⟩) hg2).trans e1
        by_cases hlt2 : j < m
        · obtain ⟨p, hp⟩ := getElem?_ex (l := x.pages) (k := j) (by have := unhide HM; omega)
          obtain ⟨b1, q1, rfl, s0, s1, s2, s3⟩ := ((unhide HP1).below hBj (Nat.le_refl _)) j p hp
          obtain ⟨b2, q2, rfl, t0, t1, t2, t3⟩ := ((unhide HP2).below hBj (Nat.le_refl _)) j p hp
          clear hp d1 e1 hx1 hy1 d0 e0
          go_wp2_with fail
          go_quiet (fail)
          go_wp2
          go_roundw
          case rel => exact ⟨j + 1, by omega, by go_num, below_drewN hBj _⟩
          case measure => simp [intOf]; omega
        · have hBB := hB.trans (hBj.mono hB.size)
          clear d1 e1 hx1 hy1 d0 e0
          go_wp2
          go_roundw
          case rel => exact ⟨k + 1, by omega, by go_num, hBB⟩
          case measure => simp [intOf]; omega
    · have hW := hW0.trans (hB.mono hW0.size)
      go_wp2
      go_ret
      exact ⟨rfl, hW⟩

end Go.Proofs.Ytalgkmellbamgaa

/- Whether two lists of ops are the same: the laws' own sameOps, over two that are. -/
namespace Go.Proofs.Ytalgkmellbamgaa
open Go.RowKit
set_option linter.unusedVariables false
set_option linter.unusedSimpArgs false

set_option maxRecDepth 100000 in
set_option maxHeartbeats 2000000 in
theorem sameOps_same (a1 a2 : Option Addr) (c1 c2 : Nat) (xs : List Opn) (n : Nat) (hl : xs.length = n) (w : World) (h1 : OpsAt w a1 xs) (h2 : OpsAt w a2 xs) (hn : n ≤ 1048576) :
    Calls Try.prog 35 #[.slice a1 n c1, .slice a2 n c2] w fun e w' => e = .returned (.bool true) ∧ Below w.heap.size w w' := by
  have HL := hide hl
  clear hl
  go_enter Try.func35, Try.ntmps35
  have HE : ((n : Int) != (n : Int)) = false := by simp
  go_wp2
  go_loopw [5] (fun i wr => ∃ k : Nat, k ≤ n ∧ i = .int .i64 k ∧ Below w.heap.size w wr) (fun i _ => n - (intOf i).toNat)
  case atStart => exact ⟨0, Nat.zero_le _, rfl, Below.refl _ _⟩
  case round =>
    obtain ⟨k, hk, rfl, hB⟩ := hrel
    by_cases hlt : k < n
    · obtain ⟨x, hx⟩ := getElem?_ex (l := xs) (k := k) (by have := unhide HL; omega)
      obtain ⟨b1, o1, rfl, s0, s1, s2, s3, s4, s5⟩ := (h1.below hB (Nat.le_refl _)) k x hx
      obtain ⟨b2, o2, rfl, t0, t1, t2, t3, t4, t5⟩ := (h2.below hB (Nat.le_refl _)) k x hx
      clear hx h1 h2
      go_wp2_with fail
      go_quiet (fail)
      go_wp2
      go_roundw
      case rel => exact ⟨k + 1, by omega, by go_num, below_drewN hB _⟩
      case measure => simp [intOf]; omega
    · go_wp2
      go_ret
      exact ⟨rfl, hB⟩

end Go.Proofs.Ytalgkmellbamgaa
