/- 1 texts in one. -/
import Derived.Test.YtjgcjeaplckbbaaGreatG04
import Derived.Test.YtjgcjeaplckbbaaGreatG05
import Derived.WalkKit
import Derived.Outline
import Derived.Deep.RegionHeld3
import Derived.Deep.DeepCutAuto

/- The ops of a write: the model's l3Ops and OpsOf. -/
namespace Go.Proofs.YtjgcjeaplckbbaaGreat
open Go.RowKit
set_option linter.unusedVariables false
set_option linter.unusedSimpArgs false

theorem FtlOk.logs {bs : List Bk} {L : List Int} {seq o : Int} (h : FtlOk bs L seq o) {mn : Nat} (hL : L.length = mn) : ∀ (b k : Nat) (x : Bk) (p : Pg), bs[b]? = some x → x.pages[k]? = some p → p.used = true → ∃ lg : Nat, p.log = (lg : Int) ∧ lg < mn := by
  intro b k x p hx hp hu
  have hB := h.chip.block x (List.mem_of_getElem? hx)
  have hk : k < 4 := by have := (List.getElem?_eq_some_iff.1 hp).1; have := hB.four; omega
  have hm : (((b : Int) * 4 + (k : Int)), p) ∈ usedOf bs := by
    have hb := (List.getElem?_eq_some_iff.1 hx).1
    unfold usedOf usedAll usedB
    simp only [List.mem_flatMap, List.mem_range]
    refine ⟨b, hb, ?_⟩
    simp only [List.mem_map, List.mem_filter, List.mem_range]
    refine ⟨k, ⟨hk, ?_⟩, ?_⟩
    · rw [mOf_page hx hp]; exact hu
    · rw [mOf_page hx hp]
  have h1 := h.chip.usedRight hm
  have h2 := h.fits _ hm
  have h3 := h.len
  unfold roomOf at h2
  simp only at h1 h2
  exact ⟨p.log.toNat, by omega, by omega⟩

theorem writeOps_half {bs : List Bk} {L : List Int} {seq o log : Int} {data : ByteArray} (h : fullAt bs o = false) : writeOps bs L seq o log data = [⟨1, o, ⟨true, log, seq, data⟩⟩] := by unfold writeOps; rw [h]; rfl
theorem writeOps_next {bs : List Bk} {L : List Int} {seq o log : Int} {data : ByteArray} (h : fullAt bs o = true) (h2 : ¬ freshOf bs (freshOf bs (-1)) < 0) : writeOps bs L seq o log data = [⟨1, freshOf bs (-1), ⟨true, log, seq, data⟩⟩] := by unfold writeOps; rw [if_pos h, if_neg h2]
theorem writeOps_move {bs : List Bk} {L : List Int} {seq o log : Int} {data : ByteArray} (h : fullAt bs o = true) (h2 : freshOf bs (freshOf bs (-1)) < 0) : writeOps bs L seq o log data = moveOps bs L (vicOf bs L (freshOf bs (-1))) (freshOf bs (-1)) seq ++ [⟨1, freshOf bs (-1), ⟨true, log, seq + ((movedTo bs L (vicOf bs L (freshOf bs (-1))) (freshOf bs (-1)) seq 4).length : Int), data⟩⟩] := by unfold writeOps; rw [if_pos h, if_pos h2]

set_option maxRecDepth 100000 in
set_option maxHeartbeats 4000000 in
theorem l3Ops_any (a : Option Addr) (c : Nat) (bs : List Bk) (n : Nat) (hl : bs.length = n) (ma : Option Addr) (mc : Nat) (L : List Int) (mn : Nat) (hL : L.length = mn) (seq o lg : Int) (data : ByteArray) (hok : FtlOk bs L seq o) (w : World) (h : BlocksAt w a bs) (hI : IntsAt w ma L) :
    Calls Tryz.prog 25 #[.agg #[.slice a n c, .slice ma mn mc, .int .i64 seq, .int .i64 o], .int .i64 lg, .string data] w fun e w' => ∃ r, e = .returned r ∧ OwnsOps w' (w.heap.size + 1) r (writeOps bs L seq o lg data) ∧ Below w.heap.size w w' := by
  have hc := hok.chip.count
  have hsq := hok.seq
  have htp := hok.chip.top
  have hop := hok.opn
  have hm36 : mn ≤ 36 := by have := hok.len36; omega
  obtain ⟨i0, hi, hz0, hz1, hz2⟩ := info_parts infoCOp
  obtain ⟨ob, hob⟩ := Int.eq_ofNat_of_zero_le hop.1
  subst hob
  obtain ⟨x, hx⟩ := getElem?_ex (l := bs) (k := ob) (by omega)
  have hbl := hok.chip.block x (List.mem_of_getElem? hx)
  have h4 := hbl.four
  have hx' : bs[((ob : Int)).toNat]? = some x := by simpa using hx
  have HFA := hide (fullAt_of hx')
  obtain ⟨fi, fx, hfr, hfx, hff, hfl, _⟩ := hok.fresh
  have HVI := hide (fun hf => hok.victim hx' hf)
  have HPL : Hid (∀ y ∈ L, y = -1 ∨ (0 ≤ y ∧ y < 48)) := fun y hy => by have h1 := hok.places y hy; omega
  have HLG := hide (hok.logs hL)
  have HOK := hide hok.chip
  have HA := hide h
  have HI := hide hI
  have HX := hide hx
  have HL := hide hL
  have HLB := hide hl
  have hn12 : n ≤ 12 := by omega
  have hon : (ob : Int) < (n : Int) := by omega
  have hfn : (fi : Int) < (n : Int) := by omega
  have hs0 : 0 ≤ seq := by omega
  have hs9 : seq ≤ 1000000000 := hsq.2
  have HFR := hide hfr
  clear hok h hI hbl hx hx' hfx hff hfl hL hl hfr hsq htp hop hc
  go_enter Tryz.func25, Tryz.ntmps25
  obtain ⟨w0, hw0⟩ : ∃ w0, w0 = (w.alloc (.cells #[.slice a n c, .slice ma mn mc, .int .i64 seq, .int .i64 (ob : Int)] 29)).alloc (.cells #[] 93) := ⟨_, rfl⟩
  have hsz0 : w0.heap.size = w.heap.size + 1 + 1 := by rw [hw0]; simp
  have hsl0 : w.heap.size < w0.heap.size := by omega
  have hB0 : Below w.heap.size w w0 := by rw [hw0]; exact ((Below.refl _ w).alloc (Nat.le_refl _) _).alloc (by simp) _
  have hx0 : ∀ i, w0.cell? ⟨w.heap.size, i, none⟩ = (#[Value.slice a n c, .slice ma mn mc, .int .i64 seq, .int .i64 (ob : Int)])[i]? := fun i => by
    rw [hw0, cell_alloc_lt _ _ _ _ (by simp)]
    simp
  have c0 := hx0 0
  have c1 := hx0 1
  have c2 := hx0 2
  have c3 := hx0 3
  simp at c0 c1 c2 c3
  have HO0 : Hid (OwnsOps w0 (w.heap.size + 1) (.slice (some ⟨w.heap.size + 1, 0, none⟩) 0 0) []) := by
    have := OwnsOps.nil (w.alloc (.cells #[.slice a n c, .slice ma mn mc, .int .i64 seq, .int .i64 (ob : Int)] 29)) (w.heap.size + 1) (by simp)
    rw [hw0]
    refine hide ?_
    simpa using this
  obtain ⟨g, og, pa, pc, rfl, hcw, hcp, hpa⟩ := ((unhide HA).below hB0 (Nat.le_refl _)) ob x (unhide HX)
  have hl1 := l1Next_any x.wear pa pc x.pages w0 hpa (by omega)
  rw [h4] at hl1 hcp
  have HN1 := hide hl1
  have HS0 := hide hsz0
  clear hl1 hpa hx0 h4 hsz0
  go_upto_region 4 with fail
  rw [← hw0]
  clear hw0
  go_wp2_with fail
  refine (unhide HN1).mono ?_
  rintro e w1 ⟨r, rfl, hr, hB1⟩
  obtain ⟨_, _, k3⟩ := NextIs.kinds (b := x) hr
  have hs1 := hB1.size
  have hB01 := hB0.trans (hB1.mono hB0.size)
  have c0 := (hB1.cell (p := ⟨w.heap.size, 0, none⟩) hsl0).trans c0
  have c1 := (hB1.cell (p := ⟨w.heap.size, 1, none⟩) hsl0).trans c1
  have HO1 := hide ((unhide HO0).kept hB1)
  clear hr hB1 HN1 HO0 hcw hcp c2 c3
  cases hfu : fullB x with
  | false =>
    rw [hfu] at k3 HFA
    have hr0 : 0 ≤ r := by simpa using k3
    have hRw : w1.ownsRow (w.heap.size + 1) 93 6 (.slice (some ⟨w.heap.size + 1, 0, none⟩) 0 0) 0 [] := unhide HO1
    have hs1' : w.heap.size + 1 + 1 ≤ w1.heap.size := by have := unhide HS0; omega
    clear k3 c0 c1
    go_wp2_with (refine wpList_append_lies _ rfl (.tmp 49) (.tmp 56) 32 rfl (w.heap.size + 1) 93 i0 _ 6 56 Tryz.underlying32 hi hz0 hz1 hz2 rfl (by decide) (.slice (some ⟨w.heap.size + 1, 0, none⟩) 0 0) 0 [] (by simp [Act.eval]) (by exact hRw.alloc _) ⟨w1.heap.size, 0, none⟩ 1 1 [.int .i64 1, .int .i64 (ob : Int), .bool true, .int .i64 lg, .int .i64 seq, .string data] (by simp [Act.eval]) rfl (World.news_of_block (cs := #[.int .i64 1, .int .i64 (ob : Int), .bool true, .int .i64 lg, .int .i64 seq, .string data]) (t := 93) (fr := (0, 0)) (by exact Go.Deep.blk_alloc_new _ _)) (by simp [Value.oneCell']) (by omega) (by unfold maxLen; omega) (by omega) (by simp; omega) (w1.heap.size + 1) (by simp) ?_; intro g1 cap wE hown hgrow hat hlt1)
    go_ret
    refine ⟨_, rfl, ?_, ?_⟩
    · rw [writeOps_half (unhide HFA)]
      unfold OwnsOps
      simp [opCells] at hown ⊢
      exact hown
    · have hBE : Below (w.heap.size + 1) w1 wE := Below.grown ((Below.refl _ w1).alloc (by omega) _) hgrow (by simp; omega) (fun j e => (hRw.lt j e).1)
      exact hB01.trans (hBE.mono (by omega))
  | true =>
    rw [hfu] at k3 HFA
    have hr0 : r < 0 := by simpa using k3
    have hs1' : w.heap.size + 1 + 1 ≤ w1.heap.size := by have := unhide HS0; omega
    clear k3
    go_wp2_with fail
    refine (l3Fresh_any _ c bs n (unhide HLB) (unhide HOK) (-1) _ ((unhide HA).below hB01 (Nat.le_refl _))).mono ?_
    rintro e w2 ⟨rfl, hB2⟩
    have hs2 := hB2.size
    have hB02 := hB01.trans (hB2.mono hB01.size)
    have d0 := (hB2.cell (p := ⟨w.heap.size, 0, none⟩) (by show w.heap.size < _; omega)).trans c0
    have d1 := (hB2.cell (p := ⟨w.heap.size, 1, none⟩) (by show w.heap.size < _; omega)).trans c1
    have HO2 := hide ((unhide HO1).kept hB2)
    rw [unhide HFR]
    clear hB2 HO1 c0 c1
    go_wp2_with fail
    refine (l3Fresh_any _ c bs n (unhide HLB) (unhide HOK) (fi : Int) _ ((unhide HA).below hB02 (Nat.le_refl _))).mono ?_
    rintro e w3 ⟨rfl, hB3⟩
    have hs3 := hB3.size
    have hB03 := hB02.trans (hB3.mono hB02.size)
    have c0 := (hB3.cell (p := ⟨w.heap.size, 0, none⟩) (by show w.heap.size < _; omega)).trans d0
    have c1 := (hB3.cell (p := ⟨w.heap.size, 1, none⟩) (by show w.heap.size < _; omega)).trans d1
    have HO3 := hide ((unhide HO2).kept hB3)
    obtain ⟨f2, hf2⟩ : ∃ f2, f2 = freshOf bs (fi : Int) := ⟨_, rfl⟩
    rw [← hf2]
    have HF2 := hide hf2
    clear hB3 HO2 d0 d1 hf2
    by_cases hal : f2 < 0
    · obtain ⟨hv0, hvn⟩ := unhide HVI hfu
      rw [unhide HFR] at hv0 hvn
      obtain ⟨v, hv⟩ := Int.eq_ofNat_of_zero_le hv0
      have HV := hide hv
      have hvn' : v < n := by have := unhide HLB; omega
      have HA3 := hide ((unhide HA).below hB03 (Nat.le_refl _))
      have HI3 := hide ((unhide HI).below hB03 (Nat.le_refl _))
      have HB03 := hide hB03
      have hls3 : w.heap.size < w3.heap.size := by omega
      clear hv0 hvn hB03 hv HO3
      go_wp2_with fail
      go_region_held3 (fun W => ∀ b o, b < w3.heap.size → W.cell? ⟨b, o, none⟩ = w3.cell? ⟨b, o, none⟩)
        (first
          | (intro b o hb; rfl)
          | (intro b o hb; exact (unhide HB35).cell (p := ⟨b, o, none⟩) hb)
          | (intro b o hb; exact (unhide HB34).cell (p := ⟨b, o, none⟩) hb))
        (first
          | (go_at_call 58
             refine (l2Victim_any _ c bs n (unhide HLB) (unhide HOK) ma mc L mn (unhide HL) (fi : Int) _ ((unhide HA3).below (Below.refl w3.heap.size w3).drew (Nat.le_refl _)) ((unhide HI3).below (Below.refl w3.heap.size w3).drew (Nat.le_refl _)) (by omega) (unhide HPL)).mono ?_
             rintro e w4 ⟨rfl, hB4⟩
             have HB34 := hide ((Below.refl w3.heap.size w3).drew.trans hB4)
             have hs4 : w3.heap.size ≤ w4.heap.size := hB4.size
             rw [unhide HV]
             clear hB4)
          | (go_at_call 57
             refine (l3Move_any _ c bs n (unhide HLB) ma mc L mn (unhide HL) (unhide HOK) (unhide HLG) hm36 v hvn' (fi : Int) seq hs0 hs9 _ ((unhide HA3).below (unhide HB34) (Nat.le_refl _)) ((unhide HI3).below (unhide HB34) (Nat.le_refl _))).mono ?_
             rintro e w5 ⟨q, rfl, hq, hB5⟩
             have HB35 := hide ((unhide HB34).trans (hB5.mono (unhide HB34).size))
             have hs5 := hB5.size
             have HQ := hide hq
             clear hB5 hq))
      have hs35 := (unhide HB35).size
      have hB05 := (unhide HB03).trans ((unhide HB35).mono (unhide HB03).size)
      have HQ' := hide ((unhide HQ).lower (show w.heap.size + 1 ≤ w4.heap.size + 1 by omega))
      obtain ⟨qa, qc, rfl, _, _⟩ := (unhide HQ).form
      have hml := moveOps_length bs L (v : Int) (fi : Int) seq
      have hm4 := movedTo_length bs L (v : Int) (fi : Int) seq 4
      obtain ⟨M, hM⟩ : ∃ M, M = (moveOps bs L (v : Int) (fi : Int) seq).length := ⟨_, rfl⟩
      obtain ⟨X, hX⟩ : ∃ X, X = opCells (moveOps bs L (v : Int) (fi : Int) seq) := ⟨_, rfl⟩
      obtain ⟨N4, hN4⟩ : ∃ N4, N4 = (movedTo bs L (v : Int) (fi : Int) seq 4).length := ⟨_, rfl⟩
      rw [← hM] at hml ⊢
      rw [← hN4] at hml hm4
      have hRw : w5.ownsRow (w.heap.size + 1) 93 6 (.slice qa M qc) M X := by rw [hX, hM]; exact unhide HQ'
      have HX2 := hide (And.intro hX (And.intro hM hN4))
      have hM5 : M ≤ 5 := by omega
      have hs5' : w.heap.size + 1 + 1 ≤ w5.heap.size := by omega
      have HML := hide hml
      clear hX hM hN4 HQ HQ' HB34 HB35 HB03 c0 c1 hml
      go_wp2_with (refine wpList_append_lies _ rfl (.tmp 49) (.tmp 56) 32 rfl (w.heap.size + 1) 93 i0 _ 6 56 Tryz.underlying32 hi hz0 hz1 hz2 rfl (by decide) (.slice qa M qc) M X (by simp [Act.eval]) (by exact hRw.alloc _) ⟨w5.heap.size, 0, none⟩ 1 1 [.int .i64 1, .int .i64 (fi : Int), .bool true, .int .i64 lg, .int .i64 (seq + (M : Int) - 1), .string data] (by simp [Act.eval]) rfl (World.news_of_block (cs := #[.int .i64 1, .int .i64 (fi : Int), .bool true, .int .i64 lg, .int .i64 (seq + (M : Int) - 1), .string data]) (t := 93) (fr := (0, 0)) (by exact Go.Deep.blk_alloc_new _ _)) (by simp [Value.oneCell']) (by omega) (by unfold maxLen; omega) (by omega) (by simp; omega) (w5.heap.size + 1) (by simp) ?_; intro g1 cap wE hown hgrow hat hlt1)
      go_ret
      refine ⟨_, rfl, ?_, ?_⟩
      · obtain ⟨e1, e2, e3⟩ := unhide HX2
        rw [writeOps_move (unhide HFA) (by rw [unhide HFR, ← unhide HF2]; omega), unhide HFR, unhide HV]
        unfold OwnsOps
        rw [List.length_append, opCells_snoc, ← e1, ← e2, ← e3]
        have e9 : seq + (M : Int) - 1 = seq + (N4 : Int) := by have := unhide HML; omega
        rw [e9] at hown
        simpa using hown
      · have hBE : Below (w.heap.size + 1) w5 wE := Below.grown ((Below.refl _ w5).alloc (by omega) _) hgrow (by simp; omega) (fun j e => (hRw.lt j e).1)
        exact hB05.trans (hBE.mono (by omega))
    · have hRw : w3.ownsRow (w.heap.size + 1) 93 6 (.slice (some ⟨w.heap.size + 1, 0, none⟩) 0 0) 0 [] := unhide HO3
      clear c0 c1
      go_wp2_with (refine wpList_append_lies _ rfl (.tmp 49) (.tmp 56) 32 rfl (w.heap.size + 1) 93 i0 _ 6 56 Tryz.underlying32 hi hz0 hz1 hz2 rfl (by decide) (.slice (some ⟨w.heap.size + 1, 0, none⟩) 0 0) 0 [] (by simp [Act.eval]) (by exact hRw.alloc _) ⟨w3.heap.size, 0, none⟩ 1 1 [.int .i64 1, .int .i64 (fi : Int), .bool true, .int .i64 lg, .int .i64 seq, .string data] (by simp [Act.eval]) rfl (World.news_of_block (cs := #[.int .i64 1, .int .i64 (fi : Int), .bool true, .int .i64 lg, .int .i64 seq, .string data]) (t := 93) (fr := (0, 0)) (by exact Go.Deep.blk_alloc_new _ _)) (by simp [Value.oneCell']) (by omega) (by unfold maxLen; omega) (by omega) (by simp; omega) (w3.heap.size + 1) (by simp) ?_; intro g1 cap wE hown hgrow hat hlt1)
      go_ret
      refine ⟨_, rfl, ?_, ?_⟩
      · rw [writeOps_next (unhide HFA) (by rw [unhide HFR, ← unhide HF2]; omega), unhide HFR]
        unfold OwnsOps
        simp [opCells] at hown ⊢
        exact hown
      · have hBE : Below (w.heap.size + 1) w3 wE := Below.grown ((Below.refl _ w3).alloc (by omega) _) hgrow (by simp; omega) (fun j e => (hRw.lt j e).1)
        exact hB03.trans (hBE.mono (by omega))

set_option maxRecDepth 100000 in
set_option maxHeartbeats 1000000 in
theorem specOpsOf_any (a : Option Addr) (c : Nat) (bs : List Bk) (n : Nat) (hl : bs.length = n) (ma : Option Addr) (mc : Nat) (L : List Int) (mn : Nat) (hL : L.length = mn) (seq o lg : Int) (data : ByteArray) (w : World) (h : BlocksAt w a bs) (hn : Lens 1048576 bs) (hI : IntsAt w ma L) (hmn : mn ≤ 1048576) (hd : data.size ≤ 1048576) :
    Calls Tryz.prog 7 #[.agg #[.slice a n c, .slice ma mn mc, .int .i64 seq, .int .i64 o], .int .i64 lg, .string data] w fun e w' => ∃ v xs r, e = .returned (.tuple #[v, .bool r]) ∧ OpsOfIs bs L seq o lg data xs r ∧ OwnsOps w' w.heap.size v xs ∧ Below w.heap.size w w' := by
  have hb0 : ∀ o, Below w.heap.size w (w.alloc o) := fun o => (Below.refl _ w).alloc (Nat.le_refl _) _
  go_enter Tryz.func7, Tryz.ntmps7
  go_wp2_with fail
  refine (specFtlOk_any a c bs n hl ma mc L mn hL seq o _ (h.below (hb0 _) (Nat.le_refl _)) hn (hI.below (hb0 _) (Nat.le_refl _)) hmn).mono ?_
  rintro e w1 ⟨⟨r, rfl, hr⟩, hB1⟩
  have hs1 := hB1.size
  simp at hs1
  have hx : ∀ i, w1.cell? ⟨w.heap.size, i, none⟩ = (#[Value.slice a n c, .slice ma mn mc, .int .i64 seq, .int .i64 o])[i]? := fun i => by
    rw [hB1.cell (p := ⟨w.heap.size, i, none⟩) (by simp)]
    simp
  have c0 := hx 0
  have c1 := hx 1
  have c2 := hx 2
  have c3 := hx 3
  simp at c0 c1 c2 c3
  have hW1 : Below w.heap.size w w1 := (hb0 _).trans (hB1.mono (by simp))
  have HR := hide hr
  have HA := hide h
  have HI := hide hI
  have HL := hide hl
  have HLL := hide hL
  clear hr hB1 hb0 h hI hn hl hL hx
  cases r with
  | false =>
    go_wp2
    exact bodyPost_ret (v := .tuple #[.slice none 0 0, .bool false]) (by simp [results, Tryz.results7, go_sem]) rfl ⟨_, [], false, rfl, .inr ⟨rfl, rfl, fun hc => by have := (unhide HR).2 hc.1; cases this⟩, World.ownsRow_nil _ _ _ _, hW1⟩
  | true =>
    have hok := (unhide HR).1 (by trivial)
    have hn12 : n ≤ 12 := by have := hok.chip.count; have := unhide HL; omega
    have hroom : (mn : Int) = (roomOf bs : Int) := by have := hok.len; have := unhide HLL; unfold roomOf; omega
    have HRM := hide hroom
    have HOK := hide hok
    clear hok hroom
    go_wp2_with fail
    refine (l3Form_any _ ma mc mn seq o lg data _ hmn hd).mono ?_
    rintro e w2 ⟨⟨r2, rfl, hr2⟩, hB2⟩
    have hs2 := hB2.size
    have hW2 := hW1.trans (hB2.mono hW1.size)
    have d0 := (hB2.cell (p := ⟨w.heap.size, 0, none⟩) (by show w.heap.size < _; omega)).trans c0
    have d1 := (hB2.cell (p := ⟨w.heap.size, 1, none⟩) (by show w.heap.size < _; omega)).trans c1
    have d2 := (hB2.cell (p := ⟨w.heap.size, 2, none⟩) (by show w.heap.size < _; omega)).trans c2
    have d3 := (hB2.cell (p := ⟨w.heap.size, 3, none⟩) (by show w.heap.size < _; omega)).trans c3
    have HR2 := hide hr2
    clear hr2 hB2 hW1 c0 c1 c2 c3
    cases r2 with
    | false =>
      go_wp2
      exact bodyPost_ret (v := .tuple #[.slice none 0 0, .bool false]) (by simp [results, Tryz.results7, go_sem]) rfl ⟨_, [], false, rfl, .inr ⟨rfl, rfl, fun hc => by have := (unhide HR2).2 (by have := hc.2.1; unfold formOk at this; rw [← unhide HRM] at this; exact this); cases this⟩, World.ownsRow_nil _ _ _ _, hW2⟩
    | true =>
      go_wp2_with fail
      refine (l3Room_any a c bs n (unhide HL) hn12 ma mc mn seq o _ ((unhide HA).below hW2 (Nat.le_refl _))).mono ?_
      rintro e w3 ⟨⟨r3, rfl, hr3⟩, hB3⟩
      have hs3 := hB3.size
      have hW3 := hW2.trans (hB3.mono hW2.size)
      have c0 := (hB3.cell (p := ⟨w.heap.size, 0, none⟩) (by show w.heap.size < _; omega)).trans d0
      have c1 := (hB3.cell (p := ⟨w.heap.size, 1, none⟩) (by show w.heap.size < _; omega)).trans d1
      have c2 := (hB3.cell (p := ⟨w.heap.size, 2, none⟩) (by show w.heap.size < _; omega)).trans d2
      have c3 := (hB3.cell (p := ⟨w.heap.size, 3, none⟩) (by show w.heap.size < _; omega)).trans d3
      have HR3 := hide hr3
      clear hr3 hB3 hW2 d0 d1 d2 d3
      cases r3 with
      | false =>
        go_wp2
        exact bodyPost_ret (v := .tuple #[.slice none 0 0, .bool false]) (by simp [results, Tryz.results7, go_sem]) rfl ⟨_, [], false, rfl, .inr ⟨rfl, rfl, fun hc => by have := (unhide HR3).2 hc.2.2; cases this⟩, World.ownsRow_nil _ _ _ _, hW3⟩
      | true =>
        go_wp2_with fail
        refine (l3Ops_any a c bs n (unhide HL) ma mc L mn (unhide HLL) seq o lg data (unhide HOK) _ ((unhide HA).below hW3 (Nat.le_refl _)) ((unhide HI).below hW3 (Nat.le_refl _))).mono ?_
        rintro e w4 ⟨v, rfl, hv, hB4⟩
        have hW4 := hW3.trans (hB4.mono hW3.size)
        have HV := hide (hv.lower (show w.heap.size ≤ w3.heap.size + 1 by omega))
        clear hv hB4 c0 c1 c2 c3
        go_wp2
        exact bodyPost_ret (v := .tuple #[v, .bool true]) (by simp [results, Tryz.results7, go_sem]) rfl ⟨_, writeOps bs L seq o lg data, true, rfl, .inl ⟨rfl, ⟨unhide HOK, by have := (unhide HR2).1 (by trivial); rw [unhide HRM] at this; exact this, (unhide HR3).1 (by trivial)⟩, rfl⟩, unhide HV, hW4⟩
end Go.Proofs.YtjgcjeaplckbbaaGreat
