/- 1 texts in one. -/
import Derived.Test.YtjgcjeaplckbbaaGreatG21
import Derived.Test.YtjgcjeaplckbbaaGreatG24
import Derived.Test.YtjgcjeaplckbbaaGreatG06
import Derived.WalkKit
import Derived.Outline
import Derived.BigQuiet
import Derived.Deep.DeepCutAuto

/- The ops of a write: the program's writeOps and OpsOf. -/
namespace Go.Proofs.YtjgcjeaplckbbaaGreat
open Go.RowKit
set_option linter.unusedVariables false
set_option linter.unusedSimpArgs false

set_option maxRecDepth 100000 in
set_option maxHeartbeats 4000000 in
theorem writeOps_any (A : Array Value) (m : CC) (bs : List Bk) (n : Nat) (hC : CellsIs A m bs n) (hAp : ∀ b i, b < 12 → i < 16 → A[1 + b * 17 + 1 + i]? = (paA (m.page b))[i]?) (va : Value) (ma : Option Addr) (mc : Nat) (L : List Int) (mn : Nat) (hL : L.length = mn) (seq o lg : Int) (data : ByteArray) (hok : FtlOk bs L seq o) (w : World) (hI : IntsAt w ma L) :
    Calls Tryz.prog 21 #[.agg A, .agg #[va, .slice ma mn mc, .int .i64 seq, .int .i64 o], .int .i64 lg, .string data] w fun e w' => ∃ r, e = .returned r ∧ OwnsCo w' (w.heap.size + 1) r (writeOps bs L seq o lg data) ∧ Below w.heap.size w w' := by
  have hn := hC.most
  have hlen := hC.len
  have hc := hok.chip.count
  have hsq := hok.seq
  have htp := hok.chip.top
  have hop := hok.opn
  have hm36 : mn ≤ 36 := by have := hok.len36; omega
  obtain ⟨i0, hi, hz0, hz1, hz2⟩ := info_parts infoChipOp
  obtain ⟨ob, hob⟩ := Int.eq_ofNat_of_zero_le hop.1
  subst hob
  obtain ⟨x, hx⟩ := getElem?_ex (l := bs) (k := ob) (by omega)
  have hx' : bs[((ob : Int)).toNat]? = some x := by simpa using hx
  have HFA := hide (fullAt_of hx')
  obtain ⟨fi, fx, hfr, hfx, hff, hfl, hle⟩ := hok.fresh
  have hfa := fresh_alone (bs := bs) hok.settled.some
  rw [hfr] at hfa
  have HALONE := hide hfa
  have HNE := hide hok.settled.some
  have HVI := hide (fun hf => hok.victim hx' hf)
  have HPL : Hid (∀ y ∈ L, y = -1 ∨ (0 ≤ y ∧ y < 48)) := fun y hy => by have h1 := hok.places y hy; omega
  have HOK := hide hok
  have HC := hide hC
  have HAP := hide hAp
  have HI := hide hI
  have HL := hide hL
  have HLEN := hide hlen
  have HLE := hide hle
  have HFR := hide hfr
  have hoi : (ob : Int) < 12 := by omega
  have hob : ob < 12 := by omega
  have hs0 : 0 ≤ seq := by omega
  have hs9 : seq ≤ 1000000000 := hsq.2
  have HPU := hide (hC.pu hx)
  have HFN : Hid (fi < bs.length) := hfl
  clear hok hC hAp hI hx hx' hfx hff hfl hL hlen hle hfr hfa hsq htp hop hc
  go_enter Tryz.func21, Tryz.ntmps21
  obtain ⟨w0, hw0⟩ : ∃ w0, w0 = (w.alloc (.cells A 57)).alloc (.cells #[va, .slice ma mn mc, .int .i64 seq, .int .i64 (ob : Int)] 29) := ⟨_, rfl⟩
  have hsz0 : w0.heap.size = w.heap.size + 1 + 1 := by rw [hw0]; simp
  have hB0 : Below w.heap.size w w0 := by rw [hw0]; exact ((Below.refl _ w).alloc (Nat.le_refl _) _).alloc (by simp) _
  have HR0 : Hid (w0.heap[w.heap.size]? = some (.cells A 57 (0, 0))) := by rw [hw0]; exact (Below.heap_alloc _ _ _ (by simp)).trans (World.alloc_heap_new _ _)
  have hx0 : ∀ i, w0.cell? ⟨w.heap.size + 1, i, none⟩ = (#[va, .slice ma mn mc, .int .i64 seq, .int .i64 (ob : Int)])[i]? := fun i => by
    rw [hw0]
    have := cell_of_row ((w.alloc (.cells A 57)).alloc (.cells #[va, .slice ma mn mc, .int .i64 seq, .int .i64 (ob : Int)] 29)) (w.heap.size + 1) i _ _ _ (heap_alloc2_new _ _ _)
    exact this
  have c1 := hx0 1
  have c2 := hx0 2
  have c3 := hx0 3
  simp at c1 c2 c3
  have HS0 := hide hsz0
  have hsl : w.heap.size + 1 < w0.heap.size := by omega
  clear hx0 hsz0
  go_upto_region 2 with fail
  rw [← hw0]
  clear hw0
  go_quiet (fail)
  have hB1 : Below w0.heap.size w0 (w0.drewN nq) := Below.drewN (Below.refl _ _) nq
  obtain ⟨w1, hw1⟩ : ∃ w1, w1 = w0.drewN nq := ⟨_, rfl⟩
  rw [← hw1] at hB1 ⊢
  clear hw1
  have hs1 := hB1.size
  have hB01 := hB0.trans (hB1.mono hB0.size)
  have HR1 := hide ((hB1.block w.heap.size (by omega)).trans (unhide HR0))
  have d1 := (hB1.cell (p := ⟨w.heap.size + 1, 1, none⟩) hsl).trans c1
  have HB : Hid (∀ j, j < 17 → w1.cell? ⟨w.heap.size, 1 + ob * 17 + j, none⟩ = (bcA (m.wear ob) (m.page ob))[j]?) := fun j hj => (cell_of_row _ _ _ _ _ _ (unhide HR1)).trans ((unhide HC).cells ob j hob hj)
  have HSZ : Hid ((Tryz.prog.info? 57).map (·.size) = some A.size) := by rw [(unhide HC).size]; exact sizeCC'
  clear hB1 hB0 HR0 c1 c2 c3
  go_wp2_with (refine wpList_load_mid rfl 54 _ rfl w.heap.size (1 + ob * 17) rfl (bcA (m.wear ob) (m.page ob)) 17 (bcA_size _ _) (unhide HB) _ Tryz.underlying54 rfl sizeBC ?_)
  refine (full_any _ _ x (unhide HPU) _).mono ?_
  rintro e w2 ⟨rfl, hB2⟩
  have hs2 := hB2.size
  have hB02 := hB01.trans (hB2.mono hB01.size)
  have HR2 := hide ((hB2.block w.heap.size (by omega)).trans (unhide HR1))
  have c1 := (hB2.cell (p := ⟨w.heap.size + 1, 1, none⟩) (by show w.heap.size + 1 < _; omega)).trans d1
  clear HB hB2 hB01 HR1 d1 HPU
  generalize bcA (m.wear ob) (m.page ob) = A2
  cases hfu : fullB x with
  | false =>
    rw [hfu] at HFA
    have hRw : w2.ownsRow (w.heap.size + 1) 91 1 (.slice none 0 0) 0 [] := World.ownsRow_nil _ _ _ _
    clear c1
    go_wp2_with (refine wpList_append_lies _ rfl (.tmp 48) (.tmp 56) 62 rfl (w.heap.size + 1) 91 i0 _ 1 16 Tryz.underlying62 hi hz0 hz1 hz2 rfl (by decide) (.slice none 0 0) 0 [] (by simp [Act.eval]) (by exact hRw.alloc _) ⟨w2.heap.size, 0, none⟩ 1 1 [progV (ob : Int) ⟨true, lg, seq, data⟩] (by simp [Act.eval]) rfl (World.news_of_block (cs := #[progV (ob : Int) ⟨true, lg, seq, data⟩]) (t := 91) (fr := (0, 0)) (by exact Go.Deep.blk_alloc_new _ _)) (by simp [Value.oneCell', progV]) (by omega) (by unfold maxLen; omega) (by omega) (by simp; omega) (w2.heap.size + 1) (by simp) ?_; intro g1 cap wE hown hgrow hat hlt1)
    go_ret
    refine ⟨_, rfl, ?_, ?_⟩
    · rw [writeOps_half (unhide HFA)]
      unfold OwnsCo
      simpa [coV] using hown
    · have hBE : Below (w.heap.size + 1) w2 wE := Below.grown ((Below.refl _ w2).alloc (by omega) _) hgrow (by simp; omega) (fun j e => (hRw.lt j e).1)
      exact hB02.trans (hBE.mono (by omega))
  | true =>
    rw [hfu] at HFA
    go_wp2_with (refine wpList_load_row rfl 57 _ rfl w.heap.size rfl 57 A (0, 0) _ (unhide HR2) Tryz.underlying57 rfl (unhide HSZ) ?_)
    refine (freeBlocks_any A m n (unhide HC).count (unhide HC).cells hn _).mono ?_
    rintro e w3 ⟨fv, rfl, hv, hB3⟩
    rw [(unhide HC).blocks] at hv
    obtain ⟨fa, fc, rfl, hFI, _⟩ := hv.form
    have hs3 := hB3.size
    have hB03 := hB02.trans (hB3.mono hB02.size)
    have HR3 := hide ((hB3.block w.heap.size (by omega)).trans (unhide HR2))
    have d1 := (hB3.cell (p := ⟨w.heap.size + 1, 1, none⟩) (by show w.heap.size + 1 < _; omega)).trans c1
    have hq12 := freeTo_length bs n
    have HF : Hid (∀ y ∈ freeTo bs n, 0 ≤ y ∧ y < (n : Int)) := fun y hy => by obtain ⟨i, hi, rfl, _⟩ := mem_freeTo hy; omega
    obtain ⟨F, hF⟩ : ∃ F, F = freeTo bs n := ⟨_, rfl⟩
    rw [← hF] at hFI hq12 HF ⊢
    have hFb : F = freeTo bs bs.length := by rw [hF, unhide HLEN]
    have hq0 : 0 < F.length := by
      have := unhide HNE
      rw [← hFb] at this
      exact List.length_pos_iff.2 this
    have HQ1 : Hid (freshOf bs (fi : Int) < 0 ↔ F.length = 1) := by rw [hFb]; exact unhide HALONE
    have HLE1 : Hid (leastIn bs F = (fi : Int)) := by rw [hFb]; exact unhide HLE
    obtain ⟨q, hq⟩ : ∃ q, q = F.length := ⟨_, rfl⟩
    rw [← hq] at hq12 hq0 HQ1 ⊢
    have HQ := hide hq.symm
    have HFI := hide hFI
    clear hv hB3 hF hFI hq HR2 c1 hFb HALONE HLE HNE
    go_wp2_with (refine wpList_load_row rfl 57 _ rfl w.heap.size rfl 57 A (0, 0) _ (unhide HR3) Tryz.underlying57 rfl (unhide HSZ) ?_)
    refine (leastWorn_any A m bs n (unhide HC) fa fc F q (unhide HQ) (by omega) hq0 (unhide HF) _ (unhide HFI)).mono ?_
    rintro e w4 ⟨rfl, hB4⟩
    rw [unhide HLE1]
    have hs4 := hB4.size
    have hB04 := hB03.trans (hB4.mono hB03.size)
    have HR4 := hide ((hB4.block w.heap.size (by omega)).trans (unhide HR3))
    have c1 := (hB4.cell (p := ⟨w.heap.size + 1, 1, none⟩) (by show w.heap.size + 1 < _; omega)).trans d1
    clear hB4 HR3 d1 HFI HLE1
    by_cases hal : q = 1
    · have heq : ((q : Int) == 1) = true := by simp; omega
      obtain ⟨hv0, hvn⟩ := unhide HVI hfu
      rw [unhide HFR] at hv0 hvn
      obtain ⟨v, hv⟩ := Int.eq_ofNat_of_zero_le hv0
      have HV := hide hv
      have hvn' : v < n := by have := unhide HLEN; omega
      have HAL := hide hal
      clear hv0 hvn hv hal
      go_wp2_with (refine wpList_load_row rfl 57 _ rfl w.heap.size rfl 57 A (0, 0) _ (unhide HR4) Tryz.underlying57 rfl (unhide HSZ) ?_)
      refine (victimBut_any A m bs n (unhide HLEN) (unhide HC).blocks (unhide HC).count (unhide HC).cells hn ma mc L mn (unhide HL) hm36 (unhide HPL) (fi : Int) _ ((unhide HI).below hB04 (Nat.le_refl _))).mono ?_
      rintro e w5 ⟨rfl, hB5⟩
      rw [unhide HV]
      have hs5 := hB5.size
      have hB05 := hB04.trans (hB5.mono hB04.size)
      have HR5 := hide ((hB5.block w.heap.size (by omega)).trans (unhide HR4))
      have d1 := (hB5.cell (p := ⟨w.heap.size + 1, 1, none⟩) (by show w.heap.size + 1 < _; omega)).trans c1
      clear hB5 HR4 c1
      go_wp2_with (refine wpList_load_row rfl 57 _ rfl w.heap.size rfl 57 A (0, 0) _ (unhide HR5) Tryz.underlying57 rfl (unhide HSZ) ?_)
      refine (emptying_any A m bs n (unhide HC) (unhide HAP) ma mc L mn (unhide HL) seq (ob : Int) (unhide HOK) v hvn' (fi : Int) _ ((unhide HI).below hB05 (Nat.le_refl _))).mono ?_
      rintro e w6 ⟨r, rfl, hr, hB6⟩
      have hs6 := hB6.size
      have hB06 := hB05.trans (hB6.mono hB05.size)
      have HQ' := hide (hr.lower (show w.heap.size + 1 ≤ w5.heap.size + 1 by omega))
      obtain ⟨qa, qc, rfl, _⟩ := hr.form (goodOps_move _ _ _ _ _)
      have hml := moveOps_length bs L (v : Int) (fi : Int) seq
      have hm4 := movedTo_length bs L (v : Int) (fi : Int) seq 4
      obtain ⟨M, hM⟩ : ∃ M, M = (moveOps bs L (v : Int) (fi : Int) seq).length := ⟨_, rfl⟩
      obtain ⟨X, hX⟩ : ∃ X, X = (moveOps bs L (v : Int) (fi : Int) seq).map coV := ⟨_, rfl⟩
      obtain ⟨N4, hN4⟩ : ∃ N4, N4 = (movedTo bs L (v : Int) (fi : Int) seq 4).length := ⟨_, rfl⟩
      rw [← hM] at hml ⊢
      rw [← hN4] at hml hm4
      have hRw : w6.ownsRow (w.heap.size + 1) 91 1 (.slice qa M qc) M X := by rw [hX, hM]; exact unhide HQ'
      have HX2 := hide (And.intro hX (And.intro hM hN4))
      have hM5 : M ≤ 5 := by omega
      have HML := hide hml
      clear hX hM hN4 HQ' hml hr hB6 d1 HR5
      go_wp2_with (refine wpList_append_lies _ rfl (.tmp 48) (.tmp 56) 62 rfl (w.heap.size + 1) 91 i0 _ 1 16 Tryz.underlying62 hi hz0 hz1 hz2 rfl (by decide) (.slice qa M qc) M X (by simp [Act.eval]) (by exact hRw.alloc _) ⟨w6.heap.size, 0, none⟩ 1 1 [progV (fi : Int) ⟨true, lg, seq + ((M : Int) - 1), data⟩] (by simp [Act.eval]) rfl (World.news_of_block (cs := #[progV (fi : Int) ⟨true, lg, seq + ((M : Int) - 1), data⟩]) (t := 91) (fr := (0, 0)) (by exact Go.Deep.blk_alloc_new _ _)) (by simp [Value.oneCell', progV]) (by omega) (by unfold maxLen; omega) (by omega) (by simp; omega) (w6.heap.size + 1) (by simp) ?_; intro g1 cap wE hown hgrow hat hlt1)
      go_ret
      refine ⟨_, rfl, ?_, ?_⟩
      · obtain ⟨e1, e2, e3⟩ := unhide HX2
        rw [writeOps_move (unhide HFA) (by rw [unhide HFR]; exact (unhide HQ1).2 (unhide HAL)), unhide HFR, unhide HV]
        unfold OwnsCo
        rw [List.length_append, List.map_append, ← e1, ← e2, ← e3]
        have e9 : seq + ((M : Int) - 1) = seq + (N4 : Int) := by have := unhide HML; omega
        rw [e9] at hown
        simpa [coV] using hown
      · have hBE : Below (w.heap.size + 1) w6 wE := Below.grown ((Below.refl _ w6).alloc (by omega) _) hgrow (by simp; omega) (fun j e => (hRw.lt j e).1)
        exact hB06.trans (hBE.mono (by omega))
    · have heq : ((q : Int) == 1) = false := by simp; omega
      have hRw : w4.ownsRow (w.heap.size + 1) 91 1 (.slice none 0 0) 0 [] := World.ownsRow_nil _ _ _ _
      have HAL := hide hal
      clear c1 hal
      go_wp2_with (refine wpList_append_lies _ rfl (.tmp 48) (.tmp 56) 62 rfl (w.heap.size + 1) 91 i0 _ 1 16 Tryz.underlying62 hi hz0 hz1 hz2 rfl (by decide) (.slice none 0 0) 0 [] (by simp [Act.eval]) (by exact hRw.alloc _) ⟨w4.heap.size, 0, none⟩ 1 1 [progV (fi : Int) ⟨true, lg, seq, data⟩] (by simp [Act.eval]) rfl (World.news_of_block (cs := #[progV (fi : Int) ⟨true, lg, seq, data⟩]) (t := 91) (fr := (0, 0)) (by exact Go.Deep.blk_alloc_new _ _)) (by simp [Value.oneCell', progV]) (by omega) (by unfold maxLen; omega) (by omega) (by simp; omega) (w4.heap.size + 1) (by simp) ?_; intro g1 cap wE hown hgrow hat hlt1)
      go_ret
      refine ⟨_, rfl, ?_, ?_⟩
      · rw [writeOps_next (unhide HFA) (by rw [unhide HFR]; exact fun h => unhide HAL ((unhide HQ1).1 h)), unhide HFR]
        unfold OwnsCo
        simpa [coV] using hown
      · have hBE : Below (w.heap.size + 1) w4 wE := Below.grown ((Below.refl _ w4).alloc (by omega) _) hgrow (by simp; omega) (fun j e => (hRw.lt j e).1)
        exact hB04.trans (hBE.mono (by omega))

set_option maxRecDepth 100000 in
set_option maxHeartbeats 2000000 in
theorem implOpsOf_any (a : Option Addr) (c : Nat) (bs : List Bk) (n : Nat) (hl : bs.length = n) (ma : Option Addr) (mc : Nat) (L : List Int) (mn : Nat) (hL : L.length = mn) (seq o lg : Int) (data : ByteArray) (w : World) (h : BlocksAt w a bs) (hn : Lens 9223372036854775807 bs) (hI : IntsAt w ma L) (hmn : mn ≤ 9223372036854775807) (hd : data.size ≤ 1048576) :
    Calls Tryz.prog 6 #[.agg #[.slice a n c, .slice ma mn mc, .int .i64 seq, .int .i64 o], .int .i64 lg, .string data] w fun e w' => ∃ a1 c1 xs r, e = .returned (.tuple #[.slice a1 xs.length c1, .bool r]) ∧ OpsOfIs bs L seq o lg data xs r ∧ OpsMine w' w.heap.size w'.heap.size a1 c1 xs ∧ Below w.heap.size w w' := by
  have hb0 : ∀ o, Below w.heap.size w (w.alloc o) := fun o => (Below.refl _ w).alloc (Nat.le_refl _) _
  go_enter Tryz.func6, Tryz.ntmps6
  go_wp2_with fail
  refine (rightCells_any a c bs n hl ma mc L mn hL seq o _ (h.below (hb0 _) (Nat.le_refl _)) hn (hI.below (hb0 _) (Nat.le_refl _)) hmn).mono ?_
  rintro e w1 ⟨⟨m, r, rfl, hr, hm⟩, hB1⟩
  have hW1 : Below w.heap.size w w1 := (hb0 _).trans (hB1.mono (by simp))
  have hs1 := hB1.size
  simp at hs1
  have hx : ∀ i, w1.cell? ⟨w.heap.size, i, none⟩ = (#[Value.slice a n c, .slice ma mn mc, .int .i64 seq, .int .i64 o])[i]? := fun i => by
    rw [hB1.cell (p := ⟨w.heap.size, i, none⟩) (by simp)]
    simp
  have hsc := store_cc m w1
  have hAs := ccA_size m
  have HSZ := hide (sizeCC m)
  have HR := hide hr
  have HM := hide hm
  have HI := hide hI
  have HL := hide hl
  have HLL := hide hL
  have HAP := hide (fun b i hb hi => ccA_pages m (b := b) (i := i) hb hi)
  have HCI : Hid (∀ hc : m.count = bs.length, ∀ hb : ccBs m bs.length = bs, n ≤ 12 → CellsIs (ccA m) m bs n) := fun hc hb h12 => CellsIs.of hl h12 hc hb
  generalize ccA m = A at hsc hAs HSZ HAP HCI ⊢
  clear hr hm h hn hB1 hb0 hI hl hL
  cases r with
  | false =>
    clear hx
    go_wp2
    exact bodyPost_ret (v := .tuple #[.slice none 0 0, .bool false]) (by simp [results, Tryz.results6, go_sem]) rfl ⟨none, 0, [], false, rfl, .inr ⟨rfl, rfl, fun hc => by have := (unhide HR).2 hc.1; cases this⟩, .inl ⟨rfl, rfl⟩, hW1.alloc hW1.size _⟩
  | true =>
    have hok := (unhide HR).1 (by trivial)
    have hc12 : 4 ≤ n ∧ n ≤ 12 := by have := hok.chip.count; have := unhide HL; omega
    obtain ⟨hct, hbss⟩ := unhide HM (by trivial)
    have HC := hide (unhide HCI hct hbss hc12.2)
    have HOK := hide hok
    obtain ⟨w2, hw2⟩ : ∃ w2, w2 = w1.alloc (.cells A 57) := ⟨_, rfl⟩
    have hs2 : w1.heap.size < w2.heap.size := by rw [hw2]; simp
    have hB2 : Below w1.heap.size w1 w2 := by rw [hw2]; exact (Below.refl _ w1).alloc (Nat.le_refl _) _
    have HR2 : Hid (w2.heap[w1.heap.size]? = some (.cells A 57 (0, 0))) := by rw [hw2]; exact World.alloc_heap_new _ _
    have hW2 := hW1.trans (hB2.mono hW1.size)
    have hx2 : ∀ i, w2.cell? ⟨w.heap.size, i, none⟩ = (#[Value.slice a n c, .slice ma mn mc, .int .i64 seq, .int .i64 o])[i]? := fun i => (hB2.cell (p := ⟨w.heap.size, i, none⟩) (by show w.heap.size < _; omega)).trans (hx i)
    have c0 := hx2 0
    have c1 := hx2 1
    have c2 := hx2 2
    have c3 := hx2 3
    simp at c0 c1 c2 c3
    rw [← hw2] at hsc
    clear hok hct hbss HM hx hx2 hW1 hw2 HCI hB2
    go_wp2_with fail
    refine wp_load_row 57 _ rfl w1.heap.size rfl 57 A (0, 0) _ (unhide HR2) Tryz.underlying57 rfl (unhide HSZ) ?_
    go_wp2_with fail
    refine (writeRefusal_any A m bs n (unhide HC) hc12.1 seq lg data hd _).mono ?_
    rintro e w3 ⟨code, rfl, hcode, hB3⟩
    have hs3 := hB3.size
    have hW3 := hW2.trans (hB3.mono hW2.size)
    have d0 := (hB3.cell (p := ⟨w.heap.size, 0, none⟩) (by show w.heap.size < _; omega)).trans c0
    have d1 := (hB3.cell (p := ⟨w.heap.size, 1, none⟩) (by show w.heap.size < _; omega)).trans c1
    have d2 := (hB3.cell (p := ⟨w.heap.size, 2, none⟩) (by show w.heap.size < _; omega)).trans c2
    have d3 := (hB3.cell (p := ⟨w.heap.size, 3, none⟩) (by show w.heap.size < _; omega)).trans c3
    have HR3 := hide ((hB3.block w1.heap.size hs2).trans (unhide HR2))
    have HCODE := hide hcode
    clear hcode hB3 HR2 c0 c1 c2 c3 hsc hW2 hAs
    by_cases h0 : code = 0
    · subst h0
      have HFR : Hid (formOk bs lg data ∧ roomy bs seq) := by
        rcases unhide HCODE with ⟨h, _⟩ | ⟨h, _⟩ | ⟨_, h1, h2⟩
        · omega
        · omega
        · exact ⟨h1, h2⟩
      clear HCODE
      go_wp2_with (refine wpList_load_row rfl 57 _ rfl w1.heap.size rfl 57 A (0, 0) _ (unhide HR3) Tryz.underlying57 rfl (unhide HSZ) ?_)
      refine (writeOps_any A m bs n (unhide HC) (unhide HAP) (.slice a n c) ma mc L mn (unhide HLL) seq o lg data (unhide HOK) _ ((unhide HI).below hW3 (Nat.le_refl _))).mono ?_
      rintro e w4 ⟨q, rfl, hq, hB4⟩
      have hs4 := hB4.size
      have hW4 := hW3.trans (hB4.mono hW3.size)
      obtain ⟨qa, qc, rfl, hco⟩ := hq.form (goodOps_write _ _ _ _ _ _)
      have hlen := writeOps_length bs L seq o lg data
      have HCO := hide hco
      clear hB4 hq d0 d1 d2 d3 hco HR3
      go_wp2_with fail
      refine (toldOps_any qa qc (writeOps bs L seq o lg data) _ rfl _ (unhide HCO) (by omega)).mono ?_
      rintro e w5 ⟨rfl, hO5, hB5⟩
      have hW5 := hW4.trans (hB5.mono hW4.size)
      have HO5 := hide hO5
      have hlt5 : w4.heap.size < w5.heap.size := World.rowIs.lt hO5
      obtain ⟨M, hM⟩ : ∃ M, M = (writeOps bs L seq o lg data).length := ⟨_, rfl⟩
      rw [← hM]
      have HMM := hide hM
      clear hO5 hB5 HCO hM hlen
      go_wp2
      exact bodyPost_ret (v := .tuple #[.slice (some ⟨w4.heap.size, 0, none⟩) M M, .bool true]) (by simp [results, Tryz.results6, go_sem]) rfl ⟨_, M, writeOps bs L seq o lg data, true, by rw [unhide HMM], .inl ⟨rfl, ⟨unhide HOK, unhide HFR⟩, rfl⟩, .inr ⟨w4.heap.size, rfl, by omega, hlt5, unhide HO5⟩, hW5⟩
    · have hne : (code != 0) = true := by simpa using h0
      have HNO : Hid (¬ (formOk bs lg data ∧ roomy bs seq)) := by
        rcases unhide HCODE with ⟨_, h⟩ | ⟨_, _, h⟩ | ⟨h, _⟩
        · exact fun hc => h hc.1
        · exact fun hc => h hc.2
        · exact absurd h h0
      clear d0 d1 d2 d3
      go_wp2
      exact bodyPost_ret (v := .tuple #[.slice none 0 0, .bool false]) (by simp [results, Tryz.results6, go_sem]) rfl ⟨none, 0, [], false, rfl, .inr ⟨rfl, rfl, fun hc => unhide HNO hc.2⟩, .inl ⟨rfl, rfl⟩, hW3⟩
end Go.Proofs.YtjgcjeaplckbbaaGreat
