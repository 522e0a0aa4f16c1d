/- 2 texts in one. -/
import Derived.Test.YtalgkmellbamgaaGreatG28
import Derived.Deep.RegionHeld3
import Derived.Test.YtalgkmellbamgaaGreatG22
import Derived.Test.YtalgkmellbamgaaGreatG24
import Derived.Test.YtalgkmellbamgaaGreatG27
import Derived.Test.YtalgkmellbamgaaGreatG10
import Derived.WalkKit
import Derived.Outline
import Derived.BigQuiet
import Derived.Deep.DeepCutAuto

/- An answer that is a list of ops: its marks; a member that the laws have copied, as one of their own. -/
namespace Go.Proofs.YtalgkmellbamgaaGreat
open Go.RowKit
set_option linter.unusedVariables false
set_option linter.unusedSimpArgs false


/-- What the program's OpsOf hands back: ops in a row of its own, which lies from B on and ahead of T. -/
def OpsMine (w : World) (B T : Nat) (a : Option Addr) (c : Nat) (xs : List Opn) : Prop := (a = none ∧ xs = []) ∨ ∃ g, a = some ⟨g, 0, none⟩ ∧ B ≤ g ∧ g < T ∧ OwnOps w 73 g xs.length xs
theorem OpsMine.opsAt {w : World} {B T : Nat} {a : Option Addr} {c : Nat} {xs : List Opn} (h : OpsMine w B T a c xs) : OpsAt w a xs := by
  rcases h with ⟨_, rfl⟩ | ⟨g, rfl, _, _, h⟩
  · intro i x hx; simp at hx
  · exact h.opsAt (Nat.le_refl _)
theorem OpsMine.below {w w' : World} {B T : Nat} {a : Option Addr} {c : Nat} {xs : List Opn} (h : OpsMine w B T a c xs) (hb : Below w.heap.size w w') : OpsMine w' B T a c xs := by
  rcases h with h | ⟨g, rfl, h1, h2, h⟩
  · exact .inl h
  · exact .inr ⟨g, rfl, h1, h2, h.below hb (World.rowIs.lt h)⟩
theorem OpsMine.touch {S : Nat → Prop} {w w' : World} {B T : Nat} {a : Option Addr} {c : Nat} {xs : List Opn} (h : OpsMine w B T a c xs) (hT : Touch S w w') (hS : ∀ k, S k → k < B) : OpsMine w' B T a c xs := by
  rcases h with h | ⟨g, rfl, h1, h2, h⟩
  · exact .inl h
  · exact .inr ⟨g, rfl, h1, h2, World.rowIs.of_block h (hT.block g (World.rowIs.lt h) (fun hs => by have := hS g hs; omega))⟩


set_option maxRecDepth 100000 in
theorem toFtl_own (a : Option Addr) (c : Nat) (bs : List Bk) (n : Nat) (hl : bs.length = n) (ma : Option Addr) (mc : Nat) (L : List Int) (mn : Nat) (hL : L.length = mn) (seq o : Int) (w : World) (h : BlocksAt w a bs) (hn : Lens 1048576 bs) (hI : IntsAt w ma L) (hmn : mn ≤ 1048576) :
    Calls Tryz.prog 18 #[.agg #[.slice a n c, .slice ma mn mc, .int .i64 seq, .int .i64 o]] w fun e w' => ∃ g m, e = .returned (.agg #[.slice (some ⟨g, 0, none⟩) n n, .slice (some ⟨m, 0, none⟩) mn mn, .int .i64 seq, .int .i64 o]) ∧ FtlOwn w' w.heap.size w'.heap.size (some ⟨g, 0, none⟩) n n bs (some ⟨m, 0, none⟩) mn L ∧ Below w.heap.size w w' := by
  refine (toFtl_any a c bs n hl ma mc L mn hL seq o w h hn hI hmn).mono ?_
  rintro e w' ⟨g, H, m, rfl, hg, hgm, hH, hO, hR, hB⟩
  have hml := World.rowIs.lt hR
  refine ⟨g, m, rfl, ⟨hL, RowInts.intsAt hR (by omega), .inr ⟨m, rfl, by omega, hml, fun i hi => ⟨?_, World.rowIs.frozen hR _⟩⟩, fun k hk => by cases hk; exact hml, w.heap.size, m, Nat.le_refl _, ⟨hl, .inr ⟨g, H, rfl, hg, hgm, fun i hi => ⟨hO.ahead i (by omega), hH i hi⟩, hO⟩⟩, by omega, fun k hk => by cases hk; omega⟩, hB⟩
  have := World.rowIs.cell hR (i := i) hi
  exact ⟨_, by rw [Nat.zero_add, this]; rfl⟩
end Go.Proofs.YtalgkmellbamgaaGreat

/- The ops of a write: the program's writeOps and OpsOf. -/
namespace Go.Proofs.YtalgkmellbamgaaGreat
open Go.RowKit
set_option linter.unusedVariables false
set_option linter.unusedSimpArgs false

set_option maxRecDepth 100000 in
set_option maxHeartbeats 4000000 in
theorem writeOps_any (A : Array Value) (m : CC) (bs : List Bk) (n : Nat) (hC : CellsIs A m bs n) (hAp : ∀ b i, b < 12 → i < 16 → A[1 + b * 17 + 1 + i]? = (paA (m.page b))[i]?) (va : Value) (ma : Option Addr) (mc : Nat) (L : List Int) (mn : Nat) (hL : L.length = mn) (seq o lg : Int) (data : ByteArray) (hok : FtlOk bs L seq o) (w : World) (hI : IntsAt w ma L) :
    Calls Tryz.prog 33 #[.agg A, .agg #[va, .slice ma mn mc, .int .i64 seq, .int .i64 o], .int .i64 lg, .string data] w fun e w' => ∃ r, e = .returned r ∧ OwnsCo w' (w.heap.size + 1) r (writeOps bs L seq o lg data) ∧ Below w.heap.size w w' := by
  have hn := hC.most
  have hlen := hC.len
  have hc := hok.chip.count
  have hsq := hok.seq
  have htp := hok.chip.top
  have hop := hok.opn
  have hm36 : mn ≤ 36 := by have := hok.len36; omega
  obtain ⟨i0, hi, hz0, hz1, hz2⟩ := info_parts infoChipOp
  obtain ⟨ob, hob⟩ := Int.eq_ofNat_of_zero_le hop.1
  subst hob
  obtain ⟨x, hx⟩ := getElem?_ex (l := bs) (k := ob) (by omega)
  have hx' : bs[((ob : Int)).toNat]? = some x := by simpa using hx
  have HFA := hide (fullAt_of hx')
  obtain ⟨fi, fx, hfr, hfx, hff, hfl, hle⟩ := hok.fresh
  have hfa := fresh_alone (bs := bs) hok.settled.some
  rw [hfr] at hfa
  have HALONE := hide hfa
  have HNE := hide hok.settled.some
  have HVI := hide (fun hf => hok.victim hx' hf)
  have HPL : Hid (∀ y ∈ L, y = -1 ∨ (0 ≤ y ∧ y < 48)) := fun y hy => by have h1 := hok.places y hy; omega
  have HOK := hide hok
  have HC := hide hC
  have HAP := hide hAp
  have HI := hide hI
  have HL := hide hL
  have HLEN := hide hlen
  have HLE := hide hle
  have HFR := hide hfr
  have hoi : (ob : Int) < 12 := by omega
  have hob : ob < 12 := by omega
  have hs0 : 0 ≤ seq := by omega
  have hs9 : seq ≤ 1000000000 := hsq.2
  have HPU := hide (hC.pu hx)
  have HFN : Hid (fi < bs.length) := hfl
  clear hok hC hAp hI hx hx' hfx hff hfl hL hlen hle hfr hfa hsq htp hop hc
  go_enter Tryz.func33, Tryz.ntmps33
  obtain ⟨w0, hw0⟩ : ∃ w0, w0 = (w.alloc (.cells A 65)).alloc (.cells #[va, .slice ma mn mc, .int .i64 seq, .int .i64 (ob : Int)] 29) := ⟨_, rfl⟩
  have hsz0 : w0.heap.size = w.heap.size + 1 + 1 := by rw [hw0]; simp
  have hB0 : Below w.heap.size w w0 := by rw [hw0]; exact ((Below.refl _ w).alloc (Nat.le_refl _) _).alloc (by simp) _
  have HR0 : Hid (w0.heap[w.heap.size]? = some (.cells A 65 (0, 0))) := by rw [hw0]; exact (Below.heap_alloc _ _ _ (by simp)).trans (World.alloc_heap_new _ _)
  have hx0 : ∀ i, w0.cell? ⟨w.heap.size + 1, i, none⟩ = (#[va, .slice ma mn mc, .int .i64 seq, .int .i64 (ob : Int)])[i]? := fun i => by
    rw [hw0]
    have := cell_of_row ((w.alloc (.cells A 65)).alloc (.cells #[va, .slice ma mn mc, .int .i64 seq, .int .i64 (ob : Int)] 29)) (w.heap.size + 1) i _ _ _ (heap_alloc2_new _ _ _)
    exact this
  have c1 := hx0 1
  have c2 := hx0 2
  have c3 := hx0 3
  simp at c1 c2 c3
  have HS0 := hide hsz0
  have hsl : w.heap.size + 1 < w0.heap.size := by omega
  clear hx0 hsz0
  go_upto_region 2 with fail
  rw [← hw0]
  clear hw0
  go_quiet (fail)
  have hB1 : Below w0.heap.size w0 (w0.drewN nq) := Below.drewN (Below.refl _ _) nq
  obtain ⟨w1, hw1⟩ : ∃ w1, w1 = w0.drewN nq := ⟨_, rfl⟩
  rw [← hw1] at hB1 ⊢
  clear hw1
  have hs1 := hB1.size
  have hB01 := hB0.trans (hB1.mono hB0.size)
  have HR1 := hide ((hB1.block w.heap.size (by omega)).trans (unhide HR0))
  have d1 := (hB1.cell (p := ⟨w.heap.size + 1, 1, none⟩) hsl).trans c1
  have HB : Hid (∀ j, j < 17 → w1.cell? ⟨w.heap.size, 1 + ob * 17 + j, none⟩ = (bcA (m.wear ob) (m.page ob))[j]?) := fun j hj => (cell_of_row _ _ _ _ _ _ (unhide HR1)).trans ((unhide HC).cells ob j hob hj)
  have HSZ : Hid ((Tryz.prog.info? 65).map (·.size) = some A.size) := by rw [(unhide HC).size]; exact sizeCC'
  clear hB1 hB0 HR0 c1 c2 c3
  go_wp2_with (refine wpList_load_mid rfl 62 _ rfl w.heap.size (1 + ob * 17) rfl (bcA (m.wear ob) (m.page ob)) 17 (bcA_size _ _) (unhide HB) _ Tryz.underlying62 rfl sizeBC ?_)
  refine (full_any _ _ x (unhide HPU) _).mono ?_
  rintro e w2 ⟨rfl, hB2⟩
  have hs2 := hB2.size
  have hB02 := hB01.trans (hB2.mono hB01.size)
  have HR2 := hide ((hB2.block w.heap.size (by omega)).trans (unhide HR1))
  have c1 := (hB2.cell (p := ⟨w.heap.size + 1, 1, none⟩) (by show w.heap.size + 1 < _; omega)).trans d1
  clear HB hB2 hB01 HR1 d1 HPU
  generalize bcA (m.wear ob) (m.page ob) = A2
  cases hfu : fullB x with
  | false =>
    rw [hfu] at HFA
    have hRw : w2.ownsRow (w.heap.size + 1) 75 1 (.slice none 0 0) 0 [] := World.ownsRow_nil _ _ _ _
    clear c1
    go_wp2_with (refine wpList_append_lies _ rfl (.tmp 48) (.tmp 56) 70 rfl (w.heap.size + 1) 75 i0 _ 1 16 Tryz.underlying70 hi hz0 hz1 hz2 rfl (by decide) (.slice none 0 0) 0 [] (by simp [Act.eval]) (by exact hRw.alloc _) ⟨w2.heap.size, 0, none⟩ 1 1 [progV (ob : Int) ⟨true, lg, seq, data⟩] (by simp [Act.eval]) rfl (World.news_of_block (cs := #[progV (ob : Int) ⟨true, lg, seq, data⟩]) (t := 75) (fr := (0, 0)) (by exact Go.Deep.blk_alloc_new _ _)) (by simp [Value.oneCell', progV]) (by omega) (by unfold maxLen; omega) (by omega) (by simp; omega) (w2.heap.size + 1) (by simp) ?_; intro g1 cap wE hown hgrow hat hlt1)
    go_ret
    refine ⟨_, rfl, ?_, ?_⟩
    · rw [writeOps_half (unhide HFA)]
      unfold OwnsCo
      simpa [coV] using hown
    · have hBE : Below (w.heap.size + 1) w2 wE := Below.grown ((Below.refl _ w2).alloc (by omega) _) hgrow (by simp; omega) (fun j e => (hRw.lt j e).1)
      exact hB02.trans (hBE.mono (by omega))
  | true =>
    rw [hfu] at HFA
    go_wp2_with (refine wpList_load_row rfl 65 _ rfl w.heap.size rfl 65 A (0, 0) _ (unhide HR2) Tryz.underlying65 rfl (unhide HSZ) ?_)
    refine (freeBlocks_any A m n (unhide HC).count (unhide HC).cells hn _).mono ?_
    rintro e w3 ⟨fv, rfl, hv, hB3⟩
    rw [(unhide HC).blocks] at hv
    obtain ⟨fa, fc, rfl, hFI, _⟩ := hv.form
    have hs3 := hB3.size
    have hB03 := hB02.trans (hB3.mono hB02.size)
    have HR3 := hide ((hB3.block w.heap.size (by omega)).trans (unhide HR2))
    have d1 := (hB3.cell (p := ⟨w.heap.size + 1, 1, none⟩) (by show w.heap.size + 1 < _; omega)).trans c1
    have hq12 := freeTo_length bs n
    have HF : Hid (∀ y ∈ freeTo bs n, 0 ≤ y ∧ y < (n : Int)) := fun y hy => by obtain ⟨i, hi, rfl, _⟩ := mem_freeTo hy; omega
    obtain ⟨F, hF⟩ : ∃ F, F = freeTo bs n := ⟨_, rfl⟩
    rw [← hF] at hFI hq12 HF ⊢
    have hFb : F = freeTo bs bs.length := by rw [hF, unhide HLEN]
    have hq0 : 0 < F.length := by
      have := unhide HNE
      rw [← hFb] at this
      exact List.length_pos_iff.2 this
    have HQ1 : Hid (freshOf bs (fi : Int) < 0 ↔ F.length = 1) := by rw [hFb]; exact unhide HALONE
    have HLE1 : Hid (leastIn bs F = (fi : Int)) := by rw [hFb]; exact unhide HLE
    obtain ⟨q, hq⟩ : ∃ q, q = F.length := ⟨_, rfl⟩
    rw [← hq] at hq12 hq0 HQ1 ⊢
    have HQ := hide hq.symm
    have HFI := hide hFI
    clear hv hB3 hF hFI hq HR2 c1 hFb HALONE HLE HNE
    go_wp2_with (refine wpList_load_row rfl 65 _ rfl w.heap.size rfl 65 A (0, 0) _ (unhide HR3) Tryz.underlying65 rfl (unhide HSZ) ?_)
    refine (leastWorn_any A m bs n (unhide HC) fa fc F q (unhide HQ) (by omega) hq0 (unhide HF) _ (unhide HFI)).mono ?_
    rintro e w4 ⟨rfl, hB4⟩
    rw [unhide HLE1]
    have hs4 := hB4.size
    have hB04 := hB03.trans (hB4.mono hB03.size)
    have HR4 := hide ((hB4.block w.heap.size (by omega)).trans (unhide HR3))
    have c1 := (hB4.cell (p := ⟨w.heap.size + 1, 1, none⟩) (by show w.heap.size + 1 < _; omega)).trans d1
    clear hB4 HR3 d1 HFI HLE1
    by_cases hal : q = 1
    · have heq : ((q : Int) == 1) = true := by simp; omega
      obtain ⟨hv0, hvn⟩ := unhide HVI hfu
      rw [unhide HFR] at hv0 hvn
      obtain ⟨v, hv⟩ := Int.eq_ofNat_of_zero_le hv0
      have HV := hide hv
      have hvn' : v < n := by have := unhide HLEN; omega
      have HAL := hide hal
      clear hv0 hvn hv hal
      go_wp2_with (refine wpList_load_row rfl 65 _ rfl w.heap.size rfl 65 A (0, 0) _ (unhide HR4) Tryz.underlying65 rfl (unhide HSZ) ?_)
      refine (victimBut_any A m bs n (unhide HLEN) (unhide HC).blocks (unhide HC).count (unhide HC).cells hn ma mc L mn (unhide HL) hm36 (unhide HPL) (fi : Int) _ ((unhide HI).below hB04 (Nat.le_refl _))).mono ?_
      rintro e w5 ⟨rfl, hB5⟩
      rw [unhide HV]
      have hs5 := hB5.size
      have hB05 := hB04.trans (hB5.mono hB04.size)
      have HR5 := hide ((hB5.block w.heap.size (by omega)).trans (unhide HR4))
      have d1 := (hB5.cell (p := ⟨w.heap.size + 1, 1, none⟩) (by show w.heap.size + 1 < _; omega)).trans c1
      clear hB5 HR4 c1
      go_wp2_with (refine wpList_load_row rfl 65 _ rfl w.heap.size rfl 65 A (0, 0) _ (unhide HR5) Tryz.underlying65 rfl (unhide HSZ) ?_)
      refine (emptying_any A m bs n (unhide HC) (unhide HAP) ma mc L mn (unhide HL) seq (ob : Int) (unhide HOK) v hvn' (fi : Int) _ ((unhide HI).below hB05 (Nat.le_refl _))).mono ?_
      rintro e w6 ⟨r, rfl, hr, hB6⟩
      have hs6 := hB6.size
      have hB06 := hB05.trans (hB6.mono hB05.size)
      have HQ' := hide (hr.lower (show w.heap.size + 1 ≤ w5.heap.size + 1 by omega))
      obtain ⟨qa, qc, rfl, _⟩ := hr.form (goodOps_move _ _ _ _ _)
      have hml := moveOps_length bs L (v : Int) (fi : Int) seq
      have hm4 := movedTo_length bs L (v : Int) (fi : Int) seq 4
      obtain ⟨M, hM⟩ : ∃ M, M = (moveOps bs L (v : Int) (fi : Int) seq).length := ⟨_, rfl⟩
      obtain ⟨X, hX⟩ : ∃ X, X = (moveOps bs L (v : Int) (fi : Int) seq).map coV := ⟨_, rfl⟩
      obtain ⟨N4, hN4⟩ : ∃ N4, N4 = (movedTo bs L (v : Int) (fi : Int) seq 4).length := ⟨_, rfl⟩
      rw [← hM] at hml ⊢
      rw [← hN4] at hml hm4
      have hRw : w6.ownsRow (w.heap.size + 1) 75 1 (.slice qa M qc) M X := by rw [hX, hM]; exact unhide HQ'
      have HX2 := hide (And.intro hX (And.intro hM hN4))
      have hM5 : M ≤ 5 := by omega
      have HML := hide hml
      clear hX hM hN4 HQ' hml hr hB6 d1 HR5
      go_wp2_with (refine wpList_append_lies _ rfl (.tmp 48) (.tmp 56) 70 rfl (w.heap.size + 1) 75 i0 _ 1 16 Tryz.underlying70 hi hz0 hz1 hz2 rfl (by decide) (.slice qa M qc) M X (by simp [Act.eval]) (by exact hRw.alloc _) ⟨w6.heap.size, 0, none⟩ 1 1 [progV (fi : Int) ⟨true, lg, seq + ((M : Int) - 1), data⟩] (by simp [Act.eval]) rfl (World.news_of_block (cs := #[progV (fi : Int) ⟨true, lg, seq + ((M : Int) - 1), data⟩]) (t := 75) (fr := (0, 0)) (by exact Go.Deep.blk_alloc_new _ _)) (by simp [Value.oneCell', progV]) (by omega) (by unfold maxLen; omega) (by omega) (by simp; omega) (w6.heap.size + 1) (by simp) ?_; intro g1 cap wE hown hgrow hat hlt1)
      go_ret
      refine ⟨_, rfl, ?_, ?_⟩
      · obtain ⟨e1, e2, e3⟩ := unhide HX2
        rw [writeOps_move (unhide HFA) (by rw [unhide HFR]; exact (unhide HQ1).2 (unhide HAL)), unhide HFR, unhide HV]
        unfold OwnsCo
        rw [List.length_append, List.map_append, ← e1, ← e2, ← e3]
        have e9 : seq + ((M : Int) - 1) = seq + (N4 : Int) := by have := unhide HML; omega
        rw [e9] at hown
        simpa [coV] using hown
      · have hBE : Below (w.heap.size + 1) w6 wE := Below.grown ((Below.refl _ w6).alloc (by omega) _) hgrow (by simp; omega) (fun j e => (hRw.lt j e).1)
        exact hB06.trans (hBE.mono (by omega))
    · have heq : ((q : Int) == 1) = false := by simp; omega
      have hRw : w4.ownsRow (w.heap.size + 1) 75 1 (.slice none 0 0) 0 [] := World.ownsRow_nil _ _ _ _
      have HAL := hide hal
      clear c1 hal
      go_wp2_with (refine wpList_append_lies _ rfl (.tmp 48) (.tmp 56) 70 rfl (w.heap.size + 1) 75 i0 _ 1 16 Tryz.underlying70 hi hz0 hz1 hz2 rfl (by decide) (.slice none 0 0) 0 [] (by simp [Act.eval]) (by exact hRw.alloc _) ⟨w4.heap.size, 0, none⟩ 1 1 [progV (fi : Int) ⟨true, lg, seq, data⟩] (by simp [Act.eval]) rfl (World.news_of_block (cs := #[progV (fi : Int) ⟨true, lg, seq, data⟩]) (t := 75) (fr := (0, 0)) (by exact Go.Deep.blk_alloc_new _ _)) (by simp [Value.oneCell', progV]) (by omega) (by unfold maxLen; omega) (by omega) (by simp; omega) (w4.heap.size + 1) (by simp) ?_; intro g1 cap wE hown hgrow hat hlt1)
      go_ret
      refine ⟨_, rfl, ?_, ?_⟩
      · rw [writeOps_next (unhide HFA) (by rw [unhide HFR]; exact fun h => unhide HAL ((unhide HQ1).1 h)), unhide HFR]
        unfold OwnsCo
        simpa [coV] using hown
      · have hBE : Below (w.heap.size + 1) w4 wE := Below.grown ((Below.refl _ w4).alloc (by omega) _) hgrow (by simp; omega) (fun j e => (hRw.lt j e).1)
        exact hB04.trans (hBE.mono (by omega))

end Go.Proofs.YtalgkmellbamgaaGreat
