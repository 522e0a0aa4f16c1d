/- 1 texts in one. -/
import Derived.Test.YtalgkmellbamgaaGreatG34
import Derived.Test.YtalgkmellbamgaaGreatG35
import Derived.Test.YtalgkmellbamgaaGreatG33
import Derived.Test.YtalgkmellbamgaaGreatG36
import Derived.WalkKit
import Derived.Outline
import Derived.Deep.RegionHeld3
import Derived.Deep.DeepCutAuto

/- Many writes: the program's WrittenAll. -/
namespace Go.Proofs.YtalgkmellbamgaaGreat
open Go.RowKit
set_option linter.unusedVariables false
set_option linter.unusedSimpArgs false

theorem FtlOwn.off {w w' : World} {B T P : Nat} {a : Option Addr} {n c : Nat} {out : List Bk} {ma : Option Addr} {mn : Nat} {L : List Int} (h : FtlOwn w B T a n c out ma mn L) (hT : Touch (fun k => k = P) w w') (hP : T ≤ P ∨ P < B) : FtlOwn w' B T a n c out ma mn L := by
  obtain ⟨h0, h1, h2, h6, C, K, h3, h4, h5, h7⟩ := h
  have hne : ∀ g, ma = some ⟨g, 0, none⟩ → g ≠ P := fun g hg => by
    have h8 := h6 g hg
    rcases h2 with ⟨e, _⟩ | ⟨g', e, h9, _⟩
    · rw [hg] at e; cases e
    · rw [hg] at e; cases e; omega
  refine ⟨h0, fun i x hx => ?_, h2.touch' hT hne, h6, C, K, h3, h4.apart hT (fun k hk hh => by subst hk; omega), h5, h7⟩
  obtain ⟨b, o, ha, hc⟩ := h1 i x hx
  rcases h2 with ⟨e, _⟩ | ⟨g', e, h9, h10, _⟩
  · rw [ha] at e; cases e
  · have e2 := e
    rw [ha] at e
    cases e
    exact ⟨b, 0, ha, (World.cell?_of_block (w := w) (a := ⟨b, 0 + i, none⟩) (hT.block b h10 (hne b e2))).trans hc⟩
/-- What 'next, code := Written(g, ..)' leaves. -/
def MadeV (wz : World) (m : Mb) (x : Int × ByteArray) (v10 v11 : Value) (wx : World) : Prop :=
  ∃ P a2 n2 c2 ma2 mn2 mc2 m' code B T, v10 = .pointer (some ⟨P, 0, none⟩) ∧ v11 = .int .i64 code ∧ wz.heap.size ≤ P ∧ BoxAt wx P a2 n2 c2 ma2 mn2 mc2 m'.seq m'.o ∧ FtlOwn wx B T a2 n2 c2 m'.bs ma2 mn2 m'.L ∧ wz.heap.size ≤ B ∧ T ≤ wx.heap.size ∧ WrM m x m' code ∧ Below wz.heap.size wz wx
theorem MadeV.after {wz w3 : World} {m m' : Mb} {x : Int × ByteArray} {B : Nat} {a2 : Option Addr} {n2 c2 : Nat} {ma2 : Option Addr} {mn2 mc2 : Nat} {code : Int} (t : TypeId) (hB : Below wz.heap.size wz w3) (hM : FtlOwn w3 B w3.heap.size a2 n2 c2 m'.bs ma2 mn2 m'.L) (hBw : wz.heap.size ≤ B) (hW : WrM m x m' code) :
    MadeV wz m x (.pointer (some ⟨w3.heap.size, 0, none⟩)) (.int .i64 code) (w3.alloc (.cells #[.slice a2 n2 c2, .slice ma2 mn2 mc2, .int .i64 m'.seq, .int .i64 m'.o] t)) :=
  ⟨w3.heap.size, a2, n2, c2, ma2, mn2, mc2, m', code, B, w3.heap.size, rfl, rfl, hB.size, BoxAt.alloc _ _ _ _ _ _ _ _ _ _, hM.below ((Below.refl _ w3).alloc (Nat.le_refl _) _), hBw, by simp, hW, hB.alloc hB.size _⟩
theorem MadeV.ahead {wz w3 : World} {m m' : Mb} {x : Int × ByteArray} {P B : Nat} {a2 : Option Addr} {n2 c2 : Nat} {ma2 : Option Addr} {mn2 mc2 : Nat} {code : Int} (hB : Below wz.heap.size wz w3) (hP : wz.heap.size ≤ P) (hX : BoxAt w3 P none 0 0 none 0 0 0 0) (hM : FtlOwn w3 B w3.heap.size a2 n2 c2 m'.bs ma2 mn2 m'.L) (hBw : P + 1 ≤ B) (hW : WrM m x m' code) :
    MadeV wz m x (.pointer (some ⟨P, 0, none⟩)) (.int .i64 code) ((((w3.setCell ⟨P, 0, none⟩ (.slice a2 n2 c2)).setCell ⟨P, 1, none⟩ (.slice ma2 mn2 mc2)).setCell ⟨P, 2, none⟩ (.int .i64 m'.seq)).setCell ⟨P, 3, none⟩ (.int .i64 m'.o)) :=
  ⟨P, a2, n2, c2, ma2, mn2, mc2, m', code, B, w3.heap.size, rfl, rfl, hP, hX.store _ _ _ _ _ _ _ _, hM.off (set4B_touch w3 P _ _ _ _) (.inr (by omega)), by omega, Nat.le_of_eq (set4B_size w3 P _ _ _ _).symm, hW, set4B_below hB hP _ _ _ _⟩

set_option maxRecDepth 100000 in
set_option maxHeartbeats 4000000 in
theorem implWrittenAll_any (a : Option Addr) (c : Nat) (m : Mb) (n : Nat) (hl : m.bs.length = n) (ma : Option Addr) (mc : Nat) (mn : Nat) (hL : m.L.length = mn) (la : Option Addr) (lc : Nat) (lgs : List Int) (nl : Nat) (hnl : lgs.length = nl) (ta : Option Addr) (tc : Nat) (ds : List ByteArray) (nt : Nat) (hnt : ds.length = nt) (w : World)
    (h : BlocksAt w a m.bs) (hn : Lens 9223372036854775807 m.bs) (hI : IntsAt w ma m.L) (hmn : mn ≤ 9223372036854775807) (hla : IntsAt w la lgs) (hta : TextsAt w ta ds) (hd : ∀ d ∈ ds, d.size ≤ 1048576) (hnl9 : nl ≤ 1048576) (hnt9 : nt ≤ 1048576) :
    Calls Tryz.prog 15 #[.agg #[.slice a n c, .slice ma mn mc, .int .i64 m.seq, .int .i64 m.o], .slice la nl lc, .slice ta nt tc] w fun e w' => ∃ a2 n2 c2 ma2 mn2 mc2 m' code, e = .returned (.tuple #[.agg #[.slice a2 n2 c2, .slice ma2 mn2 mc2, .int .i64 m'.seq, .int .i64 m'.o], .int .i64 code]) ∧ WAllIs m lgs ds m' code ∧ FtlOwn w' w.heap.size w'.heap.size a2 n2 c2 m'.bs ma2 mn2 m'.L ∧ Below w.heap.size w w' := by
  have HA := hide h
  have HI := hide hI
  have HL := hide hl
  have HLL := hide hL
  have HN := hide hn
  have HLA := hide hla
  have HTA := hide hta
  have HNL := hide hnl
  have HNT := hide hnt
  have HD := hide hd
  clear h hI hl hL hn hla hta hnl hnt hd
  go_enter Tryz.func15, Tryz.ntmps15
  obtain ⟨w0, hw0⟩ : ∃ w0, w0 = (w.alloc (.cells #[.slice a n c, .slice ma mn mc, .int .i64 m.seq, .int .i64 m.o] 29)).alloc (.cells #[.slice none 0 0, .slice none 0 0, .int .i64 0, .int .i64 0] 29) := ⟨_, rfl⟩
  have hs0 : w0.heap.size = w.heap.size + 1 + 1 := by rw [hw0]; simp
  have hB0 : Below w.heap.size w w0 := by rw [hw0]; exact ((Below.refl _ w).alloc (Nat.le_refl _) _).alloc (by simp) _
  have HX0 : Hid (BoxAt w0 w.heap.size a n c ma mn mc m.seq m.o) := by rw [hw0]; exact (BoxAt.alloc _ _ _ _ _ _ _ _ _ _).below ((Below.refl _ _).alloc (Nat.le_refl _) _) (by simp)
  have HZ0 : Hid (BoxAt w0 (w.heap.size + 1) none 0 0 none 0 0 0 0) := by rw [hw0]; exact BoxAt.of_row (heap_alloc2_new _ _ _)
  have hsl : w.heap.size + 1 < w0.heap.size := by omega
  have hsw : w.heap.size < w0.heap.size := by omega
  obtain ⟨k0, k1, k2, k3⟩ := (unhide HX0).cells
  have HS0 := hide hs0
  clear hs0
  go_wp2_with fail
  rw [← hw0]
  clear hw0
  refine (rightCells_any a c m.bs n (unhide HL) ma mc m.L mn (unhide HLL) m.seq m.o _ ((unhide HA).below hB0 (Nat.le_refl _)) (unhide HN) ((unhide HI).below hB0 (Nat.le_refl _)) hmn).mono ?_
  rintro e w1 ⟨⟨cc, r, rfl, hr, hm⟩, hB1⟩
  have hs1 := hB1.size
  have hW1 := hB0.trans (hB1.mono hB0.size)
  have HX1 := hide ((unhide HX0).below hB1 hsw)
  have HZ1 := hide ((unhide HZ0).below hB1 hsl)
  have hsc := store_cc cc w1
  have hAs := ccA_size cc
  have HSZ := hide (sizeCC cc)
  have HR := hide hr
  have HM := hide hm
  have HCOPY : Hid (m.Ok → cc.count = m.bs.length → ccBs cc m.bs.length = m.bs → ∀ W, IntsAt W ma m.L → Calls Tryz.prog 32 #[.agg #[.slice a n c, .slice ma mn mc, .int .i64 m.seq, .int .i64 m.o], .agg (ccA cc)] W fun e w' => ∃ g ma2 mc2, e = .returned (.agg #[.slice (some ⟨g, 0, none⟩) n n, .slice ma2 mn mc2, .int .i64 m.seq, .int .i64 m.o]) ∧ FtlOwn w' W.heap.size w'.heap.size (some ⟨g, 0, none⟩) n n m.bs ma2 mn m.L ∧ Below W.heap.size W w') := fun hok hc hb W hW => copied_any (.slice a n c) ⟨a, n, c, rfl⟩ cc m.bs n (unhide HL) (by rw [hc, unhide HL]) (by rw [unhide HL] at hb; exact hb) ma mc m.L mn (unhide HLL) m.seq m.o hok W hW
  obtain ⟨A, hA⟩ : ∃ A, A = ccA cc := ⟨_, rfl⟩
  rw [← hA] at hsc hAs HSZ HCOPY ⊢
  obtain ⟨w2, hw2⟩ : ∃ w2, w2 = w1.alloc (.cells A 65) := ⟨_, rfl⟩
  have hs2 : w1.heap.size < w2.heap.size := by rw [hw2]; simp
  have hB2 : Below w1.heap.size w1 w2 := by rw [hw2]; exact (Below.refl _ w1).alloc (Nat.le_refl _) _
  have HR2 : Hid (w2.heap[w1.heap.size]? = some (.cells A 65 (0, 0))) := by rw [hw2]; exact World.alloc_heap_new _ _
  have hW2 := hW1.trans (hB2.mono hW1.size)
  have HX2 := hide ((unhide HX1).below hB2 (by omega))
  have HZ2 := hide ((unhide HZ1).below hB2 (by omega))
  rw [← hw2] at hsc
  clear hr hm hA hB0 hB1 hB2 hw2 HX0 HZ0 HX1 HZ1 k0 k1 k2 k3 hW1
  cases r with
  | false =>
    have HNO : Hid (¬ m.Ok) := fun hc => by have := (unhide HR).2 hc; cases this
    obtain ⟨W5, hW5⟩ : ∃ W5, W5 = set4B w2 (w.heap.size + 1) (.slice none 0 0) (.slice none 0 0) (.int .i64 0) (.int .i64 0) := ⟨_, rfl⟩
    have hY := BoxAt.store (unhide HZ2) none 0 0 none 0 0 0 0
    have hT5 := set4B_touch w2 (w.heap.size + 1) (.slice none 0 0) (.slice none 0 0) (.int .i64 0) (.int .i64 0)
    have hs5 := set4B_size w2 (w.heap.size + 1) (.slice none 0 0) (.slice none 0 0) (.int .i64 0) (.int .i64 0)
    have hWB := set4B_below hW2 (show w.heap.size ≤ w.heap.size + 1 by omega) (.slice none 0 0) (.slice none 0 0) (.int .i64 0) (.int .i64 0)
    rw [← hW5] at hY hT5 hs5 hWB
    have HF : Hid (FtlOwn W5 w.heap.size W5.heap.size none 0 0 [] none 0 []) := (FtlOwn.zero W5).lower hWB.size
    obtain ⟨z0, z1, z2, z3⟩ := (unhide HZ2).cells
    obtain ⟨f0, f1, f2, f3⟩ := (unhide HZ2).free
    obtain ⟨y0, y1, y2, y3⟩ := hY.cells
    clear hY hT5 hs5
    unfold set4B at hW5
    go_wp2
    try rw [← hW5]
    exact bodyPost_ret (v := .tuple #[.agg #[.slice none 0 0, .slice none 0 0, .int .i64 0, .int .i64 0], .int .i64 1]) (by simp [results, Tryz.results15, go_sem, y0, y1, y2, y3]) rfl ⟨none, 0, 0, none, 0, 0, Mb.zero, 1, rfl, .inl ⟨unhide HNO, rfl, rfl⟩, unhide HF, hWB⟩
  | true =>
    have hok : m.Ok := (unhide HR).1 (by trivial)
    obtain ⟨hct, hbss⟩ := unhide HM (by trivial)
    have HOK := hide hok
    have HCOP := hide (unhide HCOPY hok hct hbss)
    clear hok HR HM HCOPY hct hbss
    by_cases hmany : manyOk lgs ds
    case neg =>
      have hne : ¬ (nl = nt ∧ nl ≤ 100) := fun h => hmany ⟨by have := unhide HNL; have := unhide HNT; omega, by have := unhide HNL; omega⟩
      have HMY := hide hmany
      have hgo : (100 : Int) < (nl : Int) ∨ (¬ (100 : Int) < (nl : Int) ∧ ((nl : Int) != (nt : Int)) = true) := by
        by_cases e : 100 < nl
        · left; omega
        · right; exact ⟨by omega, by simp; omega⟩
      clear hmany hne
      rcases hgo with hgo | ⟨hgt, hgo⟩
      all_goals (
        obtain ⟨m0, m1, m2, m3⟩ := (unhide HX2).cells
        have HROWc := hide (unhide HR2)
        go_wp2_with (refine wpList_load_row rfl 65 _ rfl w1.heap.size rfl 65 A (0, 0) _ (unhide HROWc) Tryz.underlying65 rfl (unhide HSZ) ?_)
        refine (unhide HCOP _ ((unhide HI).below hW2 (Nat.le_refl _))).mono ?_
        rintro e w4 ⟨g2, ma2, mc2, rfl, hF4, hB4⟩
        have hs4 := hB4.size
        have hW4 := hW2.trans (hB4.mono hW2.size)
        have HZ6 := hide ((unhide HZ2).below hB4 (by omega))
        have HF6 := hide hF4
        have hS0 := unhide HS0
        clear hF4 hB4 m0 m1 m2 m3 HROWc
        obtain ⟨W5, hW5⟩ : ∃ W5, W5 = set4B w4 (w.heap.size + 1) (.slice (some ⟨g2, 0, none⟩) n n) (.slice ma2 mn mc2) (.int .i64 m.seq) (.int .i64 m.o) := ⟨_, rfl⟩
        have hY := BoxAt.store (unhide HZ6) (some ⟨g2, 0, none⟩) n n ma2 mn mc2 m.seq m.o
        have hT5 := set4B_touch w4 (w.heap.size + 1) (.slice (some ⟨g2, 0, none⟩) n n) (.slice ma2 mn mc2) (.int .i64 m.seq) (.int .i64 m.o)
        have hs5 := set4B_size w4 (w.heap.size + 1) (.slice (some ⟨g2, 0, none⟩) n n) (.slice ma2 mn mc2) (.int .i64 m.seq) (.int .i64 m.o)
        have hWB := set4B_below hW4 (show w.heap.size ≤ w.heap.size + 1 by omega) (.slice (some ⟨g2, 0, none⟩) n n) (.slice ma2 mn mc2) (.int .i64 m.seq) (.int .i64 m.o)
        rw [← hW5] at hY hT5 hs5 hWB
        have HF : Hid (FtlOwn W5 w.heap.size W5.heap.size (some ⟨g2, 0, none⟩) n n m.bs ma2 mn m.L) := by rw [hs5]; exact ((unhide HF6).touch hT5 (fun k hk => by rw [hk]; omega)).lower (by omega)
        obtain ⟨z0, z1, z2, z3⟩ := (unhide HZ6).cells
        obtain ⟨f0, f1, f2, f3⟩ := (unhide HZ6).free
        obtain ⟨y0, y1, y2, y3⟩ := hY.cells
        clear hY hT5 hs5
        unfold set4B at hW5
        go_wp2
        try rw [← hW5]
        exact bodyPost_ret (v := .tuple #[.agg #[.slice (some ⟨g2, 0, none⟩) n n, .slice ma2 mn mc2, .int .i64 m.seq, .int .i64 m.o], .int .i64 2]) (by simp [results, Tryz.results15, go_sem, y0, y1, y2, y3]) rfl ⟨(some ⟨g2, 0, none⟩), n, n, ma2, mn, mc2, m, 2, rfl, .inr (.inl ⟨unhide HOK, unhide HMY, rfl, rfl⟩), unhide HF, hWB⟩
        )
    case pos =>
      obtain ⟨hm1, hm2⟩ := hmany
      have hnn : nl = nt := by have := unhide HNL; have := unhide HNT; omega
      have hn100 : nl ≤ 100 := by have := unhide HNL; omega
      have HMY : Hid (manyOk lgs ds) := ⟨hm1, hm2⟩
      have hgo : ((nl : Int) != (nt : Int)) = false := by simp; omega
      have hgt : ¬ (100 : Int) < (nl : Int) := by omega
      have hZL : (lgs.zip ds).length = nl := by rw [List.length_zip, unhide HNL, unhide HNT, hnn]; omega
      have HZL := hide hZL
      clear hm1 hm2 hZL
      obtain ⟨m0, m1, m2, m3⟩ := (unhide HX2).cells
      have HROWc := hide (unhide HR2)
      go_wp2_with (refine wpList_load_row rfl 65 _ rfl w1.heap.size rfl 65 A (0, 0) _ (unhide HROWc) Tryz.underlying65 rfl (unhide HSZ) ?_)
      refine (unhide HCOP _ ((unhide HI).below hW2 (Nat.le_refl _))).mono ?_
      rintro e w3 ⟨g2, ma2, mc2, rfl, hF4, hB4⟩
      have hs4 := hB4.size
      have hW4 := hW2.trans (hB4.mono hW2.size)
      have HX3 := hide ((unhide HX2).below hB4 (by omega))
      have HZ3 := hide ((unhide HZ2).below hB4 (by omega))
      have HR3 := hide ((hB4.block w1.heap.size hs2).trans (unhide HR2))
      have HF3 := hide hF4
      have hS0 := unhide HS0
      clear hF4 hB4 HX2 HZ2 HR2 HROWc m0 m1 m2 m3 hgo hgt hsc hAs
      obtain ⟨wA, hwA⟩ : ∃ wA, wA = w3.alloc (.cells #[.slice (some ⟨g2, 0, none⟩) n n, .slice ma2 mn mc2, .int .i64 m.seq, .int .i64 m.o] 29) := ⟨_, rfl⟩
      have hBA : Below w3.heap.size w3 wA := by rw [hwA]; exact (Below.refl _ w3).alloc (Nat.le_refl _) _
      have HNA : Hid (BoxAt wA w3.heap.size (some ⟨g2, 0, none⟩) n n ma2 mn mc2 m.seq m.o) := by rw [hwA]; exact BoxAt.alloc _ _ _ _ _ _ _ _ _ _
      have HXA := hide ((unhide HX3).below hBA (by omega))
      have HZA := hide ((unhide HZ3).below hBA (by omega))
      have HRA := hide ((hBA.block w1.heap.size (by omega)).trans (unhide HR3))
      have HFA := hide ((unhide HF3).below hBA)
      have hsA := hBA.size
      have hWA := hW4.trans (hBA.mono hW4.size)
      have hPw : w.heap.size + 2 ≤ w3.heap.size := by omega
      clear hBA HX3 HZ3 HR3 HF3
      go_wp2
      rw [← hwA]
      clear hwA
      go_loopw [41] (fun i wr => ∃ (k : Nat) (a6 : Option Addr) (n6 c6 : Nat) (ma6 : Option Addr) (mn6 mc6 : Nat) (mk : Mb) (B T : Nat), k ≤ nl ∧ i = .int .i64 k ∧ BoxAt wr w3.heap.size a6 n6 c6 ma6 mn6 mc6 mk.seq mk.o ∧ BoxAt wr (w.heap.size + 1) none 0 0 none 0 0 0 0 ∧ BoxAt wr w.heap.size a n c ma mn mc m.seq m.o ∧ wr.heap[w1.heap.size]? = some (.cells A 65 (0, 0)) ∧ FtlOwn wr B T a6 n6 c6 mk.bs ma6 mn6 mk.L ∧ w.heap.size + 2 ≤ B ∧ T ≤ wr.heap.size ∧ (T ≤ w3.heap.size ∨ w3.heap.size < B) ∧ Steps ((lgs.zip ds).take k) m mk ∧ mk.Short ∧ Below w.heap.size w wr) (fun i _ => nl - (intOf i).toNat)
      case atStart =>
        exact ⟨0, _, n, n, ma2, mn, mc2, m, w2.heap.size, w3.heap.size, Nat.zero_le _, rfl, unhide HNA, unhide HZA, unhide HXA, unhide HRA, unhide HFA, by omega, by omega, .inl (Nat.le_refl _), rfl, (unhide HOK).short, hWA⟩
      case round =>
        obtain ⟨k, a6, n6, c6, ma6, mn6, mc6, mk, B, T, hk, rfl, hbox, hres, harg, hrow, hown, hB2, hTs, hTP, hst, hsh, hWr⟩ := hrel
        obtain ⟨wz, rfl⟩ : ∃ wz, wz = wr := ⟨_, rfl⟩
        have hPl := hbox.lt
        obtain ⟨y0, y1, y2, y3⟩ := hbox.cells
        have HBX := hide hbox
        have HRS := hide hres
        have HAR := hide harg
        have HRW := hide hrow
        have HOW := hide hown
        have HST := hide hst
        have hn6 : mn6 ≤ 9223372036854775807 := by have := hsh.2.2; have := hown.length.2; omega
        have HSH : Hid (Lens 9223372036854775807 mk.bs) := ⟨by have := hsh.1.1; omega, fun b hb => by have := hsh.1.2 b hb; omega⟩
        clear hbox hres harg hrow hown hst hsh HNA HZA HXA HRA HFA hWA
        by_cases hlt : k < nl
        · obtain ⟨lg, hlg⟩ := getElem?_ex (l := lgs) (k := k) (by have := unhide HNL; omega)
          obtain ⟨d, hdd⟩ := getElem?_ex (l := ds) (k := k) (by have := unhide HNT; omega)
          have HXK : Hid ((lgs.zip ds)[k]? = some (lg, d)) := List.getElem?_zip_eq_some.2 ⟨hlg, hdd⟩
          obtain ⟨b1, o1, rfl, g0⟩ := ((unhide HLA).below hWr (Nat.le_refl _)) k lg hlg
          obtain ⟨b2, o2, rfl, h0⟩ := ((unhide HTA).below hWr (Nat.le_refl _)) k d hdd
          have hd1 := unhide HD d (List.mem_of_getElem? hdd)
          have hb1 : b1 < wz.heap.size := World.block_lt_of_cell? _ _ g0
          have hb2 : b2 < wz.heap.size := World.block_lt_of_cell? _ _ h0
          clear hlg hdd
          have hkn : (k : Int) < (nl : Int) := by omega
          have hkt : (k : Int) < (nt : Int) := by omega
          go_upto_region 10 with fail
          go_cut [13, 14] from 46 to 63 (fun v10 v11 wx => MadeV wz mk (lg, d) v10 v11 wx)
          case first =>
            go_region_held3 (fun W => ∀ b o, b < wz.heap.size → W.cell? ⟨b, o, none⟩ = wz.cell? ⟨b, o, none⟩)
              (first
                | (intro b o hb; rfl)
                | (intro b o hb; exact (unhide HZ4).cell (p := ⟨b, o, none⟩) hb)
                | (intro b o hb; rw [cell_drew, cell_alloc_lt _ _ _ _ (by omega)])
                | (intro b o hb; rw [cell_alloc_lt _ _ _ _ (by omega)]; exact (unhide HZ4).cell (p := ⟨b, o, none⟩) hb)
                | (intro b o hb; rw [World.cell?_setCell_other _ _ _ _ (by simp <;> omega), World.cell?_setCell_other _ _ _ _ (by simp <;> omega), World.cell?_setCell_other _ _ _ _ (by simp <;> omega), World.cell?_setCell_other _ _ _ _ (by simp <;> omega)]; exact (unhide HZ4).cell (p := ⟨b, o, none⟩) hb))
              (first
                | (go_at_call 9
                   refine (implWritten_any a6 c6 mk.bs n6 (unhide HOW).length.1 ma6 mc6 mk.L mn6 (unhide HOW).length.2 mk.seq mk.o lg d _ (by first | exact (unhide HOW).blocksAt.below (Below.refl wz.heap.size wz).drew (Nat.le_refl _) | exact (unhide HOW).blocksAt.below ((Below.refl wz.heap.size wz).alloc (Nat.le_refl _) _).drew (Nat.le_refl _) | exact (unhide HOW).blocksAt.below ((Below.refl wz.heap.size wz).drew.alloc (Nat.le_refl _) _) (Nat.le_refl _)) (unhide HSH) (by first | exact (unhide HOW).2.1.below (Below.refl wz.heap.size wz).drew (Nat.le_refl _) | exact (unhide HOW).2.1.below ((Below.refl wz.heap.size wz).alloc (Nat.le_refl _) _).drew (Nat.le_refl _) | exact (unhide HOW).2.1.below ((Below.refl wz.heap.size wz).drew.alloc (Nat.le_refl _) _) (Nat.le_refl _)) hn6 hd1).mono ?_
                   rintro e w4 ⟨a8, n8, c8, ma8, mn8, mc8, bs8, L8, s8, o8, code, rfl, hWI, hO8, hB4⟩
                   have HZ4 : Hid (Below wz.heap.size wz w4) := by
                     first
                       | exact (Below.refl wz.heap.size wz).drew.trans hB4
                       | exact ((Below.refl wz.heap.size wz).alloc (Nat.le_refl _) _).drew.trans (hB4.mono (by simp))
                       | exact ((Below.refl wz.heap.size wz).drew.alloc (Nat.le_refl _) _).trans (hB4.mono (by simp))
                   have hs4 := (unhide HZ4).size
                   try have HBW : Hid (BoxAt w4 wz.heap.size none 0 0 none 0 0 0 0) := by first | exact (BoxAt.alloc wz _ _ _ _ _ _ _ _ _).below hB4 (by simp) | exact (BoxAt.alloc wz.drew _ _ _ _ _ _ _ _ _).below hB4 (by simp)
                   try have hcw0 := (unhide HBW).cells.1
                   try have hcw1 := (unhide HBW).cells.2.1
                   try have hcw2 := (unhide HBW).cells.2.2.1
                   try have hcw3 := (unhide HBW).cells.2.2.2
                   try have hfw0 := (unhide HBW).2 0
                   try have hfw1 := (unhide HBW).2 1
                   try have hfw2 := (unhide HBW).2 2
                   try have hfw3 := (unhide HBW).2 3
                   have HWM : Hid (WrM mk (lg, d) ⟨bs8, L8, s8, o8⟩ code) := hWI
                   have HM4 := hide hO8
                   clear hWI hO8 hB4))
            all_goals (
              go_wp2_with fail
              go_meet
              first
                | exact MadeV.after (m' := ⟨bs8, L8, s8, o8⟩) _ (unhide HZ4) (unhide HM4) (by simp) (unhide HWM)
                | exact MadeV.ahead (m' := ⟨bs8, L8, s8, o8⟩) (unhide HZ4) (Nat.le_refl _) (unhide HBW) (unhide HM4) (by simp) (unhide HWM))
          case rest =>
            obtain ⟨P8, a8, n8, c8, ma8, mn8, mc8, m8, code, B8, T8, rfl, rfl, hP8, hbox8, hown8, hBB8, hTT8, hWM, hZ5⟩ := hcut
            rename World => w5
            have hs5 := hZ5.size
            have hW5 := hWr.trans (hZ5.mono hWr.size)
            have HB5 := hide ((unhide HBX).below hZ5 hPl)
            have HR5 := hide ((unhide HRS).below hZ5 (by omega))
            have HA5 := hide ((unhide HAR).below hZ5 (by omega))
            have HRW5 := hide ((hZ5.block w1.heap.size (by omega)).trans (unhide HRW))
            have HM8 := hide hown8
            have HX8 := hide hbox8
            have HWM := hide hWM
            have hPl5 : w3.heap.size < w5.heap.size := by omega
            clear hZ5 hown8 hbox8 hWM HBX HRS HAR HOW HRW g0 h0 y0 y1 y2 y3
            by_cases hc0 : code = 0
            · subst hc0
              obtain ⟨x0, x1, x2, x3⟩ := (unhide HX8).cells
              obtain ⟨z0, z1, z2, z3⟩ := (unhide HB5).cells
              obtain ⟨f0, f1, f2, f3⟩ := (unhide HB5).free
              have hY := (unhide HB5).store a8 n8 c8 ma8 mn8 mc8 m8.seq m8.o
              have hT := set4B_touch w5 w3.heap.size (.slice a8 n8 c8) (.slice ma8 mn8 mc8) (.int .i64 m8.seq) (.int .i64 m8.o)
              have hsz := set4B_size w5 w3.heap.size (.slice a8 n8 c8) (.slice ma8 mn8 mc8) (.int .i64 m8.seq) (.int .i64 m8.o)
              have hWB := set4B_below hW5 (show w.heap.size ≤ w3.heap.size by omega) (.slice a8 n8 c8) (.slice ma8 mn8 mc8) (.int .i64 m8.seq) (.int .i64 m8.o)
              have HY := hide hY
              have HF := hide ((unhide HM8).off hT (.inr (by omega)))
              have HR6 := hide ((unhide HR5).touch hT (by omega))
              have HA6 := hide ((unhide HA5).touch hT (by omega))
              have HRW6 := hide ((hT.block w1.heap.size (by omega) (by omega)).trans (unhide HRW5))
              have HWB := hide hWB
              have HTT : Hid (T8 ≤ (set4B w5 w3.heap.size (.slice a8 n8 c8) (.slice ma8 mn8 mc8) (.int .i64 m8.seq) (.int .i64 m8.o)).heap.size) := by rw [hsz]; exact hTT8
              clear hY hT hWB hsz
              go_wp2
              go_roundw
              case rel =>
                exact ⟨k + 1, a8, n8, c8, ma8, mn8, mc8, m8, B8, T8, by omega, by go_num, unhide HY, unhide HR6, unhide HA6, unhide HRW6, unhide HF, by omega, unhide HTT, .inr (by omega), steps_snoc (unhide HXK) (unhide HST) (unhide HWM), (unhide HWM).short, unhide HWB⟩
              case measure => simp [intOf]; omega
            · have hne : (code != 0) = true := by simpa using hc0
              have HSP : Hid (Stops (lgs.zip ds) m code) := ⟨hc0, k, _, mk, m8, unhide HXK, unhide HST, unhide HWM⟩
              obtain ⟨m0, m1, m2, m3⟩ := (unhide HA5).cells
              have HROWc := hide (unhide HRW5)
              go_wp2_with (refine wpList_load_row rfl 65 _ rfl w1.heap.size rfl 65 A (0, 0) _ (unhide HROWc) Tryz.underlying65 rfl (unhide HSZ) ?_)
              refine (unhide HCOP _ ((unhide HI).below hW5 (Nat.le_refl _))).mono ?_
              rintro e w6 ⟨g2, ma2, mc2, rfl, hF4, hB4⟩
              have hs4 := hB4.size
              have hW4 := hW5.trans (hB4.mono hW5.size)
              have HZ6 := hide ((unhide HR5).below hB4 (by omega))
              have HF6 := hide hF4
              clear hF4 hB4 m0 m1 m2 m3 HB5 HR5 HA5 HX8 HROWc HRW5
              obtain ⟨W5, hW5⟩ : ∃ W5, W5 = set4B w6 (w.heap.size + 1) (.slice (some ⟨g2, 0, none⟩) n n) (.slice ma2 mn mc2) (.int .i64 m.seq) (.int .i64 m.o) := ⟨_, rfl⟩
              have hY := BoxAt.store (unhide HZ6) (some ⟨g2, 0, none⟩) n n ma2 mn mc2 m.seq m.o
              have hT5 := set4B_touch w6 (w.heap.size + 1) (.slice (some ⟨g2, 0, none⟩) n n) (.slice ma2 mn mc2) (.int .i64 m.seq) (.int .i64 m.o)
              have hs5b := set4B_size w6 (w.heap.size + 1) (.slice (some ⟨g2, 0, none⟩) n n) (.slice ma2 mn mc2) (.int .i64 m.seq) (.int .i64 m.o)
              have hWB := set4B_below hW4 (show w.heap.size ≤ w.heap.size + 1 by omega) (.slice (some ⟨g2, 0, none⟩) n n) (.slice ma2 mn mc2) (.int .i64 m.seq) (.int .i64 m.o)
              rw [← hW5] at hY hT5 hs5b hWB
              have HF : Hid (FtlOwn W5 w.heap.size W5.heap.size (some ⟨g2, 0, none⟩) n n m.bs ma2 mn m.L) := by rw [hs5b]; exact ((unhide HF6).touch hT5 (fun k hk => by rw [hk]; omega)).lower (by omega)
              obtain ⟨z0, z1, z2, z3⟩ := (unhide HZ6).cells
              obtain ⟨f0, f1, f2, f3⟩ := (unhide HZ6).free
              obtain ⟨y0, y1, y2, y3⟩ := hY.cells
              clear hY hT5 hs5b
              unfold set4B at hW5
              go_wp2
              try rw [← hW5]
              exact bodyPost_ret (v := .tuple #[.agg #[.slice (some ⟨g2, 0, none⟩) n n, .slice ma2 mn mc2, .int .i64 m.seq, .int .i64 m.o], .int .i64 code]) (by simp [results, Tryz.results15, go_sem, y0, y1, y2, y3]) rfl ⟨(some ⟨g2, 0, none⟩), n, n, ma2, mn, mc2, m, code, rfl, .inr (.inr (.inl ⟨unhide HOK, unhide HMY, rfl, unhide HSP⟩)), unhide HF, hWB⟩
        · obtain rfl : k = nl := by omega
          have hall : Steps (lgs.zip ds) m mk := by
            have h1 := unhide HST
            rw [← unhide HZL, List.take_length] at h1
            exact h1
          have HALL := hide hall
          clear hall
          obtain ⟨W5, hW5⟩ : ∃ W5, W5 = set4B wz (w.heap.size + 1) (.slice a6 n6 c6) (.slice ma6 mn6 mc6) (.int .i64 mk.seq) (.int .i64 mk.o) := ⟨_, rfl⟩
          have hY := BoxAt.store (unhide HRS) a6 n6 c6 ma6 mn6 mc6 mk.seq mk.o
          have hT5 := set4B_touch wz (w.heap.size + 1) (.slice a6 n6 c6) (.slice ma6 mn6 mc6) (.int .i64 mk.seq) (.int .i64 mk.o)
          have hs5 := set4B_size wz (w.heap.size + 1) (.slice a6 n6 c6) (.slice ma6 mn6 mc6) (.int .i64 mk.seq) (.int .i64 mk.o)
          have hWB := set4B_below hWr (show w.heap.size ≤ w.heap.size + 1 by omega) (.slice a6 n6 c6) (.slice ma6 mn6 mc6) (.int .i64 mk.seq) (.int .i64 mk.o)
          rw [← hW5] at hY hT5 hs5 hWB
          have HF : Hid (FtlOwn W5 w.heap.size W5.heap.size a6 n6 c6 mk.bs ma6 mn6 mk.L) := by rw [hs5]; exact (((unhide HOW).touch hT5 (fun k hk => by rw [hk]; omega)).lower (by omega)).higher hTs
          obtain ⟨z0, z1, z2, z3⟩ := (unhide HRS).cells
          obtain ⟨f0, f1, f2, f3⟩ := (unhide HRS).free
          obtain ⟨y0, y1, y2, y3⟩ := hY.cells
          clear hY hT5 hs5
          unfold set4B at hW5
          go_wp2
          try rw [← hW5]
          exact bodyPost_ret (v := .tuple #[.agg #[.slice a6 n6 c6, .slice ma6 mn6 mc6, .int .i64 mk.seq, .int .i64 mk.o], .int .i64 0]) (by simp [results, Tryz.results15, go_sem, y0, y1, y2, y3]) rfl ⟨a6, n6, c6, ma6, mn6, mc6, mk, 0, rfl, .inr (.inr (.inr ⟨unhide HOK, unhide HMY, unhide HALL, rfl⟩)), unhide HF, hWB⟩
end Go.Proofs.YtalgkmellbamgaaGreat
