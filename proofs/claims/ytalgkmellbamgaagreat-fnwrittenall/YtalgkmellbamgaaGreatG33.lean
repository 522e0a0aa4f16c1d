/- 1 texts in one. -/
import Derived.Test.YtalgkmellbamgaaGreatG29
import Derived.Test.YtalgkmellbamgaaGreatG31
import Derived.Test.YtalgkmellbamgaaGreatG32
import Derived.WalkKit
import Derived.Outline
import Derived.Deep.DeepCutAuto

/- A write: the program's Written. -/
namespace Go.Proofs.YtalgkmellbamgaaGreat
open Go.RowKit
set_option linter.unusedVariables false
set_option linter.unusedSimpArgs false

theorem FtlOwn.zero (w : World) : FtlOwn w w.heap.size w.heap.size none 0 0 [] none 0 [] :=
  ⟨rfl, (fun i x hx => by simp at hx), .inl ⟨rfl, rfl⟩, (fun g hg => by cases hg), w.heap.size, w.heap.size, Nat.le_refl _, ⟨rfl, .inl ⟨rfl, rfl, rfl⟩⟩, Nat.le_refl _, (fun g hg => by cases hg)⟩
theorem writeOps_last (bs : List Bk) (L : List Int) (seq o lg : Int) (data : ByteArray) : (lastOp (writeOps bs L seq o lg data)).kind = 1 := by
  unfold writeOps
  split
  · split
    · simp [lastOp]
    · simp [lastOp]
  · simp [lastOp]

set_option maxRecDepth 100000 in
set_option maxHeartbeats 4000000 in
theorem implWritten_any (a : Option Addr) (c : Nat) (bs : List Bk) (n : Nat) (hl : bs.length = n) (ma : Option Addr) (mc : Nat) (L : List Int) (mn : Nat) (hL : L.length = mn) (seq o lg : Int) (data : ByteArray) (w : World) (h : BlocksAt w a bs) (hn : Lens 9223372036854775807 bs) (hI : IntsAt w ma L) (hmn : mn ≤ 9223372036854775807) (hd : data.size ≤ 1048576) :
    Calls Tryz.prog 9 #[.agg #[.slice a n c, .slice ma mn mc, .int .i64 seq, .int .i64 o], .int .i64 lg, .string data] w fun e w' => ∃ a2 n2 c2 ma2 mn2 mc2 bs' L' seq' o' code, e = .returned (.tuple #[.agg #[.slice a2 n2 c2, .slice ma2 mn2 mc2, .int .i64 seq', .int .i64 o'], .int .i64 code]) ∧ WrittenIs bs L seq o lg data bs' L' seq' o' code ∧ FtlOwn w' w.heap.size w'.heap.size a2 n2 c2 bs' ma2 mn2 L' ∧ Below w.heap.size w w' := by
  have HA := hide h
  have HI := hide hI
  have HL := hide hl
  have HLL := hide hL
  have HN := hide hn
  clear h hI hl hL hn
  go_enter Tryz.func9, Tryz.ntmps9
  obtain ⟨w0, hw0⟩ : ∃ w0, w0 = (w.alloc (.cells #[.slice a n c, .slice ma mn mc, .int .i64 seq, .int .i64 o] 29)).alloc (.cells #[.slice none 0 0, .slice none 0 0, .int .i64 0, .int .i64 0] 29) := ⟨_, rfl⟩
  have hs0 : w0.heap.size = w.heap.size + 1 + 1 := by rw [hw0]; simp
  have hB0 : Below w.heap.size w w0 := by rw [hw0]; exact ((Below.refl _ w).alloc (Nat.le_refl _) _).alloc (by simp) _
  have hx0 : ∀ i, w0.cell? ⟨w.heap.size, i, none⟩ = (#[Value.slice a n c, .slice ma mn mc, .int .i64 seq, .int .i64 o])[i]? := fun i => by
    rw [hw0, cell_alloc_lt _ _ _ _ (by simp)]
    simp
  have hr0 : w0.heap[w.heap.size + 1]? = some (.cells #[.slice none 0 0, .slice none 0 0, .int .i64 0, .int .i64 0] 29 (0, 0)) := by rw [hw0]; exact heap_alloc2_new _ _ _
  have k0 := hx0 0
  have k1 := hx0 1
  have k2 := hx0 2
  have k3 := hx0 3
  simp at k0 k1 k2 k3
  have HZR : Hid (∀ W, Below w0.heap.size w0 W → (∀ i, W.cell? ⟨w.heap.size + 1, i, none⟩ = (#[Value.slice none 0 0, .slice none 0 0, .int .i64 0, .int .i64 0])[i]?) ∧ ∀ i, W.frozen? ⟨w.heap.size + 1, i, none⟩ = false) := fun W hW => by
    have hr := (hW.block (w.heap.size + 1) (by omega)).trans hr0
    exact ⟨fun i => cell_of_row _ _ i _ _ _ hr, fun i => frozen_of_row _ _ i _ _ hr⟩
  have HS0 := hide hs0
  have hsl : w.heap.size + 1 < w0.heap.size := by omega
  have hsw : w.heap.size < w0.heap.size := by omega
  have HB0 := hide hB0
  clear hx0 hr0 hs0
  go_wp2_with fail
  rw [← hw0]
  clear hw0
  refine (rightCells_any a c bs n (unhide HL) ma mc L mn (unhide HLL) seq o _ ((unhide HA).below hB0 (Nat.le_refl _)) (unhide HN) ((unhide HI).below hB0 (Nat.le_refl _)) hmn).mono ?_
  rintro e w1 ⟨⟨m, r, rfl, hr, hm⟩, hB1⟩
  have hs1 := hB1.size
  have HB1 := hide hB1
  have hW1 := hB0.trans (hB1.mono hB0.size)
  have m0 := (hB1.cell (p := ⟨w.heap.size, 0, none⟩) (by show w.heap.size < _; omega)).trans k0
  have m1 := (hB1.cell (p := ⟨w.heap.size, 1, none⟩) (by show w.heap.size < _; omega)).trans k1
  have m2 := (hB1.cell (p := ⟨w.heap.size, 2, none⟩) (by show w.heap.size < _; omega)).trans k2
  have m3 := (hB1.cell (p := ⟨w.heap.size, 3, none⟩) (by show w.heap.size < _; omega)).trans k3
  have hsc := store_cc m w1
  have hAs := ccA_size m
  have HSZ := hide (sizeCC m)
  have HR := hide hr
  have HM := hide hm
  have HAP := hide (fun b i hb hi => ccA_pages m (b := b) (i := i) hb hi)
  have HCI : Hid (∀ hc : m.count = bs.length, ∀ hb : ccBs m bs.length = bs, n ≤ 12 → CellsIs (ccA m) m bs n) := fun hc hb h12 => CellsIs.of (unhide HL) h12 hc hb
  obtain ⟨A, hA⟩ : ∃ A, A = ccA m := ⟨_, rfl⟩
  have HAA := hide hA
  rw [← hA] at hsc hAs HSZ HAP HCI ⊢
  clear hr hm hA hB0 hB1 k0 k1 k2 k3
  obtain ⟨w2, hw2⟩ : ∃ w2, w2 = w1.alloc (.cells A 65) := ⟨_, rfl⟩
  have hs2 : w1.heap.size < w2.heap.size := by rw [hw2]; simp
  have hB2 : Below w1.heap.size w1 w2 := by rw [hw2]; exact (Below.refl _ w1).alloc (Nat.le_refl _) _
  have HR2 : Hid (w2.heap[w1.heap.size]? = some (.cells A 65 (0, 0))) := by rw [hw2]; exact World.alloc_heap_new _ _
  have hW2 := hW1.trans (hB2.mono hW1.size)
  have HB2 := hide ((unhide HB1).trans (hB2.mono hs1))
  have c0 := (hB2.cell (p := ⟨w.heap.size, 0, none⟩) (by show w.heap.size < _; omega)).trans m0
  have c1 := (hB2.cell (p := ⟨w.heap.size, 1, none⟩) (by show w.heap.size < _; omega)).trans m1
  have c2 := (hB2.cell (p := ⟨w.heap.size, 2, none⟩) (by show w.heap.size < _; omega)).trans m2
  have c3 := (hB2.cell (p := ⟨w.heap.size, 3, none⟩) (by show w.heap.size < _; omega)).trans m3
  rw [← hw2] at hsc
  clear m0 m1 m2 m3 hW1 hw2 hB2 HB1
  cases r with
  | false =>
    obtain ⟨hzc, hzf⟩ := unhide HZR w2 (unhide HB2)
    have z0 := hzc 0
    have z1 := hzc 1
    have z2 := hzc 2
    have z3 := hzc 3
    simp at z0 z1 z2 z3
    have f0 := hzf 0
    have f1 := hzf 1
    have f2 := hzf 2
    have f3 := hzf 3
    clear hzc hzf
    obtain ⟨W5, hW5⟩ : ∃ W5, W5 = ((((w2.setCell ⟨w.heap.size + 1, 0, none⟩ (.slice none 0 0)).setCell ⟨w.heap.size + 1, 1, none⟩ (.slice none 0 0)).setCell ⟨w.heap.size + 1, 2, none⟩ (.int .i64 0)).setCell ⟨w.heap.size + 1, 3, none⟩ (.int .i64 0)) := ⟨_, rfl⟩
    have y0 : W5.cell? ⟨w.heap.size + 1, 0, none⟩ = some (.slice none 0 0) := by rw [hW5, World.cell?_setCell_other _ _ _ _ (by simp), World.cell?_setCell_other _ _ _ _ (by simp), World.cell?_setCell_other _ _ _ _ (by simp), World.cell?_setCell_same' _ _ _ (by rw [z0]; rfl)]
    have y1 : W5.cell? ⟨w.heap.size + 1, 1, none⟩ = some (.slice none 0 0) := by rw [hW5, World.cell?_setCell_other _ _ _ _ (by simp), World.cell?_setCell_other _ _ _ _ (by simp), World.cell?_setCell_same' _ _ _ (by rw [World.cell?_setCell_other _ _ _ _ (by simp), z1]; rfl)]
    have y2 : W5.cell? ⟨w.heap.size + 1, 2, none⟩ = some (.int .i64 0) := by rw [hW5, World.cell?_setCell_other _ _ _ _ (by simp), World.cell?_setCell_same' _ _ _ (by rw [World.cell?_setCell_other _ _ _ _ (by simp), World.cell?_setCell_other _ _ _ _ (by simp), z2]; rfl)]
    have y3 : W5.cell? ⟨w.heap.size + 1, 3, none⟩ = some (.int .i64 0) := by rw [hW5, World.cell?_setCell_same' _ _ _ (by rw [World.cell?_setCell_other _ _ _ _ (by simp), World.cell?_setCell_other _ _ _ _ (by simp), World.cell?_setCell_other _ _ _ _ (by simp), z3]; rfl)]
    have hT5 := touch4 w2 (w.heap.size + 1) (.slice none 0 0) (.slice none 0 0) (.int .i64 0) (.int .i64 0)
    rw [← hW5] at hT5
    have hs5 : W5.heap.size = w2.heap.size := by rw [hW5]; simp [World.setCell]
    have hWW : Below w.heap.size w W5 := hW2.trans (hT5.below (by omega) (fun k hk => by rw [hk]; omega))
    clear c0 c1 c2 c3 hT5
    go_wp2
    try rw [← hW5]
    exact bodyPost_ret (v := .tuple #[.agg #[.slice none 0 0, .slice none 0 0, .int .i64 0, .int .i64 0], .int .i64 1]) (by simp [results, Tryz.results9, go_sem, y0, y1, y2, y3]) rfl ⟨none, 0, 0, none, 0, 0, [], [], 0, 0, 1, rfl, .inl ⟨(fun hc => by have := (unhide HR).2 hc; cases this), rfl, rfl, rfl, rfl, rfl⟩, ((FtlOwn.zero W5).lower hWW.size), hWW⟩
  | true =>
    have hok := (unhide HR).1 (by trivial)
    have hc12 : 4 ≤ n ∧ n ≤ 12 := by have := hok.chip.count; have := unhide HL; omega
    obtain ⟨hct, hbss⟩ := unhide HM (by trivial)
    have HC := hide (unhide HCI hct hbss hc12.2)
    have HOK := hide hok
    have HCT := hide (And.intro hct hbss)
    clear hok hct hbss HM HCI
    go_wp2_with fail
    refine wp_load_row 65 _ rfl w1.heap.size rfl 65 A (0, 0) _ (unhide HR2) Tryz.underlying65 rfl (unhide HSZ) ?_
    go_wp2_with fail
    refine (writeRefusal_any A m bs n (unhide HC) hc12.1 seq lg data hd _).mono ?_
    rintro e w3 ⟨code, rfl, hcode, hB3⟩
    have hs3 := hB3.size
    have hW3 := hW2.trans (hB3.mono hW2.size)
    have HB3 := hide ((unhide HB2).trans (hB3.mono (by omega)))
    have d0 := (hB3.cell (p := ⟨w.heap.size, 0, none⟩) (by show w.heap.size < _; omega)).trans c0
    have d1 := (hB3.cell (p := ⟨w.heap.size, 1, none⟩) (by show w.heap.size < _; omega)).trans c1
    have d2 := (hB3.cell (p := ⟨w.heap.size, 2, none⟩) (by show w.heap.size < _; omega)).trans c2
    have d3 := (hB3.cell (p := ⟨w.heap.size, 3, none⟩) (by show w.heap.size < _; omega)).trans c3
    have HR3 := hide ((hB3.block w1.heap.size hs2).trans (unhide HR2))
    have HCODE := hide hcode
    clear hcode hB3 HR2 c0 c1 c2 c3 hsc hW2 hAs HB2
    by_cases h0 : code = 0
    case neg =>
      have hne : (code != 0) = true := by simpa using h0
      go_wp2_with (refine wpList_load_row rfl 65 _ rfl w1.heap.size rfl 65 A (0, 0) _ (unhide HR3) Tryz.underlying65 rfl (unhide HSZ) ?_)
      have hcop := copied_any (.slice a n c) ⟨a, n, c, rfl⟩ m bs n (unhide HL) (by rw [(unhide HCT).1, unhide HL]) (by have := (unhide HCT).2; rw [unhide HL] at this; exact this) ma mc L mn (unhide HLL) seq o (unhide HOK) w3 ((unhide HI).below hW3 (Nat.le_refl _))
      rw [← unhide HAA] at hcop
      refine hcop.mono ?_
      rintro e w4 ⟨g, ma2, mc2, rfl, hF, hB4⟩
      have hs4 := hB4.size
      have hW4 := hW3.trans (hB4.mono hW3.size)
      have HB4 := hide ((unhide HB3).trans (hB4.mono (by omega)))
      clear hB4 hcop
      obtain ⟨hzc, hzf⟩ := unhide HZR w4 (unhide HB4)
      have z0 := hzc 0
      have z1 := hzc 1
      have z2 := hzc 2
      have z3 := hzc 3
      simp at z0 z1 z2 z3
      have f0 := hzf 0
      have f1 := hzf 1
      have f2 := hzf 2
      have f3 := hzf 3
      clear hzc hzf
      obtain ⟨W5, hW5⟩ : ∃ W5, W5 = ((((w4.setCell ⟨w.heap.size + 1, 0, none⟩ (.slice (some ⟨g, 0, none⟩) n n)).setCell ⟨w.heap.size + 1, 1, none⟩ (.slice ma2 mn mc2)).setCell ⟨w.heap.size + 1, 2, none⟩ (.int .i64 seq)).setCell ⟨w.heap.size + 1, 3, none⟩ (.int .i64 o)) := ⟨_, rfl⟩
      have y0 : W5.cell? ⟨w.heap.size + 1, 0, none⟩ = some (.slice (some ⟨g, 0, none⟩) n n) := by rw [hW5, World.cell?_setCell_other _ _ _ _ (by simp), World.cell?_setCell_other _ _ _ _ (by simp), World.cell?_setCell_other _ _ _ _ (by simp), World.cell?_setCell_same' _ _ _ (by rw [z0]; rfl)]
      have y1 : W5.cell? ⟨w.heap.size + 1, 1, none⟩ = some (.slice ma2 mn mc2) := by rw [hW5, World.cell?_setCell_other _ _ _ _ (by simp), World.cell?_setCell_other _ _ _ _ (by simp), World.cell?_setCell_same' _ _ _ (by rw [World.cell?_setCell_other _ _ _ _ (by simp), z1]; rfl)]
      have y2 : W5.cell? ⟨w.heap.size + 1, 2, none⟩ = some (.int .i64 seq) := by rw [hW5, World.cell?_setCell_other _ _ _ _ (by simp), World.cell?_setCell_same' _ _ _ (by rw [World.cell?_setCell_other _ _ _ _ (by simp), World.cell?_setCell_other _ _ _ _ (by simp), z2]; rfl)]
      have y3 : W5.cell? ⟨w.heap.size + 1, 3, none⟩ = some (.int .i64 o) := by rw [hW5, World.cell?_setCell_same' _ _ _ (by rw [World.cell?_setCell_other _ _ _ _ (by simp), World.cell?_setCell_other _ _ _ _ (by simp), World.cell?_setCell_other _ _ _ _ (by simp), z3]; rfl)]
      have hT5 := touch4 w4 (w.heap.size + 1) (.slice (some ⟨g, 0, none⟩) n n) (.slice ma2 mn mc2) (.int .i64 seq) (.int .i64 o)
      rw [← hW5] at hT5
      have hs5 : W5.heap.size = w4.heap.size := by rw [hW5]; simp [World.setCell]
      have hWW : Below w.heap.size w W5 := hW4.trans (hT5.below (by omega) (fun k hk => by rw [hk]; omega))
      have HFF : Hid (FtlOwn W5 w.heap.size W5.heap.size (some ⟨g, 0, none⟩) n n bs ma2 mn L) := by rw [hs5]; exact (hF.touch hT5 (fun k hk => by rw [hk]; omega)).lower (by omega)
      have HWI : Hid (WrittenIs bs L seq o lg data bs L seq o code) := by
        rcases unhide HCODE with ⟨rfl, h⟩ | ⟨rfl, h, h2⟩ | ⟨h, _⟩
        · exact .inr (.inl ⟨unhide HOK, h, rfl, rfl, rfl, rfl, rfl⟩)
        · exact .inr (.inr (.inl ⟨unhide HOK, h, h2, rfl, rfl, rfl, rfl, rfl⟩))
        · exact absurd h h0
      clear d0 d1 d2 d3 hT5 hF
      go_wp2
      try rw [← hW5]
      exact bodyPost_ret (v := .tuple #[.agg #[.slice (some ⟨g, 0, none⟩) n n, .slice ma2 mn mc2, .int .i64 seq, .int .i64 o], .int .i64 code]) (by simp [results, Tryz.results9, go_sem, y0, y1, y2, y3]) rfl ⟨some ⟨g, 0, none⟩, n, n, ma2, mn, mc2, bs, L, seq, o, code, rfl, unhide HWI, unhide HFF, hWW⟩
    case pos =>
      subst h0
      have HFR : Hid (formOk bs lg data ∧ roomy bs seq) := by
        rcases unhide HCODE with ⟨h, _⟩ | ⟨h, _⟩ | ⟨_, h1, h2⟩
        · omega
        · omega
        · exact ⟨h1, h2⟩
      clear HCODE
      go_wp2_with (refine wpList_load_row rfl 65 _ rfl w1.heap.size rfl 65 A (0, 0) _ (unhide HR3) Tryz.underlying65 rfl (unhide HSZ) ?_)
      refine (writeOps_any A m bs n (unhide HC) (unhide HAP) (.slice a n c) ma mc L mn (unhide HLL) seq o lg data (unhide HOK) _ ((unhide HI).below hW3 (Nat.le_refl _))).mono ?_
      rintro e w4 ⟨q, rfl, hq, hB4⟩
      have hs4 := hB4.size
      have hW4 := hW3.trans (hB4.mono hW3.size)
      have HB4 := hide ((unhide HB3).trans (hB4.mono (by omega)))
      have HR4 := hide ((hB4.block w1.heap.size (by omega)).trans (unhide HR3))
      obtain ⟨qa, qc, rfl, hco⟩ := hq.form (goodOps_write _ _ _ _ _ _)
      have hlen := writeOps_length bs L seq o lg data
      have hls := lastOp_seq bs L seq o lg data
      have hlk := writeOps_last bs L seq o lg data
      have hLA := lastOp_at (xs := writeOps bs L seq o lg data) hlen.1
      have hsq := (unhide HOK).seq
      have htp := (unhide HOK).chip.top
      have hro2 := (unhide HFR).2.2
      obtain ⟨out0, hrun0, _⟩ := (unhide HOK).runs (unhide HFR).1 (unhide HFR).2
      have HRUN := hide hrun0
      have HALL := hide (fun W hW => afterAll_any bs (unhide HOK).chip m (unhide HCT).1 (unhide HCT).2 qa qc (writeOps bs L seq o lg data) (writeOps bs L seq o lg data).length rfl (by omega) W hW)
      rw [← unhide HAA] at HALL
      obtain ⟨X, hX⟩ : ∃ X, X = lastOp (writeOps bs L seq o lg data) := ⟨_, rfl⟩
      rw [← hX] at hls hlk hLA
      obtain ⟨b5, o5, v5, hqa, hc5, hv5⟩ := hco _ _ hLA
      have hv6 : v5 = progV X.block X.page := by
        rcases hv5 with ⟨_, h⟩ | ⟨h, _⟩
        · exact h
        · rw [hlk] at h; cases h
      subst hv6
      have HCO := hide hco
      have HX := hide hX
      obtain ⟨M, hM⟩ : ∃ M, M = (writeOps bs L seq o lg data).length := ⟨_, rfl⟩
      have HMM := hide hM
      rw [← hM] at hlen hc5 HALL ⊢
      subst hqa
      have hMi : ((M - 1 : Nat) : Int) = (M : Int) - 1 := by omega
      have hM1 : 1 ≤ M := hlen.1
      have hM6 : M ≤ 6 := hlen.2
      have hq4a : 0 ≤ X.page.seq := by omega
      have hq4b : X.page.seq ≤ 1000000000 := by omega
      unfold progV at hc5
      clear hB4 hq d0 d1 d2 d3 HR3 hM hX hLA hv5 hlk hls hco hlen hrun0 hsq htp
      go_wp2_with fail
      refine (toldProg_any _ _ _ _ _ _).mono ?_
      rintro e w5 ⟨rfl, hB5⟩
      have hs5 := hB5.size
      have HB45 := hide hB5
      obtain ⟨w6, hw6⟩ : ∃ w6, w6 = w5.alloc (.cells #[.int .i64 1, .int .i64 X.block, .bool X.page.used, .int .i64 X.page.log, .int .i64 X.page.seq, .string X.page.data] 73) := ⟨_, rfl⟩
      have hs6 : w5.heap.size < w6.heap.size := by rw [hw6]; simp
      have hB56 : Below w5.heap.size w5 w6 := by rw [hw6]; exact (Below.refl _ w5).alloc (Nat.le_refl _) _
      have t1 : w6.cell? ⟨w5.heap.size, 1, none⟩ = some (.int .i64 X.block) := by rw [hw6]; simp
      have t4 : w6.cell? ⟨w5.heap.size, 4, none⟩ = some (.int .i64 X.page.seq) := by rw [hw6]; simp
      have hB46 : Below w4.heap.size w4 w6 := hB5.trans (hB56.mono hs5)
      have HR6 := hide ((hB46.block w1.heap.size (by omega)).trans (unhide HR4))
      have HCO6 := hide ((unhide HCO).below hB46 (Nat.le_refl _))
      have HB6 := hide ((unhide HB4).trans (hB46.mono (by omega)))
      have hW6 := hW4.trans (hB46.mono hW4.size)
      clear hB5 hB56 hB46 HR4 HCO HB45 hc5 HB4 HB3
      go_wp2_with fail
      rw [← hw6]
      clear hw6
      refine wp_load_row 65 _ rfl w1.heap.size rfl 65 A (0, 0) _ (unhide HR6) Tryz.underlying65 rfl (unhide HSZ) ?_
      go_wp2_with fail
      refine (unhide HALL _ (unhide HCO6)).mono ?_
      rintro e w7 ⟨⟨m7, r7, rfl, hyes, hno⟩, hB7⟩
      have hr7 : r7 = true := by
        cases r7 with
        | true => rfl
        | false => exact absurd ⟨_, unhide HRUN⟩ (hno rfl)
      subst hr7
      obtain ⟨hct7, hrun7⟩ := hyes (by trivial)
      have hs7 := hB7.size
      have hW7 := hW6.trans (hB7.mono hW6.size)
      have hrow7 := (hB7.block w1.heap.size (by omega)).trans (unhide HR6)
      have u1 := (hB7.cell (p := ⟨w5.heap.size, 1, none⟩) hs6).trans t1
      have u4 := (hB7.cell (p := ⟨w5.heap.size, 4, none⟩) hs6).trans t4
      have hst := store_row Tryz.prog w7 w1.heap.size 65 A (ccA m7) hrow7 (by rw [ccA_size, unhide HAA, ccA_size]) (ccA_one m7)
      have hrow8 : (w7.setRow w1.heap.size (ccA m7)).heap[w1.heap.size]? = some (.cells (ccA m7) 65 (0, 0)) := setRow_heap _ _ _ _ _ _ hrow7
      have v1 := (World.cell?_of_block (w := w7) (a := ⟨w5.heap.size, 1, none⟩) (setRow_other w7 w1.heap.size w5.heap.size (ccA m7) (by omega))).trans u1
      have v4 := (World.cell?_of_block (w := w7) (a := ⟨w5.heap.size, 4, none⟩) (setRow_other w7 w1.heap.size w5.heap.size (ccA m7) (by omega))).trans u4
      have hW8 := Below.setRow hW7 (g := w1.heap.size) (by omega) (ccA m7)
      have HB8 := hide (Below.setRow ((unhide HB6).trans (hB7.mono (by omega))) (g := w1.heap.size) (by omega) (ccA m7))
      have hs8 : (w7.setRow w1.heap.size (ccA m7)).heap.size = w7.heap.size := setRow_size _ _ _
      generalize w7.setRow w1.heap.size (ccA m7) = W8 at hst hrow8 v1 v4 hW8 HB8 hs8
      have hcb : (ccBs m7 bs.length).length = n := by rw [ccBs_length]; exact unhide HL
      have HMEM := hide (fun W sq oo => memberOf_any m7 (ccBs m7 bs.length) n hcb (by rw [hct7, unhide HL]) (by rw [unhide HL]) (hrun7.ok (unhide HOK).chip) sq oo W)
      have HR7 := hide hrun7
      have HSZ7 := hide (sizeCC m7)
      have hA7s := ccA_size m7
      obtain ⟨A7, hA7⟩ : ∃ A7, A7 = ccA m7 := ⟨_, rfl⟩
      rw [← hA7] at hst hrow8 HMEM HSZ7 hA7s ⊢
      have HR8 := hide hrow8
      clear hA7 hrow8 hrow7 u1 u4 t1 t4 hB7 hyes hno hct7 hrun7 HR6 HCO6 HALL HRUN hW7 hW6 hW4
      go_wp2_with (refine wpList_load_row rfl 65 _ rfl w1.heap.size rfl 65 A7 (0, 0) _ (unhide HR8) Tryz.underlying65 rfl (unhide HSZ7) ?_)
      refine (unhide HMEM _ _ _).mono ?_
      rintro e w9 ⟨g, ma2, mn2, mc2, L', rr, rfl, hMI, hF, hB9⟩
      have hs9 := hB9.size
      have hW9 := hW8.trans (hB9.mono hW8.size)
      have HB9 := hide ((unhide HB8).trans (hB9.mono (by omega)))
      clear hB9
      obtain ⟨hzc, hzf⟩ := unhide HZR w9 (unhide HB9)
      have z0 := hzc 0
      have z1 := hzc 1
      have z2 := hzc 2
      have z3 := hzc 3
      simp at z0 z1 z2 z3
      have f0 := hzf 0
      have f1 := hzf 1
      have f2 := hzf 2
      have f3 := hzf 3
      clear hzc hzf
      obtain ⟨W5, hW5⟩ : ∃ W5, W5 = ((((w9.setCell ⟨w.heap.size + 1, 0, none⟩ (.slice (some ⟨g, 0, none⟩) n n)).setCell ⟨w.heap.size + 1, 1, none⟩ (.slice ma2 mn2 mc2)).setCell ⟨w.heap.size + 1, 2, none⟩ (.int .i64 (X.page.seq + 1))).setCell ⟨w.heap.size + 1, 3, none⟩ (.int .i64 X.block)) := ⟨_, rfl⟩
      have y0 : W5.cell? ⟨w.heap.size + 1, 0, none⟩ = some (.slice (some ⟨g, 0, none⟩) n n) := by rw [hW5, World.cell?_setCell_other _ _ _ _ (by simp), World.cell?_setCell_other _ _ _ _ (by simp), World.cell?_setCell_other _ _ _ _ (by simp), World.cell?_setCell_same' _ _ _ (by rw [z0]; rfl)]
      have y1 : W5.cell? ⟨w.heap.size + 1, 1, none⟩ = some (.slice ma2 mn2 mc2) := by rw [hW5, World.cell?_setCell_other _ _ _ _ (by simp), World.cell?_setCell_other _ _ _ _ (by simp), World.cell?_setCell_same' _ _ _ (by rw [World.cell?_setCell_other _ _ _ _ (by simp), z1]; rfl)]
      have y2 : W5.cell? ⟨w.heap.size + 1, 2, none⟩ = some (.int .i64 (X.page.seq + 1)) := by rw [hW5, World.cell?_setCell_other _ _ _ _ (by simp), World.cell?_setCell_same' _ _ _ (by rw [World.cell?_setCell_other _ _ _ _ (by simp), World.cell?_setCell_other _ _ _ _ (by simp), z2]; rfl)]
      have y3 : W5.cell? ⟨w.heap.size + 1, 3, none⟩ = some (.int .i64 X.block) := by rw [hW5, World.cell?_setCell_same' _ _ _ (by rw [World.cell?_setCell_other _ _ _ _ (by simp), World.cell?_setCell_other _ _ _ _ (by simp), World.cell?_setCell_other _ _ _ _ (by simp), z3]; rfl)]
      have hT5 := touch4 w9 (w.heap.size + 1) (.slice (some ⟨g, 0, none⟩) n n) (.slice ma2 mn2 mc2) (.int .i64 (X.page.seq + 1)) (.int .i64 X.block)
      rw [← hW5] at hT5
      have hs5 : W5.heap.size = w9.heap.size := by rw [hW5]; simp [World.setCell]
      have hWW : Below w.heap.size w W5 := hW9.trans (hT5.below (by omega) (fun k hk => by rw [hk]; omega))
      have HFF : Hid (FtlOwn W5 w.heap.size W5.heap.size (some ⟨g, 0, none⟩) n n (ccBs m7 bs.length) ma2 mn2 L') := by rw [hs5]; exact (hF.touch hT5 (fun k hk => by rw [hk]; omega)).lower (by omega)
      have HWI : Hid (WrittenIs bs L seq o lg data (ccBs m7 bs.length) L' (X.page.seq + 1) X.block 0) := .inr (.inr (.inr ⟨unhide HOK, (unhide HFR).1, (unhide HFR).2, ⟨unhide HR7, ⟨rr, hMI⟩, by rw [← unhide HX], by rw [← unhide HX]⟩, rfl⟩))
      clear v1 v4 hT5 hF hMI hst
      go_wp2
      try rw [← hW5]
      exact bodyPost_ret (v := .tuple #[.agg #[.slice (some ⟨g, 0, none⟩) n n, .slice ma2 mn2 mc2, .int .i64 (X.page.seq + 1), .int .i64 X.block], .int .i64 0]) (by simp [results, Tryz.results9, go_sem, y0, y1, y2, y3]) rfl ⟨some ⟨g, 0, none⟩, n, n, ma2, mn2, mc2, ccBs m7 bs.length, L', X.page.seq + 1, X.block, 0, rfl, unhide HWI, unhide HFF, hWW⟩
end Go.Proofs.YtalgkmellbamgaaGreat
