/- 2 texts in one. -/
import Derived.Test.YtalgkmellbamgaaGreatG06
import Derived.Test.YtalgkmellbamgaaGreatG10
import Derived.Test.YtalgkmellbamgaaGreatG18
import Derived.WalkKit
import Derived.Outline
import Derived.Deep.DeepCutAuto
import Derived.Test.YtalgkmellbamgaaGreatG04
import Derived.Test.YtalgkmellbamgaaGreatG13

/- A write: the model's l3Written and Written. -/
namespace Go.Proofs.YtalgkmellbamgaaGreat
open Go.RowKit
set_option linter.unusedVariables false
set_option linter.unusedSimpArgs false

theorem MineFrom.lower {w : World} {a : Option Addr} {n B B' : Nat} (h : MineFrom w a n B) (hB : B' ≤ B) : MineFrom w a n B' := by
  rcases h with h | ⟨g, h1, h2, h3⟩
  · exact .inl h
  · exact .inr ⟨g, h1, by omega, h3⟩
/-- The box of a member's zero value holds nothing that is read elsewhere. -/
theorem zeroBox_blocks {w w' : World} {B : Nat} (hz : ∀ i, w.cell? ⟨B, i, none⟩ = (#[Value.slice none 0 0, .slice none 0 0, .int .i64 0, .int .i64 0])[i]?) {a : Option Addr} {bs : List Bk} (h : BlocksAt w a bs) (h4 : ∀ b ∈ bs, b.pages.length = 4) (he : ∀ k, k ≠ B → k < w.heap.size → w'.heap[k]? = w.heap[k]?) : BlocksAt w' a bs := by
  have hno : ∀ {i : Nat} {v : Value}, w.cell? ⟨B, i, none⟩ = some v → v = .slice none 0 0 ∨ v = .int .i64 0 := by
    intro i v hv
    rw [hz i] at hv
    match i with
    | 0 => simp at hv; exact .inl hv.symm
    | 1 => simp at hv; exact .inl hv.symm
    | 2 => simp at hv; exact .inr hv.symm
    | 3 => simp at hv; exact .inr hv.symm
    | i + 4 => simp at hv
  intro i b hb
  obtain ⟨g, o, pa, pc, ha, c0, c1, hp⟩ := h i b hb
  have hl := h4 b (List.mem_of_getElem? hb)
  have hg : g ≠ B := by
    rintro rfl
    rcases hno c1 with e | e
    · injection e with _ e2 _
      omega
    · cases e
  have hc : ∀ j, w'.cell? ⟨g, j, none⟩ = w.cell? ⟨g, j, none⟩ := fun j => World.cell?_of_block (w := w) (a := ⟨g, j, none⟩) (he g hg (World.block_lt_of_cell? _ _ c0))
  refine ⟨g, o, pa, pc, ha, (hc _).trans c0, (hc _).trans c1, fun k p hk => ?_⟩
  obtain ⟨g2, o2, ha2, d0, d1, d2, d3⟩ := hp k p hk
  have hg2 : g2 ≠ B := by
    rintro rfl
    rcases hno d0 with e | e <;> cases e
  have hc2 : ∀ j, w'.cell? ⟨g2, j, none⟩ = w.cell? ⟨g2, j, none⟩ := fun j => World.cell?_of_block (w := w) (a := ⟨g2, j, none⟩) (he g2 hg2 (World.block_lt_of_cell? _ _ d0))
  exact ⟨g2, o2, ha2, (hc2 _).trans d0, (hc2 _).trans d1, (hc2 _).trans d2, (hc2 _).trans d3⟩
theorem MineFrom.setLow {w w' : World} {a : Option Addr} {n B P : Nat} (h : MineFrom w a n B) (hP : P < B) (he : ∀ k, k ≠ P → k < w.heap.size → w'.heap[k]? = w.heap[k]?) (hs : w'.heap.size = w.heap.size) : MineFrom w' a n B := by
  rcases h with h | ⟨g, h1, h2, h3, h4⟩
  · exact .inl h
  · exact .inr ⟨g, h1, h2, by omega, h4.of_block (he g (by omega) h3)⟩
theorem intsAt_low {w w' : World} {a : Option Addr} {L : List Int} {B P : Nat} (h : IntsAt w a L) (hM : MineFrom w a L.length B) (hP : P < B) (he : ∀ k, k ≠ P → k < w.heap.size → w'.heap[k]? = w.heap[k]?) : IntsAt w' a L := by
  intro i x hx
  obtain ⟨b, o, ha, hc⟩ := h i x hx
  rcases hM with ⟨h1, h2⟩ | ⟨g, h1, h2, h3, _⟩
  · rw [h1] at ha; cases ha
  · rw [ha] at h1
    cases h1
    exact ⟨b, 0, ha, (World.cell?_of_block (w := w) (a := ⟨b, 0 + i, none⟩) (he b (by omega) h3)).trans hc⟩
theorem heapSet4 (w : World) (P : Nat) (v0 v1 v2 v3 : Value) : (∀ k, k ≠ P → ((((w.setCell ⟨P, 0, none⟩ v0).setCell ⟨P, 1, none⟩ v1).setCell ⟨P, 2, none⟩ v2).setCell ⟨P, 3, none⟩ v3).heap[k]? = w.heap[k]?) ∧ ((((w.setCell ⟨P, 0, none⟩ v0).setCell ⟨P, 1, none⟩ v1).setCell ⟨P, 2, none⟩ v2).setCell ⟨P, 3, none⟩ v3).heap.size = w.heap.size := by
  refine ⟨fun k hk => ?_, by simp [World.setCell]⟩
  rw [Go.Deep.blk_setCell_other _ _ _ _ hk, Go.Deep.blk_setCell_other _ _ _ _ hk, Go.Deep.blk_setCell_other _ _ _ _ hk, Go.Deep.blk_setCell_other _ _ _ _ hk]

set_option maxRecDepth 100000 in
set_option maxHeartbeats 4000000 in
theorem l3Written_any (a : Option Addr) (c : Nat) (bs : List Bk) (n : Nat) (hl : bs.length = n) (ma : Option Addr) (mc : Nat) (L : List Int) (mn : Nat) (hL : L.length = mn) (seq o lg : Int) (data : ByteArray) (hok : FtlOk bs L seq o) (hfo : formOk bs lg data) (hro : roomy bs seq) (w : World) (h : BlocksAt w a bs) (hI : IntsAt w ma L) :
    Calls Tryz.prog 40 #[.agg #[.slice a n c, .slice ma mn mc, .int .i64 seq, .int .i64 o], .int .i64 lg, .string data] w fun e w' => ∃ a2 c2 ma2 mn2 mc2 bs' L' seq' o', e = .returned (.agg #[.slice a2 n c2, .slice ma2 mn2 mc2, .int .i64 seq', .int .i64 o']) ∧ DoneIs bs L seq o lg data bs' L' seq' o' ∧ bs'.length = n ∧ L'.length = mn2 ∧ BlocksAt w' a2 bs' ∧ IntsAt w' ma2 L' ∧ MineFrom w' ma2 mn2 w.heap.size ∧ Below w.heap.size w w' := by
  obtain ⟨out0, hrun0, hlen0⟩ := hok.runs hfo hro
  have hwl := writeOps_length bs L seq o lg data
  have hls := lastOp_seq bs L seq o lg data
  have hsq := hok.seq
  have htp := hok.chip.top
  have hro2 := hro.2
  have HLA := hide (lastOp_at (xs := writeOps bs L seq o lg data) hwl.1)
  have HOK := hide hok
  have HRUN := hide hrun0
  have HA := hide h
  have HI := hide hI
  have HL := hide hL
  have HLB := hide hl
  clear hok h hI hL hl hrun0 hlen0 hfo hro
  go_enter Tryz.func40, Tryz.ntmps40
  obtain ⟨w0, hw0⟩ : ∃ w0, w0 = (w.alloc (.cells #[.slice a n c, .slice ma mn mc, .int .i64 seq, .int .i64 o] 29)).alloc (.cells #[.slice none 0 0, .slice none 0 0, .int .i64 0, .int .i64 0] 29) := ⟨_, rfl⟩
  have hs0 : w0.heap.size = w.heap.size + 1 + 1 := by rw [hw0]; simp
  have hB0 : Below w.heap.size w w0 := by rw [hw0]; exact ((Below.refl _ w).alloc (Nat.le_refl _) _).alloc (by simp) _
  have hx0 : ∀ i, w0.cell? ⟨w.heap.size, i, none⟩ = (#[Value.slice a n c, .slice ma mn mc, .int .i64 seq, .int .i64 o])[i]? := fun i => by
    rw [hw0, cell_alloc_lt _ _ _ _ (by simp)]
    simp
  have hr0 : w0.heap[w.heap.size + 1]? = some (.cells #[.slice none 0 0, .slice none 0 0, .int .i64 0, .int .i64 0] 29 (0, 0)) := by rw [hw0]; exact heap_alloc2_new _ _ _
  have k0 := hx0 0
  have k1 := hx0 1
  have k2 := hx0 2
  have k3 := hx0 3
  simp at k0 k1 k2 k3
  have HZR : Hid (∀ W, Below w0.heap.size w0 W → (∀ i, W.cell? ⟨w.heap.size + 1, i, none⟩ = (#[Value.slice none 0 0, .slice none 0 0, .int .i64 0, .int .i64 0])[i]?) ∧ ∀ i, W.frozen? ⟨w.heap.size + 1, i, none⟩ = false) := fun W hW => by
    have hr := (hW.block (w.heap.size + 1) (by omega)).trans hr0
    exact ⟨fun i => cell_of_row _ _ i _ _ _ hr, fun i => frozen_of_row _ _ i _ _ hr⟩
  have HS0 := hide hs0
  have hsl : w.heap.size + 1 < w0.heap.size := by omega
  clear hx0 hr0 hs0
  go_upto_region 1 with fail
  rw [← hw0]
  clear hw0
  go_wp2_with fail
  refine (l3Ops_any a c bs n (unhide HLB) ma mc L mn (unhide HL) seq o lg data (unhide HOK) _ ((unhide HA).below hB0 (Nat.le_refl _)) ((unhide HI).below hB0 (Nat.le_refl _))).mono ?_
  rintro e w1 ⟨rv, rfl, hrv, hB1⟩
  obtain ⟨la, lc, rfl, hOA, _⟩ := hrv.form
  have hs1 := hB1.size
  have hB01 := hB0.trans (hB1.mono hB0.size)
  have HB1 := hide hB1
  have e0 := (hB1.cell (p := ⟨w.heap.size, 0, none⟩) (by show w.heap.size < _; omega)).trans k0
  have HOA := hide hOA
  obtain ⟨M, hM⟩ : ∃ M, M = (writeOps bs L seq o lg data).length := ⟨_, rfl⟩
  rw [← hM] at hwl HLA ⊢
  have HM := hide hM
  clear hrv hOA hB1 k0 k1 k2 k3 hM
  go_wp2_with fail
  refine (l3Did_any a c bs n (unhide HLB) (unhide HOK).chip la lc (writeOps bs L seq o lg data) M (unhide HM).symm (by omega) _ ((unhide HA).below hB01 (Nat.le_refl _)) (unhide HOA)).mono ?_
  rintro e w2 ⟨⟨a2, n2, c2, out, r, rfl, hon, hAo, hrr⟩, hB2⟩
  have hrt : r = true ∧ Runs bs (writeOps bs L seq o lg data) out := by
    rcases hrr with h | ⟨_, _, h⟩
    · exact h
    · exact absurd ⟨_, unhide HRUN⟩ h
  obtain ⟨rfl, hrun⟩ := hrt
  have hol := hrun.len
  obtain rfl : n2 = n := by have := unhide HLB; omega
  have hs2 := hB2.size
  have HOKo := hide (hrun.ok (unhide HOK).chip)
  have HRo := hide hrun
  have HLo : Hid (out.length = n2) := hon
  obtain ⟨w3, hw3⟩ : ∃ w3, w3 = w2.alloc (.cells #[.slice a2 n2 c2] 26) := ⟨_, rfl⟩
  have hB3 : Below w2.heap.size w2 w3 := by rw [hw3]; exact (Below.refl _ w2).alloc (Nat.le_refl _) _
  have hs3 : w3.heap.size = w2.heap.size + 1 := by rw [hw3]; simp
  have p3 : w3.cell? ⟨w2.heap.size, 0, none⟩ = some (.slice a2 n2 c2) := by rw [hw3]; simp
  have HAo := hide (hAo.below hB3 (Nat.le_refl _))
  have HB13 := hide (hB2.trans (hB3.mono hs2))
  have HS3 := hide hs3
  have hsl3 : w2.heap.size < w3.heap.size := by omega
  clear hrr hrun hol hon hAo hB2 hB3 e0 HRUN hs3
  go_wp2_with fail
  rw [← hw3]
  clear hw3
  refine (l2Map_any a2 c2 out n2 (unhide HLo) (unhide HOKo) _ (unhide HAo)).mono ?_
  rintro e w4 ⟨⟨mv, mr, L', rfl, hMI, hMO⟩, hB4⟩
  obtain ⟨ma2, mc2, rfl, hI4, hM4⟩ := hMO.form
  have hs4 := hB4.size
  have p4 := (hB4.cell (p := ⟨w2.heap.size, 0, none⟩) hsl3).trans p3
  have hml := hMI.length (unhide HOKo).count.2
  obtain ⟨mn2, hmn2⟩ : ∃ mn2, mn2 = L'.length := ⟨_, rfl⟩
  rw [← hmn2] at hM4 hml ⊢
  obtain ⟨b5, o5, hla, q0, q1, q2, q3, q4, q5⟩ := ((unhide HOA).below ((unhide HB13).trans (hB4.mono (unhide HB13).size)) (Nat.le_refl _)) (M - 1) _ (by have := unhide HLA; rw [this])
  subst hla
  obtain ⟨X, hX⟩ : ∃ X, X = lastOp (writeOps bs L seq o lg data) := ⟨_, rfl⟩
  rw [← hX] at q0 q1 q2 q3 q4 q5 hls
  have hB14 := (unhide HB13).trans (hB4.mono (unhide HB13).size)
  have hB04 : Below w0.heap.size w0 w4 := (unhide HB1).trans (hB14.mono hs1)
  have hBW4 := hB0.trans (hB04.mono hB0.size)
  have hMi : ((M - 1 : Nat) : Int) = (M : Int) - 1 := by omega
  have HA4 := hide ((unhide HAo).below hB4 (Nat.le_refl _))
  have HI4 := hide hI4
  have HM4 := hide hM4
  have HMI := hide hMI
  have HX := hide (And.intro hX hmn2)
  have hM1 : 1 ≤ M := hwl.1
  have hM6 : M ≤ 6 := hwl.2
  have hq4a : 0 ≤ X.page.seq := by omega
  have hq4b : X.page.seq ≤ 1000000000 := by omega
  clear hB4 p3 hmn2 hMO hI4 hM4 hMI hX hB14 HB13 HOA HLA
  obtain ⟨w5, hw5⟩ : ∃ w5, w5 = w4.alloc (.cells #[.int .i64 X.kind, .int .i64 X.block, .bool X.page.used, .int .i64 X.page.log, .int .i64 X.page.seq, .string X.page.data] 73) := ⟨_, rfl⟩
  have hB5 : Below w4.heap.size w4 w5 := by rw [hw5]; exact (Below.refl _ w4).alloc (Nat.le_refl _) _
  have hs5 : w4.heap.size < w5.heap.size := by rw [hw5]; simp
  have t1 : w5.cell? ⟨w4.heap.size, 1, none⟩ = some (.int .i64 X.block) := by rw [hw5]; simp
  have t4 : w5.cell? ⟨w4.heap.size, 4, none⟩ = some (.int .i64 X.page.seq) := by rw [hw5]; simp
  have p5 := (hB5.cell (p := ⟨w2.heap.size, 0, none⟩) (by show w2.heap.size < _; omega)).trans p4
  have hB05 := hB04.trans (hB5.mono hB04.size)
  obtain ⟨hzc, hzf⟩ := unhide HZR w5 hB05
  have HZC := hide hzc
  have z0 := hzc 0
  have z1 := hzc 1
  have z2 := hzc 2
  have z3 := hzc 3
  simp at z0 z1 z2 z3
  have f0 := hzf 0
  have f1 := hzf 1
  have f2 := hzf 2
  have f3 := hzf 3
  have HA5 := hide ((unhide HA4).below hB5 (Nat.le_refl _))
  have HI5 := hide ((unhide HI4).below hB5 (Nat.le_refl _))
  have HM5 := hide (((unhide HM4).below hB5).lower (show w.heap.size + 2 ≤ w3.heap.size + 1 by have := unhide HS3; omega))
  have hBW5 := hBW4.trans (hB5.mono hBW4.size)
  go_upto_region 5 with fail
  rw [← hw5]
  clear hw5 hB5 hzc hzf p4 q0 q1 q2 q3 q4 q5 HA4 HI4 HM4
  obtain ⟨W5, hW5⟩ : ∃ W5, W5 = ((((w5.setCell ⟨w.heap.size + 1, 0, none⟩ (.slice a2 n2 c2)).setCell ⟨w.heap.size + 1, 1, none⟩ (.slice ma2 mn2 mc2)).setCell ⟨w.heap.size + 1, 2, none⟩ (.int .i64 (X.page.seq + 1))).setCell ⟨w.heap.size + 1, 3, none⟩ (.int .i64 X.block)) := ⟨_, rfl⟩
  have y0 : W5.cell? ⟨w.heap.size + 1, 0, none⟩ = some (.slice a2 n2 c2) := by rw [hW5, World.cell?_setCell_other _ _ _ _ (by simp), World.cell?_setCell_other _ _ _ _ (by simp), World.cell?_setCell_other _ _ _ _ (by simp), World.cell?_setCell_same' _ _ _ (by rw [z0]; rfl)]
  have y1 : W5.cell? ⟨w.heap.size + 1, 1, none⟩ = some (.slice ma2 mn2 mc2) := by rw [hW5, World.cell?_setCell_other _ _ _ _ (by simp), World.cell?_setCell_other _ _ _ _ (by simp), World.cell?_setCell_same' _ _ _ (by rw [World.cell?_setCell_other _ _ _ _ (by simp), z1]; rfl)]
  have y2 : W5.cell? ⟨w.heap.size + 1, 2, none⟩ = some (.int .i64 (X.page.seq + 1)) := by rw [hW5, World.cell?_setCell_other _ _ _ _ (by simp), World.cell?_setCell_same' _ _ _ (by rw [World.cell?_setCell_other _ _ _ _ (by simp), World.cell?_setCell_other _ _ _ _ (by simp), z2]; rfl)]
  have y3 : W5.cell? ⟨w.heap.size + 1, 3, none⟩ = some (.int .i64 X.block) := by rw [hW5, World.cell?_setCell_same' _ _ _ (by rw [World.cell?_setCell_other _ _ _ _ (by simp), World.cell?_setCell_other _ _ _ _ (by simp), World.cell?_setCell_other _ _ _ _ (by simp), z3]; rfl)]
  obtain ⟨hH, hHs⟩ := heapSet4 w5 (w.heap.size + 1) (.slice a2 n2 c2) (.slice ma2 mn2 mc2) (.int .i64 (X.page.seq + 1)) (.int .i64 X.block)
  have hWB : Below w.heap.size w W5 := by
    rw [hW5]
    exact (((hBW5.setCell (by show w.heap.size ≤ w.heap.size + 1; omega) _).setCell (by show w.heap.size ≤ w.heap.size + 1; omega) _).setCell (by show w.heap.size ≤ w.heap.size + 1; omega) _).setCell (by show w.heap.size ≤ w.heap.size + 1; omega) _
  rw [← hW5] at hH hHs
  have HFA : Hid (BlocksAt W5 a2 out) := zeroBox_blocks (unhide HZC) (unhide HA5) (fun b hb => ((unhide HOKo).block b hb).four) (fun k hk _ => hH k hk)
  have HFI : Hid (IntsAt W5 ma2 L') := intsAt_low (unhide HI5) (by rw [← (unhide HX).2]; exact unhide HM5) (show w.heap.size + 1 < w.heap.size + 2 by omega) (fun k hk _ => hH k hk)
  have HFM : Hid (MineFrom W5 ma2 mn2 (w.heap.size + 2)) := (unhide HM5).setLow (show w.heap.size + 1 < w.heap.size + 2 by omega) (fun k hk _ => hH k hk) hHs
  clear hH hHs
  go_wp2
  try rw [← hW5]
  exact bodyPost_ret (v := .agg #[.slice a2 n2 c2, .slice ma2 mn2 mc2, .int .i64 (X.page.seq + 1), .int .i64 X.block]) (by simp [results, Tryz.results40, go_sem, y0, y1, y2, y3]) rfl ⟨a2, c2, ma2, mn2, mc2, out, L', _, _, rfl, ⟨unhide HRo, ⟨mr, unhide HMI⟩, by rw [← (unhide HX).1], by rw [← (unhide HX).1]⟩, unhide HLo, (unhide HX).2.symm, unhide HFA, unhide HFI, (unhide HFM).lower (by omega), hWB⟩

set_option maxRecDepth 100000 in
set_option maxHeartbeats 4000000 in
theorem specWritten_any (a : Option Addr) (c : Nat) (bs : List Bk) (n : Nat) (hl : bs.length = n) (ma : Option Addr) (mc : Nat) (L : List Int) (mn : Nat) (hL : L.length = mn) (seq o lg : Int) (data : ByteArray) (w : World) (h : BlocksAt w a bs) (hn : Lens 1048576 bs) (hI : IntsAt w ma L) (hmn : mn ≤ 1048576) (hd : data.size ≤ 1048576) :
    Calls Tryz.prog 10 #[.agg #[.slice a n c, .slice ma mn mc, .int .i64 seq, .int .i64 o], .int .i64 lg, .string data] w fun e w' => ∃ a2 n2 c2 ma2 mn2 mc2 bs' L' seq' o' code, e = .returned (.tuple #[.agg #[.slice a2 n2 c2, .slice ma2 mn2 mc2, .int .i64 seq', .int .i64 o'], .int .i64 code]) ∧ WrittenIs bs L seq o lg data bs' L' seq' o' code ∧ bs'.length = n2 ∧ L'.length = mn2 ∧ BlocksAt w' a2 bs' ∧ IntsAt w' ma2 L' ∧ MineFrom w' ma2 mn2 w.heap.size ∧ Below w.heap.size w w' := by
  have hb0 : ∀ o1 o2, Below w.heap.size w ((w.alloc o1).alloc o2) := fun o1 o2 => ((Below.refl _ w).alloc (Nat.le_refl _) _).alloc (by simp) _
  have HA := hide h
  have HI := hide hI
  have HL := hide hl
  have HLL := hide hL
  have HN := hide hn
  clear h hI hl hL hn
  go_enter Tryz.func10, Tryz.ntmps10
  obtain ⟨w0, hw0⟩ : ∃ w0, w0 = (w.alloc (.cells #[.slice a n c, .slice ma mn mc, .int .i64 seq, .int .i64 o] 29)).alloc (.cells #[.slice none 0 0, .slice none 0 0, .int .i64 0, .int .i64 0] 29) := ⟨_, rfl⟩
  have hs0 : w0.heap.size = w.heap.size + 1 + 1 := by rw [hw0]; simp
  have hB0 : Below w.heap.size w w0 := by rw [hw0]; exact hb0 _ _
  have hx0 : ∀ i, w0.cell? ⟨w.heap.size, i, none⟩ = (#[Value.slice a n c, .slice ma mn mc, .int .i64 seq, .int .i64 o])[i]? := fun i => by
    rw [hw0, cell_alloc_lt _ _ _ _ (by simp)]
    simp
  have hr0 : w0.heap[w.heap.size + 1]? = some (.cells #[.slice none 0 0, .slice none 0 0, .int .i64 0, .int .i64 0] 29 (0, 0)) := by rw [hw0]; exact heap_alloc2_new _ _ _
  have k0 := hx0 0
  have k1 := hx0 1
  have k2 := hx0 2
  have k3 := hx0 3
  simp at k0 k1 k2 k3
  have HZR : Hid (∀ W, Below w0.heap.size w0 W → (∀ i, W.cell? ⟨w.heap.size + 1, i, none⟩ = (#[Value.slice none 0 0, .slice none 0 0, .int .i64 0, .int .i64 0])[i]?) ∧ ∀ i, W.frozen? ⟨w.heap.size + 1, i, none⟩ = false) := fun W hW => by
    have hr := (hW.block (w.heap.size + 1) (by omega)).trans hr0
    exact ⟨fun i => cell_of_row _ _ i _ _ _ hr, fun i => frozen_of_row _ _ i _ _ hr⟩
  have HS0 := hide hs0
  have hsl : w.heap.size + 1 < w0.heap.size := by omega
  clear hx0 hr0 hs0 hb0
  go_upto_region 1 with fail
  rw [← hw0]
  clear hw0
  go_wp2_with fail
  refine (specFtlOk_any a c bs n (unhide HL) ma mc L mn (unhide HLL) seq o _ ((unhide HA).below hB0 (Nat.le_refl _)) (unhide HN) ((unhide HI).below hB0 (Nat.le_refl _)) hmn).mono ?_
  rintro e w1 ⟨⟨r, rfl, hr⟩, hB1⟩
  have hs1 := hB1.size
  have hW1 := hB0.trans (hB1.mono hB0.size)
  have HB1 := hide hB1
  have m0 := (hB1.cell (p := ⟨w.heap.size, 0, none⟩) (by show w.heap.size < _; omega)).trans k0
  have m1 := (hB1.cell (p := ⟨w.heap.size, 1, none⟩) (by show w.heap.size < _; omega)).trans k1
  have m2 := (hB1.cell (p := ⟨w.heap.size, 2, none⟩) (by show w.heap.size < _; omega)).trans k2
  have m3 := (hB1.cell (p := ⟨w.heap.size, 3, none⟩) (by show w.heap.size < _; omega)).trans k3
  have HR := hide hr
  clear hr k0 k1 k2 k3
  cases r with
  | false =>
    obtain ⟨hzc, hzf⟩ := unhide HZR w1 (unhide HB1)
    have z0 := hzc 0
    have z1 := hzc 1
    have z2 := hzc 2
    have z3 := hzc 3
    simp at z0 z1 z2 z3
    have f0 := hzf 0
    have f1 := hzf 1
    have f2 := hzf 2
    have f3 := hzf 3
    obtain ⟨W5, hW5⟩ : ∃ W5, W5 = ((((w1.setCell ⟨w.heap.size + 1, 0, none⟩ (.slice none 0 0)).setCell ⟨w.heap.size + 1, 1, none⟩ (.slice none 0 0)).setCell ⟨w.heap.size + 1, 2, none⟩ (.int .i64 0)).setCell ⟨w.heap.size + 1, 3, none⟩ (.int .i64 0)) := ⟨_, rfl⟩
    have y0 : W5.cell? ⟨w.heap.size + 1, 0, none⟩ = some (.slice none 0 0) := by rw [hW5, World.cell?_setCell_other _ _ _ _ (by simp), World.cell?_setCell_other _ _ _ _ (by simp), World.cell?_setCell_other _ _ _ _ (by simp), World.cell?_setCell_same' _ _ _ (by rw [z0]; rfl)]
    have y1 : W5.cell? ⟨w.heap.size + 1, 1, none⟩ = some (.slice none 0 0) := by rw [hW5, World.cell?_setCell_other _ _ _ _ (by simp), World.cell?_setCell_other _ _ _ _ (by simp), World.cell?_setCell_same' _ _ _ (by rw [World.cell?_setCell_other _ _ _ _ (by simp), z1]; rfl)]
    have y2 : W5.cell? ⟨w.heap.size + 1, 2, none⟩ = some (.int .i64 0) := by rw [hW5, World.cell?_setCell_other _ _ _ _ (by simp), World.cell?_setCell_same' _ _ _ (by rw [World.cell?_setCell_other _ _ _ _ (by simp), World.cell?_setCell_other _ _ _ _ (by simp), z2]; rfl)]
    have y3 : W5.cell? ⟨w.heap.size + 1, 3, none⟩ = some (.int .i64 0) := by rw [hW5, World.cell?_setCell_same' _ _ _ (by rw [World.cell?_setCell_other _ _ _ _ (by simp), World.cell?_setCell_other _ _ _ _ (by simp), World.cell?_setCell_other _ _ _ _ (by simp), z3]; rfl)]
    have hWB : Below w.heap.size w W5 := by
      rw [hW5]
      exact (((hW1.setCell (by show w.heap.size ≤ w.heap.size + 1; omega) _).setCell (by show w.heap.size ≤ w.heap.size + 1; omega) _).setCell (by show w.heap.size ≤ w.heap.size + 1; omega) _).setCell (by show w.heap.size ≤ w.heap.size + 1; omega) _
    clear hzc hzf
    go_wp2
    try rw [← hW5]
    exact bodyPost_ret (v := .tuple #[.agg #[.slice none 0 0, .slice none 0 0, .int .i64 0, .int .i64 0], .int .i64 1]) (by simp [results, Tryz.results10, go_sem, y0, y1, y2, y3]) rfl ⟨none, 0, 0, none, 0, 0, [], [], 0, 0, 1, rfl, .inl ⟨(fun hc => by have := (unhide HR).2 hc; cases this), rfl, rfl, rfl, rfl, rfl⟩, rfl, rfl, (fun i b hb => by simp at hb), (fun i x hx => by simp at hx), .inl ⟨rfl, rfl⟩, hWB⟩
  | true =>
    have hok := (unhide HR).1 (by trivial)
    have hn12 : n ≤ 12 := by have := hok.chip.count; have := unhide HL; omega
    have hroom : (mn : Int) = (roomOf bs : Int) := by have := hok.len; have := unhide HLL; unfold roomOf; omega
    have HRM := hide hroom
    have HOK := hide hok
    clear hok hroom
    go_wp2_with fail
    refine (l3Form_any _ ma mc mn seq o lg data _ hmn hd).mono ?_
    rintro e w2 ⟨⟨r2, rfl, hr2⟩, hB2⟩
    have hs2 := hB2.size
    have hW2 := hW1.trans (hB2.mono hW1.size)
    have HB2 := hide ((unhide HB1).trans (hB2.mono hs1))
    have k0 := (hB2.cell (p := ⟨w.heap.size, 0, none⟩) (by show w.heap.size < _; omega)).trans m0
    have k1 := (hB2.cell (p := ⟨w.heap.size, 1, none⟩) (by show w.heap.size < _; omega)).trans m1
    have k2 := (hB2.cell (p := ⟨w.heap.size, 2, none⟩) (by show w.heap.size < _; omega)).trans m2
    have k3 := (hB2.cell (p := ⟨w.heap.size, 3, none⟩) (by show w.heap.size < _; omega)).trans m3
    have HR2 := hide hr2
    clear hr2 hB2 hW1 m0 m1 m2 m3 HB1
    cases r2 with
    | false =>
      have HNF : Hid (¬ formOk bs lg data) := fun hc => by have := (unhide HR2).2 (by unfold formOk at hc; rw [← unhide HRM] at hc; exact hc); cases this
      go_wp2_with fail
      refine (l3Copy_any a c bs n (unhide HL) ma mc L mn (unhide HLL) seq o (unhide HOK) _ ((unhide HA).below hW2 (Nat.le_refl _)) ((unhide HI).below hW2 (Nat.le_refl _))).mono ?_
      rintro e w3 ⟨a2, c2, ma2, mc2, rfl, hA3, hI3, hM3, hB3⟩
      have hs3 := hB3.size
      have hW3 := hW2.trans (hB3.mono hW2.size)
      have hB03 := (unhide HB2).trans (hB3.mono (by omega))
      obtain ⟨hzc, hzf⟩ := unhide HZR w3 hB03
      have HZC := hide hzc
      have z0 := hzc 0
      have z1 := hzc 1
      have z2 := hzc 2
      have z3 := hzc 3
      simp at z0 z1 z2 z3
      have f0 := hzf 0
      have f1 := hzf 1
      have f2 := hzf 2
      have f3 := hzf 3
      obtain ⟨W5, hW5⟩ : ∃ W5, W5 = ((((w3.setCell ⟨w.heap.size + 1, 0, none⟩ (.slice a2 n c2)).setCell ⟨w.heap.size + 1, 1, none⟩ (.slice ma2 mn mc2)).setCell ⟨w.heap.size + 1, 2, none⟩ (.int .i64 seq)).setCell ⟨w.heap.size + 1, 3, none⟩ (.int .i64 o)) := ⟨_, rfl⟩
      have y0 : W5.cell? ⟨w.heap.size + 1, 0, none⟩ = some (.slice a2 n c2) := by rw [hW5, World.cell?_setCell_other _ _ _ _ (by simp), World.cell?_setCell_other _ _ _ _ (by simp), World.cell?_setCell_other _ _ _ _ (by simp), World.cell?_setCell_same' _ _ _ (by rw [z0]; rfl)]
      have y1 : W5.cell? ⟨w.heap.size + 1, 1, none⟩ = some (.slice ma2 mn mc2) := by rw [hW5, World.cell?_setCell_other _ _ _ _ (by simp), World.cell?_setCell_other _ _ _ _ (by simp), World.cell?_setCell_same' _ _ _ (by rw [World.cell?_setCell_other _ _ _ _ (by simp), z1]; rfl)]
      have y2 : W5.cell? ⟨w.heap.size + 1, 2, none⟩ = some (.int .i64 seq) := by rw [hW5, World.cell?_setCell_other _ _ _ _ (by simp), World.cell?_setCell_same' _ _ _ (by rw [World.cell?_setCell_other _ _ _ _ (by simp), World.cell?_setCell_other _ _ _ _ (by simp), z2]; rfl)]
      have y3 : W5.cell? ⟨w.heap.size + 1, 3, none⟩ = some (.int .i64 o) := by rw [hW5, World.cell?_setCell_same' _ _ _ (by rw [World.cell?_setCell_other _ _ _ _ (by simp), World.cell?_setCell_other _ _ _ _ (by simp), World.cell?_setCell_other _ _ _ _ (by simp), z3]; rfl)]
      obtain ⟨hH, hHs⟩ := heapSet4 w3 (w.heap.size + 1) (.slice a2 n c2) (.slice ma2 mn mc2) (.int .i64 seq) (.int .i64 o)
      have hWB : Below w.heap.size w W5 := by
        rw [hW5]
        exact (((hW3.setCell (by show w.heap.size ≤ w.heap.size + 1; omega) _).setCell (by show w.heap.size ≤ w.heap.size + 1; omega) _).setCell (by show w.heap.size ≤ w.heap.size + 1; omega) _).setCell (by show w.heap.size ≤ w.heap.size + 1; omega) _
      rw [← hW5] at hH hHs
      have hM3' : MineFrom w3 ma2 mn (w.heap.size + 2) := hM3.lower (by have := unhide HS0; omega)
      have HFA : Hid (BlocksAt W5 a2 bs) := zeroBox_blocks (unhide HZC) hA3 (fun b hb => ((unhide HOK).chip.block b hb).four) (fun k hk _ => hH k hk)
      have HFI : Hid (IntsAt W5 ma2 L) := intsAt_low hI3 (by rw [unhide HLL]; exact hM3') (show w.heap.size + 1 < w.heap.size + 2 by omega) (fun k hk _ => hH k hk)
      have HFM : Hid (MineFrom W5 ma2 mn (w.heap.size + 2)) := hM3'.setLow (show w.heap.size + 1 < w.heap.size + 2 by omega) (fun k hk _ => hH k hk) hHs
      clear hH hHs hM3' hA3 hI3 hM3 hB3 hzc hzf hW3
      go_wp2
      try rw [← hW5]
      exact bodyPost_ret (v := .tuple #[.agg #[.slice a2 n c2, .slice ma2 mn mc2, .int .i64 seq, .int .i64 o], .int .i64 2]) (by simp [results, Tryz.results10, go_sem, y0, y1, y2, y3]) rfl ⟨a2, n, c2, ma2, mn, mc2, bs, L, seq, o, 2, rfl, .inr (.inl ⟨unhide HOK, unhide HNF, rfl, rfl, rfl, rfl, rfl⟩), unhide HL, unhide HLL, unhide HFA, unhide HFI, (unhide HFM).lower (by omega), hWB⟩
    | true =>
      have HFO : Hid (formOk bs lg data) := by have := (unhide HR2).1 (by trivial); rw [unhide HRM] at this; exact this
      go_wp2_with fail
      refine (l3Room_any a c bs n (unhide HL) hn12 ma mc mn seq o _ ((unhide HA).below hW2 (Nat.le_refl _))).mono ?_
      rintro e w2b ⟨⟨r3, rfl, hr3⟩, hB2b⟩
      have hs2b := hB2b.size
      have hW2b := hW2.trans (hB2b.mono hW2.size)
      have HB2b := hide ((unhide HB2).trans (hB2b.mono (by omega)))
      have m0 := (hB2b.cell (p := ⟨w.heap.size, 0, none⟩) (by show w.heap.size < _; omega)).trans k0
      have m1 := (hB2b.cell (p := ⟨w.heap.size, 1, none⟩) (by show w.heap.size < _; omega)).trans k1
      have m2 := (hB2b.cell (p := ⟨w.heap.size, 2, none⟩) (by show w.heap.size < _; omega)).trans k2
      have m3 := (hB2b.cell (p := ⟨w.heap.size, 3, none⟩) (by show w.heap.size < _; omega)).trans k3
      have HR3 := hide hr3
      clear hr3 hB2b k0 k1 k2 k3
      cases r3 with
      | false =>
        have HNR : Hid (¬ roomy bs seq) := fun hc => by have := (unhide HR3).2 hc; cases this
        go_wp2_with fail
        refine (l3Copy_any a c bs n (unhide HL) ma mc L mn (unhide HLL) seq o (unhide HOK) _ ((unhide HA).below hW2b (Nat.le_refl _)) ((unhide HI).below hW2b (Nat.le_refl _))).mono ?_
        rintro e w3 ⟨a2, c2, ma2, mc2, rfl, hA3, hI3, hM3, hB3⟩
        have hs3 := hB3.size
        have hW3 := hW2b.trans (hB3.mono hW2b.size)
        have hB03 := (unhide HB2b).trans (hB3.mono (by omega))
        obtain ⟨hzc, hzf⟩ := unhide HZR w3 hB03
        have HZC := hide hzc
        have z0 := hzc 0
        have z1 := hzc 1
        have z2 := hzc 2
        have z3 := hzc 3
        simp at z0 z1 z2 z3
        have f0 := hzf 0
        have f1 := hzf 1
        have f2 := hzf 2
        have f3 := hzf 3
        obtain ⟨W5, hW5⟩ : ∃ W5, W5 = ((((w3.setCell ⟨w.heap.size + 1, 0, none⟩ (.slice a2 n c2)).setCell ⟨w.heap.size + 1, 1, none⟩ (.slice ma2 mn mc2)).setCell ⟨w.heap.size + 1, 2, none⟩ (.int .i64 seq)).setCell ⟨w.heap.size + 1, 3, none⟩ (.int .i64 o)) := ⟨_, rfl⟩
        have y0 : W5.cell? ⟨w.heap.size + 1, 0, none⟩ = some (.slice a2 n c2) := by rw [hW5, World.cell?_setCell_other _ _ _ _ (by simp), World.cell?_setCell_other _ _ _ _ (by simp), World.cell?_setCell_other _ _ _ _ (by simp), World.cell?_setCell_same' _ _ _ (by rw [z0]; rfl)]
        have y1 : W5.cell? ⟨w.heap.size + 1, 1, none⟩ = some (.slice ma2 mn mc2) := by rw [hW5, World.cell?_setCell_other _ _ _ _ (by simp), World.cell?_setCell_other _ _ _ _ (by simp), World.cell?_setCell_same' _ _ _ (by rw [World.cell?_setCell_other _ _ _ _ (by simp), z1]; rfl)]
        have y2 : W5.cell? ⟨w.heap.size + 1, 2, none⟩ = some (.int .i64 seq) := by rw [hW5, World.cell?_setCell_other _ _ _ _ (by simp), World.cell?_setCell_same' _ _ _ (by rw [World.cell?_setCell_other _ _ _ _ (by simp), World.cell?_setCell_other _ _ _ _ (by simp), z2]; rfl)]
        have y3 : W5.cell? ⟨w.heap.size + 1, 3, none⟩ = some (.int .i64 o) := by rw [hW5, World.cell?_setCell_same' _ _ _ (by rw [World.cell?_setCell_other _ _ _ _ (by simp), World.cell?_setCell_other _ _ _ _ (by simp), World.cell?_setCell_other _ _ _ _ (by simp), z3]; rfl)]
        obtain ⟨hH, hHs⟩ := heapSet4 w3 (w.heap.size + 1) (.slice a2 n c2) (.slice ma2 mn mc2) (.int .i64 seq) (.int .i64 o)
        have hWB : Below w.heap.size w W5 := by
          rw [hW5]
          exact (((hW3.setCell (by show w.heap.size ≤ w.heap.size + 1; omega) _).setCell (by show w.heap.size ≤ w.heap.size + 1; omega) _).setCell (by show w.heap.size ≤ w.heap.size + 1; omega) _).setCell (by show w.heap.size ≤ w.heap.size + 1; omega) _
        rw [← hW5] at hH hHs
        have hM3' : MineFrom w3 ma2 mn (w.heap.size + 2) := hM3.lower (by have := unhide HS0; omega)
        have HFA : Hid (BlocksAt W5 a2 bs) := zeroBox_blocks (unhide HZC) hA3 (fun b hb => ((unhide HOK).chip.block b hb).four) (fun k hk _ => hH k hk)
        have HFI : Hid (IntsAt W5 ma2 L) := intsAt_low hI3 (by rw [unhide HLL]; exact hM3') (show w.heap.size + 1 < w.heap.size + 2 by omega) (fun k hk _ => hH k hk)
        have HFM : Hid (MineFrom W5 ma2 mn (w.heap.size + 2)) := hM3'.setLow (show w.heap.size + 1 < w.heap.size + 2 by omega) (fun k hk _ => hH k hk) hHs
        clear hH hHs hM3' hA3 hI3 hM3 hB3 hzc hzf hW3
        go_wp2
        try rw [← hW5]
        exact bodyPost_ret (v := .tuple #[.agg #[.slice a2 n c2, .slice ma2 mn mc2, .int .i64 seq, .int .i64 o], .int .i64 4]) (by simp [results, Tryz.results10, go_sem, y0, y1, y2, y3]) rfl ⟨a2, n, c2, ma2, mn, mc2, bs, L, seq, o, 4, rfl, .inr (.inr (.inl ⟨unhide HOK, unhide HFO, unhide HNR, rfl, rfl, rfl, rfl, rfl⟩)), unhide HL, unhide HLL, unhide HFA, unhide HFI, (unhide HFM).lower (by omega), hWB⟩
      | true =>
        go_wp2_with fail
        refine (l3Written_any a c bs n (unhide HL) ma mc L mn (unhide HLL) seq o lg data (unhide HOK) (unhide HFO) ((unhide HR3).1 (by trivial)) _ ((unhide HA).below hW2b (Nat.le_refl _)) ((unhide HI).below hW2b (Nat.le_refl _))).mono ?_
        rintro e w3 ⟨a2, c2, ma2, mn2, mc2, bs', L', seq', o', rfl, hD, hbl, hLl, hA3, hI3, hM3, hB3⟩
        have hok' := hD.1.ok (unhide HOK).chip
        have hs3 := hB3.size
        have hW3 := hW2b.trans (hB3.mono hW2b.size)
        have hB03 := (unhide HB2b).trans (hB3.mono (by omega))
        obtain ⟨hzc, hzf⟩ := unhide HZR w3 hB03
        have HZC := hide hzc
        have z0 := hzc 0
        have z1 := hzc 1
        have z2 := hzc 2
        have z3 := hzc 3
        simp at z0 z1 z2 z3
        have f0 := hzf 0
        have f1 := hzf 1
        have f2 := hzf 2
        have f3 := hzf 3
        obtain ⟨W5, hW5⟩ : ∃ W5, W5 = ((((w3.setCell ⟨w.heap.size + 1, 0, none⟩ (.slice a2 n c2)).setCell ⟨w.heap.size + 1, 1, none⟩ (.slice ma2 mn2 mc2)).setCell ⟨w.heap.size + 1, 2, none⟩ (.int .i64 seq')).setCell ⟨w.heap.size + 1, 3, none⟩ (.int .i64 o')) := ⟨_, rfl⟩
        have y0 : W5.cell? ⟨w.heap.size + 1, 0, none⟩ = some (.slice a2 n c2) := by rw [hW5, World.cell?_setCell_other _ _ _ _ (by simp), World.cell?_setCell_other _ _ _ _ (by simp), World.cell?_setCell_other _ _ _ _ (by simp), World.cell?_setCell_same' _ _ _ (by rw [z0]; rfl)]
        have y1 : W5.cell? ⟨w.heap.size + 1, 1, none⟩ = some (.slice ma2 mn2 mc2) := by rw [hW5, World.cell?_setCell_other _ _ _ _ (by simp), World.cell?_setCell_other _ _ _ _ (by simp), World.cell?_setCell_same' _ _ _ (by rw [World.cell?_setCell_other _ _ _ _ (by simp), z1]; rfl)]
        have y2 : W5.cell? ⟨w.heap.size + 1, 2, none⟩ = some (.int .i64 seq') := by rw [hW5, World.cell?_setCell_other _ _ _ _ (by simp), World.cell?_setCell_same' _ _ _ (by rw [World.cell?_setCell_other _ _ _ _ (by simp), World.cell?_setCell_other _ _ _ _ (by simp), z2]; rfl)]
        have y3 : W5.cell? ⟨w.heap.size + 1, 3, none⟩ = some (.int .i64 o') := by rw [hW5, World.cell?_setCell_same' _ _ _ (by rw [World.cell?_setCell_other _ _ _ _ (by simp), World.cell?_setCell_other _ _ _ _ (by simp), World.cell?_setCell_other _ _ _ _ (by simp), z3]; rfl)]
        obtain ⟨hH, hHs⟩ := heapSet4 w3 (w.heap.size + 1) (.slice a2 n c2) (.slice ma2 mn2 mc2) (.int .i64 seq') (.int .i64 o')
        have hWB : Below w.heap.size w W5 := by
          rw [hW5]
          exact (((hW3.setCell (by show w.heap.size ≤ w.heap.size + 1; omega) _).setCell (by show w.heap.size ≤ w.heap.size + 1; omega) _).setCell (by show w.heap.size ≤ w.heap.size + 1; omega) _).setCell (by show w.heap.size ≤ w.heap.size + 1; omega) _
        rw [← hW5] at hH hHs
        have hM3' : MineFrom w3 ma2 mn2 (w.heap.size + 2) := hM3.lower (by have := unhide HS0; omega)
        have HFA : Hid (BlocksAt W5 a2 bs') := zeroBox_blocks (unhide HZC) hA3 (fun b hb => (hok'.block b hb).four) (fun k hk _ => hH k hk)
        have HFI : Hid (IntsAt W5 ma2 L') := intsAt_low hI3 (by rw [hLl]; exact hM3') (show w.heap.size + 1 < w.heap.size + 2 by omega) (fun k hk _ => hH k hk)
        have HFM : Hid (MineFrom W5 ma2 mn2 (w.heap.size + 2)) := hM3'.setLow (show w.heap.size + 1 < w.heap.size + 2 by omega) (fun k hk _ => hH k hk) hHs
        have HD := hide (And.intro hD (And.intro hbl hLl))
        clear hD hbl hLl hok'
        clear hH hHs hM3' hA3 hI3 hM3 hB3 hzc hzf hW3
        go_wp2
        try rw [← hW5]
        exact bodyPost_ret (v := .tuple #[.agg #[.slice a2 n c2, .slice ma2 mn2 mc2, .int .i64 seq', .int .i64 o'], .int .i64 0]) (by simp [results, Tryz.results10, go_sem, y0, y1, y2, y3]) rfl ⟨a2, n, c2, ma2, mn2, mc2, bs', L', seq', o', 0, rfl, .inr (.inr (.inr ⟨unhide HOK, unhide HFO, (unhide HR3).1 (by trivial), (unhide HD).1, rfl⟩)), (unhide HD).2.1, (unhide HD).2.2, unhide HFA, unhide HFI, (unhide HFM).lower (by omega), hWB⟩
end Go.Proofs.YtalgkmellbamgaaGreat

/- The program's FreeOf. -/
namespace Go.Proofs.YtalgkmellbamgaaGreat
open Go.RowKit
set_option linter.unusedVariables false
set_option linter.unusedSimpArgs false

theorem infoInt64I : (Tryz.prog.info? 2).map (fun i => (i.zero, i.size, i.bytes)) = some (some (.int .i64 0), 1, 8) := by kernel_rfl

set_option maxRecDepth 100000 in
set_option maxHeartbeats 1000000 in
theorem free_any (x : Int) (f : Nat → Pg) (w : World) :
    Calls Tryz.prog 98 #[.agg (bcA x f)] w fun e w' => e = .returned (.bool (!(f 0).used)) ∧ Below w.heap.size w w' := by
  have hb0 : ∀ o, Below w.heap.size w (w.alloc o) := fun o => (Below.refl _ w).alloc (Nat.le_refl _) _
  go_enter Tryz.func98, Tryz.ntmps98
  go_wp2_with (refine wpList_load_row rfl 62 _ rfl w.heap.size rfl 62 (bcA x f) (0, 0) _ (Go.Deep.blk_alloc_new _ _) Tryz.underlying62 rfl (by rw [bcA_size]; exact sizeBC) ?_)
  refine (next_any x f _).mono ?_
  rintro e w1 ⟨r, rfl, hr, hB⟩
  have hd : (r == 0) = !(f 0).used := by
    rcases hr with ⟨k, hk, rfl, h1, h2⟩ | ⟨rfl, h1⟩
    · cases k with
      | zero => simp only at h1; simp [h1]
      | succ k => have := h2 0 (by omega); simp only at this; simp [this]; omega
    · have := h1 0 (by omega); simp only at this; simp [this]
  have HD := hide hd
  clear hr hd
  generalize bcA x f = A at *
  go_wp2
  go_ret
  exact ⟨by rw [← unhide HD]; simp, (hb0 _).trans (hB.mono (by simp))⟩

set_option maxRecDepth 100000 in
set_option maxHeartbeats 1000000 in
theorem freeBlocks_any (A : Array Value) (m : CC) (n : Nat) (hA0 : A[0]? = some (.int .i64 (n : Int))) (hAb : ∀ b i, b < 12 → i < 17 → A[1 + b * 17 + i]? = (bcA (m.wear b) (m.page b))[i]?) (hn : n ≤ 12) (w : World) :
    Calls Tryz.prog 70 #[.agg A] w fun e w' => ∃ v, e = .returned v ∧ OwnInts w' 2 (w.heap.size + 1) v (freeTo (ccBs m n) n) ∧ Below w.heap.size w w' := by
  have HAB := hide hAb
  clear hAb
  go_enter Tryz.func70, Tryz.ntmps70
  go_wp2
  go_loopw [3, 7] (fun v i wr => ∃ k : Nat, k ≤ n ∧ i = .int .i64 k ∧ OwnInts wr 2 (w.heap.size + 1) v (freeTo (ccBs m n) k) ∧ Below (w.heap.size + 1) (w.alloc (.cells A 65)) wr) (fun _ i _ => n - (intOf i).toNat)
  case atStart =>
    refine ⟨0, Nat.zero_le _, rfl, ?_, Below.refl _ _⟩
    have := World.ownsRow_nil (w.alloc (.cells A 65)) (w.heap.size + 1) 2 1
    simpa [OwnInts, ints, freeTo] using this
  case round =>
    obtain ⟨k, hk, rfl, hO, hB⟩ := hrel
    have hsz := hB.size
    simp at hsz
    by_cases hlt : k < n
    · have hblk : ∀ j, j < 17 → wr.cell? ⟨w.heap.size, 1 + k * 17 + j, none⟩ = (bcA (m.wear k) (m.page k))[j]? := fun j hj => by
        rw [hB.cell (p := ⟨w.heap.size, 1 + k * 17 + j, none⟩) (by simp), cell_of_row _ _ _ _ _ _ (Go.Deep.blk_alloc_new _ _)]
        exact unhide HAB k j (by omega) hj
      have HB := hide hblk
      have hki : (k : Int) < 12 := by omega
      have hbg : begun (ccBs m n) k = (m.page k 0).used := by
        have e0 : pagesF (ccPs m k) 0 = m.page k 0 := rfl
        simp [begun, ccBs_at m hlt, pu, e0]
      have hst := freeTo_succ (ccBs m n) k
      have hln := freeTo_length (ccBs m n) k
      rw [hbg] at hst
      have HO := hide hO
      have HS := hide hst
      clear hO hst hbg hblk hA0
      go_wp2_with (refine wpList_load_mid rfl 62 _ rfl w.heap.size (1 + k * 17) rfl (bcA (m.wear k) (m.page k)) 17 (bcA_size _ _) (unhide HB) _ Tryz.underlying62 rfl sizeBC ?_)
      refine (free_any _ _ _).mono ?_
      rintro e w2 ⟨rfl, hB2⟩
      have hs2 := hB2.size
      have hBB : Below (w.heap.size + 1) (w.alloc (.cells A 65)) w2 := hB.trans (hB2.mono (by omega))
      have HO2 := hide ((unhide HO).kept hB2)
      have HS2 := HS
      clear HB HS HO hB2 hB
      generalize bcA (m.wear k) (m.page k) = A2 at *
      cases hu : (m.page k 0).used with
      | true =>
        rw [hu] at HS2
        clear hu
        simp only [Bool.not_true]
        go_wp2
        go_roundw
        case rel =>
          refine ⟨k + 1, by omega, by go_num, ?_, hBB⟩
          rw [unhide HS2]
          simpa using unhide HO2
        case measure => simp [intOf]; omega
      | false =>
        rw [hu] at HS2
        clear hu
        simp only [Bool.not_false]
        obtain ⟨i0, hi, hz0, hz1, hz2⟩ := info_parts infoInt64I
        obtain ⟨X, hX⟩ : ∃ X, X = ints (freeTo (ccBs m n) k) := ⟨_, rfl⟩
        obtain ⟨q, hm⟩ : ∃ q, q = (freeTo (ccBs m n) k).length := ⟨_, rfl⟩
        have hR : w2.ownsRow (w.heap.size + 1) 2 1 u3 q X := by rw [hX, hm]; exact unhide HO2
        rw [← hm] at hln
        have HX := hide (And.intro hX hm)
        clear hX hm
        go_wp2_with (refine wpList_append_lies _ rfl (.tmp 15) (.tmp 17) 27 rfl (w.heap.size + 1) 2 i0 _ 1 8 Tryz.underlying27 hi hz0 hz1 hz2 rfl (by decide) u3 q X (by simp [Act.eval]) (by exact hR.alloc _) ⟨w2.heap.size, 0, none⟩ 1 1 [.int .i64 (k : Int)] (by simp [Act.eval]) rfl (World.news_of_block (cs := #[.int .i64 (k : Int)]) (t := 2) (fr := (0, 0)) (by exact Go.Deep.blk_alloc_new _ _)) (by simp [Value.oneCell']) (by omega) (by unfold maxLen; omega) (by omega) (by simp; omega) (w2.heap.size + 1) (by simp) ?_; intro g1 cap w3 hown hgrow hat hlt1)
        go_roundw
        case rel =>
          refine ⟨k + 1, by omega, by go_num, ?_, ?_⟩
          · rw [unhide HS2]
            obtain ⟨e1, e2⟩ := unhide HX
            rw [e1, e2] at hown
            rw [e2]
            simpa [OwnInts, ints] using hown
          · refine Below.grown (hBB.alloc (by omega) _) hgrow (by simp; omega) (fun j e => ?_)
            exact (hR.lt j e).1
        case measure => simp [intOf]; omega
    · have hk' : k = n := by omega
      subst hk'
      have HO := hide hO
      clear hO
      go_wp2
      go_ret
      exact ⟨_, rfl, unhide HO, ((Below.refl _ w).alloc (Nat.le_refl _) _).trans (hB.mono (by omega))⟩

end Go.Proofs.YtalgkmellbamgaaGreat
