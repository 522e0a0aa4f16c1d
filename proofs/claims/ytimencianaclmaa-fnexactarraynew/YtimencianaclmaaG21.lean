/- 2 texts in one. -/
import Derived.Test.YtimencianaclmaaG20
import Derived.WalkKit
import Derived.Outline
import Derived.Test.YtimencianaclmaaG19
import Derived.Test.YtimencianaclmaaG10

/- Arrays: comparison, marks. -/
namespace Go.Proofs.Ytimencianaclmaa
open Go.RowKit
set_option linter.unusedVariables false
set_option linter.unusedSimpArgs false

set_option maxRecDepth 100000 in
set_option maxHeartbeats 2000000 in
theorem heldFtlS_any (g c : Nat) (ms : List Mb) (k : Nat) (hk : ms.length = k) (h5 : k ≤ 5) (hsh : ∀ m ∈ ms, Mb.Short m) (k0 : Int) (h0 : 0 < k0) (h1 : kMbs k0 ms ≤ 1125899906842624) (w : World) (h : MbsAt w g (markMbs k0 ms)) :
    Calls Try.prog 128 #[.slice (some ⟨g, 0, none⟩) k c, .int .i64 k0] w fun e w' => e = .returned (.int .i64 (kMbs k0 ms)) ∧ Below w.heap.size w w' := by
  have HK := hide hk
  clear hk
  go_enter Try.func128, Try.ntmps128
  go_wp2
  go_loopw [1, 5] (fun v i wr => ∃ j : Nat, j ≤ k ∧ i = .int .i64 j ∧ v = .int .i64 (kMbs k0 (ms.take j)) ∧ Below w.heap.size w wr) (fun _ i _ => k - (intOf i).toNat)
  case atStart => exact ⟨0, Nat.zero_le _, rfl, rfl, Below.refl _ _⟩
  case round =>
    obtain ⟨j, hj, rfl, rfl, hB⟩ := hrel
    have hsB := hB.size
    by_cases hlt : j < k
    · obtain ⟨m, hm⟩ := getElem?_ex (l := ms) (k := j) (by have := unhide HK; omega)
      obtain ⟨a, cc, ma, mc, g0, g1, g2, g3, hA, hI⟩ := (h.below hB) j _ (markMbs_at hm k0)
      have hgl := World.block_lt_of_cell? _ _ g0
      simp only at hgl
      have hka := kMbs_take hm k0
      have hkb := kMbs_le (ms.take j) k0
      obtain ⟨hl, _, hLL⟩ := hsh m (List.mem_of_getElem? hm)
      have HM := hide hm
      obtain ⟨kk, hkk⟩ : ∃ kk, kk = kMbs k0 (ms.take j) := ⟨_, rfl⟩
      rw [← hkk] at hka hkb g0 g1 g2 g3 hA hI ⊢
      have HKK := hide hkk
      have hk2 := kAfter_le m.bs kk
      obtain ⟨q, hq⟩ : ∃ q, q = kAfter kk m.bs := ⟨_, rfl⟩
      have hka2 : q + (m.L.length : Int) + 1 + 1 ≤ kMbs k0 ms := by rw [hq]; exact hka
      rw [← hq] at hk2
      obtain ⟨nb, hnb⟩ : ∃ nb, m.bs.length = nb := ⟨_, rfl⟩
      obtain ⟨nl, hnl⟩ : ∃ nl, m.L.length = nl := ⟨_, rfl⟩
      have e0 : (markMb kk m).bs.length = nb := by rw [← hnb]; exact markBs_length _ _
      have e1 : (markMb kk m).L.length = nl := by rw [← hnl]; exact marksI_length _ _
      have e2 : (markMb kk m).seq = q + (nl : Int) := by rw [hq, ← hnl]; rfl
      have e3 : (markMb kk m).o = q + (nl : Int) + 1 := by rw [hq, ← hnl]; rfl
      have e4 : (markMb kk m).L = marksI q nl := by rw [hq, ← hnl]; rfl
      rw [e0] at g0
      rw [e1] at g1
      rw [e2] at g2
      rw [e3] at g3
      rw [e4] at hI
      rw [hnl] at hka2 hLL
      have HQ := hide hq
      have HNB := hide hnb
      have HNL := hide hnl
      have HI := hide hI
      have hHB := heldBlockS_any a cc m.bs kk wr hA hl (by omega) (by rw [← hq]; omega)
      rw [hnb, ← hq] at hHB
      clear h hsh hm hkk hka hq hI hA e0 e1 e2 e3 e4 hnb hnl
      have hne1 : (q + (nl : Int) != q + (nl : Int)) = false := by simp
      have hne2 : (q + (nl : Int) + 1 != q + (nl : Int) + 1) = false := by simp
      go_wp2_with fail
      refine hHB.mono ?_
      rintro e w1 ⟨rfl, hB1⟩
      have hs1 := hB1.size
      have g11 := (hB1.cell (p := ⟨g, j * 4 + 1, none⟩) hgl).trans g1
      have g12 := (hB1.cell (p := ⟨g, j * 4 + 2, none⟩) hgl).trans g2
      have g13 := (hB1.cell (p := ⟨g, j * 4 + 3, none⟩) hgl).trans g3
      have hI1 := (unhide HI).below hB1 (Nat.le_refl _)
      have HI1 := hide hI1
      have hW1 := hB.trans (hB1.mono hsB)
      clear hI1 hHB hB1 g0 g1 g2 g3
      go_wp2_with fail
      refine (heldInt64S_any ma mc nl q _ (unhide HI1) (by omega) (by omega) (by omega)).mono ?_
      rintro e w2 ⟨rfl, rfl⟩
      go_wp2_with fail
      have hval : q + (nl : Int) + 1 + 1 = kMbs k0 (ms.take (j + 1)) := by
        rw [take_snocM (unhide HM), kMbs_snoc, ← unhide HKK]
        show _ = kAfter kk m.bs + (m.L.length : Int) + 1 + 1
        rw [← unhide HQ, unhide HNL]
      exact ⟨⟨j + 1, by omega, by simp, by rw [hval], hW1⟩, by simp [intOf]; omega⟩
    · have hjk : j = k := by omega
      subst hjk
      rw [List.take_of_length_le (by have := unhide HK; omega)]
      go_wp2
      go_ret
      exact ⟨rfl, hB⟩

set_option maxRecDepth 100000 in
set_option maxHeartbeats 2000000 in
theorem eqArray_by (a1 a2 : Option Addr) (c1 c2 : Nat) (L : List Int) (k : Nat) (hL : L.length = k) (hk : k ≤ 1048576) (n lost : Int) (d : Bool) (b1 : Option Addr) (m1 e1 : Nat) (b2 : Option Addr) (m2 e2 : Nat) (w : World) (h1 : IntsAt w a1 L) (h2 : IntsAt w a2 L)
    (hM : ∀ W, Below w.heap.size w W → Calls Try.prog 123 #[.slice b1 m1 e1, .slice b2 m2 e2] W fun e w' => e = .returned (.bool true) ∧ Below W.heap.size W w') :
    Calls Try.prog 59 #[.agg #[.slice a1 k c1, .int .i64 n, .int .i64 lost, .bool d, .slice b1 m1 e1, .slice none 0 0], .agg #[.slice a2 k c2, .int .i64 n, .int .i64 lost, .bool d, .slice b2 m2 e2, .slice none 0 0]] w fun e w' => e = .returned (.bool true) ∧ Below w.heap.size w w' := by
  have hb0 : ∀ o1 o2, Below w.heap.size w ((w.alloc o1).alloc o2) := fun o1 o2 => ((Below.refl _ w).alloc (Nat.le_refl _) _).alloc (by simp) _
  have hne1 : (n != n) = false := by simp
  have hne2 : (lost != lost) = false := by simp
  have hne3 : (d != d) = false := by simp
  have HL := hide hL
  have HM := hide hM
  clear hL hM
  go_enter Try.func59, Try.ntmps59
  go_wp2_with fail
  refine (eqInt64S_same a1 a2 c1 c2 L k (unhide HL) _ (h1.below (hb0 _ _) (Nat.le_refl _)) (h2.below (hb0 _ _) (Nat.le_refl _)) hk).mono ?_
  rintro e w1 ⟨rfl, hB1⟩
  have hs1 := hB1.size
  simp at hs1
  have hx : ∀ i, w1.cell? ⟨w.heap.size, i, none⟩ = (#[Value.slice a1 k c1, .int .i64 n, .int .i64 lost, .bool d, .slice b1 m1 e1, .slice none 0 0])[i]? := fun i => by
    rw [hB1.cell (p := ⟨w.heap.size, i, none⟩) (by simp; omega), cell_alloc_lt _ _ _ _ (by simp)]
    simp
  have hy : ∀ i, w1.cell? ⟨w.heap.size + 1, i, none⟩ = (#[Value.slice a2 k c2, .int .i64 n, .int .i64 lost, .bool d, .slice b2 m2 e2, .slice none 0 0])[i]? := fun i => by
    rw [hB1.cell (p := ⟨w.heap.size + 1, i, none⟩) (by simp), cell_of_row _ _ i _ _ _ (heap_alloc2_new _ _ _)]
  have hW1 : Below w.heap.size w w1 := (hb0 _ _).trans (hB1.mono (by simp; omega))
  have x1 := hx 1
  have x2 := hx 2
  have x3 := hx 3
  have x4 := hx 4
  have x5 := hx 5
  have y1 := hy 1
  have y2 := hy 2
  have y3 := hy 3
  have y4 := hy 4
  have y5 := hy 5
  simp at x1 x2 x3 x4 x5 y1 y2 y3 y4 y5
  clear h1 h2 hx hy hB1 hb0 hk
  go_wp2_with fail
  refine (unhide HM w1 hW1).mono ?_
  rintro e w2 ⟨rfl, hB2⟩
  have hs2 := hB2.size
  have x5' := (hB2.cell (p := ⟨w.heap.size, 5, none⟩) (by show w.heap.size < _; omega)).trans x5
  have y5' := (hB2.cell (p := ⟨w.heap.size + 1, 5, none⟩) (by show w.heap.size + 1 < _; omega)).trans y5
  have hW2 := hW1.trans (hB2.mono hW1.size)
  clear x1 x2 x3 x4 x5 y1 y2 y3 y4 y5 hB2 hW1 HM
  go_wp2_with fail
  refine (eqRecordS_nil w2).mono ?_
  rintro e w3 ⟨rfl, rfl⟩
  go_wp2
  go_ret
  exact ⟨rfl, hW2⟩

/-- An array that is right and owns its memory: its members lie in the row G. -/
def ArrOwn (w : World) (G T k : Nat) (wa : Option Addr) (L : List Int) (ms : List Mb) : Prop := MemsOwn w G 0 (G + 1) T ms ∧ Room w G (k * 4) ∧ IntsAt w wa L ∧ MineFrom w wa k T ∧ T ≤ w.heap.size ∧ ms.length = k ∧ L.length = k
theorem ArrOwn.below {w w' : World} {G T k : Nat} {wa : Option Addr} {L : List Int} {ms : List Mb} (h : ArrOwn w G T k wa L ms) (hb : Below w.heap.size w w') : ArrOwn w' G T k wa L ms := by
  obtain ⟨h1, h2, h3, h4, h5, h6, h7⟩ := h
  refine ⟨h1.below hb, ?_, h3.below hb (Nat.le_refl _), h4.below hb, Nat.le_trans h5 hb.size, h6, h7⟩
  by_cases hg : G < w.heap.size
  · exact h2.of_block (hb.block G hg)
  · have := h1.le; omega
/-- What marks an array holds. -/
def ArrMarked (w : World) (G k : Nat) (wa : Option Addr) (ms : List Mb) : Prop := IntsAt w wa (marksI 1 k) ∧ MbsAt w G (markMbs (1 + (k : Int)) ms)
theorem ArrMarked.below {w w' : World} {G k : Nat} {wa : Option Addr} {ms : List Mb} (h : ArrMarked w G k wa ms) (hb : Below w.heap.size w w') : ArrMarked w' G k wa ms := ⟨h.1.below hb (Nat.le_refl _), h.2.below hb⟩

theorem FtlOwn.apart {S : Nat → Prop} {w w' : World} {B T : Nat} {a : Option Addr} {n c : Nat} {out : List Bk} {ma : Option Addr} {mn : Nat} {L : List Int} (h : FtlOwn w B T a n c out ma mn L) (hT : Touch S w w') (hS : ∀ k, S k → ¬ (B ≤ k ∧ k < T)) : FtlOwn w' B T a n c out ma mn L := by
  obtain ⟨h0, h1, h2, h6, C, K, h3, h4, h5⟩ := h
  exact ⟨h0, intsAt_stays h1 hT (fun g hg hs => hS g hs ⟨(h2.from hg).1, h6 g hg⟩) h2.shape, h2.touch' hT (fun g hg hs => hS g hs ⟨(h2.from hg).1, h6 g hg⟩), h6, C, K, h3, h4.apart hT (fun k hk hs => hS k hk ⟨by omega, by have := h5.1; omega⟩), h5⟩
theorem MbCells.apart {S : Nat → Prop} {w w' : World} {g i lo hi : Nat} {m : Mb} (h : MbCells w g i lo hi m) (hT : Touch S w w') (hS : ∀ k, S k → ¬ (lo ≤ k ∧ k < hi)) (hg : ¬ S g) : MbCells w' g i lo hi m := by
  obtain ⟨a, n, c, ma, mn, mc, h0, h1, h2, h3, hF⟩ := h
  have e := hT.block g (World.block_lt_of_cell? _ _ h0) hg
  have hc : ∀ j, w'.cell? ⟨g, j, none⟩ = w.cell? ⟨g, j, none⟩ := fun j => World.cell?_of_block (w := w) (a := ⟨g, j, none⟩) e
  exact ⟨a, n, c, ma, mn, mc, (hc _).trans h0, (hc _).trans h1, (hc _).trans h2, (hc _).trans h3, hF.apart hT hS⟩
theorem MemsOwn.apart {S : Nat → Prop} {w w' : World} {g : Nat} (hT : Touch S w w') (hg : ¬ S g) : ∀ {ms : List Mb} {i lo hi : Nat}, MemsOwn w g i lo hi ms → (∀ k, S k → ¬ (lo ≤ k ∧ k < hi)) → MemsOwn w' g i lo hi ms
  | [], _, _, _, h, _ => h
  | _ :: _, _, _, _, ⟨mid, h1, hc, h2⟩, hS => ⟨mid, h1, hc.apart hT (fun k hk hs => hS k hk ⟨hs.1, Nat.lt_of_lt_of_le hs.2 h2.le⟩) hg, MemsOwn.apart hT hg h2 (fun k hk hs => hS k hk ⟨Nat.le_trans h1 hs.1, hs.2⟩)⟩

set_option maxRecDepth 100000 in
set_option maxHeartbeats 2000000 in
theorem markArray_own (G T k c wc : Nat) (wa : Option Addr) (L : List Int) (ms : List Mb) (n lost : Int) (d : Bool) (h5 : k ≤ 5) (hsh : ∀ m ∈ ms, Mb.Short m) (h1 : kMbs (1 + (k : Int)) ms ≤ 1125899906842624) (w : World) (h : ArrOwn w G T k wa L ms) :
    Calls Try.prog 62 #[.agg #[.slice wa k wc, .int .i64 n, .int .i64 lost, .bool d, .slice (some ⟨G, 0, none⟩) k c, .slice none 0 0], .int .i64 1] w fun e w' => e = .returned (.int .i64 (kMbs (1 + (k : Int)) ms)) ∧ ArrMarked w' G k wa ms ∧ Touch (fun q => (G ≤ q ∧ q < T) ∨ wa = some ⟨q, 0, none⟩) w w' := by
  have hb0 : ∀ o, Below w.heap.size w (w.alloc o) := fun o => (Below.refl _ w).alloc (Nat.le_refl _) _
  have HA := hide (fun o => h.below (hb0 o))
  have hTw := h.2.2.2.2.1
  have hGT := h.1.le
  have hkl := kMbs_le ms (1 + (k : Int))
  have HMF : Hid (∀ x, wa = some ⟨x, 0, none⟩ → T ≤ x ∧ x < w.heap.size) := fun x hx => h.2.2.2.1.from hx
  clear h
  go_enter Try.func62, Try.ntmps62
  go_wp2_with fail
  obtain ⟨wb, hwb⟩ : ∃ wb, wb = w.alloc (.cells #[.slice wa k wc, .int .i64 n, .int .i64 lost, .bool d, .slice (some ⟨G, 0, none⟩) k c, .slice none 0 0] 89) := ⟨_, rfl⟩
  have hr := World.alloc_heap_new w (.cells #[.slice wa k wc, .int .i64 n, .int .i64 lost, .bool d, .slice (some ⟨G, 0, none⟩) k c, .slice none 0 0] 89)
  have hAb := (unhide HA) (.cells #[.slice wa k wc, .int .i64 n, .int .i64 lost, .bool d, .slice (some ⟨G, 0, none⟩) k c, .slice none 0 0] 89)
  have hwB := hb0 (.cells #[.slice wa k wc, .int .i64 n, .int .i64 lost, .bool d, .slice (some ⟨G, 0, none⟩) k c, .slice none 0 0] 89)
  have hsb : wb.heap.size = w.heap.size + 1 := by rw [hwb]; simp
  rw [← hwb] at hr hAb hwB ⊢
  clear hwb HA hb0
  obtain ⟨hM, hR, hI, hMn, -, hml, hLl⟩ := hAb
  have HM := hide hM
  have HR := hide hR
  have HSH := hide hMn.shape
  have HRB := hide hr
  have HWB := hide hwB
  refine (markIntsK_any wa wc k T 1 wb hMn (by omega) (by omega) (by omega)).mono ?_
  rintro e w1 ⟨rfl, hI1, hT1⟩
  have hs1 := hT1.size
  have hr1 := (hT1.block w.heap.size (by omega) (fun hs => by have := unhide HMF _ hs.1; omega)).trans (unhide HRB)
  have hG1 := hT1.block G (by omega) (fun hs => by omega)
  have hM1 := MemsOwn.apart hT1 (fun hs => by omega) (unhide HM) (fun x hx hs => by omega)
  have hR1 : Room w1 G (k * 4) := (unhide HR).of_block hG1
  have HR1 := hide hr1
  have HM1 := hide hM1
  have HRM1 := hide hR1
  have HI1 := hide hI1
  have HT1 := hide hT1
  have x4 := cell_of_row _ _ 4 _ _ _ hr1
  simp at x4
  clear hr1 hM1 hR1 hI1 hT1 hM hR hI hMn hr HM HR HRB hG1 hwB
  go_wp2_with fail
  refine (markFtlS_any G c (G + 1) T ms k hml h5 hsh (1 + (k : Int)) (by omega) h1 w1 (unhide HM1) (unhide HRM1) (by omega) (by omega)).mono ?_
  rintro e w2 ⟨rfl, hSt, hT2⟩
  have hs2 := hT2.size
  have hr2 := (hT2.block w.heap.size (by omega) (fun hs => by omega)).trans (unhide HR1)
  have x5 := cell_of_row _ _ 5 _ _ _ hr2
  simp at x5
  have HAM : Hid (ArrMarked w2 G k wa ms) := ⟨intsAt_stays (unhide HI1) hT2 (fun x hx hs => by have := unhide HMF x hx; omega) (unhide HSH), fun i m hm => (hSt i m hm).read⟩
  have HTT : Hid (Touch (fun q => (G ≤ q ∧ q < T) ∨ wa = some ⟨q, 0, none⟩) w w2) := ((Touch.of_below (unhide HWB)).trans ((unhide HT1).mono (fun x hx => .inr hx.1))).trans (hT2.mono (fun x hx => .inl (by omega)))
  clear hr2 hSt hT2 HM1 HRM1 HI1 HT1 HR1 x4
  go_wp2_with fail
  refine (markRecordS_nil _ w2).mono ?_
  rintro e w3 ⟨rfl, rfl⟩
  go_wp2
  go_ret
  exact ⟨rfl, unhide HAM, unhide HTT⟩

set_option maxRecDepth 100000 in
set_option maxHeartbeats 2000000 in
theorem heldArray_own (G k c wc : Nat) (wa : Option Addr) (ms : List Mb) (hml : ms.length = k) (n lost : Int) (d : Bool) (h5 : k ≤ 5) (hsh : ∀ m ∈ ms, Mb.Short m) (h1 : kMbs (1 + (k : Int)) ms ≤ 1125899906842624) (w : World) (h : ArrMarked w G k wa ms) :
    Calls Try.prog 63 #[.agg #[.slice wa k wc, .int .i64 n, .int .i64 lost, .bool d, .slice (some ⟨G, 0, none⟩) k c, .slice none 0 0], .int .i64 1] w fun e w' => e = .returned (.int .i64 (kMbs (1 + (k : Int)) ms)) ∧ Below w.heap.size w w' := by
  have hb0 : ∀ o, Below w.heap.size w (w.alloc o) := fun o => (Below.refl _ w).alloc (Nat.le_refl _) _
  have HA := hide (fun o => h.below (hb0 o))
  have hkl := kMbs_le ms (1 + (k : Int))
  have hpos : ¬ (1 + (k : Int)) < 0 := by omega
  have hpos2 : ¬ kMbs (1 + (k : Int)) ms < 0 := by omega
  clear h
  go_enter Try.func63, Try.ntmps63
  go_wp2_with fail
  refine (heldInt64S_any wa wc k 1 _ ((unhide HA) _).1 (by omega) (by omega) (by omega)).mono ?_
  rintro e w1 ⟨rfl, rfl⟩
  go_wp2_with fail
  refine (heldFtlS_any G c ms k hml h5 hsh (1 + (k : Int)) (by omega) h1 _ ((unhide HA) _).2).mono ?_
  rintro e w2 ⟨rfl, hB2⟩
  have hs2 := hB2.size
  simp at hs2
  have x5 : w2.cell? ⟨w.heap.size, 5, none⟩ = some (.slice none 0 0) := by
    rw [hB2.cell (p := ⟨w.heap.size, 5, none⟩) (by simp)]
    simp
  have hW2 : Below w.heap.size w w2 := (hb0 _).trans (hB2.mono (by simp))
  clear HA hB2 hb0
  go_wp2_with fail
  refine (heldRecordS_nil _ w2).mono ?_
  rintro e w3 ⟨rfl, rfl⟩
  go_wp2
  go_ret
  exact ⟨rfl, hW2⟩

set_option maxRecDepth 100000 in
set_option maxHeartbeats 2000000 in
theorem markArray_zero (w : World) :
    Calls Try.prog 62 #[.agg #[.slice none 0 0, .int .i64 0, .int .i64 0, .bool false, .slice none 0 0, .slice none 0 0], .int .i64 1] w fun e w' => e = .returned (.int .i64 1) ∧ Below w.heap.size w w' := by
  have hb0 : ∀ o, Below w.heap.size w (w.alloc o) := fun o => (Below.refl _ w).alloc (Nat.le_refl _) _
  go_enter Try.func62, Try.ntmps62
  go_wp2_with fail
  refine (markIntsK_any none 0 0 0 1 _ (.inl ⟨rfl, rfl⟩) (by omega) (by omega) (by omega)).mono ?_
  rintro e w1 ⟨rfl, hI1, hT1⟩
  have hB1 : Below (w.heap.size + 1) (w.alloc (.cells #[.slice none 0 0, .int .i64 0, .int .i64 0, .bool false, .slice none 0 0, .slice none 0 0] 89)) w1 := hT1.below (by simp) (fun k hk => by cases hk.1)
  have x4 : w1.cell? ⟨w.heap.size, 4, none⟩ = some (.slice none 0 0) := by
    rw [hB1.cell (p := ⟨w.heap.size, 4, none⟩) (by simp)]
    simp
  have x5 : w1.cell? ⟨w.heap.size, 5, none⟩ = some (.slice none 0 0) := by
    rw [hB1.cell (p := ⟨w.heap.size, 5, none⟩) (by simp)]
    simp
  have hW1 := (hb0 _).trans (hB1.mono (by simp))
  clear hI1 hT1 hB1 hb0
  go_wp2_with fail
  refine (markFtlS_nil _ w1).mono ?_
  rintro e w2 ⟨rfl, rfl⟩
  go_wp2_with fail
  refine (markRecordS_nil _ w2).mono ?_
  rintro e w3 ⟨rfl, rfl⟩
  go_wp2
  go_ret
  exact ⟨rfl, hW1⟩
set_option maxRecDepth 100000 in
set_option maxHeartbeats 2000000 in
theorem heldArray_zero (w : World) :
    Calls Try.prog 63 #[.agg #[.slice none 0 0, .int .i64 0, .int .i64 0, .bool false, .slice none 0 0, .slice none 0 0], .int .i64 1] w fun e w' => e = .returned (.int .i64 1) ∧ Below w.heap.size w w' := by
  have hb0 : ∀ o, Below w.heap.size w (w.alloc o) := fun o => (Below.refl _ w).alloc (Nat.le_refl _) _
  go_enter Try.func63, Try.ntmps63
  go_wp2_with fail
  refine (heldInt64S_any none 0 0 1 _ (fun i x hx => by simp [marksI] at hx) (by omega) (by omega) (by omega)).mono ?_
  rintro e w1 ⟨rfl, rfl⟩
  go_wp2_with fail
  refine (heldFtlS_nil _ _).mono ?_
  rintro e w2 ⟨rfl, rfl⟩
  go_wp2_with fail
  refine (heldRecordS_nil _ _).mono ?_
  rintro e w3 ⟨rfl, rfl⟩
  go_wp2
  go_ret
  exact ⟨rfl, hb0 _⟩
end Go.Proofs.Ytimencianaclmaa

/- What ArrayNew answers, the model's and the program's: compared, marked. -/
namespace Go.Proofs.Ytimencianaclmaa
open Go.RowKit
set_option linter.unusedVariables false
set_option linter.unusedSimpArgs false

def NewYes (L : List Int) (n : Int) : Prop := LayOk L ∧ 4 ≤ n ∧ n ≤ 12
instance (L : List Int) (n : Int) : Decidable (NewYes L n) := by unfold NewYes; infer_instance
def newMs (L : List Int) (n : Int) : List Mb := List.replicate L.length (newMb n.toNat)
/-- What is alike in both answers. -/
def AnsKey (L : List Int) (n : Int) (k0 : Nat) (i1 i2 : Int) (mk : Nat) (r : Bool) : Prop := (NewYes L n ∧ k0 = L.length ∧ i1 = n ∧ i2 = -1 ∧ mk = L.length ∧ r = true) ∨ (¬ NewYes L n ∧ k0 = 0 ∧ i1 = 0 ∧ i2 = 0 ∧ mk = 0 ∧ r = false)
theorem AnsKey.one {L : List Int} {n : Int} {k0 k0' : Nat} {i1 i2 i1' i2' : Int} {mk mk' : Nat} {r r' : Bool} (h : AnsKey L n k0 i1 i2 mk r) (h' : AnsKey L n k0' i1' i2' mk' r') : k0 = k0' ∧ i1 = i1' ∧ i2 = i2' ∧ mk = mk' ∧ r = r' := by
  rcases h with ⟨y, rfl, rfl, rfl, rfl, rfl⟩ | ⟨y, rfl, rfl, rfl, rfl, rfl⟩ <;> rcases h' with ⟨y', rfl, rfl, rfl, rfl, rfl⟩ | ⟨y', rfl, rfl, rfl, rfl, rfl⟩ <;> first | exact ⟨rfl, rfl, rfl, rfl, rfl⟩ | exact absurd y' y | exact absurd y y'
def AnsNil (wa : Option Addr) (wc : Nat) (m : Option Addr) (mc : Nat) : Prop := wa = none ∧ wc = 0 ∧ m = none ∧ mc = 0
def SpecAns (w : World) (L : List Int) (n : Int) (wa : Option Addr) (wc : Nat) (m : Option Addr) (mc : Nat) : Prop := (NewYes L n → IntsAt w wa L ∧ ∃ G, m = some ⟨G, 0, none⟩ ∧ MbsAt w G (newMs L n)) ∧ (¬ NewYes L n → AnsNil wa wc m mc)
def ImplAns (w : World) (B U : Nat) (L : List Int) (n : Int) (wa : Option Addr) (wc : Nat) (m : Option Addr) (mc : Nat) : Prop := (NewYes L n → ∃ G T, B ≤ G ∧ m = some ⟨G, 0, none⟩ ∧ (T ≤ U ∧ ∀ x, wa = some ⟨x, 0, none⟩ → x < U) ∧ ArrOwn w G T L.length wa L (newMs L n)) ∧ (¬ NewYes L n → AnsNil wa wc m mc)
def MarkAns (w : World) (L : List Int) (n : Int) (wa : Option Addr) (wc : Nat) (m : Option Addr) (mc : Nat) : Prop := (NewYes L n → ∃ G, m = some ⟨G, 0, none⟩ ∧ ArrMarked w G L.length wa (newMs L n)) ∧ (¬ NewYes L n → AnsNil wa wc m mc)
def markOf (L : List Int) (n : Int) : Int := if NewYes L n then kMbs (1 + (L.length : Int)) (newMs L n) else 1

theorem SpecAns.below {w w' : World} {L : List Int} {n : Int} {wa : Option Addr} {wc : Nat} {m : Option Addr} {mc : Nat} (h : SpecAns w L n wa wc m mc) (hb : Below w.heap.size w w') : SpecAns w' L n wa wc m mc :=
  ⟨fun y => by obtain ⟨h1, G, h2, h3⟩ := h.1 y; exact ⟨h1.below hb (Nat.le_refl _), G, h2, h3.below hb⟩, h.2⟩
theorem ImplAns.below {w w' : World} {B U : Nat} {L : List Int} {n : Int} {wa : Option Addr} {wc : Nat} {m : Option Addr} {mc : Nat} (h : ImplAns w B U L n wa wc m mc) (hb : Below w.heap.size w w') : ImplAns w' B U L n wa wc m mc :=
  ⟨fun y => by obtain ⟨G, T, h1, h2, h4, h3⟩ := h.1 y; exact ⟨G, T, h1, h2, h4, h3.below hb⟩, h.2⟩
theorem ArrOwn.apartBelow {S : Nat → Prop} {w w' : World} {G T k : Nat} {wa : Option Addr} {L : List Int} {ms : List Mb} (h : ArrOwn w G T k wa L ms) (hT : Touch S w w') (hS : ∀ q, S q → q < G) (h1 : 1 ≤ k) : ArrOwn w' G T k wa L ms := by
  obtain ⟨h2, h3, h4, h5, h6, h7, h8⟩ := h
  have hGT := h2.le
  have hGl : G < w.heap.size := by
    obtain ⟨u, hu⟩ := h3.1 0 (by omega)
    exact World.block_lt_of_cell? _ _ hu
  refine ⟨MemsOwn.touch hT (fun hs => by have := hS _ hs; omega) h2 (fun q hq => by have := hS q hq; omega), h3.of_block (hT.block G hGl (fun hs => by have := hS _ hs; omega)), ?_, h5.touch hT (fun q hq => by have := hS q hq; omega), Nat.le_trans h6 hT.size, h7, h8⟩
  exact intsAt_touch h4 (by rw [h8]; exact h5) hT (fun q hq => by have := hS q hq; omega)
theorem NewYes.len {L : List Int} {n : Int} (h : NewYes L n) : 3 ≤ L.length ∧ L.length ≤ 5 := h.1.1
/-- What lies ahead of the answer may be turned. -/
theorem ImplAns.touch {S : Nat → Prop} {w w' : World} {B U : Nat} {L : List Int} {n : Int} {wa : Option Addr} {wc : Nat} {m : Option Addr} {mc : Nat} (h : ImplAns w B U L n wa wc m mc) (hT : Touch S w w') (hS : ∀ q, S q → q < B) : ImplAns w' B U L n wa wc m mc :=
  ⟨fun y => by obtain ⟨G, T, h1, h2, h4, h3⟩ := h.1 y; exact ⟨G, T, h1, h2, h4, h3.apartBelow hT (fun q hq => by have := hS q hq; omega) (by have := y.len; omega)⟩, h.2⟩
theorem MarkAns.below {w w' : World} {L : List Int} {n : Int} {wa : Option Addr} {wc : Nat} {m : Option Addr} {mc : Nat} (h : MarkAns w L n wa wc m mc) (hb : Below w.heap.size w w') : MarkAns w' L n wa wc m mc :=
  ⟨fun y => by obtain ⟨G, h2, h3⟩ := h.1 y; exact ⟨G, h2, h3.below hb⟩, h.2⟩

theorem NewYes.nat {L : List Int} {n : Int} (h : NewYes L n) : 4 ≤ n.toNat ∧ n.toNat ≤ 12 := by have := h.2; omega
theorem newMs_short {L : List Int} {n : Int} (h : NewYes L n) : ∀ m ∈ newMs L n, Mb.Short m := fun m hm => by
  rw [List.eq_of_mem_replicate hm]; exact newMb_short h.nat.1 h.nat.2
theorem kMb_upto {m : Mb} (h : Mb.Short m) (k : Int) : kMb k m ≤ k + 50331698 := by
  have h2 := (kAfter_upto m.bs k h.1.2).2
  have h3 : (m.bs.length : Int) * 4194305 ≤ 12 * 4194305 := Int.mul_le_mul_of_nonneg_right (by have := h.2.1; omega) (by omega)
  have h4 := h.2.2
  unfold kMb
  omega
theorem kMbs_upto {ms : List Mb} : ∀ k, (∀ m ∈ ms, Mb.Short m) → kMbs k ms ≤ k + (ms.length : Int) * 50331698 := by
  induction ms with
  | nil => intro k _; simp [kMbs]
  | cons m ms ih =>
    intro k h
    have h1 := kMb_upto (h m (by simp)) k
    have h2 := ih (kMb k m) (fun x hx => h x (by simp [hx]))
    show kMbs (kMb k m) ms ≤ _
    simp only [List.length_cons]
    omega
theorem markOf_range (L : List Int) (n : Int) : 1 ≤ markOf L n ∧ (NewYes L n → kMbs (1 + (L.length : Int)) (newMs L n) ≤ 1125899906842624) := by
  have hb : NewYes L n → kMbs (1 + (L.length : Int)) (newMs L n) ≤ 1125899906842624 := fun y => by
    have := kMbs_upto (1 + (L.length : Int)) (newMs_short y)
    have hl := y.len
    have h2 : (newMs L n).length = L.length := by simp [newMs]
    rw [h2] at this
    omega
  refine ⟨?_, hb⟩
  unfold markOf
  split
  · have := kMbs_le (newMs L n) (1 + (L.length : Int)); omega
  · omega

theorem spec_ans (wa : Option Addr) (wc : Nat) (L : List Int) (k : Nat) (hL : L.length = k) (hk : k ≤ 1048576) (n : Int) (w : World) (hI : IntsAt w wa L) :
    Calls Try.prog 56 #[.slice wa k wc, .int .i64 n] w fun e w' => ∃ (a : Option Addr) (k0 c : Nat) (i1 i2 : Int) (m : Option Addr) (mk mc : Nat) (r : Bool), e = .returned (.tuple #[.agg #[.slice a k0 c, .int .i64 i1, .int .i64 i2, .bool false, .slice m mk mc, .slice none 0 0], .bool r]) ∧ AnsKey L n k0 i1 i2 mk r ∧ SpecAns w' L n a c m mc ∧ Below w.heap.size w w' := by
  refine (specArrayNew_any wa wc L k hL hk n w hI).mono ?_
  rintro e w' ⟨⟨hno, rfl⟩ | ⟨hyes, a, c, G, mc, rfl, hI2, hM⟩, hB⟩
  · exact ⟨none, 0, 0, 0, 0, none, 0, 0, false, rfl, .inr ⟨hno, rfl, rfl, rfl, rfl, rfl⟩, ⟨fun y => absurd y hno, fun _ => ⟨rfl, rfl, rfl, rfl⟩⟩, hB⟩
  · subst hL
    exact ⟨a, _, c, n, -1, some ⟨G, 0, none⟩, _, mc, true, rfl, .inl ⟨hyes, rfl, rfl, rfl, rfl, rfl⟩, ⟨fun _ => ⟨hI2, G, rfl, hM⟩, fun y => absurd hyes y⟩, hB⟩
theorem impl_ans (wa : Option Addr) (wc : Nat) (L : List Int) (k : Nat) (hL : L.length = k) (n : Int) (w : World) (hI : IntsAt w wa L) :
    Calls Try.prog 58 #[.slice wa k wc, .int .i64 n] w fun e w' => ∃ (a : Option Addr) (k0 c : Nat) (i1 i2 : Int) (m : Option Addr) (mk mc : Nat) (r : Bool), e = .returned (.tuple #[.agg #[.slice a k0 c, .int .i64 i1, .int .i64 i2, .bool false, .slice m mk mc, .slice none 0 0], .bool r]) ∧ AnsKey L n k0 i1 i2 mk r ∧ ImplAns w' w.heap.size w'.heap.size L n a c m mc ∧ Below w.heap.size w w' := by
  refine (implArrayNew_any wa wc L k hL n w hI).mono ?_
  rintro e w' ⟨⟨hno, rfl⟩ | ⟨hyes, G, v, T, rfl, hG, hM, hR, hO⟩, hB⟩
  · exact ⟨none, 0, 0, 0, 0, none, 0, 0, false, rfl, .inr ⟨hno, rfl, rfl, rfl, rfl, rfl⟩, ⟨fun y => absurd y hno, fun _ => ⟨rfl, rfl, rfl, rfl⟩⟩, hB⟩
  · obtain ⟨a, c, rfl, hI2, hM2⟩ := hO.form
    subst hL
    have hTw : T ≤ w'.heap.size := by
      rcases hM2 with ⟨_, h0⟩ | ⟨g, _, h1, h2, _⟩
      · have := (show NewYes L n from hyes).len; omega
      · omega
    refine ⟨a, _, c, n, -1, some ⟨G, 0, none⟩, _, _, true, rfl, .inl ⟨hyes, rfl, rfl, rfl, rfl, rfl⟩, ⟨fun _ => ⟨G, T, hG, rfl, ⟨hTw, fun x hx => (hM2.from hx).2⟩, hM, hR, hI2, hM2, hTw, by simp [newMs], rfl⟩, fun y => absurd hyes y⟩, hB⟩

theorem eq_ans (L : List Int) (k : Nat) (hL : L.length = k) (hk : k ≤ 1048576) (n : Int) (a1 a2 : Option Addr) (k0 c1 c2 : Nat) (i1 i2 : Int) (m1 m2 : Option Addr) (mk d1 d2 : Nat) (r : Bool) (hkey : AnsKey L n k0 i1 i2 mk r) (B U : Nat) (w : World) (h1 : ImplAns w B U L n a1 c1 m1 d1) (h2 : SpecAns w L n a2 c2 m2 d2) :
    Calls Try.prog 59 #[.agg #[.slice a1 k0 c1, .int .i64 i1, .int .i64 i2, .bool false, .slice m1 mk d1, .slice none 0 0], .agg #[.slice a2 k0 c2, .int .i64 i1, .int .i64 i2, .bool false, .slice m2 mk d2, .slice none 0 0]] w fun e w' => e = .returned (.bool true) ∧ Below w.heap.size w w' := by
  rcases hkey with ⟨y, rfl, rfl, rfl, rfl, rfl⟩ | ⟨y, rfl, rfl, rfl, rfl, rfl⟩
  · obtain ⟨G, T, hG, rfl, -, hO⟩ := h1.1 y
    obtain ⟨hI2, G2, rfl, hM2⟩ := h2.1 y
    have hl := y.len
    refine eqArray_by a1 a2 c1 c2 L L.length rfl (by omega) i1 (-1) false _ _ _ _ _ _ w hO.2.2.1 hI2 (fun W hW => ?_)
    exact eqFtlS_same G G2 d1 d2 (newMs L i1) L.length (by simp [newMs]) hl.2 (newMs_short y) W (hO.1.mbsAt.below hW) (hM2.below hW)
  · obtain ⟨rfl, rfl, rfl, rfl⟩ := h1.2 y
    obtain ⟨rfl, rfl, rfl, rfl⟩ := h2.2 y
    refine eqArray_by none none 0 0 [] 0 rfl (by omega) 0 0 false _ _ _ _ _ _ w (fun i x hx => by simp at hx) (fun i x hx => by simp at hx) (fun W hW => ?_)
    refine (eqFtlS_nil W).mono ?_
    rintro e w' ⟨rfl, rfl⟩
    exact ⟨rfl, Below.refl _ _⟩

theorem mark_ans (L : List Int) (n : Int) (a1 : Option Addr) (k0 c1 : Nat) (i1 i2 : Int) (m1 : Option Addr) (mk d1 : Nat) (r : Bool) (hkey : AnsKey L n k0 i1 i2 mk r) (B U : Nat) (w : World) (h : ImplAns w B U L n a1 c1 m1 d1) :
    Calls Try.prog 62 #[.agg #[.slice a1 k0 c1, .int .i64 i1, .int .i64 i2, .bool false, .slice m1 mk d1, .slice none 0 0], .int .i64 1] w fun e w' => e = .returned (.int .i64 (markOf L n)) ∧ MarkAns w' L n a1 c1 m1 d1 ∧ Touch (fun q => B ≤ q ∧ q < U) w w' := by
  have hmr := markOf_range L n
  rcases hkey with ⟨y, rfl, rfl, rfl, rfl, rfl⟩ | ⟨y, rfl, rfl, rfl, rfl, rfl⟩
  · obtain ⟨G, T, hG, rfl, ⟨hTU, hwU⟩, hO⟩ := h.1 y
    refine (markArray_own G T L.length d1 c1 a1 L (newMs L i1) i1 (-1) false y.len.2 (newMs_short y) (hmr.2 y) w hO).mono ?_
    rintro e w' ⟨rfl, hM, hT⟩
    exact ⟨by unfold markOf; rw [if_pos y], ⟨fun _ => ⟨G, rfl, hM⟩, fun z => absurd y z⟩, hT.mono (fun q hq => by
      rcases hq with hq | hq
      · omega
      · have h1 := hwU q hq; have h2 := hO.2.2.2.1.from hq; have h3 := hO.1.le; omega)⟩
  · obtain ⟨rfl, rfl, rfl, rfl⟩ := h.2 y
    refine (markArray_zero w).mono ?_
    rintro e w' ⟨rfl, hB⟩
    exact ⟨by unfold markOf; rw [if_neg y], ⟨fun z => absurd z y, fun _ => ⟨rfl, rfl, rfl, rfl⟩⟩, Touch.of_below hB⟩
theorem held_ans (L : List Int) (n : Int) (a1 : Option Addr) (k0 c1 : Nat) (i1 i2 : Int) (m1 : Option Addr) (mk d1 : Nat) (r : Bool) (hkey : AnsKey L n k0 i1 i2 mk r) (w : World) (h : MarkAns w L n a1 c1 m1 d1) :
    Calls Try.prog 63 #[.agg #[.slice a1 k0 c1, .int .i64 i1, .int .i64 i2, .bool false, .slice m1 mk d1, .slice none 0 0], .int .i64 1] w fun e w' => e = .returned (.int .i64 (markOf L n)) ∧ Below w.heap.size w w' := by
  have hmr := markOf_range L n
  rcases hkey with ⟨y, rfl, rfl, rfl, rfl, rfl⟩ | ⟨y, rfl, rfl, rfl, rfl, rfl⟩
  · obtain ⟨G, rfl, hO⟩ := h.1 y
    refine (heldArray_own G L.length d1 c1 a1 (newMs L i1) (by simp [newMs]) i1 (-1) false y.len.2 (newMs_short y) (hmr.2 y) w hO).mono ?_
    rintro e w' ⟨rfl, hB⟩
    exact ⟨by unfold markOf; rw [if_pos y], hB⟩
  · obtain ⟨rfl, rfl, rfl, rfl⟩ := h.2 y
    refine (heldArray_zero w).mono ?_
    rintro e w' ⟨rfl, hB⟩
    exact ⟨by unfold markOf; rw [if_neg y], hB⟩
theorem RowInts.mine {w : World} {t : TypeId} {b n : Nat} {L : List Int} (h : RowInts w t b n L) (hl : L.length = n) : IntsMine w b 0 n := fun i hi => by
  obtain ⟨x, hx⟩ := getElem?_ex (l := L) (k := i) (by omega)
  obtain ⟨b2, o2, e2, hc⟩ := (h.intsAt (by omega)) i x hx
  cases e2
  exact ⟨⟨x, hc⟩, World.rowIs.frozen h _⟩
end Go.Proofs.Ytimencianaclmaa
