/- 13 texts in one. -/
import Derived.Test.YtjgcjeaplckbbaaGreatG13
import Derived.Test.YtjgcjeaplckbbaaGreatG03
import Derived.Test.YtjgcjeaplckbbaaGreatG06
import Derived.WalkKit
import Derived.Outline
import Derived.Deep.DeepCutAuto
import Derived.Test.YtjgcjeaplckbbaaGreatG02
import Derived.ProofKit
import Derived.OpenShut
import Derived.SliceStrings
import Derived.Test.YtjgcjeaplckbbaaGreatChecked
import Derived.Test.YtjgcjeaplckbbaaGreatG01
import Derived.Below

/- What Written answers, in plain lists. No program is named here. -/
namespace Go.Proofs.YtjgcjeaplckbbaaGreat
open Go.RowKit
set_option linter.unusedVariables false
set_option linter.unusedSimpArgs false

def lastOp (xs : List Opn) : Opn := (xs[xs.length - 1]?).getD zeroOp
theorem lastOp_at {xs : List Opn} (h : 1 ≤ xs.length) : xs[xs.length - 1]? = some (lastOp xs) := by
  unfold lastOp
  obtain ⟨x, hx⟩ := getElem?_ex (l := xs) (k := xs.length - 1) (by omega)
  rw [hx]; rfl
/-- A write that is taken. -/
def DoneIs (bs : List Bk) (L : List Int) (seq o lg : Int) (data : ByteArray) (bs' : List Bk) (L' : List Int) (seq' o' : Int) : Prop :=
  Runs bs (writeOps bs L seq o lg data) bs' ∧ (∃ r, MapIs bs' r L') ∧ seq' = (lastOp (writeOps bs L seq o lg data)).page.seq + 1 ∧ o' = (lastOp (writeOps bs L seq o lg data)).block
/-- What Written answers. -/
def WrittenIs (bs : List Bk) (L : List Int) (seq o lg : Int) (data : ByteArray) (bs' : List Bk) (L' : List Int) (seq' o' code : Int) : Prop :=
  (¬ FtlOk bs L seq o ∧ bs' = [] ∧ L' = [] ∧ seq' = 0 ∧ o' = 0 ∧ code = 1) ∨
  (FtlOk bs L seq o ∧ ¬ formOk bs lg data ∧ bs' = bs ∧ L' = L ∧ seq' = seq ∧ o' = o ∧ code = 2) ∨
  (FtlOk bs L seq o ∧ formOk bs lg data ∧ ¬ roomy bs seq ∧ bs' = bs ∧ L' = L ∧ seq' = seq ∧ o' = o ∧ code = 4) ∨
  (FtlOk bs L seq o ∧ formOk bs lg data ∧ roomy bs seq ∧ DoneIs bs L seq o lg data bs' L' seq' o' ∧ code = 0)
theorem DoneIs.one {bs : List Bk} {L : List Int} {seq o lg : Int} {data : ByteArray} {b1 b2 : List Bk} {L1 L2 : List Int} {s1 s2 o1 o2 : Int} (h : DoneIs bs L seq o lg data b1 L1 s1 o1) (k : DoneIs bs L seq o lg data b2 L2 s2 o2) : b1 = b2 ∧ L1 = L2 ∧ s1 = s2 ∧ o1 = o2 := by
  obtain ⟨h1, ⟨r, h2⟩, h3, h4⟩ := h
  obtain ⟨k1, ⟨t, k2⟩, k3, k4⟩ := k
  obtain rfl := h1.one k1
  exact ⟨rfl, (h2.one k2).2, h3.trans k3.symm, h4.trans k4.symm⟩
theorem WrittenIs.one {bs : List Bk} {L : List Int} {seq o lg : Int} {data : ByteArray} {b1 b2 : List Bk} {L1 L2 : List Int} {s1 s2 o1 o2 c1 c2 : Int} (h : WrittenIs bs L seq o lg data b1 L1 s1 o1 c1) (k : WrittenIs bs L seq o lg data b2 L2 s2 o2 c2) : b1 = b2 ∧ L1 = L2 ∧ s1 = s2 ∧ o1 = o2 ∧ c1 = c2 := by
  rcases h with ⟨h0, rfl, rfl, rfl, rfl, rfl⟩ | ⟨h0, h1, rfl, rfl, rfl, rfl, rfl⟩ | ⟨h0, h1, h2, rfl, rfl, rfl, rfl, rfl⟩ | ⟨h0, h1, h2, h3, rfl⟩
  · rcases k with ⟨_, rfl, rfl, rfl, rfl, rfl⟩ | ⟨k0, _⟩ | ⟨k0, _⟩ | ⟨k0, _⟩
    · exact ⟨rfl, rfl, rfl, rfl, rfl⟩
    · exact absurd k0 h0
    · exact absurd k0 h0
    · exact absurd k0 h0
  · rcases k with ⟨k0, _⟩ | ⟨_, _, rfl, rfl, rfl, rfl, rfl⟩ | ⟨_, k1, _⟩ | ⟨_, k1, _⟩
    · exact absurd h0 k0
    · exact ⟨rfl, rfl, rfl, rfl, rfl⟩
    · exact absurd k1 h1
    · exact absurd k1 h1
  · rcases k with ⟨k0, _⟩ | ⟨_, k1, _⟩ | ⟨_, _, _, rfl, rfl, rfl, rfl, rfl⟩ | ⟨_, _, k2, _⟩
    · exact absurd h0 k0
    · exact absurd h1 k1
    · exact ⟨rfl, rfl, rfl, rfl, rfl⟩
    · exact absurd k2 h2
  · rcases k with ⟨k0, _⟩ | ⟨_, k1, _⟩ | ⟨_, _, k2, _⟩ | ⟨_, _, _, k3, rfl⟩
    · exact absurd h0 k0
    · exact absurd h1 k1
    · exact absurd h2 k2
    · obtain ⟨e1, e2, e3, e4⟩ := h3.one k3
      exact ⟨e1, e2, e3, e4, rfl⟩
theorem Runs.len {xs : List Opn} : ∀ {bs out : List Bk}, Runs bs xs out → out.length = bs.length := by
  induction xs with
  | nil => intro bs out h; cases h; rfl
  | cons x xs ih =>
    rintro bs out ⟨mid, h1, h2⟩
    rw [ih h2]
    rcases h1 with ⟨_, h | h | h⟩ | ⟨_, h | h | h, _⟩
    · omega
    · omega
    · obtain ⟨_, _, b, r, _, _, ⟨_, rfl, _⟩ | ⟨_, rfl, _⟩⟩ := h
      · rfl
      · rw [List.length_set]
    · omega
    · omega
    · obtain ⟨_, _, b, _, ⟨_, rfl, _⟩ | ⟨_, rfl, _⟩⟩ := h
      · rfl
      · rw [List.length_set]
/-- Of what is written no list is long. -/
theorem WrittenIs.short {bs : List Bk} {L : List Int} {seq o lg : Int} {data : ByteArray} {bs' : List Bk} {L' : List Int} {seq' o' code : Int} (h : WrittenIs bs L seq o lg data bs' L' seq' o' code) : Lens 1048576 bs' ∧ bs'.length ≤ 12 ∧ L'.length ≤ 36 := by
  rcases h with ⟨_, rfl, rfl, _⟩ | ⟨h0, _, rfl, rfl, _⟩ | ⟨h0, _, _, rfl, rfl, _⟩ | ⟨h0, _, _, ⟨h1, ⟨r, h2⟩, _⟩, _⟩
  · exact ⟨⟨by simp, fun b hb => by simp at hb⟩, by simp, by simp⟩
  · exact ⟨lens_of_ok h0.chip, h0.chip.count.2, h0.len36⟩
  · exact ⟨lens_of_ok h0.chip, h0.chip.count.2, h0.len36⟩
  · have ok := h1.ok h0.chip
    exact ⟨lens_of_ok ok, ok.count.2, h2.length ok.count.2⟩
theorem lastOp_seq (bs : List Bk) (L : List Int) (seq o log : Int) (data : ByteArray) : seq ≤ (lastOp (writeOps bs L seq o log data)).page.seq ∧ (lastOp (writeOps bs L seq o log data)).page.seq ≤ seq + 4 := by
  have hm := movedTo_length bs L (vicOf bs L (freshOf bs (-1))) (freshOf bs (-1)) seq 4
  unfold writeOps lastOp
  split
  · split
    · simp
      omega
    · simp
      omega
  · simp
    omega
end Go.Proofs.YtjgcjeaplckbbaaGreat

/- A write: the model's l3Written and Written. -/
namespace Go.Proofs.YtjgcjeaplckbbaaGreat
open Go.RowKit
set_option linter.unusedVariables false
set_option linter.unusedSimpArgs false

theorem MineFrom.lower {w : World} {a : Option Addr} {n B B' : Nat} (h : MineFrom w a n B) (hB : B' ≤ B) : MineFrom w a n B' := by
  rcases h with h | ⟨g, h1, h2, h3⟩
  · exact .inl h
  · exact .inr ⟨g, h1, by omega, h3⟩
/-- The box of a member's zero value holds nothing that is read elsewhere. -/
theorem zeroBox_blocks {w w' : World} {B : Nat} (hz : ∀ i, w.cell? ⟨B, i, none⟩ = (#[Value.slice none 0 0, .slice none 0 0, .int .i64 0, .int .i64 0])[i]?) {a : Option Addr} {bs : List Bk} (h : BlocksAt w a bs) (h4 : ∀ b ∈ bs, b.pages.length = 4) (he : ∀ k, k ≠ B → k < w.heap.size → w'.heap[k]? = w.heap[k]?) : BlocksAt w' a bs := by
  have hno : ∀ {i : Nat} {v : Value}, w.cell? ⟨B, i, none⟩ = some v → v = .slice none 0 0 ∨ v = .int .i64 0 := by
    intro i v hv
    rw [hz i] at hv
    match i with
    | 0 => simp at hv; exact .inl hv.symm
    | 1 => simp at hv; exact .inl hv.symm
    | 2 => simp at hv; exact .inr hv.symm
    | 3 => simp at hv; exact .inr hv.symm
    | i + 4 => simp at hv
  intro i b hb
  obtain ⟨g, o, pa, pc, ha, c0, c1, hp⟩ := h i b hb
  have hl := h4 b (List.mem_of_getElem? hb)
  have hg : g ≠ B := by
    rintro rfl
    rcases hno c1 with e | e
    · injection e with _ e2 _
      omega
    · cases e
  have hc : ∀ j, w'.cell? ⟨g, j, none⟩ = w.cell? ⟨g, j, none⟩ := fun j => World.cell?_of_block (w := w) (a := ⟨g, j, none⟩) (he g hg (World.block_lt_of_cell? _ _ c0))
  refine ⟨g, o, pa, pc, ha, (hc _).trans c0, (hc _).trans c1, fun k p hk => ?_⟩
  obtain ⟨g2, o2, ha2, d0, d1, d2, d3⟩ := hp k p hk
  have hg2 : g2 ≠ B := by
    rintro rfl
    rcases hno d0 with e | e <;> cases e
  have hc2 : ∀ j, w'.cell? ⟨g2, j, none⟩ = w.cell? ⟨g2, j, none⟩ := fun j => World.cell?_of_block (w := w) (a := ⟨g2, j, none⟩) (he g2 hg2 (World.block_lt_of_cell? _ _ d0))
  exact ⟨g2, o2, ha2, (hc2 _).trans d0, (hc2 _).trans d1, (hc2 _).trans d2, (hc2 _).trans d3⟩
theorem MineFrom.setLow {w w' : World} {a : Option Addr} {n B P : Nat} (h : MineFrom w a n B) (hP : P < B) (he : ∀ k, k ≠ P → k < w.heap.size → w'.heap[k]? = w.heap[k]?) (hs : w'.heap.size = w.heap.size) : MineFrom w' a n B := by
  rcases h with h | ⟨g, h1, h2, h3, h4⟩
  · exact .inl h
  · exact .inr ⟨g, h1, h2, by omega, h4.of_block (he g (by omega) h3)⟩
theorem intsAt_low {w w' : World} {a : Option Addr} {L : List Int} {B P : Nat} (h : IntsAt w a L) (hM : MineFrom w a L.length B) (hP : P < B) (he : ∀ k, k ≠ P → k < w.heap.size → w'.heap[k]? = w.heap[k]?) : IntsAt w' a L := by
  intro i x hx
  obtain ⟨b, o, ha, hc⟩ := h i x hx
  rcases hM with ⟨h1, h2⟩ | ⟨g, h1, h2, h3, _⟩
  · rw [h1] at ha; cases ha
  · rw [ha] at h1
    cases h1
    exact ⟨b, 0, ha, (World.cell?_of_block (w := w) (a := ⟨b, 0 + i, none⟩) (he b (by omega) h3)).trans hc⟩
theorem heapSet4 (w : World) (P : Nat) (v0 v1 v2 v3 : Value) : (∀ k, k ≠ P → ((((w.setCell ⟨P, 0, none⟩ v0).setCell ⟨P, 1, none⟩ v1).setCell ⟨P, 2, none⟩ v2).setCell ⟨P, 3, none⟩ v3).heap[k]? = w.heap[k]?) ∧ ((((w.setCell ⟨P, 0, none⟩ v0).setCell ⟨P, 1, none⟩ v1).setCell ⟨P, 2, none⟩ v2).setCell ⟨P, 3, none⟩ v3).heap.size = w.heap.size := by
  refine ⟨fun k hk => ?_, by simp [World.setCell]⟩
  rw [Go.Deep.blk_setCell_other _ _ _ _ hk, Go.Deep.blk_setCell_other _ _ _ _ hk, Go.Deep.blk_setCell_other _ _ _ _ hk, Go.Deep.blk_setCell_other _ _ _ _ hk]

set_option maxRecDepth 100000 in
set_option maxHeartbeats 4000000 in
theorem l3Written_any (a : Option Addr) (c : Nat) (bs : List Bk) (n : Nat) (hl : bs.length = n) (ma : Option Addr) (mc : Nat) (L : List Int) (mn : Nat) (hL : L.length = mn) (seq o lg : Int) (data : ByteArray) (hok : FtlOk bs L seq o) (hfo : formOk bs lg data) (hro : roomy bs seq) (w : World) (h : BlocksAt w a bs) (hI : IntsAt w ma L) :
    Calls Tryz.prog 73 #[.agg #[.slice a n c, .slice ma mn mc, .int .i64 seq, .int .i64 o], .int .i64 lg, .string data] w fun e w' => ∃ a2 c2 ma2 mn2 mc2 bs' L' seq' o', e = .returned (.agg #[.slice a2 n c2, .slice ma2 mn2 mc2, .int .i64 seq', .int .i64 o']) ∧ DoneIs bs L seq o lg data bs' L' seq' o' ∧ bs'.length = n ∧ L'.length = mn2 ∧ BlocksAt w' a2 bs' ∧ IntsAt w' ma2 L' ∧ MineFrom w' ma2 mn2 w.heap.size ∧ Below w.heap.size w w' := by
  obtain ⟨out0, hrun0, hlen0⟩ := hok.runs hfo hro
  have hwl := writeOps_length bs L seq o lg data
  have hls := lastOp_seq bs L seq o lg data
  have hsq := hok.seq
  have htp := hok.chip.top
  have hro2 := hro.2
  have HLA := hide (lastOp_at (xs := writeOps bs L seq o lg data) hwl.1)
  have HOK := hide hok
  have HRUN := hide hrun0
  have HA := hide h
  have HI := hide hI
  have HL := hide hL
  have HLB := hide hl
  clear hok h hI hL hl hrun0 hlen0 hfo hro
  go_enter Tryz.func73, Tryz.ntmps73
  obtain ⟨w0, hw0⟩ : ∃ w0, w0 = (w.alloc (.cells #[.slice a n c, .slice ma mn mc, .int .i64 seq, .int .i64 o] 29)).alloc (.cells #[.slice none 0 0, .slice none 0 0, .int .i64 0, .int .i64 0] 29) := ⟨_, rfl⟩
  have hs0 : w0.heap.size = w.heap.size + 1 + 1 := by rw [hw0]; simp
  have hB0 : Below w.heap.size w w0 := by rw [hw0]; exact ((Below.refl _ w).alloc (Nat.le_refl _) _).alloc (by simp) _
  have hx0 : ∀ i, w0.cell? ⟨w.heap.size, i, none⟩ = (#[Value.slice a n c, .slice ma mn mc, .int .i64 seq, .int .i64 o])[i]? := fun i => by
    rw [hw0, cell_alloc_lt _ _ _ _ (by simp)]
    simp
  have hr0 : w0.heap[w.heap.size + 1]? = some (.cells #[.slice none 0 0, .slice none 0 0, .int .i64 0, .int .i64 0] 29 (0, 0)) := by rw [hw0]; exact heap_alloc2_new _ _ _
  have k0 := hx0 0
  have k1 := hx0 1
  have k2 := hx0 2
  have k3 := hx0 3
  simp at k0 k1 k2 k3
  have HZR : Hid (∀ W, Below w0.heap.size w0 W → (∀ i, W.cell? ⟨w.heap.size + 1, i, none⟩ = (#[Value.slice none 0 0, .slice none 0 0, .int .i64 0, .int .i64 0])[i]?) ∧ ∀ i, W.frozen? ⟨w.heap.size + 1, i, none⟩ = false) := fun W hW => by
    have hr := (hW.block (w.heap.size + 1) (by omega)).trans hr0
    exact ⟨fun i => cell_of_row _ _ i _ _ _ hr, fun i => frozen_of_row _ _ i _ _ hr⟩
  have HS0 := hide hs0
  have hsl : w.heap.size + 1 < w0.heap.size := by omega
  clear hx0 hr0 hs0
  go_upto_region 1 with fail
  rw [← hw0]
  clear hw0
  go_wp2_with fail
  refine (l3Ops_any a c bs n (unhide HLB) ma mc L mn (unhide HL) seq o lg data (unhide HOK) _ ((unhide HA).below hB0 (Nat.le_refl _)) ((unhide HI).below hB0 (Nat.le_refl _))).mono ?_
  rintro e w1 ⟨rv, rfl, hrv, hB1⟩
  obtain ⟨la, lc, rfl, hOA, _⟩ := hrv.form
  have hs1 := hB1.size
  have hB01 := hB0.trans (hB1.mono hB0.size)
  have HB1 := hide hB1
  have e0 := (hB1.cell (p := ⟨w.heap.size, 0, none⟩) (by show w.heap.size < _; omega)).trans k0
  have HOA := hide hOA
  obtain ⟨M, hM⟩ : ∃ M, M = (writeOps bs L seq o lg data).length := ⟨_, rfl⟩
  rw [← hM] at hwl HLA ⊢
  have HM := hide hM
  clear hrv hOA hB1 k0 k1 k2 k3 hM
  go_wp2_with fail
  refine (l3Did_any a c bs n (unhide HLB) (unhide HOK).chip la lc (writeOps bs L seq o lg data) M (unhide HM).symm (by omega) _ ((unhide HA).below hB01 (Nat.le_refl _)) (unhide HOA)).mono ?_
  rintro e w2 ⟨⟨a2, n2, c2, out, r, rfl, hon, hAo, hrr⟩, hB2⟩
  have hrt : r = true ∧ Runs bs (writeOps bs L seq o lg data) out := by
    rcases hrr with h | ⟨_, _, h⟩
    · exact h
    · exact absurd ⟨_, unhide HRUN⟩ h
  obtain ⟨rfl, hrun⟩ := hrt
  have hol := hrun.len
  obtain rfl : n2 = n := by have := unhide HLB; omega
  have hs2 := hB2.size
  have HOKo := hide (hrun.ok (unhide HOK).chip)
  have HRo := hide hrun
  have HLo : Hid (out.length = n2) := hon
  obtain ⟨w3, hw3⟩ : ∃ w3, w3 = w2.alloc (.cells #[.slice a2 n2 c2] 26) := ⟨_, rfl⟩
  have hB3 : Below w2.heap.size w2 w3 := by rw [hw3]; exact (Below.refl _ w2).alloc (Nat.le_refl _) _
  have hs3 : w3.heap.size = w2.heap.size + 1 := by rw [hw3]; simp
  have p3 : w3.cell? ⟨w2.heap.size, 0, none⟩ = some (.slice a2 n2 c2) := by rw [hw3]; simp
  have HAo := hide (hAo.below hB3 (Nat.le_refl _))
  have HB13 := hide (hB2.trans (hB3.mono hs2))
  have HS3 := hide hs3
  have hsl3 : w2.heap.size < w3.heap.size := by omega
  clear hrr hrun hol hon hAo hB2 hB3 e0 HRUN hs3
  go_wp2_with fail
  rw [← hw3]
  clear hw3
  refine (l2Map_any a2 c2 out n2 (unhide HLo) (unhide HOKo) _ (unhide HAo)).mono ?_
  rintro e w4 ⟨⟨mv, mr, L', rfl, hMI, hMO⟩, hB4⟩
  obtain ⟨ma2, mc2, rfl, hI4, hM4⟩ := hMO.form
  have hs4 := hB4.size
  have p4 := (hB4.cell (p := ⟨w2.heap.size, 0, none⟩) hsl3).trans p3
  have hml := hMI.length (unhide HOKo).count.2
  obtain ⟨mn2, hmn2⟩ : ∃ mn2, mn2 = L'.length := ⟨_, rfl⟩
  rw [← hmn2] at hM4 hml ⊢
  obtain ⟨b5, o5, hla, q0, q1, q2, q3, q4, q5⟩ := ((unhide HOA).below ((unhide HB13).trans (hB4.mono (unhide HB13).size)) (Nat.le_refl _)) (M - 1) _ (by have := unhide HLA; rw [this])
  subst hla
  obtain ⟨X, hX⟩ : ∃ X, X = lastOp (writeOps bs L seq o lg data) := ⟨_, rfl⟩
  rw [← hX] at q0 q1 q2 q3 q4 q5 hls
  have hB14 := (unhide HB13).trans (hB4.mono (unhide HB13).size)
  have hB04 : Below w0.heap.size w0 w4 := (unhide HB1).trans (hB14.mono hs1)
  have hBW4 := hB0.trans (hB04.mono hB0.size)
  have hMi : ((M - 1 : Nat) : Int) = (M : Int) - 1 := by omega
  have HA4 := hide ((unhide HAo).below hB4 (Nat.le_refl _))
  have HI4 := hide hI4
  have HM4 := hide hM4
  have HMI := hide hMI
  have HX := hide (And.intro hX hmn2)
  have hM1 : 1 ≤ M := hwl.1
  have hM6 : M ≤ 6 := hwl.2
  have hq4a : 0 ≤ X.page.seq := by omega
  have hq4b : X.page.seq ≤ 1000000000 := by omega
  clear hB4 p3 hmn2 hMO hI4 hM4 hMI hX hB14 HB13 HOA HLA
  obtain ⟨w5, hw5⟩ : ∃ w5, w5 = w4.alloc (.cells #[.int .i64 X.kind, .int .i64 X.block, .bool X.page.used, .int .i64 X.page.log, .int .i64 X.page.seq, .string X.page.data] 93) := ⟨_, rfl⟩
  have hB5 : Below w4.heap.size w4 w5 := by rw [hw5]; exact (Below.refl _ w4).alloc (Nat.le_refl _) _
  have hs5 : w4.heap.size < w5.heap.size := by rw [hw5]; simp
  have t1 : w5.cell? ⟨w4.heap.size, 1, none⟩ = some (.int .i64 X.block) := by rw [hw5]; simp
  have t4 : w5.cell? ⟨w4.heap.size, 4, none⟩ = some (.int .i64 X.page.seq) := by rw [hw5]; simp
  have p5 := (hB5.cell (p := ⟨w2.heap.size, 0, none⟩) (by show w2.heap.size < _; omega)).trans p4
  have hB05 := hB04.trans (hB5.mono hB04.size)
  obtain ⟨hzc, hzf⟩ := unhide HZR w5 hB05
  have HZC := hide hzc
  have z0 := hzc 0
  have z1 := hzc 1
  have z2 := hzc 2
  have z3 := hzc 3
  simp at z0 z1 z2 z3
  have f0 := hzf 0
  have f1 := hzf 1
  have f2 := hzf 2
  have f3 := hzf 3
  have HA5 := hide ((unhide HA4).below hB5 (Nat.le_refl _))
  have HI5 := hide ((unhide HI4).below hB5 (Nat.le_refl _))
  have HM5 := hide (((unhide HM4).below hB5).lower (show w.heap.size + 2 ≤ w3.heap.size + 1 by have := unhide HS3; omega))
  have hBW5 := hBW4.trans (hB5.mono hBW4.size)
  go_upto_region 5 with fail
  rw [← hw5]
  clear hw5 hB5 hzc hzf p4 q0 q1 q2 q3 q4 q5 HA4 HI4 HM4
  obtain ⟨W5, hW5⟩ : ∃ W5, W5 = ((((w5.setCell ⟨w.heap.size + 1, 0, none⟩ (.slice a2 n2 c2)).setCell ⟨w.heap.size + 1, 1, none⟩ (.slice ma2 mn2 mc2)).setCell ⟨w.heap.size + 1, 2, none⟩ (.int .i64 (X.page.seq + 1))).setCell ⟨w.heap.size + 1, 3, none⟩ (.int .i64 X.block)) := ⟨_, rfl⟩
  have y0 : W5.cell? ⟨w.heap.size + 1, 0, none⟩ = some (.slice a2 n2 c2) := by rw [hW5, World.cell?_setCell_other _ _ _ _ (by simp), World.cell?_setCell_other _ _ _ _ (by simp), World.cell?_setCell_other _ _ _ _ (by simp), World.cell?_setCell_same' _ _ _ (by rw [z0]; rfl)]
  have y1 : W5.cell? ⟨w.heap.size + 1, 1, none⟩ = some (.slice ma2 mn2 mc2) := by rw [hW5, World.cell?_setCell_other _ _ _ _ (by simp), World.cell?_setCell_other _ _ _ _ (by simp), World.cell?_setCell_same' _ _ _ (by rw [World.cell?_setCell_other _ _ _ _ (by simp), z1]; rfl)]
  have y2 : W5.cell? ⟨w.heap.size + 1, 2, none⟩ = some (.int .i64 (X.page.seq + 1)) := by rw [hW5, World.cell?_setCell_other _ _ _ _ (by simp), World.cell?_setCell_same' _ _ _ (by rw [World.cell?_setCell_other _ _ _ _ (by simp), World.cell?_setCell_other _ _ _ _ (by simp), z2]; rfl)]
  have y3 : W5.cell? ⟨w.heap.size + 1, 3, none⟩ = some (.int .i64 X.block) := by rw [hW5, World.cell?_setCell_same' _ _ _ (by rw [World.cell?_setCell_other _ _ _ _ (by simp), World.cell?_setCell_other _ _ _ _ (by simp), World.cell?_setCell_other _ _ _ _ (by simp), z3]; rfl)]
  obtain ⟨hH, hHs⟩ := heapSet4 w5 (w.heap.size + 1) (.slice a2 n2 c2) (.slice ma2 mn2 mc2) (.int .i64 (X.page.seq + 1)) (.int .i64 X.block)
  have hWB : Below w.heap.size w W5 := by
    rw [hW5]
    exact (((hBW5.setCell (by show w.heap.size ≤ w.heap.size + 1; omega) _).setCell (by show w.heap.size ≤ w.heap.size + 1; omega) _).setCell (by show w.heap.size ≤ w.heap.size + 1; omega) _).setCell (by show w.heap.size ≤ w.heap.size + 1; omega) _
  rw [← hW5] at hH hHs
  have HFA : Hid (BlocksAt W5 a2 out) := zeroBox_blocks (unhide HZC) (unhide HA5) (fun b hb => ((unhide HOKo).block b hb).four) (fun k hk _ => hH k hk)
  have HFI : Hid (IntsAt W5 ma2 L') := intsAt_low (unhide HI5) (by rw [← (unhide HX).2]; exact unhide HM5) (show w.heap.size + 1 < w.heap.size + 2 by omega) (fun k hk _ => hH k hk)
  have HFM : Hid (MineFrom W5 ma2 mn2 (w.heap.size + 2)) := (unhide HM5).setLow (show w.heap.size + 1 < w.heap.size + 2 by omega) (fun k hk _ => hH k hk) hHs
  clear hH hHs
  go_wp2
  try rw [← hW5]
  exact bodyPost_ret (v := .agg #[.slice a2 n2 c2, .slice ma2 mn2 mc2, .int .i64 (X.page.seq + 1), .int .i64 X.block]) (by simp [results, Tryz.results73, go_sem, y0, y1, y2, y3]) rfl ⟨a2, c2, ma2, mn2, mc2, out, L', _, _, rfl, ⟨unhide HRo, ⟨mr, unhide HMI⟩, by rw [← (unhide HX).1], by rw [← (unhide HX).1]⟩, unhide HLo, (unhide HX).2.symm, unhide HFA, unhide HFI, (unhide HFM).lower (by omega), hWB⟩

set_option maxRecDepth 100000 in
set_option maxHeartbeats 4000000 in
theorem specWritten_any (a : Option Addr) (c : Nat) (bs : List Bk) (n : Nat) (hl : bs.length = n) (ma : Option Addr) (mc : Nat) (L : List Int) (mn : Nat) (hL : L.length = mn) (seq o lg : Int) (data : ByteArray) (w : World) (h : BlocksAt w a bs) (hn : Lens 1048576 bs) (hI : IntsAt w ma L) (hmn : mn ≤ 1048576) (hd : data.size ≤ 1048576) :
    Calls Tryz.prog 38 #[.agg #[.slice a n c, .slice ma mn mc, .int .i64 seq, .int .i64 o], .int .i64 lg, .string data] w fun e w' => ∃ a2 n2 c2 ma2 mn2 mc2 bs' L' seq' o' code, e = .returned (.tuple #[.agg #[.slice a2 n2 c2, .slice ma2 mn2 mc2, .int .i64 seq', .int .i64 o'], .int .i64 code]) ∧ WrittenIs bs L seq o lg data bs' L' seq' o' code ∧ bs'.length = n2 ∧ L'.length = mn2 ∧ BlocksAt w' a2 bs' ∧ IntsAt w' ma2 L' ∧ MineFrom w' ma2 mn2 w.heap.size ∧ Below w.heap.size w w' := by
  have hb0 : ∀ o1 o2, Below w.heap.size w ((w.alloc o1).alloc o2) := fun o1 o2 => ((Below.refl _ w).alloc (Nat.le_refl _) _).alloc (by simp) _
  have HA := hide h
  have HI := hide hI
  have HL := hide hl
  have HLL := hide hL
  have HN := hide hn
  clear h hI hl hL hn
  go_enter Tryz.func38, Tryz.ntmps38
  obtain ⟨w0, hw0⟩ : ∃ w0, w0 = (w.alloc (.cells #[.slice a n c, .slice ma mn mc, .int .i64 seq, .int .i64 o] 29)).alloc (.cells #[.slice none 0 0, .slice none 0 0, .int .i64 0, .int .i64 0] 29) := ⟨_, rfl⟩
  have hs0 : w0.heap.size = w.heap.size + 1 + 1 := by rw [hw0]; simp
  have hB0 : Below w.heap.size w w0 := by rw [hw0]; exact hb0 _ _
  have hx0 : ∀ i, w0.cell? ⟨w.heap.size, i, none⟩ = (#[Value.slice a n c, .slice ma mn mc, .int .i64 seq, .int .i64 o])[i]? := fun i => by
    rw [hw0, cell_alloc_lt _ _ _ _ (by simp)]
    simp
  have hr0 : w0.heap[w.heap.size + 1]? = some (.cells #[.slice none 0 0, .slice none 0 0, .int .i64 0, .int .i64 0] 29 (0, 0)) := by rw [hw0]; exact heap_alloc2_new _ _ _
  have k0 := hx0 0
  have k1 := hx0 1
  have k2 := hx0 2
  have k3 := hx0 3
  simp at k0 k1 k2 k3
  have HZR : Hid (∀ W, Below w0.heap.size w0 W → (∀ i, W.cell? ⟨w.heap.size + 1, i, none⟩ = (#[Value.slice none 0 0, .slice none 0 0, .int .i64 0, .int .i64 0])[i]?) ∧ ∀ i, W.frozen? ⟨w.heap.size + 1, i, none⟩ = false) := fun W hW => by
    have hr := (hW.block (w.heap.size + 1) (by omega)).trans hr0
    exact ⟨fun i => cell_of_row _ _ i _ _ _ hr, fun i => frozen_of_row _ _ i _ _ hr⟩
  have HS0 := hide hs0
  have hsl : w.heap.size + 1 < w0.heap.size := by omega
  clear hx0 hr0 hs0 hb0
  go_upto_region 1 with fail
  rw [← hw0]
  clear hw0
  go_wp2_with fail
  refine (specFtlOk_any a c bs n (unhide HL) ma mc L mn (unhide HLL) seq o _ ((unhide HA).below hB0 (Nat.le_refl _)) (unhide HN) ((unhide HI).below hB0 (Nat.le_refl _)) hmn).mono ?_
  rintro e w1 ⟨⟨r, rfl, hr⟩, hB1⟩
  have hs1 := hB1.size
  have hW1 := hB0.trans (hB1.mono hB0.size)
  have HB1 := hide hB1
  have m0 := (hB1.cell (p := ⟨w.heap.size, 0, none⟩) (by show w.heap.size < _; omega)).trans k0
  have m1 := (hB1.cell (p := ⟨w.heap.size, 1, none⟩) (by show w.heap.size < _; omega)).trans k1
  have m2 := (hB1.cell (p := ⟨w.heap.size, 2, none⟩) (by show w.heap.size < _; omega)).trans k2
  have m3 := (hB1.cell (p := ⟨w.heap.size, 3, none⟩) (by show w.heap.size < _; omega)).trans k3
  have HR := hide hr
  clear hr k0 k1 k2 k3
  cases r with
  | false =>
    obtain ⟨hzc, hzf⟩ := unhide HZR w1 (unhide HB1)
    have z0 := hzc 0
    have z1 := hzc 1
    have z2 := hzc 2
    have z3 := hzc 3
    simp at z0 z1 z2 z3
    have f0 := hzf 0
    have f1 := hzf 1
    have f2 := hzf 2
    have f3 := hzf 3
    obtain ⟨W5, hW5⟩ : ∃ W5, W5 = ((((w1.setCell ⟨w.heap.size + 1, 0, none⟩ (.slice none 0 0)).setCell ⟨w.heap.size + 1, 1, none⟩ (.slice none 0 0)).setCell ⟨w.heap.size + 1, 2, none⟩ (.int .i64 0)).setCell ⟨w.heap.size + 1, 3, none⟩ (.int .i64 0)) := ⟨_, rfl⟩
    have y0 : W5.cell? ⟨w.heap.size + 1, 0, none⟩ = some (.slice none 0 0) := by rw [hW5, World.cell?_setCell_other _ _ _ _ (by simp), World.cell?_setCell_other _ _ _ _ (by simp), World.cell?_setCell_other _ _ _ _ (by simp), World.cell?_setCell_same' _ _ _ (by rw [z0]; rfl)]
    have y1 : W5.cell? ⟨w.heap.size + 1, 1, none⟩ = some (.slice none 0 0) := by rw [hW5, World.cell?_setCell_other _ _ _ _ (by simp), World.cell?_setCell_other _ _ _ _ (by simp), World.cell?_setCell_same' _ _ _ (by rw [World.cell?_setCell_other _ _ _ _ (by simp), z1]; rfl)]
    have y2 : W5.cell? ⟨w.heap.size + 1, 2, none⟩ = some (.int .i64 0) := by rw [hW5, World.cell?_setCell_other _ _ _ _ (by simp), World.cell?_setCell_same' _ _ _ (by rw [World.cell?_setCell_other _ _ _ _ (by simp), World.cell?_setCell_other _ _ _ _ (by simp), z2]; rfl)]
    have y3 : W5.cell? ⟨w.heap.size + 1, 3, none⟩ = some (.int .i64 0) := by rw [hW5, World.cell?_setCell_same' _ _ _ (by rw [World.cell?_setCell_other _ _ _ _ (by simp), World.cell?_setCell_other _ _ _ _ (by simp), World.cell?_setCell_other _ _ _ _ (by simp), z3]; rfl)]
    have hWB : Below w.heap.size w W5 := by
      rw [hW5]
      exact (((hW1.setCell (by show w.heap.size ≤ w.heap.size + 1; omega) _).setCell (by show w.heap.size ≤ w.heap.size + 1; omega) _).setCell (by show w.heap.size ≤ w.heap.size + 1; omega) _).setCell (by show w.heap.size ≤ w.heap.size + 1; omega) _
    clear hzc hzf
    go_wp2
    try rw [← hW5]
    exact bodyPost_ret (v := .tuple #[.agg #[.slice none 0 0, .slice none 0 0, .int .i64 0, .int .i64 0], .int .i64 1]) (by simp [results, Tryz.results38, go_sem, y0, y1, y2, y3]) rfl ⟨none, 0, 0, none, 0, 0, [], [], 0, 0, 1, rfl, .inl ⟨(fun hc => by have := (unhide HR).2 hc; cases this), rfl, rfl, rfl, rfl, rfl⟩, rfl, rfl, (fun i b hb => by simp at hb), (fun i x hx => by simp at hx), .inl ⟨rfl, rfl⟩, hWB⟩
  | true =>
    have hok := (unhide HR).1 (by trivial)
    have hn12 : n ≤ 12 := by have := hok.chip.count; have := unhide HL; omega
    have hroom : (mn : Int) = (roomOf bs : Int) := by have := hok.len; have := unhide HLL; unfold roomOf; omega
    have HRM := hide hroom
    have HOK := hide hok
    clear hok hroom
    go_wp2_with fail
    refine (l3Form_any _ ma mc mn seq o lg data _ hmn hd).mono ?_
    rintro e w2 ⟨⟨r2, rfl, hr2⟩, hB2⟩
    have hs2 := hB2.size
    have hW2 := hW1.trans (hB2.mono hW1.size)
    have HB2 := hide ((unhide HB1).trans (hB2.mono hs1))
    have k0 := (hB2.cell (p := ⟨w.heap.size, 0, none⟩) (by show w.heap.size < _; omega)).trans m0
    have k1 := (hB2.cell (p := ⟨w.heap.size, 1, none⟩) (by show w.heap.size < _; omega)).trans m1
    have k2 := (hB2.cell (p := ⟨w.heap.size, 2, none⟩) (by show w.heap.size < _; omega)).trans m2
    have k3 := (hB2.cell (p := ⟨w.heap.size, 3, none⟩) (by show w.heap.size < _; omega)).trans m3
    have HR2 := hide hr2
    clear hr2 hB2 hW1 m0 m1 m2 m3 HB1
    cases r2 with
    | false =>
      have HNF : Hid (¬ formOk bs lg data) := fun hc => by have := (unhide HR2).2 (by unfold formOk at hc; rw [← unhide HRM] at hc; exact hc); cases this
      go_wp2_with fail
      refine (l3Copy_any a c bs n (unhide HL) ma mc L mn (unhide HLL) seq o (unhide HOK) _ ((unhide HA).below hW2 (Nat.le_refl _)) ((unhide HI).below hW2 (Nat.le_refl _))).mono ?_
      rintro e w3 ⟨a2, c2, ma2, mc2, rfl, hA3, hI3, hM3, hB3⟩
      have hs3 := hB3.size
      have hW3 := hW2.trans (hB3.mono hW2.size)
      have hB03 := (unhide HB2).trans (hB3.mono (by omega))
      obtain ⟨hzc, hzf⟩ := unhide HZR w3 hB03
      have HZC := hide hzc
      have z0 := hzc 0
      have z1 := hzc 1
      have z2 := hzc 2
      have z3 := hzc 3
      simp at z0 z1 z2 z3
      have f0 := hzf 0
      have f1 := hzf 1
      have f2 := hzf 2
      have f3 := hzf 3
      obtain ⟨W5, hW5⟩ : ∃ W5, W5 = ((((w3.setCell ⟨w.heap.size + 1, 0, none⟩ (.slice a2 n c2)).setCell ⟨w.heap.size + 1, 1, none⟩ (.slice ma2 mn mc2)).setCell ⟨w.heap.size + 1, 2, none⟩ (.int .i64 seq)).setCell ⟨w.heap.size + 1, 3, none⟩ (.int .i64 o)) := ⟨_, rfl⟩
      have y0 : W5.cell? ⟨w.heap.size + 1, 0, none⟩ = some (.slice a2 n c2) := by rw [hW5, World.cell?_setCell_other _ _ _ _ (by simp), World.cell?_setCell_other _ _ _ _ (by simp), World.cell?_setCell_other _ _ _ _ (by simp), World.cell?_setCell_same' _ _ _ (by rw [z0]; rfl)]
      have y1 : W5.cell? ⟨w.heap.size + 1, 1, none⟩ = some (.slice ma2 mn mc2) := by rw [hW5, World.cell?_setCell_other _ _ _ _ (by simp), World.cell?_setCell_other _ _ _ _ (by simp), World.cell?_setCell_same' _ _ _ (by rw [World.cell?_setCell_other _ _ _ _ (by simp), z1]; rfl)]
      have y2 : W5.cell? ⟨w.heap.size + 1, 2, none⟩ = some (.int .i64 seq) := by rw [hW5, World.cell?_setCell_other _ _ _ _ (by simp), World.cell?_setCell_same' _ _ _ (by rw [World.cell?_setCell_other _ _ _ _ (by simp), World.cell?_setCell_other _ _ _ _ (by simp), z2]; rfl)]
      have y3 : W5.cell? ⟨w.heap.size + 1, 3, none⟩ = some (.int .i64 o) := by rw [hW5, World.cell?_setCell_same' _ _ _ (by rw [World.cell?_setCell_other _ _ _ _ (by simp), World.cell?_setCell_other _ _ _ _ (by simp), World.cell?_setCell_other _ _ _ _ (by simp), z3]; rfl)]
      obtain ⟨hH, hHs⟩ := heapSet4 w3 (w.heap.size + 1) (.slice a2 n c2) (.slice ma2 mn mc2) (.int .i64 seq) (.int .i64 o)
      have hWB : Below w.heap.size w W5 := by
        rw [hW5]
        exact (((hW3.setCell (by show w.heap.size ≤ w.heap.size + 1; omega) _).setCell (by show w.heap.size ≤ w.heap.size + 1; omega) _).setCell (by show w.heap.size ≤ w.heap.size + 1; omega) _).setCell (by show w.heap.size ≤ w.heap.size + 1; omega) _
      rw [← hW5] at hH hHs
      have hM3' : MineFrom w3 ma2 mn (w.heap.size + 2) := hM3.lower (by have := unhide HS0; omega)
      have HFA : Hid (BlocksAt W5 a2 bs) := zeroBox_blocks (unhide HZC) hA3 (fun b hb => ((unhide HOK).chip.block b hb).four) (fun k hk _ => hH k hk)
      have HFI : Hid (IntsAt W5 ma2 L) := intsAt_low hI3 (by rw [unhide HLL]; exact hM3') (show w.heap.size + 1 < w.heap.size + 2 by omega) (fun k hk _ => hH k hk)
      have HFM : Hid (MineFrom W5 ma2 mn (w.heap.size + 2)) := hM3'.setLow (show w.heap.size + 1 < w.heap.size + 2 by omega) (fun k hk _ => hH k hk) hHs
      clear hH hHs hM3' hA3 hI3 hM3 hB3 hzc hzf hW3
      go_wp2
      try rw [← hW5]
      exact bodyPost_ret (v := .tuple #[.agg #[.slice a2 n c2, .slice ma2 mn mc2, .int .i64 seq, .int .i64 o], .int .i64 2]) (by simp [results, Tryz.results38, go_sem, y0, y1, y2, y3]) rfl ⟨a2, n, c2, ma2, mn, mc2, bs, L, seq, o, 2, rfl, .inr (.inl ⟨unhide HOK, unhide HNF, rfl, rfl, rfl, rfl, rfl⟩), unhide HL, unhide HLL, unhide HFA, unhide HFI, (unhide HFM).lower (by omega), hWB⟩
    | true =>
      have HFO : Hid (formOk bs lg data) := by have := (unhide HR2).1 (by trivial); rw [unhide HRM] at this; exact this
      go_wp2_with fail
      refine (l3Room_any a c bs n (unhide HL) hn12 ma mc mn seq o _ ((unhide HA).below hW2 (Nat.le_refl _))).mono ?_
      rintro e w2b ⟨⟨r3, rfl, hr3⟩, hB2b⟩
      have hs2b := hB2b.size
      have hW2b := hW2.trans (hB2b.mono hW2.size)
      have HB2b := hide ((unhide HB2).trans (hB2b.mono (by omega)))
      have m0 := (hB2b.cell (p := ⟨w.heap.size, 0, none⟩) (by show w.heap.size < _; omega)).trans k0
      have m1 := (hB2b.cell (p := ⟨w.heap.size, 1, none⟩) (by show w.heap.size < _; omega)).trans k1
      have m2 := (hB2b.cell (p := ⟨w.heap.size, 2, none⟩) (by show w.heap.size < _; omega)).trans k2
      have m3 := (hB2b.cell (p := ⟨w.heap.size, 3, none⟩) (by show w.heap.size < _; omega)).trans k3
      have HR3 := hide hr3
      clear hr3 hB2b k0 k1 k2 k3
      cases r3 with
      | false =>
        have HNR : Hid (¬ roomy bs seq) := fun hc => by have := (unhide HR3).2 hc; cases this
        go_wp2_with fail
        refine (l3Copy_any a c bs n (unhide HL) ma mc L mn (unhide HLL) seq o (unhide HOK) _ ((unhide HA).below hW2b (Nat.le_refl _)) ((unhide HI).below hW2b (Nat.le_refl _))).mono ?_
        rintro e w3 ⟨a2, c2, ma2, mc2, rfl, hA3, hI3, hM3, hB3⟩
        have hs3 := hB3.size
        have hW3 := hW2b.trans (hB3.mono hW2b.size)
        have hB03 := (unhide HB2b).trans (hB3.mono (by omega))
        obtain ⟨hzc, hzf⟩ := unhide HZR w3 hB03
        have HZC := hide hzc
        have z0 := hzc 0
        have z1 := hzc 1
        have z2 := hzc 2
        have z3 := hzc 3
        simp at z0 z1 z2 z3
        have f0 := hzf 0
        have f1 := hzf 1
        have f2 := hzf 2
        have f3 := hzf 3
        obtain ⟨W5, hW5⟩ : ∃ W5, W5 = ((((w3.setCell ⟨w.heap.size + 1, 0, none⟩ (.slice a2 n c2)).setCell ⟨w.heap.size + 1, 1, none⟩ (.slice ma2 mn mc2)).setCell ⟨w.heap.size + 1, 2, none⟩ (.int .i64 seq)).setCell ⟨w.heap.size + 1, 3, none⟩ (.int .i64 o)) := ⟨_, rfl⟩
        have y0 : W5.cell? ⟨w.heap.size + 1, 0, none⟩ = some (.slice a2 n c2) := by rw [hW5, World.cell?_setCell_other _ _ _ _ (by simp), World.cell?_setCell_other _ _ _ _ (by simp), World.cell?_setCell_other _ _ _ _ (by simp), World.cell?_setCell_same' _ _ _ (by rw [z0]; rfl)]
        have y1 : W5.cell? ⟨w.heap.size + 1, 1, none⟩ = some (.slice ma2 mn mc2) := by rw [hW5, World.cell?_setCell_other _ _ _ _ (by simp), World.cell?_setCell_other _ _ _ _ (by simp), World.cell?_setCell_same' _ _ _ (by rw [World.cell?_setCell_other _ _ _ _ (by simp), z1]; rfl)]
        have y2 : W5.cell? ⟨w.heap.size + 1, 2, none⟩ = some (.int .i64 seq) := by rw [hW5, World.cell?_setCell_other _ _ _ _ (by simp), World.cell?_setCell_same' _ _ _ (by rw [World.cell?_setCell_other _ _ _ _ (by simp), World.cell?_setCell_other _ _ _ _ (by simp), z2]; rfl)]
        have y3 : W5.cell? ⟨w.heap.size + 1, 3, none⟩ = some (.int .i64 o) := by rw [hW5, World.cell?_setCell_same' _ _ _ (by rw [World.cell?_setCell_other _ _ _ _ (by simp), World.cell?_setCell_other _ _ _ _ (by simp), World.cell?_setCell_other _ _ _ _ (by simp), z3]; rfl)]
        obtain ⟨hH, hHs⟩ := heapSet4 w3 (w.heap.size + 1) (.slice a2 n c2) (.slice ma2 mn mc2) (.int .i64 seq) (.int .i64 o)
        have hWB : Below w.heap.size w W5 := by
          rw [hW5]
          exact (((hW3.setCell (by show w.heap.size ≤ w.heap.size + 1; omega) _).setCell (by show w.heap.size ≤ w.heap.size + 1; omega) _).setCell (by show w.heap.size ≤ w.heap.size + 1; omega) _).setCell (by show w.heap.size ≤ w.heap.size + 1; omega) _
        rw [← hW5] at hH hHs
        have hM3' : MineFrom w3 ma2 mn (w.heap.size + 2) := hM3.lower (by have := unhide HS0; omega)
        have HFA : Hid (BlocksAt W5 a2 bs) := zeroBox_blocks (unhide HZC) hA3 (fun b hb => ((unhide HOK).chip.block b hb).four) (fun k hk _ => hH k hk)
        have HFI : Hid (IntsAt W5 ma2 L) := intsAt_low hI3 (by rw [unhide HLL]; exact hM3') (show w.heap.size + 1 < w.heap.size + 2 by omega) (fun k hk _ => hH k hk)
        have HFM : Hid (MineFrom W5 ma2 mn (w.heap.size + 2)) := hM3'.setLow (show w.heap.size + 1 < w.heap.size + 2 by omega) (fun k hk _ => hH k hk) hHs
        clear hH hHs hM3' hA3 hI3 hM3 hB3 hzc hzf hW3
        go_wp2
        try rw [← hW5]
        exact bodyPost_ret (v := .tuple #[.agg #[.slice a2 n c2, .slice ma2 mn mc2, .int .i64 seq, .int .i64 o], .int .i64 4]) (by simp [results, Tryz.results38, go_sem, y0, y1, y2, y3]) rfl ⟨a2, n, c2, ma2, mn, mc2, bs, L, seq, o, 4, rfl, .inr (.inr (.inl ⟨unhide HOK, unhide HFO, unhide HNR, rfl, rfl, rfl, rfl, rfl⟩)), unhide HL, unhide HLL, unhide HFA, unhide HFI, (unhide HFM).lower (by omega), hWB⟩
      | true =>
        go_wp2_with fail
        refine (l3Written_any a c bs n (unhide HL) ma mc L mn (unhide HLL) seq o lg data (unhide HOK) (unhide HFO) ((unhide HR3).1 (by trivial)) _ ((unhide HA).below hW2b (Nat.le_refl _)) ((unhide HI).below hW2b (Nat.le_refl _))).mono ?_
        rintro e w3 ⟨a2, c2, ma2, mn2, mc2, bs', L', seq', o', rfl, hD, hbl, hLl, hA3, hI3, hM3, hB3⟩
        have hok' := hD.1.ok (unhide HOK).chip
        have hs3 := hB3.size
        have hW3 := hW2b.trans (hB3.mono hW2b.size)
        have hB03 := (unhide HB2b).trans (hB3.mono (by omega))
        obtain ⟨hzc, hzf⟩ := unhide HZR w3 hB03
        have HZC := hide hzc
        have z0 := hzc 0
        have z1 := hzc 1
        have z2 := hzc 2
        have z3 := hzc 3
        simp at z0 z1 z2 z3
        have f0 := hzf 0
        have f1 := hzf 1
        have f2 := hzf 2
        have f3 := hzf 3
        obtain ⟨W5, hW5⟩ : ∃ W5, W5 = ((((w3.setCell ⟨w.heap.size + 1, 0, none⟩ (.slice a2 n c2)).setCell ⟨w.heap.size + 1, 1, none⟩ (.slice ma2 mn2 mc2)).setCell ⟨w.heap.size + 1, 2, none⟩ (.int .i64 seq')).setCell ⟨w.heap.size + 1, 3, none⟩ (.int .i64 o')) := ⟨_, rfl⟩
        have y0 : W5.cell? ⟨w.heap.size + 1, 0, none⟩ = some (.slice a2 n c2) := by rw [hW5, World.cell?_setCell_other _ _ _ _ (by simp), World.cell?_setCell_other _ _ _ _ (by simp), World.cell?_setCell_other _ _ _ _ (by simp), World.cell?_setCell_same' _ _ _ (by rw [z0]; rfl)]
        have y1 : W5.cell? ⟨w.heap.size + 1, 1, none⟩ = some (.slice ma2 mn2 mc2) := by rw [hW5, World.cell?_setCell_other _ _ _ _ (by simp), World.cell?_setCell_other _ _ _ _ (by simp), World.cell?_setCell_same' _ _ _ (by rw [World.cell?_setCell_other _ _ _ _ (by simp), z1]; rfl)]
        have y2 : W5.cell? ⟨w.heap.size + 1, 2, none⟩ = some (.int .i64 seq') := by rw [hW5, World.cell?_setCell_other _ _ _ _ (by simp), World.cell?_setCell_same' _ _ _ (by rw [World.cell?_setCell_other _ _ _ _ (by simp), World.cell?_setCell_other _ _ _ _ (by simp), z2]; rfl)]
        have y3 : W5.cell? ⟨w.heap.size + 1, 3, none⟩ = some (.int .i64 o') := by rw [hW5, World.cell?_setCell_same' _ _ _ (by rw [World.cell?_setCell_other _ _ _ _ (by simp), World.cell?_setCell_other _ _ _ _ (by simp), World.cell?_setCell_other _ _ _ _ (by simp), z3]; rfl)]
        obtain ⟨hH, hHs⟩ := heapSet4 w3 (w.heap.size + 1) (.slice a2 n c2) (.slice ma2 mn2 mc2) (.int .i64 seq') (.int .i64 o')
        have hWB : Below w.heap.size w W5 := by
          rw [hW5]
          exact (((hW3.setCell (by show w.heap.size ≤ w.heap.size + 1; omega) _).setCell (by show w.heap.size ≤ w.heap.size + 1; omega) _).setCell (by show w.heap.size ≤ w.heap.size + 1; omega) _).setCell (by show w.heap.size ≤ w.heap.size + 1; omega) _
        rw [← hW5] at hH hHs
        have hM3' : MineFrom w3 ma2 mn2 (w.heap.size + 2) := hM3.lower (by have := unhide HS0; omega)
        have HFA : Hid (BlocksAt W5 a2 bs') := zeroBox_blocks (unhide HZC) hA3 (fun b hb => (hok'.block b hb).four) (fun k hk _ => hH k hk)
        have HFI : Hid (IntsAt W5 ma2 L') := intsAt_low hI3 (by rw [hLl]; exact hM3') (show w.heap.size + 1 < w.heap.size + 2 by omega) (fun k hk _ => hH k hk)
        have HFM : Hid (MineFrom W5 ma2 mn2 (w.heap.size + 2)) := hM3'.setLow (show w.heap.size + 1 < w.heap.size + 2 by omega) (fun k hk _ => hH k hk) hHs
        have HD := hide (And.intro hD (And.intro hbl hLl))
        clear hD hbl hLl hok'
        clear hH hHs hM3' hA3 hI3 hM3 hB3 hzc hzf hW3
        go_wp2
        try rw [← hW5]
        exact bodyPost_ret (v := .tuple #[.agg #[.slice a2 n c2, .slice ma2 mn2 mc2, .int .i64 seq', .int .i64 o'], .int .i64 0]) (by simp [results, Tryz.results38, go_sem, y0, y1, y2, y3]) rfl ⟨a2, n, c2, ma2, mn2, mc2, bs', L', seq', o', 0, rfl, .inr (.inr (.inr ⟨unhide HOK, unhide HFO, (unhide HR3).1 (by trivial), (unhide HD).1, rfl⟩)), (unhide HD).2.1, (unhide HD).2.2, unhide HFA, unhide HFI, (unhide HFM).lower (by omega), hWB⟩
end Go.Proofs.YtjgcjeaplckbbaaGreat

/- Many writes, one by one: in plain lists. No program is named here. -/
namespace Go.Proofs.YtjgcjeaplckbbaaGreat
open Go.RowKit
set_option linter.unusedVariables false
set_option linter.unusedSimpArgs false

/-- A member, in plain lists. -/
structure Mb where
  bs : List Bk
  L : List Int
  seq : Int
  o : Int
def Mb.Ok (m : Mb) : Prop := FtlOk m.bs m.L m.seq m.o
def Mb.zero : Mb := ⟨[], [], 0, 0⟩
def WrM (m : Mb) (x : Int × ByteArray) (m' : Mb) (code : Int) : Prop := WrittenIs m.bs m.L m.seq m.o x.1 x.2 m'.bs m'.L m'.seq m'.o code
theorem WrM.one {m : Mb} {x : Int × ByteArray} {m1 m2 : Mb} {c1 c2 : Int} (h : WrM m x m1 c1) (k : WrM m x m2 c2) : m1 = m2 ∧ c1 = c2 := by
  obtain ⟨e1, e2, e3, e4, e5⟩ := WrittenIs.one h k
  obtain ⟨b1, l1, s1, o1⟩ := m1
  obtain ⟨b2, l2, s2, o2⟩ := m2
  simp only at e1 e2 e3 e4
  subst e1 e2 e3 e4
  exact ⟨rfl, e5⟩
/-- Writes that are all taken. -/
def Steps : List (Int × ByteArray) → Mb → Mb → Prop
  | [], m, m' => m' = m
  | x :: xs, m, m' => ∃ mid, WrM m x mid 0 ∧ Steps xs mid m'
theorem Steps.one : ∀ {xs : List (Int × ByteArray)} {m m1 m2 : Mb}, Steps xs m m1 → Steps xs m m2 → m1 = m2 := by
  intro xs
  induction xs with
  | nil => intro m m1 m2 h k; exact h.trans k.symm
  | cons x xs ih =>
    rintro m m1 m2 ⟨a, h1, h2⟩ ⟨b, k1, k2⟩
    obtain ⟨rfl, _⟩ := h1.one k1
    exact ih h2 k2
theorem steps_append : ∀ {xs ys : List (Int × ByteArray)} {m m' : Mb}, Steps (xs ++ ys) m m' ↔ ∃ mid, Steps xs m mid ∧ Steps ys mid m' := by
  intro xs
  induction xs with
  | nil =>
    intro ys m m'
    exact ⟨fun h => ⟨m, rfl, h⟩, fun ⟨mid, h1, h2⟩ => by cases h1; exact h2⟩
  | cons x xs ih =>
    intro ys m m'
    constructor
    · rintro ⟨a, h1, h2⟩
      obtain ⟨mid, k1, k2⟩ := ih.1 h2
      exact ⟨mid, ⟨a, h1, k1⟩, k2⟩
    · rintro ⟨mid, ⟨a, h1, k1⟩, k2⟩
      exact ⟨a, h1, ih.2 ⟨mid, k1, k2⟩⟩
theorem steps_snoc {xs : List (Int × ByteArray)} {k : Nat} {x : Int × ByteArray} (hx : xs[k]? = some x) {m mid m' : Mb} (h : Steps (xs.take k) m mid) (hw : WrM mid x m' 0) : Steps (xs.take (k + 1)) m m' := by
  obtain ⟨hk, rfl⟩ := List.getElem?_eq_some_iff.1 hx
  rw [List.take_succ_eq_append_getElem hk]
  exact steps_append.2 ⟨mid, h, m', hw, rfl⟩
theorem Steps.at : ∀ {xs : List (Int × ByteArray)} {m m' : Mb} {k : Nat} {x : Int × ByteArray}, Steps xs m m' → xs[k]? = some x → ∃ a b, Steps (xs.take k) m a ∧ WrM a x b 0 := by
  intro xs m m' k x h hx
  obtain ⟨hk, rfl⟩ := List.getElem?_eq_some_iff.1 hx
  have e : xs = xs.take k ++ (xs[k] :: xs.drop (k + 1)) := by simp
  rw [e] at h
  obtain ⟨mid, h1, b, h2, _⟩ := steps_append.1 h
  exact ⟨mid, b, h1, h2⟩
/-- A write that is not taken, behind others that are. -/
def Stops (xs : List (Int × ByteArray)) (m : Mb) (code : Int) : Prop := code ≠ 0 ∧ ∃ k x mid m', xs[k]? = some x ∧ Steps (xs.take k) m mid ∧ WrM mid x m' code
theorem Stops.not {xs : List (Int × ByteArray)} {m m' : Mb} {code : Int} (h : Stops xs m code) (k : Steps xs m m') : False := by
  obtain ⟨h0, i, x, mid, m2, hx, h1, h2⟩ := h
  obtain ⟨a, b, k1, k2⟩ := k.at hx
  obtain rfl := h1.one k1
  exact h0 (h2.one k2).2
theorem Stops.one {xs : List (Int × ByteArray)} {m : Mb} {c1 c2 : Int} (h : Stops xs m c1) (k : Stops xs m c2) : c1 = c2 := by
  obtain ⟨h0, i, x, mid, m2, hx, h1, h2⟩ := h
  obtain ⟨k0, j, y, mid', m3, hy, k1, k2⟩ := k
  rcases Nat.lt_trichotomy i j with hlt | rfl | hlt
  · exfalso
    obtain ⟨a, b, q1, q2⟩ := k1.at (k := i) (x := x) (by rw [List.getElem?_take, if_pos hlt]; exact hx)
    rw [List.take_take, Nat.min_eq_left (by omega)] at q1
    obtain rfl := h1.one q1
    exact h0 (h2.one q2).2
  · rw [hx] at hy
    cases hy
    obtain rfl := h1.one k1
    exact (h2.one k2).2
  · exfalso
    obtain ⟨a, b, q1, q2⟩ := h1.at (k := j) (x := y) (by rw [List.getElem?_take, if_pos hlt]; exact hy)
    rw [List.take_take, Nat.min_eq_left (by omega)] at q1
    obtain rfl := k1.one q1
    exact k0 (k2.one q2).2
/-- May these be written together? -/
def manyOk (lgs : List Int) (ds : List ByteArray) : Prop := lgs.length = ds.length ∧ lgs.length ≤ 100
/-- What WrittenAll answers. -/
def WAllIs (m : Mb) (lgs : List Int) (ds : List ByteArray) (m' : Mb) (code : Int) : Prop :=
  (¬ m.Ok ∧ m' = Mb.zero ∧ code = 1) ∨ (m.Ok ∧ ¬ manyOk lgs ds ∧ m' = m ∧ code = 2) ∨ (m.Ok ∧ manyOk lgs ds ∧ m' = m ∧ Stops (lgs.zip ds) m code) ∨ (m.Ok ∧ manyOk lgs ds ∧ Steps (lgs.zip ds) m m' ∧ code = 0)
theorem WAllIs.one {m : Mb} {lgs : List Int} {ds : List ByteArray} {m1 m2 : Mb} {c1 c2 : Int} (h : WAllIs m lgs ds m1 c1) (k : WAllIs m lgs ds m2 c2) : m1 = m2 ∧ c1 = c2 := by
  rcases h with ⟨h0, rfl, rfl⟩ | ⟨h0, h1, rfl, rfl⟩ | ⟨h0, h1, rfl, h2⟩ | ⟨h0, h1, h2, rfl⟩
  · rcases k with ⟨_, rfl, rfl⟩ | ⟨k0, _⟩ | ⟨k0, _⟩ | ⟨k0, _⟩
    · exact ⟨rfl, rfl⟩
    · exact absurd k0 h0
    · exact absurd k0 h0
    · exact absurd k0 h0
  · rcases k with ⟨k0, _⟩ | ⟨_, _, rfl, rfl⟩ | ⟨_, k1, _⟩ | ⟨_, k1, _⟩
    · exact absurd h0 k0
    · exact ⟨rfl, rfl⟩
    · exact absurd k1 h1
    · exact absurd k1 h1
  · rcases k with ⟨k0, _⟩ | ⟨_, k1, _⟩ | ⟨_, _, rfl, k2⟩ | ⟨_, _, k2, _⟩
    · exact absurd h0 k0
    · exact absurd h1 k1
    · exact ⟨rfl, h2.one k2⟩
    · exact (h2.not k2).elim
  · rcases k with ⟨k0, _⟩ | ⟨_, k1, _⟩ | ⟨_, _, _, k2⟩ | ⟨_, _, k2, rfl⟩
    · exact absurd h0 k0
    · exact absurd h1 k1
    · exact (k2.not h2).elim
    · exact ⟨h2.one k2, rfl⟩
/-- Of what is written no list is long. -/
def Mb.Short (m : Mb) : Prop := Lens 1048576 m.bs ∧ m.bs.length ≤ 12 ∧ m.L.length ≤ 36
theorem Mb.Ok.short {m : Mb} (h : m.Ok) : m.Short := ⟨lens_of_ok h.chip, h.chip.count.2, h.len36⟩
theorem WrM.short {m : Mb} {x : Int × ByteArray} {m' : Mb} {code : Int} (h : WrM m x m' code) : m'.Short := WrittenIs.short h
theorem Steps.short : ∀ {xs : List (Int × ByteArray)} {m m' : Mb}, Steps xs m m' → m.Short → m'.Short := by
  intro xs
  induction xs with
  | nil => intro m m' h k; cases h; exact k
  | cons x xs ih =>
    rintro m m' ⟨a, h1, h2⟩ _
    exact ih h2 h1.short
theorem Mb.short_zero : Mb.zero.Short := ⟨⟨by simp [Mb.zero], fun b hb => by simp [Mb.zero] at hb⟩, by simp [Mb.zero], by simp [Mb.zero]⟩
theorem WAllIs.short {m : Mb} {lgs : List Int} {ds : List ByteArray} {m' : Mb} {code : Int} (h : WAllIs m lgs ds m' code) : m'.Short := by
  rcases h with ⟨_, rfl, _⟩ | ⟨h0, _, rfl, _⟩ | ⟨h0, _, rfl, _⟩ | ⟨h0, _, h2, _⟩
  · exact Mb.short_zero
  · exact h0.short
  · exact h0.short
  · exact h2.short h0.short
end Go.Proofs.YtjgcjeaplckbbaaGreat

/- A variable that holds a member: what a store into it turns. No program is named here. -/
namespace Go.Proofs.YtjgcjeaplckbbaaGreat
open Go.RowKit
set_option linter.unusedVariables false
set_option linter.unusedSimpArgs false

/-- The variable at P holds a member. -/
def BoxAt (w : World) (P : Nat) (a : Option Addr) (n c : Nat) (ma : Option Addr) (mn mc : Nat) (seq o : Int) : Prop :=
  (∀ i, w.cell? ⟨P, i, none⟩ = (#[Value.slice a n c, .slice ma mn mc, .int .i64 seq, .int .i64 o])[i]?) ∧ ∀ i, w.frozen? ⟨P, i, none⟩ = false
theorem BoxAt.cells {w : World} {P : Nat} {a : Option Addr} {n c : Nat} {ma : Option Addr} {mn mc : Nat} {seq o : Int} (h : BoxAt w P a n c ma mn mc seq o) :
    w.cell? ⟨P, 0, none⟩ = some (.slice a n c) ∧ w.cell? ⟨P, 1, none⟩ = some (.slice ma mn mc) ∧ w.cell? ⟨P, 2, none⟩ = some (.int .i64 seq) ∧ w.cell? ⟨P, 3, none⟩ = some (.int .i64 o) := by
  have h0 := h.1 0
  have h1 := h.1 1
  have h2 := h.1 2
  have h3 := h.1 3
  simp at h0 h1 h2 h3
  exact ⟨h0, h1, h2, h3⟩
theorem BoxAt.free {w : World} {P : Nat} {a : Option Addr} {n c : Nat} {ma : Option Addr} {mn mc : Nat} {seq o : Int} (h : BoxAt w P a n c ma mn mc seq o) :
    w.frozen? ⟨P, 0, none⟩ = false ∧ w.frozen? ⟨P, 1, none⟩ = false ∧ w.frozen? ⟨P, 2, none⟩ = false ∧ w.frozen? ⟨P, 3, none⟩ = false := ⟨h.2 0, h.2 1, h.2 2, h.2 3⟩
theorem BoxAt.lt {w : World} {P : Nat} {a : Option Addr} {n c : Nat} {ma : Option Addr} {mn mc : Nat} {seq o : Int} (h : BoxAt w P a n c ma mn mc seq o) : P < w.heap.size := by
  have := h.cells.1
  exact World.block_lt_of_cell? _ _ this
theorem BoxAt.of_block {w w' : World} {P : Nat} {a : Option Addr} {n c : Nat} {ma : Option Addr} {mn mc : Nat} {seq o : Int} (h : BoxAt w P a n c ma mn mc seq o) (e : w'.heap[P]? = w.heap[P]?) : BoxAt w' P a n c ma mn mc seq o :=
  ⟨fun i => (World.cell?_of_block (w := w) (a := ⟨P, i, none⟩) e).trans (h.1 i), fun i => (by simp only [World.frozen?, e] : w'.frozen? ⟨P, i, none⟩ = w.frozen? ⟨P, i, none⟩).trans (h.2 i)⟩
theorem BoxAt.below {w w' : World} {P : Nat} {a : Option Addr} {n c : Nat} {ma : Option Addr} {mn mc : Nat} {seq o : Int} (h : BoxAt w P a n c ma mn mc seq o) {B : Nat} (hb : Below B w w') (hB : P < B) : BoxAt w' P a n c ma mn mc seq o := h.of_block (hb.block P hB)
theorem BoxAt.touch {S : Nat → Prop} {w w' : World} {P : Nat} {a : Option Addr} {n c : Nat} {ma : Option Addr} {mn mc : Nat} {seq o : Int} (h : BoxAt w P a n c ma mn mc seq o) (hT : Touch S w w') (hS : ¬ S P) : BoxAt w' P a n c ma mn mc seq o := h.of_block (hT.block P h.lt hS)
theorem BoxAt.of_row {w : World} {P : Nat} {t : TypeId} {a : Option Addr} {n c : Nat} {ma : Option Addr} {mn mc : Nat} {seq o : Int} (h : w.heap[P]? = some (.cells #[Value.slice a n c, .slice ma mn mc, .int .i64 seq, .int .i64 o] t (0, 0))) : BoxAt w P a n c ma mn mc seq o :=
  ⟨fun i => cell_of_row _ _ i _ _ _ h, fun i => frozen_of_row _ _ i _ _ h⟩
theorem BoxAt.alloc (w : World) (t : TypeId) (a : Option Addr) (n c : Nat) (ma : Option Addr) (mn mc : Nat) (seq o : Int) : BoxAt (w.alloc (.cells #[Value.slice a n c, .slice ma mn mc, .int .i64 seq, .int .i64 o] t)) w.heap.size a n c ma mn mc seq o := .of_row (World.alloc_heap_new _ _)
/-- Four stores into it. -/
def set4B (w : World) (P : Nat) (v0 v1 v2 v3 : Value) : World := (((w.setCell ⟨P, 0, none⟩ v0).setCell ⟨P, 1, none⟩ v1).setCell ⟨P, 2, none⟩ v2).setCell ⟨P, 3, none⟩ v3
theorem BoxAt.store {w : World} {P : Nat} {a : Option Addr} {n c : Nat} {ma : Option Addr} {mn mc : Nat} {seq o : Int} (h : BoxAt w P a n c ma mn mc seq o) (a' : Option Addr) (n' c' : Nat) (ma' : Option Addr) (mn' mc' : Nat) (seq' o' : Int) :
    BoxAt (set4B w P (.slice a' n' c') (.slice ma' mn' mc') (.int .i64 seq') (.int .i64 o')) P a' n' c' ma' mn' mc' seq' o' := by
  obtain ⟨z0, z1, z2, z3⟩ := h.cells
  unfold set4B
  refine ⟨fun i => ?_, fun i => by simpa using h.2 i⟩
  match i with
  | 0 =>
    rw [World.cell?_setCell_other _ _ _ _ (by simp), World.cell?_setCell_other _ _ _ _ (by simp), World.cell?_setCell_other _ _ _ _ (by simp), World.cell?_setCell_same' _ _ _ (by rw [z0]; rfl)]
    rfl
  | 1 =>
    rw [World.cell?_setCell_other _ _ _ _ (by simp), World.cell?_setCell_other _ _ _ _ (by simp), World.cell?_setCell_same' _ _ _ (by rw [World.cell?_setCell_other _ _ _ _ (by simp), z1]; rfl)]
    rfl
  | 2 =>
    rw [World.cell?_setCell_other _ _ _ _ (by simp), World.cell?_setCell_same' _ _ _ (by rw [World.cell?_setCell_other _ _ _ _ (by simp), World.cell?_setCell_other _ _ _ _ (by simp), z2]; rfl)]
    rfl
  | 3 =>
    rw [World.cell?_setCell_same' _ _ _ (by rw [World.cell?_setCell_other _ _ _ _ (by simp), World.cell?_setCell_other _ _ _ _ (by simp), World.cell?_setCell_other _ _ _ _ (by simp), z3]; rfl)]
    rfl
  | i + 4 =>
    rw [World.cell?_setCell_other _ _ _ _ (by simp), World.cell?_setCell_other _ _ _ _ (by simp), World.cell?_setCell_other _ _ _ _ (by simp), World.cell?_setCell_other _ _ _ _ (by simp), h.1 (i + 4)]
    simp
theorem set4B_block (w : World) (P : Nat) (v0 v1 v2 v3 : Value) : ∀ k, k ≠ P → (set4B w P v0 v1 v2 v3).heap[k]? = w.heap[k]? := (heapSet4 w P v0 v1 v2 v3).1
theorem set4B_size (w : World) (P : Nat) (v0 v1 v2 v3 : Value) : (set4B w P v0 v1 v2 v3).heap.size = w.heap.size := (heapSet4 w P v0 v1 v2 v3).2
theorem set4B_touch (w : World) (P : Nat) (v0 v1 v2 v3 : Value) : Touch (fun k => k = P) w (set4B w P v0 v1 v2 v3) := by
  have h0 : Touch (fun k => k = P) w w := Touch.refl _ _
  have h1 := Touch.setCell (p := ⟨P, 0, none⟩) h0 rfl v0
  have h2 := Touch.setCell (p := ⟨P, 1, none⟩) h1 rfl v1
  have h3 := Touch.setCell (p := ⟨P, 2, none⟩) h2 rfl v2
  exact Touch.setCell (p := ⟨P, 3, none⟩) h3 rfl v3
theorem set4B_below {B : Nat} {w0 w : World} (h : Below B w0 w) {P : Nat} (hP : B ≤ P) (v0 v1 v2 v3 : Value) : Below B w0 (set4B w P v0 v1 v2 v3) :=
  (((h.setCell (p := ⟨P, 0, none⟩) hP v0).setCell (p := ⟨P, 1, none⟩) hP v1).setCell (p := ⟨P, 2, none⟩) hP v2).setCell (p := ⟨P, 3, none⟩) hP v3
/-- The variable that holds a member is none of a chip's rows. -/
theorem BoxAt.blocks {w w' : World} {P : Nat} {a : Option Addr} {n c : Nat} {ma : Option Addr} {mn mc : Nat} {seq o : Int} (h : BoxAt w P a n c ma mn mc seq o) {b : Option Addr} {bs : List Bk} (hA : BlocksAt w b bs) (he : ∀ k, k ≠ P → k < w.heap.size → w'.heap[k]? = w.heap[k]?) : BlocksAt w' b bs := by
  have hint : ∀ {i : Nat} {v : Int}, w.cell? ⟨P, i, none⟩ = some (.int .i64 v) → i = 2 ∨ i = 3 := by
    intro i v hv
    rw [h.1 i] at hv
    match i with
    | 0 => simp at hv
    | 1 => simp at hv
    | 2 => exact .inl rfl
    | 3 => exact .inr rfl
    | i + 4 => simp at hv
  have hsl : ∀ {i : Nat} {x : Option Addr} {y z : Nat}, w.cell? ⟨P, i, none⟩ = some (.slice x y z) → i = 0 ∨ i = 1 := by
    intro i x y z hv
    rw [h.1 i] at hv
    match i with
    | 0 => exact .inl rfl
    | 1 => exact .inr rfl
    | 2 => simp at hv
    | 3 => simp at hv
    | i + 4 => simp at hv
  have hbo : ∀ {i : Nat} {x : Bool}, w.cell? ⟨P, i, none⟩ = some (.bool x) → False := by
    intro i x hv
    rw [h.1 i] at hv
    match i with
    | 0 => simp at hv
    | 1 => simp at hv
    | 2 => simp at hv
    | 3 => simp at hv
    | i + 4 => simp at hv
  intro i b hb
  obtain ⟨g, o, pa, pc, ha, c0, c1, hp⟩ := hA i b hb
  have hg : g ≠ P := by
    rintro rfl
    have e0 := hint c0
    have e1 := hsl c1
    omega
  have hc : ∀ j, w'.cell? ⟨g, j, none⟩ = w.cell? ⟨g, j, none⟩ := fun j => World.cell?_of_block (w := w) (a := ⟨g, j, none⟩) (he g hg (World.block_lt_of_cell? _ _ c0))
  refine ⟨g, o, pa, pc, ha, (hc _).trans c0, (hc _).trans c1, fun k p hk => ?_⟩
  obtain ⟨g2, o2, ha2, d0, d1, d2, d3⟩ := hp k p hk
  have hg2 : g2 ≠ P := by
    rintro rfl
    exact hbo d0
  have hc2 : ∀ j, w'.cell? ⟨g2, j, none⟩ = w.cell? ⟨g2, j, none⟩ := fun j => World.cell?_of_block (w := w) (a := ⟨g2, j, none⟩) (he g2 hg2 (World.block_lt_of_cell? _ _ d0))
  exact ⟨g2, o2, ha2, (hc2 _).trans d0, (hc2 _).trans d1, (hc2 _).trans d2, (hc2 _).trans d3⟩
/-- The list of the map lies in no row P. -/
def OffRow (P : Nat) (ma : Option Addr) : Prop := ∀ g o, ma = some ⟨g, o, none⟩ → g ≠ P
theorem OffRow.above {w : World} {ma : Option Addr} {n B P : Nat} (h : MineFrom w ma n B) (hP : P < B) : OffRow P ma := by
  rintro g o rfl
  rcases h with ⟨h1, _⟩ | ⟨g', h1, h2, _⟩
  · cases h1
  · cases h1; omega
theorem OffRow.under {w : World} {ma : Option Addr} {n B P : Nat} (h : MineFrom w ma n B) (hP : w.heap.size ≤ P) : OffRow P ma := by
  rintro g o rfl
  rcases h with ⟨h1, _⟩ | ⟨g', h1, _, h2, _⟩
  · cases h1
  · cases h1; omega
theorem OffRow.ints {w w' : World} {P : Nat} {ma : Option Addr} {L : List Int} (h : OffRow P ma) (hI : IntsAt w ma L) (he : ∀ k, k ≠ P → k < w.heap.size → w'.heap[k]? = w.heap[k]?) : IntsAt w' ma L := by
  intro i x hx
  obtain ⟨b, o, ha, hc⟩ := hI i x hx
  exact ⟨b, o, ha, (World.cell?_of_block (w := w) (a := ⟨b, o + i, none⟩) (he b (h b o ha) (World.block_lt_of_cell? _ _ hc))).trans hc⟩
theorem OffRow.mine {w w' : World} {P : Nat} {ma : Option Addr} {n B : Nat} (h : OffRow P ma) (hM : MineFrom w ma n B) (he : ∀ k, k ≠ P → k < w.heap.size → w'.heap[k]? = w.heap[k]?) (hs : w.heap.size ≤ w'.heap.size) : MineFrom w' ma n B := by
  rcases hM with h1 | ⟨g, h1, h2, h3, h4⟩
  · exact .inl h1
  · exact .inr ⟨g, h1, h2, by omega, h4.of_block (he g (h g 0 h1) h3)⟩
/-- A member that lies in memory, but for its variable. -/
structure MbAt (w : World) (a : Option Addr) (n : Nat) (ma : Option Addr) (mn : Nat) (B : Nat) (m : Mb) : Prop where
  bs : m.bs.length = n
  L : m.L.length = mn
  blocks : BlocksAt w a m.bs
  ints : IntsAt w ma m.L
  mine : MineFrom w ma mn B
theorem MbAt.below {w w' : World} {a : Option Addr} {n : Nat} {ma : Option Addr} {mn B : Nat} {m : Mb} (h : MbAt w a n ma mn B m) (hb : Below w.heap.size w w') : MbAt w' a n ma mn B m :=
  ⟨h.bs, h.L, h.blocks.below hb (Nat.le_refl _), h.ints.below hb (Nat.le_refl _), h.mine.below hb⟩
theorem MbAt.lower {w : World} {a : Option Addr} {n : Nat} {ma : Option Addr} {mn B B' : Nat} {m : Mb} (h : MbAt w a n ma mn B m) (hB : B' ≤ B) : MbAt w a n ma mn B' m := ⟨h.bs, h.L, h.blocks, h.ints, h.mine.lower hB⟩
theorem MbAt.stored {w : World} {P : Nat} {a1 : Option Addr} {n1 c1 : Nat} {ma1 : Option Addr} {mn1 mc1 : Nat} {seq1 o1 : Int} (hP : BoxAt w P a1 n1 c1 ma1 mn1 mc1 seq1 o1) {a : Option Addr} {n : Nat} {ma : Option Addr} {mn B : Nat} {m : Mb} (h : MbAt w a n ma mn B m) (hO : OffRow P ma) (v0 v1 v2 v3 : Value) : MbAt (set4B w P v0 v1 v2 v3) a n ma mn B m :=
  ⟨h.bs, h.L, hP.blocks h.blocks (fun k hk _ => set4B_block _ _ _ _ _ _ k hk), hO.ints h.ints (fun k hk _ => set4B_block _ _ _ _ _ _ k hk), hO.mine h.mine (fun k hk _ => set4B_block _ _ _ _ _ _ k hk) (by rw [set4B_size]; exact Nat.le_refl _)⟩
end Go.Proofs.YtjgcjeaplckbbaaGreat

/- Arguments that are lists of numbers or of texts, opened. No program is named here. -/
namespace Go.Proofs.YtjgcjeaplckbbaaGreat
open Go.RowKit Go.ChangeShapes Go.WideShapes
set_option linter.unusedVariables false
set_option linter.unusedSimpArgs false

section
variable {H : Type} {enc : TypeId × Value → H} {P : Program} {w : World} {base b0 : Nat} {spare : Nat → Bool} {held : Bool}

theorem open_intsAt {t e : TypeId} {fuel : Nat} {v : Value} {x : DataW H × List MemPlace} (ht : P.underlying t = some (.slice e)) (he : P.underlying e = some (.int .i64)) (hc : P.cellsOf e = 1)
    (h : DataW.trod enc P w base spare held fuel t [v] = some x) :
    ∃ (a : Option Addr) (c : Nat) (L : List Int), v = .slice a L.length c ∧ IntsAt w a L ∧ L.length ≤ 9223372036854775807 ∧ ∀ z ∈ L, (Lit.int .i64 z).wf = true := by
  rcases open_ints ht he hc h with ⟨h0, _⟩ | ⟨a, len, cap, zs, h0, hb, hl, hm, hz, _, hcell, hwf⟩
  · cases h0
    exact ⟨none, 0, [], rfl, fun i x hx => by simp at hx, by simp, fun z hz => by simp at hz⟩
  · cases h0
    have hle : len ≤ zs.length := by rw [hz]; split <;> omega
    refine ⟨some a, cap, zs.take len, by simp [hle], fun i x hx => ?_, by simp; simp [maxLen] at hm; omega, fun z hz => hwf z (List.mem_of_mem_take hz)⟩
    have hi : i < len := by have := (List.getElem?_eq_some_iff.1 hx).1; simp at this; omega
    have h1 := hcell i (by omega)
    obtain ⟨b, o, spot⟩ := a
    have hs : spot = none := by have := World.cell?_spot (hcell 0 (by omega)); simpa [Addr.add] using this
    subst hs
    refine ⟨b, o, rfl, ?_⟩
    rw [add_plain] at h1
    rw [h1]
    simp [List.getElem?_take, hi] at hx
    simp [hx]

/-- The texts T lie, one behind the other, from the address a on. -/
def TextsAt (w : World) (a : Option Addr) (T : List ByteArray) : Prop :=
  ∀ i x, T[i]? = some x → ∃ b o, a = some ⟨b, o, none⟩ ∧ w.cell? ⟨b, o + i, none⟩ = some (.string x)

theorem TextsAt.below {w w' : World} {a : Option Addr} {T : List ByteArray} (h : TextsAt w a T) {B : Nat} (hb : Below B w w') (hB : w.heap.size ≤ B) : TextsAt w' a T := by
  intro i x hx
  obtain ⟨b, o, ha, h0⟩ := h i x hx
  exact ⟨b, o, ha, (hb.cell (p := ⟨b, o + i, none⟩) (Nat.lt_of_lt_of_le (World.block_lt_of_cell? _ _ h0) hB)).trans h0⟩

theorem open_textsAt {t e : TypeId} {fuel : Nat} {v : Value} {x : DataW H × List MemPlace} (ht : P.underlying t = some (.slice e)) (he : P.underlying e = some .string) (hc : P.cellsOf e = 1)
    (h : DataW.trod enc P w base spare held fuel t [v] = some x) :
    ∃ (a : Option Addr) (c : Nat) (T : List ByteArray), v = .slice a T.length c ∧ TextsAt w a T ∧ T.length ≤ 9223372036854775807 ∧ ∀ s ∈ T, s.size ≤ 9223372036854775807 := by
  rcases open_strings ht he hc h with ⟨h0, _⟩ | ⟨a, len, cap, ss, h0, hb, hl, hm, hz, _, hcell, hsz⟩
  · cases h0
    exact ⟨none, 0, [], rfl, fun i x hx => by simp at hx, by simp, fun z hz => by simp at hz⟩
  · cases h0
    have hle : len ≤ ss.length := by rw [hz]; split <;> omega
    refine ⟨some a, cap, ss.take len, by simp [hle], fun i x hx => ?_, by simp; simp [maxLen] at hm; omega, fun z hz => by have := hsz z (List.mem_of_mem_take hz); simpa [maxLen] using this⟩
    have hi : i < len := by have := (List.getElem?_eq_some_iff.1 hx).1; simp at this; omega
    have h1 := hcell i (by omega)
    obtain ⟨b, o, spot⟩ := a
    have hs : spot = none := by have := World.cell?_spot (hcell 0 (by omega)); simpa [Addr.add] using this
    subst hs
    refine ⟨b, o, rfl, ?_⟩
    rw [add_plain] at h1
    rw [h1]
    simp [List.getElem?_take, hi] at hx
    simp [hx]

theorem open_intsArg {t e : TypeId} {v : Value} {d : DataW H} {p : List MemPlace} (ht : P.underlying t = some (.slice e)) (he : P.underlying e = some (.int .i64)) (hc : P.cellsOf e = 1)
    (hv : Value.okWide P w .any b0 t v) (h : DataW.Trod enc P w base spare held t v d p) :
    ∃ (a : Option Addr) (c : Nat) (L : List Int), v = .slice a L.length c ∧ IntsAt w a L ∧ L.length ≤ 9223372036854775807 := by
  obtain ⟨a, len, cap, rfl⟩ := okWide_slice ht hv
  obtain ⟨fuel, hf⟩ := h
  obtain ⟨a', c, L, h1, h2, h3, _⟩ := open_intsAt ht he hc hf
  exact ⟨a', c, L, h1, h2, h3⟩

theorem open_textsArg {t e : TypeId} {v : Value} {d : DataW H} {p : List MemPlace} (ht : P.underlying t = some (.slice e)) (he : P.underlying e = some .string) (hc : P.cellsOf e = 1)
    (hv : Value.okWide P w .any b0 t v) (h : DataW.Trod enc P w base spare held t v d p) :
    ∃ (a : Option Addr) (c : Nat) (T : List ByteArray), v = .slice a T.length c ∧ TextsAt w a T ∧ T.length ≤ 9223372036854775807 ∧ ∀ s ∈ T, s.size ≤ 9223372036854775807 := by
  obtain ⟨a, len, cap, rfl⟩ := okWide_slice ht hv
  obtain ⟨fuel, hf⟩ := h
  exact open_textsAt ht he hc hf
end
end Go.Proofs.YtjgcjeaplckbbaaGreat

/- The reader that draws: next, below, once, word, near, off. -/
namespace Go.Proofs.YtjgcjeaplckbbaaGreat
open Go.RowKit
set_option linter.unusedVariables false
set_option linter.unusedSimpArgs false

/-- n bytes lie from the address a on, in a block ahead of r. -/
def BytesAt (w : World) (a : Option Addr) (n r : Nat) : Prop :=
  ∀ i, i < n → ∃ b o x, a = some ⟨b, o, none⟩ ∧ b < r ∧ w.cell? ⟨b, o + i, none⟩ = some (.int .u8 x) ∧ 0 ≤ x ∧ x < 256

theorem BytesAt.touch {w w' : World} {a : Option Addr} {n r : Nat} (h : BytesAt w a n r) (hT : Touch (· = r) w w') : BytesAt w' a n r := by
  intro i hi
  obtain ⟨b, o, x, ha, hb, hc, h0, h1⟩ := h i hi
  exact ⟨b, o, x, ha, hb, (World.cell?_of_block (w := w) (a := ⟨b, o + i, none⟩) (hT.block b (World.block_lt_of_cell? _ _ hc) (Nat.ne_of_lt hb))).trans hc, h0, h1⟩

/-- A reader over n bytes in block r. -/
def RdAt (w : World) (r : Nat) : Prop :=
  ∃ (a : Option Addr) (n c p : Nat), w.cell? ⟨r, 0, none⟩ = some (.slice a n c) ∧ w.cell? ⟨r, 1, none⟩ = some (.int .i64 (p : Int)) ∧ ((∀ i, w.frozen? ⟨r, i, none⟩ = false) ∧ ∀ i, w.cell? ⟨r, i + 2, none⟩ = none) ∧ p ≤ n ∧ n ≤ 1048576 ∧ BytesAt w a n r

theorem RdAt.lt {w : World} {r : Nat} (h : RdAt w r) : r < w.heap.size := by
  obtain ⟨a, n, c, p, h0, _⟩ := h
  exact World.block_lt_of_cell? _ _ h0

/-- What leaves the reader and all that is older as it was. -/
theorem RdAt.past {w w' : World} {r B : Nat} (h : RdAt w r) (hb : Below B w w') (hlt : r < B) : RdAt w' r := by
  obtain ⟨a, n, c, p, h0, h1, hf, h2, h3, h4⟩ := h
  refine ⟨a, n, c, p, (hb.cell (p := ⟨r, 0, none⟩) hlt).trans h0, (hb.cell (p := ⟨r, 1, none⟩) hlt).trans h1, ⟨fun i => (hb.frozen (p := ⟨r, i, none⟩) hlt).trans (hf.1 i), fun i => (hb.cell (p := ⟨r, i + 2, none⟩) hlt).trans (hf.2 i)⟩, h2, h3, fun i hi => ?_⟩
  obtain ⟨b, o, x, ha, hb', hc, hx⟩ := h4 i hi
  exact ⟨b, o, x, ha, hb', (hb.cell (p := ⟨b, o + i, none⟩) (Nat.lt_trans hb' hlt)).trans hc, hx⟩

theorem RdAt.below {w w' : World} {r : Nat} (h : RdAt w r) (hb : Below w.heap.size w w') : RdAt w' r := h.past hb h.lt

set_option maxHeartbeats 1000000 in
theorem rdNext_any (r : Nat) (w : World) (h : RdAt w r) :
    Calls Tryz.prog 40 #[.pointer (some ⟨r, 0, none⟩)] w fun e w' => ∃ x : Int, e = .returned (.int .i64 x) ∧ 0 ≤ x ∧ x < 256 ∧ RdAt w' r ∧ Touch (· = r) w w' := by
  obtain ⟨a, n, c, p, h0, h1, ⟨hf, hz⟩, hp, hn, hb⟩ := h
  have HZ := hide hz
  clear hz
  by_cases hlt : p < n
  · obtain ⟨b, o, x, rfl, hbr, hc, hx0, hx1⟩ := hb p hlt
    have HB := hide hb
    have hrb : ¬ r = b := by omega
    have hbr2 : ¬ b = r := by omega
    clear hb
    go_enter Tryz.func40, Tryz.ntmps40
    go_wp2
    go_region
    all_goals (
      go_wp2
      go_region
      all_goals (
        go_wp2
        go_ret
        have hT : Touch (· = r) w (w.setCell ⟨r, 1, none⟩ (.int .i64 ((p : Int) + 1))).drew.drew := ((Touch.setCell (S := fun x => x = r) (Touch.refl _ w) (p := ⟨r, 1, none⟩) rfl _).drew).drew
        refine ⟨x, rfl, hx0, hx1, ⟨_, n, c, p + 1, ?_, ?_, ⟨?_, ?_⟩, by omega, hn, (unhide HB).touch hT⟩, hT⟩
        · show (w.setCell ⟨r, 1, none⟩ _).cell? ⟨r, 0, none⟩ = _
          rw [World.cell?_setCell_other _ _ _ _ (by simp)]; exact h0
        · show (w.setCell ⟨r, 1, none⟩ _).cell? ⟨r, 1, none⟩ = _
          rw [World.cell?_setCell_same' _ _ _ (by rw [h1]; rfl)]; simp
        · intro i
          show (w.setCell ⟨r, 1, none⟩ _).frozen? ⟨r, i, none⟩ = _
          simpa using hf i
        · intro i
          show (w.setCell ⟨r, 1, none⟩ _).cell? ⟨r, i + 2, none⟩ = _
          rw [World.cell?_setCell_other _ _ _ _ (by simp <;> omega)]; exact unhide HZ i))
  · have HB := hide hb
    clear hb
    go_enter Tryz.func40, Tryz.ntmps40
    go_wp2
    go_region
    all_goals (
      go_wp2
      go_ret
      exact ⟨0, rfl, by omega, by omega, ⟨a, n, c, p, h0, h1, ⟨hf, unhide HZ⟩, hp, hn, (unhide HB).touch (Touch.refl _ w).drew⟩, (Touch.refl _ w).drew⟩)

set_option maxHeartbeats 1000000 in
theorem below_any (r : Nat) (m : Int) (w : World) (h : RdAt w r) (hm1 : 1 < m) (hm2 : m ≤ 1000000000000) :
    Calls Tryz.prog 16 #[.pointer (some ⟨r, 0, none⟩), .int .i64 m] w fun e w' => ∃ x : Int, e = .returned (.int .i64 x) ∧ 0 ≤ x ∧ x < m ∧ RdAt w' r ∧ Touch (· = r) w w' := by
  have hm0 : ¬ m = 0 := by omega
  go_enter Tryz.func16, Tryz.ntmps16
  by_cases hb : m ≤ 256
  · go_wp2_with fail
    refine (rdNext_any r _ h).mono ?_
    rintro e w1 ⟨x, rfl, hx0, hx1, hR, hT⟩
    have hq0 : 0 ≤ x % m := Int.emod_nonneg _ hm0
    have hq1 : x % m < m := Int.emod_lt_of_pos _ (by omega)
    have HR := hide hR
    clear h hR
    go_wp2
    go_ret
    exact ⟨_, rfl, hq0, hq1, unhide HR, hT⟩
  · go_wp2_with fail
    refine (rdNext_any r _ h).mono ?_
    rintro e w1 ⟨x, rfl, hx0, hx1, hR, hT⟩
    have HR := hide hR
    clear h hR
    go_wp2_with fail
    refine (rdNext_any r _ (unhide HR)).mono ?_
    rintro e w2 ⟨y, rfl, hy0, hy1, hR2, hT2⟩
    have hq0 : 0 ≤ (x * 256 + y) % m := Int.emod_nonneg _ hm0
    have hq1 : (x * 256 + y) % m < m := Int.emod_lt_of_pos _ (by omega)
    have HR2 := hide hR2
    clear hR2 HR
    go_wp2
    go_ret
    exact ⟨_, rfl, hq0, hq1, unhide HR2, hT.trans hT2⟩

set_option maxHeartbeats 1000000 in
theorem once_any (r : Nat) (m : Int) (w : World) (h : RdAt w r) (hm1 : 1 < m) (hm2 : m ≤ 1000000000000) :
    Calls Tryz.prog 14 #[.pointer (some ⟨r, 0, none⟩), .int .i64 m] w fun e w' => ∃ x : Int, e = .returned (.bool (x == m - 1)) ∧ RdAt w' r ∧ Touch (· = r) w w' := by
  go_enter Tryz.func14, Tryz.ntmps14
  go_wp2_with fail
  refine (below_any r m _ h hm1 hm2).mono ?_
  rintro e w1 ⟨x, rfl, hx0, hx1, hR, hT⟩
  have HR := hide hR
  clear h hR
  go_wp2
  go_ret
  exact ⟨x, rfl, unhide HR, hT⟩

set_option maxHeartbeats 1000000 in
theorem word_any (r : Nat) (w : World) (h : RdAt w r) :
    Calls Tryz.prog 74 #[.pointer (some ⟨r, 0, none⟩)] w fun e w' => ∃ x : Int, e = .returned (.int .u64 x) ∧ RdAt w' r ∧ Touch (· = r) w w' := by
  go_enter Tryz.func74, Tryz.ntmps74
  go_wp2
  go_loopw [3, 4] (fun v i wr => ∃ (k : Nat) (x : Int), k ≤ 8 ∧ i = .int .i64 k ∧ v = .int .u64 x ∧ RdAt wr r ∧ Touch (· = r) w wr) (fun _ i _ => 8 - (intOf i).toNat)
  case atStart => exact ⟨0, 0, by omega, rfl, rfl, h, Touch.refl _ _⟩
  case round =>
    obtain ⟨k, x, hk, rfl, rfl, hR, hT⟩ := hrel
    have HR := hide hR
    clear hR h
    by_cases hlt : k < 8
    · go_wp2_with fail
      refine (rdNext_any r _ (unhide HR)).mono ?_
      rintro e w1 ⟨y, rfl, hy0, hy1, hR1, hT1⟩
      have HR1 := hide hR1
      clear hR1 HR
      go_wp2
      go_roundw
      case rel => exact ⟨k + 1, _, by omega, by go_num, rfl, unhide HR1, hT.trans hT1⟩
      case measure => simp [intOf]; omega
    · go_wp2
      go_ret
      exact ⟨x, rfl, unhide HR, hT⟩

set_option maxHeartbeats 1000000 in
theorem near_any (r : Nat) (lo hi : Int) (w : World) (h : RdAt w r) (h0 : -1000000000000 ≤ lo) (h1 : lo ≤ hi) (h2 : hi ≤ 1000000000000) :
    Calls Tryz.prog 39 #[.pointer (some ⟨r, 0, none⟩), .int .i64 lo, .int .i64 hi] w fun e w' => ∃ x : Int, e = .returned (.int .i64 x) ∧ RdAt w' r ∧ Touch (· = r) w w' := by
  go_enter Tryz.func39, Tryz.ntmps39
  go_wp2_with fail
  refine (below_any r 8 _ h (by omega) (by omega)).mono ?_
  rintro e w1 ⟨x, rfl, hx0, hx1, hR, hT⟩
  have HR := hide hR
  clear h hR
  by_cases e0 : x = 0
  · have hb : (x == 0) = true := by simpa using e0
    go_wp2
    go_ret
    exact ⟨_, rfl, unhide HR, hT⟩
  · have hb : (x == 0) = false := by simpa using e0
    by_cases e1 : x = 1
    · have hb : (x == 1) = true := by simpa using e1
      go_wp2
      go_ret
      exact ⟨_, rfl, unhide HR, hT⟩
    · have hb : (x == 1) = false := by simpa using e1
      have hnz : ¬ hi - lo + 1 = 0 := by omega
      go_wp2_with fail
      refine (word_any r _ (unhide HR)).mono ?_
      rintro e w2 ⟨y, rfl, hR2, hT2⟩
      have HR2 := hide hR2
      clear hR2 HR
      go_wp2
      go_ret
      exact ⟨_, rfl, unhide HR2, hT.trans hT2⟩

theorem Touch.cell {S : Nat → Prop} {w w' : World} (h : Touch S w w') {b o : Nat} (hb : b < w.heap.size) (hs : ¬ S b) : w'.cell? ⟨b, o, none⟩ = w.cell? ⟨b, o, none⟩ :=
  World.cell?_of_block (w := w) (a := ⟨b, o, none⟩) (h.block b hb hs)

theorem Touch.frozen {S : Nat → Prop} {w w' : World} (h : Touch S w w') {b o : Nat} (hb : b < w.heap.size) (hs : ¬ S b) : w'.frozen? ⟨b, o, none⟩ = w.frozen? ⟨b, o, none⟩ := by
  simp [World.frozen?, h.block b hb hs]

theorem Touch.past {S : Nat → Prop} {w w' w2 : World} (h : Touch S w w') {B : Nat} (hb : Below B w' w2) (hB : w.heap.size ≤ B) : Touch S w w2 :=
  ⟨hb.os.trans h.os, hb.tape.trans h.tape, hb.output.trans h.output, Nat.le_trans h.size hb.size, fun k hk hs => (hb.block k (Nat.lt_of_lt_of_le hk hB)).trans (h.block k hk hs)⟩

theorem Touch.alloc {S : Nat → Prop} {w w' : World} (h : Touch S w w') (o : Obj) : Touch S w (w'.alloc o) :=
  h.trans (Touch.of_below ((Below.refl _ _).alloc (Nat.le_refl _) _))

set_option maxHeartbeats 1000000 in
theorem off_any (r : Nat) (lo hi : Int) (w : World) (h : RdAt w r) (h0 : -1000000000000 ≤ lo) (h1 : lo ≤ hi) (h2 : hi ≤ 1000000000000) :
    Calls Tryz.prog 15 #[.pointer (some ⟨r, 0, none⟩), .int .i64 lo, .int .i64 hi] w fun e w' => ∃ x : Int, e = .returned (.int .i64 x) ∧ RdAt w' r ∧ Touch (· = r) w w' := by
  go_enter Tryz.func15, Tryz.ntmps15
  go_wp2_with fail
  refine (once_any r 24 _ h (by omega) (by omega)).mono ?_
  rintro e w1 ⟨x, rfl, hR, hT⟩
  have HR := hide hR
  have hrl := hR.lt
  clear h hR
  cases hb : (x == (24 : Int) - 1) with
  | false =>
    go_wp2_with fail
    refine (near_any r lo hi _ (unhide HR) h0 h1 h2).mono ?_
    rintro e w2 ⟨y, rfl, hR2, hT2⟩
    have HR2 := hide hR2
    clear hR2 HR
    go_wp2
    go_ret
    exact ⟨_, rfl, unhide HR2, hT.trans hT2⟩
  | true =>
    go_wp2_with fail
    have hB1 : ∀ o, Below w1.heap.size w1 (w1.alloc o) := fun o => (Below.refl _ _).alloc (Nat.le_refl _) _
    refine (below_any r 4 _ ((unhide HR).below (hB1 _)) (by omega) (by omega)).mono ?_
    rintro e w2 ⟨y, rfl, hy0, hy1, hR2, hT2⟩
    have HR2 := hide hR2
    have hT3 := (hT.alloc _).trans hT2
    have hc : ∀ o, w2.cell? ⟨w1.heap.size, o, none⟩ = (w1.alloc (.cells #[.int .i64 (lo - 1), .int .i64 (hi + 1), .int .i64 (-9223372036854775808), .int .i64 9223372036854775807] 2)).cell? ⟨w1.heap.size, o, none⟩ := fun o => hT2.cell (by simp) (by show ¬ w1.heap.size = r; omega)
    have c0 : w2.cell? ⟨w1.heap.size, 0, none⟩ = some (.int .i64 (lo - 1)) := by rw [hc]; simp
    have c1 : w2.cell? ⟨w1.heap.size, 1, none⟩ = some (.int .i64 (hi + 1)) := by rw [hc]; simp
    have c2 : w2.cell? ⟨w1.heap.size, 2, none⟩ = some (.int .i64 (-9223372036854775808)) := by rw [hc]; simp
    have c3 : w2.cell? ⟨w1.heap.size, 3, none⟩ = some (.int .i64 9223372036854775807) := by rw [hc]; simp
    have h4 : y = 0 ∨ y = 1 ∨ y = 2 ∨ y = 3 := by omega
    clear hR2 HR hT2 hc hT hB1
    rcases h4 with rfl | rfl | rfl | rfl
    all_goals (
      go_wp2
      go_ret
      exact ⟨_, rfl, unhide HR2, hT3⟩)

end Go.Proofs.YtjgcjeaplckbbaaGreat

/- A reader is opened over a code; whether a code is too long. -/
namespace Go.Proofs.YtjgcjeaplckbbaaGreat
open Go.RowKit Go.ChangeShapes Go.WideShapes
set_option linter.unusedVariables false
set_option linter.unusedSimpArgs false

/-- A code of n bytes from the address a on. -/
def CodeAt (w : World) (a : Option Addr) (n : Nat) : Prop :=
  ∀ i, i < n → ∃ b o x, a = some ⟨b, o, none⟩ ∧ w.cell? ⟨b, o + i, none⟩ = some (.int .u8 x) ∧ 0 ≤ x ∧ x < 256

theorem CodeAt.below {w w' : World} {a : Option Addr} {n B : Nat} (h : CodeAt w a n) (hb : Below B w w') (hB : w.heap.size ≤ B) : CodeAt w' a n := by
  intro i hi
  obtain ⟨b, o, x, ha, hc, hx⟩ := h i hi
  exact ⟨b, o, x, ha, (hb.cell (p := ⟨b, o + i, none⟩) (Nat.lt_of_lt_of_le (World.block_lt_of_cell? _ _ hc) hB)).trans hc, hx⟩

theorem big_any (a : Option Addr) (n c : Nat) (w : World) (hn : n ≤ 9223372036854775807) :
    Calls Tryz.prog 4 #[.slice a n c] w fun e w' => e = .returned (.bool (decide ((1048576 : Int) < (n : Int)))) ∧ w' = w := by
  go_enter Tryz.func4, Tryz.ntmps4
  by_cases h : (1048576 : Int) < (n : Int)
  · go_wp2
    go_ret
    exact ⟨by simp; omega, rfl⟩
  · go_wp2
    go_ret
    exact ⟨by simp; omega, rfl⟩

theorem l1Open_any (a : Option Addr) (n c : Nat) (w : World) (h : CodeAt w a n) (hn : n ≤ 1048576) :
    Calls Tryz.prog 12 #[.slice a n c] w fun e w' => e = .returned (.pointer (some ⟨w.heap.size, 0, none⟩)) ∧ RdAt w' w.heap.size ∧ Below w.heap.size w w' := by
  go_enter Tryz.func12, Tryz.ntmps12
  go_wp2
  go_ret
  have hB : ∀ o, Below w.heap.size w (w.alloc o) := fun o => (Below.refl _ _).alloc (Nat.le_refl _) _
  refine ⟨rfl, ⟨a, n, c, 0, by simp, by simp, ⟨fun i => ?_, fun i => ?_⟩, Nat.zero_le _, hn, fun i hi => ?_⟩, hB _⟩
  · exact (World.rowIs_alloc w #[.slice a n c, .int .i64 0] 81 (fun i => if i = 0 then .slice a n c else .int .i64 0) (fun j hj => by
      have h2 : j = 0 ∨ j = 1 := by simp at hj; omega
      rcases h2 with rfl | rfl <;> rfl)).frozen i
  · exact (cell_of_row _ _ (i + 2) _ _ _ (Go.Deep.blk_alloc_new _ _)).trans (by simp)
  · obtain ⟨b, o, x, ha, hc, hx⟩ := (h.below (hB _) (Nat.le_refl _)) i hi
    obtain ⟨b', o', x', ha', hc', _⟩ := h i hi
    rw [ha] at ha'
    cases ha'
    exact ⟨b, o, x, ha, World.block_lt_of_cell? _ _ hc', hc, hx⟩

theorem open_code {H : Type} {enc : TypeId × Value → H} {P : Program} {w : World} {base b0 : Nat} {spare : Nat → Bool} {held : Bool} {t e : TypeId} {v : Value} {d : DataW H} {p : List MemPlace}
    (ht : P.underlying t = some (.slice e)) (he : P.underlying e = some (.int .u8)) (hc : P.cellsOf e = 1) (hv : Value.okWide P w .any b0 t v) (h : DataW.Trod enc P w base spare held t v d p) :
    ∃ (a : Option Addr) (n c : Nat), v = .slice a n c ∧ CodeAt w a n ∧ n ≤ 9223372036854775807 := by
  obtain ⟨a, len, cap, rfl⟩ := okWide_slice ht hv
  obtain ⟨fuel, hf⟩ := h
  rcases open_ints ht he hc hf with ⟨h0, _⟩ | ⟨a', len', cap', zs, h0, hb, hl, hm, hz, _, hcell, hwf⟩
  · cases h0
    exact ⟨none, 0, 0, rfl, fun i hi => absurd hi (Nat.not_lt_zero _), by omega⟩
  · cases h0
    have hle : len ≤ zs.length := by rw [hz]; split <;> omega
    refine ⟨some a', len, cap, rfl, fun i hi => ?_, by simp [maxLen] at hm; omega⟩
    have h1 := hcell i (by omega)
    obtain ⟨b, o, spot⟩ := a'
    have hs : spot = none := by have := World.cell?_spot (hcell 0 (by omega)); simpa [Addr.add] using this
    subst hs
    rw [add_plain] at h1
    obtain ⟨x, hx⟩ := getElem?_ex (l := zs) (k := i) (by omega)
    have hw := hwf x (List.mem_of_getElem? hx)
    refine ⟨b, o, x, rfl, by rw [h1]; simp [hx], ?_⟩
    have e0 : IntKind.u8.min = 0 := by decide
    have e1 : IntKind.u8.max = 255 := by decide
    simp only [Lit.wf, Bool.and_eq_true, decide_eq_true_eq, e0, e1] at hw
    omega

end Go.Proofs.YtjgcjeaplckbbaaGreat

/- Lists of texts that a call has built itself; drawn texts. -/
namespace Go.Proofs.YtjgcjeaplckbbaaGreat
open Go.RowKit
set_option linter.unusedVariables false
set_option linter.unusedSimpArgs false

def texts (T : List ByteArray) : List Value := T.map Value.string
theorem texts_length (T : List ByteArray) : (texts T).length = T.length := by simp [texts]

/-- The slice v holds the texts T, in a row that was made from block B on and may be written. -/
def OwnTexts (w : World) (t : TypeId) (B : Nat) (v : Value) (T : List ByteArray) : Prop := w.ownsRow B t 1 v T.length (texts T)

theorem OwnTexts.touch {w w' : World} {t : TypeId} {B r : Nat} {v : Value} {T : List ByteArray} (h : OwnTexts w t B v T) (hr : r < B) (hT : Touch (· = r) w w') : OwnTexts w' t B v T := by
  refine ⟨h.1, ?_⟩
  rcases h.2 with ⟨hv, hl⟩ | ⟨g, cap, cur, rfl, hb, hg, hrest⟩
  · exact .inl ⟨hv, hl⟩
  · refine .inr ⟨g, cap, cur, rfl, hb, ?_, hrest⟩
    rw [hT.block g (Array.getElem?_eq_some_iff.1 hg).1 (by show ¬ g = r; omega)]
    exact hg

theorem OwnTexts.below {w w' : World} {t : TypeId} {B : Nat} {v : Value} {T : List ByteArray} (h : OwnTexts w t B v T) (hb : Below w.heap.size w w') : OwnTexts w' t B v T := by
  refine ⟨h.1, ?_⟩
  rcases h.2 with ⟨hv, hl⟩ | ⟨g, cap, cur, rfl, hB, hg, hrest⟩
  · exact .inl ⟨hv, hl⟩
  · refine .inr ⟨g, cap, cur, rfl, hB, ?_, hrest⟩
    rw [hb.block g (Array.getElem?_eq_some_iff.1 hg).1]
    exact hg

theorem OwnTexts.form {w : World} {t : TypeId} {B : Nat} {v : Value} {T : List ByteArray} (h : OwnTexts w t B v T) : ∃ a c, v = .slice a T.length c ∧ TextsAt w a T ∧ T.length ≤ c := by
  have h0 := h
  rcases h.2 with ⟨hv, hl⟩ | ⟨g, cap, cur, rfl, hb, hg, hn, hm, _⟩
  · exact ⟨none, 0, by rw [hv, hl], fun i x hx => by have := (List.getElem?_eq_some_iff.1 hx).1; omega, by omega⟩
  · refine ⟨_, _, rfl, fun i x hx => ⟨g, 0, rfl, ?_⟩, hn⟩
    have hi := (List.getElem?_eq_some_iff.1 hx).1
    rw [Nat.zero_add, World.ownsRow.cellAt h0 i (by omega)]
    simp [texts, hx]

theorem OwnTexts.nil (w : World) (t : TypeId) (B : Nat) (hB : B ≤ w.heap.size) : OwnTexts (w.alloc (.cells #[] t)) t B (.slice (some ⟨w.heap.size, 0, none⟩) 0 0) [] := by
  have := World.ownsRow_lit (base := B) (e := t) (size := 1) w #[] 0 hB (by unfold maxLen; omega) rfl
  simpa [OwnTexts, texts] using this

theorem infoText : (Tryz.prog.info? 9).map (fun i => (i.zero, i.size, i.bytes)) = some (some (.string ByteArray.empty), 1, 16) := by kernel_rfl

theorem info_got {P : Program} {t : TypeId} {z : Value} {s b : Nat} (h : (P.info? t).map (fun i => (i.zero, i.size, i.bytes)) = some (some z, s, b)) : ∃ i, P.info? t = some i ∧ i.zero = some z ∧ i.size = s ∧ i.bytes = b := by
  obtain ⟨i, hi, hz⟩ := Option.map_eq_some_iff.1 h
  simp only [Prod.mk.injEq] at hz
  exact ⟨i, hi, hz.1, hz.2.1, hz.2.2⟩

set_option maxHeartbeats 1000000 in
theorem data_any (r : Nat) (w : World) (h : RdAt w r) :
    Calls Tryz.prog 17 #[.pointer (some ⟨r, 0, none⟩)] w fun e w' => ∃ x : ByteArray, e = .returned (.string x) ∧ x.size = 4 ∧ RdAt w' r ∧ Touch (· = r) w w' := by
  have hrl := h.lt
  have hB1 : ∀ o, Below w.heap.size w (w.alloc o) := fun o => (Below.refl _ _).alloc (Nat.le_refl _) _
  go_enter Tryz.func17, Tryz.ntmps17
  go_wp2_with fail
  refine (below_any r 6 _ (h.below (hB1 _)) (by omega) (by omega)).mono ?_
  rintro e w2 ⟨y, rfl, hy0, hy1, hR2, hT2⟩
  have HR2 := hide hR2
  have hT3 := ((Touch.refl (· = r) w).alloc _).trans hT2
  have hc := fun o => hT2.cell (b := w.heap.size) (o := o) (by simp) (by show ¬ w.heap.size = r; omega)
  have c0 := (hc 0).trans (by simp; rfl)
  have c1 := (hc 1).trans (by simp; rfl)
  have c2 := (hc 2).trans (by simp; rfl)
  have c3 := (hc 3).trans (by simp; rfl)
  have c4 := (hc 4).trans (by simp; rfl)
  have c5 := (hc 5).trans (by simp; rfl)
  have h4 : y = 0 ∨ y = 1 ∨ y = 2 ∨ y = 3 ∨ y = 4 ∨ y = 5 := by omega
  clear hR2 hT2 hc h hB1
  rcases h4 with rfl | rfl | rfl | rfl | rfl | rfl
  all_goals (
    go_wp2
    go_ret
    exact ⟨_, rfl, rfl, unhide HR2, hT3⟩)

end Go.Proofs.YtjgcjeaplckbbaaGreat

/- The program's ChipNew. -/
namespace Go.Proofs.YtjgcjeaplckbbaaGreat
open Go.RowKit
set_option linter.unusedVariables false
set_option linter.unusedSimpArgs false


end Go.Proofs.YtjgcjeaplckbbaaGreat

/- Lists of int64: the laws' own copy and comparison. -/
namespace Go.Proofs.YtjgcjeaplckbbaaGreat
open Go.RowKit
set_option linter.unusedVariables false
set_option linter.unusedSimpArgs false


theorem infoInt : (Tryz.prog.info? 2).map (fun i => (i.zero, i.size, i.bytes)) = some (some (.int .i64 0), 1, 8) := by kernel_rfl

theorem make_ints (n : Nat) (hn : n ≤ 1048576) (w : World) :
    (Instr.makeSlice 27 (.int .i64 (n : Int)) (.int .i64 (n : Int))).run Tryz.prog w = .ok (.slice (some ⟨w.heap.size, 0, none⟩) n n) (w.alloc (.cells (madeCells #[.int .i64 0] n) 2)) := by
  obtain ⟨i, hi, hz⟩ := Option.map_eq_some_iff.1 infoInt
  simp only [Prod.mk.injEq] at hz
  obtain ⟨hz0, hz1, hz2⟩ := hz
  have h := run_make (P := Tryz.prog) w 27 2 i _ Tryz.underlying27 hi hz0 .i64 .i64 (n : Int) (n : Int) (by omega) (Int.le_refl _) (by rw [hz2]; omega) (by omega)
  rw [hz1] at h
  simpa [Value.cells] using h


end Go.Proofs.YtjgcjeaplckbbaaGreat

/- Lists of int64: the laws' own comparison, marks, and whether they are held. -/
namespace Go.Proofs.YtjgcjeaplckbbaaGreat
open Go.RowKit
set_option linter.unusedVariables false
set_option linter.unusedSimpArgs false

def marksI (k : Int) (n : Nat) : List Int := (List.range n).map fun (i : Nat) => k + (i : Int)

end Go.Proofs.YtjgcjeaplckbbaaGreat

/- Lists of int64: the laws' own heldInt64S. -/
namespace Go.Proofs.YtjgcjeaplckbbaaGreat
open Go.RowKit
set_option linter.unusedVariables false
set_option linter.unusedSimpArgs false

end Go.Proofs.YtjgcjeaplckbbaaGreat

/- What every law asks of the whole program. -/
namespace Go.Proofs.YtjgcjeaplckbbaaGreat
open Go.RowKit

theorem own : ownKnob Tryz.prog.godebug = none := by kernel_rfl
theorem laidOut : laidOutB Tryz.prog = true := by kernel_rfl

end Go.Proofs.YtjgcjeaplckbbaaGreat
