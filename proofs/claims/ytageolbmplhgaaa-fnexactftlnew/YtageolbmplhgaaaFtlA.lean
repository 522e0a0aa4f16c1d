/- A member as an answer: what it owns, its marks. -/
import Derived.Test.YtageolbmplhgaaaIntsH
import Derived.Test.YtageolbmplhgaaaChipA
import Derived.Test.YtageolbmplhgaaaFtlT
namespace Go.Proofs.Ytageolbmplhgaaa
open Go.RowKit
set_option linter.unusedVariables false
set_option linter.unusedSimpArgs false

theorem marksI_length (k : Int) (n : Nat) : (marksI k n).length = n := by simp [marksI]

/-- An answer that is a member: its rows lie from B on and ahead of T: the chip's in [C, K), its map in none of these. -/
def FtlOwn (w : World) (B T : Nat) (a : Option Addr) (n c : Nat) (out : List Bk) (ma : Option Addr) (mn : Nat) (L : List Int) : Prop :=
  L.length = mn ∧ IntsAt w ma L ∧ MineFrom w ma mn B ∧ (∀ g, ma = some ⟨g, 0, none⟩ → g < T) ∧ ∃ C K, B ≤ C ∧ ChipOwn w C K a n c out ∧ K ≤ T ∧ ∀ g, ma = some ⟨g, 0, none⟩ → ¬ (C ≤ g ∧ g < K)
theorem FtlOwn.blocksAt {w : World} {B T : Nat} {a : Option Addr} {n c : Nat} {out : List Bk} {ma : Option Addr} {mn : Nat} {L : List Int} (h : FtlOwn w B T a n c out ma mn L) : BlocksAt w a out := by
  obtain ⟨_, _, _, _, C, K, _, h1, _⟩ := h; exact h1.blocksAt
theorem FtlOwn.length {w : World} {B T : Nat} {a : Option Addr} {n c : Nat} {out : List Bk} {ma : Option Addr} {mn : Nat} {L : List Int} (h : FtlOwn w B T a n c out ma mn L) : out.length = n ∧ L.length = mn := by
  obtain ⟨h0, _, _, _, C, K, _, h1, _⟩ := h; exact ⟨h1.1, h0⟩
theorem FtlOwn.below {w w' : World} {B T : Nat} {a : Option Addr} {n c : Nat} {out : List Bk} {ma : Option Addr} {mn : Nat} {L : List Int} (h : FtlOwn w B T a n c out ma mn L) (hb : Below w.heap.size w w') : FtlOwn w' B T a n c out ma mn L := by
  obtain ⟨h0, h1, h2, h6, C, K, h3, h4, h5⟩ := h
  exact ⟨h0, h1.below hb (Nat.le_refl _), h2.below hb, h6, C, K, h3, h4.below hb, h5⟩
theorem FtlOwn.touch {S : Nat → Prop} {w w' : World} {B T : Nat} {a : Option Addr} {n c : Nat} {out : List Bk} {ma : Option Addr} {mn : Nat} {L : List Int} (h : FtlOwn w B T a n c out ma mn L) (hT : Touch S w w') (hS : ∀ k, S k → k < B) : FtlOwn w' B T a n c out ma mn L := by
  obtain ⟨h0, h1, h2, h6, C, K, h3, h4, h5⟩ := h
  exact ⟨h0, intsAt_touch h1 (by rw [h0]; exact h2) hT hS, h2.touch hT hS, h6, C, K, h3, h4.touch hT (fun k hk => by have := hS k hk; omega), h5⟩

theorem MineFrom.touch' {S : Nat → Prop} {w w' : World} {a : Option Addr} {n B : Nat} (h : MineFrom w a n B) (hT : Touch S w w') (hS : ∀ g, a = some ⟨g, 0, none⟩ → ¬ S g) : MineFrom w' a n B := by
  rcases h with h | ⟨g, ha, h1, h2, h3⟩
  · exact .inl h
  · exact .inr ⟨g, ha, h1, Nat.lt_of_lt_of_le h2 hT.size, h3.of_block (hT.block g h2 (hS g ha))⟩

set_option maxHeartbeats 1000000 in
theorem markIntsK_any (a : Option Addr) (c n B : Nat) (k : Int) (w : World) (h : MineFrom w a n B) (hn : n ≤ 1048576) (h0 : 0 < k) (h1 : k + n ≤ 1125899906842624) :
    Calls Try.prog 35 #[.slice a n c, .int .i64 k] w fun e w' => e = .returned (.int .i64 (k + (n : Int))) ∧ IntsAt w' a (marksI k n) ∧ Touch (fun g => a = some ⟨g, 0, none⟩ ∧ B ≤ g) w w' := by
  rcases h with ⟨rfl, rfl⟩ | ⟨g, rfl, hB, h2, h3⟩
  · go_enter Try.func35, Try.ntmps35
    go_wp2
    go_loop [1, 5] (fun v i => i = .int .i64 0 ∧ v = .int .i64 k) (fun _ i => 0)
    case atStart => exact ⟨rfl, rfl⟩
    case round =>
      obtain ⟨rfl, rfl⟩ := hrel
      go_wp2
      go_ret
      exact ⟨by simp [Act.eval], fun i x hx => by simp [marksI] at hx, Touch.refl _ _⟩
  · refine (markInt64S_any g 0 c n k w h3 hn h0 h1).mono ?_
    rintro e w' ⟨rfl, hI, hT⟩
    exact ⟨rfl, hI, hT.mono (fun j hj => by subst hj; exact ⟨rfl, hB⟩)⟩

/-- What marks a member holds. -/
def FtlMarked (w : World) (a : Option Addr) (out : List Bk) (ma : Option Addr) (mn : Nat) : Prop := BlocksAt w a (markBs 1 out) ∧ IntsAt w ma (marksI (kAfter 1 out) mn)
theorem FtlMarked.below {w w' : World} {a : Option Addr} {out : List Bk} {ma : Option Addr} {mn : Nat} (h : FtlMarked w a out ma mn) (hb : Below w.heap.size w w') : FtlMarked w' a out ma mn :=
  ⟨h.1.below hb (Nat.le_refl _), h.2.below hb (Nat.le_refl _)⟩

theorem ChipOwn.apart {S : Nat → Prop} {w w' : World} {B K : Nat} {a : Option Addr} {n c : Nat} {out : List Bk} (h : ChipOwn w B K a n c out) (hT : Touch S w w') (hS : ∀ k, S k → ¬ (B ≤ k ∧ k < K)) : ChipOwn w' B K a n c out := by
  obtain ⟨hl, h0 | ⟨g, H, rfl, h1, h2, h3, hO⟩⟩ := h
  · exact ⟨hl, .inl h0⟩
  · refine ⟨hl, .inr ⟨g, H, rfl, h1, h2, h3, hO.row.of_block (hT.block g hO.row.lt (fun hs => hS g hs ⟨h1, h2⟩)), fun i b hb => ?_, hO.ahead, hO.order⟩⟩
    have hi : i < n := by have := (List.getElem?_eq_some_iff.1 hb).1; omega
    have := h3 i hi
    exact World.rowIs.of_block (hO.pages i b hb) (hT.block (H i) (World.rowIs.lt (hO.pages i b hb)) (fun hs => hS _ hs ⟨by omega, this.2⟩))
theorem markChip_own2 {B K : Nat} (a : Option Addr) (n c : Nat) (out : List Bk) (w : World) (h : ChipOwn w B K a n c out) (hn : Lens 1048576 out) (h1 : kAfter 1 out ≤ 1125899906842624) :
    Calls Try.prog 22 #[.agg #[.slice a n c], .int .i64 1] w fun e w' => e = .returned (.int .i64 (kAfter 1 out)) ∧ ChipOwn w' B K a n c (markBs 1 out) ∧ Touch (fun k => B ≤ k ∧ k < K) w w' := by
  obtain ⟨hl, ⟨rfl, rfl, rfl⟩ | ⟨g, H, rfl, hB, hK, hH, hO⟩⟩ := h
  · have h0 : out = [] := List.length_eq_zero_iff.1 hl
    subst h0
    refine (markChip_nil 1 w).mono ?_
    rintro e w' ⟨rfl, hB⟩
    exact ⟨rfl, ⟨rfl, .inl ⟨rfl, rfl, rfl⟩⟩, Touch.of_below hB⟩
  · refine (markChip_n g H c out hl 1 w hO hn (by omega) h1).mono ?_
    rintro e w' ⟨rfl, hO2, hT⟩
    refine ⟨rfl, ⟨by rw [markBs_length, hl], .inr ⟨g, H, rfl, hB, hK, hH, hO2⟩⟩, hT.mono fun k hk => ?_⟩
    rcases hk with rfl | ⟨i, hi, rfl⟩
    · exact ⟨hB, hK⟩
    · have := hH i hi
      exact ⟨by omega, this.2⟩

set_option maxRecDepth 100000 in
set_option maxHeartbeats 2000000 in
theorem markFtl_own {B T : Nat} (a : Option Addr) (n c : Nat) (out : List Bk) (ma : Option Addr) (mn mc : Nat) (L : List Int) (seq o : Int) (w : World) (h : FtlOwn w B T a n c out ma mn L) (hTw : T ≤ w.heap.size) (hn : Lens 1048576 out) (hmn : mn ≤ 1048576) (h1 : kAfter 1 out + mn ≤ 1125899906842624) :
    Calls Try.prog 44 #[.agg #[.slice a n c, .slice ma mn mc, .int .i64 seq, .int .i64 o], .int .i64 1] w fun e w' => e = .returned (.int .i64 (kAfter 1 out + (mn : Int))) ∧ FtlMarked w' a out ma mn ∧ Touch (fun k => B ≤ k ∧ k < T) w w' := by
  obtain ⟨hL, hI, hM, hMT, C, K, hBC, hC, hKw, hne⟩ := h
  have hk1 : 1 ≤ kAfter 1 out := kAfter_le out 1
  have hb0 : ∀ o, Below w.heap.size w (w.alloc o) := fun o => (Below.refl _ w).alloc (Nat.le_refl _) _
  have hC0 := fun o => hC.below (hb0 o)
  have HM := hide (fun o => hM.below (hb0 o))
  have HMB : Hid (∀ g, ma = some ⟨g, 0, none⟩ → B ≤ g ∧ g < T) := fun g hg => by
    have h9 := hMT g hg
    rcases hM with ⟨rfl, _⟩ | ⟨g', hg', h1, h2, _⟩
    · cases hg
    · rw [hg] at hg'; cases hg'; exact ⟨h1, h9⟩
  have HNE := hide hne
  have HKA := hide h1
  obtain ⟨q, hq⟩ : ∃ q, q = kAfter 1 out := ⟨_, rfl⟩
  have HQ := hide hq
  clear hI hC hne hM hMT
  go_enter Try.func44, Try.ntmps44
  go_wp2_with fail
  refine (markChip_own2 a n c out _ (hC0 _) hn (by omega)).mono ?_
  rintro e w1 ⟨rfl, hMk, hT⟩
  rw [← hq] at h1 hk1 ⊢
  have hs1 := hT.size
  simp at hs1
  have hx1 : w1.cell? ⟨w.heap.size, 1, none⟩ = some (.slice ma mn mc) := by
    rw [World.cell?_of_block (w := w.alloc _) (a := ⟨w.heap.size, 1, none⟩) (hT.block w.heap.size (by simp) (fun hs => by omega))]
    simp
  have HM1 := hide ((unhide HM _).touch' hT (fun g hg hs => unhide HNE g hg hs))
  have HT := hide hT
  have HMK := hide hMk
  clear hT hMk hC0 HM hq
  go_wp2_with fail
  refine (markIntsK_any ma mc mn B q _ (unhide HM1) hmn (by omega) (by omega)).mono ?_
  rintro e w2 ⟨rfl, hI2, hT2⟩
  have HI2 := hide hI2
  have HC2 := hide ((unhide HMK).apart hT2 (fun k hk hs => unhide HNE k hk.1 hs))
  have hTT : Touch (fun k => B ≤ k ∧ k < T) w w2 := by
    have t0 : Touch (fun k => B ≤ k ∧ k < T) w (w.alloc (.cells #[.slice a n c, .slice ma mn mc, .int .i64 seq, .int .i64 o] 57)) := Touch.of_below (hb0 _)
    exact (t0.trans ((unhide HT).mono (fun k hk => ⟨by omega, by omega⟩))).trans (hT2.mono (fun k hk => unhide HMB k hk.1))
  clear hI2 hT2 hx1
  go_wp2
  go_ret
  refine ⟨by rw [← unhide HQ]; rfl, ⟨(unhide HC2).blocksAt, ?_⟩, hTT⟩
  rw [← unhide HQ]
  exact unhide HI2

set_option maxRecDepth 100000 in
set_option maxHeartbeats 2000000 in
theorem heldFtl_own (a : Option Addr) (n c : Nat) (out : List Bk) (hl : out.length = n) (ma : Option Addr) (mn mc : Nat) (seq o : Int) (w : World) (h : FtlMarked w a out ma mn) (hn : Lens 1048576 out) (hmn : mn ≤ 1048576) (h1 : kAfter 1 out + mn ≤ 1125899906842624) :
    Calls Try.prog 45 #[.agg #[.slice a n c, .slice ma mn mc, .int .i64 seq, .int .i64 o], .int .i64 1] w fun e w' => e = .returned (.int .i64 (kAfter 1 out + (mn : Int))) ∧ Below w.heap.size w w' := by
  obtain ⟨hC, hI⟩ := h
  have hk1 : 1 ≤ kAfter 1 out := kAfter_le out 1
  have hb0 : ∀ o, Below w.heap.size w (w.alloc o) := fun o => (Below.refl _ w).alloc (Nat.le_refl _) _
  obtain ⟨q, hq⟩ : ∃ q, q = kAfter 1 out := ⟨_, rfl⟩
  have HQ := hide hq
  have hhc := fun o => heldChip_own a n c out hl _ (hC.below (hb0 o) (Nat.le_refl _)) hn (by omega)
  rw [← hq] at h1 hk1 hI hhc ⊢
  have HHC := hide hhc
  have HI := hide hI
  clear hC hI hq hhc
  go_enter Try.func45, Try.ntmps45
  go_wp2_with fail
  refine (unhide HHC _).mono ?_
  rintro e w1 ⟨rfl, hB1⟩
  have hs1 := hB1.size
  simp at hs1
  have hx1 : w1.cell? ⟨w.heap.size, 1, none⟩ = some (.slice ma mn mc) := by
    rw [hB1.cell (p := ⟨w.heap.size, 1, none⟩) (by simp)]
    simp
  have hW1 : Below w.heap.size w w1 := (hb0 _).trans (hB1.mono (by simp))
  clear hB1 HHC
  go_wp2_with fail
  refine (heldInt64S_any ma mc mn q _ ((unhide HI).below hW1 (Nat.le_refl _)) hmn (by omega) (by omega)).mono ?_
  rintro e w2 ⟨rfl, rfl⟩
  clear hx1
  go_wp2
  go_ret
  exact ⟨rfl, hW1⟩
end Go.Proofs.Ytageolbmplhgaaa
