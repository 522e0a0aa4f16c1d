/- 4 texts in one. -/
import Derived.Test.YtimencianaclmaaG06
import Derived.Test.YtimencianaclmaaG07
import Derived.Test.YtimencianaclmaaG09
import Derived.Test.YtimencianaclmaaG03
import Derived.WalkKit
import Derived.ProofKit
import Derived.OpenShut
import Derived.SliceStrings
import Derived.Test.YtimencianaclmaaG05

/- For laws whose answer is a list of int64: its form, its marks. -/
namespace Go.Proofs.Ytimencianaclmaa
open Go.RowKit
set_option linter.unusedVariables false
set_option linter.unusedSimpArgs false

set_option maxHeartbeats 1000000 in
theorem markInts_any (a : Option Addr) (c n B : Nat) (w : World) (h : MineFrom w a n B) (hB : B ≤ w.heap.size) (hn : n ≤ 1048576) :
    Calls Try.prog 61 #[.slice a n c, .int .i64 1] w fun e w' => e = .returned (.int .i64 (1 + (n : Int))) ∧ IntsAt w' a (marksI 1 n) ∧ Below B w w' := by
  rcases h with ⟨rfl, rfl⟩ | ⟨g, rfl, h1, h2, h3⟩
  · go_enter Try.func61, Try.ntmps61
    go_wp2
    go_loop [1, 5] (fun v i => i = .int .i64 0 ∧ v = .int .i64 1) (fun _ i => 0)
    case atStart => exact ⟨rfl, rfl⟩
    case round =>
      obtain ⟨rfl, rfl⟩ := hrel
      go_wp2
      go_ret
      exact ⟨rfl, fun i x hx => by simp [marksI] at hx, Below.refl _ _⟩
  · refine (markInt64S_any g 0 c n 1 w h3 hn (by omega) (by omega)).mono ?_
    rintro e w' ⟨rfl, hI, hT⟩
    exact ⟨rfl, hI, hT.below hB (fun k hk => by subst hk; exact h1)⟩

theorem markChip_n {n : Nat} (g : Nat) (H : Nat → Nat) (c : Nat) (bs : List Bk) (hl : bs.length = n) (k : Int) (w : World) (h : OwnBlocks w 38 28 g H n bs) (hn : Lens 1048576 bs) (h0 : 0 < k) (h1 : kAfter k bs ≤ 1125899906842624) :
    Calls Try.prog 54 #[.agg #[.slice (some ⟨g, 0, none⟩) n c], .int .i64 k] w fun e w' => e = .returned (.int .i64 (kAfter k bs)) ∧ OwnBlocks w' 38 28 g H n (markBs k bs) ∧ Touch (fun j => j = g ∨ ∃ i, i < n ∧ j = H i) w w' := by
  subst hl; exact markChip_any g H c bs k w h hn h0 h1

theorem kAfter_upto (bs : List Bk) : ∀ k, (∀ b ∈ bs, b.pages.length ≤ 1048576) → k ≤ kAfter k bs ∧ kAfter k bs ≤ k + (bs.length : Int) * 4194305 := by
  induction bs with
  | nil => intro k _; simp [kAfter]
  | cons b bs ih =>
    intro k h
    have h1 := ih (k + 1 + 4 * (b.pages.length : Int)) (fun c hc => h c (by simp [hc]))
    have h2 := h b (by simp)
    have e : kAfter k (b :: bs) = kAfter (k + 1 + 4 * (b.pages.length : Int)) bs := rfl
    rw [e, List.length_cons]
    have e2 : ((bs.length + 1 : Nat) : Int) * 4194305 = (bs.length : Int) * 4194305 + 4194305 := by omega
    rw [e2]
    omega

/-- toChip, with what it owns. -/
theorem toChip_own {n : Nat} (a : Option Addr) (c : Nat) (bs : List Bk) (hl : bs.length = n) (w : World) (h : BlocksAt w a bs) (hn : Lens 1048576 bs) :
    Calls Try.prog 51 #[.agg #[.slice a n c]] w fun e w' => ∃ g H, e = .returned (.agg #[.slice (some ⟨g, 0, none⟩) n n]) ∧ w.heap.size ≤ g ∧ OwnBlocks w' 38 28 g H n bs ∧ Below w.heap.size w w' := by
  subst hl; exact toChip_any a c bs w h hn
end Go.Proofs.Ytimencianaclmaa

/- A chip as an answer: what it owns, its marks. -/
namespace Go.Proofs.Ytimencianaclmaa
open Go.RowKit
set_option linter.unusedVariables false
set_option linter.unusedSimpArgs false

theorem OwnBlocks.of_blocks {w w' : World} {tB tP : TypeId} {g : Nat} {H : Nat → Nat} {n : Nat} {bs : List Bk} (h : OwnBlocks w tB tP g H n bs) (e : ∀ k, g ≤ k → k < w.heap.size → w'.heap[k]? = w.heap[k]?) : OwnBlocks w' tB tP g H n bs :=
  ⟨h.row.of_block (e g (Nat.le_refl _) h.row.lt), fun i b hb => World.rowIs.of_block (h.pages i b hb) (e _ (Nat.le_of_lt (h.ahead i (List.getElem?_eq_some_iff.1 hb).1)) (World.rowIs.lt (h.pages i b hb))), h.ahead, h.order⟩

/-- An answer that is a chip: its blocks lie from B on and ahead of K, each in a row of its own. -/
def ChipOwn (w : World) (B K : Nat) (a : Option Addr) (n c : Nat) (out : List Bk) : Prop :=
  out.length = n ∧ ((a = none ∧ n = 0 ∧ c = 0) ∨ ∃ g H, a = some ⟨g, 0, none⟩ ∧ B ≤ g ∧ g < K ∧ (∀ i, i < n → g < H i ∧ H i < K) ∧ OwnBlocks w 38 28 g H n out)

theorem ChipOwn.blocksAt {w : World} {B K : Nat} {a : Option Addr} {n c : Nat} {out : List Bk} (h : ChipOwn w B K a n c out) : BlocksAt w a out := by
  obtain ⟨hl, ⟨_, h0, _⟩ | ⟨g, H, rfl, _, _, _, hO⟩⟩ := h
  · intro i b hb
    have := (List.getElem?_eq_some_iff.1 hb).1
    omega
  · exact hO.blocksAt (by omega)

theorem ChipOwn.below {w w' : World} {B K : Nat} {a : Option Addr} {n c : Nat} {out : List Bk} (h : ChipOwn w B K a n c out) (hb : Below w.heap.size w w') : ChipOwn w' B K a n c out := by
  obtain ⟨hl, h0 | ⟨g, H, rfl, h1, h2, h3, hO⟩⟩ := h
  · exact ⟨hl, .inl h0⟩
  · exact ⟨hl, .inr ⟨g, H, rfl, h1, h2, h3, hO.below hb (Nat.le_refl _)⟩⟩

theorem ChipOwn.touch {S : Nat → Prop} {w w' : World} {B K : Nat} {a : Option Addr} {n c : Nat} {out : List Bk} (h : ChipOwn w B K a n c out) (hT : Touch S w w') (hS : ∀ k, S k → k < B) : ChipOwn w' B K a n c out := by
  obtain ⟨hl, h0 | ⟨g, H, rfl, h1, h2, h3, hO⟩⟩ := h
  · exact ⟨hl, .inl h0⟩
  · exact ⟨hl, .inr ⟨g, H, rfl, h1, h2, h3, hO.of_blocks fun k hk hlt => hT.block k hlt (fun hs => by have := hS k hs; omega)⟩⟩

theorem markChip_own {B K : Nat} (a : Option Addr) (n c : Nat) (out : List Bk) (w : World) (h : ChipOwn w B K a n c out) (hn : Lens 1048576 out) (h1 : kAfter 1 out ≤ 1125899906842624) :
    Calls Try.prog 54 #[.agg #[.slice a n c], .int .i64 1] w fun e w' => e = .returned (.int .i64 (kAfter 1 out)) ∧ BlocksAt w' a (markBs 1 out) ∧ Touch (fun k => B ≤ k ∧ k < K) w w' := by
  obtain ⟨hl, ⟨rfl, rfl, rfl⟩ | ⟨g, H, rfl, hB, hK, hH, hO⟩⟩ := h
  · have h0 : out = [] := List.length_eq_zero_iff.1 hl
    subst h0
    refine (markChip_nil 1 w).mono ?_
    rintro e w' ⟨rfl, hB⟩
    exact ⟨rfl, fun i b hb => by simp [markBs] at hb, Touch.of_below hB⟩
  · refine (markChip_n g H c out hl 1 w hO hn (by omega) h1).mono ?_
    rintro e w' ⟨rfl, hO2, hT⟩
    refine ⟨rfl, hO2.blocksAt ?_, hT.mono fun k hk => ?_⟩
    · rw [markBs_length, hl]
      exact Nat.le_refl _
    · rcases hk with rfl | ⟨i, hi, rfl⟩
      · exact ⟨hB, hK⟩
      · have := hH i hi
        exact ⟨by omega, this.2⟩

theorem heldChip_own (a : Option Addr) (n c : Nat) (out : List Bk) (hl : out.length = n) (w : World) (h : BlocksAt w a (markBs 1 out)) (hn : Lens 1048576 out) (h1 : kAfter 1 out ≤ 1125899906842624) :
    Calls Try.prog 55 #[.agg #[.slice a n c], .int .i64 1] w fun e w' => e = .returned (.int .i64 (kAfter 1 out)) ∧ Below w.heap.size w w' := by
  subst hl; exact heldChip_any a c out 1 w h hn (by omega) h1
end Go.Proofs.Ytimencianaclmaa

/- Arguments that are lists of numbers or of texts, opened. No program is named here. -/
namespace Go.Proofs.Ytimencianaclmaa
open Go.RowKit Go.ChangeShapes Go.WideShapes
set_option linter.unusedVariables false
set_option linter.unusedSimpArgs false

section
variable {H : Type} {enc : TypeId × Value → H} {P : Program} {w : World} {base b0 : Nat} {spare : Nat → Bool} {held : Bool}

theorem open_intsAt {t e : TypeId} {fuel : Nat} {v : Value} {x : DataW H × List MemPlace} (ht : P.underlying t = some (.slice e)) (he : P.underlying e = some (.int .i64)) (hc : P.cellsOf e = 1)
    (h : DataW.trod enc P w base spare held fuel t [v] = some x) :
    ∃ (a : Option Addr) (c : Nat) (L : List Int), v = .slice a L.length c ∧ IntsAt w a L ∧ L.length ≤ 9223372036854775807 ∧ ∀ z ∈ L, (Lit.int .i64 z).wf = true := by
  rcases open_ints ht he hc h with ⟨h0, _⟩ | ⟨a, len, cap, zs, h0, hb, hl, hm, hz, _, hcell, hwf⟩
  · cases h0
    exact ⟨none, 0, [], rfl, fun i x hx => by simp at hx, by simp, fun z hz => by simp at hz⟩
  · cases h0
    have hle : len ≤ zs.length := by rw [hz]; split <;> omega
    refine ⟨some a, cap, zs.take len, by simp [hle], fun i x hx => ?_, by simp; simp [maxLen] at hm; omega, fun z hz => hwf z (List.mem_of_mem_take hz)⟩
    have hi : i < len := by have := (List.getElem?_eq_some_iff.1 hx).1; simp at this; omega
    have h1 := hcell i (by omega)
    obtain ⟨b, o, spot⟩ := a
    have hs : spot = none := by have := World.cell?_spot (hcell 0 (by omega)); simpa [Addr.add] using this
    subst hs
    refine ⟨b, o, rfl, ?_⟩
    rw [add_plain] at h1
    rw [h1]
    simp [List.getElem?_take, hi] at hx
    simp [hx]

/-- The texts T lie, one behind the other, from the address a on. -/
def TextsAt (w : World) (a : Option Addr) (T : List ByteArray) : Prop :=
  ∀ i x, T[i]? = some x → ∃ b o, a = some ⟨b, o, none⟩ ∧ w.cell? ⟨b, o + i, none⟩ = some (.string x)

theorem TextsAt.below {w w' : World} {a : Option Addr} {T : List ByteArray} (h : TextsAt w a T) {B : Nat} (hb : Below B w w') (hB : w.heap.size ≤ B) : TextsAt w' a T := by
  intro i x hx
  obtain ⟨b, o, ha, h0⟩ := h i x hx
  exact ⟨b, o, ha, (hb.cell (p := ⟨b, o + i, none⟩) (Nat.lt_of_lt_of_le (World.block_lt_of_cell? _ _ h0) hB)).trans h0⟩

theorem open_textsAt {t e : TypeId} {fuel : Nat} {v : Value} {x : DataW H × List MemPlace} (ht : P.underlying t = some (.slice e)) (he : P.underlying e = some .string) (hc : P.cellsOf e = 1)
    (h : DataW.trod enc P w base spare held fuel t [v] = some x) :
    ∃ (a : Option Addr) (c : Nat) (T : List ByteArray), v = .slice a T.length c ∧ TextsAt w a T ∧ T.length ≤ 9223372036854775807 ∧ ∀ s ∈ T, s.size ≤ 9223372036854775807 := by
  rcases open_strings ht he hc h with ⟨h0, _⟩ | ⟨a, len, cap, ss, h0, hb, hl, hm, hz, _, hcell, hsz⟩
  · cases h0
    exact ⟨none, 0, [], rfl, fun i x hx => by simp at hx, by simp, fun z hz => by simp at hz⟩
  · cases h0
    have hle : len ≤ ss.length := by rw [hz]; split <;> omega
    refine ⟨some a, cap, ss.take len, by simp [hle], fun i x hx => ?_, by simp; simp [maxLen] at hm; omega, fun z hz => by have := hsz z (List.mem_of_mem_take hz); simpa [maxLen] using this⟩
    have hi : i < len := by have := (List.getElem?_eq_some_iff.1 hx).1; simp at this; omega
    have h1 := hcell i (by omega)
    obtain ⟨b, o, spot⟩ := a
    have hs : spot = none := by have := World.cell?_spot (hcell 0 (by omega)); simpa [Addr.add] using this
    subst hs
    refine ⟨b, o, rfl, ?_⟩
    rw [add_plain] at h1
    rw [h1]
    simp [List.getElem?_take, hi] at hx
    simp [hx]

theorem open_intsArg {t e : TypeId} {v : Value} {d : DataW H} {p : List MemPlace} (ht : P.underlying t = some (.slice e)) (he : P.underlying e = some (.int .i64)) (hc : P.cellsOf e = 1)
    (hv : Value.okWide P w .any b0 t v) (h : DataW.Trod enc P w base spare held t v d p) :
    ∃ (a : Option Addr) (c : Nat) (L : List Int), v = .slice a L.length c ∧ IntsAt w a L ∧ L.length ≤ 9223372036854775807 := by
  obtain ⟨a, len, cap, rfl⟩ := okWide_slice ht hv
  obtain ⟨fuel, hf⟩ := h
  obtain ⟨a', c, L, h1, h2, h3, _⟩ := open_intsAt ht he hc hf
  exact ⟨a', c, L, h1, h2, h3⟩

theorem open_textsArg {t e : TypeId} {v : Value} {d : DataW H} {p : List MemPlace} (ht : P.underlying t = some (.slice e)) (he : P.underlying e = some .string) (hc : P.cellsOf e = 1)
    (hv : Value.okWide P w .any b0 t v) (h : DataW.Trod enc P w base spare held t v d p) :
    ∃ (a : Option Addr) (c : Nat) (T : List ByteArray), v = .slice a T.length c ∧ TextsAt w a T ∧ T.length ≤ 9223372036854775807 ∧ ∀ s ∈ T, s.size ≤ 9223372036854775807 := by
  obtain ⟨a, len, cap, rfl⟩ := okWide_slice ht hv
  obtain ⟨fuel, hf⟩ := h
  exact open_textsAt ht he hc hf
end
end Go.Proofs.Ytimencianaclmaa

/- The program's answer whether a number is a used page's. -/
namespace Go.Proofs.Ytimencianaclmaa
open Go.RowKit Go.Shelf
set_option linter.unusedVariables false
set_option linter.unusedSimpArgs false
attribute [local go_sem] Oper.semAt_some

def HasI (w : World) (s : Int) (pre : List (Int × Pg)) (W : World) : Prop :=
  W.heap[w.heap.size + 1]? = some (.cells #[Value.int .i64 s] 2 (0, 0)) ∧ W.heap[w.heap.size + 1 + 1]? = some (.cells #[Value.bool false] 4 (0, 0)) ∧ s ∉ usedSeqs pre ∧ w.heap.size + 1 + 1 + 1 < W.heap.size
def HasX (w : World) (s : Int) (c : Code) (pre : List (Int × Pg)) (W : World) : Prop :=
  c = .ret ∧ s ∈ usedSeqs pre ∧ W.heap[w.heap.size + 1 + 1]? = some (.cells #[Value.bool true] 4 (0, 0))
theorem HasI.own (w : World) (s : Int) : Own (HasI w s) := fun p W W' row ⟨h1, h2, h3, h4⟩ hg hr => ⟨blk_kept h1 hg hr, blk_kept h2 hg hr, h3, Nat.lt_of_lt_of_le h4 hg.size⟩
theorem HasX.own (w : World) (s : Int) (c : Code) : Own (HasX w s c) := fun p W W' row ⟨h1, h2, h3⟩ hg hr => ⟨h1, h2, blk_kept h3 hg hr⟩

theorem heap3 (w : World) (o1 o2 o3 : Obj) :
    (((w.alloc o1).alloc o2).alloc o3).heap[w.heap.size]? = some o1 ∧ (((w.alloc o1).alloc o2).alloc o3).heap[w.heap.size + 1]? = some o2 ∧ (((w.alloc o1).alloc o2).alloc o3).heap[w.heap.size + 1 + 1]? = some o3 := by
  have e : (((w.alloc o1).alloc o2).alloc o3).heap = ((w.heap.push o1).push o2).push o3 := rfl
  rw [e]
  simp only [Array.getElem?_push, Array.size_push]
  refine ⟨?_, ?_, ?_⟩
  · rw [if_neg (by omega), if_neg (by omega), if_pos trivial]
  · rw [if_neg (by omega), if_pos trivial]
  · rw [if_pos trivial]

set_option maxRecDepth 100000 in
set_option maxHeartbeats 1000000 in
theorem hasSeq_any (m : CC) (c : Nat) (hm : m.count = c) (hc : c ≤ 12) (s : Int) (w : World) :
    Calls Try.prog 136 #[.agg (ccA m), .int .i64 s] w fun e w' => RetIff (s ∈ usedSeqs (usedAll m c)) e ∧ Below w.heap.size w w' := by
  refine (callsIn_wide (n := 8)).1 ?_
  refine callsIn_of_wp_marks Try.func136 rfl trivial ?_ rfl
  simp only [Try.ntmps136, List.size_toArray, List.length_cons, List.length_nil, Nat.reduceAdd, Nat.reduceSub, Array.replicate_succ, Array.replicate_zero, List.push_toArray, List.append_toArray, List.nil_append, List.cons_append]
  gi_wp2_with (first | (refine wpListIn_load_mid rfl 109 _ rfl w.heap.size 0 rfl (ccA m) 205 (ccA_size m) (fun j hj => by rw [Nat.zero_add]; exact cell_of_row _ _ _ _ _ _ (heap3 w _ _ _).1) _ Try.underlying109 rfl sizeCC' ?_) | (refine ⟨trivial, ?_⟩; gi_at_call 154; refine (usedPages_in Fence.wide _ trivial rfl m _).mono ?_; rintro e w' ⟨rfl, rfl⟩))
  obtain ⟨W4, hW4⟩ : ∃ W4, W4 = ((w.alloc (.cells (ccA m) 109)).alloc (.cells #[.int .i64 s] 2)).alloc (.cells #[.bool false] 4) := ⟨_, rfl⟩
  have h4 := heap3 w (.cells (ccA m) 109) (.cells #[.int .i64 s] 2) (.cells #[.bool false] 4)
  have hs4 : W4.heap.size = w.heap.size + 1 + 1 + 1 := by rw [hW4]; simp
  have hB4 : Below w.heap.size w W4 := by
    rw [hW4]
    exact (((Below.refl _ w).alloc (Nat.le_refl _) _).alloc (by simp) _).alloc (by simp; omega) _
  rw [← hW4] at h4 ⊢
  clear hW4
  obtain ⟨_, h41, h42⟩ := h4
  have hbel : Below w.heap.size w (W4.alloc (.cells (ccA m) 109)) := hB4.alloc hB4.size _
  have hbox : ∀ i, (W4.alloc (.cells (ccA m) 109)).cell? ⟨w.heap.size + 1 + 1 + 1, i, none⟩ = (ccA m)[i]? := fun i => by rw [← hs4]; simp
  refine wpIn_rangeFunc_ownH rfl (by omega) (gf := 182) (lb := #[.pointer (some ⟨w.heap.size + 1 + 1 + 1, 0, none⟩)]) rfl trivial (enters_of Try.func182 (by kernel_rfl) rfl)
    (used_stops Fence.wide _ trivial rfl (by omega) (w.heap.size + 1 + 1 + 1) c m hm hc _ (by simp; omega) hbox) KeepB.trans (keepB_b (by simp; omega)) (Below.refl _ _) (fun _ => rfl)
    (fun pre W => HasI w s pre W ∧ Below w.heap.size w W) (fun c pre W => HasX w s c pre W ∧ Below w.heap.size w W)
    (OwnFrom.and (Own.from (HasI.own w s) _) (ownFrom_below (Nat.le_refl _) (by simp; omega)))
    (fun c => OwnFrom.and (Own.from (HasX.own w s c) _) (ownFrom_below (Nat.le_refl _) (by simp; omega)))
    ⟨⟨by rw [Below.heap_alloc _ _ _ (by rw [hs4]; omega)]; exact h41, by rw [Below.heap_alloc _ _ _ (by rw [hs4]; omega)]; exact h42, by simp [usedSeqs], by simp; omega⟩, hbel⟩
    (fun x a' W => ∃ Bp, w.heap.size + 1 + 1 + 1 < Bp ∧ W.heap[Bp]? = some (.cells #[Value.bool x.2.used, Value.int .i64 x.2.log, Value.int .i64 x.2.seq, Value.string x.2.data] 28 (0, 0)) ∧
      a' = { tmps := #[.agg (ccA m), .int .i64 s, .pointer (some ⟨w.heap.size, 0, none⟩), .pointer (some ⟨w.heap.size + 1, 0, none⟩), .pointer (some ⟨w.heap.size + 1 + 1, 0, none⟩), undef, .pointer (some ⟨Bp, 0, none⟩), .agg (ccA m), .func (.func 182) #[] #[.pointer (some ⟨w.heap.size + 1 + 1 + 1, 0, none⟩)], .int .i64 x.1, .agg #[Value.bool x.2.used, Value.int .i64 x.2.log, Value.int .i64 x.2.seq, Value.string x.2.data], undef, undef, undef, undef], defers := [] })
    (fun x a' => Own.from (fun _ W W' row ⟨Bp, h1, h2, h3⟩ hg hr => ⟨Bp, h1, blk_kept h2 hg hr, h3⟩) _) ?assign ?body ?done ?stop
  case assign =>
    rintro l pre x W K ⟨hi, hb⟩ hK
    obtain ⟨xi, xp⟩ := x
    simp only [encU]
    gi_wp2
    have hWs : w.heap.size + 1 + 1 + 1 < W.heap.size := hi.2.2.2
    exact hK _ _ ((KeepsOthers.alloc _ _).from _) (KeepB.alloc _ _ hWs) ⟨HasI.own w s pre W _ none hi (World.grownBy_alloc W _ none) (fun r e => by cases e), hb.alloc hb.size _⟩ ⟨W.heap.size, hWs, World.alloc_heap_new _ _, rfl⟩
  case body =>
    rintro l pre ⟨xi, xp⟩ a' W hl hlr ⟨⟨hA1, hA2, hnot, hWs⟩, hb⟩ ⟨Bp, hBp, hpb, rfl⟩ hlen
    have hcS := cell_of_row _ _ 2 _ _ _ hpb
    have hcQ := cell_of_row _ _ 0 _ _ _ hA1
    have hcF := cell_of_row _ _ 0 _ _ _ hA2
    have hfF := frozen_of_row _ _ 0 _ _ hA2
    have HN := hide hnot
    have HP := hide hpb
    clear hnot hpb
    simp only [] at hcS
    by_cases hin : xp.seq = s
    · have hbe : (xp.seq == s) = true := by simpa using hin
      gi_wp2
      refine ⟨((KeepsOthers.setCell _ _ _).from _), ⟨rfl, ?_, ?_⟩, ?_⟩
      · rw [usedSeqs_snoc, hin]
        simp
      · exact blk_setCell_same 0 (.bool true) hA2
      · exact hb.setCell (p := ⟨w.heap.size + 1 + 1, 0, none⟩) (by simp; omega) _
    · have hbe : (xp.seq == s) = false := by simpa using hin
      gi_wp2
      refine ⟨(KeepsOthers.refl _).from _, KeepB.refl _ _, ⟨hA1, hA2, ?_, hWs⟩, hb⟩
      rw [usedSeqs_snoc]
      intro hc
      rcases List.mem_append.1 hc with h1 | h1
      · exact unhide HN h1
      · simp at h1
        exact hin h1.symm
  case done =>
    rintro D ys W hD rfl ⟨⟨hA1, hA2, hnot, hWs⟩, hb⟩ hK
    have hcF := cell_of_row _ _ 0 _ _ _ hA2
    have hfF := frozen_of_row _ _ 0 _ _ hA2
    have HA := hide hnot
    clear hnot
    gi_wp2
    have hK' := (KeepsOthers.setCell W ⟨w.heap.size + 1 + 1, 0, none⟩ (.bool false)).same D _ hK rfl
    refine ⟨by simp, .inl ⟨_, _, rfl, run_takeDeferred hK', ?_⟩⟩
    have hc5 := cell_kept (World.cell?_setCell_same' W ⟨w.heap.size + 1 + 1, 0, none⟩ (.bool false) (by rw [hcF]; rfl)) (grownBy_putObj' _ D (.deferred none)) (fun r e => by cases e; exact ⟨_, hK', rfl⟩)
    refine ⟨.bool false, ?_, RetIff.no (unhide HA), (hb.setCell (p := ⟨w.heap.size + 1 + 1, 0, none⟩) (by simp; omega) _).trans (belowK_b (w := w) (Nat.le_refl _) _ D _ _ (by simp at hD; omega) hK' rfl rfl)⟩
    simp [results, Try.f136, go_sem, hc5]
  case stop =>
    rintro D c' pre W hD hpre ⟨⟨rfl, hin, hA2⟩, hb⟩ hK
    have hcF := cell_of_row _ _ 0 _ _ _ hA2
    have HA := hide hin
    clear hin
    gi_wp2
    refine ⟨by simp, .inl ⟨_, _, rfl, run_takeDeferred hK, ?_⟩⟩
    have hc5 := cell_kept hcF (grownBy_putObj' _ D (.deferred none)) (fun r e => by cases e; exact ⟨_, hK, rfl⟩)
    refine ⟨.bool true, ?_, RetIff.yes ?_, hb.trans (belowK_b (w := w) (Nat.le_refl _) W D _ _ (by simp at hD; omega) hK rfl rfl)⟩
    · simp [results, Try.f136, go_sem, hc5]
    · obtain ⟨t, ht⟩ := hpre
      rw [← ht]
      have := unhide HA
      simp [usedSeqs] at this ⊢
      exact .inl this
end Go.Proofs.Ytimencianaclmaa
