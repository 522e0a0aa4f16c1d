/- The greatest number on a chip, and its place: the program's top. -/
import Derived.Test.YtageolbmplhgaaaUsedR
import Derived.Test.YtageolbmplhgaaaDiffer
import Derived.Test.YtageolbmplhgaaaHasSeq
import Derived.Test.YtageolbmplhgaaaFtlP
namespace Go.Proofs.Ytageolbmplhgaaa
open Go.RowKit Go.Shelf
set_option linter.unusedVariables false
set_option linter.unusedSimpArgs false
attribute [local go_sem] Oper.semAt_some

def TopI (w : World) (pre : List (Int × Pg)) (W : World) : Prop :=
  W.heap[w.heap.size + 1]? = some (.cells #[Value.int .i64 0, Value.int .i64 0] 118 (0, 0)) ∧ W.heap[w.heap.size + 1 + 1]? = some (.cells #[Value.int .i64 (topOf pre).1, Value.int .i64 (topOf pre).2] 118 (0, 0)) ∧ w.heap.size + 1 + 1 + 1 < W.heap.size
theorem TopI.own (w : World) : Own (TopI w) := fun p W W' row ⟨h1, h2, h4⟩ hg hr => ⟨blk_kept h1 hg hr, blk_kept h2 hg hr, Nat.lt_of_lt_of_le h4 hg.size⟩

theorem sizeNp : (Try.prog.info? 118).map (·.size) = some 2 := by kernel_rfl

set_option maxRecDepth 100000 in
set_option maxHeartbeats 1000000 in
theorem top_any (m : CC) (c : Nat) (hm : m.count = c) (hc : c ≤ 12) (w : World) :
    Calls Try.prog 99 #[.agg (ccA m)] w fun e w' => e = .returned (.agg #[.int .i64 (topOf (usedAll m c)).1, .int .i64 (topOf (usedAll m c)).2]) ∧ Below w.heap.size w w' := by
  refine (callsIn_wide (n := 8)).1 ?_
  refine callsIn_of_wp_marks Try.func99 rfl trivial ?_ rfl
  simp only [Try.ntmps99, List.size_toArray, List.length_cons, List.length_nil, Nat.reduceAdd, Nat.reduceSub, Array.replicate_succ, Array.replicate_zero, List.push_toArray, List.append_toArray, List.nil_append, List.cons_append]
  gi_wp2_with (first | (refine wpListIn_load_mid rfl 84 _ rfl w.heap.size 0 rfl (ccA m) 205 (ccA_size m) (fun j hj => by rw [Nat.zero_add]; exact cell_of_row _ _ _ _ _ _ (heap3 w _ _ _).1) _ Try.underlying84 rfl sizeCC' ?_) | (refine ⟨trivial, ?_⟩; gi_at_call 104; refine (usedPages_in Fence.wide _ trivial rfl m _).mono ?_; rintro e w' ⟨rfl, rfl⟩))
  obtain ⟨W4, hW4⟩ : ∃ W4, W4 = ((w.alloc (.cells (ccA m) 84)).alloc (.cells #[.int .i64 0, .int .i64 0] 118)).alloc (.cells #[.int .i64 0, .int .i64 0] 118) := ⟨_, rfl⟩
  have h4 := heap3 w (.cells (ccA m) 84) (.cells #[.int .i64 0, .int .i64 0] 118) (.cells #[.int .i64 0, .int .i64 0] 118)
  have hs4 : W4.heap.size = w.heap.size + 1 + 1 + 1 := by rw [hW4]; simp
  have hB4 : Below w.heap.size w W4 := by
    rw [hW4]
    exact (((Below.refl _ w).alloc (Nat.le_refl _) _).alloc (by simp) _).alloc (by simp; omega) _
  rw [← hW4] at h4 ⊢
  clear hW4
  obtain ⟨_, h41, h42⟩ := h4
  have hbel : Below w.heap.size w (W4.alloc (.cells (ccA m) 84)) := hB4.alloc hB4.size _
  have hbox : ∀ i, (W4.alloc (.cells (ccA m) 84)).cell? ⟨w.heap.size + 1 + 1 + 1, i, none⟩ = (ccA m)[i]? := fun i => by rw [← hs4]; simp
  refine wpIn_rangeFunc_ownH rfl (by omega) (gf := 113) (lb := #[.pointer (some ⟨w.heap.size + 1 + 1 + 1, 0, none⟩)]) rfl trivial (enters_of Try.func113 (by kernel_rfl) rfl)
    (used_stops Fence.wide _ trivial rfl (by omega) (w.heap.size + 1 + 1 + 1) c m hm hc _ (by simp; omega) hbox) KeepB.trans (keepB_b (by simp; omega)) (Below.refl _ _) (fun _ => rfl)
    (fun pre W => TopI w pre W ∧ Below w.heap.size w W) (fun c pre W => False)
    (OwnFrom.and (Own.from (TopI.own w) _) (ownFrom_below (Nat.le_refl _) (by simp; omega)))
    (fun c => fun s W W' row h hg hr => h)
    ⟨⟨by rw [Below.heap_alloc _ _ _ (by rw [hs4]; omega)]; exact h41, by rw [Below.heap_alloc _ _ _ (by rw [hs4]; omega)]; exact h42, by simp; omega⟩, hbel⟩
    (fun x a' W => ∃ Bp, w.heap.size + 1 + 1 + 1 < Bp ∧ W.heap[Bp]? = some (.cells #[Value.bool x.2.used, Value.int .i64 x.2.log, Value.int .i64 x.2.seq, Value.string x.2.data] 44 (0, 0)) ∧
      a' = { tmps := #[.agg (ccA m), .pointer (some ⟨w.heap.size, 0, none⟩), .pointer (some ⟨w.heap.size + 1, 0, none⟩), .pointer (some ⟨w.heap.size + 1 + 1, 0, none⟩), .int .i64 x.1, .pointer (some ⟨Bp, 0, none⟩), .agg (ccA m), .func (.func 113) #[] #[.pointer (some ⟨w.heap.size + 1 + 1 + 1, 0, none⟩)], .int .i64 x.1, .agg #[Value.bool x.2.used, Value.int .i64 x.2.log, Value.int .i64 x.2.seq, Value.string x.2.data], undef, undef, undef, undef, undef, undef, undef, undef, undef, undef], defers := [] })
    (fun x a' => Own.from (fun _ W W' row ⟨Bp, h1, h2, h3⟩ hg hr => ⟨Bp, h1, blk_kept h2 hg hr, h3⟩) _) ?assign ?body ?done ?stop
  case assign =>
    rintro l pre x W K ⟨hi, hb⟩ hK
    obtain ⟨xi, xp⟩ := x
    simp only [encU]
    gi_wp2
    have hWs : w.heap.size + 1 + 1 + 1 < W.heap.size := hi.2.2
    exact hK _ _ ((KeepsOthers.alloc _ _).from _) (KeepB.alloc _ _ hWs) ⟨TopI.own w pre W _ none hi (World.grownBy_alloc W _ none) (fun r e => by cases e), hb.alloc hb.size _⟩ ⟨W.heap.size, hWs, World.alloc_heap_new _ _, rfl⟩
  case body =>
    rintro l pre ⟨xi, xp⟩ a' W hl hlr ⟨⟨hA1, hA2, hWs⟩, hb⟩ ⟨Bp, hBp, hpb, rfl⟩ hlen
    have hcS := cell_of_row _ _ 2 _ _ _ hpb
    have hcF := cell_of_row _ _ 0 _ _ _ hA2
    have hcG := cell_of_row _ _ 1 _ _ _ hA2
    have hfF := frozen_of_row _ _ 0 _ _ hA2
    have hfG := frozen_of_row _ _ 1 _ _ hA2
    have hst := topOf_snoc pre (xi, xp)
    have HS := hide hst
    have HP := hide hpb
    have H1 := hide hA1
    have H2 := hide hA2
    clear hpb hst hA1 hA2
    simp only [List.getElem?_toArray, List.getElem?_cons_succ, List.getElem?_cons_zero] at hcS hcF hcG
    obtain ⟨T, hT⟩ : ∃ T, T = topOf pre := ⟨_, rfl⟩
    rw [← hT] at hcF hcG HS H2
    clear hT
    by_cases hin : T.1 < xp.seq
    · gi_wp2
      refine ⟨((KeepsOthers.setCell _ _ _).from _).trans ((KeepsOthers.setCell _ _ _).from _), (KeepB.setCell _ _ _ (by show w.heap.size + 1 + 1 + 1 ≠ w.heap.size + 1 + 1; omega)).trans (KeepB.setCell _ _ _ (by show w.heap.size + 1 + 1 + 1 ≠ w.heap.size + 1 + 1; omega)), ⟨?_, ?_, by simpa [World.setCell] using hWs⟩, ?_⟩
      · rw [Below.heap_setCell _ _ _ _ (by simp), Below.heap_setCell _ _ _ _ (by simp)]; exact unhide H1
      · have h1 := blk_setCell_same 1 (.int .i64 xi) (blk_setCell_same 0 (.int .i64 xp.seq) (unhide H2))
        rw [unhide HS]
        unfold topStep
        rw [if_pos hin]
        exact h1
      · exact (hb.setCell (p := ⟨w.heap.size + 1 + 1, 0, none⟩) (by simp; omega) _).setCell (p := ⟨w.heap.size + 1 + 1, 1, none⟩) (by simp; omega) _
    · gi_wp2
      refine ⟨(KeepsOthers.refl _).from _, KeepB.refl _ _, ⟨unhide H1, ?_, hWs⟩, hb⟩
      rw [unhide HS]
      unfold topStep
      rw [if_neg (by show ¬ T.1 < xp.seq; omega)]
      exact unhide H2
  case done =>
    rintro D ys W hD rfl ⟨⟨hA1, hA2, hWs⟩, hb⟩ hK
    have hcF := cell_of_row _ _ 0 _ _ _ hA2
    have hcG := cell_of_row _ _ 1 _ _ _ hA2
    have hc0 := cell_of_row _ _ 0 _ _ _ hA1
    have hf0 := frozen_of_row _ _ 0 _ _ hA1
    have hc1 := cell_of_row _ _ 1 _ _ _ hA1
    have hf1 := frozen_of_row _ _ 1 _ _ hA1
    simp only [List.getElem?_toArray, List.getElem?_cons_succ, List.getElem?_cons_zero] at hcF hcG hc0 hc1
    obtain ⟨T, hT⟩ : ∃ T, T = topOf (usedAll m c) := ⟨_, rfl⟩
    rw [← hT] at hcF hcG
    have HT := hide hT
    clear hT
    gi_wp2
    have hK' := ((KeepsOthers.setCell W ⟨w.heap.size + 1, 0, none⟩ (.int .i64 T.1)).trans (KeepsOthers.setCell _ ⟨w.heap.size + 1, 1, none⟩ (.int .i64 T.2))).same D _ hK rfl
    refine ⟨by simp, .inl ⟨_, _, rfl, run_takeDeferred hK', ?_⟩⟩
    have hrow := blk_setCell_same 1 (.int .i64 T.2) (blk_setCell_same 0 (.int .i64 T.1) hA1)
    have hDn : w.heap.size + 1 ≠ D := by simp at hD; omega
    have hrow2 : (((W.setCell ⟨w.heap.size + 1, 0, none⟩ (.int .i64 T.1)).setCell ⟨w.heap.size + 1, 1, none⟩ (.int .i64 T.2)).putObj D (.deferred none)).heap[w.heap.size + 1]? = _ := (World.putObj_heap_other hDn).trans hrow
    refine ⟨.agg #[.int .i64 T.1, .int .i64 T.2], ?_, by rw [← unhide HT], ((hb.setCell (p := ⟨w.heap.size + 1, 0, none⟩) (by simp) _).setCell (p := ⟨w.heap.size + 1, 1, none⟩) (by simp) _).trans (belowK_b (w := w) (Nat.le_refl _) _ D _ _ (by simp at hD; omega) hK' rfl rfl)⟩
    have e0 := cell_of_row _ _ 0 _ _ _ hrow2
    have e1 := cell_of_row _ _ 1 _ _ _ hrow2
    simp at e0 e1
    simp [results, Try.f99, go_sem, e0, e1]
  case stop =>
    rintro D c' pre W hD hpre h hK
    exact h.elim
end Go.Proofs.Ytageolbmplhgaaa
