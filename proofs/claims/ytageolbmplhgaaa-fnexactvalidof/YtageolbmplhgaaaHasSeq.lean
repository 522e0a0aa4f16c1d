/- The program's answer whether a number is a used page's. -/
import Derived.Test.YtageolbmplhgaaaDiffer
namespace Go.Proofs.Ytageolbmplhgaaa
open Go.RowKit Go.Shelf
set_option linter.unusedVariables false
set_option linter.unusedSimpArgs false
attribute [local go_sem] Oper.semAt_some

def HasI (w : World) (s : Int) (pre : List (Int × Pg)) (W : World) : Prop :=
  W.heap[w.heap.size + 1]? = some (.cells #[Value.int .i64 s] 2 (0, 0)) ∧ W.heap[w.heap.size + 1 + 1]? = some (.cells #[Value.bool false] 4 (0, 0)) ∧ s ∉ usedSeqs pre ∧ w.heap.size + 1 + 1 + 1 < W.heap.size
def HasX (w : World) (s : Int) (c : Code) (pre : List (Int × Pg)) (W : World) : Prop :=
  c = .ret ∧ s ∈ usedSeqs pre ∧ W.heap[w.heap.size + 1 + 1]? = some (.cells #[Value.bool true] 4 (0, 0))
theorem HasI.own (w : World) (s : Int) : Own (HasI w s) := fun p W W' row ⟨h1, h2, h3, h4⟩ hg hr => ⟨blk_kept h1 hg hr, blk_kept h2 hg hr, h3, Nat.lt_of_lt_of_le h4 hg.size⟩
theorem HasX.own (w : World) (s : Int) (c : Code) : Own (HasX w s c) := fun p W W' row ⟨h1, h2, h3⟩ hg hr => ⟨h1, h2, blk_kept h3 hg hr⟩

theorem heap3 (w : World) (o1 o2 o3 : Obj) :
    (((w.alloc o1).alloc o2).alloc o3).heap[w.heap.size]? = some o1 ∧ (((w.alloc o1).alloc o2).alloc o3).heap[w.heap.size + 1]? = some o2 ∧ (((w.alloc o1).alloc o2).alloc o3).heap[w.heap.size + 1 + 1]? = some o3 := by
  have e : (((w.alloc o1).alloc o2).alloc o3).heap = ((w.heap.push o1).push o2).push o3 := rfl
  rw [e]
  simp only [Array.getElem?_push, Array.size_push]
  refine ⟨?_, ?_, ?_⟩
  · rw [if_neg (by omega), if_neg (by omega), if_pos trivial]
  · rw [if_neg (by omega), if_pos trivial]
  · rw [if_pos trivial]

set_option maxRecDepth 100000 in
set_option maxHeartbeats 1000000 in
theorem hasSeq_any (m : CC) (c : Nat) (hm : m.count = c) (hc : c ≤ 12) (s : Int) (w : World) :
    Calls Try.prog 95 #[.agg (ccA m), .int .i64 s] w fun e w' => RetIff (s ∈ usedSeqs (usedAll m c)) e ∧ Below w.heap.size w w' := by
  refine (callsIn_wide (n := 8)).1 ?_
  refine callsIn_of_wp_marks Try.func95 rfl trivial ?_ rfl
  simp only [Try.ntmps95, List.size_toArray, List.length_cons, List.length_nil, Nat.reduceAdd, Nat.reduceSub, Array.replicate_succ, Array.replicate_zero, List.push_toArray, List.append_toArray, List.nil_append, List.cons_append]
  gi_wp2_with (first | (refine wpListIn_load_mid rfl 84 _ rfl w.heap.size 0 rfl (ccA m) 205 (ccA_size m) (fun j hj => by rw [Nat.zero_add]; exact cell_of_row _ _ _ _ _ _ (heap3 w _ _ _).1) _ Try.underlying84 rfl sizeCC' ?_) | (refine ⟨trivial, ?_⟩; gi_at_call 104; refine (usedPages_in Fence.wide _ trivial rfl m _).mono ?_; rintro e w' ⟨rfl, rfl⟩))
  obtain ⟨W4, hW4⟩ : ∃ W4, W4 = ((w.alloc (.cells (ccA m) 84)).alloc (.cells #[.int .i64 s] 2)).alloc (.cells #[.bool false] 4) := ⟨_, rfl⟩
  have h4 := heap3 w (.cells (ccA m) 84) (.cells #[.int .i64 s] 2) (.cells #[.bool false] 4)
  have hs4 : W4.heap.size = w.heap.size + 1 + 1 + 1 := by rw [hW4]; simp
  have hB4 : Below w.heap.size w W4 := by
    rw [hW4]
    exact (((Below.refl _ w).alloc (Nat.le_refl _) _).alloc (by simp) _).alloc (by simp; omega) _
  rw [← hW4] at h4 ⊢
  clear hW4
  obtain ⟨_, h41, h42⟩ := h4
  have hbel : Below w.heap.size w (W4.alloc (.cells (ccA m) 84)) := hB4.alloc hB4.size _
  have hbox : ∀ i, (W4.alloc (.cells (ccA m) 84)).cell? ⟨w.heap.size + 1 + 1 + 1, i, none⟩ = (ccA m)[i]? := fun i => by rw [← hs4]; simp
  refine wpIn_rangeFunc_ownH rfl (by omega) (gf := 113) (lb := #[.pointer (some ⟨w.heap.size + 1 + 1 + 1, 0, none⟩)]) rfl trivial (enters_of Try.func113 (by kernel_rfl) rfl)
    (used_stops Fence.wide _ trivial rfl (by omega) (w.heap.size + 1 + 1 + 1) c m hm hc _ (by simp; omega) hbox) KeepB.trans (keepB_b (by simp; omega)) (Below.refl _ _) (fun _ => rfl)
    (fun pre W => HasI w s pre W ∧ Below w.heap.size w W) (fun c pre W => HasX w s c pre W ∧ Below w.heap.size w W)
    (OwnFrom.and (Own.from (HasI.own w s) _) (ownFrom_below (Nat.le_refl _) (by simp; omega)))
    (fun c => OwnFrom.and (Own.from (HasX.own w s c) _) (ownFrom_below (Nat.le_refl _) (by simp; omega)))
    ⟨⟨by rw [Below.heap_alloc _ _ _ (by rw [hs4]; omega)]; exact h41, by rw [Below.heap_alloc _ _ _ (by rw [hs4]; omega)]; exact h42, by simp [usedSeqs], by simp; omega⟩, hbel⟩
    (fun x a' W => ∃ Bp, w.heap.size + 1 + 1 + 1 < Bp ∧ W.heap[Bp]? = some (.cells #[Value.bool x.2.used, Value.int .i64 x.2.log, Value.int .i64 x.2.seq, Value.string x.2.data] 44 (0, 0)) ∧
      a' = { tmps := #[.agg (ccA m), .int .i64 s, .pointer (some ⟨w.heap.size, 0, none⟩), .pointer (some ⟨w.heap.size + 1, 0, none⟩), .pointer (some ⟨w.heap.size + 1 + 1, 0, none⟩), undef, .pointer (some ⟨Bp, 0, none⟩), .agg (ccA m), .func (.func 113) #[] #[.pointer (some ⟨w.heap.size + 1 + 1 + 1, 0, none⟩)], .int .i64 x.1, .agg #[Value.bool x.2.used, Value.int .i64 x.2.log, Value.int .i64 x.2.seq, Value.string x.2.data], undef, undef, undef, undef], defers := [] })
    (fun x a' => Own.from (fun _ W W' row ⟨Bp, h1, h2, h3⟩ hg hr => ⟨Bp, h1, blk_kept h2 hg hr, h3⟩) _) ?assign ?body ?done ?stop
  case assign =>
    rintro l pre x W K ⟨hi, hb⟩ hK
    obtain ⟨xi, xp⟩ := x
    simp only [encU]
    gi_wp2
    have hWs : w.heap.size + 1 + 1 + 1 < W.heap.size := hi.2.2.2
    exact hK _ _ ((KeepsOthers.alloc _ _).from _) (KeepB.alloc _ _ hWs) ⟨HasI.own w s pre W _ none hi (World.grownBy_alloc W _ none) (fun r e => by cases e), hb.alloc hb.size _⟩ ⟨W.heap.size, hWs, World.alloc_heap_new _ _, rfl⟩
  case body =>
    rintro l pre ⟨xi, xp⟩ a' W hl hlr ⟨⟨hA1, hA2, hnot, hWs⟩, hb⟩ ⟨Bp, hBp, hpb, rfl⟩ hlen
    have hcS := cell_of_row _ _ 2 _ _ _ hpb
    have hcQ := cell_of_row _ _ 0 _ _ _ hA1
    have hcF := cell_of_row _ _ 0 _ _ _ hA2
    have hfF := frozen_of_row _ _ 0 _ _ hA2
    have HN := hide hnot
    have HP := hide hpb
    clear hnot hpb
    simp only [] at hcS
    by_cases hin : xp.seq = s
    · have hbe : (xp.seq == s) = true := by simpa using hin
      gi_wp2
      refine ⟨((KeepsOthers.setCell _ _ _).from _), ⟨rfl, ?_, ?_⟩, ?_⟩
      · rw [usedSeqs_snoc, hin]
        simp
      · exact blk_setCell_same 0 (.bool true) hA2
      · exact hb.setCell (p := ⟨w.heap.size + 1 + 1, 0, none⟩) (by simp; omega) _
    · have hbe : (xp.seq == s) = false := by simpa using hin
      gi_wp2
      refine ⟨(KeepsOthers.refl _).from _, KeepB.refl _ _, ⟨hA1, hA2, ?_, hWs⟩, hb⟩
      rw [usedSeqs_snoc]
      intro hc
      rcases List.mem_append.1 hc with h1 | h1
      · exact unhide HN h1
      · simp at h1
        exact hin h1.symm
  case done =>
    rintro D ys W hD rfl ⟨⟨hA1, hA2, hnot, hWs⟩, hb⟩ hK
    have hcF := cell_of_row _ _ 0 _ _ _ hA2
    have hfF := frozen_of_row _ _ 0 _ _ hA2
    have HA := hide hnot
    clear hnot
    gi_wp2
    have hK' := (KeepsOthers.setCell W ⟨w.heap.size + 1 + 1, 0, none⟩ (.bool false)).same D _ hK rfl
    refine ⟨by simp, .inl ⟨_, _, rfl, run_takeDeferred hK', ?_⟩⟩
    have hc5 := cell_kept (World.cell?_setCell_same' W ⟨w.heap.size + 1 + 1, 0, none⟩ (.bool false) (by rw [hcF]; rfl)) (grownBy_putObj' _ D (.deferred none)) (fun r e => by cases e; exact ⟨_, hK', rfl⟩)
    refine ⟨.bool false, ?_, RetIff.no (unhide HA), (hb.setCell (p := ⟨w.heap.size + 1 + 1, 0, none⟩) (by simp; omega) _).trans (belowK_b (w := w) (Nat.le_refl _) _ D _ _ (by simp at hD; omega) hK' rfl rfl)⟩
    simp [results, Try.f95, go_sem, hc5]
  case stop =>
    rintro D c' pre W hD hpre ⟨⟨rfl, hin, hA2⟩, hb⟩ hK
    have hcF := cell_of_row _ _ 0 _ _ _ hA2
    have HA := hide hin
    clear hin
    gi_wp2
    refine ⟨by simp, .inl ⟨_, _, rfl, run_takeDeferred hK, ?_⟩⟩
    have hc5 := cell_kept hcF (grownBy_putObj' _ D (.deferred none)) (fun r e => by cases e; exact ⟨_, hK, rfl⟩)
    refine ⟨.bool true, ?_, RetIff.yes ?_, hb.trans (belowK_b (w := w) (Nat.le_refl _) W D _ _ (by simp at hD; omega) hK rfl rfl)⟩
    · simp [results, Try.f95, go_sem, hc5]
    · obtain ⟨t, ht⟩ := hpre
      rw [← ht]
      have := unhide HA
      simp [usedSeqs] at this ⊢
      exact .inl this
end Go.Proofs.Ytageolbmplhgaaa
