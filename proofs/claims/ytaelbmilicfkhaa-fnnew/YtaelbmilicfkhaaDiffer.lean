/- The program's answer whether all used pages bear numbers of their own. -/
import Derived.Test.YtaelbmilicfkhaaUsed
import Derived.Shelf.RegionOpen
namespace Go.Proofs.Ytaelbmilicfkhaa
open Go.RowKit Go.Shelf
set_option linter.unusedVariables false
set_option linter.unusedSimpArgs false
attribute [local go_sem] Oper.semAt_some

def usedSeqs (xs : List (Int × Pg)) : List Int := xs.map fun x => x.2.seq

theorem blk_kept {W W' : World} {row : Option Nat} {k : Nat} {c : Array Value} {t : TypeId} {fr : Nat × Nat} (h : W.heap[k]? = some (.cells c t fr)) (hg : W.grownBy W' row) (hr : ∀ r, row = some r → ∃ o : Obj, W.heap[r]? = some o ∧ o.isCells = false) : W'.heap[k]? = some (.cells c t fr) := by
  rw [hg.block k (Array.getElem?_eq_some_iff.1 h).1 (fun e => ?_)]
  · exact h
  · obtain ⟨o, ho, hc⟩ := hr k e.symm
    rw [h] at ho
    cases ho
    cases hc

/-- Between two rounds: the cells of the function's own, those that came being pre. -/
def DifI (w : World) (pre : List (Int × Pg)) (W : World) : Prop :=
  (∃ A : Array Value, W.heap[w.heap.size + 1]? = some (.cells #[Value.bool false] 4 (0, 0)) ∧ W.heap[w.heap.size + 1 + 1]? = some (.cells A 116 (0, 0)) ∧ A.size = 48 ∧ (∀ (i : Nat) (x : Int), (usedSeqs pre)[i]? = some x → A[i]? = some (Value.int .i64 x)) ∧
    W.heap[w.heap.size + 1 + 1 + 1]? = some (.cells #[Value.int .i64 (pre.length : Int)] 3 (0, 0))) ∧ (usedSeqs pre).Nodup ∧ w.heap.size + 1 + 1 + 1 + 1 < W.heap.size
def DifX (w : World) (c : Code) (pre : List (Int × Pg)) (W : World) : Prop :=
  c = .ret ∧ ¬ (usedSeqs pre).Nodup ∧ W.heap[w.heap.size + 1]? = some (.cells #[Value.bool false] 4 (0, 0))
theorem DifI.own (w : World) : Own (DifI w) := fun s W W' row ⟨⟨A, h1, h2, h3, h4, h5⟩, h6⟩ hg hr => ⟨⟨A, blk_kept h1 hg hr, blk_kept h2 hg hr, h3, h4, blk_kept h5 hg hr⟩, h6.1, Nat.lt_of_lt_of_le h6.2 hg.size⟩
theorem DifX.own (w : World) (c : Code) : Own (DifX w c) := fun s W W' row ⟨h1, h2, h3⟩ hg hr => ⟨h1, h2, blk_kept h3 hg hr⟩

theorem blk_setCell_same {W : World} {b : Nat} {A : Array Value} {t : TypeId} {fr : Nat × Nat} (o : Nat) (v : Value) (h : W.heap[b]? = some (.cells A t fr)) : (W.setCell ⟨b, o, none⟩ v).heap[b]? = some (.cells (A.setIfInBounds o v) t fr) := by
  simp only [World.setCell, Array.getElem?_modify, if_pos, h]
  rfl

theorem usedSeqs_snoc (pre : List (Int × Pg)) (x : Int × Pg) : usedSeqs (pre ++ [x]) = usedSeqs pre ++ [x.2.seq] := by simp [usedSeqs]

theorem snoc_nodup {L : List Int} {s : Int} : (L ++ [s]).Nodup ↔ L.Nodup ∧ s ∉ L := by
  simp [List.nodup_append]
  intro _
  constructor
  · intro h hm
    exact h s hm rfl
  · intro h a ha e
    subst e
    exact h ha

theorem DifI.step {w W : World} {pre : List (Int × Pg)} {A : Array Value} (xi : Int) (xp : Pg)
    (hA1 : W.heap[w.heap.size + 1]? = some (.cells #[Value.bool false] 4 (0, 0))) (hA2 : W.heap[w.heap.size + 1 + 1]? = some (.cells A 116 (0, 0))) (hA3 : A.size = 48) (hA4 : ∀ (i : Nat) (x : Int), (usedSeqs pre)[i]? = some x → A[i]? = some (Value.int .i64 x))
    (hA5 : W.heap[w.heap.size + 1 + 1 + 1]? = some (.cells #[Value.int .i64 (pre.length : Int)] 3 (0, 0))) (hnd : (usedSeqs pre).Nodup) (hWs : w.heap.size + 1 + 1 + 1 + 1 < W.heap.size) (hlen : pre.length < 48) (hin : xp.seq ∉ usedSeqs pre) :
    DifI w (pre ++ [(xi, xp)]) ((W.setCell ⟨w.heap.size + 1 + 1, pre.length, none⟩ (.int .i64 xp.seq)).setCell ⟨w.heap.size + 1 + 1 + 1, 0, none⟩ (.int .i64 ((pre.length : Int) + 1))).drew := by
  have hul : (usedSeqs pre).length = pre.length := by simp [usedSeqs]
  refine ⟨⟨A.setIfInBounds pre.length (.int .i64 xp.seq), ?_, ?_, by simp [hA3], ?_, ?_⟩, ?_, ?_⟩
  · exact ((Below.heap_setCell _ _ _ _ (by simp)).trans (Below.heap_setCell _ _ _ _ (by simp))).trans hA1
  · exact (Below.heap_setCell _ _ _ _ (by simp)).trans (blk_setCell_same _ _ hA2)
  · intro i x hx
    rw [usedSeqs_snoc] at hx
    by_cases hi : i < pre.length
    · rw [List.getElem?_append_left (by omega)] at hx
      rw [Array.getElem?_setIfInBounds_ne (by omega)]
      exact hA4 i x hx
    · have hi2 : i = pre.length := by
        have := (List.getElem?_eq_some_iff.1 hx).1
        simp [hul] at this
        omega
      subst hi2
      rw [List.getElem?_append_right (by omega), hul] at hx
      simp at hx
      subst hx
      rw [Array.getElem?_setIfInBounds_self_of_lt (by omega)]
  · have h := blk_setCell_same (W := W.setCell ⟨w.heap.size + 1 + 1, pre.length, none⟩ (.int .i64 xp.seq)) 0 (.int .i64 ((pre.length : Int) + 1)) ((Below.heap_setCell _ _ _ _ (by simp)).trans hA5)
    rw [List.length_append]
    exact h
  · rw [usedSeqs_snoc]
    exact snoc_nodup.2 ⟨hnd, hin⟩
  · simpa [World.setCell, World.drew] using hWs

theorem heap4 (w : World) (o1 o2 o3 o4 : Obj) :
    ((((w.alloc o1).alloc o2).alloc o3).alloc o4).heap[w.heap.size]? = some o1 ∧ ((((w.alloc o1).alloc o2).alloc o3).alloc o4).heap[w.heap.size + 1]? = some o2 ∧
    ((((w.alloc o1).alloc o2).alloc o3).alloc o4).heap[w.heap.size + 1 + 1]? = some o3 ∧ ((((w.alloc o1).alloc o2).alloc o3).alloc o4).heap[w.heap.size + 1 + 1 + 1]? = some o4 := by
  have e : ((((w.alloc o1).alloc o2).alloc o3).alloc o4).heap = (((w.heap.push o1).push o2).push o3).push o4 := rfl
  rw [e]
  simp only [Array.getElem?_push, Array.size_push]
  refine ⟨?_, ?_, ?_, ?_⟩
  · rw [if_neg (by omega), if_neg (by omega), if_neg (by omega), if_pos trivial]
  · rw [if_neg (by omega), if_neg (by omega), if_pos trivial]
  · rw [if_neg (by omega), if_pos trivial]
  · rw [if_pos trivial]

set_option maxRecDepth 100000 in
set_option maxHeartbeats 1000000 in
theorem seqsDiffer_any (m : CC) (c : Nat) (hm : m.count = c) (hc : c ≤ 12) (w : World) :
    Calls Try.prog 77 #[.agg (ccA m)] w fun e w' => RetIff (usedSeqs (usedAll m c)).Nodup e ∧ Below w.heap.size w w' := by
  refine (callsIn_wide (n := 8)).1 ?_
  refine callsIn_of_wp_marks Try.func77 rfl trivial ?_ rfl
  simp only [Try.ntmps77, List.size_toArray, List.length_cons, List.length_nil, Nat.reduceAdd, Nat.reduceSub, Array.replicate_succ, Array.replicate_zero, List.push_toArray, List.append_toArray, List.nil_append, List.cons_append]
  gi_wp2_with (first | (refine wpListIn_load_mid rfl 74 _ rfl w.heap.size 0 rfl (ccA m) 205 (ccA_size m) (fun j hj => by rw [Nat.zero_add]; exact cell_of_row _ _ _ _ _ _ (heap4 w _ _ _ _).1) _ Try.underlying74 rfl sizeCC' ?_) | (refine ⟨trivial, ?_⟩; gi_at_call 82; refine (usedPages_in Fence.wide _ trivial rfl m _).mono ?_; rintro e w' ⟨rfl, rfl⟩))
  obtain ⟨ZA, hZA⟩ : ∃ ZA : Array Value, ZA = #[Value.int .i64 0, Value.int .i64 0, Value.int .i64 0, Value.int .i64 0, Value.int .i64 0, Value.int .i64 0, Value.int .i64 0, Value.int .i64 0, Value.int .i64 0, Value.int .i64 0, Value.int .i64 0, Value.int .i64 0, Value.int .i64 0, Value.int .i64 0, Value.int .i64 0, Value.int .i64 0, Value.int .i64 0, Value.int .i64 0, Value.int .i64 0, Value.int .i64 0, Value.int .i64 0, Value.int .i64 0, Value.int .i64 0, Value.int .i64 0, Value.int .i64 0, Value.int .i64 0, Value.int .i64 0, Value.int .i64 0, Value.int .i64 0, Value.int .i64 0, Value.int .i64 0, Value.int .i64 0, Value.int .i64 0, Value.int .i64 0, Value.int .i64 0, Value.int .i64 0, Value.int .i64 0, Value.int .i64 0, Value.int .i64 0, Value.int .i64 0, Value.int .i64 0, Value.int .i64 0, Value.int .i64 0, Value.int .i64 0, Value.int .i64 0, Value.int .i64 0, Value.int .i64 0, Value.int .i64 0] := ⟨_, rfl⟩
  rw [← hZA]
  have hZs : ZA.size = 48 := by rw [hZA]; rfl
  clear hZA
  obtain ⟨W4, hW4⟩ : ∃ W4, W4 = (((w.alloc (.cells (ccA m) 74)).alloc (.cells #[.bool false] 4)).alloc (.cells ZA 116)).alloc (.cells #[.int .i64 0] 3) := ⟨_, rfl⟩
  have h4 := heap4 w (.cells (ccA m) 74) (.cells #[.bool false] 4) (.cells ZA 116) (.cells #[.int .i64 0] 3)
  have hs4 : W4.heap.size = w.heap.size + 1 + 1 + 1 + 1 := by rw [hW4]; simp
  have hB4 : Below w.heap.size w W4 := by
    rw [hW4]
    exact ((((Below.refl _ w).alloc (Nat.le_refl _) _).alloc (by simp) _).alloc (by simp; omega) _).alloc (by simp; omega) _
  rw [← hW4] at h4 ⊢
  clear hW4
  obtain ⟨_, h41, h42, h43⟩ := h4
  have hbel : Below w.heap.size w (W4.alloc (.cells (ccA m) 74)) := hB4.alloc hB4.size _
  have hbox : ∀ i, (W4.alloc (.cells (ccA m) 74)).cell? ⟨w.heap.size + 1 + 1 + 1 + 1, i, none⟩ = (ccA m)[i]? := fun i => by rw [← hs4]; simp
  refine wpIn_rangeFunc_ownH rfl (by omega) (gf := 88) (lb := #[.pointer (some ⟨w.heap.size + 1 + 1 + 1 + 1, 0, none⟩)]) rfl trivial (enters_of Try.func88 (by kernel_rfl) rfl)
    (used_stops Fence.wide _ trivial rfl (by omega) (w.heap.size + 1 + 1 + 1 + 1) c m hm hc _ (by simp; omega) hbox) KeepB.trans (keepB_b (by simp; omega)) (Below.refl _ _) (fun _ => rfl)
    (fun pre W => DifI w pre W ∧ Below w.heap.size w W) (fun c pre W => DifX w c pre W ∧ Below w.heap.size w W)
    (OwnFrom.and (Own.from (DifI.own w) _) (ownFrom_below (Nat.le_refl _) (by simp; omega)))
    (fun c => OwnFrom.and (Own.from (DifX.own w c) _) (ownFrom_below (Nat.le_refl _) (by simp; omega)))
    ⟨⟨⟨ZA, by rw [Below.heap_alloc _ _ _ (by rw [hs4]; omega)]; exact h41, by rw [Below.heap_alloc _ _ _ (by rw [hs4]; omega)]; exact h42, hZs, fun i x hx => by simp [usedSeqs] at hx, by rw [Below.heap_alloc _ _ _ (by rw [hs4]; omega)]; exact h43⟩, by simp [usedSeqs], by simp; omega⟩, hbel⟩
    (fun x a' W => ∃ Bp, w.heap.size + 1 + 1 + 1 + 1 < Bp ∧ W.heap[Bp]? = some (.cells #[Value.bool x.2.used, Value.int .i64 x.2.log, Value.int .i64 x.2.seq, Value.string x.2.data] 68 (0, 0)) ∧
      a' = { tmps := #[.agg (ccA m), .pointer (some ⟨w.heap.size, 0, none⟩), .pointer (some ⟨w.heap.size + 1, 0, none⟩), .pointer (some ⟨w.heap.size + 1 + 1, 0, none⟩), .pointer (some ⟨w.heap.size + 1 + 1 + 1, 0, none⟩), undef, .pointer (some ⟨Bp, 0, none⟩), .agg (ccA m), .func (.func 88) #[] #[.pointer (some ⟨w.heap.size + 1 + 1 + 1 + 1, 0, none⟩)], .int .i64 x.1, .agg #[Value.bool x.2.used, Value.int .i64 x.2.log, Value.int .i64 x.2.seq, Value.string x.2.data], undef, undef, undef, undef, undef, undef, undef, undef, undef, undef, undef], defers := [] })
    (fun x a' => Own.from (fun _ W W' row ⟨Bp, h1, h2, h3⟩ hg hr => ⟨Bp, h1, blk_kept h2 hg hr, h3⟩) _) ?assign ?body ?done ?stop
  case assign =>
    rintro l pre x W K ⟨hi, hb⟩ hK
    obtain ⟨xi, xp⟩ := x
    simp only [encU]
    gi_wp2
    have hWs : w.heap.size + 1 + 1 + 1 + 1 < W.heap.size := hi.2.2
    exact hK _ _ ((KeepsOthers.alloc _ _).from _) (KeepB.alloc _ _ hWs) ⟨DifI.own w pre W _ none hi (World.grownBy_alloc W _ none) (fun r e => by cases e), hb.alloc hb.size _⟩ ⟨W.heap.size, hWs, World.alloc_heap_new _ _, rfl⟩
  case body =>
    rintro l pre ⟨xi, xp⟩ a' W hl hlr ⟨⟨⟨A, hA1, hA2, hA3, hA4, hA5⟩, hnd, hWs⟩, hb⟩ ⟨Bp, hBp, hpb, rfl⟩ hlen
    have hmix : Try.prog.follows .mixedOrders = true := by kernel_rfl
    have hcN := cell_of_row _ _ 0 _ _ _ hA5
    have hcS := cell_of_row _ _ 2 _ _ _ hpb
    have hfN := frozen_of_row _ _ 0 _ _ hA5
    have hints : IntsAt W.drew (some ⟨w.heap.size + 1 + 1, 0, none⟩) (usedSeqs pre) := fun i x hx => ⟨_, _, rfl, by rw [Nat.zero_add]; exact (cell_of_row _ _ _ _ _ _ hA2).trans (hA4 i x hx)⟩
    have hul : (usedSeqs pre).length = pre.length := by simp [usedSeqs]
    have hcn := contains_any (some ⟨w.heap.size + 1 + 1, 0, none⟩) 48 (usedSeqs pre) xp.seq W.drew hints (by omega)
    rw [hul] at hcn
    have HCN := hide hcn
    have HA := hide (And.intro hA4 hpb)
    have HN := hide hnd
    clear hcn hA4 hnd hints hpb hul
    have hln : (pre.length : Int) ≤ 48 := by omega
    have hln2 : (pre.length : Int) < 48 := by omega
    obtain ⟨v0, hv0⟩ := getElem?_ex (l := A.toList) (k := pre.length) (by simp [hA3]; omega)
    have hcA : W.cell? ⟨w.heap.size + 1 + 1, pre.length, none⟩ = some v0 := (cell_of_row _ _ _ _ _ _ hA2).trans (by simpa using hv0)
    have hfA := frozen_of_row _ _ pre.length _ _ hA2
    have hcF := cell_of_row _ _ 0 _ _ _ hA1
    have hfF := frozen_of_row _ _ 0 _ _ hA1
    gi_wp2
    gi_region_with_o (refine ⟨trivial, ?_⟩; gi_at_call 86; refine (CallsIn.inRound l (callsIn_wide.2 (unhide HCN))).mono ?_; rintro e w' ⟨rfl, rfl⟩)
    all_goals (
      by_cases hin : xp.seq ∈ usedSeqs pre
      · simp only [hin, decide_true]
        gi_wp2
        refine ⟨((KeepsOthers.setCell _ _ _).from _).trans ((KeepsOthers.drew _).from _), ⟨rfl, ?_, ?_⟩, ?_⟩
        · rw [usedSeqs_snoc]
          exact fun h => (snoc_nodup.1 h).2 hin
        · exact blk_setCell_same 0 (.bool false) hA1
        · exact (hb.setCell (p := ⟨w.heap.size + 1, 0, none⟩) (Nat.le_succ _) _).drew
      · simp only [hin, decide_false]
        gi_wp2
        refine ⟨(((KeepsOthers.setCell _ _ _).from _).trans ((KeepsOthers.setCell _ _ _).from _)).trans ((KeepsOthers.drew _).from _), ((KeepB.setCell _ _ _ (by show w.heap.size + 1 + 1 + 1 + 1 ≠ w.heap.size + 1 + 1; omega)).trans (KeepB.setCell _ _ _ (by show w.heap.size + 1 + 1 + 1 + 1 ≠ w.heap.size + 1 + 1 + 1; omega))).trans (KeepB.drew _), DifI.step xi xp hA1 hA2 hA3 (unhide HA).1 hA5 (unhide HN) hWs hlen hin, ?_⟩
        exact ((hb.setCell (p := ⟨w.heap.size + 1 + 1, pre.length, none⟩) (by simp; omega) _).setCell (p := ⟨w.heap.size + 1 + 1 + 1, 0, none⟩) (by simp; omega) _).drew)
  case done =>
    rintro D ys W hD rfl ⟨⟨⟨A, hA1, hA2, hA3, hA4, hA5⟩, hnd, hWs⟩, hb⟩ hK
    have hcF := cell_of_row _ _ 0 _ _ _ hA1
    have hfF := frozen_of_row _ _ 0 _ _ hA1
    have HA := hide (And.intro hA4 hnd)
    clear hA4 hnd
    gi_wp2
    have hK' := (KeepsOthers.setCell W ⟨w.heap.size + 1, 0, none⟩ (.bool true)).same D _ hK rfl
    refine ⟨by simp, .inl ⟨_, _, rfl, run_takeDeferred hK', ?_⟩⟩
    have hc5 := cell_kept (World.cell?_setCell_same' W ⟨w.heap.size + 1, 0, none⟩ (.bool true) (by rw [hcF]; rfl)) (grownBy_putObj' _ D (.deferred none)) (fun r e => by cases e; exact ⟨_, hK', rfl⟩)
    refine ⟨.bool true, ?_, RetIff.yes (unhide HA).2, (hb.setCell (p := ⟨w.heap.size + 1, 0, none⟩) (Nat.le_succ _) _).trans (belowK_b (w := w) (Nat.le_refl _) _ D _ _ (by simp at hD; omega) hK' rfl rfl)⟩
    simp [results, Try.f77, go_sem, hc5]
  case stop =>
    rintro D c' pre W hD hpre ⟨⟨rfl, hnn, hA1⟩, hb⟩ hK
    have hcF := cell_of_row _ _ 0 _ _ _ hA1
    have HA := hide hnn
    clear hnn
    gi_wp2
    refine ⟨by simp, .inl ⟨_, _, rfl, run_takeDeferred hK, ?_⟩⟩
    have hc5 := cell_kept hcF (grownBy_putObj' _ D (.deferred none)) (fun r e => by cases e; exact ⟨_, hK, rfl⟩)
    refine ⟨.bool false, ?_, RetIff.no ?_, hb.trans (belowK_b (w := w) (Nat.le_refl _) W D _ _ (by simp at hD; omega) hK rfl rfl)⟩
    · simp [results, Try.f77, go_sem, hc5]
    · intro hno
      obtain ⟨t, ht⟩ := hpre
      rw [← ht] at hno
      exact unhide HA ((List.nodup_append.1 (by simpa [usedSeqs] using hno : (usedSeqs pre ++ usedSeqs t).Nodup)).1)
end Go.Proofs.Ytaelbmilicfkhaa
