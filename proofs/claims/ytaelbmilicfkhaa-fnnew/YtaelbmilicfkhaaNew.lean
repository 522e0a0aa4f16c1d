/- New chips: the model's and the program's. -/
import Derived.Test.YtaelbmilicfkhaaChecked
import Derived.Test.YtaelbmilicfkhaaSpc
import Derived.Test.YtaelbmilicfkhaaIn
import Derived.Test.YtaelbmilicfkhaaTo
import Derived.WalkKit
import Derived.Outline
import Derived.Deep.RegionHeld3
import Derived.Deep.RegionLaw
namespace Go.Proofs.Ytaelbmilicfkhaa
open Go.RowKit
set_option linter.unusedVariables false
set_option linter.unusedSimpArgs false

set_option maxRecDepth 100000 in
set_option maxHeartbeats 1000000 in
theorem specChipNew_yes (n : Nat) (w : World) (h1 : 4 ≤ n) (h2 : n ≤ 12) :
    Calls Try.prog 51 #[.int .i64 n] w fun e w' => ∃ a c, e = .returned (.tuple #[.agg #[.slice a n c], .bool true]) ∧ BlocksAt w' a (List.replicate n zeroBk) ∧ Below w.heap.size w w' := by
  go_enter Try.func51, Try.ntmps51
  go_wp2_with fail
  refine (l1In_any _ _ _ _).mono ?_
  rintro e w1 ⟨rfl, rfl⟩
  have hd : decide (4 ≤ (n : Int) ∧ (n : Int) ≤ 12) = true := by simp; omega
  rw [hd]
  go_wp2
  go_loopw [5] (fun i wr => ∃ (k : Nat) (v : Value) (Q C : Nat → Nat), k ≤ n ∧ i = .int .i64 k ∧ wr.heap[w.heap.size + 1]? = some (.cells #[v] 27 (0, 0)) ∧ SpecBlocks wr 85 68 (w.heap.size + 2) v Q C (List.replicate k zeroBk) ∧ Below (w.heap.size + 1) (w.alloc (.cells #[.slice none 0 0] 27)) wr ∧ w.heap.size + 2 ≤ wr.heap.size) (fun i _ => n - (intOf i).toNat)
  case atStart =>
    refine ⟨0, .slice none 0 0, fun _ => 0, fun _ => 0, Nat.zero_le _, rfl, ?_, SpecBlocks.nil _ _ _ _ _ _, ?_, by simp⟩
    · exact heap_alloc2_new _ _ _
    · exact (Below.refl _ _).alloc (by simp) _
  case round =>
    obtain ⟨k, v, Q, C, hk, rfl, hv, hS, hB, hsz⟩ := hrel
    by_cases hlt : k < n
    · have hcv := cell_of_one hv
      have hfv := free_of_one hv
      have hvl : w.heap.size + 1 < wr.heap.size := by omega
      have hne : some (w.heap.size + 1) ≠ v.ownBlock := fun e => by have := (hS.row.lt _ e.symm).1; omega
      have hR : wr.ownsRow (w.heap.size + 2) 85 2 v k (bkCells Q C 0 (List.replicate k zeroBk)) := by have := hS.row; rwa [List.length_replicate] at this
      have HS := hide hS
      clear hS
      obtain ⟨X, hX⟩ : ∃ X, X = bkCells Q C 0 (List.replicate k zeroBk) := ⟨_, rfl⟩
      rw [← hX] at hR
      have HX := hide hX
      clear hX
      obtain ⟨i0, hi, hz0, hz1, hz2⟩ := info_parts infoBlock
      have hvl0 : w.heap.size < wr.heap.size := by omega
      have hmk := make_pages4
      go_wp2
      go_region_law
        (first | (refine step_append_lies _ rfl (.tmp 17) (.tmp 20) 25 rfl (w.heap.size + 2) 85 i0 _ 2 32 Try.underlying25 hi hz0 hz1 hz2 rfl (by decide) v k X (by simp [Act.eval]) (by exact (hR.alloc _).alloc _) ⟨wr.heap.size + 1, 0, none⟩ 1 1 [.int .i64 0, .slice (some ⟨wr.heap.size, 0, none⟩) 4 4] (by simp [Act.eval]) rfl (World.news_of_block (cs := #[.int .i64 0, .slice (some ⟨wr.heap.size, 0, none⟩) 4 4]) (t := 85) (fr := (0, 0)) (by exact heap_alloc2_new _ _ _)) (by simp [Value.oneCell']) (by omega) (by unfold maxLen; omega) (by omega) (by simp; omega) (wr.heap.size + 1 + 1) (by simp) ?_; intro g cap w1 hown hgrow hat hlt1; have hk1 : w1.cell? ⟨w.heap.size + 1, 0, none⟩ = some v := (hgrow.cell_far ⟨w.heap.size + 1, 0, none⟩ (by simp; omega) hne).trans (by simp [*, frozen_alloc_lt, cell_alloc_lt, frozen_drew, cell_drew]); have hk2 : w1.frozen? ⟨w.heap.size + 1, 0, none⟩ = false := (hgrow.frozen_far ⟨w.heap.size + 1, 0, none⟩ (by simp; omega) hne).trans (by simp [*, frozen_alloc_lt, cell_alloc_lt, frozen_drew, cell_drew])))
      all_goals go_wp2
      all_goals
        go_roundw
        case rel =>
          rw [unhide HX] at hown
          obtain ⟨Q', C', h2⟩ := newStep (unhide HS) hsz hown hgrow hat
          have hbl : w1.heap[w.heap.size + 1]? = some (.cells #[v] 27 (0, 0)) := by
            rw [hgrow.block _ (by simp; omega) hne]
            show (((wr.heap.push _).push _))[w.heap.size + 1]? = _
            rw [Array.getElem?_push, if_neg (by simp; omega), Array.getElem?_push, if_neg (by omega)]
            exact hv
          have hsz1 := hgrow.size
          simp at hsz1
          refine ⟨k + 1, _, Q', C', by omega, by go_num, one_setCell hbl, h2.setLow (by show w.heap.size + 1 < w.heap.size + 2; omega) _, ?_, by simp [World.setCell]; omega⟩
          refine (Below.setCell ?_ (by simp) _)
          refine Below.grown (((hB.alloc (by omega) _).alloc (by simp; omega) _).drew) hgrow (by simp; omega) (fun j e => ?_)
          have := ((unhide HS).row.lt j e).1
          omega
        case measure => simp [intOf]; omega
    · have hk' : k = n := by omega
      subst hk'
      obtain ⟨a, c, rfl, hBA⟩ := hS.form
      have hcv := cell_of_one hv
      have hfv := free_of_one hv
      have hcell0 : wr.cell? ⟨w.heap.size, 0, none⟩ = some (.slice none 0 0) := by rw [hB.cell (p := ⟨w.heap.size, 0, none⟩) (by simp)]; simp
      have hfr0 : wr.frozen? ⟨w.heap.size, 0, none⟩ = false := by rw [hB.frozen (p := ⟨w.heap.size, 0, none⟩) (by simp)]; simp
      have HBA := hide hBA
      have HSS := hide hS
      clear hBA hS
      simp only [List.length_replicate] at hcv hv
      go_wp2
      refine bodyPost_ret (v := .tuple #[.agg #[.slice a k c], .bool true]) (by simp [results, Try.results51, go_sem, hcell0]) rfl ⟨a, c, rfl, ?_, ?_⟩
      · have hx : SpecBlocks (wr.setCell ⟨w.heap.size, 0, none⟩ (.slice a k c)) _ _ _ _ _ _ _ := (unhide HSS).setLow (a := ⟨w.heap.size, 0, none⟩) (by show w.heap.size < w.heap.size + 2; omega) (.slice a k c)
        obtain ⟨a', c', e', hB'⟩ := hx.form
        simp at e'
        obtain ⟨rfl, _⟩ := e'
        exact hB'
      · refine (((Below.refl _ w).alloc (Nat.le_refl _) _).trans (hB.mono (by omega))).setCell (by simp) _

theorem specChipNew_no (n : Int) (w : World) (h : ¬ (4 ≤ n ∧ n ≤ 12)) :
    Calls Try.prog 51 #[.int .i64 n] w fun e w' => e = .returned (.tuple #[.agg #[.slice none 0 0], .bool false]) ∧ Below w.heap.size w w' := by
  go_enter Try.func51, Try.ntmps51
  go_wp2_with fail
  refine (l1In_any _ _ _ _).mono ?_
  rintro e w1 ⟨rfl, rfl⟩
  have hd : decide (4 ≤ n ∧ n ≤ 12) = false := by simpa using h
  rw [hd]
  go_wp2
  refine bodyPost_ret (v := .tuple #[.agg #[.slice none 0 0], .bool false]) (by simp [results, Try.results51, go_sem]) rfl ⟨rfl, ?_⟩
  repeat (first | exact Below.refl _ _ | refine Below.drew ?_ | refine Below.alloc ?_ (by simp <;> omega) _ | refine Below.setCell ?_ (by simp <;> omega) _)
end Go.Proofs.Ytaelbmilicfkhaa
