/- The program's ChipNew. -/
import Derived.Test.YtaelbmilicfkhaaNewI
import Derived.Test.YtaelbmilicfkhaaChecked
import Derived.Test.YtaelbmilicfkhaaNew
import Derived.Test.YtaelbmilicfkhaaIn
import Derived.Test.YtaelbmilicfkhaaCc
import Derived.WalkKit
import Derived.Outline
namespace Go.Proofs.Ytaelbmilicfkhaa
open Go.RowKit
set_option linter.unusedVariables false
set_option linter.unusedSimpArgs false

set_option maxRecDepth 100000 in
set_option maxHeartbeats 1000000 in
theorem implChipNew_yes (n : Nat) (w : World) (h1 : 4 ≤ n) (h2 : n ≤ 12) :
    Calls Try.prog 15 #[.int .i64 n] w fun e w' => ∃ g H, e = .returned (.tuple #[.agg #[.slice (some ⟨g, 0, none⟩) n n], .bool true]) ∧ w.heap.size ≤ g ∧ OwnBlocks w' 85 68 g H n (List.replicate n zeroBk) ∧ Below w.heap.size w w' := by
  have hst := fun o => storeNew Try.prog (w.alloc o) (w.heap.size + 1) (by simp) Try.zeroCells74 74 (Try.zeroCells74.toList.set 0 (.int .i64 n)) (by simp) (by rw [setCC]; exact ccA_one _)
  rw [setCC] at hst
  simp only [Array.toArray_toList] at hst
  rw [← setCC] at hst
  go_enter Try.func15, Try.ntmps15
  go_wp2_with fail
  refine (isBlockCount_any _ _).mono ?_
  rintro e w1 ⟨rfl, rfl⟩
  have hd : decide (4 ≤ (n : Int) ∧ (n : Int) ≤ 12) = true := by simp; omega
  rw [hd]
  go_wp2_with fail
  refine wp_load_row 74 _ rfl (w.heap.size + 1) rfl 74 (ccA (newCC n)) (0, 0) _ (heap_alloc2_new _ _ _) Try.underlying74 rfl (sizeCC _) ?_
  go_wp2_with fail
  have hb0 : ∀ o1 o2, Below w.heap.size w ((w.alloc o1).alloc o2) := fun o1 o2 => ((Below.refl _ w).alloc (Nat.le_refl _) _).alloc (by simp) _
  refine (chip_any (newCC n) n rfl h2 _).mono ?_
  rintro e w1 ⟨g, H, rfl, hg, hO, hc⟩
  obtain ⟨hcc, hcf⟩ := bcell hc
  simp at hg
  have hcell : w1.cell? ⟨w.heap.size, 0, none⟩ = some (.slice none 0 0) := by
    rw [hcc _ _ (by simp <;> omega)]
    simp
  have hfro : w1.frozen? ⟨w.heap.size, 0, none⟩ = false := by
    rw [hcf _ _ (by simp <;> omega)]
    simp
  have hO' : OwnBlocks w1 85 68 g H n (List.replicate n zeroBk) := by
    have e : ccBs (newCC n) n = List.replicate n zeroBk := by
      unfold ccBs
      apply List.ext_getElem?
      intro i
      by_cases hi : i < n
      · simp [hi, newCC, ccPs, zeroBk]
      · simp [hi]
    rwa [e] at hO
  have HO := hide hO'
  clear hO hO' hst hcc hcf
  go_wp2
  refine bodyPost_ret (v := .tuple #[.agg #[.slice (some ⟨g, 0, none⟩) n n], .bool true]) (by simp [results, Try.results15, go_sem, hcell]) rfl ⟨g, H, rfl, by omega, (unhide HO).setOther (by simp; omega) _, ?_⟩
  exact ((hb0 _ _).trans (hc.mono (by simp <;> omega))).setCell (by simp) _

theorem implChipNew_no (n : Int) (w : World) (h : ¬ (4 ≤ n ∧ n ≤ 12)) :
    Calls Try.prog 15 #[.int .i64 n] w fun e w' => e = .returned (.tuple #[.agg #[.slice none 0 0], .bool false]) ∧ Below w.heap.size w w' := by
  go_enter Try.func15, Try.ntmps15
  go_wp2_with fail
  refine (isBlockCount_any _ _).mono ?_
  rintro e w1 ⟨rfl, rfl⟩
  have hd : decide (4 ≤ n ∧ n ≤ 12) = false := by simpa using h
  rw [hd]
  go_wp2
  refine bodyPost_ret (v := .tuple #[.agg #[.slice none 0 0], .bool false]) (by simp [results, Try.results15, go_sem]) rfl ⟨rfl, ?_⟩
  repeat (first | exact Below.refl _ _ | refine Below.drew ?_ | refine Below.alloc ?_ (by simp <;> omega) _ | refine Below.setCell ?_ (by simp <;> omega) _)
end Go.Proofs.Ytaelbmilicfkhaa
