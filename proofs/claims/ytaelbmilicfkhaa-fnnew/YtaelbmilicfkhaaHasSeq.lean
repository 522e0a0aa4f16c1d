/- The program's answer whether a number is a used page's. -/
import Derived.Test.YtaelbmilicfkhaaDiffer
namespace Go.Proofs.Ytaelbmilicfkhaa
open Go.RowKit Go.Shelf
set_option linter.unusedVariables false
set_option linter.unusedSimpArgs false
attribute [local go_sem] Oper.semAt_some

def HasI (w : World) (s : Int) (pre : List (Int × Pg)) (W : World) : Prop :=
  W.heap[w.heap.size + 1]? = some (.cells #[Value.int .i64 s] 2 (0, 0)) ∧ W.heap[w.heap.size + 1 + 1]? = some (.cells #[Value.bool false] 4 (0, 0)) ∧ s ∉ usedSeqs pre ∧ w.heap.size + 1 + 1 + 1 < W.heap.size
def HasX (w : World) (s : Int) (c : Code) (pre : List (Int × Pg)) (W : World) : Prop :=
  c = .ret ∧ s ∈ usedSeqs pre ∧ W.heap[w.heap.size + 1 + 1]? = some (.cells #[Value.bool true] 4 (0, 0))
theorem HasI.own (w : World) (s : Int) : Own (HasI w s) := fun p W W' row ⟨h1, h2, h3, h4⟩ hg hr => ⟨blk_kept h1 hg hr, blk_kept h2 hg hr, h3, Nat.lt_of_lt_of_le h4 hg.size⟩
theorem HasX.own (w : World) (s : Int) (c : Code) : Own (HasX w s c) := fun p W W' row ⟨h1, h2, h3⟩ hg hr => ⟨h1, h2, blk_kept h3 hg hr⟩

theorem heap3 (w : World) (o1 o2 o3 : Obj) :
    (((w.alloc o1).alloc o2).alloc o3).heap[w.heap.size]? = some o1 ∧ (((w.alloc o1).alloc o2).alloc o3).heap[w.heap.size + 1]? = some o2 ∧ (((w.alloc o1).alloc o2).alloc o3).heap[w.heap.size + 1 + 1]? = some o3 := by
  have e : (((w.alloc o1).alloc o2).alloc o3).heap = ((w.heap.push o1).push o2).push o3 := rfl
  rw [e]
  simp only [Array.getElem?_push, Array.size_push]
  refine ⟨?_, ?_, ?_⟩
  · rw [if_neg (by omega), if_neg (by omega), if_pos trivial]
  · rw [if_neg (by omega), if_pos trivial]
  · rw [if_pos trivial]

end Go.Proofs.Ytaelbmilicfkhaa
