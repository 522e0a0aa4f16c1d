/- Whether two chips, two members are the same: the laws' own sameChip and sameFtl, over two that are. -/
import Derived.Test.YtaelbmilicfkhaaSameI
import Derived.Test.YtaelbmilicfkhaaSamK
import Derived.Test.YtaelbmilicfkhaaHasSeq
import Derived.Test.YtaelbmilicfkhaaLawC
import Derived.Test.YtaelbmilicfkhaaMapS
import Derived.BigQuiet
namespace Go.Proofs.Ytaelbmilicfkhaa
open Go.RowKit
set_option linter.unusedVariables false
set_option linter.unusedSimpArgs false

set_option maxRecDepth 100000 in
set_option maxHeartbeats 2000000 in
theorem sameFtl_same (a1 a2 : Option Addr) (c1 c2 : Nat) (bs : List Bk) (n : Nat) (hl : bs.length = n) (m1 m2 : Option Addr) (d1 d2 : Nat) (L : List Int) (mn : Nat) (hL : L.length = mn) (seq o : Int) (w : World) (h1 : BlocksAt w a1 bs) (h2 : BlocksAt w a2 bs) (hn : Lens 1048576 bs) (i1 : IntsAt w m1 L) (i2 : IntsAt w m2 L) (hmn : mn ≤ 1048576) :
    Calls Try.prog 19 #[.agg #[.slice a1 n c1, .slice m1 mn d1, .int .i64 seq, .int .i64 o], .agg #[.slice a2 n c2, .slice m2 mn d2, .int .i64 seq, .int .i64 o]] w fun e w' => e = .returned (.bool true) ∧ Below w.heap.size w w' := by
  have hb0 : ∀ o1 o2, Below w.heap.size w ((w.alloc o1).alloc o2) := fun o1 o2 => ((Below.refl _ w).alloc (Nat.le_refl _) _).alloc (by simp) _
  have he1 : (seq == seq) = true := by simp
  have he2 : (o == o) = true := by simp
  go_enter Try.func19, Try.ntmps19
  go_wp2_with fail
  refine (sameInts_same m1 m2 d1 d2 L mn hL _ (i1.below (hb0 _ _) (Nat.le_refl _)) (i2.below (hb0 _ _) (Nat.le_refl _)) hmn).mono ?_
  rintro e w1 ⟨rfl, hB1⟩
  have hs1 := hB1.size
  simp at hs1
  have x0 : w1.cell? ⟨w.heap.size, 0, none⟩ = some (.slice a1 n c1) := by
    rw [hB1.cell (p := ⟨w.heap.size, 0, none⟩) (by simp; omega), cell_alloc_lt _ _ _ _ (by simp)]
    simp
  have y0 : w1.cell? ⟨w.heap.size + 1, 0, none⟩ = some (.slice a2 n c2) := by
    rw [hB1.cell (p := ⟨w.heap.size + 1, 0, none⟩) (by simp), cell_of_row _ _ 0 _ _ _ (heap_alloc2_new _ _ _)]
    rfl
  have hW1 : Below w.heap.size w w1 := (hb0 _ _).trans (hB1.mono (by simp; omega))
  have H1 := hide (h1.below hW1 (Nat.le_refl _))
  have H2 := hide (h2.below hW1 (Nat.le_refl _))
  have HL := hide hl
  have HN := hide hn
  clear h1 h2 i1 i2 hB1 hb0 hn hl hL
  go_wp2_with fail
  refine (sameChip_same a1 a2 c1 c2 bs n (unhide HL) _ (unhide H1) (unhide H2) (unhide HN)).mono ?_
  rintro e w2 ⟨rfl, hB2⟩
  have hW2 := hW1.trans (hB2.mono hW1.size)
  clear x0 y0 hB2 hW1 H1 H2
  go_wp2
  go_ret
  exact ⟨rfl, hW2⟩
end Go.Proofs.Ytaelbmilicfkhaa
