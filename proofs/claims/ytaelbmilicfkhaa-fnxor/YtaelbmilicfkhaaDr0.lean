/- A reader is opened over a code; whether a code is too long. -/
import Derived.Test.YtaelbmilicfkhaaChecked
import Derived.Test.YtaelbmilicfkhaaRd
import Derived.WalkKit
import Derived.Outline
import Derived.ProofKit
import Derived.OpenShut
namespace Go.Proofs.Ytaelbmilicfkhaa
open Go.RowKit Go.ChangeShapes Go.WideShapes
set_option linter.unusedVariables false
set_option linter.unusedSimpArgs false

/-- A code of n bytes from the address a on. -/
def CodeAt (w : World) (a : Option Addr) (n : Nat) : Prop :=
  ∀ i, i < n → ∃ b o x, a = some ⟨b, o, none⟩ ∧ w.cell? ⟨b, o + i, none⟩ = some (.int .u8 x) ∧ 0 ≤ x ∧ x < 256

theorem CodeAt.below {w w' : World} {a : Option Addr} {n B : Nat} (h : CodeAt w a n) (hb : Below B w w') (hB : w.heap.size ≤ B) : CodeAt w' a n := by
  intro i hi
  obtain ⟨b, o, x, ha, hc, hx⟩ := h i hi
  exact ⟨b, o, x, ha, (hb.cell (p := ⟨b, o + i, none⟩) (Nat.lt_of_lt_of_le (World.block_lt_of_cell? _ _ hc) hB)).trans hc, hx⟩

theorem big_any (a : Option Addr) (n c : Nat) (w : World) (hn : n ≤ 9223372036854775807) :
    Calls Try.prog 13 #[.slice a n c] w fun e w' => e = .returned (.bool (decide ((1048576 : Int) < (n : Int)))) ∧ w' = w := by
  go_enter Try.func13, Try.ntmps13
  by_cases h : (1048576 : Int) < (n : Int)
  · go_wp2
    go_ret
    exact ⟨by simp; omega, rfl⟩
  · go_wp2
    go_ret
    exact ⟨by simp; omega, rfl⟩

theorem l1Open_any (a : Option Addr) (n c : Nat) (w : World) (h : CodeAt w a n) (hn : n ≤ 1048576) :
    Calls Try.prog 46 #[.slice a n c] w fun e w' => e = .returned (.pointer (some ⟨w.heap.size, 0, none⟩)) ∧ RdAt w' w.heap.size ∧ Below w.heap.size w w' := by
  go_enter Try.func46, Try.ntmps46
  go_wp2
  go_ret
  have hB : ∀ o, Below w.heap.size w (w.alloc o) := fun o => (Below.refl _ _).alloc (Nat.le_refl _) _
  refine ⟨rfl, ⟨a, n, c, 0, by simp, by simp, ⟨fun i => ?_, fun i => ?_⟩, Nat.zero_le _, hn, fun i hi => ?_⟩, hB _⟩
  · exact (World.rowIs_alloc w #[.slice a n c, .int .i64 0] 98 (fun i => if i = 0 then .slice a n c else .int .i64 0) (fun j hj => by
      have h2 : j = 0 ∨ j = 1 := by simp at hj; omega
      rcases h2 with rfl | rfl <;> rfl)).frozen i
  · exact (cell_of_row _ _ (i + 2) _ _ _ (Go.Deep.blk_alloc_new _ _)).trans (by simp)
  · obtain ⟨b, o, x, ha, hc, hx⟩ := (h.below (hB _) (Nat.le_refl _)) i hi
    obtain ⟨b', o', x', ha', hc', _⟩ := h i hi
    rw [ha] at ha'
    cases ha'
    exact ⟨b, o, x, ha, World.block_lt_of_cell? _ _ hc', hc, hx⟩

theorem open_code {H : Type} {enc : TypeId × Value → H} {P : Program} {w : World} {base b0 : Nat} {spare : Nat → Bool} {held : Bool} {t e : TypeId} {v : Value} {d : DataW H} {p : List MemPlace}
    (ht : P.underlying t = some (.slice e)) (he : P.underlying e = some (.int .u8)) (hc : P.cellsOf e = 1) (hv : Value.okWide P w .any b0 t v) (h : DataW.Trod enc P w base spare held t v d p) :
    ∃ (a : Option Addr) (n c : Nat), v = .slice a n c ∧ CodeAt w a n ∧ n ≤ 9223372036854775807 := by
  obtain ⟨a, len, cap, rfl⟩ := okWide_slice ht hv
  obtain ⟨fuel, hf⟩ := h
  rcases open_ints ht he hc hf with ⟨h0, _⟩ | ⟨a', len', cap', zs, h0, hb, hl, hm, hz, _, hcell, hwf⟩
  · cases h0
    exact ⟨none, 0, 0, rfl, fun i hi => absurd hi (Nat.not_lt_zero _), by omega⟩
  · cases h0
    have hle : len ≤ zs.length := by rw [hz]; split <;> omega
    refine ⟨some a', len, cap, rfl, fun i hi => ?_, by simp [maxLen] at hm; omega⟩
    have h1 := hcell i (by omega)
    obtain ⟨b, o, spot⟩ := a'
    have hs : spot = none := by have := World.cell?_spot (hcell 0 (by omega)); simpa [Addr.add] using this
    subst hs
    rw [add_plain] at h1
    obtain ⟨x, hx⟩ := getElem?_ex (l := zs) (k := i) (by omega)
    have hw := hwf x (List.mem_of_getElem? hx)
    refine ⟨b, o, x, rfl, by rw [h1]; simp [hx], ?_⟩
    have e0 : IntKind.u8.min = 0 := by decide
    have e1 : IntKind.u8.max = 255 := by decide
    simp only [Lit.wf, Bool.and_eq_true, decide_eq_true_eq, e0, e1] at hw
    omega

end Go.Proofs.Ytaelbmilicfkhaa
