/- Lists of int64: the laws' own comparison, marks, and whether they are held. -/
import Derived.Test.YtageolbmplhgaaaChecked
import Derived.Test.YtageolbmplhgaaaIntT
import Derived.Test.YtageolbmplhgaaaOwnI
import Derived.Test.YtageolbmplhgaaaOwn
import Derived.WalkKit
import Derived.Outline
namespace Go.Proofs.Ytageolbmplhgaaa
open Go.RowKit
set_option linter.unusedVariables false
set_option linter.unusedSimpArgs false

def marksI (k : Int) (n : Nat) : List Int := (List.range n).map fun (i : Nat) => k + (i : Int)

set_option maxHeartbeats 1000000 in
theorem markInt64S_any (b o c n : Nat) (k : Int) (w : World) (h : IntsMine w b o n) (hn : n ≤ 1048576) (h0 : 0 < k) (h1 : k + n ≤ 1125899906842624) :
    Calls Try.prog 35 #[.slice (some ⟨b, o, none⟩) n c, .int .i64 k] w fun e w' => e = .returned (.int .i64 (k + n)) ∧ IntsAt w' (some ⟨b, o, none⟩) (marksI k n) ∧ Touch (· = b) w w' := by
  go_enter Try.func35, Try.ntmps35
  go_wp2
  go_loopw [1, 5] (fun v i wr => ∃ j : Nat, j ≤ n ∧ i = .int .i64 j ∧ v = .int .i64 (k + (j : Int)) ∧ IntsMine wr b o n ∧ (∀ t, t < j → wr.cell? ⟨b, o + t, none⟩ = some (.int .i64 (k + (t : Int)))) ∧ Touch (· = b) w wr) (fun _ i _ => n - (intOf i).toNat)
  case atStart => exact ⟨0, Nat.zero_le _, rfl, by simp, h, fun t ht => absurd ht (Nat.not_lt_zero _), Touch.refl _ _⟩
  case round =>
    obtain ⟨j, hj, rfl, rfl, hM, hD, hT⟩ := hrel
    by_cases hlt : j < n
    · obtain ⟨⟨x, hx⟩, hf⟩ := hM j hlt
      have HM := hide hM
      have HD := hide hD
      clear h hM hD
      go_wp2
      go_roundw
      case rel =>
        have hc : ∀ t, t ≠ j → (wr.setCell ⟨b, o + j, none⟩ (.int .i64 (k + (j : Int)))).cell? ⟨b, o + t, none⟩ = wr.cell? ⟨b, o + t, none⟩ := fun t ht => World.cell?_setCell_other _ _ _ _ (by simp <;> omega)
        have hs : (wr.setCell ⟨b, o + j, none⟩ (.int .i64 (k + (j : Int)))).cell? ⟨b, o + j, none⟩ = some (.int .i64 (k + (j : Int))) := World.cell?_setCell_same' _ _ _ (by rw [hx]; rfl)
        refine ⟨j + 1, by omega, by go_num, by go_num, fun i hi => ?_, fun t ht => ?_, hT.setCell rfl _⟩
        · obtain ⟨⟨y, hy⟩, hfy⟩ := unhide HM i hi
          refine ⟨?_, by simpa using hfy⟩
          by_cases e : i = j
          · subst e; exact ⟨_, hs⟩
          · exact ⟨y, (hc i e).trans hy⟩
        · by_cases e : t = j
          · subst e; exact hs
          · exact (hc t e).trans (unhide HD t (by omega))
      case measure => simp [intOf]; omega
    · have hk' : j = n := by omega
      subst hk'
      have HD := hide hD
      clear h hM hD
      go_wp2
      go_ret
      refine ⟨rfl, fun i x hx => ⟨b, o, rfl, ?_⟩, hT⟩
      have hi : i < j := by have := (List.getElem?_eq_some_iff.1 hx).1; simpa [marksI] using this
      simp [marksI, hi] at hx
      subst hx
      exact unhide HD i hi
end Go.Proofs.Ytageolbmplhgaaa
