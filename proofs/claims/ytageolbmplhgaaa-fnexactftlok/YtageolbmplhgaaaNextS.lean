/- The model's NextOf. -/
import Derived.Test.YtageolbmplhgaaaNextP
import Derived.Test.YtageolbmplhgaaaSpecOk
import Derived.Test.YtageolbmplhgaaaNew
import Derived.WalkKit
import Derived.Outline
namespace Go.Proofs.Ytageolbmplhgaaa
open Go.RowKit
set_option linter.unusedVariables false
set_option linter.unusedSimpArgs false

set_option maxHeartbeats 1000000 in
theorem l1Next_any (x : Int) (pa : Option Addr) (pc : Nat) (ps : List Pg) (w : World) (h : PagesAt w pa ps) (hn : ps.length ≤ 9223372036854775807) :
    Calls Try.prog 65 #[.agg #[.int .i64 x, .slice pa ps.length pc]] w fun e w' => ∃ r : Int, e = .returned (.int .i64 r) ∧ NextIs (fun k => (pagesF ps k).used) ps.length r ∧ Below w.heap.size w w' := by
  have hb0 : ∀ o, Below w.heap.size w (w.alloc o) := fun o => (Below.refl _ w).alloc (Nat.le_refl _) _
  have hp := fun o => h.below (hb0 o) (Nat.le_refl _)
  go_enter Try.func65, Try.ntmps65
  go_wp2
  go_loop [3] (fun i => ∃ k : Nat, k ≤ ps.length ∧ i = .int .i64 k ∧ ∀ j, j < k → (pagesF ps j).used = true) (fun i => ps.length - (intOf i).toNat)
  case atStart => exact ⟨0, Nat.zero_le _, rfl, fun j hj => absurd hj (Nat.not_lt_zero _)⟩
  case round =>
    obtain ⟨k, hk, rfl, hall⟩ := hrel
    have HA := hide hall
    clear hall
    by_cases hlt : k < ps.length
    · obtain ⟨p, hpk⟩ := getElem?_ex hlt
      obtain ⟨b, o, rfl, c0, _⟩ := h k p hpk
      have hbl : b < w.heap.size := World.block_lt_of_cell? _ _ c0
      have hu : (pagesF ps k).used = p.used := by simp [pagesF, hpk]
      have HU := hide hu
      clear hu hp h hb0
      obtain ⟨u, l, s, d⟩ := p
      simp only at c0
      cases u with
      | true =>
        go_wp2
        go_round
        case rel =>
          refine ⟨k + 1, by omega, by go_num, fun j hj => ?_⟩
          by_cases e : j = k
          · subst e; exact unhide HU
          · exact unhide HA j (by omega)
        case measure => simp [intOf]; omega
      | false =>
        go_wp2
        go_ret
        exact ⟨_, rfl, .inl ⟨k, hlt, by go_num, unhide HU, unhide HA⟩, (Below.refl _ w).alloc (Nat.le_refl _) _⟩
    · have hkn : k = ps.length := by omega
      subst hkn
      clear hp
      go_wp2
      go_ret
      exact ⟨_, rfl, .inr ⟨rfl, unhide HA⟩, hb0 _⟩

end Go.Proofs.Ytageolbmplhgaaa
