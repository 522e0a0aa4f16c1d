/- Ops: the laws' own marks of them. -/
import Derived.Test.YtalgkmellbamgaaOpT
import Derived.Test.YtalgkmellbamgaaMark
namespace Go.Proofs.Ytalgkmellbamgaa
open Go.RowKit
set_option linter.unusedVariables false
set_option linter.unusedSimpArgs false

def mkOp (k : Int) : Opn := ⟨k, k + 1, ⟨(k + 1 + 1) % 3 == 0, k + 1 + 1 + 1, k + 1 + 1 + 1 + 1, mt (k + 1 + 1 + 1 + 1 + 1).toNat⟩⟩
def markOs (k : Int) (n : Nat) : List Opn := (List.range n).map fun (i : Nat) => mkOp (k + 6 * (i : Int))
def markOTo (k : Int) (xs : List Opn) (j : Nat) : List Opn := markOs k j ++ xs.drop j
theorem markOs_length (k : Int) (n : Nat) : (markOs k n).length = n := by simp [markOs]
theorem markOs_at (k : Int) {n i : Nat} (hi : i < n) : (markOs k n)[i]? = some (mkOp (k + 6 * (i : Int))) := by simp [markOs, hi]
theorem markOTo_zero (k : Int) (xs : List Opn) : markOTo k xs 0 = xs := by simp [markOTo, markOs]
theorem markOTo_full (k : Int) (xs : List Opn) : markOTo k xs xs.length = markOs k xs.length := by simp [markOTo]
theorem markOTo_step (k : Int) (xs : List Opn) {j : Nat} (hj : j < xs.length) : (markOTo k xs (j + 1))[j]? = some (mkOp (k + 6 * (j : Int))) ∧ ∀ i, i ≠ j → (markOTo k xs (j + 1))[i]? = (markOTo k xs j)[i]? := by
  have h1 := markOs_length k (j + 1)
  have h0 := markOs_length k j
  unfold markOTo
  refine ⟨by rw [List.getElem?_append_left (by omega), markOs_at k (by omega)], fun i hi => ?_⟩
  by_cases hlt : i < j
  · rw [List.getElem?_append_left (by omega), List.getElem?_append_left (by omega), markOs_at k (by omega), markOs_at k hlt]
  · rw [List.getElem?_append_right (by omega), List.getElem?_append_right (by omega), h1, h0, List.getElem?_drop, List.getElem?_drop]
    congr 1
    omega

set_option maxRecDepth 100000 in
set_option maxHeartbeats 2000000 in
theorem markCOpS_any (b c : Nat) (xs : List Opn) (n : Nat) (hl : xs.length = n) (k : Int) (w : World) (h : OwnOps w 63 b n xs) (hn : n ≤ 1048576) (h0 : 0 < k) (h1 : k + 6 * n ≤ 1125899906842624) :
    Calls Try.prog 46 #[.slice (some ⟨b, 0, none⟩) n c, .int .i64 k] w fun e w' => e = .returned (.int .i64 (k + 6 * n)) ∧ OwnOps w' 63 b n (markOs k n) ∧ Touch (· = b) w w' := by
  have HL := hide hl
  clear hl
  go_enter Try.func46, Try.ntmps46
  go_wp2
  go_loopw [1, 5] (fun v i wr => ∃ j : Nat, j ≤ n ∧ i = .int .i64 j ∧ v = .int .i64 (k + 6 * (j : Int)) ∧ OwnOps wr 63 b n (markOTo k xs j) ∧ Touch (· = b) w wr) (fun _ i _ => n - (intOf i).toNat)
  case atStart => exact ⟨0, Nat.zero_le _, rfl, by simp, by rw [markOTo_zero]; exact h, Touch.refl _ _⟩
  case round =>
    obtain ⟨j, hj, rfl, rfl, hO, hT⟩ := hrel
    by_cases hlt : j < n
    · obtain ⟨v0, c0⟩ := hO.cells hlt 0 (by omega)
      obtain ⟨v1, c1⟩ := hO.cells hlt 1 (by omega)
      obtain ⟨v2, c2⟩ := hO.cells hlt 2 (by omega)
      obtain ⟨v3, c3⟩ := hO.cells hlt 3 (by omega)
      obtain ⟨v4, c4⟩ := hO.cells hlt 4 (by omega)
      rw [Nat.add_zero] at c0
      have f0 := World.rowIs.frozen hO
      have hlb := World.rowIs.lt hO
      have HO := hide hO
      clear h hO
      go_wp2_with fail
      refine (markText_any _ _ (by omega) (by omega)).mono ?_
      rintro e w1 ⟨rfl, hc⟩
      have h5 := World.rowIs.set (World.rowIs.set (World.rowIs.set (World.rowIs.set (World.rowIs.set (unhide HO) (j * 6) (Value.int .i64 (k + 6 * (j : Int)))) (j * 6 + 1) (Value.int .i64 (k + 6 * (j : Int) + 1))) (j * 6 + 2) (Value.bool ((k + 6 * (j : Int) + 1 + 1) % 3 == 0))) (j * 6 + 3) (Value.int .i64 (k + 6 * (j : Int) + 1 + 1 + 1))) (j * 6 + 4) (Value.int .i64 (k + 6 * (j : Int) + 1 + 1 + 1 + 1))
      have h6 := h5.of_block (hc.block b (by simpa using hlb))
      have c5' := h6.cell (i := j * 6 + 5) (by omega)
      have f5' := h6.frozen
      have H6 := hide h6
      have HC := hide hc
      clear h5 h6 hc c0 c1 c2 c3 c4 f0 HO
      go_wp2
      go_roundw
      case rel =>
        refine ⟨j + 1, by omega, by go_num, by go_num, ?_, ?_⟩
        · refine ((unhide H6).set (j * 6 + 5) _).congr (fun x _ => ?_)
          exact opsF_put (x := mkOp (k + 6 * (j : Int))) _ (markOTo_step k xs (by have := unhide HL; omega)).1 (markOTo_step k xs (by have := unhide HL; omega)).2 x
        · exact ((((((hT.setCell rfl _).setCell rfl _).setCell rfl _).setCell rfl _).setCell rfl _).trans (Touch.of_below (unhide HC))).setCell rfl _
      case measure => simp [intOf]; omega
    · have hk' : j = xs.length := by have := unhide HL; omega
      have hjn : j = n := by omega
      rw [hk', markOTo_full, unhide HL] at hO
      have HO := hide hO
      subst hjn
      clear hO h
      go_wp2
      go_ret
      exact ⟨rfl, unhide HO, hT⟩
end Go.Proofs.Ytalgkmellbamgaa
