/- Chips held in arrays: the program's new chip, and the chip that is told out of the arrays. -/
import Derived.Test.YtaelbmilicfkhaaChecked
import Derived.Test.YtaelbmilicfkhaaNew
import Derived.Test.YtaelbmilicfkhaaIn
import Derived.Test.YtaelbmilicfkhaaCc
import Derived.WalkKit
import Derived.Outline
namespace Go.Proofs.Ytaelbmilicfkhaa
open Go.RowKit
set_option linter.unusedVariables false
set_option linter.unusedSimpArgs false

theorem isBlockCount_any (n : Int) (w : World) : Calls Try.prog 48 #[.int .i64 n] w fun e w' => e = .returned (.bool (decide (4 ≤ n ∧ n ≤ 12))) ∧ w' = w := by
  go_enter Try.func48, Try.ntmps48
  go_wp2_with fail
  refine (within_any _ _ _ _).mono ?_
  rintro e w1 ⟨rfl, rfl⟩
  go_wp2
  go_ret
  exact ⟨by simp, rfl⟩

theorem sizePage : (Try.prog.info? 68).map (·.size) = some 4 := by kernel_rfl

set_option maxRecDepth 100000 in
set_option maxHeartbeats 1000000 in
theorem chip_any (m : CC) (n : Nat) (hm : m.count = n) (h1 : n ≤ 12) (w : World) :
    Calls Try.prog 49 #[.agg (ccA m)] w fun e w' => ∃ g H, e = .returned (.agg #[.slice (some ⟨g, 0, none⟩) n n]) ∧ w.heap.size ≤ g ∧ OwnBlocks w' 85 68 g H n (ccBs m n) ∧ Below w.heap.size w w' := by
  have hc0 := ccA_count m
  rw [hm] at hc0
  have hmk := make_blocks n (by omega)
  go_enter Try.func49, Try.ntmps49
  go_wp2
  clear hmk
  go_loopw [11] (fun i wr => ∃ (k : Nat) (H : Nat → Nat), k ≤ n ∧ i = .int .i64 k ∧ OwnBlocks wr 85 68 (w.heap.size + 1 + 1) H n ((ccBs m n).take k) ∧ Below (w.heap.size + 1 + 1) ((w.alloc (.cells (ccA m) 74)).alloc (.cells #[.slice none 0 0] 27)) wr) (fun i _ => n - (intOf i).toNat)
  case atStart =>
    refine ⟨0, fun _ => 0, Nat.zero_le _, rfl, ?_, (Below.refl _ _).alloc (by simp) _⟩
    have := OwnBlocks.made ((w.alloc (.cells (ccA m) 74)).alloc (.cells #[.slice none 0 0] 27)) 85 68 (fun _ => 0) n
    simpa using this
  case round =>
    obtain ⟨k, H, hk, rfl, hO, hB⟩ := hrel
    have hsz := hB.size
    simp at hsz
    by_cases hlt : k < n
    · have hbox : ∀ o, wr.cell? ⟨w.heap.size, o, none⟩ = (ccA m)[o]? := fun o => by
        rw [hB.cell (p := ⟨w.heap.size, o, none⟩) (by simp <;> omega)]
        simp
      have hgs := hO.row.lt
      obtain ⟨C, hC, hcp⟩ := copy_new Try.prog wr 83 83 3 68 w.heap.size (1 + k * 17 + 1) (madeCells #[.bool false, .int .i64 0, .int .i64 0, .string ByteArray.empty] 16) 68 (ccPs m k) rfl Try.underlying83 sizePage (size_madeCells _ _) (by omega) (fun q p hp j hj => by
        have hq : q < 4 := (List.getElem?_eq_some_iff.1 hp).1
        rw [ccPs_at m k hq] at hp
        cases hp
        rw [hbox, ← Nat.add_assoc]
        exact ccA_page m (by omega) hq hj)
      have hw := ccA_wear m (b := k) (by omega)
      have hmk4 := make_pages4
      have hbk := ccBs_at m hlt
      have c0 := hO.row.cell (i := k * 2) (by omega)
      have c1 := hO.row.cell (i := k * 2 + 1) (by omega)
      have f0 := hO.row.frozen
      have HB := hide hbk
      have HC := hide hC
      clear hbk hC
      have HCP := hide hcp
      obtain ⟨x0, hx0⟩ : ∃ x0, x0 = bksF H (List.take k (ccBs m n)) (k * 2) := ⟨_, rfl⟩
      obtain ⟨x1, hx1⟩ : ∃ x1, x1 = bksF H (List.take k (ccBs m n)) (k * 2 + 1) := ⟨_, rfl⟩
      rw [← hx0] at c0
      rw [← hx1] at c1
      clear hcp hx0 hx1
      go_wp2_with fail
      rw [unhide HCP]
      clear HCP hmk4
      have hcc : ∀ b o, b < wr.heap.size → (wr.alloc (.cells C 68)).cell? ⟨b, o, none⟩ = wr.cell? ⟨b, o, none⟩ := fun b o h => cell_alloc_lt _ _ _ _ h
      have hff : ∀ b o, b < wr.heap.size → (wr.alloc (.cells C 68)).frozen? ⟨b, o, none⟩ = wr.frozen? ⟨b, o, none⟩ := fun b o h => frozen_alloc_lt _ _ _ _ h
      have hgs0 : w.heap.size < wr.heap.size := by omega
      go_wp2
      go_roundw
      case rel =>
        have hO1 : OwnBlocks (wr.alloc (.cells C 68)) _ _ _ _ _ _ := hO.below ((Below.refl _ wr).alloc (Nat.le_refl _) _) (Nat.le_refl _)
        have hp := hO1.put (b := ⟨m.wear k, ccPs m k⟩) (unhide HB) (q := wr.heap.size) (unhide HC) (by omega) (fun i hi => hO.lt (by simp [ccBs_length]; omega))
        rw [World.setCell_alloc_past _ _ _ _ hgs, World.setCell_alloc_past _ _ _ _ (by simpa using hgs)] at hp
        exact ⟨k + 1, _, by omega, by go_num, hp, ((hB.setCell (by simp) _).setCell (by simp) _).alloc (by simp; omega) _⟩
      case measure => simp [intOf]; omega
    · have hk' : k = n := by omega
      subst hk'
      have hO' : OwnBlocks wr 85 68 (w.heap.size + 1 + 1) H k (ccBs m k) := by
        have := hO
        rwa [List.take_of_length_le (by rw [ccBs_length]; exact Nat.le_refl _)] at this
      have hcell : wr.cell? ⟨w.heap.size + 1, 0, none⟩ = some (.slice none 0 0) := by
        rw [hB.cell (p := ⟨w.heap.size + 1, 0, none⟩) (by simp)]
        simp
      have hfro : wr.frozen? ⟨w.heap.size + 1, 0, none⟩ = false := by
        rw [hB.frozen (p := ⟨w.heap.size + 1, 0, none⟩) (by simp)]
        simp
      have HO := hide hO'
      clear hO hO'
      go_wp2
      refine bodyPost_ret (v := .agg #[.slice (some ⟨w.heap.size + 1 + 1, 0, none⟩) k k]) (by simp [results, Try.results49, go_sem, hcell]) rfl ⟨_, H, rfl, by omega, (unhide HO).setOther (by simp) _, ?_⟩
      exact ((((Below.refl _ w).alloc (Nat.le_refl _) _).alloc (by simp) _).trans (hB.mono (by omega))).setCell (by simp) _

/-- A chip without pages. -/
def newCC (n : Int) : CC := ⟨n, fun _ => 0, fun _ _ => zeroPg⟩
theorem zeroCC : Try.zeroCells74 = ccA (newCC 0) := by kernel_rfl
theorem setCC (n : Int) : (Try.zeroCells74.toList.set 0 (.int .i64 n)) = (ccA (newCC n)).toList := by
  rw [zeroCC]
  have hlen : ∀ k, (ccA (newCC k)).toList.length = 205 := fun k => by rw [Array.length_toList, ccA_size]
  apply List.ext_getElem?
  intro i
  have h1 : ∀ k, (ccA (newCC k)).toList[i]? = (ccA (newCC k))[i]? := fun k => by rw [Array.getElem?_toList]
  rw [List.getElem?_set]
  by_cases e : 0 = i
  · subst e
    rw [if_pos rfl, if_pos (by rw [hlen]; omega), h1, ccA_count]
    rfl
  · rw [if_neg e]
    by_cases hi : i < 205
    · rw [h1, h1, ccA_get _ hi, ccA_get _ hi]
      unfold ccF
      simp only [if_neg (show ¬ i = 0 by omega)]
      rfl
    · rw [List.getElem?_eq_none (by rw [hlen]; omega), List.getElem?_eq_none (by rw [hlen]; omega)]

theorem sizeCC' : (Try.prog.info? 74).map (·.size) = some 205 := by kernel_rfl

theorem sizeCC (m : CC) : (Try.prog.info? 74).map (·.size) = some (ccA m).size := by
  rw [ccA_size]
  kernel_rfl

end Go.Proofs.Ytaelbmilicfkhaa
