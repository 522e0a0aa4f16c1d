/- 2 texts in one. -/
import Derived.Test.YtalgkmellbamgaaGreatChecked
import Derived.Test.YtalgkmellbamgaaGreatG28
import Derived.WalkKit
import Derived.Outline
import Derived.Test.YtalgkmellbamgaaGreatG27

/- Lists of texts: the laws' own copy, comparison and size. -/
namespace Go.Proofs.YtalgkmellbamgaaGreat
open Go.RowKit
set_option linter.unusedVariables false
set_option linter.unusedSimpArgs false

def textF (T : List ByteArray) (i : Nat) : Value := .string ((T[i]?).getD ByteArray.empty)

/-- A row of its own of n texts, T ahead and empty ones behind. -/
def RowTexts (w : World) (t : TypeId) (b n : Nat) (T : List ByteArray) : Prop := w.rowIs b t n (textF T)

theorem RowTexts.textsAt {w : World} {t : TypeId} {b n : Nat} {T : List ByteArray} (h : RowTexts w t b n T) (hn : T.length ≤ n) : TextsAt w (some ⟨b, 0, none⟩) T := by
  intro i x hx
  have hi := (List.getElem?_eq_some_iff.1 hx).1
  refine ⟨b, 0, rfl, ?_⟩
  have := World.rowIs.cell h (i := i) (by omega)
  simpa [textF, hx] using this

theorem RowTexts.put {w : World} {t : TypeId} {b n k : Nat} {T : List ByteArray} {x : ByteArray} (h : RowTexts w t b n (T.take k)) (hx : T[k]? = some x) :
    RowTexts (w.setCell ⟨b, k, none⟩ (.string x)) t b n (T.take (k + 1)) := by
  have hk := (List.getElem?_eq_some_iff.1 hx).1
  refine World.rowIs.congr (World.rowIs.set h k (.string x)) fun i hi => ?_
  unfold textF
  by_cases e : i = k
  · subst e; simp [List.getElem?_take, hx]
  · by_cases l : i < k
    · simp [e, List.getElem?_take, l, Nat.lt_succ_of_lt l]
    · have l2 : ¬ i < k + 1 := by omega
      simp [e, List.getElem?_take, l, l2]

theorem RowTexts.made (w : World) (t : TypeId) (n : Nat) : RowTexts (w.alloc (.cells (madeCells #[.string ByteArray.empty] n) t)) t w.heap.size n [] :=
  (World.rowIs_made w (.string ByteArray.empty) n t).congr fun i hi => by simp [textF]

theorem infoTextT : (Tryz.prog.info? 9).map (fun i => (i.zero, i.size, i.bytes)) = some (some (.string ByteArray.empty), 1, 16) := by kernel_rfl

theorem make_texts (n : Nat) (hn : n ≤ 1048576) (w : World) :
    (Instr.makeSlice 38 (.int .i64 (n : Int)) (.int .i64 (n : Int))).run Tryz.prog w = .ok (.slice (some ⟨w.heap.size, 0, none⟩) n n) (w.alloc (.cells (madeCells #[.string ByteArray.empty] n) 9)) := by
  obtain ⟨i, hi, hz⟩ := Option.map_eq_some_iff.1 infoTextT
  simp only [Prod.mk.injEq] at hz
  obtain ⟨hz0, hz1, hz2⟩ := hz
  have h := run_make (P := Tryz.prog) w 38 9 i _ Tryz.underlying38 hi hz0 .i64 .i64 (n : Int) (n : Int) (by omega) (Int.le_refl _) (by rw [hz2]; omega) (by omega)
  rw [hz1] at h
  simpa [Value.cells] using h

set_option maxHeartbeats 1000000 in
theorem toStringS_any (a : Option Addr) (c : Nat) (T : List ByteArray) (n : Nat) (hl : T.length = n) (w : World) (h : TextsAt w a T) (hn : n ≤ 1048576) :
    Calls Tryz.prog 24 #[.slice a n c] w fun e w' => e = .returned (.slice (some ⟨w.heap.size, 0, none⟩) n n) ∧ RowTexts w' 9 w.heap.size n T ∧ Below w.heap.size w w' := by
  have hmk := make_texts n hn
  go_enter Tryz.func24, Tryz.ntmps24
  go_wp2
  clear hmk
  go_loopw [4] (fun i wr => ∃ k : Nat, k ≤ n ∧ i = .int .i64 k ∧ RowTexts wr 9 w.heap.size n (T.take k) ∧ Below w.heap.size w wr) (fun i _ => n - (intOf i).toNat)
  case atStart => exact ⟨0, Nat.zero_le _, rfl, by simpa using RowTexts.made w _ _, (Below.refl _ _).alloc (Nat.le_refl _) _⟩
  case round =>
    obtain ⟨k, hk, rfl, hO, hB⟩ := hrel
    by_cases hlt : k < n
    · obtain ⟨x, hx⟩ := getElem?_ex (l := T) (k := k) (by omega)
      obtain ⟨b1, o1, rfl, g1⟩ := (h.below hB (Nat.le_refl _)) k x hx
      have c0 := World.rowIs.cell hO (i := k) hlt
      have f0 := World.rowIs.frozen hO
      have HX := hide hx
      have HO := hide hO
      clear hx h hO hl
      go_wp2
      go_roundw
      case rel => exact ⟨k + 1, by omega, by go_num, (unhide HO).put (unhide HX), hB.setCell (Nat.le_refl _) _⟩
      case measure => simp [intOf]; omega
    · have hk' : k = T.length := by omega
      subst hk'
      rw [List.take_length] at hO
      have HO := hide hO
      clear hO h
      go_wp2
      go_ret
      exact ⟨rfl, unhide HO, hB⟩

set_option maxHeartbeats 1000000 in
theorem eqStringS_same (a1 a2 : Option Addr) (c1 c2 : Nat) (T : List ByteArray) (n : Nat) (hl : T.length = n) (w : World) (h1 : TextsAt w a1 T) (h2 : TextsAt w a2 T) (hn : n ≤ 1048576) :
    Calls Tryz.prog 26 #[.slice a1 n c1, .slice a2 n c2] w fun e w' => e = .returned (.bool true) ∧ Below w.heap.size w w' := by
  go_enter Tryz.func26, Tryz.ntmps26
  go_wp2
  go_loopw [5] (fun i wr => ∃ k : Nat, k ≤ n ∧ i = .int .i64 k ∧ Below w.heap.size w wr) (fun i _ => n - (intOf i).toNat)
  case atStart => exact ⟨0, Nat.zero_le _, rfl, Below.refl _ _⟩
  case round =>
    obtain ⟨k, hk, rfl, hB⟩ := hrel
    by_cases hlt : k < n
    · obtain ⟨x, hx⟩ := getElem?_ex (l := T) (k := k) (by omega)
      obtain ⟨b1, o1, rfl, g1⟩ := (h1.below hB (Nat.le_refl _)) k x hx
      obtain ⟨b2, o2, rfl, g2⟩ := (h2.below hB (Nat.le_refl _)) k x hx
      clear hx h1 h2 hl
      go_wp2
      go_region
      all_goals (
        go_wp2
        go_roundw
        case rel => exact ⟨k + 1, by omega, by go_num, hB.drew⟩
        case measure => simp [intOf]; omega)
    · go_wp2
      go_ret
      exact ⟨rfl, hB⟩

set_option maxHeartbeats 1000000 in
theorem szStringS_any (a : Option Addr) (c : Nat) (T : List ByteArray) (n : Nat) (hl : T.length = n) (left : Int) (w : World) (h : TextsAt w a T) (hn : n ≤ 9223372036854775807) (ht : ∀ s ∈ T, s.size ≤ 9223372036854775807) (h0 : 0 ≤ left) (h1 : left ≤ 1048576) :
    Calls Tryz.prog 22 #[.slice a n c, .int .i64 left] w fun e w' => ∃ r : Int, e = .returned (.int .i64 r) ∧ r ≤ left ∧ (0 ≤ r → n ≤ 1048576 ∧ ∀ s ∈ T, s.size ≤ 1048576) ∧ w' = w := by
  have HH := hide h
  have HT := hide ht
  have HL := hide hl
  clear h ht hl
  go_enter Tryz.func22, Tryz.ntmps22
  by_cases hbig : left - (n : Int) < 0
  · go_wp2
    go_ret
    exact ⟨_, rfl, by omega, fun hc => by omega, rfl⟩
  · go_wp2
    go_loop [1, 5] (fun v i => ∃ (k : Nat) (r : Int), k ≤ n ∧ i = .int .i64 k ∧ v = .int .i64 r ∧ 0 ≤ r ∧ r ≤ left ∧ ∀ j x, j < k → T[j]? = some x → x.size ≤ 1048576) (fun _ i => n - (intOf i).toNat)
    case atStart => exact ⟨0, _, Nat.zero_le _, rfl, rfl, by omega, by omega, fun j x hj => absurd hj (Nat.not_lt_zero _)⟩
    case round =>
      obtain ⟨k, r, hk, rfl, rfl, hr0, hr1, hA⟩ := hrel
      have HA := hide hA
      clear hA
      by_cases hlt : k < n
      · obtain ⟨x, hx⟩ := getElem?_ex (l := T) (k := k) (by have := unhide HL; omega)
        obtain ⟨b1, o1, rfl, g1⟩ := (unhide HH) k x hx
        have hsz := (unhide HT) x (List.mem_of_getElem? hx)
        have HX := hide hx
        clear hx
        by_cases hneg : r - (x.size : Int) < 0
        · go_wp2
          go_ret
          exact ⟨_, rfl, by omega, fun hc => by omega, rfl⟩
        · go_wp2
          go_round
          case rel =>
            refine ⟨k + 1, _, by omega, by go_num, rfl, by omega, by omega, fun j y hj hy => ?_⟩
            by_cases e : j = k
            · subst e; rw [unhide HX] at hy; cases hy; omega
            · exact unhide HA j y (by omega) hy
          case measure => simp [intOf]; omega
      · go_wp2
        go_ret
        refine ⟨_, rfl, hr1, fun _ => ⟨by omega, fun s hs => ?_⟩, rfl⟩
        obtain ⟨i, hi⟩ := List.getElem?_of_mem hs
        have := (List.getElem?_eq_some_iff.1 hi).1
        have := unhide HL
        exact unhide HA i s (by omega) hi
end Go.Proofs.YtalgkmellbamgaaGreat

/- A list of texts of the call's own is marked. -/
namespace Go.Proofs.YtalgkmellbamgaaGreat
open Go.RowKit
set_option linter.unusedVariables false
set_option linter.unusedSimpArgs false

def TextsMine (w : World) (b n : Nat) : Prop := b < w.heap.size ∧ ∀ i, i < n → (∃ x : ByteArray, w.cell? ⟨b, i, none⟩ = some (.string x)) ∧ w.frozen? ⟨b, i, none⟩ = false
theorem TextsMine.of_block {w w' : World} {b n : Nat} (h : TextsMine w b n) (e : w'.heap[b]? = w.heap[b]?) (hs : w.heap.size ≤ w'.heap.size) : TextsMine w' b n :=
  ⟨by have := h.1; omega, fun i hi => by
    obtain ⟨⟨x, hx⟩, hf⟩ := h.2 i hi
    exact ⟨⟨x, (World.cell?_of_block (w := w) (a := ⟨b, i, none⟩) e).trans hx⟩, (by simp only [World.frozen?, e] : w'.frozen? ⟨b, i, none⟩ = w.frozen? ⟨b, i, none⟩).trans hf⟩⟩
theorem RowTexts.mine {w : World} {t : TypeId} {b n : Nat} {T : List ByteArray} (h : RowTexts w t b n T) (hl : T.length = n) : TextsMine w b n := by
  refine ⟨World.rowIs.lt h, fun i hi => ?_⟩
  obtain ⟨x, hx⟩ := getElem?_ex (l := T) (k := i) (by omega)
  obtain ⟨b', o, e, hc⟩ := (h.textsAt (by omega)) i x hx
  cases e
  exact ⟨⟨x, by simpa using hc⟩, World.rowIs.frozen h i⟩

set_option maxHeartbeats 1000000 in
theorem markStringS_any (b c n : Nat) (k : Int) (w : World) (h : TextsMine w b n) (hn : n ≤ 1048576) (h0 : 0 < k) (h1 : k + n ≤ 1125899906842624) :
    Calls Tryz.prog 28 #[.slice (some ⟨b, 0, none⟩) n c, .int .i64 k] w fun e w' => e = .returned (.int .i64 (k + (n : Int))) ∧ Touch (· = b) w w' := by
  go_enter Tryz.func28, Tryz.ntmps28
  go_wp2
  go_loopw [1, 5] (fun v i wr => ∃ j : Nat, j ≤ n ∧ i = .int .i64 j ∧ v = .int .i64 (k + (j : Int)) ∧ TextsMine wr b n ∧ Touch (· = b) w wr) (fun _ i _ => n - (intOf i).toNat)
  case atStart => exact ⟨0, Nat.zero_le _, rfl, by simp, h, Touch.refl _ _⟩
  case round =>
    obtain ⟨j, hj, rfl, rfl, hM, hT⟩ := hrel
    by_cases hlt : j < n
    · have hlb := hM.1
      have HM := hide hM
      have hji : (j : Int) < (n : Int) := by omega
      clear h hM
      go_wp2_with fail
      refine (markText_any _ _ (by omega) (by omega)).mono ?_
      rintro e w1 ⟨rfl, hc⟩
      have hM1 := (unhide HM).of_block (hc.block b hlb) hc.size
      obtain ⟨⟨x, hx⟩, hf⟩ := hM1.2 j hlt
      have HM1 := hide hM1
      have HC := hide hc
      clear hM1 hc
      go_wp2
      go_roundw
      case rel =>
        refine ⟨j + 1, by omega, by go_num, by go_num, ⟨by have := (unhide HM1).1; simpa [World.setCell] using this, fun i hi => ?_⟩, (hT.trans (Touch.of_below (unhide HC))).setCell rfl _⟩
        obtain ⟨⟨y, hy⟩, hfy⟩ := (unhide HM1).2 i hi
        refine ⟨?_, by simpa using hfy⟩
        by_cases e : i = j
        · subst e
          exact ⟨_, World.cell?_setCell_same' _ _ _ (by simp [hx])⟩
        · exact ⟨y, (World.cell?_setCell_other _ _ _ _ (by simp <;> omega)).trans hy⟩
      case measure => simp [intOf]; omega
    · have hk' : j = n := by omega
      subst hk'
      clear h hM
      go_wp2
      go_ret
      exact ⟨rfl, hT⟩
end Go.Proofs.YtalgkmellbamgaaGreat
