/- Lists of texts: the laws' own copy, comparison and size. -/
import Derived.Test.YtaelbmilicfkhaaChecked
import Derived.Test.YtaelbmilicfkhaaOpenI
import Derived.WalkKit
import Derived.Outline
namespace Go.Proofs.Ytaelbmilicfkhaa
open Go.RowKit
set_option linter.unusedVariables false
set_option linter.unusedSimpArgs false

def textF (T : List ByteArray) (i : Nat) : Value := .string ((T[i]?).getD ByteArray.empty)

/-- A row of its own of n texts, T ahead and empty ones behind. -/
def RowTexts (w : World) (t : TypeId) (b n : Nat) (T : List ByteArray) : Prop := w.rowIs b t n (textF T)

theorem RowTexts.textsAt {w : World} {t : TypeId} {b n : Nat} {T : List ByteArray} (h : RowTexts w t b n T) (hn : T.length ≤ n) : TextsAt w (some ⟨b, 0, none⟩) T := by
  intro i x hx
  have hi := (List.getElem?_eq_some_iff.1 hx).1
  refine ⟨b, 0, rfl, ?_⟩
  have := World.rowIs.cell h (i := i) (by omega)
  simpa [textF, hx] using this

theorem RowTexts.put {w : World} {t : TypeId} {b n k : Nat} {T : List ByteArray} {x : ByteArray} (h : RowTexts w t b n (T.take k)) (hx : T[k]? = some x) :
    RowTexts (w.setCell ⟨b, k, none⟩ (.string x)) t b n (T.take (k + 1)) := by
  have hk := (List.getElem?_eq_some_iff.1 hx).1
  refine World.rowIs.congr (World.rowIs.set h k (.string x)) fun i hi => ?_
  unfold textF
  by_cases e : i = k
  · subst e; simp [List.getElem?_take, hx]
  · by_cases l : i < k
    · simp [e, List.getElem?_take, l, Nat.lt_succ_of_lt l]
    · have l2 : ¬ i < k + 1 := by omega
      simp [e, List.getElem?_take, l, l2]

theorem RowTexts.made (w : World) (t : TypeId) (n : Nat) : RowTexts (w.alloc (.cells (madeCells #[.string ByteArray.empty] n) t)) t w.heap.size n [] :=
  (World.rowIs_made w (.string ByteArray.empty) n t).congr fun i hi => by simp [textF]

theorem infoTextT : (Try.prog.info? 9).map (fun i => (i.zero, i.size, i.bytes)) = some (some (.string ByteArray.empty), 1, 16) := by kernel_rfl

theorem make_texts (n : Nat) (hn : n ≤ 1048576) (w : World) :
    (Instr.makeSlice 53 (.int .i64 (n : Int)) (.int .i64 (n : Int))).run Try.prog w = .ok (.slice (some ⟨w.heap.size, 0, none⟩) n n) (w.alloc (.cells (madeCells #[.string ByteArray.empty] n) 9)) := by
  obtain ⟨i, hi, hz⟩ := Option.map_eq_some_iff.1 infoTextT
  simp only [Prod.mk.injEq] at hz
  obtain ⟨hz0, hz1, hz2⟩ := hz
  have h := run_make (P := Try.prog) w 53 9 i _ Try.underlying53 hi hz0 .i64 .i64 (n : Int) (n : Int) (by omega) (Int.le_refl _) (by rw [hz2]; omega) (by omega)
  rw [hz1] at h
  simpa [Value.cells] using h

set_option maxHeartbeats 1000000 in
theorem toStringS_any (a : Option Addr) (c : Nat) (T : List ByteArray) (n : Nat) (hl : T.length = n) (w : World) (h : TextsAt w a T) (hn : n ≤ 1048576) :
    Calls Try.prog 44 #[.slice a n c] w fun e w' => e = .returned (.slice (some ⟨w.heap.size, 0, none⟩) n n) ∧ RowTexts w' 9 w.heap.size n T ∧ Below w.heap.size w w' := by
  have hmk := make_texts n hn
  go_enter Try.func44, Try.ntmps44
  go_wp2
  clear hmk
  go_loopw [4] (fun i wr => ∃ k : Nat, k ≤ n ∧ i = .int .i64 k ∧ RowTexts wr 9 w.heap.size n (T.take k) ∧ Below w.heap.size w wr) (fun i _ => n - (intOf i).toNat)
  case atStart => exact ⟨0, Nat.zero_le _, rfl, by simpa using RowTexts.made w _ _, (Below.refl _ _).alloc (Nat.le_refl _) _⟩
  case round =>
    obtain ⟨k, hk, rfl, hO, hB⟩ := hrel
    by_cases hlt : k < n
    · obtain ⟨x, hx⟩ := getElem?_ex (l := T) (k := k) (by omega)
      obtain ⟨b1, o1, rfl, g1⟩ := (h.below hB (Nat.le_refl _)) k x hx
      have c0 := World.rowIs.cell hO (i := k) hlt
      have f0 := World.rowIs.frozen hO
      have HX := hide hx
      have HO := hide hO
      clear hx h hO hl
      go_wp2
      go_roundw
      case rel => exact ⟨k + 1, by omega, by go_num, (unhide HO).put (unhide HX), hB.setCell (Nat.le_refl _) _⟩
      case measure => simp [intOf]; omega
    · have hk' : k = T.length := by omega
      subst hk'
      rw [List.take_length] at hO
      have HO := hide hO
      clear hO h
      go_wp2
      go_ret
      exact ⟨rfl, unhide HO, hB⟩

set_option maxHeartbeats 1000000 in
theorem eqStringS_same (a1 a2 : Option Addr) (c1 c2 : Nat) (T : List ByteArray) (n : Nat) (hl : T.length = n) (w : World) (h1 : TextsAt w a1 T) (h2 : TextsAt w a2 T) (hn : n ≤ 1048576) :
    Calls Try.prog 45 #[.slice a1 n c1, .slice a2 n c2] w fun e w' => e = .returned (.bool true) ∧ Below w.heap.size w w' := by
  go_enter Try.func45, Try.ntmps45
  go_wp2
  go_loopw [5] (fun i wr => ∃ k : Nat, k ≤ n ∧ i = .int .i64 k ∧ Below w.heap.size w wr) (fun i _ => n - (intOf i).toNat)
  case atStart => exact ⟨0, Nat.zero_le _, rfl, Below.refl _ _⟩
  case round =>
    obtain ⟨k, hk, rfl, hB⟩ := hrel
    by_cases hlt : k < n
    · obtain ⟨x, hx⟩ := getElem?_ex (l := T) (k := k) (by omega)
      obtain ⟨b1, o1, rfl, g1⟩ := (h1.below hB (Nat.le_refl _)) k x hx
      obtain ⟨b2, o2, rfl, g2⟩ := (h2.below hB (Nat.le_refl _)) k x hx
      clear hx h1 h2 hl
      go_wp2
      go_region
      all_goals (
        go_wp2
        go_roundw
        case rel => exact ⟨k + 1, by omega, by go_num, hB.drew⟩
        case measure => simp [intOf]; omega)
    · go_wp2
      go_ret
      exact ⟨rfl, hB⟩

set_option maxHeartbeats 1000000 in
theorem szStringS_any (a : Option Addr) (c : Nat) (T : List ByteArray) (n : Nat) (hl : T.length = n) (left : Int) (w : World) (h : TextsAt w a T) (hn : n ≤ 9223372036854775807) (ht : ∀ s ∈ T, s.size ≤ 9223372036854775807) (h0 : 0 ≤ left) (h1 : left ≤ 1048576) :
    Calls Try.prog 43 #[.slice a n c, .int .i64 left] w fun e w' => ∃ r : Int, e = .returned (.int .i64 r) ∧ r ≤ left ∧ (0 ≤ r → n ≤ 1048576 ∧ ∀ s ∈ T, s.size ≤ 1048576) ∧ w' = w := by
  have HH := hide h
  have HT := hide ht
  have HL := hide hl
  clear h ht hl
  go_enter Try.func43, Try.ntmps43
  by_cases hbig : left - (n : Int) < 0
  · go_wp2
    go_ret
    exact ⟨_, rfl, by omega, fun hc => by omega, rfl⟩
  · go_wp2
    go_loop [1, 5] (fun v i => ∃ (k : Nat) (r : Int), k ≤ n ∧ i = .int .i64 k ∧ v = .int .i64 r ∧ 0 ≤ r ∧ r ≤ left ∧ ∀ j x, j < k → T[j]? = some x → x.size ≤ 1048576) (fun _ i => n - (intOf i).toNat)
    case atStart => exact ⟨0, _, Nat.zero_le _, rfl, rfl, by omega, by omega, fun j x hj => absurd hj (Nat.not_lt_zero _)⟩
    case round =>
      obtain ⟨k, r, hk, rfl, rfl, hr0, hr1, hA⟩ := hrel
      have HA := hide hA
      clear hA
      by_cases hlt : k < n
      · obtain ⟨x, hx⟩ := getElem?_ex (l := T) (k := k) (by have := unhide HL; omega)
        obtain ⟨b1, o1, rfl, g1⟩ := (unhide HH) k x hx
        have hsz := (unhide HT) x (List.mem_of_getElem? hx)
        have HX := hide hx
        clear hx
        by_cases hneg : r - (x.size : Int) < 0
        · go_wp2
          go_ret
          exact ⟨_, rfl, by omega, fun hc => by omega, rfl⟩
        · go_wp2
          go_round
          case rel =>
            refine ⟨k + 1, _, by omega, by go_num, rfl, by omega, by omega, fun j y hj hy => ?_⟩
            by_cases e : j = k
            · subst e; rw [unhide HX] at hy; cases hy; omega
            · exact unhide HA j y (by omega) hy
          case measure => simp [intOf]; omega
      · go_wp2
        go_ret
        refine ⟨_, rfl, hr1, fun _ => ⟨by omega, fun s hs => ?_⟩, rfl⟩
        obtain ⟨i, hi⟩ := List.getElem?_of_mem hs
        have := (List.getElem?_eq_some_iff.1 hi).1
        have := unhide HL
        exact unhide HA i s (by omega) hi
end Go.Proofs.Ytaelbmilicfkhaa
