/- The exclusive or of texts: the model's and the program's. -/
import Derived.Test.YtaelbmilicfkhaaChecked
import Derived.Test.YtaelbmilicfkhaaOpenI
import Derived.Test.YtaelbmilicfkhaaIn
import Derived.WalkKit
import Derived.Outline
import Derived.Laws.BytesArg
namespace Go.Proofs.Ytaelbmilicfkhaa
open Go.RowKit
set_option linter.unusedVariables false
set_option linter.unusedSimpArgs false

theorem infoByte : (Try.prog.info? 5).map (fun i => (i.zero, i.size, i.bytes)) = some (some (.int .u8 0), 1, 1) := by kernel_rfl

theorem make_bytes4 (w : World) :
    (Instr.makeSlice 22 (.int .i64 4) (.int .i64 4)).run Try.prog w = .ok (.slice (some ⟨w.heap.size, 0, none⟩) 4 4) (w.alloc (.cells (madeCells #[.int .u8 0] 4) 5)) := by
  obtain ⟨i, hi, hz⟩ := Option.map_eq_some_iff.1 infoByte
  simp only [Prod.mk.injEq] at hz
  obtain ⟨hz0, hz1, hz2⟩ := hz
  have h := run_make (P := Try.prog) w 22 5 i _ Try.underlying22 hi hz0 .i64 .i64 (4 : Int) (4 : Int) (by omega) (Int.le_refl _) (by rw [hz2]; omega) (by omega)
  rw [hz1] at h
  simpa [Value.cells] using h

/-- Byte j of a text; 0 behind its end. -/
def byteZ (x : ByteArray) (j : Nat) : Int := if h : j < x.size then (x[j].toNat : Int) else 0

theorem byteZ_at {x : ByteArray} {j : Nat} (h : j < x.size) : byteZ x j = (x[j].toNat : Int) := by simp [byteZ, h]

/-- Byte j of the first k texts together. -/
def accX (T : List ByteArray) : Nat → Nat → Int
  | 0, _ => 0
  | k + 1, j => bits .xor .u8 (accX T k j) (byteZ ((T[k]?).getD ByteArray.empty) j)

theorem accX_step {T : List ByteArray} {k : Nat} {x : ByteArray} (hx : T[k]? = some x) (j : Nat) : accX T (k + 1) j = bits .xor .u8 (accX T k j) (byteZ x j) := by
  show bits .xor .u8 (accX T k j) (byteZ ((T[k]?).getD ByteArray.empty) j) = _
  rw [hx]; rfl

def XorOk (T : List ByteArray) : Prop := (1 ≤ T.length ∧ T.length ≤ 5) ∧ ∀ s ∈ T, s.size = 4
instance (T : List ByteArray) : Decidable (XorOk T) := by unfold XorOk; infer_instance

def xorT (T : List ByteArray) : ByteArray := if XorOk T then strOfNums [accX T T.length 0, accX T T.length 1, accX T T.length 2, accX T T.length 3] else ⟨#[]⟩

/-- What Xor answers. -/
def XorSays (T : List ByteArray) (e : Ending) : Prop := e = .returned (.tuple #[.string (xorT T), .bool (decide (XorOk T))])

theorem xorSays_no {T : List ByteArray} (h : ¬ XorOk T) : XorSays T (.returned (.tuple #[.string ⟨#[]⟩, .bool false])) := by
  unfold XorSays xorT
  rw [if_neg h, decide_eq_false h]
theorem xorSays_yes {T : List ByteArray} (h : XorOk T) : XorSays T (.returned (.tuple #[.string (strOfNums [accX T T.length 0, accX T T.length 1, accX T T.length 2, accX T T.length 3]), .bool true])) := by
  unfold XorSays xorT
  rw [if_pos h, decide_eq_true h]

def xrowF (T : List ByteArray) (k q : Nat) (j : Nat) : Value := .int .u8 (if j < q then accX T (k + 1) j else accX T k j)

theorem xrow_step {T : List ByteArray} {k q : Nat} {x : ByteArray} {w : World} {b : Nat} {t : TypeId} (hx : T[k]? = some x) (h : w.rowIs b t 4 (xrowF T k q)) :
    (w.setCell ⟨b, q, none⟩ (.int .u8 (bits .xor .u8 (accX T k q) (byteZ x q)))).rowIs b t 4 (xrowF T k (q + 1)) := by
  refine (h.set q _).congr fun i hi => ?_
  unfold xrowF
  by_cases e : i = q
  · subst e; simp [accX_step hx]
  · by_cases l : i < q
    · simp [e, l, Nat.lt_succ_of_lt l]
    · have l2 : ¬ i < q + 1 := by omega
      simp [e, l, l2]

theorem xrow_next {T : List ByteArray} {k : Nat} {w : World} {b : Nat} {t : TypeId} (h : w.rowIs b t 4 (xrowF T k 4)) : w.rowIs b t 4 (xrowF T (k + 1) 0) :=
  h.congr fun i hi => by unfold xrowF; simp [hi]

theorem xrow_str {T : List ByteArray} {k : Nat} {w : World} {b : Nat} {t : TypeId} (h : w.rowIs b t 4 (xrowF T k 0)) :
    (convert 22 9 (.slice (some ⟨b, 0, none⟩) 4 4)).run Try.prog w = .ok (.string (strOfNums [accX T k 0, accX T k 1, accX T k 2, accX T k 3])) w := by
  refine run_convert_bytes_arg (P := Try.prog) w 22 5 Try.underlying22 Try.underlying5 b 0 4 4 [accX T k 0, accX T k 1, accX T k 2, accX T k 3] rfl (fun i hi => ?_) 9 Try.underlying9
  rw [Nat.zero_add, h.cell hi]
  have h4 : i = 0 ∨ i = 1 ∨ i = 2 ∨ i = 3 := by omega
  rcases h4 with rfl | rfl | rfl | rfl <;> simp [xrowF]

theorem xorOk_of {T : List ByteArray} {n k : Nat} (hl : T.length = n) (hk : k = n) (h15 : (1 : Int) ≤ (n : Int) ∧ (n : Int) ≤ 5) (h : ∀ j x, j < k → T[j]? = some x → x.size = 4) : XorOk T := by
  refine ⟨by omega, fun s hs => ?_⟩
  obtain ⟨i, hi⟩ := List.getElem?_of_mem hs
  have := (List.getElem?_eq_some_iff.1 hi).1
  exact h i s (by omega) hi

set_option maxHeartbeats 1000000 in
theorem specXor_any (a : Option Addr) (c : Nat) (T : List ByteArray) (n : Nat) (hl : T.length = n) (w : World) (h : TextsAt w a T) (hn : n ≤ 1048576) (ht : ∀ s ∈ T, s.size ≤ 1048576) :
    Calls Try.prog 40 #[.slice a n c] w fun e w' => XorSays T e ∧ Below w.heap.size w w' := by
  have HH := hide h
  have HT := hide ht
  have HL := hide hl
  clear h ht hl
  go_enter Try.func40, Try.ntmps40
  go_wp2_with fail
  refine (l1In_any _ _ _ _).mono ?_
  rintro e w1 ⟨rfl, rfl⟩
  by_cases h35 : (1 : Int) ≤ (n : Int) ∧ (n : Int) ≤ 5
  · have hd : decide ((1 : Int) ≤ (n : Int) ∧ (n : Int) ≤ 5) = true := by simpa using h35
    rw [hd]
    clear hd
    have hmk := make_bytes4
    go_wp2
    clear hmk
    go_loopw [5, 6] (fun i u wr => ∃ k : Nat, k ≤ n ∧ i = .int .i64 k ∧ wr.rowIs w1.heap.size 5 4 (xrowF T k 0) ∧ Below w1.heap.size w1 wr ∧ ∀ j x, j < k → T[j]? = some x → x.size = 4) (fun i _ _ => n - (intOf i).toNat)
    case atStart =>
      refine ⟨0, Nat.zero_le _, rfl, ?_, (Below.refl _ _).alloc (Nat.le_refl _) _, fun j x hj => absurd hj (Nat.not_lt_zero _)⟩
      exact (World.rowIs_made w1 (.int .u8 0) 4 _).congr fun i hi => by simp [xrowF, accX]
    case round =>
      obtain ⟨k, hk, rfl, hR, hB, hA⟩ := hrel
      have HA := hide hA
      clear hA
      by_cases hlt : k < n
      · obtain ⟨x, hx⟩ := getElem?_ex (l := T) (k := k) (by have := unhide HL; omega)
        obtain ⟨b1, o1, rfl, g1⟩ := ((unhide HH).below hB (Nat.le_refl _)) k x hx
        have hsz := (unhide HT) x (List.mem_of_getElem? hx)
        have HX := hide hx
        have HR := hide hR
        clear hx hR
        by_cases h4 : x.size = 4
        · have hne : ((x.size : Int) != 4) = false := by simp [h4]
          go_wp2
          go_loopw [6] (fun i w2 => ∃ (q : Nat), q ≤ 4 ∧ i = .int .i64 q ∧ w2.rowIs w1.heap.size 5 4 (xrowF T k q) ∧ Below w1.heap.size w1 w2) (fun i _ => 4 - (intOf i).toNat)
          case atStart => exact ⟨0, Nat.zero_le _, rfl, unhide HR, hB⟩
          case round =>
            obtain ⟨q, hq, rfl, hR2, hB2⟩ := hrel
            have HR2 := hide hR2
            by_cases hq4 : q < 4
            · obtain ⟨b2, o2, hb2, g2⟩ := ((unhide HH).below hB2 (Nat.le_refl _)) k x (unhide HX)
              cases hb2
              have c0 := World.rowIs.cell hR2 (i := q) hq4
              have f0 := World.rowIs.frozen hR2
              have hc0 : xrowF T k q q = .int .u8 (accX T k q) := by simp [xrowF]
              rw [hc0] at c0
              have hq5 : q < x.size := by omega
              have hby := byteZ_at hq5
              have HBY := hide hby
              clear g1 hR2 hc0 hby
              go_wp2
              go_region
              all_goals (
                go_wp2
                go_roundw
                case rel => exact ⟨q + 1, by omega, by go_num, by rw [← unhide HBY]; exact (xrow_step (unhide HX) (unhide HR2)).drew, (hB2.setCell (Nat.le_refl _) _).drew⟩
                case measure => simp [intOf]; omega)
            · have hq' : q = 4 := by omega
              subst hq'
              clear hR2
              go_wp2
              go_roundw
              case rel =>
                refine ⟨k + 1, by omega, by go_num, xrow_next (unhide HR2), hB2, fun j y hj hy => ?_⟩
                by_cases e : j = k
                · subst e; rw [unhide HX] at hy; cases hy; exact h4
                · exact unhide HA j y (by omega) hy
              case measure => simp [intOf]; omega
        · have hne : ((x.size : Int) != 4) = true := by simp; omega
          go_wp2
          go_ret2
          exact ⟨xorSays_no fun hc => absurd (hc.2 x (List.mem_of_getElem? (unhide HX))) h4, hB⟩
      · have hcv := xrow_str hR
        have hkn : k = n := by omega
        have hok := xorOk_of (unhide HL) hkn h35 (unhide HA)
        have HOK := hide hok
        have hkl : T.length = k := by have := unhide HL; omega
        have hs := xorSays_yes hok
        rw [hkl] at hs
        have HS := hide hs
        clear hR hok hs hkn hkl
        go_wp2
        go_ret2
        exact ⟨unhide HS, hB⟩
  · have hd : decide ((1 : Int) ≤ (n : Int) ∧ (n : Int) ≤ 5) = false := by simpa using h35
    rw [hd]
    have H35 := hide h35
    clear hd h35
    go_wp2
    go_ret2
    exact ⟨xorSays_no fun hc => unhide H35 (by have := hc.1; have := unhide HL; omega), Below.refl _ _⟩

set_option maxHeartbeats 1000000 in
theorem implXor_any (a : Option Addr) (c : Nat) (T : List ByteArray) (n : Nat) (hl : T.length = n) (w : World) (h : TextsAt w a T) (hn : n ≤ 1048576) (ht : ∀ s ∈ T, s.size ≤ 1048576) :
    Calls Try.prog 39 #[.slice a n c] w fun e w' => XorSays T e ∧ Below w.heap.size w w' := by
  have HH := hide h
  have HT := hide ht
  have HL := hide hl
  clear h ht hl
  go_enter Try.func39, Try.ntmps39
  go_wp2_with fail
  refine (within_any _ _ _ _).mono ?_
  rintro e w1 ⟨rfl, rfl⟩
  by_cases h35 : (1 : Int) ≤ (n : Int) ∧ (n : Int) ≤ 5
  · have hd : decide ((1 : Int) ≤ (n : Int) ∧ (n : Int) ≤ 5) = true := by simpa using h35
    rw [hd]
    clear hd
    go_wp2
    go_loopw [14] (fun i wr => ∃ k : Nat, k ≤ n ∧ i = .int .i64 k ∧ wr.rowIs w1.heap.size 96 4 (xrowF T k 0) ∧ Below w1.heap.size w1 wr ∧ ∀ j x, j < k → T[j]? = some x → x.size = 4) (fun i _ => n - (intOf i).toNat)
    case atStart =>
      refine ⟨0, Nat.zero_le _, rfl, ?_, (Below.refl _ _).alloc (Nat.le_refl _) _, fun j x hj => absurd hj (Nat.not_lt_zero _)⟩
      refine World.rowIs_alloc w1 #[.int .u8 0, .int .u8 0, .int .u8 0, .int .u8 0] _ _ fun i hi => ?_
      have h4 : i = 0 ∨ i = 1 ∨ i = 2 ∨ i = 3 := by simp at hi; omega
      rcases h4 with rfl | rfl | rfl | rfl <;> simp [xrowF, accX]
    case round =>
      obtain ⟨k, hk, rfl, hR, hB, hA⟩ := hrel
      have HA := hide hA
      clear hA
      by_cases hlt : k < n
      · obtain ⟨x, hx⟩ := getElem?_ex (l := T) (k := k) (by have := unhide HL; omega)
        obtain ⟨b1, o1, rfl, g1⟩ := ((unhide HH).below hB (Nat.le_refl _)) k x hx
        have hsz := (unhide HT) x (List.mem_of_getElem? hx)
        have HX := hide hx
        have HR := hide hR
        clear hx hR
        by_cases h4 : x.size = 4
        · have hne : ((x.size : Int) != 4) = false := by simp [h4]
          go_wp2
          go_loopw [21] (fun i w2 => ∃ (q : Nat), q ≤ 4 ∧ i = .int .i64 q ∧ w2.rowIs w1.heap.size 96 4 (xrowF T k q) ∧ Below w1.heap.size w1 w2) (fun i _ => 4 - (intOf i).toNat)
          case atStart => exact ⟨0, Nat.zero_le _, rfl, unhide HR, hB⟩
          case round =>
            obtain ⟨q, hq, rfl, hR2, hB2⟩ := hrel
            have HR2 := hide hR2
            by_cases hq4 : q < 4
            · have c0 := World.rowIs.cell hR2 (i := q) hq4
              have f0 := World.rowIs.frozen hR2
              have hc0 : xrowF T k q q = .int .u8 (accX T k q) := by simp [xrowF]
              rw [hc0] at c0
              have hq5 : q < x.size := by omega
              have hby := byteZ_at hq5
              have HBY := hide hby
              clear g1 hR2 hc0 hby
              go_wp2
              go_region
              all_goals (
                go_wp2
                go_roundw
                case rel => exact ⟨q + 1, by omega, by go_num, by rw [← unhide HBY]; exact (xrow_step (unhide HX) (unhide HR2)).drew, (hB2.setCell (Nat.le_refl _) _).drew⟩
                case measure => simp [intOf]; omega)
            · have hq' : q = 4 := by omega
              subst hq'
              clear hR2
              go_wp2
              go_roundw
              case rel =>
                refine ⟨k + 1, by omega, by go_num, xrow_next (unhide HR2), hB2, fun j y hj hy => ?_⟩
                by_cases e : j = k
                · subst e; rw [unhide HX] at hy; cases hy; exact h4
                · exact unhide HA j y (by omega) hy
              case measure => simp [intOf]; omega
        · have hne : ((x.size : Int) != 4) = true := by simp; omega
          go_wp2
          go_ret2
          exact ⟨xorSays_no fun hc => absurd (hc.2 x (List.mem_of_getElem? (unhide HX))) h4, hB⟩
      · have hcv := xrow_str hR
        have hkn : k = n := by omega
        have hok := xorOk_of (unhide HL) hkn h35 (unhide HA)
        have HOK := hide hok
        have hkl : T.length = k := by have := unhide HL; omega
        have hs := xorSays_yes hok
        rw [hkl] at hs
        have HS := hide hs
        clear hR hok hs hkn hkl
        go_wp2
        go_ret2
        exact ⟨unhide HS, hB⟩
  · have hd : decide ((1 : Int) ≤ (n : Int) ∧ (n : Int) ≤ 5) = false := by simpa using h35
    rw [hd]
    have H35 := hide h35
    clear hd h35
    go_wp2
    go_ret2
    exact ⟨xorSays_no fun hc => unhide H35 (by have := hc.1; have := unhide HL; omega), Below.refl _ _⟩
end Go.Proofs.Ytaelbmilicfkhaa
