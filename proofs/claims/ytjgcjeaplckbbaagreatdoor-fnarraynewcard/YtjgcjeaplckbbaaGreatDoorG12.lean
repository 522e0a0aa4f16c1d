/- 6 texts in one. -/
import Derived.Test.YtjgcjeaplckbbaaGreatDoorChecked
import Derived.Test.YtjgcjeaplckbbaaGreatDoorG04
import Derived.Test.YtjgcjeaplckbbaaGreatDoorG01
import Derived.WalkKit
import Derived.Outline
import Derived.Laws.BytesArg
import Derived.Test.YtjgcjeaplckbbaaGreatDoorG07
import Derived.Test.YtjgcjeaplckbbaaGreatDoorG02
import Derived.BigQuiet
import Derived.Test.YtjgcjeaplckbbaaGreatDoorG03

/- The exclusive or of texts: the model's and the program's. -/
namespace Go.Proofs.YtjgcjeaplckbbaaGreatDoor
open Go.RowKit
set_option linter.unusedVariables false
set_option linter.unusedSimpArgs false

theorem infoByte : (Tryz.prog.info? 5).map (fun i => (i.zero, i.size, i.bytes)) = some (some (.int .u8 0), 1, 1) := by kernel_rfl

theorem make_bytes4 (w : World) :
    (Instr.makeSlice 22 (.int .i64 4) (.int .i64 4)).run Tryz.prog w = .ok (.slice (some ⟨w.heap.size, 0, none⟩) 4 4) (w.alloc (.cells (madeCells #[.int .u8 0] 4) 5)) := by
  obtain ⟨i, hi, hz⟩ := Option.map_eq_some_iff.1 infoByte
  simp only [Prod.mk.injEq] at hz
  obtain ⟨hz0, hz1, hz2⟩ := hz
  have h := run_make (P := Tryz.prog) w 22 5 i _ Tryz.underlying22 hi hz0 .i64 .i64 (4 : Int) (4 : Int) (by omega) (Int.le_refl _) (by rw [hz2]; omega) (by omega)
  rw [hz1] at h
  simpa [Value.cells] using h

/-- Byte j of a text; 0 behind its end. -/
def byteZ (x : ByteArray) (j : Nat) : Int := if h : j < x.size then (x[j].toNat : Int) else 0

theorem byteZ_at {x : ByteArray} {j : Nat} (h : j < x.size) : byteZ x j = (x[j].toNat : Int) := by simp [byteZ, h]

/-- Byte j of the first k texts together. -/
def accX (T : List ByteArray) : Nat → Nat → Int
  | 0, _ => 0
  | k + 1, j => bits .xor .u8 (accX T k j) (byteZ ((T[k]?).getD ByteArray.empty) j)

theorem accX_step {T : List ByteArray} {k : Nat} {x : ByteArray} (hx : T[k]? = some x) (j : Nat) : accX T (k + 1) j = bits .xor .u8 (accX T k j) (byteZ x j) := by
  show bits .xor .u8 (accX T k j) (byteZ ((T[k]?).getD ByteArray.empty) j) = _
  rw [hx]; rfl

def XorOk (T : List ByteArray) : Prop := (1 ≤ T.length ∧ T.length ≤ 5) ∧ ∀ s ∈ T, s.size = 4
instance (T : List ByteArray) : Decidable (XorOk T) := by unfold XorOk; infer_instance

def xorT (T : List ByteArray) : ByteArray := if XorOk T then strOfNums [accX T T.length 0, accX T T.length 1, accX T T.length 2, accX T T.length 3] else ⟨#[]⟩

/-- What Xor answers. -/
def XorSays (T : List ByteArray) (e : Ending) : Prop := e = .returned (.tuple #[.string (xorT T), .bool (decide (XorOk T))])

theorem xorSays_no {T : List ByteArray} (h : ¬ XorOk T) : XorSays T (.returned (.tuple #[.string ⟨#[]⟩, .bool false])) := by
  unfold XorSays xorT
  rw [if_neg h, decide_eq_false h]
theorem xorSays_yes {T : List ByteArray} (h : XorOk T) : XorSays T (.returned (.tuple #[.string (strOfNums [accX T T.length 0, accX T T.length 1, accX T T.length 2, accX T T.length 3]), .bool true])) := by
  unfold XorSays xorT
  rw [if_pos h, decide_eq_true h]

def xrowF (T : List ByteArray) (k q : Nat) (j : Nat) : Value := .int .u8 (if j < q then accX T (k + 1) j else accX T k j)

theorem xrow_step {T : List ByteArray} {k q : Nat} {x : ByteArray} {w : World} {b : Nat} {t : TypeId} (hx : T[k]? = some x) (h : w.rowIs b t 4 (xrowF T k q)) :
    (w.setCell ⟨b, q, none⟩ (.int .u8 (bits .xor .u8 (accX T k q) (byteZ x q)))).rowIs b t 4 (xrowF T k (q + 1)) := by
  refine (h.set q _).congr fun i hi => ?_
  unfold xrowF
  by_cases e : i = q
  · subst e; simp [accX_step hx]
  · by_cases l : i < q
    · simp [e, l, Nat.lt_succ_of_lt l]
    · have l2 : ¬ i < q + 1 := by omega
      simp [e, l, l2]

theorem xrow_next {T : List ByteArray} {k : Nat} {w : World} {b : Nat} {t : TypeId} (h : w.rowIs b t 4 (xrowF T k 4)) : w.rowIs b t 4 (xrowF T (k + 1) 0) :=
  h.congr fun i hi => by unfold xrowF; simp [hi]

theorem xrow_str {T : List ByteArray} {k : Nat} {w : World} {b : Nat} {t : TypeId} (h : w.rowIs b t 4 (xrowF T k 0)) :
    (convert 22 9 (.slice (some ⟨b, 0, none⟩) 4 4)).run Tryz.prog w = .ok (.string (strOfNums [accX T k 0, accX T k 1, accX T k 2, accX T k 3])) w := by
  refine run_convert_bytes_arg (P := Tryz.prog) w 22 5 Tryz.underlying22 Tryz.underlying5 b 0 4 4 [accX T k 0, accX T k 1, accX T k 2, accX T k 3] rfl (fun i hi => ?_) 9 Tryz.underlying9
  rw [Nat.zero_add, h.cell hi]
  have h4 : i = 0 ∨ i = 1 ∨ i = 2 ∨ i = 3 := by omega
  rcases h4 with rfl | rfl | rfl | rfl <;> simp [xrowF]

theorem xorOk_of {T : List ByteArray} {n k : Nat} (hl : T.length = n) (hk : k = n) (h15 : (1 : Int) ≤ (n : Int) ∧ (n : Int) ≤ 5) (h : ∀ j x, j < k → T[j]? = some x → x.size = 4) : XorOk T := by
  refine ⟨by omega, fun s hs => ?_⟩
  obtain ⟨i, hi⟩ := List.getElem?_of_mem hs
  have := (List.getElem?_eq_some_iff.1 hi).1
  exact h i s (by omega) hi

set_option maxHeartbeats 1000000 in
theorem specXor_any (a : Option Addr) (c : Nat) (T : List ByteArray) (n : Nat) (hl : T.length = n) (w : World) (h : TextsAt w a T) (hn : n ≤ 1048576) (ht : ∀ s ∈ T, s.size ≤ 1048576) :
    Calls Tryz.prog 135 #[.slice a n c] w fun e w' => XorSays T e ∧ Below w.heap.size w w' := by
  have HH := hide h
  have HT := hide ht
  have HL := hide hl
  clear h ht hl
  go_enter Tryz.func135, Tryz.ntmps135
  go_wp2_with fail
  refine (l1In_any _ _ _ _).mono ?_
  rintro e w1 ⟨rfl, rfl⟩
  by_cases h35 : (1 : Int) ≤ (n : Int) ∧ (n : Int) ≤ 5
  · have hd : decide ((1 : Int) ≤ (n : Int) ∧ (n : Int) ≤ 5) = true := by simpa using h35
    rw [hd]
    clear hd
    have hmk := make_bytes4
    go_wp2
    clear hmk
    go_loopw [5, 6] (fun i u wr => ∃ k : Nat, k ≤ n ∧ i = .int .i64 k ∧ wr.rowIs w1.heap.size 5 4 (xrowF T k 0) ∧ Below w1.heap.size w1 wr ∧ ∀ j x, j < k → T[j]? = some x → x.size = 4) (fun i _ _ => n - (intOf i).toNat)
    case atStart =>
      refine ⟨0, Nat.zero_le _, rfl, ?_, (Below.refl _ _).alloc (Nat.le_refl _) _, fun j x hj => absurd hj (Nat.not_lt_zero _)⟩
      exact (World.rowIs_made w1 (.int .u8 0) 4 _).congr fun i hi => by simp [xrowF, accX]
    case round =>
      obtain ⟨k, hk, rfl, hR, hB, hA⟩ := hrel
      have HA := hide hA
      clear hA
      by_cases hlt : k < n
      · obtain ⟨x, hx⟩ := getElem?_ex (l := T) (k := k) (by have := unhide HL; omega)
        obtain ⟨b1, o1, rfl, g1⟩ := ((unhide HH).below hB (Nat.le_refl _)) k x hx
        have hsz := (unhide HT) x (List.mem_of_getElem? hx)
        have HX := hide hx
        have HR := hide hR
        clear hx hR
        by_cases h4 : x.size = 4
        · have hne : ((x.size : Int) != 4) = false := by simp [h4]
          go_wp2
          go_loopw [6] (fun i w2 => ∃ (q : Nat), q ≤ 4 ∧ i = .int .i64 q ∧ w2.rowIs w1.heap.size 5 4 (xrowF T k q) ∧ Below w1.heap.size w1 w2) (fun i _ => 4 - (intOf i).toNat)
          case atStart => exact ⟨0, Nat.zero_le _, rfl, unhide HR, hB⟩
          case round =>
            obtain ⟨q, hq, rfl, hR2, hB2⟩ := hrel
            have HR2 := hide hR2
            by_cases hq4 : q < 4
            · obtain ⟨b2, o2, hb2, g2⟩ := ((unhide HH).below hB2 (Nat.le_refl _)) k x (unhide HX)
              cases hb2
              have c0 := World.rowIs.cell hR2 (i := q) hq4
              have f0 := World.rowIs.frozen hR2
              have hc0 : xrowF T k q q = .int .u8 (accX T k q) := by simp [xrowF]
              rw [hc0] at c0
              have hq5 : q < x.size := by omega
              have hby := byteZ_at hq5
              have HBY := hide hby
              clear g1 hR2 hc0 hby
              go_wp2
              go_region
              all_goals (
                go_wp2
                go_roundw
                case rel => exact ⟨q + 1, by omega, by go_num, by rw [← unhide HBY]; exact (xrow_step (unhide HX) (unhide HR2)).drew, (hB2.setCell (Nat.le_refl _) _).drew⟩
                case measure => simp [intOf]; omega)
            · have hq' : q = 4 := by omega
              subst hq'
              clear hR2
              go_wp2
              go_roundw
              case rel =>
                refine ⟨k + 1, by omega, by go_num, xrow_next (unhide HR2), hB2, fun j y hj hy => ?_⟩
                by_cases e : j = k
                · subst e; rw [unhide HX] at hy; cases hy; exact h4
                · exact unhide HA j y (by omega) hy
              case measure => simp [intOf]; omega
        · have hne : ((x.size : Int) != 4) = true := by simp; omega
          go_wp2
          go_ret2
          exact ⟨xorSays_no fun hc => absurd (hc.2 x (List.mem_of_getElem? (unhide HX))) h4, hB⟩
      · have hcv := xrow_str hR
        have hkn : k = n := by omega
        have hok := xorOk_of (unhide HL) hkn h35 (unhide HA)
        have HOK := hide hok
        have hkl : T.length = k := by have := unhide HL; omega
        have hs := xorSays_yes hok
        rw [hkl] at hs
        have HS := hide hs
        clear hR hok hs hkn hkl
        go_wp2
        go_ret2
        exact ⟨unhide HS, hB⟩
  · have hd : decide ((1 : Int) ≤ (n : Int) ∧ (n : Int) ≤ 5) = false := by simpa using h35
    rw [hd]
    have H35 := hide h35
    clear hd h35
    go_wp2
    go_ret2
    exact ⟨xorSays_no fun hc => unhide H35 (by have := hc.1; have := unhide HL; omega), Below.refl _ _⟩

set_option maxHeartbeats 1000000 in
theorem implXor_any (a : Option Addr) (c : Nat) (T : List ByteArray) (n : Nat) (hl : T.length = n) (w : World) (h : TextsAt w a T) (hn : n ≤ 1048576) (ht : ∀ s ∈ T, s.size ≤ 1048576) :
    Calls Tryz.prog 29 #[.slice a n c] w fun e w' => XorSays T e ∧ Below w.heap.size w w' := by
  have HH := hide h
  have HT := hide ht
  have HL := hide hl
  clear h ht hl
  go_enter Tryz.func29, Tryz.ntmps29
  go_wp2_with fail
  refine (within_any _ _ _ _).mono ?_
  rintro e w1 ⟨rfl, rfl⟩
  by_cases h35 : (1 : Int) ≤ (n : Int) ∧ (n : Int) ≤ 5
  · have hd : decide ((1 : Int) ≤ (n : Int) ∧ (n : Int) ≤ 5) = true := by simpa using h35
    rw [hd]
    clear hd
    go_wp2
    go_loopw [14] (fun i wr => ∃ k : Nat, k ≤ n ∧ i = .int .i64 k ∧ wr.rowIs w1.heap.size 132 4 (xrowF T k 0) ∧ Below w1.heap.size w1 wr ∧ ∀ j x, j < k → T[j]? = some x → x.size = 4) (fun i _ => n - (intOf i).toNat)
    case atStart =>
      refine ⟨0, Nat.zero_le _, rfl, ?_, (Below.refl _ _).alloc (Nat.le_refl _) _, fun j x hj => absurd hj (Nat.not_lt_zero _)⟩
      refine World.rowIs_alloc w1 #[.int .u8 0, .int .u8 0, .int .u8 0, .int .u8 0] _ _ fun i hi => ?_
      have h4 : i = 0 ∨ i = 1 ∨ i = 2 ∨ i = 3 := by simp at hi; omega
      rcases h4 with rfl | rfl | rfl | rfl <;> simp [xrowF, accX]
    case round =>
      obtain ⟨k, hk, rfl, hR, hB, hA⟩ := hrel
      have HA := hide hA
      clear hA
      by_cases hlt : k < n
      · obtain ⟨x, hx⟩ := getElem?_ex (l := T) (k := k) (by have := unhide HL; omega)
        obtain ⟨b1, o1, rfl, g1⟩ := ((unhide HH).below hB (Nat.le_refl _)) k x hx
        have hsz := (unhide HT) x (List.mem_of_getElem? hx)
        have HX := hide hx
        have HR := hide hR
        clear hx hR
        by_cases h4 : x.size = 4
        · have hne : ((x.size : Int) != 4) = false := by simp [h4]
          go_wp2
          go_loopw [21] (fun i w2 => ∃ (q : Nat), q ≤ 4 ∧ i = .int .i64 q ∧ w2.rowIs w1.heap.size 132 4 (xrowF T k q) ∧ Below w1.heap.size w1 w2) (fun i _ => 4 - (intOf i).toNat)
          case atStart => exact ⟨0, Nat.zero_le _, rfl, unhide HR, hB⟩
          case round =>
            obtain ⟨q, hq, rfl, hR2, hB2⟩ := hrel
            have HR2 := hide hR2
            by_cases hq4 : q < 4
            · have c0 := World.rowIs.cell hR2 (i := q) hq4
              have f0 := World.rowIs.frozen hR2
              have hc0 : xrowF T k q q = .int .u8 (accX T k q) := by simp [xrowF]
              rw [hc0] at c0
              have hq5 : q < x.size := by omega
              have hby := byteZ_at hq5
              have HBY := hide hby
              clear g1 hR2 hc0 hby
              go_wp2
              go_region
              all_goals (
                go_wp2
                go_roundw
                case rel => exact ⟨q + 1, by omega, by go_num, by rw [← unhide HBY]; exact (xrow_step (unhide HX) (unhide HR2)).drew, (hB2.setCell (Nat.le_refl _) _).drew⟩
                case measure => simp [intOf]; omega)
            · have hq' : q = 4 := by omega
              subst hq'
              clear hR2
              go_wp2
              go_roundw
              case rel =>
                refine ⟨k + 1, by omega, by go_num, xrow_next (unhide HR2), hB2, fun j y hj hy => ?_⟩
                by_cases e : j = k
                · subst e; rw [unhide HX] at hy; cases hy; exact h4
                · exact unhide HA j y (by omega) hy
              case measure => simp [intOf]; omega
        · have hne : ((x.size : Int) != 4) = true := by simp; omega
          go_wp2
          go_ret2
          exact ⟨xorSays_no fun hc => absurd (hc.2 x (List.mem_of_getElem? (unhide HX))) h4, hB⟩
      · have hcv := xrow_str hR
        have hkn : k = n := by omega
        have hok := xorOk_of (unhide HL) hkn h35 (unhide HA)
        have HOK := hide hok
        have hkl : T.length = k := by have := unhide HL; omega
        have hs := xorSays_yes hok
        rw [hkl] at hs
        have HS := hide hs
        clear hR hok hs hkn hkl
        go_wp2
        go_ret2
        exact ⟨unhide HS, hB⟩
  · have hd : decide ((1 : Int) ≤ (n : Int) ∧ (n : Int) ≤ 5) = false := by simpa using h35
    rw [hd]
    have H35 := hide h35
    clear hd h35
    go_wp2
    go_ret2
    exact ⟨xorSays_no fun hc => unhide H35 (by have := hc.1; have := unhide HL; omega), Below.refl _ _⟩
end Go.Proofs.YtjgcjeaplckbbaaGreatDoor

/- The exclusive or of texts, in bytes. No program is named here beside what XorI says of it. -/
namespace Go.Proofs.YtjgcjeaplckbbaaGreatDoor
open Go.RowKit
set_option linter.unusedVariables false
set_option linter.unusedSimpArgs false

def byteU (x : ByteArray) (j : Nat) : UInt8 := if h : j < x.size then x[j] else 0

theorem byteZ_U (x : ByteArray) (j : Nat) : byteZ x j = ((byteU x j).toNat : Int) := by
  unfold byteZ byteU
  split <;> simp

theorem bits_xor_u8 (a b : UInt8) : bits .xor .u8 (a.toNat : Int) (b.toNat : Int) = ((a ^^^ b).toNat : Int) := by
  have ha := a.toNat_lt
  have hb := b.toNat_lt
  have hx : a.toNat ^^^ b.toNat < 2 ^ 8 := Nat.xor_lt_two_pow ha hb
  have hbits : IntKind.u8.bits = 8 := rfl
  have e1 : ∀ c : UInt8, (BitVec.ofInt IntKind.u8.bits (c.toNat : Int)).toNat = c.toNat := fun c => by
    have hc := c.toNat_lt
    show (BitVec.ofInt 8 (c.toNat : Int)).toNat = c.toNat
    rw [BitVec.toNat_ofInt]
    omega
  unfold bits
  simp only [UInt8.toNat_xor]
  rw [BitVec.toNat_xor, e1, e1]
  generalize a.toNat ^^^ b.toNat = q at hx
  show (let m := (q : Int) % (2 ^ 8 : Int); if (false && decide (m ≥ (2 ^ 7 : Int))) = true then m - (2 ^ 8 : Int) else m) = (q : Int)
  simp
  omega

def xorB (T : List ByteArray) (j : Nat) : UInt8 := T.foldr (fun x acc => byteU x j ^^^ acc) 0

theorem xorB_append (A B : List ByteArray) (j : Nat) : xorB (A ++ B) j = xorB A j ^^^ xorB B j := by
  induction A with
  | nil => simp [xorB]
  | cons x A ih =>
    show byteU x j ^^^ xorB (A ++ B) j = (byteU x j ^^^ xorB A j) ^^^ xorB B j
    rw [ih, UInt8.xor_assoc]

theorem xorB_reverse (A : List ByteArray) (j : Nat) : xorB A.reverse j = xorB A j := by
  induction A with
  | nil => rfl
  | cons x A ih =>
    rw [List.reverse_cons, xorB_append, ih]
    show xorB A j ^^^ (byteU x j ^^^ 0) = byteU x j ^^^ xorB A j
    rw [UInt8.xor_zero, UInt8.xor_comm]

theorem accX_xorB (T : List ByteArray) (j : Nat) : ∀ k, k ≤ T.length → accX T k j = ((xorB (T.take k) j).toNat : Int) := by
  intro k
  induction k with
  | zero => intro _; simp [accX, xorB]
  | succ k ih =>
    intro hk
    obtain ⟨x, hx⟩ := getElem?_ex (l := T) (k := k) (by omega)
    rw [accX_step hx, ih (by omega), byteZ_U, bits_xor_u8, List.take_add_one, hx, xorB_append]
    simp [xorB]

def textOf (f : Nat → UInt8) : ByteArray := ⟨#[f 0, f 1, f 2, f 3]⟩

theorem textOf_size (f : Nat → UInt8) : (textOf f).size = 4 := rfl
theorem byteU_textOf (f : Nat → UInt8) {j : Nat} (hj : j < 4) : byteU (textOf f) j = f j := by
  have h4 : j = 0 ∨ j = 1 ∨ j = 2 ∨ j = 3 := by omega
  rcases h4 with rfl | rfl | rfl | rfl <;> rfl

theorem textOf_byteU {x : ByteArray} (hx : x.size = 4) : textOf (byteU x) = x := by
  obtain ⟨⟨l⟩⟩ := x
  match l, hx with
  | [a, b, c, d], _ => rfl

theorem textOf_congr {f g : Nat → UInt8} (h : ∀ j, j < 4 → f j = g j) : textOf f = textOf g := by
  unfold textOf
  rw [h 0 (by omega), h 1 (by omega), h 2 (by omega), h 3 (by omega)]

theorem xorT_ok {T : List ByteArray} (h : XorOk T) : xorT T = textOf (xorB T) := by
  unfold xorT
  rw [if_pos h]
  have e := fun j => accX_xorB T j T.length (Nat.le_refl _)
  rw [e, e, e, e, List.take_length]
  simp [strOfNums, textOf]

/-- Backwards they are the same. -/
theorem xor_back {T : List ByteArray} (h : XorOk T) : XorOk T.reverse ∧ xorT T.reverse = xorT T := by
  have h2 : XorOk T.reverse := ⟨by simpa using h.1, fun s hs => h.2 s (by simpa using hs)⟩
  refine ⟨h2, ?_⟩
  rw [xorT_ok h, xorT_ok h2]
  exact textOf_congr fun j _ => xorB_reverse T j

/-- One twice is nothing. -/
theorem xor_twice {x : ByteArray} (h : x.size = 4) : XorOk [x, x] ∧ xorT [x, x] = ⟨#[0, 0, 0, 0]⟩ := by
  have h2 : XorOk [x, x] := ⟨by simp, fun s hs => by simp at hs; rw [hs]; exact h⟩
  refine ⟨h2, ?_⟩
  rw [xorT_ok h2]
  have e : ∀ j, xorB [x, x] j = 0 := fun j => by
    show byteU x j ^^^ (byteU x j ^^^ 0) = 0
    rw [UInt8.xor_zero, UInt8.xor_self]
  unfold textOf
  rw [e, e, e, e]

/-- Each is all the others and what they are together. -/
theorem xor_rest {A B : List ByteArray} {x : ByteArray} (h : XorOk (A ++ x :: B)) : XorOk (xorT (A ++ x :: B) :: A ++ B) ∧ xorT (xorT (A ++ x :: B) :: A ++ B) = x := by
  have hx : x.size = 4 := h.2 x (by simp)
  have e := xorT_ok h
  have h2 : XorOk (xorT (A ++ x :: B) :: A ++ B) := by
    refine ⟨by have := h.1; simp at this ⊢; omega, fun s hs => ?_⟩
    simp at hs
    rcases hs with rfl | hs | hs
    · rw [e]; rfl
    · exact h.2 s (by simp [hs])
    · exact h.2 s (by simp [hs])
  refine ⟨h2, ?_⟩
  rw [xorT_ok h2, e]
  rw [← textOf_byteU hx]
  refine textOf_congr fun j hj => ?_
  rw [textOf_byteU hx]
  show byteU (textOf (xorB (A ++ x :: B))) j ^^^ xorB (A ++ B) j = byteU x j
  rw [byteU_textOf _ hj, xorB_append, xorB_append]
  show (xorB A j ^^^ (byteU x j ^^^ xorB B j)) ^^^ (xorB A j ^^^ xorB B j) = byteU x j
  generalize xorB A j = p
  generalize xorB B j = q
  generalize byteU x j = r
  rw [← UInt8.xor_assoc p r q, UInt8.xor_comm p r, UInt8.xor_assoc r p q, UInt8.xor_assoc, UInt8.xor_self, UInt8.xor_zero]

end Go.Proofs.YtjgcjeaplckbbaaGreatDoor

/- The greatest number on a chip: the model's l2Seq. -/
namespace Go.Proofs.YtjgcjeaplckbbaaGreatDoor
open Go.RowKit
set_option linter.unusedVariables false
set_option linter.unusedSimpArgs false

theorem topStep_max (c : Int × Int) (x : Int × Pg) : (topStep c x).1 = max c.1 x.2.seq := by
  unfold topStep
  split
  · simp; omega
  · omega

set_option maxRecDepth 100000 in
set_option maxHeartbeats 2000000 in
theorem l2Seq_any (a : Option Addr) (c : Nat) (bs : List Bk) (n : Nat) (hl : bs.length = n) (hok : ChipOk bs) (w : World) (h : BlocksAt w a bs) :
    Calls Tryz.prog 186 #[.agg #[.slice a n c]] w fun e w' => e = .returned (.int .i64 (topSeq bs)) ∧ Below w.heap.size w w' := by
  have hn12 : 4 ≤ n ∧ n ≤ 12 := by have := hok.count; omega
  have HL := hide hl
  clear hl
  go_enter Tryz.func186, Tryz.ntmps186
  go_wp2
  go_loopw [3, 4] (fun v i wr => ∃ k : Nat, k ≤ n ∧ i = .int .i64 k ∧ v = .int .i64 (topOf (usedAll (mOf bs) k)).1 ∧ wr = w.alloc (.cells #[.slice a n c] 51)) (fun _ i _ => n - (intOf i).toNat)
  case atStart => exact ⟨0, Nat.zero_le _, rfl, rfl, rfl⟩
  case round =>
    obtain ⟨k, hk, rfl, rfl, rfl⟩ := hrel
    by_cases hlt : k < n
    · obtain ⟨x, hx⟩ := getElem?_ex (l := bs) (k := k) (by have := unhide HL; omega)
      obtain ⟨g1, o1, pa, pc, rfl, hcw, hcp, hpa⟩ := h k x hx
      have h4 := (hok.block x (List.mem_of_getElem? hx)).four
      rw [h4] at hcp
      have hg1 : g1 < w.heap.size := World.block_lt_of_cell? _ _ hcw
      obtain ⟨T, hT⟩ : ∃ T, T = (topOf (usedAll (mOf bs) k)).1 := ⟨_, rfl⟩
      rw [← hT]
      have HT := hide hT
      have HH := hide h
      have HX := hide hx
      clear hT h hx hcw
      go_wp2
      go_loopw [3, 5] (fun v i wr => ∃ j : Nat, j ≤ 4 ∧ i = .int .i64 j ∧ v = .int .i64 (topOf (usedAll (mOf bs) k ++ usedB (mOf bs) k j)).1 ∧ wr = w.alloc (.cells #[.slice (some ⟨g1, o1, none⟩) n c] 51)) (fun _ i _ => 4 - (intOf i).toNat)
      case atStart => exact ⟨0, Nat.zero_le _, rfl, by rw [unhide HT]; simp [usedB], rfl⟩
      case round =>
        obtain ⟨j, hj, rfl, rfl, rfl⟩ := hrel
        by_cases hlt2 : j < 4
        · obtain ⟨p, hp⟩ := getElem?_ex (l := x.pages) (k := j) (by omega)
          obtain ⟨g2, o2, rfl, c0, c1, c2, c3⟩ := hpa j p hp
          have hg2 : g2 < w.heap.size := World.block_lt_of_cell? _ _ c0
          have hsu := usedB_succ (mOf bs) k j
          rw [mOf_page (unhide HX) hp] at hsu
          have hpk := (hok.block x (List.mem_of_getElem? (unhide HX))).page j p hp
          have hbd : 0 ≤ (topOf (usedAll (mOf bs) k ++ usedB (mOf bs) k j)).1 := by
            refine (topOf_bounds _ (fun y hy => ?_)).1
            have hmem : y ∈ usedOf bs := by
              have hpre := used_le (mOf bs) (b := k) (k := j) (n := n) hlt (by omega)
              unfold usedOf
              rw [unhide HL]
              exact hpre.subset hy
            exact (hok.usedRight hmem).2.2.2.1
          have hnew : (topOf (usedAll (mOf bs) k ++ usedB (mOf bs) k (j + 1))).1 = max (topOf (usedAll (mOf bs) k ++ usedB (mOf bs) k j)).1 p.seq := by
            rw [hsu, ← List.append_assoc]
            cases hu : p.used with
            | true =>
              simp only [if_true]
              rw [topOf_snoc, topStep_max]
            | false =>
              simp only [Bool.false_eq_true, if_false, List.append_nil]
              simp only [pgOk, hu, Bool.false_eq_true, if_false, isZero, Bool.and_eq_true, decide_eq_true_eq] at hpk
              rw [hpk.1.2]
              omega
          obtain ⟨T2, hT2⟩ : ∃ T2, T2 = (topOf (usedAll (mOf bs) k ++ usedB (mOf bs) k j)).1 := ⟨_, rfl⟩
          rw [← hT2] at hnew hbd ⊢
          have HN := hide hnew
          have HHK := hide hok
          have HPA := hide hpa
          clear hnew hsu hpk hT2 hok hpa
          go_wp2
          go_roundw
          case rel =>
            refine ⟨j + 1, by omega, by go_num, ?_, trivial⟩
            rw [unhide HN]
            congr 1
            split <;> omega
          case measure => simp [intOf]; omega
        · obtain rfl : j = 4 := by omega
          rw [← usedAll_succ]
          have HHK := hide hok
          have HPA := hide hpa
          clear hok hpa
          go_wp2
          go_roundw
          case rel => exact ⟨k + 1, by omega, by go_num, rfl, trivial⟩
          case measure => simp [intOf]; omega
    · obtain rfl : k = n := by omega
      have HHK := hide hok
      have HH := hide h
      clear hok h
      have e : (topOf (usedAll (mOf bs) k)).1 = topSeq bs := by unfold topSeq usedOf; rw [unhide HL]
      rw [e]
      clear e
      go_wp2
      go_ret
      exact ⟨rfl, (Below.refl _ w).alloc (Nat.le_refl _) _⟩
end Go.Proofs.YtjgcjeaplckbbaaGreatDoor

/- The model's NextOf. -/
namespace Go.Proofs.YtjgcjeaplckbbaaGreatDoor
open Go.RowKit
set_option linter.unusedVariables false
set_option linter.unusedSimpArgs false

set_option maxHeartbeats 1000000 in
theorem l1Next_any (x : Int) (pa : Option Addr) (pc : Nat) (ps : List Pg) (w : World) (h : PagesAt w pa ps) (hn : ps.length ≤ 9223372036854775807) :
    Calls Tryz.prog 187 #[.agg #[.int .i64 x, .slice pa ps.length pc]] w fun e w' => ∃ r : Int, e = .returned (.int .i64 r) ∧ NextIs (fun k => (pagesF ps k).used) ps.length r ∧ Below w.heap.size w w' := by
  have hb0 : ∀ o, Below w.heap.size w (w.alloc o) := fun o => (Below.refl _ w).alloc (Nat.le_refl _) _
  have hp := fun o => h.below (hb0 o) (Nat.le_refl _)
  go_enter Tryz.func187, Tryz.ntmps187
  go_wp2
  go_loop [3] (fun i => ∃ k : Nat, k ≤ ps.length ∧ i = .int .i64 k ∧ ∀ j, j < k → (pagesF ps j).used = true) (fun i => ps.length - (intOf i).toNat)
  case atStart => exact ⟨0, Nat.zero_le _, rfl, fun j hj => absurd hj (Nat.not_lt_zero _)⟩
  case round =>
    obtain ⟨k, hk, rfl, hall⟩ := hrel
    have HA := hide hall
    clear hall
    by_cases hlt : k < ps.length
    · obtain ⟨p, hpk⟩ := getElem?_ex hlt
      obtain ⟨b, o, rfl, c0, _⟩ := h k p hpk
      have hbl : b < w.heap.size := World.block_lt_of_cell? _ _ c0
      have hu : (pagesF ps k).used = p.used := by simp [pagesF, hpk]
      have HU := hide hu
      clear hu hp h hb0
      obtain ⟨u, l, s, d⟩ := p
      simp only at c0
      cases u with
      | true =>
        go_wp2
        go_round
        case rel =>
          refine ⟨k + 1, by omega, by go_num, fun j hj => ?_⟩
          by_cases e : j = k
          · subst e; exact unhide HU
          · exact unhide HA j (by omega)
        case measure => simp [intOf]; omega
      | false =>
        go_wp2
        go_ret
        exact ⟨_, rfl, .inl ⟨k, hlt, by go_num, unhide HU, unhide HA⟩, (Below.refl _ w).alloc (Nat.le_refl _) _⟩
    · have hkn : k = ps.length := by omega
      subst hkn
      clear hp
      go_wp2
      go_ret
      exact ⟨_, rfl, .inr ⟨rfl, unhide HA⟩, hb0 _⟩

end Go.Proofs.YtjgcjeaplckbbaaGreatDoor

/- Regions that draw their order and only read, with callees that lay new memory: one walk, over all worlds that have grown from one. No program is named here. -/
namespace Go.Proofs.YtjgcjeaplckbbaaGreatDoor
open Go.RowKit
set_option linter.unusedVariables false
set_option linter.unusedSimpArgs false

theorem wpQuiet_val {P : Program} {ops : Array Oper} {C : World → Prop} {Q : Act → Prop} {a : Act} {o : Oper} {rest : List Oper} (hw : Region.wanted o (yielded ops a.tmps) = true) (v : Value)
    (hq : ∀ W, C W → o.quietAt P a C W v) (h : wpQuiet P ops C Q rest (a.put o.dst v)) : wpQuiet P ops C Q (o :: rest) a :=
  BigFrame.wpQuiet_want hw fun K hK => ⟨v, hq, hK _ h⟩
theorem wpQuiet_not {P : Program} {ops : Array Oper} {C : World → Prop} {Q : Act → Prop} {a : Act} {o : Oper} {rest : List Oper} (hw : Region.wanted o (yielded ops a.tmps) = false)
    (h : wpQuiet P ops C Q rest (a.put o.dst undef)) : wpQuiet P ops C Q (o :: rest) a := BigFrame.wpQuiet_skip hw h

theorem quietAt_load_mid {P : Program} {o : Oper} {a : Act} {C : World → Prop} {W : World} (ty : TypeId) (x : Operand) (ho : o.op = .load ty x)
    (g off : Nat) (hx : a.eval x = .pointer (some ⟨g, off, none⟩)) (A : Array Value) (s : Nat) (hA : A.size = s) (hc : ∀ j, j < s → W.cell? ⟨g, off + j, none⟩ = A[j]?) (d : TypeDesc)
    (hu : P.underlying ty = some d) (hd : (match d with | .struct _ | .array _ _ => true | _ => false) = true) (hi : (P.info? ty).map (·.size) = some s) : o.quietAt P a C W (.agg A) := by
  unfold Oper.quietAt execOp
  simp only [ho, hx, Instr.loadAt, Instr.sureAddr, Sem.run_bind, Sem.run_pure, Result.andThen_ok, run_loadVar_mid W g off ty A s hA hc d hu hd hi]
  exact ⟨rfl, rfl⟩

theorem wp_region_grown {P : Program} {id : Nat} {Q : Exit → Act → World → Prop} {a : Act} {w : World} {l : List Oper} (C : World → Prop) (hm : P.follows .mixedOrders = true) (hB : Region.lexB .any l.toArray = true) (hC : C { w with drawn := w.drawn + 1 })
    (h : wpQuiet P l.toArray C (fun a' => ∀ w', C w' → Q .normal a' w') l a) : (Code.region id l.toArray true).wp P Q a w :=
  wp_region_quiet (C := C) hm hB hC (by simpa using h)
theorem below_drawn (w : World) : Below w.heap.size w { w with drawn := w.drawn + 1 } := (Below.refl w.heap.size w).drew
theorem Below.step {B : Nat} {a b c : World} (h : Below B a b) (hB : B ≤ b.heap.size) (k : Below b.heap.size b c) : Below B a c := h.trans (k.mono hB)
end Go.Proofs.YtjgcjeaplckbbaaGreatDoor

/- Whether a member is right: the model's FtlOk. -/
namespace Go.Proofs.YtjgcjeaplckbbaaGreatDoor
open Go.RowKit
set_option linter.unusedVariables false
set_option linter.unusedSimpArgs false

set_option maxRecDepth 100000 in
set_option maxHeartbeats 4000000 in
theorem specFtlOk_any (a : Option Addr) (c : Nat) (bs : List Bk) (n : Nat) (hl : bs.length = n) (ma : Option Addr) (mc : Nat) (L : List Int) (mn : Nat) (hL : L.length = mn) (seq o : Int) (w : World) (h : BlocksAt w a bs) (hn : Lens 1048576 bs) (hI : IntsAt w ma L) (hmn : mn ≤ 1048576) :
    Calls Tryz.prog 126 #[.agg #[.slice a n c, .slice ma mn mc, .int .i64 seq, .int .i64 o]] w fun e w' => RetIff (FtlOk bs L seq o) e ∧ Below w.heap.size w w' := by
  have hn1 : n ≤ 1048576 := by have := hn.1; omega
  have hmix : Tryz.prog.follows .mixedOrders = true := by kernel_rfl
  go_enter Tryz.func126, Tryz.ntmps126
  go_wp2_with fail
  obtain ⟨w0, hw0⟩ : ∃ w0, w0 = w.alloc (.cells #[.slice a n c, .slice ma mn mc, .int .i64 seq, .int .i64 o] 53) := ⟨_, rfl⟩
  rw [← hw0]
  have hs0 : w.heap.size < w0.heap.size := by rw [hw0]; simp
  have hx0 : w0.cell? ⟨w.heap.size, 0, none⟩ = some (.slice a n c) := by rw [hw0]; simp
  have hx1 : w0.cell? ⟨w.heap.size, 1, none⟩ = some (.slice ma mn mc) := by rw [hw0]; simp
  have hx2 : w0.cell? ⟨w.heap.size, 2, none⟩ = some (.int .i64 seq) := by rw [hw0]; simp
  have hx3 : w0.cell? ⟨w.heap.size, 3, none⟩ = some (.int .i64 o) := by rw [hw0]; simp
  have hW0 : Below w.heap.size w w0 := by rw [hw0]; exact (Below.refl _ w).alloc (Nat.le_refl _) _
  have HX1 := hide hx1
  have HA : Hid (∀ W, Below w0.heap.size w0 W → BlocksAt W a bs) := fun W hW => h.below (hW0.trans (hW.mono hW0.size)) (Nat.le_refl _)
  have HI : Hid (∀ W, Below w0.heap.size w0 W → IntsAt W ma L) := fun W hW => hI.below (hW0.trans (hW.mono hW0.size)) (Nat.le_refl _)
  have HCK : Hid (∀ W, Below w0.heap.size w0 W → Calls Tryz.prog 185 #[.agg #[.slice a n c]] W fun e w' => RetIff (ChipOk bs) e ∧ Below W.heap.size W w') := fun W hW => by
    subst hl
    refine (specChipOk_any a c bs W (unhide HA W hW) hn).mono ?_
    rintro e w' ⟨r, rfl, hr, hB⟩
    exact ⟨⟨r, rfl, hr⟩, hB⟩
  have HL := hide hl
  have HLL := hide hL
  clear hx1 h hI hn hl hL hw0
  by_cases hc0 : ChipOk bs
  · have hd0 : ∀ r : Bool, (r = true ↔ ChipOk bs) → r = true := fun r h => h.2 hc0
    have hc12 : 4 ≤ n ∧ n ≤ 12 := by have := hc0.count; have := unhide HL; omega
    have htb := hc0.top
    have HSQ : Hid (∀ W, Below w0.heap.size w0 W → Calls Tryz.prog 186 #[.agg #[.slice a n c]] W fun e w' => e = .returned (.int .i64 (topSeq bs)) ∧ Below W.heap.size W w') := fun W hW => l2Seq_any a c bs n (unhide HL) hc0 W (unhide HA W hW)
    have HOK := hide hc0
    obtain ⟨T, hT⟩ : ∃ T, T = topSeq bs := ⟨_, rfl⟩
    rw [← hT] at htb HSQ
    have HT := hide hT
    clear hT hc0
    by_cases hc1 : 0 ≤ o ∧ o ≤ (n : Int) - 1
    · have hd1 : decide ((0 : Int) ≤ o ∧ o ≤ (n : Int) - 1) = true := by simpa using hc1
      by_cases hc2 : 1 ≤ seq ∧ seq ≤ 1000000000
      · have hd2 : decide ((1 : Int) ≤ seq ∧ seq ≤ 1000000000) = true := by simpa using hc2
        by_cases hc3 : seq ≤ T
        · refine wp_region_grown (Below w0.heap.size w0) hmix (by kernel_rfl) (below_drawn w0) ?_
          go_big_quiet_step (exact fun _ => rfl)
          refine wpQuiet_val rfl (.agg #[.slice a n c]) (fun W hC => ?_) ?_
          · have hcl := (hC.cell (p := ⟨w.heap.size, 0, none⟩) (by show w.heap.size < _; omega)).trans hx0
            go_simp
          simp only [Act.put, List.setIfInBounds_toArray, List.set_cons_zero, List.set_cons_succ]
          refine wpQuiet_val rfl (.bool true) (fun W hC => ?_) ?_
          · go_simp
            refine (unhide HCK W hC).mono ?_
            rintro e w' ⟨⟨r9, rfl, hr9⟩, hB'⟩
            refine ⟨?_, hC.trans (hB'.mono hC.size)⟩
            have := hd0 r9 hr9
            rw [this]
          simp only [Act.put, List.setIfInBounds_toArray, List.set_cons_zero, List.set_cons_succ]
          go_big_quiet_step (exact fun _ => rfl)
          go_big_quiet_step (exact fun _ => rfl)
          go_big_quiet_step (exact fun _ => rfl)
          refine wpQuiet_val rfl (.int .i64 o) (fun W hC => ?_) ?_
          · have hcl := (hC.cell (p := ⟨w.heap.size, 3, none⟩) (by show w.heap.size < _; omega)).trans hx3
            go_simp
          simp only [Act.put, List.setIfInBounds_toArray, List.set_cons_zero, List.set_cons_succ]
          go_big_quiet_step (exact fun _ => rfl)
          go_big_quiet_step (exact fun _ => rfl)
          refine wpQuiet_val rfl (.slice a n c) (fun W hC => ?_) ?_
          · have hcl := (hC.cell (p := ⟨w.heap.size, 0, none⟩) (by show w.heap.size < _; omega)).trans hx0
            go_simp
          simp only [Act.put, List.setIfInBounds_toArray, List.set_cons_zero, List.set_cons_succ]
          go_big_quiet_step (exact fun _ => rfl)
          go_big_quiet_step (exact fun _ => rfl)
          refine wpQuiet_val rfl (.bool true) (fun W hC => ?_) ?_
          · go_simp
            refine (l1In_any o 0 ((n : Int) - 1) W).mono ?_
            rintro e w' ⟨rfl, rfl⟩
            exact ⟨by rw [hd1], hC⟩
          simp only [Act.put, List.setIfInBounds_toArray, List.set_cons_zero, List.set_cons_succ]
          go_big_quiet_step (exact fun _ => rfl)
          go_big_quiet_step (exact fun _ => rfl)
          go_big_quiet_step (exact fun _ => rfl)
          go_big_quiet_step (exact fun _ => rfl)
          refine wpQuiet_val rfl (.int .i64 seq) (fun W hC => ?_) ?_
          · have hcl := (hC.cell (p := ⟨w.heap.size, 2, none⟩) (by show w.heap.size < _; omega)).trans hx2
            go_simp
          simp only [Act.put, List.setIfInBounds_toArray, List.set_cons_zero, List.set_cons_succ]
          refine wpQuiet_val rfl (.bool true) (fun W hC => ?_) ?_
          · go_simp
            refine (l1In_any seq 1 1000000000 W).mono ?_
            rintro e w' ⟨rfl, rfl⟩
            exact ⟨by rw [hd2], hC⟩
          simp only [Act.put, List.setIfInBounds_toArray, List.set_cons_zero, List.set_cons_succ]
          go_big_quiet_step (exact fun _ => rfl)
          go_big_quiet_step (exact fun _ => rfl)
          go_big_quiet_step (exact fun _ => rfl)
          go_big_quiet_step (exact fun _ => rfl)
          refine wpQuiet_val rfl (.int .i64 seq) (fun W hC => ?_) ?_
          · have hcl := (hC.cell (p := ⟨w.heap.size, 2, none⟩) (by show w.heap.size < _; omega)).trans hx2
            go_simp
          simp only [Act.put, List.setIfInBounds_toArray, List.set_cons_zero, List.set_cons_succ]
          go_big_quiet_step (exact fun _ => rfl)
          refine wpQuiet_val rfl (.agg #[.slice a n c]) (fun W hC => ?_) ?_
          · have hcl := (hC.cell (p := ⟨w.heap.size, 0, none⟩) (by show w.heap.size < _; omega)).trans hx0
            go_simp
          simp only [Act.put, List.setIfInBounds_toArray, List.set_cons_zero, List.set_cons_succ]
          refine wpQuiet_val rfl (.int .i64 T) (fun W hC => ?_) ?_
          · go_simp
            refine (unhide HSQ W hC).mono ?_
            rintro e w' ⟨rfl, hB'⟩
            exact ⟨rfl, hC.trans (hB'.mono hC.size)⟩
          simp only [Act.put, List.setIfInBounds_toArray, List.set_cons_zero, List.set_cons_succ]
          go_big_quiet_step (exact fun _ => rfl)
          go_big_quiet_step (exact fun _ => rfl)
          refine wpQuiet_nil ?_
          intro w8 hC8
          have hW8 := hW0.trans (hC8.mono hW0.size)
          have HNO : Hid (¬ FtlOk bs L seq o) := fun hf => by have h1 := hf.seq.1; rw [← unhide HT] at h1; omega
          clear hC8 hx0 hx2 hx3 HCK
          go_wp2
          go_ret
          exact ⟨RetIff.no (unhide HNO), hW8⟩
        · refine wp_region_grown (Below w0.heap.size w0) hmix (by kernel_rfl) (below_drawn w0) ?_
          go_big_quiet_step (exact fun _ => rfl)
          refine wpQuiet_val rfl (.agg #[.slice a n c]) (fun W hC => ?_) ?_
          · have hcl := (hC.cell (p := ⟨w.heap.size, 0, none⟩) (by show w.heap.size < _; omega)).trans hx0
            go_simp
          simp only [Act.put, List.setIfInBounds_toArray, List.set_cons_zero, List.set_cons_succ]
          refine wpQuiet_val rfl (.bool true) (fun W hC => ?_) ?_
          · go_simp
            refine (unhide HCK W hC).mono ?_
            rintro e w' ⟨⟨r9, rfl, hr9⟩, hB'⟩
            refine ⟨?_, hC.trans (hB'.mono hC.size)⟩
            have := hd0 r9 hr9
            rw [this]
          simp only [Act.put, List.setIfInBounds_toArray, List.set_cons_zero, List.set_cons_succ]
          go_big_quiet_step (exact fun _ => rfl)
          go_big_quiet_step (exact fun _ => rfl)
          go_big_quiet_step (exact fun _ => rfl)
          refine wpQuiet_val rfl (.int .i64 o) (fun W hC => ?_) ?_
          · have hcl := (hC.cell (p := ⟨w.heap.size, 3, none⟩) (by show w.heap.size < _; omega)).trans hx3
            go_simp
          simp only [Act.put, List.setIfInBounds_toArray, List.set_cons_zero, List.set_cons_succ]
          go_big_quiet_step (exact fun _ => rfl)
          go_big_quiet_step (exact fun _ => rfl)
          refine wpQuiet_val rfl (.slice a n c) (fun W hC => ?_) ?_
          · have hcl := (hC.cell (p := ⟨w.heap.size, 0, none⟩) (by show w.heap.size < _; omega)).trans hx0
            go_simp
          simp only [Act.put, List.setIfInBounds_toArray, List.set_cons_zero, List.set_cons_succ]
          go_big_quiet_step (exact fun _ => rfl)
          go_big_quiet_step (exact fun _ => rfl)
          refine wpQuiet_val rfl (.bool true) (fun W hC => ?_) ?_
          · go_simp
            refine (l1In_any o 0 ((n : Int) - 1) W).mono ?_
            rintro e w' ⟨rfl, rfl⟩
            exact ⟨by rw [hd1], hC⟩
          simp only [Act.put, List.setIfInBounds_toArray, List.set_cons_zero, List.set_cons_succ]
          go_big_quiet_step (exact fun _ => rfl)
          go_big_quiet_step (exact fun _ => rfl)
          go_big_quiet_step (exact fun _ => rfl)
          go_big_quiet_step (exact fun _ => rfl)
          refine wpQuiet_val rfl (.int .i64 seq) (fun W hC => ?_) ?_
          · have hcl := (hC.cell (p := ⟨w.heap.size, 2, none⟩) (by show w.heap.size < _; omega)).trans hx2
            go_simp
          simp only [Act.put, List.setIfInBounds_toArray, List.set_cons_zero, List.set_cons_succ]
          refine wpQuiet_val rfl (.bool true) (fun W hC => ?_) ?_
          · go_simp
            refine (l1In_any seq 1 1000000000 W).mono ?_
            rintro e w' ⟨rfl, rfl⟩
            exact ⟨by rw [hd2], hC⟩
          simp only [Act.put, List.setIfInBounds_toArray, List.set_cons_zero, List.set_cons_succ]
          go_big_quiet_step (exact fun _ => rfl)
          go_big_quiet_step (exact fun _ => rfl)
          go_big_quiet_step (exact fun _ => rfl)
          go_big_quiet_step (exact fun _ => rfl)
          refine wpQuiet_val rfl (.int .i64 seq) (fun W hC => ?_) ?_
          · have hcl := (hC.cell (p := ⟨w.heap.size, 2, none⟩) (by show w.heap.size < _; omega)).trans hx2
            go_simp
          simp only [Act.put, List.setIfInBounds_toArray, List.set_cons_zero, List.set_cons_succ]
          go_big_quiet_step (exact fun _ => rfl)
          refine wpQuiet_val rfl (.agg #[.slice a n c]) (fun W hC => ?_) ?_
          · have hcl := (hC.cell (p := ⟨w.heap.size, 0, none⟩) (by show w.heap.size < _; omega)).trans hx0
            go_simp
          simp only [Act.put, List.setIfInBounds_toArray, List.set_cons_zero, List.set_cons_succ]
          refine wpQuiet_val rfl (.int .i64 T) (fun W hC => ?_) ?_
          · go_simp
            refine (unhide HSQ W hC).mono ?_
            rintro e w' ⟨rfl, hB'⟩
            exact ⟨rfl, hC.trans (hB'.mono hC.size)⟩
          simp only [Act.put, List.setIfInBounds_toArray, List.set_cons_zero, List.set_cons_succ]
          go_big_quiet_step (exact fun _ => rfl)
          go_big_quiet_step (exact fun _ => rfl)
          refine wpQuiet_nil ?_
          intro w8 hC8
          have hW8 := hW0.trans (hC8.mono hW0.size)
          have hs8 := hC8.size
          have hx8 := (hC8.cell (p := ⟨w.heap.size, 0, none⟩) (by show w.heap.size < _; omega)).trans hx0
          have hm8 := (hC8.cell (p := ⟨w.heap.size, 1, none⟩) (by show w.heap.size < _; omega)).trans (unhide HX1)
          have ho8 := (hC8.cell (p := ⟨w.heap.size, 3, none⟩) (by show w.heap.size < _; omega)).trans hx3
          have HSEQ : Hid (topSeq bs + 1 ≤ seq ∧ seq ≤ 1000000000) := ⟨by rw [← unhide HT]; omega, hc2.2⟩
          have HOPN : Hid (0 ≤ o ∧ o ≤ (bs.length : Int) - 1) := by rw [unhide HL]; exact hc1
          have HA8 := hide (unhide HA w8 hC8)
          have HI8 := hide (unhide HI w8 hC8)
          clear hx0 hx2 hx3 HCK HSQ HX1 hC8 hW0 hd0 hd1 hd2 hc2 hc3 htb HA HI hmix hc1
          go_wp2_with fail
          refine (l2Map_any a c bs n (unhide HL) (unhide HOK) w8 (unhide HA8)).mono ?_
          rintro e w9 ⟨⟨v, r, L2, rfl, hM, hv⟩, hB9⟩
          obtain ⟨a2, c2, rfl, hI2, _⟩ := hv.form
          have hs9 := hB9.size
          have hW9 := hW8.trans (hB9.mono hW8.size)
          have hx9 := (hB9.cell (p := ⟨w.heap.size, 0, none⟩) (by show w.heap.size < _; omega)).trans hx8
          have hm9 := (hB9.cell (p := ⟨w.heap.size, 1, none⟩) (by show w.heap.size < _; omega)).trans hm8
          have ho9 := (hB9.cell (p := ⟨w.heap.size, 3, none⟩) (by show w.heap.size < _; omega)).trans ho8
          have HA9 := hide ((unhide HA8).below hB9 (Nat.le_refl _))
          have HI9 := hide ((unhide HI8).below hB9 (Nat.le_refl _))
          have HI2 := hide hI2
          have HMM := hide hM
          clear hv hM hI2 hB9 hx8 hm8 ho8 HA8 HI8 hW8
          cases r with
          | false =>
            have HNF : Hid (¬ FtlOk bs L seq o) := fun hf => by have := (unhide HMM).1.2 hf.fits; cases this
            clear HMM
            go_wp2
            go_ret
            exact ⟨RetIff.no (unhide HNF), hW9⟩
          | true =>
            have HFT : Hid (Fits bs) := (unhide HMM).1.1 rfl
            have hl2 : L2 = placesOf (usedOf bs) (roomOf bs) := by have := (unhide HMM).2; simpa using this
            have HL2 := hide hl2
            have hl36 : L2.length ≤ 36 := (unhide HMM).length (by have := unhide HL; omega)
            clear HMM hl2
            obtain ⟨len, hlen⟩ : ∃ len, L2.length = len := ⟨_, rfl⟩
            rw [hlen] at hl36 ⊢
            have HLEN := hide hlen
            clear hlen
            by_cases hlm : len = mn
            · subst hlm
              go_wp2
              go_loopw [5] (fun i wr => ∃ k : Nat, k ≤ len ∧ i = .int .i64 k ∧ (∀ j, j < k → L2[j]? = L[j]?) ∧ Below w9.heap.size w9 wr) (fun i _ => len - (intOf i).toNat)
              case atStart => exact ⟨0, Nat.zero_le _, rfl, fun j hj => absurd hj (Nat.not_lt_zero _), Below.refl _ _⟩
              case round =>
                obtain ⟨k, hk, rfl, hall, hB⟩ := hrel
                have hsr := hB.size
                have hmr := (hB.cell (p := ⟨w.heap.size, 1, none⟩) (by show w.heap.size < _; omega)).trans hm9
                by_cases hlt : k < len
                · obtain ⟨x, hx⟩ := getElem?_ex (l := L2) (k := k) (by have := unhide HLEN; omega)
                  obtain ⟨y, hy⟩ := getElem?_ex (l := L) (k := k) (by have := unhide HLL; omega)
                  obtain ⟨b1, o1, rfl, c1⟩ := ((unhide HI2).below hB (Nat.le_refl _)) k x hx
                  obtain ⟨b2, o2, rfl, c2'⟩ := ((unhide HI9).below hB (Nat.le_refl _)) k y hy
                  have HAL := hide hall
                  have HX := hide hx
                  have HY := hide hy
                  clear hall hx hy
                  by_cases hxy : x = y
                  · subst hxy
                    have hne : (x != x) = false := by simp
                    go_wp2_with fail
                    go_quiet (fail)
                    go_wp2
                    go_roundw
                    case rel =>
                      refine ⟨k + 1, by omega, by go_num, fun j hj => ?_, Below.drewN hB _⟩
                      by_cases e : j = k
                      · subst e; rw [unhide HX, unhide HY]
                      · exact unhide HAL j (by omega)
                    case measure => simp [intOf]; omega
                  · have hne : (x != y) = true := by simpa using hxy
                    go_wp2_with fail
                    go_quiet (fail)
                    go_wp2
                    go_ret
                    refine ⟨RetIff.no (fun hf => ?_), hW9.trans (Below.drewN (hB.mono hW9.size) _)⟩
                    have e := unhide HX
                    rw [unhide HL2, ← hf.map, unhide HY] at e
                    cases e
                    exact hxy rfl
                · obtain rfl : k = len := by omega
                  have HLM : Hid (L = placesOf (usedOf bs) (roomOf bs)) := by
                    rw [← unhide HL2]
                    refine List.ext_getElem? (fun j => ?_)
                    by_cases hj : j < k
                    · exact (hall j hj).symm
                    · rw [List.getElem?_eq_none (by have := unhide HLL; omega), List.getElem?_eq_none (by have := unhide HLEN; omega)]
                  have hxr := (hB.cell (p := ⟨w.heap.size, 0, none⟩) (by show w.heap.size < _; omega)).trans hx9
                  have hor := (hB.cell (p := ⟨w.heap.size, 3, none⟩) (by show w.heap.size < _; omega)).trans ho9
                  have HAr := hide ((unhide HA9).below hB (Nat.le_refl _))
                  have hWr := hW9.trans (hB.mono hW9.size)
                  have hsrw : w.heap.size < wr.heap.size := by omega
                  clear hall hB HI9 HI2 HL2 hmr hx9 hm9 ho9 HA9 hW9
                  obtain ⟨w10, rfl⟩ : ∃ w10, w10 = wr := ⟨_, rfl⟩
                  go_wp2
                  go_loopw [6, 7] (fun f i wr => ∃ (t : Nat) (z : Nat), t ≤ n ∧ i = .int .i64 t ∧ f = .int .i64 z ∧ z ≤ t ∧ (0 < z ↔ oneFree bs o t) ∧ noHalf bs o t ∧ Below w10.heap.size w10 wr) (fun _ i _ => n - (intOf i).toNat)
                  case atStart =>
                    refine ⟨0, 0, Nat.zero_le _, rfl, rfl, Nat.le_refl _, ⟨fun hz => absurd hz (Nat.lt_irrefl _), ?_⟩, fun i x hi => absurd hi (Nat.not_lt_zero _), Below.refl _ _⟩
                    rintro ⟨i, x, hi, _⟩
                    exact absurd hi (Nat.not_lt_zero _)
                  case round =>
                    obtain ⟨t, z, ht, rfl, rfl, hzt, hO, hH, hB⟩ := hrel
                    have hsq := hB.size
                    have hxq := (hB.cell (p := ⟨w.heap.size, 0, none⟩) hsrw).trans hxr
                    have hoq := (hB.cell (p := ⟨w.heap.size, 3, none⟩) hsrw).trans hor
                    have HO := hide hO
                    have HH := hide hH
                    clear hO hH
                    by_cases hlt : t < n
                    · obtain ⟨x, hx⟩ := getElem?_ex (l := bs) (k := t) (by have := unhide HL; omega)
                      obtain ⟨g1, o1, pa, pc, rfl, hcw, hcp, hpa⟩ := ((unhide HAr).below hB (Nat.le_refl _)) t x hx
                      have h4 := ((unhide HOK).block x (List.mem_of_getElem? hx)).four
                      rw [h4] at hcp
                      have hl1 := l1Next_any x.wear pa pc x.pages wr hpa (by omega)
                      rw [h4] at hl1
                      have HN1 := hide hl1
                      have HNO := hide (noHalf_succ (o := o) hx)
                      have HOF := hide (oneFree_succ (o := o) hx)
                      have HX := hide hx
                      clear hl1 hpa h4 hx
                      go_wp2_with fail
                      refine (unhide HN1).mono ?_
                      rintro e w2 ⟨r, rfl, hr, hB2⟩
                      obtain ⟨k1, k2, _⟩ := NextIs.kinds (b := x) hr
                      have hs2 := hB2.size
                      have ho2 := (hB2.cell (p := ⟨w.heap.size, 3, none⟩) (by show w.heap.size < _; omega)).trans hoq
                      have hBB : Below w10.heap.size w10 w2 := hB.trans (hB2.mono hB.size)
                      have hW2 := hWr.trans (hBB.mono hWr.size)
                      clear hr hB2 hB HN1 hxq hoq hcw hcp
                      by_cases hto : (t : Int) = o
                      · have hne : ((t : Int) != o) = false := by simpa using hto
                        clear k1 k2
                        go_wp2
                        go_roundw
                        case rel =>
                          refine ⟨t + 1, z, by omega, by go_num, rfl, by omega, ?_, ?_, hBB⟩
                          · rw [unhide HOF, unhide HO]; exact ⟨fun hz => .inl hz, fun hz => hz.elim id (fun hz => absurd hto hz.1)⟩
                          · rw [unhide HNO]; exact ⟨unhide HH, fun hz => absurd hto hz⟩
                        case measure => simp [intOf]; omega
                      · have hne : ((t : Int) != o) = true := by simpa using hto
                        cases hh : halfB x with
                        | true =>
                          rw [hh] at k2
                          have hr0 : 0 < r := by simpa using k2
                          clear k1 k2
                          go_wp2
                          go_ret
                          refine ⟨RetIff.no (fun hf => ?_), hW2⟩
                          have := hf.settled.1 t x (by have := unhide HL; omega) (unhide HX) hto
                          rw [hh] at this
                          cases this
                        | false =>
                          rw [hh] at k2
                          have hr0 : ¬ 0 < r := by simpa using k2
                          cases hfr : freeB x with
                          | true =>
                            rw [hfr] at k1
                            obtain rfl : r = 0 := by simpa using k1
                            clear k1 k2 hr0
                            go_wp2
                            go_roundw
                            case rel =>
                              refine ⟨t + 1, z + 1, by omega, by go_num, by go_num, by omega, ?_, ?_, hBB⟩
                              · rw [unhide HOF]; exact ⟨fun _ => .inr ⟨hto, hfr⟩, fun _ => Nat.succ_pos _⟩
                              · rw [unhide HNO]; exact ⟨unhide HH, fun _ => hh⟩
                            case measure => simp [intOf]; omega
                          | false =>
                            rw [hfr] at k1
                            have hr1 : ¬ r = 0 := by simpa using k1
                            have hr2 : (r == 0) = false := by simpa using hr1
                            clear k1 k2
                            go_wp2
                            go_roundw
                            case rel =>
                              refine ⟨t + 1, z, by omega, by go_num, rfl, by omega, ?_, ?_, hBB⟩
                              · rw [unhide HOF, unhide HO]; exact ⟨fun hz => .inl hz, fun hz => hz.elim id (fun hz => by rw [hfr] at hz; cases hz.2)⟩
                              · rw [unhide HNO]; exact ⟨unhide HH, fun _ => hh⟩
                            case measure => simp [intOf]; omega
                    · obtain rfl : t = n := by omega
                      have hW2 := hWr.trans (hB.mono hWr.size)
                      go_wp2
                      go_ret
                      refine ⟨⟨_, rfl, ?_⟩, hW2⟩
                      simp only [decide_eq_true_eq]
                      constructor
                      · intro hz
                        refine ⟨unhide HOK, unhide HFT, unhide HLM, unhide HSEQ, unhide HOPN, ?_, ?_⟩
                        · rw [unhide HL]; exact unhide HH
                        · rw [unhide HL]; exact (unhide HO).1 (by omega)
                      · intro hf
                        have h1 := hf.settled.2
                        rw [unhide HL] at h1
                        have := (unhide HO).2 h1
                        omega
            · have hne : ((len : Int) != (mn : Int)) = true := by simp; omega
              have HNF : Hid (¬ FtlOk bs L seq o) := fun hf => hlm (by have h1 := unhide HLEN; have h2 := unhide HLL; have h3 := unhide HL2; rw [← hf.map] at h3; rw [h3] at h1; omega)
              go_wp2
              go_ret
              exact ⟨RetIff.no (unhide HNF), hW9⟩
      · have hd2 : decide ((1 : Int) ≤ seq ∧ seq ≤ 1000000000) = false := by simpa using hc2
        refine wp_region_grown (Below w0.heap.size w0) hmix (by kernel_rfl) (below_drawn w0) ?_
        go_big_quiet_step (exact fun _ => rfl)
        refine wpQuiet_val rfl (.agg #[.slice a n c]) (fun W hC => ?_) ?_
        · have hcl := (hC.cell (p := ⟨w.heap.size, 0, none⟩) (by show w.heap.size < _; omega)).trans hx0
          go_simp
        simp only [Act.put, List.setIfInBounds_toArray, List.set_cons_zero, List.set_cons_succ]
        refine wpQuiet_val rfl (.bool true) (fun W hC => ?_) ?_
        · go_simp
          refine (unhide HCK W hC).mono ?_
          rintro e w' ⟨⟨r9, rfl, hr9⟩, hB'⟩
          refine ⟨?_, hC.trans (hB'.mono hC.size)⟩
          have := hd0 r9 hr9
          rw [this]
        simp only [Act.put, List.setIfInBounds_toArray, List.set_cons_zero, List.set_cons_succ]
        go_big_quiet_step (exact fun _ => rfl)
        go_big_quiet_step (exact fun _ => rfl)
        go_big_quiet_step (exact fun _ => rfl)
        refine wpQuiet_val rfl (.int .i64 o) (fun W hC => ?_) ?_
        · have hcl := (hC.cell (p := ⟨w.heap.size, 3, none⟩) (by show w.heap.size < _; omega)).trans hx3
          go_simp
        simp only [Act.put, List.setIfInBounds_toArray, List.set_cons_zero, List.set_cons_succ]
        go_big_quiet_step (exact fun _ => rfl)
        go_big_quiet_step (exact fun _ => rfl)
        refine wpQuiet_val rfl (.slice a n c) (fun W hC => ?_) ?_
        · have hcl := (hC.cell (p := ⟨w.heap.size, 0, none⟩) (by show w.heap.size < _; omega)).trans hx0
          go_simp
        simp only [Act.put, List.setIfInBounds_toArray, List.set_cons_zero, List.set_cons_succ]
        go_big_quiet_step (exact fun _ => rfl)
        go_big_quiet_step (exact fun _ => rfl)
        refine wpQuiet_val rfl (.bool true) (fun W hC => ?_) ?_
        · go_simp
          refine (l1In_any o 0 ((n : Int) - 1) W).mono ?_
          rintro e w' ⟨rfl, rfl⟩
          exact ⟨by rw [hd1], hC⟩
        simp only [Act.put, List.setIfInBounds_toArray, List.set_cons_zero, List.set_cons_succ]
        go_big_quiet_step (exact fun _ => rfl)
        go_big_quiet_step (exact fun _ => rfl)
        go_big_quiet_step (exact fun _ => rfl)
        go_big_quiet_step (exact fun _ => rfl)
        refine wpQuiet_val rfl (.int .i64 seq) (fun W hC => ?_) ?_
        · have hcl := (hC.cell (p := ⟨w.heap.size, 2, none⟩) (by show w.heap.size < _; omega)).trans hx2
          go_simp
        simp only [Act.put, List.setIfInBounds_toArray, List.set_cons_zero, List.set_cons_succ]
        refine wpQuiet_val rfl (.bool false) (fun W hC => ?_) ?_
        · go_simp
          refine (l1In_any seq 1 1000000000 W).mono ?_
          rintro e w' ⟨rfl, rfl⟩
          exact ⟨by rw [hd2], hC⟩
        simp only [Act.put, List.setIfInBounds_toArray, List.set_cons_zero, List.set_cons_succ]
        go_big_quiet_step (exact fun _ => rfl)
        go_big_quiet_step (exact fun _ => rfl)
        go_big_quiet_step (exact fun _ => rfl)
        go_big_quiet_step (exact fun _ => rfl)
        go_big_quiet_step (exact fun _ => rfl)
        go_big_quiet_step (exact fun _ => rfl)
        go_big_quiet_step (exact fun _ => rfl)
        go_big_quiet_step (exact fun _ => rfl)
        go_big_quiet_step (exact fun _ => rfl)
        go_big_quiet_step (exact fun _ => rfl)
        refine wpQuiet_nil ?_
        intro w8 hC8
        have hW8 := hW0.trans (hC8.mono hW0.size)
        have HNO : Hid (¬ FtlOk bs L seq o) := fun hf => hc2 (by have h1 := hf.seq; rw [← unhide HT] at h1; omega)
        clear hC8 hx0 hx2 hx3 HCK
        go_wp2
        go_ret
        exact ⟨RetIff.no (unhide HNO), hW8⟩
    · have hd1 : decide ((0 : Int) ≤ o ∧ o ≤ (n : Int) - 1) = false := by simpa using hc1
      refine wp_region_grown (Below w0.heap.size w0) hmix (by kernel_rfl) (below_drawn w0) ?_
      go_big_quiet_step (exact fun _ => rfl)
      refine wpQuiet_val rfl (.agg #[.slice a n c]) (fun W hC => ?_) ?_
      · have hcl := (hC.cell (p := ⟨w.heap.size, 0, none⟩) (by show w.heap.size < _; omega)).trans hx0
        go_simp
      simp only [Act.put, List.setIfInBounds_toArray, List.set_cons_zero, List.set_cons_succ]
      refine wpQuiet_val rfl (.bool true) (fun W hC => ?_) ?_
      · go_simp
        refine (unhide HCK W hC).mono ?_
        rintro e w' ⟨⟨r9, rfl, hr9⟩, hB'⟩
        refine ⟨?_, hC.trans (hB'.mono hC.size)⟩
        have := hd0 r9 hr9
        rw [this]
      simp only [Act.put, List.setIfInBounds_toArray, List.set_cons_zero, List.set_cons_succ]
      go_big_quiet_step (exact fun _ => rfl)
      go_big_quiet_step (exact fun _ => rfl)
      go_big_quiet_step (exact fun _ => rfl)
      refine wpQuiet_val rfl (.int .i64 o) (fun W hC => ?_) ?_
      · have hcl := (hC.cell (p := ⟨w.heap.size, 3, none⟩) (by show w.heap.size < _; omega)).trans hx3
        go_simp
      simp only [Act.put, List.setIfInBounds_toArray, List.set_cons_zero, List.set_cons_succ]
      go_big_quiet_step (exact fun _ => rfl)
      go_big_quiet_step (exact fun _ => rfl)
      refine wpQuiet_val rfl (.slice a n c) (fun W hC => ?_) ?_
      · have hcl := (hC.cell (p := ⟨w.heap.size, 0, none⟩) (by show w.heap.size < _; omega)).trans hx0
        go_simp
      simp only [Act.put, List.setIfInBounds_toArray, List.set_cons_zero, List.set_cons_succ]
      go_big_quiet_step (exact fun _ => rfl)
      go_big_quiet_step (exact fun _ => rfl)
      refine wpQuiet_val rfl (.bool false) (fun W hC => ?_) ?_
      · go_simp
        refine (l1In_any o 0 ((n : Int) - 1) W).mono ?_
        rintro e w' ⟨rfl, rfl⟩
        exact ⟨by rw [hd1], hC⟩
      simp only [Act.put, List.setIfInBounds_toArray, List.set_cons_zero, List.set_cons_succ]
      go_big_quiet_step (exact fun _ => rfl)
      go_big_quiet_step (exact fun _ => rfl)
      go_big_quiet_step (exact fun _ => rfl)
      go_big_quiet_step (exact fun _ => rfl)
      go_big_quiet_step (exact fun _ => rfl)
      go_big_quiet_step (exact fun _ => rfl)
      go_big_quiet_step (exact fun _ => rfl)
      go_big_quiet_step (exact fun _ => rfl)
      go_big_quiet_step (exact fun _ => rfl)
      go_big_quiet_step (exact fun _ => rfl)
      go_big_quiet_step (exact fun _ => rfl)
      go_big_quiet_step (exact fun _ => rfl)
      go_big_quiet_step (exact fun _ => rfl)
      go_big_quiet_step (exact fun _ => rfl)
      go_big_quiet_step (exact fun _ => rfl)
      go_big_quiet_step (exact fun _ => rfl)
      refine wpQuiet_nil ?_
      intro w8 hC8
      have hW8 := hW0.trans (hC8.mono hW0.size)
      have HNO : Hid (¬ FtlOk bs L seq o) := fun hf => hc1 (by rw [← unhide HL]; exact hf.opn)
      clear hC8 hx0 hx2 hx3 HCK
      go_wp2
      go_ret
      exact ⟨RetIff.no (unhide HNO), hW8⟩
  · have hd0 : ∀ r : Bool, (r = true ↔ ChipOk bs) → r = false := fun r h => by cases r; rfl; exact absurd (h.1 rfl) hc0
    refine wp_region_grown (Below w0.heap.size w0) hmix (by kernel_rfl) (below_drawn w0) ?_
    go_big_quiet_step (exact fun _ => rfl)
    refine wpQuiet_val rfl (.agg #[.slice a n c]) (fun W hC => ?_) ?_
    · have hcl := (hC.cell (p := ⟨w.heap.size, 0, none⟩) (by show w.heap.size < _; omega)).trans hx0
      go_simp
    simp only [Act.put, List.setIfInBounds_toArray, List.set_cons_zero, List.set_cons_succ]
    refine wpQuiet_val rfl (.bool false) (fun W hC => ?_) ?_
    · go_simp
      refine (unhide HCK W hC).mono ?_
      rintro e w' ⟨⟨r9, rfl, hr9⟩, hB'⟩
      refine ⟨?_, hC.trans (hB'.mono hC.size)⟩
      have := hd0 r9 hr9
      rw [this]
    simp only [Act.put, List.setIfInBounds_toArray, List.set_cons_zero, List.set_cons_succ]
    go_big_quiet_step (exact fun _ => rfl)
    go_big_quiet_step (exact fun _ => rfl)
    go_big_quiet_step (exact fun _ => rfl)
    go_big_quiet_step (exact fun _ => rfl)
    go_big_quiet_step (exact fun _ => rfl)
    go_big_quiet_step (exact fun _ => rfl)
    go_big_quiet_step (exact fun _ => rfl)
    go_big_quiet_step (exact fun _ => rfl)
    go_big_quiet_step (exact fun _ => rfl)
    go_big_quiet_step (exact fun _ => rfl)
    go_big_quiet_step (exact fun _ => rfl)
    go_big_quiet_step (exact fun _ => rfl)
    go_big_quiet_step (exact fun _ => rfl)
    go_big_quiet_step (exact fun _ => rfl)
    go_big_quiet_step (exact fun _ => rfl)
    go_big_quiet_step (exact fun _ => rfl)
    go_big_quiet_step (exact fun _ => rfl)
    go_big_quiet_step (exact fun _ => rfl)
    go_big_quiet_step (exact fun _ => rfl)
    go_big_quiet_step (exact fun _ => rfl)
    go_big_quiet_step (exact fun _ => rfl)
    go_big_quiet_step (exact fun _ => rfl)
    go_big_quiet_step (exact fun _ => rfl)
    go_big_quiet_step (exact fun _ => rfl)
    go_big_quiet_step (exact fun _ => rfl)
    go_big_quiet_step (exact fun _ => rfl)
    refine wpQuiet_nil ?_
    intro w8 hC8
    have hW8 := hW0.trans (hC8.mono hW0.size)
    have HNO : Hid (¬ FtlOk bs L seq o) := fun hf => hc0 hf.chip
    clear hC8 hx0 hx2 hx3 HCK
    go_wp2
    go_ret
    exact ⟨RetIff.no (unhide HNO), hW8⟩
end Go.Proofs.YtjgcjeaplckbbaaGreatDoor
