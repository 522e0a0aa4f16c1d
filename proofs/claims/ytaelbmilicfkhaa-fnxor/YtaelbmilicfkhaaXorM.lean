/- The exclusive or of texts, in bytes. No program is named here beside what XorI says of it. -/
import Derived.Test.YtaelbmilicfkhaaXorI
namespace Go.Proofs.Ytaelbmilicfkhaa
open Go.RowKit
set_option linter.unusedVariables false
set_option linter.unusedSimpArgs false

def byteU (x : ByteArray) (j : Nat) : UInt8 := if h : j < x.size then x[j] else 0

theorem byteZ_U (x : ByteArray) (j : Nat) : byteZ x j = ((byteU x j).toNat : Int) := by
  unfold byteZ byteU
  split <;> simp

theorem bits_xor_u8 (a b : UInt8) : bits .xor .u8 (a.toNat : Int) (b.toNat : Int) = ((a ^^^ b).toNat : Int) := by
  have ha := a.toNat_lt
  have hb := b.toNat_lt
  have hx : a.toNat ^^^ b.toNat < 2 ^ 8 := Nat.xor_lt_two_pow ha hb
  have hbits : IntKind.u8.bits = 8 := rfl
  have e1 : ∀ c : UInt8, (BitVec.ofInt IntKind.u8.bits (c.toNat : Int)).toNat = c.toNat := fun c => by
    have hc := c.toNat_lt
    show (BitVec.ofInt 8 (c.toNat : Int)).toNat = c.toNat
    rw [BitVec.toNat_ofInt]
    omega
  unfold bits
  simp only [UInt8.toNat_xor]
  rw [BitVec.toNat_xor, e1, e1]
  generalize a.toNat ^^^ b.toNat = q at hx
  show (let m := (q : Int) % (2 ^ 8 : Int); if (false && decide (m ≥ (2 ^ 7 : Int))) = true then m - (2 ^ 8 : Int) else m) = (q : Int)
  simp
  omega

def xorB (T : List ByteArray) (j : Nat) : UInt8 := T.foldr (fun x acc => byteU x j ^^^ acc) 0

theorem xorB_append (A B : List ByteArray) (j : Nat) : xorB (A ++ B) j = xorB A j ^^^ xorB B j := by
  induction A with
  | nil => simp [xorB]
  | cons x A ih =>
    show byteU x j ^^^ xorB (A ++ B) j = (byteU x j ^^^ xorB A j) ^^^ xorB B j
    rw [ih, UInt8.xor_assoc]

theorem xorB_reverse (A : List ByteArray) (j : Nat) : xorB A.reverse j = xorB A j := by
  induction A with
  | nil => rfl
  | cons x A ih =>
    rw [List.reverse_cons, xorB_append, ih]
    show xorB A j ^^^ (byteU x j ^^^ 0) = byteU x j ^^^ xorB A j
    rw [UInt8.xor_zero, UInt8.xor_comm]

theorem accX_xorB (T : List ByteArray) (j : Nat) : ∀ k, k ≤ T.length → accX T k j = ((xorB (T.take k) j).toNat : Int) := by
  intro k
  induction k with
  | zero => intro _; simp [accX, xorB]
  | succ k ih =>
    intro hk
    obtain ⟨x, hx⟩ := getElem?_ex (l := T) (k := k) (by omega)
    rw [accX_step hx, ih (by omega), byteZ_U, bits_xor_u8, List.take_add_one, hx, xorB_append]
    simp [xorB]

def textOf (f : Nat → UInt8) : ByteArray := ⟨#[f 0, f 1, f 2, f 3]⟩

theorem textOf_size (f : Nat → UInt8) : (textOf f).size = 4 := rfl
theorem byteU_textOf (f : Nat → UInt8) {j : Nat} (hj : j < 4) : byteU (textOf f) j = f j := by
  have h4 : j = 0 ∨ j = 1 ∨ j = 2 ∨ j = 3 := by omega
  rcases h4 with rfl | rfl | rfl | rfl <;> rfl

theorem textOf_byteU {x : ByteArray} (hx : x.size = 4) : textOf (byteU x) = x := by
  obtain ⟨⟨l⟩⟩ := x
  match l, hx with
  | [a, b, c, d], _ => rfl

theorem textOf_congr {f g : Nat → UInt8} (h : ∀ j, j < 4 → f j = g j) : textOf f = textOf g := by
  unfold textOf
  rw [h 0 (by omega), h 1 (by omega), h 2 (by omega), h 3 (by omega)]

theorem xorT_ok {T : List ByteArray} (h : XorOk T) : xorT T = textOf (xorB T) := by
  unfold xorT
  rw [if_pos h]
  have e := fun j => accX_xorB T j T.length (Nat.le_refl _)
  rw [e, e, e, e, List.take_length]
  simp [strOfNums, textOf]

/-- Backwards they are the same. -/
theorem xor_back {T : List ByteArray} (h : XorOk T) : XorOk T.reverse ∧ xorT T.reverse = xorT T := by
  have h2 : XorOk T.reverse := ⟨by simpa using h.1, fun s hs => h.2 s (by simpa using hs)⟩
  refine ⟨h2, ?_⟩
  rw [xorT_ok h, xorT_ok h2]
  exact textOf_congr fun j _ => xorB_reverse T j

/-- One twice is nothing. -/
theorem xor_twice {x : ByteArray} (h : x.size = 4) : XorOk [x, x] ∧ xorT [x, x] = ⟨#[0, 0, 0, 0]⟩ := by
  have h2 : XorOk [x, x] := ⟨by simp, fun s hs => by simp at hs; rw [hs]; exact h⟩
  refine ⟨h2, ?_⟩
  rw [xorT_ok h2]
  have e : ∀ j, xorB [x, x] j = 0 := fun j => by
    show byteU x j ^^^ (byteU x j ^^^ 0) = 0
    rw [UInt8.xor_zero, UInt8.xor_self]
  unfold textOf
  rw [e, e, e, e]

/-- Each is all the others and what they are together. -/
theorem xor_rest {A B : List ByteArray} {x : ByteArray} (h : XorOk (A ++ x :: B)) : XorOk (xorT (A ++ x :: B) :: A ++ B) ∧ xorT (xorT (A ++ x :: B) :: A ++ B) = x := by
  have hx : x.size = 4 := h.2 x (by simp)
  have e := xorT_ok h
  have h2 : XorOk (xorT (A ++ x :: B) :: A ++ B) := by
    refine ⟨by have := h.1; simp at this ⊢; omega, fun s hs => ?_⟩
    simp at hs
    rcases hs with rfl | hs | hs
    · rw [e]; rfl
    · exact h.2 s (by simp [hs])
    · exact h.2 s (by simp [hs])
  refine ⟨h2, ?_⟩
  rw [xorT_ok h2, e]
  rw [← textOf_byteU hx]
  refine textOf_congr fun j hj => ?_
  rw [textOf_byteU hx]
  show byteU (textOf (xorB (A ++ x :: B))) j ^^^ xorB (A ++ B) j = byteU x j
  rw [byteU_textOf _ hj, xorB_append, xorB_append]
  show (xorB A j ^^^ (byteU x j ^^^ xorB B j)) ^^^ (xorB A j ^^^ xorB B j) = byteU x j
  generalize xorB A j = p
  generalize xorB B j = q
  generalize byteU x j = r
  rw [← UInt8.xor_assoc p r q, UInt8.xor_comm p r, UInt8.xor_assoc r p q, UInt8.xor_assoc, UInt8.xor_self, UInt8.xor_zero]

end Go.Proofs.Ytaelbmilicfkhaa
