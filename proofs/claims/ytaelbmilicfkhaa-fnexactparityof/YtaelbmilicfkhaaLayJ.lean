/- The program's chapter 5: LayoutOk, ParityOf, PlaceOf, LbaOf. -/
import Derived.Test.YtaelbmilicfkhaaChecked
import Derived.Test.YtaelbmilicfkhaaLayP
import Derived.Test.YtaelbmilicfkhaaLayI
import Derived.WalkKit
import Derived.Outline
import Derived.Laws.EntriesVeiled
namespace Go.Proofs.Ytaelbmilicfkhaa
open Go.RowKit
set_option linter.unusedVariables false
set_option linter.unusedSimpArgs false

set_option maxHeartbeats 1000000 in
theorem implLayoutOk_any (a : Option Addr) (c : Nat) (L : List Int) (n : Nat) (hl : L.length = n) (w : World) (h : IntsAt w a L) :
    Calls Try.prog 29 #[.slice a n c] w fun e w' => e = .returned (.bool (decide (LayOk L))) ∧ Below w.heap.size w w' := by
  go_enter Try.func29, Try.ntmps29
  go_wp2_with fail
  refine (layoutOf_any a c L n hl _ h).mono ?_
  rintro e w1 ⟨hL, hB⟩
  clear h
  rcases hL with ⟨ho, rfl⟩ | ⟨ho, bt, be, rfl, hT⟩
  · have HO := hide ho
    clear ho
    go_wp2
    go_ret
    have : ¬ LayOk L := unhide HO
    exact ⟨by simp [this], hB.alloc hB.size _⟩
  · have HO := hide ho
    clear ho hT
    go_wp2
    go_ret
    have : LayOk L := unhide HO
    exact ⟨by simp [this], hB.alloc hB.size _⟩

set_option maxHeartbeats 1000000 in
theorem implParityOf_any (a : Option Addr) (c : Nat) (L : List Int) (n : Nat) (hl : L.length = n) (s : Int) (w : World) (h : IntsAt w a L) :
    Calls Try.prog 32 #[.slice a n c, .int .i64 s] w fun e w' => ∃ r : Int, e = .returned (.int .i64 r) ∧ ParityIs L s r ∧ Below w.heap.size w w' := by
  go_enter Try.func32, Try.ntmps32
  go_wp2_with fail
  refine (layoutOf_any a c L n hl _ h).mono ?_
  rintro e w1 ⟨hL, hB⟩
  have hsz := hB.size
  clear h
  rcases hL with ⟨ho, rfl⟩ | ⟨ho, bt, be, rfl, hT⟩
  · have HO := hide ho
    clear ho
    go_wp2
    go_ret
    exact ⟨_, rfl, .inr ⟨fun hc => unhide HO hc.1, rfl⟩, hB.alloc hsz _⟩
  · have HO := hide ho
    have HT := hide hT
    have h3 : 0 < L.length := by have := ho.1; omega
    clear ho hT hl
    go_wp2_with fail
    refine (within_any _ _ _ _).mono ?_
    rintro e w2 ⟨rfl, rfl⟩
    by_cases h05 : (0 : Int) ≤ s ∧ s ≤ 1000000000
    · have hd : decide ((0 : Int) ≤ s ∧ s ≤ 1000000000) = true := by simpa using h05
      rw [hd]
      clear hd
      go_wp2_with (go_at_call 79; refine (parity_any bt be L s _ ((unhide HT).below h3 ((Below.refl w1.heap.size w1).alloc (Nat.le_refl _) _) (Nat.le_refl _)) (unhide HO) h05.1 h05.2).mono ?_; rintro e w3 ⟨m, rfl, hm, rfl⟩; have HM := hide hm; clear hm)
      go_ret
      exact ⟨_, rfl, .inl ⟨unhide HO, h05, m, rfl, unhide HM⟩, hB.alloc hsz _⟩
    · have hd : decide ((0 : Int) ≤ s ∧ s ≤ 1000000000) = false := by simpa using h05
      rw [hd]
      have H05 := hide h05
      clear hd h05
      go_wp2
      go_ret
      exact ⟨_, rfl, .inr ⟨fun hc => unhide H05 hc.2, rfl⟩, hB.alloc hsz _⟩

set_option maxHeartbeats 1000000 in
theorem implPlaceOf_any (a : Option Addr) (c : Nat) (L : List Int) (n : Nat) (hl : L.length = n) (s : Int) (w : World) (h : IntsAt w a L) :
    Calls Try.prog 27 #[.slice a n c, .int .i64 s] w fun e w' => ∃ p q : Int, e = .returned (.tuple #[.int .i64 p, .int .i64 q]) ∧ PlaceIs L s p q ∧ Below w.heap.size w w' := by
  have HL := hide hl
  go_enter Try.func27, Try.ntmps27
  go_wp2_with fail
  refine (layoutOf_any a c L n hl _ h).mono ?_
  rintro e w1 ⟨hL, hB⟩
  have hsz := hB.size
  clear h hl
  rcases hL with ⟨ho, rfl⟩ | ⟨ho, bt, be, rfl, hT⟩
  · have HO := hide ho
    clear ho
    go_wp2
    go_ret2
    exact ⟨_, _, rfl, .inr ⟨fun hc => unhide HO hc.1, rfl, rfl⟩, hB.alloc hsz _⟩
  · have HO := hide ho
    have HT := hide hT
    have h3 : 0 < L.length := by have := ho.1; omega
    clear ho hT
    go_wp2_with fail
    refine (within_any _ _ _ _).mono ?_
    rintro e w2 ⟨rfl, rfl⟩
    by_cases h05 : (0 : Int) ≤ s ∧ s ≤ 1000000000
    · have hd : decide ((0 : Int) ≤ s ∧ s ≤ 1000000000) = true := by simpa using h05
      rw [hd]
      clear hd
      go_wp2_with fail
      refine (place_any bt be L n (unhide HL) s _ ((unhide HT).below h3 ((Below.refl w1.heap.size w1).alloc (Nat.le_refl _) _) (Nat.le_refl _)) (unhide HO) h05.1 h05.2).mono ?_
      rintro e w3 ⟨p, q, rfl, hm, hB3⟩
      have HM := hide hm
      have hB4 := (hB.alloc hsz _).trans (hB3.mono (by simp; omega))
      clear hm hB3
      go_wp2
      go_ret2
      exact ⟨_, _, rfl, .inl ⟨unhide HO, h05, unhide HM⟩, hB4⟩
    · have hd : decide ((0 : Int) ≤ s ∧ s ≤ 1000000000) = false := by simpa using h05
      rw [hd]
      have H05 := hide h05
      clear hd h05
      go_wp2
      go_ret2
      exact ⟨_, _, rfl, .inr ⟨fun hc => unhide H05 hc.2, rfl, rfl⟩, hB.alloc hsz _⟩

set_option maxHeartbeats 1000000 in
theorem lba_any (bt be : Nat) (L : List Int) (n : Nat) (hl : L.length = n) (mem s : Int) (w : World) (hT : Taken w bt be L) (ho : LayOk L) (hs : 0 ≤ s) (hs9 : s ≤ 249999999) :
    Calls Try.prog 63 #[.agg #[.int .i64 n, .func (.func 79) #[] #[.pointer (some ⟨bt, 0, none⟩), .pointer (some ⟨be, 0, none⟩)]], .int .i64 mem, .int .i64 s] w fun e w' => ∃ r : Int, e = .returned (.int .i64 r) ∧ LbaIs L mem s r ∧ Below w.heap.size w w' := by
  have HT := hide hT
  have HO := hide ho
  have hn5 : 3 ≤ n ∧ n ≤ 5 := by have := ho.1; omega
  have HL := hide hl
  have h3 : 0 < L.length := by omega
  have hmul0 : 0 ≤ s * ((n : Int) - 1) := Int.mul_nonneg hs (by omega)
  have hmul1 : s * ((n : Int) - 1) ≤ 249999999 * 4 := Int.mul_le_mul hs9 (by omega) (by omega) (by omega)
  clear hT ho hl
  go_enter Try.func63, Try.ntmps63
  go_wp2_with (first
    | (go_at_call 79; refine (parity_any bt be L _ _ ((unhide HT).below h3 ((Below.refl w.heap.size w).alloc (Nat.le_refl _) _) (Nat.le_refl _)) (unhide HO) hs (by omega)).mono ?_; rintro e w1 ⟨p, rfl, hp, rfl⟩; have HP := hide hp; clear hp)
    | fail)
  refine (within_any _ _ _ _).mono ?_
  rintro e w2 ⟨rfl, rfl⟩
  by_cases hm : (0 : Int) ≤ mem ∧ mem ≤ (n : Int) - 1
  · have hd : decide ((0 : Int) ≤ mem ∧ mem ≤ (n : Int) - 1) = true := by simpa using hm
    rw [hd]
    clear hd
    by_cases he : mem = (p : Int)
    · have hbe : (mem == (p : Int)) = true := by simpa using he
      go_wp2
      go_ret
      exact ⟨_, rfl, .inl ⟨unhide HO, ⟨hs, hs9⟩, by rw [unhide HL]; exact hm, p, unhide HP, by rw [if_pos he]⟩, (Below.refl w.heap.size w).alloc (Nat.le_refl _) _⟩
    · have hbe : (mem == (p : Int)) = false := by simpa using he
      by_cases hg : (p : Int) < mem
      · go_wp2
        go_ret
        exact ⟨_, rfl, .inl ⟨unhide HO, ⟨hs, hs9⟩, by rw [unhide HL]; exact hm, p, unhide HP, by rw [if_neg he, if_pos hg, unhide HL]⟩, (Below.refl w.heap.size w).alloc (Nat.le_refl _) _⟩
      · go_wp2
        go_ret
        exact ⟨_, rfl, .inl ⟨unhide HO, ⟨hs, hs9⟩, by rw [unhide HL]; exact hm, p, unhide HP, by rw [if_neg he, if_neg (by omega), unhide HL]⟩, (Below.refl w.heap.size w).alloc (Nat.le_refl _) _⟩
  · have hd : decide ((0 : Int) ≤ mem ∧ mem ≤ (n : Int) - 1) = false := by simpa using hm
    rw [hd]
    have HM := hide hm
    clear hd hm
    go_wp2
    go_ret
    exact ⟨_, rfl, .inr ⟨fun hc => unhide HM (by have := hc.2.2; rw [unhide HL] at this; exact this), rfl⟩, (Below.refl w.heap.size w).alloc (Nat.le_refl _) _⟩

set_option maxHeartbeats 1000000 in
theorem implLbaOf_any (a : Option Addr) (c : Nat) (L : List Int) (n : Nat) (hl : L.length = n) (mem s : Int) (w : World) (h : IntsAt w a L) :
    Calls Try.prog 31 #[.slice a n c, .int .i64 mem, .int .i64 s] w fun e w' => ∃ r : Int, e = .returned (.int .i64 r) ∧ LbaIs L mem s r ∧ Below w.heap.size w w' := by
  have HL := hide hl
  go_enter Try.func31, Try.ntmps31
  go_wp2_with fail
  refine (layoutOf_any a c L n hl _ h).mono ?_
  rintro e w1 ⟨hL, hB⟩
  have hsz := hB.size
  clear h hl
  rcases hL with ⟨ho, rfl⟩ | ⟨ho, bt, be, rfl, hT⟩
  · have HO := hide ho
    clear ho
    go_wp2
    go_ret
    exact ⟨_, rfl, .inr ⟨fun hc => unhide HO hc.1, rfl⟩, hB.alloc hsz _⟩
  · have HO := hide ho
    have HT := hide hT
    have h3 : 0 < L.length := by have := ho.1; omega
    clear ho hT
    go_wp2_with fail
    refine (within_any _ _ _ _).mono ?_
    rintro e w2 ⟨rfl, rfl⟩
    by_cases h05 : (0 : Int) ≤ s ∧ s ≤ 249999999
    · have hd : decide ((0 : Int) ≤ s ∧ s ≤ 249999999) = true := by simpa using h05
      rw [hd]
      clear hd
      go_wp2_with fail
      refine (lba_any bt be L n (unhide HL) mem s _ ((unhide HT).below h3 ((Below.refl w1.heap.size w1).alloc (Nat.le_refl _) _) (Nat.le_refl _)) (unhide HO) h05.1 h05.2).mono ?_
      rintro e w3 ⟨p, rfl, hm, hB3⟩
      have HM := hide hm
      have hB4 := (hB.alloc hsz _).trans (hB3.mono (by simp; omega))
      clear hm hB3
      go_wp2
      go_ret
      exact ⟨_, rfl, unhide HM, hB4⟩
    · have hd : decide ((0 : Int) ≤ s ∧ s ≤ 249999999) = false := by simpa using h05
      rw [hd]
      have H05 := hide h05
      clear hd h05
      go_wp2
      go_ret
      exact ⟨_, rfl, .inr ⟨fun hc => unhide H05 hc.2.1, rfl⟩, hB.alloc hsz _⟩

end Go.Proofs.Ytaelbmilicfkhaa
