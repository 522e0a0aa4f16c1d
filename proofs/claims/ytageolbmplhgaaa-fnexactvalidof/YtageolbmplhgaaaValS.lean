/- How many pages of a block are the newest of their log: the model's l2Valid and ValidOf. -/
import Derived.Test.YtageolbmplhgaaaValP
import Derived.Test.YtageolbmplhgaaaFtlS
import Derived.WalkKit
namespace Go.Proofs.Ytageolbmplhgaaa
open Go.RowKit
set_option linter.unusedVariables false
set_option linter.unusedSimpArgs false

set_option maxRecDepth 100000 in
set_option maxHeartbeats 1000000 in
theorem l2Valid_any (a : Option Addr) (c : Nat) (L : List Int) (n : Nat) (hl : L.length = n) (blk : Int) (w : World) (h : IntsAt w a L) (hn : n ≤ 1048576) (hP : ∀ x ∈ L, x = -1 ∨ (0 ≤ x ∧ x < 48)) :
    Calls Try.prog 78 #[.slice a n c, .int .i64 blk] w fun e w' => e = .returned (.int .i64 (validIn L blk)) ∧ w' = w := by
  go_enter Try.func78, Try.ntmps78
  go_wp2
  go_loopw [5, 6] (fun v i wr => ∃ k : Nat, k ≤ n ∧ i = .int .i64 k ∧ v = .int .i64 (validIn (L.take k) blk) ∧ wr = w) (fun _ i _ => n - (intOf i).toNat)
  case atStart => exact ⟨0, Nat.zero_le _, rfl, rfl, rfl⟩
  case round =>
    obtain ⟨k, hk, rfl, rfl, rfl⟩ := hrel
    by_cases hlt : k < n
    · obtain ⟨x, hx⟩ := getElem?_ex (l := L) (k := k) (by omega)
      obtain ⟨b1, o1, rfl, c1⟩ := h k x hx
      have hst := validIn_take hx blk
      have hp := hP x (List.mem_of_getElem? hx)
      have hle := validIn_le (L.take k) blk
      have hle2 : validIn (L.take k) blk ≤ k := by rw [List.length_take] at hle; omega
      obtain ⟨T, hT⟩ : ∃ T, T = validIn (L.take k) blk := ⟨_, rfl⟩
      rw [← hT] at hst hle2 ⊢
      have HS := hide hst
      have HL := hide hl
      clear hst hle hT hx h hl hP
      by_cases h0 : 0 ≤ x
      · have hp48 : x < 48 := by omega
        clear hp
        by_cases he : x / 4 = blk
        · have hh : hit blk x = true := by simp [hit, h0, he]
          have heq : (x / 4 == blk) = true := by simpa using he
          go_wp2
          go_roundw
          case rel => exact ⟨k + 1, by omega, by go_num, by rw [unhide HS, hh]; simp, trivial⟩
          case measure => simp [intOf]; omega
        · have hh : hit blk x = false := by simp [hit, he]
          have heq : (x / 4 == blk) = false := by simpa using he
          go_wp2
          go_roundw
          case rel => exact ⟨k + 1, by omega, by go_num, by rw [unhide HS, hh]; simp, trivial⟩
          case measure => simp [intOf]; omega
      · have hh : hit blk x = false := by simp [hit, h0]
        clear hp
        go_wp2
        go_roundw
        case rel => exact ⟨k + 1, by omega, by go_num, by rw [unhide HS, hh]; simp, trivial⟩
        case measure => simp [intOf]; omega
    · obtain rfl : k = n := by omega
      have e : L.take k = L := by rw [← hl]; exact List.take_length
      rw [e]
      clear h hP
      go_wp2
      go_ret
      exact ⟨rfl, rfl⟩

set_option maxRecDepth 100000 in
set_option maxHeartbeats 1000000 in
theorem specValidOf_any (a : Option Addr) (c : Nat) (bs : List Bk) (n : Nat) (hl : bs.length = n) (ma : Option Addr) (mc : Nat) (L : List Int) (mn : Nat) (hL : L.length = mn) (seq o blk : Int) (w : World) (h : BlocksAt w a bs) (hn : Lens 1048576 bs) (hI : IntsAt w ma L) (hmn : mn ≤ 1048576) :
    Calls Try.prog 46 #[.agg #[.slice a n c, .slice ma mn mc, .int .i64 seq, .int .i64 o], .int .i64 blk] w fun e w' => ∃ r : Int, e = .returned (.int .i64 r) ∧ ValidIs bs L seq o blk r ∧ Below w.heap.size w w' := by
  have hb0 : ∀ o, Below w.heap.size w (w.alloc o) := fun o => (Below.refl _ w).alloc (Nat.le_refl _) _
  have hn1 : n ≤ 1048576 := by have := hn.1; omega
  go_enter Try.func46, Try.ntmps46
  go_wp2_with fail
  refine (specFtlOk_any a c bs n hl ma mc L mn hL seq o _ (h.below (hb0 _) (Nat.le_refl _)) hn (hI.below (hb0 _) (Nat.le_refl _)) hmn).mono ?_
  rintro e w1 ⟨⟨r, rfl, hr⟩, hB1⟩
  have hs1 := hB1.size
  simp at hs1
  have hx0 : w1.cell? ⟨w.heap.size, 0, none⟩ = some (.slice a n c) := by
    rw [hB1.cell (p := ⟨w.heap.size, 0, none⟩) (by simp)]
    simp
  have hx1 : w1.cell? ⟨w.heap.size, 1, none⟩ = some (.slice ma mn mc) := by
    rw [hB1.cell (p := ⟨w.heap.size, 1, none⟩) (by simp)]
    simp
  have hW1 : Below w.heap.size w w1 := (hb0 _).trans (hB1.mono (by simp))
  have HR := hide hr
  have HI := hide (hI.below hW1 (Nat.le_refl _))
  have HL := hide hl
  have HLL := hide hL
  clear hr hB1 hb0 h hI hn hl hL
  cases r with
  | false =>
    go_wp2
    go_ret
    exact ⟨_, rfl, .inr ⟨(fun hc => by have := (unhide HR).2 hc.1; cases this), rfl⟩, hW1⟩
  | true =>
    go_wp2_with fail
    refine (l1In_any _ _ _ _).mono ?_
    rintro e w2 ⟨rfl, rfl⟩
    by_cases hin : 0 ≤ blk ∧ blk ≤ (n : Int) - 1
    · have hd : decide ((0 : Int) ≤ blk ∧ blk ≤ (n : Int) - 1) = true := by simpa using hin
      rw [hd]
      have hok := (unhide HR).1 (by trivial)
      have HP : Hid (∀ x ∈ L, x = -1 ∨ (0 ≤ x ∧ x < 48)) := fun x hx => by have h1 := hok.places x hx; have h2 := hok.chip.count; omega
      have HOK := hide hok
      clear hok
      go_wp2_with fail
      refine (l2Valid_any ma mc L mn (unhide HLL) blk _ (unhide HI) hmn (unhide HP)).mono ?_
      rintro e w3 ⟨rfl, rfl⟩
      go_wp2
      go_ret
      exact ⟨_, rfl, .inl ⟨⟨unhide HOK, hin.1, by rw [unhide HL]; exact hin.2⟩, rfl⟩, hW1⟩
    · have hd : decide ((0 : Int) ≤ blk ∧ blk ≤ (n : Int) - 1) = false := by simpa using hin
      rw [hd]
      go_wp2
      go_ret
      exact ⟨_, rfl, .inr ⟨fun hc => hin (by rw [← unhide HL]; exact hc.2), rfl⟩, hW1⟩
end Go.Proofs.Ytageolbmplhgaaa
