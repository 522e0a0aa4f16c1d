/- The model's NextOf. -/
import Derived.Test.YtageolbmplhgaaaNextS
import Derived.WalkKit
import Derived.Outline
namespace Go.Proofs.Ytageolbmplhgaaa
open Go.RowKit
set_option linter.unusedVariables false
set_option linter.unusedSimpArgs false

set_option maxHeartbeats 1000000 in
theorem specNextOf_any (a : Option Addr) (c : Nat) (bs : List Bk) (n : Nat) (hl : bs.length = n) (blk : Int) (w : World) (h : BlocksAt w a bs) (hn : Lens 1048576 bs) :
    Calls Try.prog 24 #[.agg #[.slice a n c], .int .i64 blk] w fun e w' => ∃ r : Int, e = .returned (.int .i64 r) ∧ NextOfIs bs blk r ∧ Below w.heap.size w w' := by
  have hn1 := hn.1
  have hb0 : ∀ o, Below w.heap.size w (w.alloc o) := fun o => (Below.refl _ w).alloc (Nat.le_refl _) _
  have hA := fun o => h.below (hb0 o) (Nat.le_refl _)
  have HNN := hide hn
  have HAA := hide hA
  subst hl
  clear hA hn
  go_enter Try.func24, Try.ntmps24
  go_wp2_with fail
  refine (specChipOk_any a c bs _ (unhide HAA _) (unhide HNN)).mono ?_
  rintro e w1 ⟨r, rfl, hr, hB1⟩
  have hs1 := hB1.size
  simp at hs1
  have hx1 : w1.cell? ⟨w.heap.size, 0, none⟩ = some (.slice a bs.length c) := by
    rw [hB1.cell (p := ⟨w.heap.size, 0, none⟩) (by simp)]
    simp
  have hW1 : Below w.heap.size w w1 := (hb0 _).trans (hB1.mono (by simp))
  have HR := hide hr
  clear hr hB1 hb0
  cases r with
  | false =>
    clear h
    go_wp2
    go_ret
    exact ⟨_, rfl, .inl ⟨(fun hc => by have := (unhide HR).2 hc.1; cases this), rfl⟩, hW1⟩
  | true =>
    have hok := (unhide HR).1 rfl
    have HO := hide hok
    have hc12 := hok.count
    clear hok
    go_wp2_with fail
    refine (l1In_any _ _ _ _).mono ?_
    rintro e w2 ⟨rfl, rfl⟩
    by_cases hin : 0 ≤ blk ∧ blk ≤ (bs.length : Int) - 1
    · obtain ⟨k, rfl⟩ := Int.eq_ofNat_of_zero_le hin.1
      obtain ⟨b, hb⟩ := getElem?_ex (l := bs) (k := k) (by omega)
      have h1 := h.below hW1 (Nat.le_refl _)
      obtain ⟨g, o, pa, pc, rfl, hcw, hcp, hpa⟩ := h1 k b hb
      have h4 := ((unhide HO).block b (List.mem_of_getElem? hb)).four
      rw [h4] at hcp
      have hd : decide ((0 : Int) ≤ (k : Int) ∧ (k : Int) ≤ (bs.length : Int) - 1) = true := by simp; omega
      rw [hd]
      have hlt : (k : Int) < (bs.length : Int) := by omega
      have HP := hide hpa
      clear h h1 hpa hd hin
      go_wp2_with fail
      have hl1 := l1Next_any b.wear pa pc b.pages w2 (unhide HP) (by omega)
      rw [h4] at hl1
      refine hl1.mono ?_
      rintro e w3 ⟨r, rfl, hr, hB3⟩
      have HR3 := hide hr
      have hW3 := hW1.trans (hB3.mono hW1.size)
      clear hr hl1
      go_wp2
      go_ret
      exact ⟨_, rfl, .inr ⟨⟨unhide HO, by omega, by omega⟩, b, by simpa using hb, unhide HR3⟩, hW3⟩
    · have hd : decide ((0 : Int) ≤ blk ∧ blk ≤ (bs.length : Int) - 1) = false := by simpa using hin
      rw [hd]
      have HIN := hide hin
      clear hin h hd
      go_wp2
      go_ret
      exact ⟨_, rfl, .inl ⟨fun hc => unhide HIN hc.2, rfl⟩, hW1⟩
end Go.Proofs.Ytageolbmplhgaaa
