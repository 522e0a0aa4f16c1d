/- The model's chapter 5: LayoutOk, ParityOf, PlaceOf, LbaOf. -/
import Derived.Test.YtaelbmilicfkhaaChecked
import Derived.Test.YtaelbmilicfkhaaLay
import Derived.Test.YtaelbmilicfkhaaIn
import Derived.WalkKit
import Derived.Outline
namespace Go.Proofs.Ytaelbmilicfkhaa
open Go.RowKit
set_option linter.unusedVariables false
set_option linter.unusedSimpArgs false

set_option maxHeartbeats 1000000 in
theorem l5Sum_any (a : Option Addr) (c : Nat) (L : List Int) (n : Nat) (hl : L.length = n) (w : World) (h : IntsAt w a L) (hs : Small L) (hn : n ≤ 5) :
    Calls Try.prog 62 #[.slice a n c] w fun e w' => e = .returned (.int .i64 L.sum) ∧ w' = w := by
  have HS := hide hs
  clear hs
  go_enter Try.func62, Try.ntmps62
  go_wp2
  go_loop [3, 4] (fun v i => ∃ k : Nat, k ≤ n ∧ i = .int .i64 k ∧ v = .int .i64 (upto L k)) (fun _ i => n - (intOf i).toNat)
  case atStart => exact ⟨0, Nat.zero_le _, rfl, by simp [upto_zero]⟩
  case round =>
    obtain ⟨k, hk, rfl, rfl⟩ := hrel
    by_cases hlt : k < n
    · obtain ⟨x, hx⟩ := getElem?_ex (l := L) (k := k) (by omega)
      obtain ⟨b1, o1, rfl, g1⟩ := h k x hx
      have hu := (unhide HS).upto k (by omega)
      have hx5 := (unhide HS).at hx
      have hst := upto_step hx
      have HX := hide hst
      clear hx h hl hst
      generalize upto L k = u at hu HX ⊢
      go_wp2
      go_round
      case rel => exact ⟨k + 1, by omega, by go_num, by rw [unhide HX]⟩
      case measure => simp [intOf]; omega
    · have hk' : k = L.length := by omega
      subst hk'
      rw [upto_all]
      clear h
      go_wp2
      go_ret
      exact ⟨rfl, rfl⟩

set_option maxHeartbeats 1000000 in
theorem specLayoutOk_any (a : Option Addr) (c : Nat) (L : List Int) (n : Nat) (hl : L.length = n) (w : World) (h : IntsAt w a L) :
    Calls Try.prog 30 #[.slice a n c] w fun e w' => e = .returned (.bool (decide (LayOk L))) ∧ w' = w := by
  have HL := hide hl
  go_enter Try.func30, Try.ntmps30
  go_wp2_with fail
  refine (l1In_any _ _ _ _).mono ?_
  rintro e w1 ⟨rfl, rfl⟩
  by_cases h35 : (3 : Int) ≤ (n : Int) ∧ (n : Int) ≤ 5
  · have hd : decide ((3 : Int) ≤ (n : Int) ∧ (n : Int) ≤ 5) = true := by simpa using h35
    rw [hd]
    clear hd
    go_wp2
    go_loop [3] (fun i => ∃ k : Nat, k ≤ n ∧ i = .int .i64 k ∧ ∀ j x, j < k → L[j]? = some x → 0 ≤ x ∧ x ≤ 5) (fun i => n - (intOf i).toNat)
    case atStart => exact ⟨0, Nat.zero_le _, rfl, fun j x hj => absurd hj (Nat.not_lt_zero _)⟩
    case round =>
      obtain ⟨k, hk, rfl, hA⟩ := hrel
      have HA := hide hA
      clear hA
      by_cases hlt : k < n
      · obtain ⟨x, hx⟩ := getElem?_ex (l := L) (k := k) (by omega)
        obtain ⟨b1, o1, rfl, g1⟩ := h k x hx
        have HX := hide hx
        clear hx h hl
        go_wp2_with fail
        refine (l1In_any _ _ _ _).mono ?_
        rintro e w2 ⟨rfl, rfl⟩
        by_cases h05 : (0 : Int) ≤ x ∧ x ≤ 5
        · have hd : decide ((0 : Int) ≤ x ∧ x ≤ 5) = true := by simpa using h05
          rw [hd]
          have H05 := hide h05
          clear h05 hd
          go_wp2
          go_round
          case rel =>
            refine ⟨k + 1, by omega, by go_num, fun j y hj hy => ?_⟩
            by_cases e : j = k
            · subst e; rw [unhide HX] at hy; cases hy; exact unhide H05
            · exact unhide HA j y (by omega) hy
          case measure => simp [intOf]; omega
        · have hd : decide ((0 : Int) ≤ x ∧ x ≤ 5) = false := by simpa using h05
          rw [hd]
          have H05 := hide h05
          clear h05 hd
          go_wp2
          go_ret
          refine ⟨?_, rfl⟩
          have : ¬ LayOk L := fun hc => unhide H05 (hc.2.1.at (unhide HX))
          simp [this]
      · have hsm : Small L := by
          intro x hx
          obtain ⟨i, hi⟩ := List.getElem?_of_mem hx
          have := (List.getElem?_eq_some_iff.1 hi).1
          exact unhide HA i x (by omega) hi
        have HSM := hide hsm
        have HH := hide h
        clear hsm HA h
        go_wp2_with fail
        refine (l5Sum_any _ _ L n (unhide HL) _ (unhide HH) (unhide HSM) (by omega)).mono ?_
        rintro e w2 ⟨rfl, rfl⟩
        by_cases hp : 0 < L.sum
        · go_wp2
          go_ret
          refine ⟨?_, rfl⟩
          have h1 : LayOk L := ⟨by omega, unhide HSM, hp⟩
          simp [h1, hp]
        · go_wp2
          go_ret
          refine ⟨?_, rfl⟩
          have h1 : ¬ LayOk L := fun hc => absurd hc.2.2 (by omega)
          simp [h1, hp]
  · have hd : decide ((3 : Int) ≤ (n : Int) ∧ (n : Int) ≤ 5) = false := by simpa using h35
    rw [hd]
    have H35 := hide h35
    clear h35 hd h
    go_wp2
    go_ret
    refine ⟨?_, rfl⟩
    have : ¬ LayOk L := fun hc => unhide H35 (by have := hc.1; omega)
    simp [this]

set_option maxHeartbeats 1000000 in
theorem l5Parity_any (a : Option Addr) (c : Nat) (L : List Int) (n : Nat) (hl : L.length = n) (s : Int) (w : World) (h : IntsAt w a L) (ho : LayOk L) (hs : 0 ≤ s) (hs9 : s ≤ 1000000000) :
    Calls Try.prog 66 #[.slice a n c, .int .i64 s] w fun e w' => ∃ m : Nat, e = .returned (.int .i64 (m : Int)) ∧ ParIs L s m ∧ w' = w := by
  have HH := hide h
  have HO := hide ho
  have hn5 : n ≤ 5 := by have := ho.1; omega
  have hsum := ho.sum
  have hr := ofNat_lt_tmod ho hs
  have HL := hide hl
  clear h ho
  go_enter Try.func66, Try.ntmps66
  go_wp2_with fail
  refine (l5Sum_any _ _ L n (unhide HL) _ (unhide HH) (unhide HO).2.1 hn5).mono ?_
  rintro e w1 ⟨rfl, rfl⟩
  have hne : ¬ L.sum = 0 := by omega
  have hdf : ∃ r, r = s % L.sum := ⟨_, rfl⟩
  obtain ⟨r, hrd⟩ := hdf
  rw [← hrd] at hr
  go_wp2
  rw [← hrd]
  go_loop [5, 6] (fun v i => ∃ k : Nat, k ≤ n ∧ i = .int .i64 k ∧ v = .int .i64 (r - upto L k) ∧ ∀ j, j < k → upto L (j + 1) ≤ r) (fun _ i => n - (intOf i).toNat)
  case atStart => exact ⟨0, Nat.zero_le _, rfl, by simp [upto_zero], fun j hj => absurd hj (Nat.not_lt_zero _)⟩
  case round =>
    obtain ⟨k, hk, rfl, rfl, hA⟩ := hrel
    have HA := hide hA
    clear hA
    by_cases hlt : k < n
    · obtain ⟨x, hx⟩ := getElem?_ex (l := L) (k := k) (by omega)
      obtain ⟨b1, o1, rfl, g1⟩ := (unhide HH) k x hx
      have hu := (unhide HO).2.1.upto k (by omega)
      have hx5 := (unhide HO).2.1.at hx
      have hst := upto_step hx
      have HX := hide hst
      clear hx hst hl
      have hud : ∃ u, u = upto L k := ⟨_, rfl⟩
      obtain ⟨u, hud⟩ := hud
      rw [← hud] at hu HX ⊢
      have HUD := hide hud
      clear hud
      by_cases hx2 : r - u < x
      · have HD := hide hrd
        clear hrd
        go_wp2
        go_ret
        refine ⟨k, rfl, ⟨by have := unhide HL; omega, ?_, fun j hj => ?_⟩, rfl⟩
        · rw [← unhide HD, unhide HX]; omega
        · rw [← unhide HD]; exact unhide HA j hj
      · have HD := hide hrd
        clear hrd
        go_wp2
        go_round
        case rel =>
          refine ⟨k + 1, by omega, by go_num, by rw [unhide HX]; go_num, fun j hj => ?_⟩
          by_cases e : j = k
          · subst e; rw [unhide HX]; omega
          · exact unhide HA j (by omega)
        case measure => simp [intOf]; omega
    · exfalso
      have h3 := (unhide HO).1
      have hk' : k = L.length := by omega
      have := unhide HA (k - 1) (by omega)
      rw [show k - 1 + 1 = L.length by omega, upto_all] at this
      omega

set_option maxHeartbeats 1000000 in
theorem specParityOf_any (a : Option Addr) (c : Nat) (L : List Int) (n : Nat) (hl : L.length = n) (s : Int) (w : World) (h : IntsAt w a L) :
    Calls Try.prog 36 #[.slice a n c, .int .i64 s] w fun e w' => ∃ r : Int, e = .returned (.int .i64 r) ∧ ParityIs L s r ∧ w' = w := by
  have HL := hide hl
  have HH := hide h
  clear h hl
  go_enter Try.func36, Try.ntmps36
  go_wp2_with fail
  refine (specLayoutOk_any _ _ L n (unhide HL) _ (unhide HH)).mono ?_
  rintro e w1 ⟨rfl, rfl⟩
  by_cases ho : LayOk L
  · have hd : decide (LayOk L) = true := by simpa using ho
    rw [hd]
    have HO := hide ho
    clear hd ho
    go_wp2_with fail
    refine (l1In_any _ _ _ _).mono ?_
    rintro e w2 ⟨rfl, rfl⟩
    by_cases h05 : (0 : Int) ≤ s ∧ s ≤ 1000000000
    · have hd : decide ((0 : Int) ≤ s ∧ s ≤ 1000000000) = true := by simpa using h05
      rw [hd]
      clear hd
      go_wp2_with fail
      refine (l5Parity_any _ _ L n (unhide HL) s _ (unhide HH) (unhide HO) h05.1 h05.2).mono ?_
      rintro e w3 ⟨m, rfl, hm, rfl⟩
      have HM := hide hm
      clear hm
      go_wp2
      go_ret
      exact ⟨_, rfl, .inl ⟨unhide HO, h05, m, rfl, unhide HM⟩, rfl⟩
    · have hd : decide ((0 : Int) ≤ s ∧ s ≤ 1000000000) = false := by simpa using h05
      rw [hd]
      have H05 := hide h05
      clear hd h05
      go_wp2
      go_ret
      exact ⟨_, rfl, .inr ⟨fun hc => unhide H05 hc.2, rfl⟩, rfl⟩
  · have hd : decide (LayOk L) = false := by simpa using ho
    rw [hd]
    have HO := hide ho
    clear hd ho
    go_wp2
    go_ret
    exact ⟨_, rfl, .inr ⟨fun hc => unhide HO hc.1, rfl⟩, rfl⟩

set_option maxHeartbeats 1000000 in
theorem l5Place_any (a : Option Addr) (c : Nat) (L : List Int) (n : Nat) (hl : L.length = n) (lba : Int) (w : World) (h : IntsAt w a L) (ho : LayOk L) (hs : 0 ≤ lba) (hs9 : lba ≤ 1000000000) :
    Calls Try.prog 61 #[.slice a n c, .int .i64 lba] w fun e w' => ∃ m s : Int, e = .returned (.tuple #[.int .i64 m, .int .i64 s]) ∧ PutIs L lba m s ∧ w' = w := by
  have HH := hide h
  have HO := hide ho
  have hn5 : 3 ≤ n ∧ n ≤ 5 := by have := ho.1; omega
  have HL := hide hl
  have hne : ¬ (n : Int) - 1 = 0 := by omega
  have hq0 : 0 ≤ lba / ((n : Int) - 1) := Int.ediv_nonneg hs (by omega)
  have hq1 : lba / ((n : Int) - 1) ≤ 1000000000 := Int.le_trans (Int.ediv_le_self _ hs) hs9
  have hr0 : 0 ≤ lba % ((n : Int) - 1) := Int.emod_nonneg _ (by omega)
  have hr1 : lba % ((n : Int) - 1) < (n : Int) - 1 := Int.emod_lt_of_pos _ (by omega)
  clear h ho hl
  go_enter Try.func61, Try.ntmps61
  go_wp2_with fail
  refine (l5Parity_any _ _ L n (unhide HL) _ _ (unhide HH) (unhide HO) hq0 hq1).mono ?_
  rintro e w1 ⟨p, rfl, hp, rfl⟩
  have HP := hide hp
  clear hp
  by_cases hc : (p : Int) ≤ lba % ((n : Int) - 1)
  · go_wp2
    go_ret2
    exact ⟨_, _, rfl, ⟨by rw [unhide HL], p, unhide HP, by rw [unhide HL, if_pos hc]⟩, rfl⟩
  · go_wp2
    go_ret2
    exact ⟨_, _, rfl, ⟨by rw [unhide HL], p, unhide HP, by rw [unhide HL, if_neg (by omega)]⟩, rfl⟩

set_option maxHeartbeats 1000000 in
theorem specPlaceOf_any (a : Option Addr) (c : Nat) (L : List Int) (n : Nat) (hl : L.length = n) (s : Int) (w : World) (h : IntsAt w a L) :
    Calls Try.prog 28 #[.slice a n c, .int .i64 s] w fun e w' => ∃ p q : Int, e = .returned (.tuple #[.int .i64 p, .int .i64 q]) ∧ PlaceIs L s p q ∧ w' = w := by
  have HL := hide hl
  have HH := hide h
  clear h hl
  go_enter Try.func28, Try.ntmps28
  go_wp2_with fail
  refine (specLayoutOk_any _ _ L n (unhide HL) _ (unhide HH)).mono ?_
  rintro e w1 ⟨rfl, rfl⟩
  by_cases ho : LayOk L
  · have hd : decide (LayOk L) = true := by simpa using ho
    rw [hd]
    have HO := hide ho
    clear hd ho
    go_wp2_with fail
    refine (l1In_any _ _ _ _).mono ?_
    rintro e w2 ⟨rfl, rfl⟩
    by_cases h05 : (0 : Int) ≤ s ∧ s ≤ 1000000000
    · have hd : decide ((0 : Int) ≤ s ∧ s ≤ 1000000000) = true := by simpa using h05
      rw [hd]
      clear hd
      go_wp2_with fail
      refine (l5Place_any _ _ L n (unhide HL) s _ (unhide HH) (unhide HO) h05.1 h05.2).mono ?_
      rintro e w3 ⟨p, q, rfl, hm, rfl⟩
      have HM := hide hm
      clear hm
      go_wp2
      go_ret2
      exact ⟨_, _, rfl, .inl ⟨unhide HO, h05, unhide HM⟩, rfl⟩
    · have hd : decide ((0 : Int) ≤ s ∧ s ≤ 1000000000) = false := by simpa using h05
      rw [hd]
      have H05 := hide h05
      clear hd h05
      go_wp2
      go_ret2
      exact ⟨_, _, rfl, .inr ⟨fun hc => unhide H05 hc.2, rfl, rfl⟩, rfl⟩
  · have hd : decide (LayOk L) = false := by simpa using ho
    rw [hd]
    have HO := hide ho
    clear hd ho
    go_wp2
    go_ret2
    exact ⟨_, _, rfl, .inr ⟨fun hc => unhide HO hc.1, rfl, rfl⟩, rfl⟩

set_option maxHeartbeats 1000000 in
theorem specLbaOf_any (a : Option Addr) (c : Nat) (L : List Int) (n : Nat) (hl : L.length = n) (mem s : Int) (w : World) (h : IntsAt w a L) :
    Calls Try.prog 34 #[.slice a n c, .int .i64 mem, .int .i64 s] w fun e w' => ∃ r : Int, e = .returned (.int .i64 r) ∧ LbaIs L mem s r ∧ w' = w := by
  have HL := hide hl
  have HH := hide h
  clear h hl
  go_enter Try.func34, Try.ntmps34
  go_wp2_with fail
  refine (specLayoutOk_any _ _ L n (unhide HL) _ (unhide HH)).mono ?_
  rintro e w1 ⟨rfl, rfl⟩
  by_cases ho : LayOk L
  · have hd : decide (LayOk L) = true := by simpa using ho
    rw [hd]
    have HO := hide ho
    have hn5 : 3 ≤ n ∧ n ≤ 5 := by have := ho.1; have := unhide HL; omega
    clear hd ho
    go_wp2_with fail
    refine (l1In_any _ _ _ _).mono ?_
    rintro e w2 ⟨rfl, rfl⟩
    by_cases h05 : (0 : Int) ≤ s ∧ s ≤ 249999999
    · have hd : decide ((0 : Int) ≤ s ∧ s ≤ 249999999) = true := by simpa using h05
      rw [hd]
      clear hd
      go_wp2_with fail
      refine (l1In_any _ _ _ _).mono ?_
      rintro e w3 ⟨rfl, rfl⟩
      by_cases hm : (0 : Int) ≤ mem ∧ mem ≤ (n : Int) - 1
      · have hd : decide ((0 : Int) ≤ mem ∧ mem ≤ (n : Int) - 1) = true := by simpa using hm
        rw [hd]
        clear hd
        go_wp2_with fail
        refine (l5Parity_any _ _ L n (unhide HL) s _ (unhide HH) (unhide HO) h05.1 (by omega)).mono ?_
        rintro e w4 ⟨p, rfl, hp, rfl⟩
        have HP := hide hp
        clear hp
        have hmul0 : 0 ≤ s * ((n : Int) - 1) := Int.mul_nonneg h05.1 (by omega)
        have hmul1 : s * ((n : Int) - 1) ≤ 249999999 * 4 := Int.mul_le_mul h05.2 (by omega) (by omega) (by omega)
        by_cases he : mem = (p : Int)
        · have hbe : (mem == (p : Int)) = true := by simpa using he
          go_wp2
          go_ret
          exact ⟨_, rfl, .inl ⟨unhide HO, h05, by rw [unhide HL]; exact hm, p, unhide HP, by rw [if_pos he]⟩, rfl⟩
        · have hbe : (mem == (p : Int)) = false := by simpa using he
          by_cases hg : (p : Int) < mem
          · go_wp2
            go_ret
            exact ⟨_, rfl, .inl ⟨unhide HO, h05, by rw [unhide HL]; exact hm, p, unhide HP, by rw [if_neg he, if_pos hg, unhide HL]⟩, rfl⟩
          · go_wp2
            go_ret
            exact ⟨_, rfl, .inl ⟨unhide HO, h05, by rw [unhide HL]; exact hm, p, unhide HP, by rw [if_neg he, if_neg (by omega), unhide HL]⟩, rfl⟩
      · have hd : decide ((0 : Int) ≤ mem ∧ mem ≤ (n : Int) - 1) = false := by simpa using hm
        rw [hd]
        have HM := hide hm
        clear hd hm
        go_wp2
        go_ret
        exact ⟨_, rfl, .inr ⟨fun hc => unhide HM (by have := hc.2.2; rw [unhide HL] at this; exact this), rfl⟩, rfl⟩
    · have hd : decide ((0 : Int) ≤ s ∧ s ≤ 249999999) = false := by simpa using h05
      rw [hd]
      have H05 := hide h05
      clear hd h05
      go_wp2
      go_ret
      exact ⟨_, rfl, .inr ⟨fun hc => unhide H05 hc.2.1, rfl⟩, rfl⟩
  · have hd : decide (LayOk L) = false := by simpa using ho
    rw [hd]
    have HO := hide ho
    clear hd ho
    go_wp2
    go_ret
    exact ⟨_, rfl, .inr ⟨fun hc => unhide HO hc.1, rfl⟩, rfl⟩

end Go.Proofs.Ytaelbmilicfkhaa
