/- The program's chapter 5: layouts, their parity a closure. -/
import Derived.Test.YtaelbmilicfkhaaChecked
import Derived.Test.YtaelbmilicfkhaaLay
import Derived.Test.YtaelbmilicfkhaaIn
import Derived.WalkKit
import Derived.Outline
import Derived.Laws.EntriesVeiled
namespace Go.Proofs.Ytaelbmilicfkhaa
open Go.RowKit
set_option linter.unusedVariables false
set_option linter.unusedSimpArgs false

def endsF (L : List Int) (k : Nat) (i : Nat) : Value := .int .i64 (if i < k then upto L (i + 1) else 0)

/-- What the closure has taken: the sum in one block, the ends in another. -/
def Taken (w : World) (bt be : Nat) (L : List Int) : Prop :=
  w.cell? ⟨bt, 0, none⟩ = some (.int .i64 L.sum) ∧ ∀ i, i < L.length → w.cell? ⟨be, i, none⟩ = some (.int .i64 (upto L (i + 1)))

theorem Taken.below {w w' : World} {bt be : Nat} {L : List Int} (h : Taken w bt be L) (hl : 0 < L.length) {B : Nat} (hb : Below B w w') (hB : w.heap.size ≤ B) : Taken w' bt be L :=
  ⟨(hb.cell (p := ⟨bt, 0, none⟩) (Nat.lt_of_lt_of_le (World.block_lt_of_cell? _ _ h.1) hB)).trans h.1, fun i hi => (hb.cell (p := ⟨be, i, none⟩) (Nat.lt_of_lt_of_le (World.block_lt_of_cell? _ _ (h.2 i hi)) hB)).trans (h.2 i hi)⟩

set_option maxHeartbeats 1000000 in
theorem parity_any (bt be : Nat) (L : List Int) (s : Int) (w : World) (h : Taken w bt be L) (ho : LayOk L) (hs : 0 ≤ s) (hs9 : s ≤ 1000000000) :
    Calls Try.prog 79 #[.int .i64 s, .pointer (some ⟨bt, 0, none⟩), .pointer (some ⟨be, 0, none⟩)] w fun e w' => ∃ m : Nat, e = .returned (.int .i64 (m : Int)) ∧ ParIs L s m ∧ w' = w := by
  have h1 := h.1
  have HH := hide h.2
  have hsum := ho.sum
  have hr := ofNat_lt_tmod ho hs
  have hlen := ho.1
  have HO := hide ho
  have hne : ¬ L.sum = 0 := by omega
  clear h ho
  go_enter Try.func79, Try.ntmps79
  go_wp2
  have hdf : ∃ r, r = s % L.sum := ⟨_, rfl⟩
  obtain ⟨r, hrd⟩ := hdf
  rw [← hrd] at hr ⊢
  have HD := hide hrd
  clear hrd
  go_loop [6] (fun i => ∃ k : Nat, k < L.length ∧ i = .int .i64 k ∧ ∀ j, j < k → upto L (j + 1) ≤ r) (fun i => L.length - (intOf i).toNat)
  case atStart => exact ⟨0, by omega, rfl, fun j hj => absurd hj (Nat.not_lt_zero _)⟩
  case round =>
    obtain ⟨k, hk, rfl, hA⟩ := hrel
    have HA := hide hA
    clear hA
    have g1 := unhide HH k hk
    have hu := (unhide HO).2.1.upto (k + 1) (by omega)
    have HX := hide (rfl : upto L (k + 1) = upto L (k + 1))
    by_cases hge : upto L (k + 1) ≤ r
    · have hlt : k + 1 < L.length := by
        rcases Nat.lt_or_ge (k + 1) L.length with e | e
        · exact e
        · rw [show k + 1 = L.length by omega, upto_all] at hge; omega
      have HG := hide hge
      go_wp2
      go_round
      case rel =>
        refine ⟨k + 1, hlt, by go_num, fun j hj => ?_⟩
        by_cases e : j = k
        · subst e; exact unhide HG
        · exact unhide HA j (by omega)
      case measure => simp [intOf]; omega
    · have HG := hide hge
      go_wp2
      go_ret
      exact ⟨k, rfl, ⟨hk, by rw [← unhide HD]; have := unhide HG; omega, fun j hj => by rw [← unhide HD]; exact unhide HA j hj⟩, rfl⟩

/-- What layoutOf answers. -/
def LaidOf (n : Nat) (L : List Int) (e : Ending) (w' : World) : Prop :=
  (¬ LayOk L ∧ e = .returned (.tuple #[.agg #[.int .i64 0, .nilFunc], .bool false])) ∨
  (LayOk L ∧ ∃ bt be, e = .returned (.tuple #[.agg #[.int .i64 n, .func (.func 79) #[] #[.pointer (some ⟨bt, 0, none⟩), .pointer (some ⟨be, 0, none⟩)]], .bool true]) ∧ Taken w' bt be L)

theorem upto_small {L : List Int} : ∀ k, k ≤ L.length → (∀ j x, j < k → L[j]? = some x → 0 ≤ x ∧ x ≤ 5) → 0 ≤ upto L k ∧ upto L k ≤ 5 * (k : Int) := by
  intro k
  induction k with
  | zero => intro _ _; simp [upto_zero]
  | succ k ih =>
    intro hk h
    obtain ⟨x, hx⟩ := getElem?_ex (l := L) (k := k) (by omega)
    have := ih (by omega) (fun j y hj hy => h j y (by omega) hy)
    have := h k x (by omega) hx
    rw [upto_step hx]
    omega

theorem small_all {L : List Int} {k : Nat} (hk : k = L.length) (h : ∀ j x, j < k → L[j]? = some x → 0 ≤ x ∧ x ≤ 5) : Small L := by
  intro x hx
  obtain ⟨i, hi⟩ := List.getElem?_of_mem hx
  have := (List.getElem?_eq_some_iff.1 hi).1
  exact h i x (by omega) hi

def zlF (i : Nat) : Value := if i = 0 then .int .i64 0 else .nilFunc

theorem endsF_step {L : List Int} {k : Nat} {w : World} {b : Nat} {t : TypeId} (h : w.rowIs b t 5 (endsF L k)) : (w.setCell ⟨b, k, none⟩ (.int .i64 (upto L (k + 1)))).rowIs b t 5 (endsF L (k + 1)) := by
  refine (h.set k (.int .i64 (upto L (k + 1)))).congr fun i hi => ?_
  unfold endsF
  by_cases e : i = k
  · subst e; simp
  · by_cases l : i < k
    · simp [e, l, Nat.lt_succ_of_lt l]
    · have l2 : ¬ i < k + 1 := by omega
      simp [e, l, l2]

set_option maxHeartbeats 1000000 in
theorem layoutOf_any (a : Option Addr) (c : Nat) (L : List Int) (n : Nat) (hl : L.length = n) (w : World) (h : IntsAt w a L) :
    Calls Try.prog 59 #[.slice a n c] w fun e w' => LaidOf n L e w' ∧ Below w.heap.size w w' := by
  have HL := hide hl
  have HH := hide h
  clear h hl
  go_enter Try.func59, Try.ntmps59
  go_wp2_with fail
  refine (within_any _ _ _ _).mono ?_
  rintro e w1 ⟨rfl, rfl⟩
  by_cases h35 : (3 : Int) ≤ (n : Int) ∧ (n : Int) ≤ 5
  · have hd : decide ((3 : Int) ≤ (n : Int) ∧ (n : Int) ≤ 5) = true := by simpa using h35
    rw [hd]
    clear hd
    go_wp2
    go_loopw [18] (fun i wr => ∃ k : Nat, k ≤ n ∧ i = .int .i64 k ∧ wr.rowIs w.heap.size 88 2 zlF ∧ wr.rowIs (w.heap.size + 1) 104 5 (endsF L k) ∧ wr.rowIs (w.heap.size + 1 + 1) 2 1 (fun _ => .int .i64 (upto L k)) ∧ Below w.heap.size w wr ∧ ∀ j x, j < k → L[j]? = some x → 0 ≤ x ∧ x ≤ 5) (fun i _ => n - (intOf i).toNat)
    case atStart =>
      refine ⟨0, Nat.zero_le _, rfl, ?_, ?_, ?_, ?_, fun j x hj => absurd hj (Nat.not_lt_zero _)⟩
      · refine World.rowIs.alloc (World.rowIs.alloc (World.rowIs_alloc w #[.int .i64 0, .nilFunc] 88 zlF ?_) _) _
        intro i hi
        have h2 : i = 0 ∨ i = 1 := by simp at hi; omega
        rcases h2 with rfl | rfl <;> rfl
      · refine World.rowIs.alloc ?_ _
        have := World.rowIs_alloc (w.alloc (.cells #[.int .i64 0, .nilFunc] 88)) #[.int .i64 0, .int .i64 0, .int .i64 0, .int .i64 0, .int .i64 0] 104 (endsF L 0) (by
          intro i hi
          have h2 : i = 0 ∨ i = 1 ∨ i = 2 ∨ i = 3 ∨ i = 4 := by simp at hi; omega
          rcases h2 with rfl | rfl | rfl | rfl | rfl <;> rfl)
        simpa using this
      · have := World.rowIs_alloc ((w.alloc (.cells #[.int .i64 0, .nilFunc] 88)).alloc (.cells #[.int .i64 0, .int .i64 0, .int .i64 0, .int .i64 0, .int .i64 0] 104)) #[.int .i64 0] 2 (fun _ => .int .i64 (upto L 0)) (by
          intro i hi
          have h2 : i = 0 := by simp at hi; omega
          rcases h2 with rfl; simp [upto_zero])
        simpa using this
      · exact (((Below.refl _ w).alloc (Nat.le_refl _) _).alloc (by simp) _).alloc (by simp; omega) _
    case round =>
      obtain ⟨k, hk, rfl, hR0, hR1, hR2, hB, hA⟩ := hrel
      have HA := hide hA
      clear hA
      have z0 := World.rowIs.cell hR0 (i := 0) (by omega)
      have z1 := World.rowIs.cell hR0 (i := 1) (by omega)
      have zf := World.rowIs.frozen hR0
      have t0 := World.rowIs.cell hR2 (i := 0) (by omega)
      have tf := World.rowIs.frozen hR2
      have zl0 : zlF 0 = .int .i64 0 := rfl
      have zl1 : zlF 1 = .nilFunc := rfl
      rw [zl0] at z0
      rw [zl1] at z1
      have H0 := hide hR0
      have H1 := hide hR1
      have H2 := hide hR2
      by_cases hlt : k < n
      · have e0 := World.rowIs.cell hR1 (i := k) (by omega)
        have ef := World.rowIs.frozen hR1
        obtain ⟨x, hx⟩ := getElem?_ex (l := L) (k := k) (by have := unhide HL; omega)
        obtain ⟨b1, o1, rfl, g1⟩ := ((unhide HH).below hB (Nat.le_refl _)) k x hx
        have HX := hide hx
        clear hx hR0 hR1 hR2 zl0 zl1
        go_wp2_with fail
        refine (within_any _ _ _ _).mono ?_
        rintro e w2 ⟨rfl, rfl⟩
        by_cases h05 : (0 : Int) ≤ x ∧ x ≤ 5
        · have hd : decide ((0 : Int) ≤ x ∧ x ≤ 5) = true := by simpa using h05
          rw [hd]
          have hu : 0 ≤ upto L k ∧ upto L k ≤ 5 * (k : Int) := upto_small k (by have := unhide HL; omega) (unhide HA)
          have HU := hide (upto_step (unhide HX))
          have HUD : ∃ u, u = upto L k := ⟨_, rfl⟩
          obtain ⟨u, hud⟩ := HUD
          rw [← hud] at hu t0
          have HUD := hide hud
          clear hd hud
          go_wp2
          go_roundw
          case rel =>
            refine ⟨k + 1, by omega, by go_num, ?_, ?_, ?_, ?_, fun j y hj hy => ?_⟩
            · exact World.rowIs.setOther (World.rowIs.setOther (unhide H0) (by simp <;> omega) _) (by simp <;> omega) _
            · have h1 := World.rowIs.setOther (unhide H1) (a := ⟨w.heap.size + 1 + 1, 0, none⟩) (by simp) (.int .i64 (u + x))
              have h2 := endsF_step h1
              rw [unhide HU, ← unhide HUD] at h2
              exact h2
            · refine World.rowIs.setOther ((World.rowIs.set (unhide H2) 0 (.int .i64 (u + x))).congr fun i hi => ?_) (by simp <;> omega) _
              have h0 : i = 0 := by omega
              subst h0
              rw [unhide HU, ← unhide HUD]
              simp
            · exact (hB.setCell (by simp <;> omega) _).setCell (by simp <;> omega) _
            by_cases e : j = k
            · subst e; rw [unhide HX] at hy; cases hy; exact h05
            · exact unhide HA j y (by omega) hy
          case measure => simp [intOf]; omega
        · have hd : decide ((0 : Int) ≤ x ∧ x ≤ 5) = false := by simpa using h05
          rw [hd]
          have H05 := hide h05
          clear h05 hd
          go_wp2
          refine bodyPost_ret (v := .tuple #[.agg #[.int .i64 0, .nilFunc], .bool false]) (by simp [results, Try.results59, go_sem, z0, z1]) rfl ⟨.inl ⟨fun hc => unhide H05 (hc.2.1.at (unhide HX)), rfl⟩, ?_⟩
          exact (hB.setCell (by simp) _).setCell (by simp) _
      · have hkn : k = L.length := by have := unhide HL; omega
        have hsm := small_all hkn (unhide HA)
        have HSM := hide hsm
        have HK := hide hkn
        have hsum : upto L k = L.sum := by rw [hkn, upto_all]
        have HE := hide (fun i (hi : i < L.length) => (World.rowIs.cell hR1 (i := i) (by have := unhide HL; omega)))
        rw [hsum] at t0
        clear hR0 hR1 hR2 zl0 zl1 hsm hkn hsum
        by_cases hz : L.sum = 0
        · have hbe : (L.sum == 0) = true := by simpa using hz
          have HZ := hide hz
          clear hz
          go_wp2
          refine bodyPost_ret (v := .tuple #[.agg #[.int .i64 0, .nilFunc], .bool false]) (by simp [results, Try.results59, go_sem, z0, z1]) rfl ⟨.inl ⟨fun hc => absurd hc.2.2 (by rw [unhide HZ]; omega), rfl⟩, ?_⟩
          exact (hB.setCell (by simp) _).setCell (by simp) _
        · have hbe : (L.sum == 0) = false := by simpa using hz
          have HZ := hide hz
          clear hz
          go_wp2
          refine bodyPost_ret (v := .tuple #[.agg #[.int .i64 n, .func (.func 79) #[] #[.pointer (some ⟨w.heap.size + 1 + 1, 0, none⟩), .pointer (some ⟨w.heap.size + 1, 0, none⟩)]], .bool true]) (by simp [results, Try.results59, go_sem, z0, z1]) rfl ⟨.inr ⟨⟨by have := unhide HL; omega, unhide HSM, ?_⟩, _, _, rfl, ?_, fun i hi => ?_⟩, ?_⟩
          · have h1 := (unhide HSM).upto L.length (Nat.le_refl _)
            rw [upto_all] at h1
            have := unhide HZ
            omega
          · rw [World.cell?_setCell_other _ _ _ _ (by simp <;> omega), World.cell?_setCell_other _ _ _ _ (by simp <;> omega)]
            exact t0
          · rw [World.cell?_setCell_other _ _ _ _ (by simp <;> omega), World.cell?_setCell_other _ _ _ _ (by simp <;> omega), unhide HE i hi]
            have hik : i < k := by rw [unhide HK]; exact hi
            simp [endsF, hik]
          · exact (hB.setCell (by simp) _).setCell (by simp) _
  · have hd : decide ((3 : Int) ≤ (n : Int) ∧ (n : Int) ≤ 5) = false := by simpa using h35
    rw [hd]
    have H35 := hide h35
    clear h35 hd
    go_wp2
    refine bodyPost_ret (v := .tuple #[.agg #[.int .i64 0, .nilFunc], .bool false]) (by simp [results, Try.results59, go_sem]) rfl ⟨.inl ⟨fun hc => unhide H35 (by have := hc.1; have := unhide HL; omega), rfl⟩, ?_⟩
    exact (Below.refl _ w).alloc (Nat.le_refl _) _

end Go.Proofs.Ytaelbmilicfkhaa
