/- 4 texts in one. -/
import Derived.Test.YtimencianaclmaaG12
import Derived.Test.YtimencianaclmaaG18
import Derived.Test.YtimencianaclmaaG03
import Derived.WalkKit
import Derived.Test.YtimencianaclmaaChecked
import Derived.Test.YtimencianaclmaaG01
import Derived.Outline
import Derived.Test.YtimencianaclmaaG05
import Derived.Deep.AppendLies

/- The model's new member, with where its rows lie. -/
namespace Go.Proofs.Ytimencianaclmaa
open Go.RowKit
set_option linter.unusedVariables false
set_option linter.unusedSimpArgs false

theorem newBs_four (n : Nat) : ∀ b ∈ newBs n, b.pages.length = 4 := fun b hb => by rw [newBs_block hb]; rfl

set_option maxRecDepth 100000 in
set_option maxHeartbeats 2000000 in
theorem specFtlNew_soft (n : Nat) (h1 : 4 ≤ n) (h2 : n ≤ 12) (w : World) :
    Calls Try.prog 118 #[.int .i64 n] w fun e w' => ∃ a c ma mc, e = .returned (.tuple #[.agg #[.slice a n c, .slice ma (newMap n).length mc, .int .i64 1, .int .i64 0], .bool true]) ∧ ChipS (fun k => w.heap.size ≤ k ∧ k < w'.heap.size) w' a (newBs n) ∧ IntsAt w' ma (newMap n) ∧ MineFrom w' ma (newMap n).length w.heap.size ∧ Below w.heap.size w w' := by
  have hb0 : ∀ o, Below w.heap.size w (w.alloc o) := fun o => (Below.refl _ w).alloc (Nat.le_refl _) _
  go_enter Try.func118, Try.ntmps118
  go_wp2_with fail
  refine (specChipNew_soft n _ h1 h2).mono ?_
  rintro e w1 ⟨a, c, rfl, hA, hB1⟩
  have hs1 := hB1.size
  simp at hs1
  simp only [World.size_alloc] at hA
  have hr1 := (hB1.block w.heap.size (by simp)).trans (World.alloc_heap_new w _)
  have hW1 : Below w.heap.size w w1 := (hb0 _).trans (hB1.mono (by simp))
  have HA : Hid (ChipS (fun k => w.heap.size + 1 ≤ k ∧ k < w1.heap.size) w1 a (newBs n)) := hA
  have HR1 := hide hr1
  clear hA hB1 hr1 hb0
  have hb1 : ∀ o, Below w1.heap.size w1 (w1.alloc o) := fun o => (Below.refl _ w1).alloc (Nat.le_refl _) _
  go_wp2_with fail
  refine (l2Map_any a c (newBs n) n (newBs_length n) (chipOk_newBs h1 h2) _ ((unhide HA).blocksAt.below (hb1 _) (Nat.le_refl _))).mono ?_
  rintro e w2 ⟨⟨v, r, L, rfl, hM, hv⟩, hB2⟩
  obtain ⟨rfl, rfl⟩ := newMap_is hM
  obtain ⟨ma, mc, rfl, hI, hMine⟩ := hv.form
  have hs2 := hB2.size
  simp at hs2
  have hB12 := (hb1 _).trans (hB2.mono (by simp))
  have hr2 := (hB12.block w.heap.size (by omega)).trans (unhide HR1)
  have hc2 : w2.cell? ⟨w1.heap.size, 0, none⟩ = some (.slice a n c) := by
    rw [hB2.cell (p := ⟨w1.heap.size, 0, none⟩) (by simp)]
    simp
  have q0 := cell_of_row _ _ 0 _ _ _ hr2
  have q1 := cell_of_row _ _ 1 _ _ _ hr2
  have q2 := cell_of_row _ _ 2 _ _ _ hr2
  have q3 := cell_of_row _ _ 3 _ _ _ hr2
  have f0 := frozen_of_row _ _ 0 _ _ hr2
  have f1 := frozen_of_row _ _ 1 _ _ hr2
  have f2 := frozen_of_row _ _ 2 _ _ hr2
  have f3 := frozen_of_row _ _ 3 _ _ hr2
  simp at q0 q1 q2 q3
  have hW2 := hW1.trans (hB12.mono hW1.size)
  have HA2 := hide ((unhide HA).below (newBs_four n) hB12)
  have HI := hide hI
  obtain ⟨mn, hmn⟩ : ∃ mn, (newMap n).length = mn := ⟨_, rfl⟩
  rw [hmn] at hMine ⊢
  have HMN := hide hmn
  simp only [World.size_alloc] at hMine
  have HMI := hide hMine
  have HR2 := hide hr2
  clear hv hM hB2 hB12 hr2 hI hmn HA HR1 hb1 hW1 hMine
  go_wp2
  refine bodyPost_ret (v := .tuple #[.agg #[.slice a n c, .slice ma mn mc, .int .i64 1, .int .i64 0], .bool true]) (by simp [results, Try.results118, go_sem, q0, q1, q2, q3]) rfl ⟨a, c, ma, mc, by rw [unhide HMN], ?_, ?_, ?_, ?_⟩
  · exact ((unhide HA2).touch (newBs_four n) (touchN4 _ _ _ _ _ _) (fun k hk e => by omega)).mono (fun k hk => ⟨by omega, by simp [World.setCell]; omega⟩)
  · exact intsAt_apart (unhide HR2) (unhide HI) (fun x hx => by rw [List.eq_of_mem_replicate hx]; decide) (touchN4 _ _ _ _ _ _)
  · rw [unhide HMN]; exact MineFrom.lowerN ((unhide HMI).touch' (touchN4 _ _ _ _ _ _) (fun g hg he => by
      rcases unhide HMI with ⟨e, _⟩ | ⟨g', e, h1, _⟩
      · rw [hg] at e; cases e
      · rw [hg] at e; cases e; omega)) (by omega)
  · exact hW2.trans ((touchN4 _ _ _ _ _ _).below hW2.size (fun k hk => by rw [hk]; exact Nat.le_refl _))
end Go.Proofs.Ytimencianaclmaa

/- Layouts in plain words: right weights, which member has the parity of a stripe, where a block lies. No program is named here. -/
namespace Go.Proofs.Ytimencianaclmaa
open Go.RowKit
set_option linter.unusedVariables false
set_option linter.unusedSimpArgs false

/-- The first k weights together. -/
def upto (L : List Int) (k : Nat) : Int := (L.take k).sum

theorem upto_zero (L : List Int) : upto L 0 = 0 := by simp [upto]
theorem upto_step {L : List Int} {k : Nat} {x : Int} (h : L[k]? = some x) : upto L (k + 1) = upto L k + x := by
  unfold upto
  rw [List.take_add_one, h]
  simp
theorem upto_all (L : List Int) : upto L L.length = L.sum := by simp [upto]

/-- Weights that are each within 0 and 5. -/
def Small (L : List Int) : Prop := ∀ x ∈ L, 0 ≤ x ∧ x ≤ 5
instance (L : List Int) : Decidable (Small L) := by unfold Small; infer_instance

theorem Small.at {L : List Int} (h : Small L) {k : Nat} {x : Int} (hx : L[k]? = some x) : 0 ≤ x ∧ x ≤ 5 := h x (List.mem_of_getElem? hx)

theorem Small.upto {L : List Int} (h : Small L) : ∀ k, k ≤ L.length → 0 ≤ upto L k ∧ upto L k ≤ 5 * (k : Int) := by
  intro k
  induction k with
  | zero => intro _; simp [upto_zero]
  | succ k ih =>
    intro hk
    obtain ⟨x, hx⟩ := getElem?_ex (l := L) (k := k) (by omega)
    have := ih (by omega)
    have := h.at hx
    rw [upto_step hx]
    omega

/-- A right layout. -/
def LayOk (L : List Int) : Prop := (3 ≤ L.length ∧ L.length ≤ 5) ∧ Small L ∧ 0 < L.sum
instance (L : List Int) : Decidable (LayOk L) := by unfold LayOk; infer_instance

theorem LayOk.sum {L : List Int} (h : LayOk L) : 0 < L.sum ∧ L.sum ≤ 25 := by
  refine ⟨h.2.2, ?_⟩
  have := h.2.1.upto L.length (Nat.le_refl _)
  rw [upto_all] at this
  have := h.1.2
  omega

/-- The member m has the parity of the stripe s: the first whose end is above what is left. -/
structure ParIs (L : List Int) (s : Int) (m : Nat) : Prop where
  lt : m < L.length
  above : s % L.sum < upto L (m + 1)
  first : ∀ j, j < m → upto L (j + 1) ≤ s % L.sum

theorem ParIs.one {L : List Int} {s : Int} {m n : Nat} (h : ParIs L s m) (k : ParIs L s n) : m = n := by
  rcases Nat.lt_trichotomy m n with e | e | e
  · have := k.first m e; have := h.above; omega
  · exact e
  · have := h.first n e; have := k.above; omega

/-- What ParityOf answers. -/
def ParityIs (L : List Int) (s r : Int) : Prop :=
  (LayOk L ∧ (0 ≤ s ∧ s ≤ 1000000000) ∧ ∃ m : Nat, r = (m : Int) ∧ ParIs L s m) ∨ (¬ (LayOk L ∧ (0 ≤ s ∧ s ≤ 1000000000)) ∧ r = -1)

theorem ParityIs.one {L : List Int} {s r q : Int} (h : ParityIs L s r) (k : ParityIs L s q) : r = q := by
  rcases h with ⟨h1, h2, m, rfl, h3⟩ | ⟨h1, rfl⟩
  · rcases k with ⟨_, _, n, rfl, k3⟩ | ⟨k1, _⟩
    · rw [h3.one k3]
    · exact absurd ⟨h1, h2⟩ k1
  · rcases k with ⟨k1, k2, _⟩ | ⟨_, rfl⟩
    · exact absurd ⟨k1, k2⟩ h1
    · rfl

/-- Where a block of a right layout lies. -/
structure PutIs (L : List Int) (lba mem stripe : Int) : Prop where
  quo : stripe = lba / ((L.length : Int) - 1)
  rest : ∃ m : Nat, ParIs L stripe m ∧ mem = if (m : Int) ≤ lba % ((L.length : Int) - 1) then lba % ((L.length : Int) - 1) + 1 else lba % ((L.length : Int) - 1)

theorem PutIs.one {L : List Int} {lba m s m' s' : Int} (h : PutIs L lba m s) (k : PutIs L lba m' s') : m = m' ∧ s = s' := by
  obtain ⟨rfl, p, hp, rfl⟩ := h
  obtain ⟨rfl, q, hq, rfl⟩ := k
  rw [hp.one hq]
  exact ⟨rfl, rfl⟩

/-- What PlaceOf answers. -/
def PlaceIs (L : List Int) (lba m s : Int) : Prop :=
  (LayOk L ∧ (0 ≤ lba ∧ lba ≤ 1000000000) ∧ PutIs L lba m s) ∨ (¬ (LayOk L ∧ (0 ≤ lba ∧ lba ≤ 1000000000)) ∧ m = -1 ∧ s = 0)

theorem PlaceIs.one {L : List Int} {lba m s m' s' : Int} (h : PlaceIs L lba m s) (k : PlaceIs L lba m' s') : m = m' ∧ s = s' := by
  rcases h with ⟨h1, h2, h3⟩ | ⟨h1, rfl, rfl⟩
  · rcases k with ⟨_, _, k3⟩ | ⟨k1, _⟩
    · exact h3.one k3
    · exact absurd ⟨h1, h2⟩ k1
  · rcases k with ⟨k1, k2, _⟩ | ⟨_, rfl, rfl⟩
    · exact absurd ⟨k1, k2⟩ h1
    · exact ⟨rfl, rfl⟩

/-- What LbaOf answers. -/
def LbaIs (L : List Int) (mem stripe r : Int) : Prop :=
  (LayOk L ∧ (0 ≤ stripe ∧ stripe ≤ 249999999) ∧ (0 ≤ mem ∧ mem ≤ (L.length : Int) - 1) ∧ ∃ p : Nat, ParIs L stripe p ∧
    r = if mem = (p : Int) then -1 else if (p : Int) < mem then stripe * ((L.length : Int) - 1) + (mem - 1) else stripe * ((L.length : Int) - 1) + mem) ∨
  (¬ (LayOk L ∧ (0 ≤ stripe ∧ stripe ≤ 249999999) ∧ (0 ≤ mem ∧ mem ≤ (L.length : Int) - 1)) ∧ r = -1)

theorem LbaIs.one {L : List Int} {m s r q : Int} (h : LbaIs L m s r) (k : LbaIs L m s q) : r = q := by
  rcases h with ⟨h1, h2, h3, p, hp, rfl⟩ | ⟨h1, rfl⟩
  · rcases k with ⟨_, _, _, p', hp', rfl⟩ | ⟨k1, _⟩
    · rw [hp.one hp']
    · exact absurd ⟨h1, h2, h3⟩ k1
  · rcases k with ⟨k1, k2, k3, _⟩ | ⟨_, rfl⟩
    · exact absurd ⟨k1, k2, k3⟩ h1
    · rfl

theorem ofNat_lt_tmod {L : List Int} (h : LayOk L) {s : Int} (hs : 0 ≤ s) : 0 ≤ s % L.sum ∧ s % L.sum < L.sum :=
  ⟨Int.emod_nonneg _ (by have := h.2.2; omega), Int.emod_lt_of_pos _ h.2.2⟩

end Go.Proofs.Ytimencianaclmaa

/- The model's chapter 5: LayoutOk, ParityOf, PlaceOf, LbaOf. -/
namespace Go.Proofs.Ytimencianaclmaa
open Go.RowKit
set_option linter.unusedVariables false
set_option linter.unusedSimpArgs false

set_option maxHeartbeats 1000000 in
theorem l5Sum_any (a : Option Addr) (c : Nat) (L : List Int) (n : Nat) (hl : L.length = n) (w : World) (h : IntsAt w a L) (hs : Small L) (hn : n ≤ 5) :
    Calls Try.prog 164 #[.slice a n c] w fun e w' => e = .returned (.int .i64 L.sum) ∧ w' = w := by
  have HS := hide hs
  clear hs
  go_enter Try.func164, Try.ntmps164
  go_wp2
  go_loop [3, 4] (fun v i => ∃ k : Nat, k ≤ n ∧ i = .int .i64 k ∧ v = .int .i64 (upto L k)) (fun _ i => n - (intOf i).toNat)
  case atStart => exact ⟨0, Nat.zero_le _, rfl, by simp [upto_zero]⟩
  case round =>
    obtain ⟨k, hk, rfl, rfl⟩ := hrel
    by_cases hlt : k < n
    · obtain ⟨x, hx⟩ := getElem?_ex (l := L) (k := k) (by omega)
      obtain ⟨b1, o1, rfl, g1⟩ := h k x hx
      have hu := (unhide HS).upto k (by omega)
      have hx5 := (unhide HS).at hx
      have hst := upto_step hx
      have HX := hide hst
      clear hx h hl hst
      generalize upto L k = u at hu HX ⊢
      go_wp2
      go_round
      case rel => exact ⟨k + 1, by omega, by go_num, by rw [unhide HX]⟩
      case measure => simp [intOf]; omega
    · have hk' : k = L.length := by omega
      subst hk'
      rw [upto_all]
      clear h
      go_wp2
      go_ret
      exact ⟨rfl, rfl⟩

set_option maxHeartbeats 1000000 in
theorem specLayoutOk_any (a : Option Addr) (c : Nat) (L : List Int) (n : Nat) (hl : L.length = n) (w : World) (h : IntsAt w a L) :
    Calls Try.prog 116 #[.slice a n c] w fun e w' => e = .returned (.bool (decide (LayOk L))) ∧ w' = w := by
  have HL := hide hl
  go_enter Try.func116, Try.ntmps116
  go_wp2_with fail
  refine (l1In_any _ _ _ _).mono ?_
  rintro e w1 ⟨rfl, rfl⟩
  by_cases h35 : (3 : Int) ≤ (n : Int) ∧ (n : Int) ≤ 5
  · have hd : decide ((3 : Int) ≤ (n : Int) ∧ (n : Int) ≤ 5) = true := by simpa using h35
    rw [hd]
    clear hd
    go_wp2
    go_loop [3] (fun i => ∃ k : Nat, k ≤ n ∧ i = .int .i64 k ∧ ∀ j x, j < k → L[j]? = some x → 0 ≤ x ∧ x ≤ 5) (fun i => n - (intOf i).toNat)
    case atStart => exact ⟨0, Nat.zero_le _, rfl, fun j x hj => absurd hj (Nat.not_lt_zero _)⟩
    case round =>
      obtain ⟨k, hk, rfl, hA⟩ := hrel
      have HA := hide hA
      clear hA
      by_cases hlt : k < n
      · obtain ⟨x, hx⟩ := getElem?_ex (l := L) (k := k) (by omega)
        obtain ⟨b1, o1, rfl, g1⟩ := h k x hx
        have HX := hide hx
        clear hx h hl
        go_wp2_with fail
        refine (l1In_any _ _ _ _).mono ?_
        rintro e w2 ⟨rfl, rfl⟩
        by_cases h05 : (0 : Int) ≤ x ∧ x ≤ 5
        · have hd : decide ((0 : Int) ≤ x ∧ x ≤ 5) = true := by simpa using h05
          rw [hd]
          have H05 := hide h05
          clear h05 hd
          go_wp2
          go_round
          case rel =>
            refine ⟨k + 1, by omega, by go_num, fun j y hj hy => ?_⟩
            by_cases e : j = k
            · subst e; rw [unhide HX] at hy; cases hy; exact unhide H05
            · exact unhide HA j y (by omega) hy
          case measure => simp [intOf]; omega
        · have hd : decide ((0 : Int) ≤ x ∧ x ≤ 5) = false := by simpa using h05
          rw [hd]
          have H05 := hide h05
          clear h05 hd
          go_wp2
          go_ret
          refine ⟨?_, rfl⟩
          have : ¬ LayOk L := fun hc => unhide H05 (hc.2.1.at (unhide HX))
          simp [this]
      · have hsm : Small L := by
          intro x hx
          obtain ⟨i, hi⟩ := List.getElem?_of_mem hx
          have := (List.getElem?_eq_some_iff.1 hi).1
          exact unhide HA i x (by omega) hi
        have HSM := hide hsm
        have HH := hide h
        clear hsm HA h
        go_wp2_with fail
        refine (l5Sum_any _ _ L n (unhide HL) _ (unhide HH) (unhide HSM) (by omega)).mono ?_
        rintro e w2 ⟨rfl, rfl⟩
        by_cases hp : 0 < L.sum
        · go_wp2
          go_ret
          refine ⟨?_, rfl⟩
          have h1 : LayOk L := ⟨by omega, unhide HSM, hp⟩
          simp [h1, hp]
        · go_wp2
          go_ret
          refine ⟨?_, rfl⟩
          have h1 : ¬ LayOk L := fun hc => absurd hc.2.2 (by omega)
          simp [h1, hp]
  · have hd : decide ((3 : Int) ≤ (n : Int) ∧ (n : Int) ≤ 5) = false := by simpa using h35
    rw [hd]
    have H35 := hide h35
    clear h35 hd h
    go_wp2
    go_ret
    refine ⟨?_, rfl⟩
    have : ¬ LayOk L := fun hc => unhide H35 (by have := hc.1; omega)
    simp [this]






end Go.Proofs.Ytimencianaclmaa

/- The model's ArrayNew. -/
namespace Go.Proofs.Ytimencianaclmaa
open Go.RowKit
set_option linter.unusedVariables false
set_option linter.unusedSimpArgs false

/-- A new member's chip and map lie in [lo, hi). -/
def NewIn (w : World) (lo hi n : Nat) (a ma : Option Addr) : Prop := ChipS (fun k => lo ≤ k ∧ k < hi) w a (newBs n) ∧ IntsAt w ma (newMap n) ∧ MineFrom w ma (newMap n).length lo ∧ (∀ g, ma = some ⟨g, 0, none⟩ → g < hi)
theorem NewIn.touch {S : Nat → Prop} {w w' : World} {lo hi n : Nat} {a ma : Option Addr} (h : NewIn w lo hi n a ma) (hT : Touch S w w') (hS : ∀ k, S k → ¬ (lo ≤ k ∧ k < hi)) : NewIn w' lo hi n a ma := by
  obtain ⟨h1, h2, h3, h4⟩ := h
  have hx : ∀ g, ma = some ⟨g, 0, none⟩ → ¬ S g := fun g hg hs => hS g hs ⟨by
    rcases h3 with ⟨e, _⟩ | ⟨g', e, k1, _⟩
    · rw [e] at hg; cases hg
    · rw [e] at hg; cases hg; exact k1, h4 g hg⟩
  refine ⟨h1.touch (newBs_four n) hT (fun k hk hs => hS k hs hk), ?_, h3.touch' hT hx, h4⟩
  intro i x hi
  obtain ⟨b, o, ha, hc⟩ := h2 i x hi
  have hb : ¬ S b := by
    rcases h3 with ⟨e, _⟩ | ⟨g', e, _⟩
    · rw [e] at ha; cases ha
    · have e2 := e; rw [ha] at e2; cases e2; exact hx _ e
  exact ⟨b, o, ha, (World.cell?_of_block (w := w) (a := ⟨b, o + i, none⟩) (hT.block b (World.block_lt_of_cell? _ _ hc) hb)).trans hc⟩

/-- Members put together by append: the cells xs of the list v. -/
def NewMems (w : World) (B : Nat) (v : Value) (n : Nat) (xs : List Value) (j : Nat) : Prop := ∀ i, i < j → ∃ a c ma mc lo hi, xs[i * 4]? = some (.slice a n c) ∧ xs[i * 4 + 1]? = some (.slice ma (newMap n).length mc) ∧ xs[i * 4 + 2]? = some (.int .i64 1) ∧ xs[i * 4 + 3]? = some (.int .i64 0) ∧ hi ≤ w.heap.size ∧ (∀ g, v.ownBlock = some g → ¬ (lo ≤ g ∧ g < hi)) ∧ B ≤ lo ∧ NewIn w lo hi n a ma
theorem NewMems.touch {S : Nat → Prop} {w w' : World} {B : Nat} {v : Value} {n : Nat} {xs : List Value} {j : Nat} (h : NewMems w B v n xs j) (hT : Touch S w w') (hS : ∀ k, S k → k < B) : NewMems w' B v n xs j := fun i hi => by
  obtain ⟨a, c, ma, mc, lo, hi, h0, h1, h2, h3, h4, h5, h7, h6⟩ := h i hi
  exact ⟨a, c, ma, mc, lo, hi, h0, h1, h2, h3, Nat.le_trans h4 hT.size, h5, h7, h6.touch hT (fun k hk hs => by have := hS k hk; omega)⟩
theorem NewMems.below {w w' : World} {B : Nat} {v : Value} {n : Nat} {xs : List Value} {j : Nat} (h : NewMems w B v n xs j) (hB : Below w.heap.size w w') : NewMems w' B v n xs j := h.touch (S := fun _ => False) (Touch.of_below hB) (fun k hk => hk.elim)
theorem touch_grown {w w' : World} {r : Option Nat} (h : w.grownBy w' r) : Touch (fun k => r = some k) w w' := ⟨h.os, h.tape, h.output, h.size, fun k hk hs => h.block k hk (fun e => hs e.symm)⟩
theorem NewMems.push {w W w1 : World} {B : Nat} {v : Value} {n : Nat} {xs : List Value} {j : Nat} (h : NewMems w B v n xs j) (hl : xs.length = j * 4) (hv : ∀ g, v.ownBlock = some g → g < w.heap.size) (hB : Below w.heap.size w W) (hBw : B ≤ w.heap.size)
    {a ma : Option Addr} {c mc hi g cap : Nat} (hN : NewIn W w.heap.size hi n a ma) (hhi : hi ≤ W.heap.size) (hgrow : W.grownBy w1 v.ownBlock) (hat : v.ownBlock = some g ∨ g = W.heap.size) :
    NewMems w1 B (.slice (some ⟨g, 0, none⟩) (j + 1) cap) n (xs ++ [.slice a n c, .slice ma (newMap n).length mc, .int .i64 1, .int .i64 0]) (j + 1) := by
  have hT := touch_grown hgrow
  intro i hi2
  by_cases e : i = j
  · subst e
    refine ⟨a, c, ma, mc, w.heap.size, hi, ?_, ?_, ?_, ?_, Nat.le_trans hhi hgrow.size, fun g' hg' hs => ?_, hBw, hN.touch hT (fun k hk hs => by have := hv k hk; omega)⟩
    · rw [List.getElem?_append_right (by omega), hl]; simp
    · rw [List.getElem?_append_right (by omega), hl]; simp
    · rw [List.getElem?_append_right (by omega), hl]; simp
    · rw [List.getElem?_append_right (by omega), hl]; simp
    · simp [Value.ownBlock] at hg'
      subst hg'
      rcases hat with hat | hat
      · have := hv g hat; omega
      · omega
  · obtain ⟨a', c', ma', mc', lo', hi', h0, h1, h2, h3, h4, h5, h7, h6⟩ := h i (by omega)
    have hs := hB.size
    have h6W := h6.touch (S := fun _ => False) (Touch.of_below hB) (fun k hk => hk.elim)
    refine ⟨a', c', ma', mc', lo', hi', ?_, ?_, ?_, ?_, Nat.le_trans (Nat.le_trans h4 hs) hgrow.size, fun g' hg' hs' => ?_, h7, h6W.touch hT (fun k hk hs => h5 k hk hs)⟩
    · rw [List.getElem?_append_left (by omega)]; exact h0
    · rw [List.getElem?_append_left (by omega)]; exact h1
    · rw [List.getElem?_append_left (by omega)]; exact h2
    · rw [List.getElem?_append_left (by omega)]; exact h3
    · simp [Value.ownBlock] at hg'
      subst hg'
      rcases hat with hat | hat
      · exact h5 g hat hs'
      · omega
theorem NewMems.mbsAt {w : World} {B n cap g base e : Nat} {xs : List Value} {j : Nat} (h : NewMems w B (.slice (some ⟨g, 0, none⟩) j cap) n xs j) (hr : w.ownsRow base e 4 (.slice (some ⟨g, 0, none⟩) j cap) j xs) : MbsAt w g (List.replicate j (newMb n)) := by
  intro i m hm
  obtain ⟨hi, rfl⟩ := List.getElem?_eq_some_iff.1 hm
  simp at hi
  rw [List.getElem_replicate]
  obtain ⟨a, c, ma, mc, lo, hi', h0, h1, h2, h3, h4, h5, h7, h6⟩ := h i hi
  refine ⟨a, c, ma, mc, ?_, ownsRow_cell hr h1, ownsRow_cell hr h2, ownsRow_cell hr h3, h6.1.blocksAt, h6.2.1⟩
  show w.cell? _ = some (.slice a (newBs n).length c)
  rw [newBs_length]
  exact ownsRow_cell hr h0

/-- What the model's ArrayNew answers. -/
def ArrNewSpec (L : List Int) (k : Nat) (n : Int) (e : Ending) (w' : World) : Prop :=
  (¬ (LayOk L ∧ 4 ≤ n ∧ n ≤ 12) ∧ e = .returned (.tuple #[.agg #[.slice none 0 0, .int .i64 0, .int .i64 0, .bool false, .slice none 0 0, .slice none 0 0], .bool false])) ∨
  ((LayOk L ∧ 4 ≤ n ∧ n ≤ 12) ∧ ∃ wa wc G c, e = .returned (.tuple #[.agg #[.slice wa k wc, .int .i64 n, .int .i64 (-1), .bool false, .slice (some ⟨G, 0, none⟩) k c, .slice none 0 0], .bool true]) ∧ IntsAt w' wa L ∧ MbsAt w' G (List.replicate k (newMb n.toNat)))

theorem infoFtlS : (Try.prog.info? 44).map (fun i => (i.zero, i.size, i.bytes)) = some (some (.agg #[.slice none 0 0, .slice none 0 0, .int .i64 0, .int .i64 0]), 4, 64) := by kernel_rfl

set_option maxRecDepth 100000 in
set_option maxHeartbeats 4000000 in
theorem specArrayNew_any (wa : Option Addr) (wc : Nat) (L : List Int) (k : Nat) (hL : L.length = k) (hk20 : k ≤ 1048576) (n : Int) (w : World) (hI : IntsAt w wa L) :
    Calls Try.prog 56 #[.slice wa k wc, .int .i64 n] w fun e w' => ArrNewSpec L k n e w' ∧ Below w.heap.size w w' := by
  have HIN : Hid (∀ W', Below w.heap.size w W' → IntsAt W' wa L) := fun W' hW => hI.below hW (Nat.le_refl _)
  have HLL := hide hL
  clear hI hL
  go_enter Try.func56, Try.ntmps56
  go_wp2_with fail
  have hb0 : ∀ o, Below w.heap.size w (w.alloc o) := fun o => (Below.refl _ w).alloc (Nat.le_refl _) o
  refine (specLayoutOk_any wa wc L k (unhide HLL) _ (unhide HIN _ (hb0 _))).mono ?_
  rintro e w1 ⟨rfl, rfl⟩
  by_cases hlay : LayOk L
  case neg =>
    rw [show decide (LayOk L) = false by simpa using hlay]
    have HNO : Hid (¬ (LayOk L ∧ 4 ≤ n ∧ n ≤ 12)) := fun h => hlay h.1
    clear hlay
    go_wp2
    exact bodyPost_ret (v := .tuple #[.agg #[.slice none 0 0, .int .i64 0, .int .i64 0, .bool false, .slice none 0 0, .slice none 0 0], .bool false]) (by simp [results, Try.results56, go_sem]) rfl ⟨.inl ⟨unhide HNO, rfl⟩, hb0 _⟩
  case pos =>
    rw [show decide (LayOk L) = true by simpa using hlay]
    have HLAY := hide hlay
    obtain ⟨⟨hk3, hk5⟩, -, -⟩ := hlay
    rw [unhide HLL] at hk3 hk5
    go_wp2_with fail
    refine (specRoomFor_any n _).mono ?_
    rintro e w1 ⟨rfl, rfl⟩
    by_cases h4 : 4 ≤ n ∧ n ≤ 12
    case neg =>
      rw [roomI_out h4]
      have HNO : Hid (¬ (LayOk L ∧ 4 ≤ n ∧ n ≤ 12)) := fun h => h4 h.2
      clear h4
      go_wp2
      exact bodyPost_ret (v := .tuple #[.agg #[.slice none 0 0, .int .i64 0, .int .i64 0, .bool false, .slice none 0 0, .slice none 0 0], .bool false]) (by simp [results, Try.results56, go_sem]) rfl ⟨.inl ⟨unhide HNO, rfl⟩, hb0 _⟩
    case pos =>
      obtain ⟨nn, rfl⟩ := Int.eq_ofNat_of_zero_le (show 0 ≤ n by omega)
      have hn1 : 4 ≤ nn := by omega
      have hn2 : nn ≤ 12 := by omega
      rw [roomI_in h4]
      have hne : ((4 * ((nn : Int) - 3)) == 0) = false := by simp; omega
      have hne2 : ¬ (4 * ((nn : Int) - 3)) = 0 := by omega
      obtain ⟨i0, hi, hz0, hz1, hz2⟩ := info_parts infoInt64I
      obtain ⟨x, hx⟩ := getElem?_ex (l := L) (k := 0) (by have := unhide HLL; omega)
      obtain ⟨b1, o1, rfl, -⟩ := (unhide HIN w (Below.refl _ w)) 0 x hx
      obtain ⟨X, hX⟩ : ∃ X, X = ints L := ⟨_, rfl⟩
      have hXl : X.length = k * 1 := by rw [hX, ints_length]; have := unhide HLL; omega
      have hX1 : ∀ u ∈ X, u.oneCell' = true := fun u hu => by rw [hX] at hu; simp [ints] at hu; obtain ⟨y, _, rfl⟩ := hu; rfl
      obtain ⟨w2, hw2⟩ : ∃ w2, w2 = w.alloc (.cells #[.slice none 0 0, .int .i64 0, .int .i64 0, .bool false, .slice none 0 0, .slice none 0 0] 89) := ⟨_, rfl⟩
      have hs2 : w2.heap.size = w.heap.size + 1 := by rw [hw2]; simp
      have hW2 : Below w.heap.size w w2 := by rw [hw2]; exact hb0 _
      have hr2 : w2.heap[w.heap.size]? = some (.cells #[.slice none 0 0, .int .i64 0, .int .i64 0, .bool false, .slice none 0 0, .slice none 0 0] 89 (0, 0)) := by rw [hw2]; exact World.alloc_heap_new w _
      rw [← hw2]
      have HI2 := hide (unhide HIN _ (hW2.alloc (by omega) (.cells #[] 2)))
      have HXN : Hid (∀ j u, X[j]? = some u → (w2.alloc (.cells #[] 2)).cell? ((⟨b1, o1, none⟩ : Addr).add j) = some u) := fun j u hu => by
        rw [hX] at hu
        simp only [ints, List.getElem?_map, Option.map_eq_some_iff] at hu
        obtain ⟨y, hy, rfl⟩ := hu
        obtain ⟨b2, o2, e2, hcy⟩ := (unhide HI2) j y hy
        cases e2
        rw [Go.WideShapes.add_plain]
        exact hcy
      have HX := hide hX
      have HR : Hid ((w2.alloc (.cells #[] 2)).ownsRow w2.heap.size 2 1 (.slice (some ⟨w2.heap.size, 0, none⟩) 0 0) 0 []) := by
        have := World.ownsRow_lit (base := w2.heap.size) (e := 2) (size := 1) w2 #[] 0 (Nat.le_refl _) (by unfold maxLen; omega) rfl
        refine hide ?_
        simpa using this
      clear hx hX hw2 hb0 h4
      go_wp2_with (refine wpList_append_lies _ rfl (.tmp 19) (.tmp 20) 41 rfl w2.heap.size 2 i0 _ 1 8 Try.underlying41 hi hz0 hz1 hz2 rfl (by decide) (.slice (some ⟨w2.heap.size, 0, none⟩) 0 0) 0 [] (by simp [Act.eval]) (unhide HR) ⟨b1, o1, none⟩ k wc X (by simp [Act.eval]) hXl (unhide HXN) hX1 (by omega) (by unfold maxLen; omega) (by omega) (by simp) _ rfl ?_; intro g1 cap1 wE hown1 hgrow1 hat1 hlt1)
      have e0k : 0 + k = k := Nat.zero_add k
      rw [e0k] at hown1
      have hsE : w2.heap.size + 1 ≤ wE.heap.size := by have := hgrow1.size; simpa using this
      have hBE : Below w2.heap.size w2 wE := Below.grown ((Below.refl _ w2).alloc (Nat.le_refl _) _) hgrow1 (by simp) (fun j e => ((unhide HR).lt j e).1)
      have hIE : IntsAt wE (some ⟨g1, 0, none⟩) L := by
        have ho : OwnInts wE 2 w2.heap.size (.slice (some ⟨g1, 0, none⟩) k cap1) L := by
          unfold OwnInts
          rw [unhide HLL, ← unhide HX]
          simpa using hown1
        obtain ⟨a9, c9, e9, h9, -⟩ := ho.form
        cases e9
        exact h9
      have hWE : Below w.heap.size w wE := hW2.trans (hBE.mono (by omega))
      have hg1 : w2.heap.size ≤ g1 := (hown1.lt g1 rfl).1
      have hrE := (hBE.block w.heap.size (by omega)).trans hr2
      have HIE := hide hIE
      have HWE := hide hWE
      have HRE := hide hrE
      obtain ⟨j0, hj0, hy0, hy1, hy2⟩ := info_parts infoFtlS
      clear hgrow1 hat1 hown1 hIE hWE hrE hBE hr2 hW2 HR HXN HI2 HIN HX hX1 hXl hi hz0 hz1 hz2
      obtain ⟨P, hP⟩ : ∃ P, P = wE.heap.size := ⟨_, rfl⟩
      have HPE := hide hP
      rw [← hP] at hlt1 hsE ⊢
      clear hP
      go_loopw [7] (fun i wr => ∃ (j : Nat) (v : Value) (xs : List Value), j ≤ k ∧ i = .int .i64 j ∧ wr.heap[P]? = some (.cells #[.slice (some ⟨g1, 0, none⟩) k cap1, .int .i64 (nn : Int), .int .i64 (-1), .bool false, v, .slice none 0 0] 89 (0, 0)) ∧ wr.ownsRow (P + 1) 44 4 v j xs ∧ NewMems wr (P + 1) v nn xs j ∧ Below P wE wr ∧ P + 1 ≤ wr.heap.size) (fun i _ => k - (intOf i).toNat)
      case atStart =>
        refine ⟨0, .slice none 0 0, [], Nat.zero_le _, rfl, ?_, World.ownsRow_nil _ _ _ _, fun i hi => absurd hi (Nat.not_lt_zero _), ?_, ?_⟩
        · rw [unhide HPE]; exact World.alloc_heap_new wE _
        · exact (Below.refl _ wE).alloc (by rw [unhide HPE]; exact Nat.le_refl _) _
        · rw [unhide HPE]; simp
      case round =>
        obtain ⟨j, v, xs, hj, rfl, hv, hR, hM, hB, hsz⟩ := hrel
        have hxl := hR.1
        have HM := hide hM
        have HXL := hide hxl
        have HB := hide hB
        have HRR := hide hR
        have HV := hide hv
        clear hM hxl hB
        by_cases hlt : j < k
        · clear hR hv
          go_wp2_with fail
          refine (specFtlNew_soft nn hn1 hn2 wr).mono ?_
          rintro e w1 ⟨a, c, ma, mc, rfl, hC, hI, hMn, hB1⟩
          have hs1 := hB1.size
          have hNI : NewIn w1 wr.heap.size w1.heap.size nn a ma := ⟨hC, hI, hMn, fun g hg => by
            rcases hMn with ⟨e, _⟩ | ⟨g', e, _, k2, _⟩
            · rw [e] at hg; cases hg
            · rw [e] at hg; cases hg; exact k2⟩
          have HNI := hide hNI
          have HB1 := hide hB1
          have hv1 := (hB1.block P (by omega)).trans (unhide HV)
          have HV1 := hide hv1
          have hR1 : w1.ownsRow (P + 1) 44 4 v j xs := World.ownsRow.kept (unhide HRR) (show wr.grownBy w1 none from ⟨hB1.os, hB1.tape, hB1.output, hB1.size, fun q hq _ => hB1.block q hq⟩) (by
            cases hvo : v.ownBlock with
            | none => exact Or.inl rfl
            | some q => exact Or.inr (by simp))
          obtain ⟨ln, hln⟩ : ∃ ln, ln = (newMap nn).length := ⟨_, rfl⟩
          rw [← hln]
          have HLN := hide hln
          have hcv := cell_of_row _ _ 4 _ _ _ hv1
          have hfv := frozen_of_row _ _ 4 _ _ hv1
          simp at hcv
          have hPl : P < w1.heap.size := by omega
          have hcv2 : ∀ o, (w1.alloc o).cell? ⟨P, 4, none⟩ = some v := fun o => (cell_alloc_lt _ _ _ _ hPl).trans hcv
          have hvne : some P ≠ v.ownBlock := fun e => by have := ((unhide HRR).lt P e.symm).1; omega
          clear hC hI hMn hB1 hv1 hNI hln
          go_wp2_with (refine wpList_append_lies _ rfl (.tmp 36) (.tmp 38) 86 rfl (P + 1) 44 j0 _ 4 64 Try.underlying86 hj0 hy0 hy1 hy2 rfl (by decide) v j xs (by simp [Act.eval]) (by exact (hR1.alloc _).alloc _) ⟨w1.heap.size + 1, 0, none⟩ 1 1 [.slice a nn c, .slice ma ln mc, .int .i64 1, .int .i64 0] (by simp [Act.eval]) rfl (World.news_of_block (cs := #[.slice a nn c, .slice ma ln mc, .int .i64 1, .int .i64 0]) (t := 44) (fr := (0, 0)) (by exact heap_alloc2_new _ _ _)) (by simp [Value.oneCell']) (by omega) (by unfold maxLen; omega) (by omega) (by simp; omega) _ rfl ?_; intro g2 cap2 w3 hown2 hgrow2 hat2 hlt2; have hv3 := (hgrow2.block P (by simp; omega) hvne).trans (((((Below.refl w1.heap.size w1).alloc (Nat.le_refl _) _).alloc (by simp) _).block P (by omega)).trans (unhide HV1)); have hk3 := cell_of_row _ _ 4 _ _ _ hv3; have hf3 := frozen_of_row _ _ 4 _ _ hv3; simp at hk3; have HV3 := hide hv3; clear hv3)
          have hW : Below wr.heap.size wr ((w1.alloc (.cells #[.slice a nn c, .slice ma ln mc, .int .i64 1, .int .i64 0] 44)).alloc (.cells #[.slice a nn c, .slice ma ln mc, .int .i64 1, .int .i64 0] 44)) := ((unhide HB1).alloc hs1 _).alloc (by simp; omega) _
          have hNW := (unhide HNI).touch (S := fun _ => False) (w' := ((w1.alloc (.cells #[.slice a nn c, .slice ma ln mc, .int .i64 1, .int .i64 0] 44)).alloc (.cells #[.slice a nn c, .slice ma ln mc, .int .i64 1, .int .i64 0] 44))) (Touch.of_below (((Below.refl w1.heap.size w1).alloc (Nat.le_refl _) _).alloc (by simp) _)) (fun k hk => hk.elim)
          have hp := NewMems.push (c := c) (mc := mc) (cap := cap2) (unhide HM) (unhide HXL) (fun g hg => ((unhide HRR).lt g hg).2) hW hsz hNW (by simp; omega) hgrow2 (by rcases hat2 with h | h; exact .inl h; exact .inr (by simpa using h))
          rw [← unhide HLN] at hp
          have hs3 := hgrow2.size
          simp at hs3
          have hBn : Below P wE w3 := Below.grown ((unhide HB).trans (hW.mono (by omega))) hgrow2 (by simp; omega) (fun q e => by have := ((unhide HRR).lt q e).1; omega)
          have hv5 := blk_setCell_same 4 (.slice (some ⟨g2, 0, none⟩) (j + 1) cap2) (unhide HV3)
          simp at hv5
          have hT5 : Touch (fun q => q = P) w3 (w3.setCell ⟨P, 4, none⟩ (.slice (some ⟨g2, 0, none⟩) (j + 1) cap2)) := Touch.setCell (S := fun q => q = P) (p := ⟨P, 4, none⟩) (Touch.refl _ w3) rfl _
          exact ⟨⟨j + 1, .slice (some ⟨g2, 0, none⟩) (j + 1) cap2, xs ++ [.slice a nn c, .slice ma ln mc, .int .i64 1, .int .i64 0], by omega, by simp, hv5, ownsRow_setCell_below hown2 (by show P < P + 1; omega) _, hp.touch hT5 (fun q hq => by omega), hBn.setCell (by show P ≤ P; omega) _, by simp [World.setCell]; omega⟩, by simp [intOf]; omega⟩
        · have hjk : j = k := by omega
          subst hjk
          have hR0 := hR
          rcases hR.2 with ⟨_, h0⟩ | ⟨g3, cap3, cur, rfl, -, -, -⟩
          · omega
          have HR0 := hide hR0
          have hr0 := ((unhide HB).block w.heap.size (by omega)).trans (unhide HRE)
          have q0 := cell_of_row _ _ 0 _ _ _ hv
          have z0 := cell_of_row _ _ 0 _ _ _ hr0
          have f0 := frozen_of_row _ _ 0 _ _ hr0
          have q1 := cell_of_row _ _ 1 _ _ _ hv
          have z1 := cell_of_row _ _ 1 _ _ _ hr0
          have f1 := frozen_of_row _ _ 1 _ _ hr0
          have q2 := cell_of_row _ _ 2 _ _ _ hv
          have z2 := cell_of_row _ _ 2 _ _ _ hr0
          have f2 := frozen_of_row _ _ 2 _ _ hr0
          have q3 := cell_of_row _ _ 3 _ _ _ hv
          have z3 := cell_of_row _ _ 3 _ _ _ hr0
          have f3 := frozen_of_row _ _ 3 _ _ hr0
          have q4 := cell_of_row _ _ 4 _ _ _ hv
          have z4 := cell_of_row _ _ 4 _ _ _ hr0
          have f4 := frozen_of_row _ _ 4 _ _ hr0
          have q5 := cell_of_row _ _ 5 _ _ _ hv
          have z5 := cell_of_row _ _ 5 _ _ _ hr0
          have f5 := frozen_of_row _ _ 5 _ _ hr0
          simp at q0 q1 q2 q3 q4 q5 z0 z1 z2 z3 z4 z5
          have hwl : w.heap.size < wr.heap.size := by omega
          obtain ⟨W5, hW5⟩ : ∃ W5, W5 = ((((((wr.setCell ⟨w.heap.size, 0, none⟩ (.slice (some ⟨g1, 0, none⟩) j cap1)).setCell ⟨w.heap.size, 1, none⟩ (.int .i64 (nn : Int))).setCell ⟨w.heap.size, 2, none⟩ (.int .i64 (-1))).setCell ⟨w.heap.size, 3, none⟩ (.bool false)).setCell ⟨w.heap.size, 4, none⟩ (.slice (some ⟨g3, 0, none⟩) j cap3)).setCell ⟨w.heap.size, 5, none⟩ (.slice none 0 0)) := ⟨_, rfl⟩
          have y0 : W5.cell? ⟨w.heap.size, 0, none⟩ = some (.slice (some ⟨g1, 0, none⟩) j cap1) := by rw [hW5, World.cell?_setCell_other _ _ _ _ (by simp), World.cell?_setCell_other _ _ _ _ (by simp), World.cell?_setCell_other _ _ _ _ (by simp), World.cell?_setCell_other _ _ _ _ (by simp), World.cell?_setCell_other _ _ _ _ (by simp), World.cell?_setCell_same' _ _ _ (by rw [z0]; rfl)]
          have y1 : W5.cell? ⟨w.heap.size, 1, none⟩ = some (.int .i64 (nn : Int)) := by rw [hW5, World.cell?_setCell_other _ _ _ _ (by simp), World.cell?_setCell_other _ _ _ _ (by simp), World.cell?_setCell_other _ _ _ _ (by simp), World.cell?_setCell_other _ _ _ _ (by simp), World.cell?_setCell_same' _ _ _ (by rw [World.cell?_setCell_other _ _ _ _ (by simp), z1]; rfl)]
          have y2 : W5.cell? ⟨w.heap.size, 2, none⟩ = some (.int .i64 (-1)) := by rw [hW5, World.cell?_setCell_other _ _ _ _ (by simp), World.cell?_setCell_other _ _ _ _ (by simp), World.cell?_setCell_other _ _ _ _ (by simp), World.cell?_setCell_same' _ _ _ (by rw [World.cell?_setCell_other _ _ _ _ (by simp), World.cell?_setCell_other _ _ _ _ (by simp), z2]; rfl)]
          have y3 : W5.cell? ⟨w.heap.size, 3, none⟩ = some (.bool false) := by rw [hW5, World.cell?_setCell_other _ _ _ _ (by simp), World.cell?_setCell_other _ _ _ _ (by simp), World.cell?_setCell_same' _ _ _ (by rw [World.cell?_setCell_other _ _ _ _ (by simp), World.cell?_setCell_other _ _ _ _ (by simp), World.cell?_setCell_other _ _ _ _ (by simp), z3]; rfl)]
          have y4 : W5.cell? ⟨w.heap.size, 4, none⟩ = some (.slice (some ⟨g3, 0, none⟩) j cap3) := by rw [hW5, World.cell?_setCell_other _ _ _ _ (by simp), World.cell?_setCell_same' _ _ _ (by rw [World.cell?_setCell_other _ _ _ _ (by simp), World.cell?_setCell_other _ _ _ _ (by simp), World.cell?_setCell_other _ _ _ _ (by simp), World.cell?_setCell_other _ _ _ _ (by simp), z4]; rfl)]
          have y5 : W5.cell? ⟨w.heap.size, 5, none⟩ = some (.slice none 0 0) := by rw [hW5, World.cell?_setCell_same' _ _ _ (by rw [World.cell?_setCell_other _ _ _ _ (by simp), World.cell?_setCell_other _ _ _ _ (by simp), World.cell?_setCell_other _ _ _ _ (by simp), World.cell?_setCell_other _ _ _ _ (by simp), World.cell?_setCell_other _ _ _ _ (by simp), z5]; rfl)]
          have h00 : Touch (fun q => q = w.heap.size) wr wr := Touch.refl _ wr
          have hT5 : Touch (fun q => q = w.heap.size) wr W5 := by
            rw [hW5]
            exact Touch.setCell (p := ⟨w.heap.size, 5, none⟩) (Touch.setCell (p := ⟨w.heap.size, 4, none⟩) (Touch.setCell (p := ⟨w.heap.size, 3, none⟩) (Touch.setCell (p := ⟨w.heap.size, 2, none⟩) (Touch.setCell (p := ⟨w.heap.size, 1, none⟩) (Touch.setCell (p := ⟨w.heap.size, 0, none⟩) (h00) rfl _) rfl _) rfl _) rfl _) rfl _) rfl _
          have hs5 : W5.heap.size = wr.heap.size := by rw [hW5]; simp [World.setCell]
          have hM5 := NewMems.touch (unhide HM) hT5 (fun q hq => by omega)
          have hR5 : W5.ownsRow (P + 1) 44 4 (.slice (some ⟨g3, 0, none⟩) j cap3) j xs := by
            rw [hW5]
            exact ownsRow_setCell_below (ownsRow_setCell_below (ownsRow_setCell_below (ownsRow_setCell_below (ownsRow_setCell_below (ownsRow_setCell_below hR0 (by show w.heap.size < P + 1; omega) _) (by show w.heap.size < P + 1; omega) _) (by show w.heap.size < P + 1; omega) _) (by show w.heap.size < P + 1; omega) _) (by show w.heap.size < P + 1; omega) _) (by show w.heap.size < P + 1; omega) _
          have hI5 : IntsAt W5 (some ⟨g1, 0, none⟩) L := fun i x hx => by
            obtain ⟨b, o, ha, hc⟩ := (unhide HIE) i x hx
            cases ha
            have hbl := World.block_lt_of_cell? _ _ hc
            have e1 := (unhide HB).block g1 (by omega)
            have e2 := hT5.block g1 (by omega) (by omega)
            exact ⟨g1, 0, rfl, (World.cell?_of_block (w := wE) (a := ⟨g1, _, none⟩) (e2.trans e1)).trans hc⟩
          have hW5B : Below w.heap.size w W5 := ((unhide HWE).trans ((unhide HB).mono (by omega))).trans (hT5.below (by omega) (fun q hq => by omega))
          have HF : Hid (MbsAt W5 g3 (List.replicate j (newMb nn)) ∧ IntsAt W5 (some ⟨g1, 0, none⟩) L ∧ Below w.heap.size w W5) := ⟨hM5.mbsAt hR5, hI5, hW5B⟩
          have HY : Hid (LayOk L ∧ 4 ≤ (nn : Int) ∧ (nn : Int) ≤ 12) := ⟨unhide HLAY, by omega, by omega⟩
          clear hM5 hR5 hI5 hW5B hT5 h00 hr0 hR hR0 hv HR0 HRR HV HM
          go_wp2
          try rw [← hW5]
          clear hW5
          obtain ⟨hF1, hF2, hF3⟩ := unhide HF
          exact bodyPost_ret (v := .tuple #[.agg #[.slice (some ⟨g1, 0, none⟩) j cap1, .int .i64 (nn : Int), .int .i64 (-1), .bool false, .slice (some ⟨g3, 0, none⟩) j cap3, .slice none 0 0], .bool true]) (by simp [results, Try.results56, go_sem, y0, y1, y2, y3, y4, y5]) rfl ⟨.inr ⟨unhide HY, some ⟨g1, 0, none⟩, cap1, g3, cap3, rfl, hF2, by simpa using hF1⟩, hF3⟩
end Go.Proofs.Ytimencianaclmaa
