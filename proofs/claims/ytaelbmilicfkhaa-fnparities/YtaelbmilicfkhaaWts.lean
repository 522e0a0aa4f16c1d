/- Drawn weights. -/
import Derived.Test.YtaelbmilicfkhaaChecked
import Derived.Test.YtaelbmilicfkhaaRd
import Derived.WalkKit
import Derived.Outline
namespace Go.Proofs.Ytaelbmilicfkhaa
open Go.RowKit
set_option linter.unusedVariables false
set_option linter.unusedSimpArgs false

theorem infoInt64W : (Try.prog.info? 2).map (fun i => (i.zero, i.size, i.bytes)) = some (some (.int .i64 0), 1, 8) := by kernel_rfl

theorem info_get {P : Program} {t : TypeId} {z : Value} {s b : Nat} (h : (P.info? t).map (fun i => (i.zero, i.size, i.bytes)) = some (some z, s, b)) : ∃ i, P.info? t = some i ∧ i.zero = some z ∧ i.size = s ∧ i.bytes = b := by
  obtain ⟨i, hi, hz⟩ := Option.map_eq_some_iff.1 h
  simp only [Prod.mk.injEq] at hz
  exact ⟨i, hi, hz.1, hz.2.1, hz.2.2⟩

theorem OwnInts.touch {w w' : World} {t : TypeId} {B r : Nat} {v : Value} {L : List Int} (h : OwnInts w t B v L) (hr : r < B) (hT : Touch (· = r) w w') : OwnInts w' t B v L := by
  refine ⟨h.1, ?_⟩
  rcases h.2 with ⟨hv, hl⟩ | ⟨g, cap, cur, rfl, hb, hg, hrest⟩
  · exact .inl ⟨hv, hl⟩
  · refine .inr ⟨g, cap, cur, rfl, hb, ?_, hrest⟩
    rw [hT.block g (Array.getElem?_eq_some_iff.1 hg).1 (by show ¬ g = r; omega)]
    exact hg

/-- A drawn list of weights: at most 5 numbers, in memory from block B on. -/
def WtsAt (w : World) (B : Nat) (v : Value) (L : List Int) : Prop := ∃ (g c : Nat), v = .slice (some ⟨g, 0, none⟩) L.length c ∧ B ≤ g ∧ g < w.heap.size ∧ IntsAt w (some ⟨g, 0, none⟩) L ∧ 2 ≤ L.length ∧ L.length ≤ 5

/-- A list that was built and has a number at least: its row, its room. -/
theorem OwnInts.some {w : World} {t : TypeId} {B : Nat} {v : Value} {L : List Int} (h : OwnInts w t B v L) (hl : 0 < L.length) :
    ∃ g c, v = .slice (some ⟨g, 0, none⟩) L.length c ∧ B ≤ g ∧ g < w.heap.size ∧ L.length ≤ c ∧ c ≤ 9223372036854775807 ∧ IntsAt w (some ⟨g, 0, none⟩) L ∧ ∀ i, w.frozen? ⟨g, i, none⟩ = false := by
  have h0 := h
  rcases h.2 with ⟨_, h1⟩ | ⟨g, cap, cur, rfl, hb, hg, hn, hm, _⟩
  · omega
  · refine ⟨g, cap, rfl, hb, (Array.getElem?_eq_some_iff.1 hg).1, hn, by simpa [maxLen] using hm, fun i x hx => ⟨g, 0, rfl, ?_⟩, fun i => World.ownsRow.frozenAt h0 _⟩
    have hi := (List.getElem?_eq_some_iff.1 hx).1
    rw [Nat.zero_add, World.ownsRow.cellAt h0 i (by omega)]
    simp [ints, hx]

theorem IntsAt.set0 {w : World} {g : Nat} {L : List Int} (h : IntsAt w (some ⟨g, 0, none⟩) L) (hl : 0 < L.length) (y : Int) : IntsAt (w.setCell ⟨g, 0, none⟩ (.int .i64 y)) (some ⟨g, 0, none⟩) (L.set 0 y) := by
  intro i x hx
  refine ⟨g, 0, rfl, ?_⟩
  by_cases e : i = 0
  · subst e
    obtain ⟨z, hz⟩ := getElem?_ex (l := L) (k := 0) hl
    obtain ⟨b, o, hbo, hc⟩ := h 0 z hz
    cases hbo
    rw [World.cell?_setCell_same' _ _ _ (by rw [hc]; rfl)]
    simp [hl] at hx
    rw [hx]
  · rw [World.cell?_setCell_other _ _ _ _ (by simp)]
    rw [List.getElem?_set_ne (by omega)] at hx
    obtain ⟨b, o, hbo, hc⟩ := h i x hx
    cases hbo
    exact hc

theorem IntsAt.take {w : World} {a : Option Addr} {L : List Int} (h : IntsAt w a L) (k : Nat) : IntsAt w a (L.take k) := by
  intro i x hx
  have hi := (List.getElem?_eq_some_iff.1 hx).1
  rw [List.getElem?_take] at hx
  split at hx
  · exact h i x hx
  · cases hx

theorem IntsAt.touch {w w' : World} {g r : Nat} {L : List Int} (h : IntsAt w (some ⟨g, 0, none⟩) L) (hr : g ≠ r) (hT : Touch (· = r) w w') : IntsAt w' (some ⟨g, 0, none⟩) L := by
  intro i x hx
  obtain ⟨b, o, hbo, hc⟩ := h i x hx
  cases hbo
  exact ⟨g, 0, rfl, (World.cell?_of_block (w := w) (a := ⟨g, 0 + i, none⟩) (hT.block g (World.block_lt_of_cell? _ _ hc) hr)).trans hc⟩

set_option maxRecDepth 100000 in
set_option maxHeartbeats 1000000 in
theorem weights_any (r : Nat) (w : World) (h : RdAt w r) :
    Calls Try.prog 64 #[.pointer (some ⟨r, 0, none⟩)] w fun e w' => ∃ v L, e = .returned v ∧ WtsAt w' w.heap.size v L ∧ RdAt w' r ∧ Touch (· = r) w w' := by
  have hr0 := h.lt
  have hB1 : ∀ o, Below w.heap.size w (w.alloc o) := fun o => (Below.refl _ _).alloc (Nat.le_refl _) _
  go_enter Try.func64, Try.ntmps64
  go_wp2_with fail
  refine (below_any r 3 _ (h.below (hB1 _)) (by omega) (by omega)).mono ?_
  rintro e w1 ⟨x, rfl, hx0, hx1, hR, hT⟩
  have HR := hide hR
  have hO1 : OwnInts w1 2 w.heap.size (.slice (some ⟨w.heap.size, 0, none⟩) 0 0) [] := by
    have := World.ownsRow_lit (base := w.heap.size) (e := 2) (size := 1) w #[] 0 (Nat.le_refl _) (by unfold maxLen; omega) rfl
    exact OwnInts.touch (by simpa [OwnInts, ints] using this) hr0 hT
  have HO1 := hide hO1
  have hT1 := (Touch.of_below (hB1 _)).trans hT
  clear h hR hO1 hT hB1
  obtain ⟨N, rfl⟩ := Int.eq_ofNat_of_zero_le hx0
  go_wp2
  go_loopw [3, 4] (fun v i wr => ∃ (k : Nat) (L : List Int), i = .int .i64 k ∧ k + L.length = 3 + N ∧ OwnInts wr 2 w.heap.size v L ∧ RdAt wr r ∧ Touch (· = r) w wr) (fun _ i _ => (intOf i).toNat)
  case atStart => exact ⟨3 + N, [], by simp, by simp, unhide HO1, unhide HR, hT1⟩
  case round =>
    obtain ⟨k, L, rfl, hkl, hO, hR2, hT2⟩ := hrel
    have HO := hide hO
    have HR2 := hide hR2
    have hsz := hT2.size
    have hrl := hR2.lt
    clear hO hR2 HO1 HR
    by_cases hk : 0 < k
    · go_wp2_with fail
      refine (below_any r 4 _ (unhide HR2) (by omega) (by omega)).mono ?_
      rintro e w2 ⟨y, rfl, hy0, hy1, hR3, hT3⟩
      have HR3 := hide hR3
      have hO3 := (unhide HO).touch hr0 hT3
      have hsz3 := hT3.size
      obtain ⟨i0, hi, hz0, hz1, hz2⟩ := info_get infoInt64W
      obtain ⟨X, hX⟩ : ∃ X, X = ints L := ⟨_, rfl⟩
      obtain ⟨m, hm⟩ : ∃ m, m = L.length := ⟨_, rfl⟩
      have hRw : w2.ownsRow w.heap.size 2 1 u3 m X := by rw [hX, hm]; exact hO3
      have hm5 : m ≤ 5 := by omega
      have HX := hide (And.intro hX hm)
      have hT4 := hT2.trans hT3
      clear hX hm hR3 HR2 HO hO3 hT2 hT3
      go_wp2_with (refine wpList_append_lies _ rfl (.tmp 13) (.tmp 16) 30 rfl w.heap.size 2 i0 _ 1 8 Try.underlying30 hi hz0 hz1 hz2 rfl (by decide) u3 m X (by simp [Act.eval]) (by exact hRw.alloc _) ⟨w2.heap.size, 0, none⟩ 1 1 [.int .i64 y] (by simp [Act.eval]) rfl (World.news_of_block (cs := #[.int .i64 y]) (t := 2) (fr := (0, 0)) (by exact Go.Deep.blk_alloc_new _ _)) (by simp [Value.oneCell']) (by omega) (by unfold maxLen; omega) (by omega) (by simp; omega) (w2.heap.size + 1) (by simp) ?_; intro g1 cap w1 hown hgrow hat hlt1)
      go_roundw
      case rel =>
        have hBel : Below w.heap.size _ w1 := Below.grown (Below.refl _ _) hgrow (by simp; omega) (fun j e => (hRw.lt j e).1)
        refine ⟨k - 1, L ++ [y], by rw [show ((k - 1 : Nat) : Int) = (k : Int) - 1 by omega], by simp; omega, ?_, ((unhide HR3).below ((Below.refl _ _).alloc (Nat.le_refl _) _)).past hBel hr0, (hT4.alloc _).past hBel (Nat.le_refl _)⟩
        obtain ⟨e1, e2⟩ := unhide HX
        rw [e1, e2] at hown
        rw [e2]
        simpa [OwnInts, ints] using hown
      case measure => simp [intOf]; omega
    · have hk0 : k = 0 := by omega
      subst hk0
      obtain ⟨g, c, rfl, hBg, hgs, hlc, hcm, hI, hfz⟩ := (unhide HO).some (by omega)
      have HI := hide hI
      clear HO hI
      go_wp2_with fail
      refine (below_any r 30 _ (unhide HR2) (by omega) (by omega)).mono ?_
      rintro e w2 ⟨z, rfl, hz0, hz1, hR3, hT3⟩
      have HR3 := hide hR3
      have hsz3 := hT3.size
      have HI3 := hide ((unhide HI).touch (by omega) hT3)
      have hT4 := hT2.trans hT3
      have hfz3 : ∀ i, w2.frozen? ⟨g, i, none⟩ = false := fun i => (hT3.frozen hgs (by show ¬ g = r; omega)).trans (hfz i)
      clear hR3 HI HR2 hfz
      by_cases e28 : z = 28
      · have hb28 : (z == 28) = true := by simpa using e28
        go_wp2_with fail
        refine (off_any r 0 5 _ (unhide HR3) (by omega) (by omega) (by omega)).mono ?_
        rintro e w3 ⟨y, rfl, hR4, hT5⟩
        have HR4 := hide hR4
        have hsz4 := hT5.size
        have hI4 := (unhide HI3).touch (by omega) hT5
        have f0 : ∀ i, w3.frozen? ⟨g, i, none⟩ = false := fun i => (hT5.frozen (by omega) (by show ¬ g = r; omega)).trans (hfz3 i)
        obtain ⟨x0, hx0'⟩ := getElem?_ex (l := L) (k := 0) (by omega)
        obtain ⟨b0, o0, hbo, c0⟩ := hI4 0 x0 hx0'
        cases hbo
        rw [Nat.zero_add] at c0
        have HI4 := hide hI4
        have hT6 := hT4.trans hT5
        clear hR4 hI4 hx0' HI3 HR3 hfz3
        go_wp2
        go_ret
        refine ⟨_, L.set 0 y, rfl, ⟨g, c, by simp, hBg, by simp; omega, (unhide HI4).set0 (by omega) y, by simp; omega, by simp; omega⟩, ?_, ?_⟩
        · exact RdAt.past (B := w.heap.size) (unhide HR4) ((Below.refl _ _).setCell hBg _) hr0
        · exact hT6.past ((Below.refl _ _).setCell hBg _) (Nat.le_refl _)
      · have hb28 : (z == 28) = false := by simpa using e28
        by_cases e29 : z = 29
        · have hb29 : (z == 29) = true := by simpa using e29
          go_wp2
          go_ret
          have h2 : (L.take 2).length = 2 := by rw [List.length_take]; omega
          exact ⟨_, L.take 2, rfl, ⟨g, c, by rw [h2]; rfl, hBg, by omega, (unhide HI3).take 2, by simp; omega, by simp; omega⟩, unhide HR3, hT4⟩
        · have hb29 : (z == 29) = false := by simpa using e29
          go_wp2
          go_ret
          exact ⟨_, L, rfl, ⟨g, c, rfl, hBg, by omega, unhide HI3, by omega, by omega⟩, unhide HR3, hT4⟩

end Go.Proofs.Ytaelbmilicfkhaa
