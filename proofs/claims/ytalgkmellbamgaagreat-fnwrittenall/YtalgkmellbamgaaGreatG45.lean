/- 2 texts in one. -/
import Derived.Test.YtalgkmellbamgaaGreatChecked
import Derived.Test.YtalgkmellbamgaaGreatG35
import Derived.WalkKit
import Derived.Outline
import Derived.Test.YtalgkmellbamgaaGreatG40

/- Drawn weights. -/
namespace Go.Proofs.YtalgkmellbamgaaGreat
open Go.RowKit
set_option linter.unusedVariables false
set_option linter.unusedSimpArgs false

theorem infoInt64W : (Tryz.prog.info? 2).map (fun i => (i.zero, i.size, i.bytes)) = some (some (.int .i64 0), 1, 8) := by kernel_rfl

theorem info_get {P : Program} {t : TypeId} {z : Value} {s b : Nat} (h : (P.info? t).map (fun i => (i.zero, i.size, i.bytes)) = some (some z, s, b)) : ∃ i, P.info? t = some i ∧ i.zero = some z ∧ i.size = s ∧ i.bytes = b := by
  obtain ⟨i, hi, hz⟩ := Option.map_eq_some_iff.1 h
  simp only [Prod.mk.injEq] at hz
  exact ⟨i, hi, hz.1, hz.2.1, hz.2.2⟩

theorem OwnInts.touch {w w' : World} {t : TypeId} {B r : Nat} {v : Value} {L : List Int} (h : OwnInts w t B v L) (hr : r < B) (hT : Touch (· = r) w w') : OwnInts w' t B v L := by
  refine ⟨h.1, ?_⟩
  rcases h.2 with ⟨hv, hl⟩ | ⟨g, cap, cur, rfl, hb, hg, hrest⟩
  · exact .inl ⟨hv, hl⟩
  · refine .inr ⟨g, cap, cur, rfl, hb, ?_, hrest⟩
    rw [hT.block g (Array.getElem?_eq_some_iff.1 hg).1 (by show ¬ g = r; omega)]
    exact hg

/-- A drawn list of weights: at most 5 numbers, in memory from block B on. -/
def WtsAt (w : World) (B : Nat) (v : Value) (L : List Int) : Prop := ∃ (g c : Nat), v = .slice (some ⟨g, 0, none⟩) L.length c ∧ B ≤ g ∧ g < w.heap.size ∧ IntsAt w (some ⟨g, 0, none⟩) L ∧ 2 ≤ L.length ∧ L.length ≤ 5

/-- A list that was built and has a number at least: its row, its room. -/
theorem OwnInts.some {w : World} {t : TypeId} {B : Nat} {v : Value} {L : List Int} (h : OwnInts w t B v L) (hl : 0 < L.length) :
    ∃ g c, v = .slice (some ⟨g, 0, none⟩) L.length c ∧ B ≤ g ∧ g < w.heap.size ∧ L.length ≤ c ∧ c ≤ 9223372036854775807 ∧ IntsAt w (some ⟨g, 0, none⟩) L ∧ ∀ i, w.frozen? ⟨g, i, none⟩ = false := by
  have h0 := h
  rcases h.2 with ⟨_, h1⟩ | ⟨g, cap, cur, rfl, hb, hg, hn, hm, _⟩
  · omega
  · refine ⟨g, cap, rfl, hb, (Array.getElem?_eq_some_iff.1 hg).1, hn, by simpa [maxLen] using hm, fun i x hx => ⟨g, 0, rfl, ?_⟩, fun i => World.ownsRow.frozenAt h0 _⟩
    have hi := (List.getElem?_eq_some_iff.1 hx).1
    rw [Nat.zero_add, World.ownsRow.cellAt h0 i (by omega)]
    simp [ints, hx]

theorem IntsAt.set0 {w : World} {g : Nat} {L : List Int} (h : IntsAt w (some ⟨g, 0, none⟩) L) (hl : 0 < L.length) (y : Int) : IntsAt (w.setCell ⟨g, 0, none⟩ (.int .i64 y)) (some ⟨g, 0, none⟩) (L.set 0 y) := by
  intro i x hx
  refine ⟨g, 0, rfl, ?_⟩
  by_cases e : i = 0
  · subst e
    obtain ⟨z, hz⟩ := getElem?_ex (l := L) (k := 0) hl
    obtain ⟨b, o, hbo, hc⟩ := h 0 z hz
    cases hbo
    rw [World.cell?_setCell_same' _ _ _ (by rw [hc]; rfl)]
    simp [hl] at hx
    rw [hx]
  · rw [World.cell?_setCell_other _ _ _ _ (by simp)]
    rw [List.getElem?_set_ne (by omega)] at hx
    obtain ⟨b, o, hbo, hc⟩ := h i x hx
    cases hbo
    exact hc

theorem IntsAt.take {w : World} {a : Option Addr} {L : List Int} (h : IntsAt w a L) (k : Nat) : IntsAt w a (L.take k) := by
  intro i x hx
  have hi := (List.getElem?_eq_some_iff.1 hx).1
  rw [List.getElem?_take] at hx
  split at hx
  · exact h i x hx
  · cases hx

theorem IntsAt.touch {w w' : World} {g r : Nat} {L : List Int} (h : IntsAt w (some ⟨g, 0, none⟩) L) (hr : g ≠ r) (hT : Touch (· = r) w w') : IntsAt w' (some ⟨g, 0, none⟩) L := by
  intro i x hx
  obtain ⟨b, o, hbo, hc⟩ := h i x hx
  cases hbo
  exact ⟨g, 0, rfl, (World.cell?_of_block (w := w) (a := ⟨g, 0 + i, none⟩) (hT.block g (World.block_lt_of_cell? _ _ hc) hr)).trans hc⟩


end Go.Proofs.YtalgkmellbamgaaGreat

/- What the law over WrittenAll draws: a member, logs and datas. -/
namespace Go.Proofs.YtalgkmellbamgaaGreat
open Go.RowKit
set_option linter.unusedVariables false
set_option linter.unusedSimpArgs false

/-- An append onto one list leaves a list of another kind as it was. -/
theorem rows_beside {w w' : World} {B1 B2 : Nat} {t1 t2 : TypeId} {s1 s2 : Nat} {v1 v2 : Value} {n1 n2 : Nat} {xs1 xs2 : List Value} (h1 : w.ownsRow B1 t1 s1 v1 n1 xs1) (h2 : w.ownsRow B2 t2 s2 v2 n2 xs2) (hg : w.grownBy w' v1.ownBlock) (ht : t1 ≠ t2) : w'.ownsRow B2 t2 s2 v2 n2 xs2 := by
  refine World.ownsRow.kept h2 hg ?_
  rcases h2.2 with ⟨rfl, _⟩ | ⟨g2, c2, r2, rfl, _, hg2, _⟩
  · exact .inl rfl
  · rcases h1.2 with ⟨rfl, _⟩ | ⟨g1, c1, r1, rfl, _, hg1, _⟩
    · exact .inr (by simp [Value.ownBlock])
    · refine .inr ?_
      simp only [Value.ownBlock, ne_eq, Option.some.injEq]
      intro e
      rw [e, hg1] at hg2
      simp only [Option.some.injEq, Obj.cells.injEq] at hg2
      exact ht hg2.2.1
theorem ints_nil (w : World) (B : Nat) (hB : B ≤ w.heap.size) : OwnInts (w.alloc (.cells #[] 2)) 2 B (.slice (some ⟨w.heap.size, 0, none⟩) 0 0) [] := by
  have := World.ownsRow_lit (base := B) (e := 2) (size := 1) w #[] 0 hB (by unfold maxLen; omega) rfl
  simpa [OwnInts, ints] using this

set_option maxRecDepth 100000 in
set_option maxHeartbeats 4000000 in
theorem drawWrittenAll_any (a : Option Addr) (n c : Nat) (w : World) (h : CodeAt w a n) (hn : n ≤ 1048576) :
    Calls Tryz.prog 14 #[.slice a n c] w fun e w' => ∃ a2 n2 c2 ma2 mn2 mc2 m la lc Ls ta tc Ts, e = .returned (.tuple #[.agg #[.slice a2 n2 c2, .slice ma2 mn2 mc2, .int .i64 (Mb.seq m), .int .i64 m.o], .slice la (List.length Ls) lc, .slice ta (List.length Ts) tc]) ∧ MbAt w' a2 n2 ma2 mn2 w.heap.size m ∧ m.Short ∧ IntsAt w' la Ls ∧ TextsAt w' ta Ts ∧ Ls.length = Ts.length ∧ Ls.length ≤ 17 ∧ (∀ s ∈ Ts, s.size ≤ 4) ∧ Below w.heap.size w w' := by
  obtain ⟨w0, hw0⟩ : ∃ w0, w0 = w.alloc (.cells #[.slice none 0 0, .slice none 0 0, .int .i64 0, .int .i64 0] 29) := ⟨_, rfl⟩
  have hB0 : Below w.heap.size w w0 := by rw [hw0]; exact (Below.refl _ w).alloc (Nat.le_refl _) _
  have hs0 : w0.heap.size = w.heap.size + 1 := by rw [hw0]; simp
  have HZ0 : Hid (BoxAt w0 w.heap.size none 0 0 none 0 0 0 0) := by rw [hw0]; exact BoxAt.alloc _ _ _ _ _ _ _ _ _ _
  have HC0 := hide (h.below hB0 (Nat.le_refl _))
  clear h
  go_enter Tryz.func14, Tryz.ntmps14
  go_wp2_with fail
  rw [← hw0]
  clear hw0
  refine (l1Open_any a n c _ (unhide HC0) hn).mono ?_
  rintro e w1 ⟨rfl, hR1, hB1⟩
  have hs1 := hB1.size
  have HZ1 := hide ((unhide HZ0).below hB1 (by omega))
  have hW1 := hB0.trans (hB1.mono hB0.size)
  obtain ⟨r, hr⟩ : ∃ r, r = w0.heap.size := ⟨_, rfl⟩
  rw [← hr] at hR1 ⊢
  have hrl := hR1.lt
  have HR1 := hide hR1
  have hwr : w.heap.size < r := by omega
  clear hR1 hB1 hB0 HZ0 HC0 hs0 hr
  go_wp2_with fail
  refine (ftl_any r 8 _ (unhide HR1) (by omega) (by omega)).mono ?_
  rintro e w2 ⟨a2, n2, c2, ma2, mn2, mc2, m0, rfl, hM2, hS2, hR2, hT2⟩
  have hs2 := hT2.size
  have HZ2 := hide ((unhide HZ1).touch hT2 (by omega))
  have hW2 : Below w.heap.size w w2 := hW1.trans (hT2.below hW1.size fun k hk => by subst hk; omega)
  have HM2 := hide hM2
  have HS2 := hide hS2
  have HR2 := hide hR2
  have hmn : mn2 ≤ 36 := by have := hS2.2.2; have := hM2.L; omega
  clear hM2 hS2 hR2 hT2 HR1 HZ1 hW1
  obtain ⟨wb, hwb⟩ : ∃ wb, wb = w2.alloc (.cells #[.slice a2 n2 c2, .slice ma2 mn2 mc2, .int .i64 m0.seq, .int .i64 m0.o] 29) := ⟨_, rfl⟩
  have hB3 : Below w2.heap.size w2 wb := by rw [hwb]; exact (Below.refl _ _).alloc (Nat.le_refl _) _
  have HXb : Hid (BoxAt wb w2.heap.size a2 n2 c2 ma2 mn2 mc2 m0.seq m0.o) := by rw [hwb]; exact BoxAt.alloc _ _ _ _ _ _ _ _ _ _
  have hsb : w2.heap.size < wb.heap.size := (unhide HXb).lt
  have hszb : wb.heap.size = w2.heap.size + 1 := by rw [hwb]; simp
  have HZb := hide ((unhide HZ2).below hB3 (by omega))
  have HMb := hide ((unhide HM2).below hB3)
  have HRb := hide ((unhide HR2).below hB3)
  have hWb := hW2.trans (hB3.mono hW2.size)
  clear hB3 HZ2 HM2 HR2 hW2
  obtain ⟨w3, hw3⟩ : ∃ w3, w3 = (wb.alloc (.cells #[] 2)).alloc (.cells #[] 9) := ⟨_, rfl⟩
  have hB3 : Below wb.heap.size wb w3 := by rw [hw3]; exact ((Below.refl _ _).alloc (Nat.le_refl _) _).alloc (by simp) _
  have HOI3 : Hid (OwnInts w3 2 wb.heap.size (.slice (some ⟨w2.heap.size + 1, 0, none⟩) 0 0) []) := by
    have h1 := ints_nil wb wb.heap.size (Nat.le_refl _)
    rw [hw3]
    rw [← hszb]
    exact h1.kept ((Below.refl _ _).alloc (Nat.le_refl _) _)
  have HOT3 : Hid (OwnTexts w3 9 wb.heap.size (.slice (some ⟨w2.heap.size + 1 + 1, 0, none⟩) 0 0) []) := by
    have h1 := OwnTexts.nil (wb.alloc (.cells #[] 2)) 9 wb.heap.size (by simp)
    rw [hw3]
    rw [← hszb]
    show OwnTexts _ _ _ _ _
    simpa using h1
  have hT3 : Touch (· = r) wb w3 := Touch.of_below hB3
  have HR3 := hide ((unhide HRb).below hB3)
  have hs3 := hB3.size
  go_wp2_with fail
  try rw [← hwb]
  try rw [← hw3]
  clear hw3 hwb hB3
  refine (below_any r 16 _ (unhide HR3) (by omega) (by omega)).mono ?_
  rintro e w4 ⟨N, rfl, hN0, hN1, hR4, hT4⟩
  obtain ⟨N, rfl⟩ := Int.eq_ofNat_of_zero_le hN0
  have HR4 := hide hR4
  have HT4 := hide (hT3.trans hT4)
  have HOI4 := hide ((unhide HOI3).touch (by omega) hT4)
  have HOT4 := hide ((unhide HOT3).touch (by omega) hT4)
  have hs4 := hT4.size
  clear hR4 hT4 HR3 hT3 HOI3 HOT3
  go_wp2
  go_loopw [7, 8, 9] (fun v7 v8 v9 wr => ∃ (k : Nat) (Ls : List Int) (Ts : List ByteArray), v9 = .int .i64 k ∧ k ≤ 15 ∧ Ls.length = Ts.length ∧ Ls.length + k ≤ 15 ∧ (∀ s ∈ Ts, s.size ≤ 4) ∧ OwnInts wr 2 wb.heap.size v7 Ls ∧ OwnTexts wr 9 wb.heap.size v8 Ts ∧ RdAt wr r ∧ Touch (· = r) wb wr) (fun _ _ v9 _ => (intOf v9).toNat)
  case atStart => exact ⟨N, [], [], rfl, by omega, rfl, by simp; omega, by simp, unhide HOI4, unhide HOT4, unhide HR4, unhide HT4⟩
  case round =>
    obtain ⟨k, Ls, Ts, rfl, hk15, hll, hlk, hs4', hOI, hOT, hR, hT⟩ := hrel
    obtain ⟨wz, rfl⟩ : ∃ wz, wz = wr := ⟨_, rfl⟩
    have HOI := hide hOI
    have HOT := hide hOT
    have HS4 := hide hs4'
    have HRz := hide hR
    have HTz := hide hT
    have hsz := hT.size
    have HXz := hide ((unhide HXb).touch hT (by omega))
    clear hOI hOT hR hT hs4' HOI4 HOT4 HR4 HT4 hs4
    by_cases hlt : 0 < k
    · have hki : (0 : Int) < (k : Int) := by omega
      obtain ⟨x0, x1, x2, x3⟩ := (unhide HXz).cells
      go_wp2_with fail
      all_goals (
        refine (belowAny r _ _ (unhide HRz) (by omega)).mono ?_
        rintro e w5 ⟨y, rfl, _, _, hR5, hT5⟩
        have hs5 := hT5.size
        have HOI := hide ((unhide HOI).touch (by omega) hT5)
        have HOT := hide ((unhide HOT).touch (by omega) hT5)
        have HR5 := hide hR5
        have HT5 := hide ((unhide HTz).trans hT5)
        obtain ⟨TV, hTV⟩ : ∃ TV, TV = u8 := ⟨_, rfl⟩
        rw [← hTV] at HOT
        have HTV := hide hTV
        clear hR5 hT5 HRz HTz HXz x0 x1 x2 x3 hTV
        obtain ⟨i0, hi, hz0, hz1, hz2⟩ := info_get infoInt64W
        obtain ⟨X, hX⟩ : ∃ X, X = ints Ls := ⟨_, rfl⟩
        obtain ⟨m, hm⟩ : ∃ m, m = Ls.length := ⟨_, rfl⟩
        have hRw : w5.ownsRow wb.heap.size 2 1 u7 m X := by rw [hX, hm]; exact unhide HOI
        have hOTa := (unhide HOT).below ((Below.refl w5.heap.size w5).alloc (Nat.le_refl _) (.cells #[.int .i64 y] 2))
        have hOIa : (w5.alloc (.cells #[.int .i64 y] 2)).ownsRow wb.heap.size 2 1 u7 m X := hRw.alloc _
        have HBS : Hid (∀ W, (w5.alloc (.cells #[.int .i64 y] 2)).grownBy W (Value.ownBlock u7) → OwnTexts W 9 wb.heap.size TV Ts) := fun W hg => rows_beside hOIa hOTa hg (by decide)
        have hm9 : m ≤ 17 := by omega
        have HX := hide (And.intro hX hm)
        clear hX hm hOTa hOIa HOI HOT
        go_wp2_with (refine wpList_append_lies _ rfl (.tmp 22) (.tmp 29) 27 rfl wb.heap.size 2 i0 _ 1 8 Tryz.underlying27 hi hz0 hz1 hz2 rfl (by decide) u7 m X (by simp [Act.eval]) (by exact hRw.alloc _) ⟨w5.heap.size, 0, none⟩ 1 1 [.int .i64 y] (by simp [Act.eval]) rfl (World.news_of_block (cs := #[.int .i64 y]) (t := 2) (fr := (0, 0)) (by exact Go.Deep.blk_alloc_new _ _)) (by simp [Value.oneCell']) (by omega) (by unfold maxLen; omega) (by omega) (by simp; omega) (w5.heap.size + 1) (by simp) ?_; intro g1 cap w6 hown hgrow hat hlt1)
        have hBel : Below wb.heap.size _ w6 := Below.grown (Below.refl _ _) hgrow (by simp; omega) (fun j e => (hRw.lt j e).1)
        have hs6 := hBel.size
        simp at hs6
        have HOI : Hid (OwnInts w6 2 wb.heap.size (.slice (some ⟨g1, 0, none⟩) (m + 1) cap) (Ls ++ [y])) := by
          obtain ⟨e1, e2⟩ := unhide HX
          rw [e1, e2] at hown
          rw [e2]
          show OwnInts _ _ _ _ _
          simpa [OwnInts, ints] using hown
        have HOT := hide (unhide HBS w6 hgrow)
        have HR6 := hide (((unhide HR5).below ((Below.refl _ _).alloc (Nat.le_refl _) (.cells #[.int .i64 y] 2))).past hBel (by omega))
        have HT6 := hide (((unhide HT5).alloc (.cells #[.int .i64 y] 2)).past hBel (Nat.le_refl _))
        have HM6 := hide (unhide HX).2
        clear hown hgrow hat hlt1 hBel hRw HBS HX HR5 HT5
        go_wp2_with fail
        refine (data_any r _ (unhide HR6)).mono ?_
        rintro e w7 ⟨d, rfl, hd4, hR7, hT7⟩
        have hs7 := hT7.size
        have HOI := hide ((unhide HOI).touch (by omega) hT7)
        have HOT := hide ((unhide HOT).touch (by omega) hT7)
        have HR7 := hide hR7
        have HT7 := hide ((unhide HT6).trans hT7)
        rw [unhide HTV] at HOT
        clear hR7 hT7 HR6 HT6 HTV
        obtain ⟨j0, hi, hz0, hz1, hz2⟩ := info_got infoText
        obtain ⟨Y, hY⟩ : ∃ Y, Y = texts Ts := ⟨_, rfl⟩
        obtain ⟨q2, hq2⟩ : ∃ q2, q2 = Ts.length := ⟨_, rfl⟩
        have hRw : w7.ownsRow wb.heap.size 9 1 u8 q2 Y := by rw [hY, hq2]; exact unhide HOT
        have hOIa := (unhide HOI).kept ((Below.refl w7.heap.size w7).alloc (Nat.le_refl _) (.cells #[.string d] 9))
        have hOTa : (w7.alloc (.cells #[.string d] 9)).ownsRow wb.heap.size 9 1 u8 q2 Y := hRw.alloc _
        have HBS : Hid (∀ W, (w7.alloc (.cells #[.string d] 9)).grownBy W (Value.ownBlock u8) → OwnInts W 2 wb.heap.size (.slice (some ⟨g1, 0, none⟩) (m + 1) cap) (Ls ++ [y])) := fun W hg => rows_beside hOTa hOIa hg (by decide)
        have hm9 : q2 ≤ 17 := by omega
        have HX := hide (And.intro hY hq2)
        clear hY hq2 hOTa hOIa HOI HOT
        go_wp2_with (refine wpList_append_lies _ rfl (.tmp 31) (.tmp 34) 38 rfl wb.heap.size 9 j0 _ 1 16 Tryz.underlying38 hi hz0 hz1 hz2 rfl (by decide) u8 q2 Y (by simp [Act.eval]) (by exact hRw.alloc _) ⟨w7.heap.size, 0, none⟩ 1 1 [.string d] (by simp [Act.eval]) rfl (World.news_of_block (cs := #[.string d]) (t := 9) (fr := (0, 0)) (by exact Go.Deep.blk_alloc_new _ _)) (by simp [Value.oneCell']) (by omega) (by unfold maxLen; omega) (by omega) (by simp; omega) (w7.heap.size + 1) (by simp) ?_; intro g2 cap2 w8 hown hgrow hat hlt1)
        go_roundw
        case rel =>
          have hBel : Below wb.heap.size _ w8 := Below.grown (Below.refl _ _) hgrow (by simp; omega) (fun j e => (hRw.lt j e).1)
          refine ⟨k - 1, Ls ++ [y], Ts ++ [d], by rw [show ((k - 1 : Nat) : Int) = (k : Int) - 1 by omega], by omega, by simp [hll], by simp; omega, ?_, unhide HBS w8 hgrow, ?_, ((unhide HR7).below ((Below.refl _ _).alloc (Nat.le_refl _) (.cells #[.string d] 9))).past hBel (by omega), ((unhide HT7).alloc (.cells #[.string d] 9)).past hBel (Nat.le_refl _)⟩
          · intro s hs
            simp at hs
            rcases hs with hs | rfl
            · exact unhide HS4 s hs
            · omega
          · obtain ⟨e1, e2⟩ := unhide HX
            rw [e1, e2] at hown
            rw [e2]
            show OwnTexts _ _ _ _ _
            simpa [OwnTexts, texts] using hown
        case measure => simp [intOf]; omega)
    · have hk0 : k = 0 := by omega
      subst hk0
      go_wp2_with fail
      refine (once_any r 20 _ (unhide HRz) (by omega) (by omega)).mono ?_
      rintro e w5 ⟨z, rfl, hR5, hT5⟩
      have hs5 := hT5.size
      have HOI := hide ((unhide HOI).touch (by omega) hT5)
      have HOT := hide ((unhide HOT).touch (by omega) hT5)
      have HR5 := hide hR5
      have HT5 := hide ((unhide HTz).trans hT5)
      clear hR5 hT5 HRz HTz HXz
      have HEND : Hid (∀ (W : World) (v7 v8 : Value) (L2 : List Int) (T2 : List ByteArray), OwnInts W 2 wb.heap.size v7 L2 → OwnTexts W 9 wb.heap.size v8 T2 → Touch (· = r) wb W → BoxAt W w2.heap.size a2 n2 c2 ma2 mn2 mc2 m0.seq m0.o ∧ BoxAt W w.heap.size none 0 0 none 0 0 0 0 ∧ ∃ la lc ta tc, v7 = .slice la L2.length lc ∧ v8 = .slice ta T2.length tc ∧ MbAt (set4B W w.heap.size (.slice a2 n2 c2) (.slice ma2 mn2 mc2) (.int .i64 m0.seq) (.int .i64 m0.o)) a2 n2 ma2 mn2 w.heap.size m0 ∧ IntsAt (set4B W w.heap.size (.slice a2 n2 c2) (.slice ma2 mn2 mc2) (.int .i64 m0.seq) (.int .i64 m0.o)) la L2 ∧ TextsAt (set4B W w.heap.size (.slice a2 n2 c2) (.slice ma2 mn2 mc2) (.int .i64 m0.seq) (.int .i64 m0.o)) ta T2 ∧ BoxAt (set4B W w.heap.size (.slice a2 n2 c2) (.slice ma2 mn2 mc2) (.int .i64 m0.seq) (.int .i64 m0.o)) w.heap.size a2 n2 c2 ma2 mn2 mc2 m0.seq m0.o ∧ Below w.heap.size w (set4B W w.heap.size (.slice a2 n2 c2) (.slice ma2 mn2 mc2) (.int .i64 m0.seq) (.int .i64 m0.o))) := by
        intro W v7 v8 L2 T2 hI hTx hTT
        have hXW := (unhide HXb).touch hTT (by omega)
        have hZW := (unhide HZb).touch hTT (by omega)
        have hMW := (unhide HMb).drawn (unhide HRb) (by omega) hTT
        have hBW : Below w.heap.size w W := hWb.trans (hTT.below hWb.size fun k hk => by subst hk; omega)
        obtain ⟨la, lc, e7, hI1, _⟩ := (hI.touch (r := w.heap.size) (by omega) (set4B_touch W w.heap.size (.slice a2 n2 c2) (.slice ma2 mn2 mc2) (.int .i64 m0.seq) (.int .i64 m0.o))).form
        obtain ⟨ta, tc, e8, hT1, _⟩ := (hTx.touch (r := w.heap.size) (by omega) (set4B_touch W w.heap.size (.slice a2 n2 c2) (.slice ma2 mn2 mc2) (.int .i64 m0.seq) (.int .i64 m0.o))).form
        exact ⟨hXW, hZW, la, lc, ta, tc, e7, e8, (MbAt.stored hZW hMW (OffRow.above hMW.mine (by omega)) _ _ _ _).lower (by omega), hI1, hT1, hZW.store _ _ _ _ _ _ _ _, set4B_below hBW (Nat.le_refl _) _ _ _ _⟩
      cases hb : (z == (20 : Int) - 1) with
      | false =>
        obtain ⟨hXW, hZW, la, lc, ta, tc, rfl, rfl, hMF, hIF, hTF, hYF, hWF⟩ := unhide HEND w5 _ _ _ _ (unhide HOI) (unhide HOT) (unhide HT5)
        obtain ⟨W5, hW5⟩ : ∃ W5, W5 = set4B w5 w.heap.size (.slice a2 n2 c2) (.slice ma2 mn2 mc2) (.int .i64 m0.seq) (.int .i64 m0.o) := ⟨_, rfl⟩
        rw [← hW5] at hMF hIF hTF hYF hWF
        obtain ⟨x0, x1, x2, x3⟩ := hXW.cells
        obtain ⟨z0, z1, z2, z3⟩ := hZW.cells
        obtain ⟨f0, f1, f2, f3⟩ := hZW.free
        obtain ⟨v0, v1, v2, v3⟩ := hYF.cells
        have HF := hide (And.intro hMF (And.intro hIF (And.intro hTF hWF)))
        obtain ⟨nl, hnl⟩ : ∃ nl, nl = Ls.length := ⟨_, rfl⟩
        obtain ⟨nt, hnt⟩ : ∃ nt, nt = Ts.length := ⟨_, rfl⟩
        rw [← hnl, ← hnt]
        have HN := hide (And.intro hnl hnt)
        clear hMF hIF hTF hYF hWF hXW hZW HOI HOT HEND HXb HZb HMb hnl hnt
        unfold set4B at hW5
        go_wp2
        try rw [← hW5]
        exact bodyPost_ret (v := .tuple #[.agg #[.slice a2 n2 c2, .slice ma2 mn2 mc2, .int .i64 m0.seq, .int .i64 m0.o], .slice la nl lc, .slice ta nt tc]) (by simp [results, Tryz.results14, go_sem, v0, v1, v2, v3]) rfl ⟨a2, n2, c2, ma2, mn2, mc2, m0, la, lc, Ls, ta, tc, Ts, by rw [(unhide HN).1, (unhide HN).2], (unhide HF).1, unhide HS2, (unhide HF).2.1, (unhide HF).2.2.1, hll, by omega, unhide HS4, (unhide HF).2.2.2⟩
      | true =>
        go_wp2_with fail
        refine (off_any r 0 9 _ (unhide HR5) (by omega) (by omega) (by omega)).mono ?_
        rintro e w6 ⟨y, rfl, hR6, hT6⟩
        have hs6 := hT6.size
        have HOI := hide ((unhide HOI).touch (by omega) hT6)
        have HOT := hide ((unhide HOT).touch (by omega) hT6)
        have HT6 := hide ((unhide HT5).trans hT6)
        obtain ⟨TV, hTV⟩ : ∃ TV, TV = u8 := ⟨_, rfl⟩
        rw [← hTV] at HOT
        have HTV := hide hTV
        clear hR6 hT6 HR5 HT5 hTV
        obtain ⟨i0, hi, hz0, hz1, hz2⟩ := info_get infoInt64W
        obtain ⟨X, hX⟩ : ∃ X, X = ints Ls := ⟨_, rfl⟩
        obtain ⟨m, hm⟩ : ∃ m, m = Ls.length := ⟨_, rfl⟩
        have hRw : w6.ownsRow wb.heap.size 2 1 u7 m X := by rw [hX, hm]; exact unhide HOI
        have hOTa := (unhide HOT).below ((Below.refl w6.heap.size w6).alloc (Nat.le_refl _) (.cells #[.int .i64 y] 2))
        have hOIa : (w6.alloc (.cells #[.int .i64 y] 2)).ownsRow wb.heap.size 2 1 u7 m X := hRw.alloc _
        have HBS : Hid (∀ W, (w6.alloc (.cells #[.int .i64 y] 2)).grownBy W (Value.ownBlock u7) → OwnTexts W 9 wb.heap.size TV Ts) := fun W hg => rows_beside hOIa hOTa hg (by decide)
        have hm9 : m ≤ 17 := by omega
        have HX := hide (And.intro hX hm)
        clear hX hm hOTa hOIa HOI HOT
        go_upto_region 12 with (refine wpList_append_lies _ rfl (.tmp 38) (.tmp 41) 27 rfl wb.heap.size 2 i0 _ 1 8 Tryz.underlying27 hi hz0 hz1 hz2 rfl (by decide) u7 m X (by simp [Act.eval]) (by exact hRw.alloc _) ⟨w6.heap.size, 0, none⟩ 1 1 [.int .i64 y] (by simp [Act.eval]) rfl (World.news_of_block (cs := #[.int .i64 y]) (t := 2) (fr := (0, 0)) (by exact Go.Deep.blk_alloc_new _ _)) (by simp [Value.oneCell']) (by omega) (by unfold maxLen; omega) (by omega) (by simp; omega) (w6.heap.size + 1) (by simp) ?_; intro g1 cap w7 hown hgrow hat hlt1)
        have hBel : Below wb.heap.size _ w7 := Below.grown (Below.refl _ _) hgrow (by simp; omega) (fun j e => (hRw.lt j e).1)
        have hs7 := hBel.size
        simp at hs7
        have HOI : Hid (OwnInts w7 2 wb.heap.size (.slice (some ⟨g1, 0, none⟩) (m + 1) cap) (Ls ++ [y])) := by
          obtain ⟨e1, e2⟩ := unhide HX
          rw [e1, e2] at hown
          rw [e2]
          show OwnInts _ _ _ _ _
          simpa [OwnInts, ints] using hown
        have HOT := hide (unhide HBS w7 hgrow)
        have HT7 := hide (((unhide HT6).alloc (.cells #[.int .i64 y] 2)).past hBel (Nat.le_refl _))
        clear hown hgrow hat hlt1 hBel hRw HBS HX HT6
        rw [unhide HTV] at HOT
        obtain ⟨j0, hi, hz0, hz1, hz2⟩ := info_got infoText
        obtain ⟨Y, hY⟩ : ∃ Y, Y = texts Ts := ⟨_, rfl⟩
        obtain ⟨q2, hq2⟩ : ∃ q2, q2 = Ts.length := ⟨_, rfl⟩
        have hRw : w7.ownsRow wb.heap.size 9 1 u8 q2 Y := by rw [hY, hq2]; exact unhide HOT
        have hOIa := (unhide HOI).kept ((Below.refl w7.heap.size w7).alloc (Nat.le_refl _) (.cells #[.string ⟨#[122, 122, 122, 122]⟩] 9))
        have hOTa : (w7.alloc (.cells #[.string ⟨#[122, 122, 122, 122]⟩] 9)).ownsRow wb.heap.size 9 1 u8 q2 Y := hRw.alloc _
        have HBS : Hid (∀ W, (w7.alloc (.cells #[.string ⟨#[122, 122, 122, 122]⟩] 9)).grownBy W (Value.ownBlock u8) → OwnInts W 2 wb.heap.size (.slice (some ⟨g1, 0, none⟩) (m + 1) cap) (Ls ++ [y])) := fun W hg => rows_beside hOTa hOIa hg (by decide)
        have hm9 : q2 ≤ 17 := by omega
        have HX := hide (And.intro hY hq2)
        clear hY hq2 hOTa hOIa HOI HOT HTV
        go_upto_region 13 with (refine wpList_append_lies _ rfl (.tmp 43) (.tmp 44) 38 rfl wb.heap.size 9 j0 _ 1 16 Tryz.underlying38 hi hz0 hz1 hz2 rfl (by decide) u8 q2 Y (by simp [Act.eval]) (by exact hRw.alloc _) ⟨w7.heap.size, 0, none⟩ 1 1 [.string ⟨#[122, 122, 122, 122]⟩] (by simp [Act.eval]) rfl (World.news_of_block (cs := #[.string ⟨#[122, 122, 122, 122]⟩]) (t := 9) (fr := (0, 0)) (by exact Go.Deep.blk_alloc_new _ _)) (by simp [Value.oneCell']) (by omega) (by unfold maxLen; omega) (by omega) (by simp; omega) (w7.heap.size + 1) (by simp) ?_; intro g2 cap2 w8 hown hgrow hat hlt1)
        have hBel : Below wb.heap.size _ w8 := Below.grown (Below.refl _ _) hgrow (by simp; omega) (fun j e => (hRw.lt j e).1)
        have hOI8 := unhide HBS w8 hgrow
        have hOT8 : OwnTexts w8 9 wb.heap.size (.slice (some ⟨g2, 0, none⟩) (q2 + 1) cap2) (Ts ++ [⟨#[122, 122, 122, 122]⟩]) := by
          obtain ⟨e1, e2⟩ := unhide HX
          rw [e1, e2] at hown
          rw [e2]
          simpa [OwnTexts, texts] using hown
        have hT8 : Touch (· = r) wb w8 := ((unhide HT7).alloc (.cells #[.string ⟨#[122, 122, 122, 122]⟩] 9)).past hBel (Nat.le_refl _)
        obtain ⟨hXW, hZW, la, lc, ta, tc, e7, e8, hMF, hIF, hTF, hYF, hWF⟩ := unhide HEND w8 _ _ _ _ hOI8 hOT8 hT8
        rw [Value.slice.injEq] at e7 e8
        obtain ⟨rfl, e71, rfl⟩ := e7
        obtain ⟨rfl, e81, rfl⟩ := e8
        obtain ⟨W5, hW5⟩ : ∃ W5, W5 = set4B w8 w.heap.size (.slice a2 n2 c2) (.slice ma2 mn2 mc2) (.int .i64 m0.seq) (.int .i64 m0.o) := ⟨_, rfl⟩
        rw [← hW5] at hMF hIF hTF hYF hWF
        obtain ⟨x0, x1, x2, x3⟩ := hXW.cells
        obtain ⟨z0, z1, z2, z3⟩ := hZW.cells
        obtain ⟨f0, f1, f2, f3⟩ := hZW.free
        obtain ⟨v0, v1, v2, v3⟩ := hYF.cells
        have HF := hide (And.intro hMF (And.intro hIF (And.intro hTF hWF)))
        have HN := hide (And.intro e71 e81)
        have hs8 := hBel.size
        simp at hs8
        clear hMF hIF hTF hYF hWF hXW hZW HEND HXb HZb HMb e71 e81 hown hgrow hat hBel hRw HBS HX HT7 hOI8 hOT8 hT8
        unfold set4B at hW5
        go_wp2
        try rw [← hW5]
        exact bodyPost_ret (v := .tuple #[.agg #[.slice a2 n2 c2, .slice ma2 mn2 mc2, .int .i64 m0.seq, .int .i64 m0.o], .slice (some ⟨g1, 0, none⟩) (m + 1) cap, .slice (some ⟨g2, 0, none⟩) (q2 + 1) cap2]) (by simp [results, Tryz.results14, go_sem, v0, v1, v2, v3]) rfl ⟨a2, n2, c2, ma2, mn2, mc2, m0, some ⟨g1, 0, none⟩, cap, Ls ++ [y], some ⟨g2, 0, none⟩, cap2, Ts ++ [⟨#[122, 122, 122, 122]⟩], by rw [(unhide HN).1, (unhide HN).2], (unhide HF).1, unhide HS2, (unhide HF).2.1, (unhide HF).2.2.1, by simp [hll], by simp; omega, (by intro s hs; simp at hs; rcases hs with hs | rfl; exact unhide HS4 s hs; show (4 : Nat) ≤ 4; omega), (unhide HF).2.2.2⟩
end Go.Proofs.YtalgkmellbamgaaGreat
