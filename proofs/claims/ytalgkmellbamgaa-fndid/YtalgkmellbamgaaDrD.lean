/- What the law over Did draws: a chip and ops. -/
import Derived.Test.YtalgkmellbamgaaDrC
import Derived.Test.YtalgkmellbamgaaOpM
import Derived.WalkKit
import Derived.Outline
import Derived.Deep.DeepCutAuto
namespace Go.Proofs.Ytalgkmellbamgaa
open Go.RowKit
set_option linter.unusedVariables false
set_option linter.unusedSimpArgs false

def opCells (xs : List Opn) : List Value := xs.flatMap fun x => [.int .i64 x.kind, .int .i64 x.block, .bool x.page.used, .int .i64 x.page.log, .int .i64 x.page.seq, .string x.page.data]
theorem opCells_at {xs : List Opn} : ∀ {i : Nat} {x : Opn}, xs[i]? = some x → ∀ j, j < 6 → (opCells xs)[i * 6 + j]? = some (opV x j) := by
  induction xs with
  | nil => intro i x h; simp at h
  | cons y xs ih =>
    intro i x h j hj
    have e : opCells (y :: xs) = [.int .i64 y.kind, .int .i64 y.block, .bool y.page.used, .int .i64 y.page.log, .int .i64 y.page.seq, .string y.page.data] ++ opCells xs := rfl
    cases i with
    | zero =>
      simp at h; subst h
      rw [e, List.getElem?_append_left (by simp; omega)]
      have h6 : j = 0 ∨ j = 1 ∨ j = 2 ∨ j = 3 ∨ j = 4 ∨ j = 5 := by omega
      rcases h6 with rfl | rfl | rfl | rfl | rfl | rfl <;> rfl
    | succ i =>
      rw [e, List.getElem?_append_right (by simp; omega)]
      rw [show (i + 1) * 6 + j - [Value.int .i64 y.kind, .int .i64 y.block, .bool y.page.used, .int .i64 y.page.log, .int .i64 y.page.seq, .string y.page.data].length = i * 6 + j by simp; omega]
      exact ih (by simpa using h) j hj

/-- The slice v holds the ops xs, in a row that was made from block B on and may be written. -/
def OwnsOps (w : World) (B : Nat) (v : Value) (xs : List Opn) : Prop := w.ownsRow B 63 6 v xs.length (opCells xs)
theorem OwnsOps.touch {w w' : World} {B r : Nat} {v : Value} {xs : List Opn} (h : OwnsOps w B v xs) (hr : r < B) (hT : Touch (· = r) w w') : OwnsOps w' B v xs := by
  refine ⟨h.1, ?_⟩
  rcases h.2 with ⟨hv, hl⟩ | ⟨g, cap, cur, rfl, hb, hg, hrest⟩
  · exact .inl ⟨hv, hl⟩
  · refine .inr ⟨g, cap, cur, rfl, hb, ?_, hrest⟩
    rw [hT.block g (Array.getElem?_eq_some_iff.1 hg).1 (by show ¬ g = r; omega)]
    exact hg
theorem OwnsOps.nil (w : World) (B : Nat) (hB : B ≤ w.heap.size) : OwnsOps (w.alloc (.cells #[] 63)) B (.slice (some ⟨w.heap.size, 0, none⟩) 0 0) [] := by
  have := World.ownsRow_lit (base := B) (e := 63) (size := 6) w #[] 0 hB (by unfold maxLen; omega) rfl
  simpa [OwnsOps, opCells] using this
theorem OwnsOps.form {w : World} {B : Nat} {v : Value} {xs : List Opn} (h : OwnsOps w B v xs) : ∃ a c, v = .slice a xs.length c ∧ OpsAt w a xs ∧ xs.length ≤ c := by
  have h0 := h
  rcases h.2 with ⟨hv, hl⟩ | ⟨g, cap, cur, rfl, hb, hg, hn, _⟩
  · exact ⟨none, 0, by rw [hv, hl], fun i x hx => by have := (List.getElem?_eq_some_iff.1 hx).1; omega, by omega⟩
  · refine ⟨_, _, rfl, fun i x hx => ?_, hn⟩
    have c : ∀ j, j < 6 → w.cell? ⟨g, 0 + i * 6 + j, none⟩ = some (opV x j) := fun j hj => by
      rw [Nat.zero_add]
      exact ownsRow_cell h0 (opCells_at hx j hj)
    exact ⟨g, 0, rfl, c 0 (by omega), c 1 (by omega), c 2 (by omega), c 3 (by omega), c 4 (by omega), c 5 (by omega)⟩
theorem infoCOp : (Try.prog.info? 63).map (fun i => (i.zero, i.size, i.bytes)) = some (some (.agg #[.int .i64 0, .int .i64 0, .bool false, .int .i64 0, .int .i64 0, .string ByteArray.empty]), 6, 56) := by kernel_rfl

/-- Drawn ops, as they lie. -/
def OpsIn (w : World) (v : Value) (xs : List Opn) : Prop := ∃ a c, v = .slice a xs.length c ∧ OpsAt w a xs ∧ xs.length ≤ c ∧ xs.length ≤ 4

theorem Touch.past' {S : Nat → Prop} {w w' w2 : World} (h : Touch S w w') {B : Nat} (hb : Below B w' w2) (hB : w.heap.size ≤ B) : Touch S w w2 := h.past hb hB

set_option maxRecDepth 100000 in
set_option maxHeartbeats 4000000 in
theorem drawDid_any (a : Option Addr) (n c : Nat) (w : World) (h : CodeAt w a n) (hn : n ≤ 1048576) :
    Calls Try.prog 39 #[.slice a n c] w fun e w' => ∃ a2 n2 c2 bs v xs, e = .returned (.tuple #[.agg #[.slice a2 n2 c2], v]) ∧ ChipIn w' a2 n2 bs ∧ OpsIn w' v xs ∧ Below w.heap.size w w' := by
  have hB1 : ∀ o, Below w.heap.size w (w.alloc o) := fun o => (Below.refl _ _).alloc (Nat.le_refl _) _
  obtain ⟨i0, hi, hz0, hz1, hz2⟩ := info_got infoCOp
  go_enter Try.func39, Try.ntmps39
  go_wp2_with fail
  refine (l1Open_any a n c _ (h.below (hB1 _) (Nat.le_refl _)) hn).mono ?_
  rintro e w1 ⟨rfl, hR, hB⟩
  have c1 : w1.cell? ⟨w.heap.size, 0, none⟩ = some (.slice none 0 0) := (hB.cell (p := ⟨w.heap.size, 0, none⟩) (by simp)).trans (by simp)
  have f1 : w1.frozen? ⟨w.heap.size, 0, none⟩ = false := (hB.frozen (p := ⟨w.heap.size, 0, none⟩) (by simp)).trans (by simp)
  have hW1 : Below w.heap.size w w1 := (hB1 _).trans (hB.mono (by simp))
  simp only [World.size_alloc] at hR hB ⊢
  obtain ⟨r, hr⟩ : ∃ r, r = w.heap.size + 1 := ⟨_, rfl⟩
  rw [← hr] at hR hB ⊢
  have hrl := hR.lt
  have HR1 := hide hR
  have hwr : w.heap.size < r := by omega
  clear h hB hR hB1 hr
  go_wp2_with fail
  refine (raw_any r _ (unhide HR1)).mono ?_
  rintro e w2 ⟨a2, n2, c2, bs, rfl, hraw, hR2, hT2⟩
  have hs2 := hT2.size
  have d2 := (hT2.cell (b := w.heap.size) (o := 0) (by omega) (by show ¬ w.heap.size = r; omega)).trans c1
  have f2 := (hT2.frozen (b := w.heap.size) (o := 0) (by omega) (by show ¬ w.heap.size = r; omega)).trans f1
  have hW2 : Below w.heap.size w w2 := hW1.trans (hT2.below hW1.size fun k hk => by subst hk; omega)
  have HR2 := hide hR2
  have HRW2 := hide hraw
  clear hraw hR2 hT2 HR1 c1 f1 hW1
  obtain ⟨w3, hw3⟩ : ∃ w3, w3 = (w2.alloc (.cells #[.slice a2 n2 c2] 26)).alloc (.cells #[] 63) := ⟨_, rfl⟩
  have hB3 : Below w2.heap.size w2 w3 := by rw [hw3]; exact ((Below.refl _ _).alloc (Nat.le_refl _) _).alloc (by simp) _
  have hs3 : w2.heap.size + 2 ≤ w3.heap.size := by rw [hw3]; simp
  have p3 : w3.cell? ⟨w2.heap.size, 0, none⟩ = some (.slice a2 n2 c2) := by rw [hw3, cell_alloc_lt _ _ _ _ (by simp)]; simp
  have hO3 : OwnsOps w3 (w2.heap.size + 1) (.slice (some ⟨w2.heap.size + 1, 0, none⟩) 0 0) [] := by
    have := OwnsOps.nil (w2.alloc (.cells #[.slice a2 n2 c2] 26)) (w2.heap.size + 1) (by simp)
    rw [hw3]
    simpa using this
  have HO3 := hide hO3
  clear hO3
  have HR3 := hide ((unhide HR2).below hB3)
  have HT3 : Hid (Touch (· = r) w2 w3) := Touch.of_below hB3
  go_wp2_with fail
  rw [← hw3]
  clear hw3 hB3 HR2
  refine (below_any r 5 _ (unhide HR3) (by omega) (by omega)).mono ?_
  rintro e w4 ⟨N, rfl, hN0, hN1, hR4, hT4⟩
  obtain ⟨N, rfl⟩ := Int.eq_ofNat_of_zero_le hN0
  have HR4 := hide hR4
  have HT4 := hide ((unhide HT3).trans hT4)
  have HO4 := hide ((unhide HO3).touch (by omega) hT4)
  have hs4 := hT4.size
  have p4 := (hT4.cell (b := w2.heap.size) (o := 0) (by omega) (by show ¬ w2.heap.size = r; omega)).trans p3
  clear hR4 hT4 HR3 HT3 HO3 p3
  go_wp2
  go_loopw [6, 7] (fun vl vi wr => ∃ (k : Nat) (xs : List Opn), vi = .int .i64 k ∧ k ≤ 4 ∧ xs.length + k ≤ 4 ∧ OwnsOps wr (w2.heap.size + 1) vl xs ∧ RdAt wr r ∧ Touch (· = r) w2 wr ∧ w2.heap.size + 1 < wr.heap.size ∧ wr.cell? ⟨w2.heap.size, 0, none⟩ = some (.slice a2 n2 c2)) (fun _ vi _ => (intOf vi).toNat)
  case atStart => exact ⟨N, [], rfl, by omega, by simp; omega, unhide HO4, unhide HR4, unhide HT4, by omega, p4⟩
  case round =>
    obtain ⟨k, xs, rfl, hk4, hxk, hO5, hR5, hT5, hs5, p5⟩ := hrel
    obtain ⟨w5, rfl⟩ : ∃ w5, w5 = wr := ⟨_, rfl⟩
    have HO5 := hide hO5
    have HR5 := hide hR5
    have HT5 := hide hT5
    clear hO5 hR5 hT5 HO4 HR4 HT4 p4 hs4
    by_cases hlt : 0 < k
    · have hki : (0 : Int) < (k : Int) := by omega
      go_wp2_with fail
      refine (below_any r 4 _ (unhide HR5) (by omega) (by omega)).mono ?_
      rintro e w6 ⟨b, rfl, hb0, hb1, hR6, hT6⟩
      have hs6 := hT6.size
      obtain ⟨P, hP⟩ : ∃ P, P = w6.heap.size := ⟨_, rfl⟩
      obtain ⟨w7, hw7⟩ : ∃ w7, w7 = w6.alloc (.cells #[.int .i64 2, .int .i64 b, .bool false, .int .i64 0, .int .i64 0, .string ⟨#[]⟩] 63) := ⟨_, rfl⟩
      have hB7 : Below w6.heap.size w6 w7 := by rw [hw7]; exact (Below.refl _ _).alloc (Nat.le_refl _) _
      have hs7 : w6.heap.size + 1 ≤ w7.heap.size := by rw [hw7]; simp
      have hP7 : w7.heap[P]? = some (.cells #[.int .i64 2, .int .i64 b, .bool false, .int .i64 0, .int .i64 0, .string ⟨#[]⟩] 63 (0, 0)) := by rw [hw7, hP]; exact Go.Deep.blk_alloc_new _ _
      have hT57 : Touch (· = r) w5 w7 := hT6.trans (Touch.of_below hB7)
      have HR7 := hide (hR6.below hB7)
      have hr6 := hR6.lt
      go_wp2_with fail
      rw [← hw7, ← hP]
      clear hw7 hB7 hR6 hT6
      refine (once_any r 2 _ (unhide HR7) (by omega) (by omega)).mono ?_
      rintro e w8 ⟨z, rfl, hR8, hT8⟩
      have hs8 := hT8.size
      have hPr : ¬ P = r := by omega
      have hP8 : w8.heap[P]? = some (.cells #[.int .i64 2, .int .i64 b, .bool false, .int .i64 0, .int .i64 0, .string ⟨#[]⟩] 63 (0, 0)) := (hT8.block P (by omega) hPr).trans hP7
      have o0 := cell_of_row _ _ 0 _ _ _ hP8
      have o1 := cell_of_row _ _ 1 _ _ _ hP8
      have o2 := cell_of_row _ _ 2 _ _ _ hP8
      have o3 := cell_of_row _ _ 3 _ _ _ hP8
      have o4 := cell_of_row _ _ 4 _ _ _ hP8
      have o5 := cell_of_row _ _ 5 _ _ _ hP8
      simp at o0 o1 o2 o3 o4 o5
      have q8 : ∀ j, w8.frozen? ⟨P, j, none⟩ = false := fun j => by simp [World.frozen?, hP8]
      have HR8 := hide hR8
      have hT58 := hT57.trans hT8
      have HT58 := hide hT58
      have hP5 : w5.heap.size ≤ P := by omega
      have hPl8 : P < w8.heap.size := by omega
      have HP5 := hide p5
      clear hR8 hT8 HR7 hT57 hP7 hP8 hT58 p5 hP
      cases hz : (z == (2 : Int) - 1) with
      | false =>
        obtain ⟨X, hX⟩ : ∃ X, X = opCells xs := ⟨_, rfl⟩
        obtain ⟨m, hm⟩ : ∃ m, m = xs.length := ⟨_, rfl⟩
        have hOW := (unhide HO5).touch (show r < w2.heap.size + 1 by omega) (unhide HT58)
        have hRw : w8.ownsRow (w2.heap.size + 1) 63 6 u6 m X := by rw [hX, hm]; exact hOW
        have hm5 : m ≤ 4 := by omega
        have HX := hide (And.intro hX hm)
        clear hX hm hOW
        go_wp2_with (refine wpList_append_lies _ rfl (.tmp 34) (.tmp 36) 55 rfl (w2.heap.size + 1) 63 i0 _ 6 56 Try.underlying55 hi hz0 hz1 hz2 rfl (by decide) u6 m X (by simp [Act.eval]) (by exact hRw.alloc _) ⟨w8.heap.size, 0, none⟩ 1 1 [.int .i64 2, .int .i64 b, .bool false, .int .i64 0, .int .i64 0, .string ⟨#[]⟩] (by simp [Act.eval]) rfl (World.news_of_block (cs := #[.int .i64 2, .int .i64 b, .bool false, .int .i64 0, .int .i64 0, .string ⟨#[]⟩]) (t := 63) (fr := (0, 0)) (by exact Go.Deep.blk_alloc_new _ _)) (by simp [Value.oneCell']) (by omega) (by unfold maxLen; omega) (by omega) (by simp; omega) (w8.heap.size + 1) (by simp) ?_; intro g1 cap wE hown hgrow hat hlt1)
        go_roundw
        case rel =>
          have hBel : Below (w2.heap.size + 1) _ wE := Below.grown (Below.refl _ _) hgrow (by simp; omega) (fun j e => (hRw.lt j e).1)
          have hTE : Touch (· = r) w2 wE := ((unhide HT5).trans ((unhide HT58).alloc _)).past' hBel (by omega)
          refine ⟨k - 1, xs ++ [⟨2, b, ⟨false, 0, 0, ⟨#[]⟩⟩⟩], by rw [show ((k - 1 : Nat) : Int) = (k : Int) - 1 by omega], by omega, by simp; omega, ?_, ((unhide HR8).below ((Below.refl _ _).alloc (Nat.le_refl _) _)).past hBel (by omega), hTE, by have := hBel.size; simp at this; omega, ?_⟩
          · obtain ⟨e1, e2⟩ := unhide HX
            rw [e1, e2] at hown
            rw [e2]
            simpa [OwnsOps, opCells] using hown
          · exact (hBel.cell (p := ⟨w2.heap.size, 0, none⟩) (by show w2.heap.size < _; omega)).trans ((cell_alloc_lt _ _ _ _ (by omega)).trans (((unhide HT58).cell (b := w2.heap.size) (o := 0) (by omega) (by show ¬ w2.heap.size = r; omega)).trans (unhide HP5)))
        case measure => simp [intOf]; omega
      | true =>
        obtain ⟨w9, hw9⟩ : ∃ w9, w9 = w8.setCell ⟨P, 0, none⟩ (.int .i64 1) := ⟨_, rfl⟩
        have k0 : w9.cell? ⟨P, 0, none⟩ = some (.int .i64 1) := by rw [hw9]; exact World.cell?_setCell_same' _ _ _ (by rw [o0]; rfl)
        have k1 := (show w9.cell? ⟨P, 1, none⟩ = w8.cell? ⟨P, 1, none⟩ by rw [hw9, World.cell?_setCell_other _ _ _ _ (by simp)]).trans o1
        have k2 := (show w9.cell? ⟨P, 2, none⟩ = w8.cell? ⟨P, 2, none⟩ by rw [hw9, World.cell?_setCell_other _ _ _ _ (by simp)]).trans o2
        have k3 := (show w9.cell? ⟨P, 3, none⟩ = w8.cell? ⟨P, 3, none⟩ by rw [hw9, World.cell?_setCell_other _ _ _ _ (by simp)]).trans o3
        have k4 := (show w9.cell? ⟨P, 4, none⟩ = w8.cell? ⟨P, 4, none⟩ by rw [hw9, World.cell?_setCell_other _ _ _ _ (by simp)]).trans o4
        have k5 := (show w9.cell? ⟨P, 5, none⟩ = w8.cell? ⟨P, 5, none⟩ by rw [hw9, World.cell?_setCell_other _ _ _ _ (by simp)]).trans o5
        have q9 : ∀ j, w9.frozen? ⟨P, j, none⟩ = false := fun j => by rw [hw9]; simpa using q8 j
        have hR9 : RdAt w9 r := by rw [hw9]; exact (unhide HR8).past ((Below.refl P w8).setCell (Nat.le_refl _) _) (by omega)
        have hT59 : Touch (· = r) w5 w9 := by rw [hw9]; exact (unhide HT58).setNew hP5 _
        have hs9 : w8.heap.size ≤ w9.heap.size := by rw [hw9]; simp [World.setCell]
        have HR9 := hide hR9
        go_wp2_with fail
        rw [← hw9]
        clear hw9 hR9 o0 o1 o2 o3 o4 o5 q8 HR8 HT58
        refine (below_any r 4 _ (unhide HR9) (by omega) (by omega)).mono ?_
        rintro e wA ⟨y7, rfl, hy0, hy1, hRA, hTA⟩
        have hsA := hTA.size
        have l0 := (hTA.cell (b := P) (o := 0) (by omega) hPr).trans k0
        have l1 := (hTA.cell (b := P) (o := 1) (by omega) hPr).trans k1
        have l2 := (hTA.cell (b := P) (o := 2) (by omega) hPr).trans k2
        have l3 := (hTA.cell (b := P) (o := 3) (by omega) hPr).trans k3
        have l4 := (hTA.cell (b := P) (o := 4) (by omega) hPr).trans k4
        have l5 := (hTA.cell (b := P) (o := 5) (by omega) hPr).trans k5
        have qA := fun j => (hTA.frozen (b := P) (o := j) (by omega) hPr).trans (q9 j)
        have hT5A := hT59.trans hTA
        have HRA := hide hRA
        clear hRA hTA HR9 k0 k1 k2 k3 k4 k5 q9 hT59
        go_wp2_with fail
        refine (data_any r _ (unhide HRA)).mono ?_
        rintro e wB ⟨x8, rfl, hx8, hRB, hTB⟩
        have hsB := hTB.size
        have m0 := (hTB.cell (b := P) (o := 0) (by omega) hPr).trans l0
        have m1 := (hTB.cell (b := P) (o := 1) (by omega) hPr).trans l1
        have m2 := (hTB.cell (b := P) (o := 2) (by omega) hPr).trans l2
        have m3 := (hTB.cell (b := P) (o := 3) (by omega) hPr).trans l3
        have m4 := (hTB.cell (b := P) (o := 4) (by omega) hPr).trans l4
        have m5 := (hTB.cell (b := P) (o := 5) (by omega) hPr).trans l5
        have qB := fun j => (hTB.frozen (b := P) (o := j) (by omega) hPr).trans (qA j)
        have hT5B := hT5A.trans hTB
        have HRB := hide hRB
        clear hRB hTB HRA l0 l1 l2 l3 l4 l5 qA hT5A
        obtain ⟨wC, hwC⟩ : ∃ wC, wC = (((wB.setCell ⟨P, 2, none⟩ (.bool true)).setCell ⟨P, 3, none⟩ (.int .i64 y7)).setCell ⟨P, 4, none⟩ (.int .i64 (100 - (k : Int)))).setCell ⟨P, 5, none⟩ (.string x8) := ⟨_, rfl⟩
        have n0 : wC.cell? ⟨P, 0, none⟩ = some (.int .i64 1) := by rw [hwC, World.cell?_setCell_other _ _ _ _ (by simp), World.cell?_setCell_other _ _ _ _ (by simp), World.cell?_setCell_other _ _ _ _ (by simp), World.cell?_setCell_other _ _ _ _ (by simp)]; exact m0
        have n1 : wC.cell? ⟨P, 1, none⟩ = some (.int .i64 b) := by rw [hwC, World.cell?_setCell_other _ _ _ _ (by simp), World.cell?_setCell_other _ _ _ _ (by simp), World.cell?_setCell_other _ _ _ _ (by simp), World.cell?_setCell_other _ _ _ _ (by simp)]; exact m1
        have n2' : wC.cell? ⟨P, 2, none⟩ = some (.bool true) := by rw [hwC, World.cell?_setCell_other _ _ _ _ (by simp), World.cell?_setCell_other _ _ _ _ (by simp), World.cell?_setCell_other _ _ _ _ (by simp), World.cell?_setCell_same' _ _ _ (by rw [m2]; rfl)]
        have n3 : wC.cell? ⟨P, 3, none⟩ = some (.int .i64 y7) := by rw [hwC, World.cell?_setCell_other _ _ _ _ (by simp), World.cell?_setCell_other _ _ _ _ (by simp), World.cell?_setCell_same' _ _ _ (by rw [World.cell?_setCell_other _ _ _ _ (by simp), m3]; rfl)]
        have n4 : wC.cell? ⟨P, 4, none⟩ = some (.int .i64 (100 - (k : Int))) := by rw [hwC, World.cell?_setCell_other _ _ _ _ (by simp), World.cell?_setCell_same' _ _ _ (by rw [World.cell?_setCell_other _ _ _ _ (by simp), World.cell?_setCell_other _ _ _ _ (by simp), m4]; rfl)]
        have n5 : wC.cell? ⟨P, 5, none⟩ = some (.string x8) := by rw [hwC, World.cell?_setCell_same' _ _ _ (by rw [World.cell?_setCell_other _ _ _ _ (by simp), World.cell?_setCell_other _ _ _ _ (by simp), World.cell?_setCell_other _ _ _ _ (by simp), m5]; rfl)]
        have hRC : RdAt wC r := by rw [hwC]; exact (unhide HRB).past (((((Below.refl P wB).setCell (Nat.le_refl _) _).setCell (Nat.le_refl _) _).setCell (Nat.le_refl _) _).setCell (Nat.le_refl _) _) (by omega)
        have hT5C : Touch (· = r) w5 wC := by rw [hwC]; exact (((hT5B.setNew hP5 _).setNew hP5 _).setNew hP5 _).setNew hP5 _
        have hsC : wB.heap.size ≤ wC.heap.size := by rw [hwC]; simp [World.setCell]
        have HRC := hide hRC
        go_upto_region 11 with fail
        rw [← hwC]
        clear hwC hRC HRB m0 m1 m2 m3 m4 m5 qB hT5B
        obtain ⟨X, hX⟩ : ∃ X, X = opCells xs := ⟨_, rfl⟩
        obtain ⟨m, hm⟩ : ∃ m, m = xs.length := ⟨_, rfl⟩
        have hOW := (unhide HO5).touch (show r < w2.heap.size + 1 by omega) (hT5C)
        have hRw : wC.ownsRow (w2.heap.size + 1) 63 6 u6 m X := by rw [hX, hm]; exact hOW
        have hm5 : m ≤ 4 := by omega
        have HX := hide (And.intro hX hm)
        clear hX hm hOW
        go_wp2_with (refine wpList_append_lies _ rfl (.tmp 34) (.tmp 36) 55 rfl (w2.heap.size + 1) 63 i0 _ 6 56 Try.underlying55 hi hz0 hz1 hz2 rfl (by decide) u6 m X (by simp [Act.eval]) (by exact hRw.alloc _) ⟨wC.heap.size, 0, none⟩ 1 1 [.int .i64 1, .int .i64 b, .bool true, .int .i64 y7, .int .i64 (100 - (k : Int)), .string x8] (by simp [Act.eval]) rfl (World.news_of_block (cs := #[.int .i64 1, .int .i64 b, .bool true, .int .i64 y7, .int .i64 (100 - (k : Int)), .string x8]) (t := 63) (fr := (0, 0)) (by exact Go.Deep.blk_alloc_new _ _)) (by simp [Value.oneCell']) (by omega) (by unfold maxLen; omega) (by omega) (by simp; omega) (wC.heap.size + 1) (by simp) ?_; intro g1 cap wE hown hgrow hat hlt1)
        go_roundw
        case rel =>
          have hBel : Below (w2.heap.size + 1) _ wE := Below.grown (Below.refl _ _) hgrow (by simp; omega) (fun j e => (hRw.lt j e).1)
          have hTE : Touch (· = r) w2 wE := ((unhide HT5).trans ((hT5C).alloc _)).past' hBel (by omega)
          refine ⟨k - 1, xs ++ [⟨1, b, ⟨true, y7, 100 - (k : Int), x8⟩⟩], by rw [show ((k - 1 : Nat) : Int) = (k : Int) - 1 by omega], by omega, by simp; omega, ?_, ((unhide HRC).below ((Below.refl _ _).alloc (Nat.le_refl _) _)).past hBel (by omega), hTE, by have := hBel.size; simp at this; omega, ?_⟩
          · obtain ⟨e1, e2⟩ := unhide HX
            rw [e1, e2] at hown
            rw [e2]
            simpa [OwnsOps, opCells] using hown
          · exact (hBel.cell (p := ⟨w2.heap.size, 0, none⟩) (by show w2.heap.size < _; omega)).trans ((cell_alloc_lt _ _ _ _ (by omega)).trans (((hT5C).cell (b := w2.heap.size) (o := 0) (by omega) (by show ¬ w2.heap.size = r; omega)).trans (unhide HP5)))
        case measure => simp [intOf]; omega
    · have hk0 : k = 0 := by omega
      subst hk0
      obtain ⟨la, lc, rfl, hOA, hlc⟩ := (unhide HO5).form
      have d5 := ((unhide HT5).cell (b := w.heap.size) (o := 0) (by omega) (by show ¬ w.heap.size = r; omega)).trans d2
      have f5 := ((unhide HT5).frozen (b := w.heap.size) (o := 0) (by omega) (by show ¬ w.heap.size = r; omega)).trans f2
      have HRW5 := hide ((unhide HRW2).touch hrl (unhide HT5))
      have hW5 : Below w.heap.size w w5 := hW2.trans ((unhide HT5).below hW2.size fun k hk => by subst hk; omega)
      have hOF : OpsIn (w5.setCell ⟨w.heap.size, 0, none⟩ (.slice a2 n2 c2)) (.slice la xs.length lc) xs := by
        have h6 : OwnsOps (w5.setCell ⟨w.heap.size, 0, none⟩ (.slice a2 n2 c2)) (w2.heap.size + 1) (.slice la xs.length lc) xs := ownsRow_setCell_below (unhide HO5) (by show w.heap.size < _; omega) _
        obtain ⟨la', lc', e', hA', hl'⟩ := h6.form
        cases e'
        exact ⟨la, lc, rfl, hA', hl', by omega⟩
      have HOF := hide hOF
      obtain ⟨q, hq⟩ : ∃ q, q = xs.length := ⟨_, rfl⟩
      rw [← hq] at HOF ⊢
      clear hOA hOF HO5 hq
      go_wp2
      exact bodyPost_ret (v := .tuple #[.agg #[.slice a2 n2 c2], .slice la q lc]) (by simp [results, Try.results39, go_sem, d5]) rfl ⟨_, n2, c2, bs, _, xs, rfl, ((unhide HRW5).setApart d5 _).chipIn, unhide HOF, hW5.setCell (by simp) _⟩
end Go.Proofs.Ytalgkmellbamgaa
