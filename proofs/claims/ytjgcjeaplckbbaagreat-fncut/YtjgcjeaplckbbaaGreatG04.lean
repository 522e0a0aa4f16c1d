/- 9 texts in one. -/
import Derived.Test.YtjgcjeaplckbbaaGreatG01
import Derived.Test.YtjgcjeaplckbbaaGreatG03
import Derived.Test.YtjgcjeaplckbbaaGreatG02
import Derived.WalkKit
import Derived.Outline
import Derived.BigQuiet
import Derived.Test.YtjgcjeaplckbbaaGreatChecked
import Derived.Deep.DeepCutAuto

/- Ops as they lie in memory, and rows of them that a call has made itself: no program is named here. -/
namespace Go.Proofs.YtjgcjeaplckbbaaGreat
open Go.RowKit
set_option linter.unusedVariables false
set_option linter.unusedSimpArgs false

structure Opn where
  kind : Int
  block : Int
  page : Pg

/-- The ops xs lie, one behind the other, from the address a on. -/
def OpsAt (w : World) (a : Option Addr) (xs : List Opn) : Prop :=
  ∀ i x, xs[i]? = some x → ∃ b o, a = some ⟨b, o, none⟩ ∧ w.cell? ⟨b, o + i * 6, none⟩ = some (.int .i64 x.kind) ∧ w.cell? ⟨b, o + i * 6 + 1, none⟩ = some (.int .i64 x.block) ∧ w.cell? ⟨b, o + i * 6 + 2, none⟩ = some (.bool x.page.used) ∧
    w.cell? ⟨b, o + i * 6 + 3, none⟩ = some (.int .i64 x.page.log) ∧ w.cell? ⟨b, o + i * 6 + 4, none⟩ = some (.int .i64 x.page.seq) ∧ w.cell? ⟨b, o + i * 6 + 5, none⟩ = some (.string x.page.data)

theorem OpsAt.below {w w' : World} {a : Option Addr} {xs : List Opn} (h : OpsAt w a xs) {B : Nat} (hb : Below B w w') (hB : w.heap.size ≤ B) : OpsAt w' a xs := by
  intro i x hx
  obtain ⟨b, o, ha, h0, h1, h2, h3, h4, h5⟩ := h i x hx
  have hlt : b < B := Nat.lt_of_lt_of_le (World.block_lt_of_cell? _ _ h0) hB
  have e : ∀ j, w'.cell? ⟨b, j, none⟩ = w.cell? ⟨b, j, none⟩ := fun j => hb.cell (p := ⟨b, j, none⟩) hlt
  exact ⟨b, o, ha, (e _).trans h0, (e _).trans h1, (e _).trans h2, (e _).trans h3, (e _).trans h4, (e _).trans h5⟩

def zeroOp : Opn := ⟨0, 0, zeroPg⟩
def opV (x : Opn) : Nat → Value
  | 0 => .int .i64 x.kind
  | 1 => .int .i64 x.block
  | j + 2 => pgV x.page j
/-- What stands in cell i of a row of ops (zero ops behind the last). -/
def opsF (xs : List Opn) (i : Nat) : Value := opV ((xs[i / 6]?).getD zeroOp) (i % 6)
theorem opsF_at {xs : List Opn} {k : Nat} {x : Opn} (h : xs[k]? = some x) (j : Nat) (hj : j < 6) : opsF xs (k * 6 + j) = opV x j := by
  unfold opsF
  rw [show (k * 6 + j) / 6 = k by omega, show (k * 6 + j) % 6 = j by omega, h]
  rfl
def OwnOps (w : World) (t : TypeId) (b : Nat) (n : Nat) (xs : List Opn) : Prop := w.rowIs b t (n * 6) (opsF xs)
theorem OwnOps.opsAt {w : World} {t : TypeId} {b n : Nat} {xs : List Opn} (h : OwnOps w t b n xs) (hn : xs.length ≤ n) : OpsAt w (some ⟨b, 0, none⟩) xs := by
  intro i x hx
  have hi := (List.getElem?_eq_some_iff.1 hx).1
  have c : ∀ j, j < 6 → w.cell? ⟨b, 0 + i * 6 + j, none⟩ = some (opV x j) := fun j hj => by
    rw [Nat.zero_add, World.rowIs.cell h (i := i * 6 + j) (by omega), opsF_at hx j hj]
  exact ⟨b, 0, rfl, c 0 (by omega), c 1 (by omega), c 2 (by omega), c 3 (by omega), c 4 (by omega), c 5 (by omega)⟩
theorem OwnOps.below {w w' : World} {t : TypeId} {b n : Nat} {xs : List Opn} (h : OwnOps w t b n xs) {B : Nat} (hb : Below B w w') (hB : b < B) : OwnOps w' t b n xs :=
  World.rowIs.of_block h (hb.block b hB)
theorem OwnOps.cells {w : World} {t : TypeId} {b n : Nat} {xs : List Opn} (h : OwnOps w t b n xs) {k : Nat} (hk : k < n) : ∀ j, j < 6 → ∃ v, w.cell? ⟨b, k * 6 + j, none⟩ = some v :=
  fun j hj => ⟨_, World.rowIs.cell h (by omega)⟩
theorem OwnOps.made (w : World) (t : TypeId) (n : Nat) : OwnOps (w.alloc (.cells (madeCells #[.int .i64 0, .int .i64 0, .bool false, .int .i64 0, .int .i64 0, .string ByteArray.empty] (n * 6)) t)) t w.heap.size n [] := by
  refine ⟨_, Go.Deep.blk_alloc_new _ _, size_madeCells _ _, fun i hi => ?_⟩
  simp only [madeCells, Array.getElem?_map, Array.getElem?_range, hi, if_true, Option.map_some]
  unfold opsF
  have h6 : i % 6 = 0 ∨ i % 6 = 1 ∨ i % 6 = 2 ∨ i % 6 = 3 ∨ i % 6 = 4 ∨ i % 6 = 5 := by omega
  rcases h6 with e | e | e | e | e | e <;> simp [e, opV, pgV, zeroOp, zeroPg]
theorem opsF_put {xs : List Opn} {k : Nat} {x : Opn} (ys : List Opn) (hy : ys[k]? = some x) (hother : ∀ i, i ≠ k → ys[i]? = xs[i]?) (j : Nat) :
    (if j = k * 6 + 5 then Value.string x.page.data else if j = k * 6 + 4 then .int .i64 x.page.seq else if j = k * 6 + 3 then .int .i64 x.page.log else if j = k * 6 + 2 then .bool x.page.used else if j = k * 6 + 1 then .int .i64 x.block else if j = k * 6 then .int .i64 x.kind else opsF xs j) = opsF ys j := by
  by_cases e5 : j = k * 6 + 5
  · subst e5; rw [if_pos rfl, opsF_at hy 5 (by omega)]; rfl
  rw [if_neg e5]
  by_cases e4 : j = k * 6 + 4
  · subst e4; rw [if_pos rfl, opsF_at hy 4 (by omega)]; rfl
  rw [if_neg e4]
  by_cases e3 : j = k * 6 + 3
  · subst e3; rw [if_pos rfl, opsF_at hy 3 (by omega)]; rfl
  rw [if_neg e3]
  by_cases e2 : j = k * 6 + 2
  · subst e2; rw [if_pos rfl, opsF_at hy 2 (by omega)]; rfl
  rw [if_neg e2]
  by_cases e1 : j = k * 6 + 1
  · subst e1; rw [if_pos rfl, opsF_at hy 1 (by omega)]; rfl
  rw [if_neg e1]
  by_cases e0 : j = k * 6
  · subst e0; rw [if_pos rfl, show k * 6 = k * 6 + 0 by omega, opsF_at hy 0 (by omega)]; rfl
  rw [if_neg e0]
  unfold opsF
  rw [hother (j / 6) (by omega)]
theorem take_put {xs : List Opn} {k : Nat} {x : Opn} (h : xs[k]? = some x) : (xs.take (k + 1))[k]? = some x ∧ ∀ i, i ≠ k → (xs.take (k + 1))[i]? = (xs.take k)[i]? := by
  refine ⟨by rw [List.getElem?_take, if_pos (by omega)]; exact h, fun i hi => ?_⟩
  rw [List.getElem?_take, List.getElem?_take]
  by_cases hlt : i < k
  · rw [if_pos hlt, if_pos (by omega)]
  · rw [if_neg hlt, if_neg (by omega)]
/-- Six cells are written: op k is x. -/
theorem OwnOps.put {w : World} {t : TypeId} {b n k : Nat} {xs ys : List Opn} {x : Opn} (h : OwnOps w t b n xs) (hy : ys[k]? = some x) (hother : ∀ i, i ≠ k → ys[i]? = xs[i]?) :
    OwnOps ((((((w.setCell ⟨b, k * 6, none⟩ (.int .i64 x.kind)).setCell ⟨b, k * 6 + 1, none⟩ (.int .i64 x.block)).setCell ⟨b, k * 6 + 2, none⟩ (.bool x.page.used)).setCell ⟨b, k * 6 + 3, none⟩ (.int .i64 x.page.log)).setCell ⟨b, k * 6 + 4, none⟩ (.int .i64 x.page.seq)).setCell ⟨b, k * 6 + 5, none⟩ (.string x.page.data)) t b n ys :=
  ((((((World.rowIs.set h (k * 6) _).set (k * 6 + 1) _).set (k * 6 + 2) _).set (k * 6 + 3) _).set (k * 6 + 4) _).set (k * 6 + 5) _).congr (fun j _ => opsF_put ys hy hother j)

/-- No text of an op is longer than a machine's number can say. -/
def OpTexts (xs : List Opn) : Prop := ∀ x ∈ xs, x.page.data.size ≤ 9223372036854775807
end Go.Proofs.YtjgcjeaplckbbaaGreat

/- The ops of a write, as plain lists say them. No program is named here. -/
namespace Go.Proofs.YtjgcjeaplckbbaaGreat
open Go.RowKit
set_option linter.unusedVariables false
set_option linter.unusedSimpArgs false

/-- Is the free block f to be taken rather than best? -/
def fresher (bs : List Bk) (but best f : Int) : Bool := decide (f ≠ but) && (decide (best < 0) || decide (wearAt bs f < wearAt bs best))
def freshStep (bs : List Bk) (but best f : Int) : Int := if fresher bs but best f = true then f else best
def freshIn (bs : List Bk) (but : Int) (L : List Int) : Int := L.foldl (freshStep bs but) (-1)
/-- The free block, but one, that is worn the least. -/
def freshOf (bs : List Bk) (but : Int) : Int := freshIn bs but (freeTo bs bs.length)
theorem freshIn_take {bs : List Bk} {but : Int} {L : List Int} {k : Nat} {x : Int} (hx : L[k]? = some x) : freshIn bs but (L.take (k + 1)) = freshStep bs but (freshIn bs but (L.take k)) x := by
  rw [take_succ_of hx]; simp [freshIn]
theorem freshStep_yes {bs : List Bk} {but best f : Int} (h : fresher bs but best f = true) : freshStep bs but best f = f := by simp [freshStep, h]
theorem freshStep_no {bs : List Bk} {but best f : Int} (h : fresher bs but best f = false) : freshStep bs but best f = best := by simp [freshStep, h]
theorem mem_freeTo {bs : List Bk} {k : Nat} {x : Int} (h : x ∈ freeTo bs k) : ∃ i : Nat, i < k ∧ x = (i : Int) ∧ begun bs i = false := by
  unfold freeTo at h
  simp only [List.mem_map, List.mem_filter, List.mem_range] at h
  obtain ⟨i, ⟨hi, hb⟩, rfl⟩ := h
  exact ⟨i, hi, rfl, by simpa using hb⟩
theorem freeTo_mem {bs : List Bk} {k i : Nat} (hi : i < k) (hb : begun bs i = false) : (i : Int) ∈ freeTo bs k := by
  unfold freeTo
  simp only [List.mem_map, List.mem_filter, List.mem_range]
  exact ⟨i, ⟨hi, by simpa using hb⟩, rfl⟩
theorem freeTo_nodup (bs : List Bk) (k : Nat) : (freeTo bs k).Nodup := by
  unfold freeTo
  refine List.Pairwise.map _ (fun a b h => ?_) (List.Pairwise.filter _ List.nodup_range)
  intro e
  exact h (by omega)
theorem freshIn_some (bs : List Bk) (but : Int) (L : List Int) : ∀ b, (L.foldl (freshStep bs but) b = b) ∨ (L.foldl (freshStep bs but) b ∈ L ∧ L.foldl (freshStep bs but) b ≠ but) := by
  induction L with
  | nil => intro b; exact .inl rfl
  | cons x L ih =>
    intro b
    simp only [List.foldl_cons]
    rcases ih (freshStep bs but b x) with h | ⟨h1, h2⟩
    · rw [h]
      by_cases hf : fresher bs but b x = true
      · rw [freshStep_yes hf]
        refine .inr ⟨by simp, ?_⟩
        unfold fresher at hf
        simp at hf
        exact hf.1
      · rw [freshStep_no (by simpa using hf)]; exact .inl rfl
    · exact .inr ⟨by simp [h1], h2⟩
theorem freshIn_neg {bs : List Bk} {but : Int} {L : List Int} (h0 : ∀ x ∈ L, 0 ≤ x) : (freshIn bs but L < 0 ↔ ∀ x ∈ L, x = but) := by
  suffices H : ∀ (L : List Int) (b : Int), (∀ x ∈ L, 0 ≤ x) → (L.foldl (freshStep bs but) b < 0 ↔ b < 0 ∧ ∀ x ∈ L, x = but) by
    have := H L (-1) h0
    unfold freshIn
    rw [this]
    simp
  intro L
  induction L with
  | nil => intro b _; simp
  | cons x L ih =>
    intro b h0
    simp only [List.foldl_cons]
    rw [ih _ (fun y hy => h0 y (by simp [hy]))]
    have hx := h0 x (by simp)
    by_cases hf : fresher bs but b x = true
    · rw [freshStep_yes hf]
      constructor
      · rintro ⟨h, _⟩; omega
      · rintro ⟨_, h⟩
        unfold fresher at hf
        simp at hf
        exact absurd (h x (by simp)) hf.1
    · rw [freshStep_no (by simpa using hf)]
      constructor
      · rintro ⟨h1, h2⟩
        refine ⟨h1, fun y hy => ?_⟩
        rcases List.mem_cons.1 hy with rfl | hy
        · by_cases e : y = but
          · exact e
          · exfalso; exact hf (by unfold fresher; simp [e, h1])
        · exact h2 y hy
      · rintro ⟨h1, h2⟩
        exact ⟨h1, fun y hy => h2 y (by simp [hy])⟩

/-- The least worn of a list that has one at least, the first of those alike. -/
def leastStep (bs : List Bk) (m y : Int) : Int := if wearAt bs y < wearAt bs m then y else m
def leastIn (bs : List Bk) : List Int → Int
  | [] => 0
  | x :: xs => xs.foldl (leastStep bs) x
theorem leastIn_fresh {bs : List Bk} {L : List Int} (h0 : ∀ x ∈ L, 0 ≤ x) (hL : L ≠ []) : leastIn bs L = freshIn bs (-1) L := by
  cases L with
  | nil => exact absurd rfl hL
  | cons x xs =>
    unfold leastIn freshIn
    simp only [List.foldl_cons]
    have e : freshStep bs (-1) (-1) x = x := freshStep_yes (by have := h0 x (by simp); unfold fresher; simp; omega)
    rw [e]
    have hx := h0 x (by simp)
    have hxs : ∀ y ∈ xs, 0 ≤ y := fun y hy => h0 y (by simp [hy])
    clear e h0 hL
    induction xs generalizing x with
    | nil => rfl
    | cons y ys ih =>
      simp only [List.foldl_cons]
      have hy := hxs y (by simp)
      have hn : ¬ x < 0 := by omega
      have hn1 : ¬ y = -1 := by omega
      have e2 : freshStep bs (-1) x y = leastStep bs x y := by
        unfold freshStep leastStep fresher
        simp [hn, hn1]
      rw [e2]
      refine ih _ ?_ (fun z hz => hxs z (by simp [hz]))
      unfold leastStep
      split <;> omega
theorem leastIn_take {bs : List Bk} {L : List Int} {k : Nat} {x : Int} (hk : 0 < k) (hx : L[k]? = some x) : leastIn bs (L.take (k + 1)) = leastStep bs (leastIn bs (L.take k)) x := by
  rw [take_succ_of hx]
  cases L with
  | nil => simp at hx
  | cons y ys =>
    obtain ⟨j, rfl⟩ : ∃ j, k = j + 1 := ⟨k - 1, by omega⟩
    simp [leastIn]
theorem leastIn_one {bs : List Bk} {L : List Int} {x : Int} (hx : L[0]? = some x) : leastIn bs (L.take 1) = x := by
  cases L with
  | nil => simp at hx
  | cons y ys => simp at hx; simp [leastIn, hx]
theorem leastIn_mem {bs : List Bk} {L : List Int} (hL : L ≠ []) : leastIn bs L ∈ L := by
  cases L with
  | nil => exact absurd rfl hL
  | cons x xs =>
    clear hL
    show xs.foldl (leastStep bs) x ∈ x :: xs
    induction xs generalizing x with
    | nil => simp
    | cons y ys ih =>
      simp only [List.foldl_cons]
      have := ih (leastStep bs x y)
      rcases List.mem_cons.1 this with h | h
      · rw [h]; unfold leastStep; split <;> simp
      · exact List.mem_cons_of_mem _ (List.mem_cons_of_mem _ h)
/-- Is there one free block alone? -/
theorem fresh_alone {bs : List Bk} (hL : freeTo bs bs.length ≠ []) : (freshOf bs (freshOf bs (-1)) < 0 ↔ (freeTo bs bs.length).length = 1) := by
  have h0 : ∀ x ∈ freeTo bs bs.length, 0 ≤ x := fun x hx => by obtain ⟨i, _, rfl, _⟩ := mem_freeTo hx; omega
  have hm : freshOf bs (-1) ∈ freeTo bs bs.length := by
    unfold freshOf
    rw [← leastIn_fresh h0 hL]
    exact leastIn_mem hL
  have hd := freeTo_nodup bs bs.length
  unfold freshOf at hm ⊢
  rw [freshIn_neg h0]
  generalize freshIn bs (-1) (freeTo bs bs.length) = f at hm ⊢
  generalize freeTo bs bs.length = L at hL h0 hm hd ⊢
  constructor
  · intro h
    match L, hL, hd, h with
    | [x], _, _, _ => rfl
    | x :: y :: t, _, hd, h =>
      exfalso
      have h1 := h x (by simp)
      have h2 := h y (by simp)
      simp at hd
      exact hd.1.1 (h1.trans h2.symm)
  · intro h
    match L, h, hm with
    | [x], _, hm =>
      intro y hy
      simp at hy hm
      exact hy.trans hm.symm

theorem begun_pu {bs : List Bk} {i : Nat} {x : Bk} (hx : bs[i]? = some x) : begun bs i = pu x 0 := by simp [begun, hx]
theorem Settled.some {bs : List Bk} {o : Int} (h : Settled bs o) : freeTo bs bs.length ≠ [] := by
  obtain ⟨i, x, hi, hx, _, hf⟩ := h.2
  intro e
  have := freeTo_mem hi (show begun bs i = false by rw [begun_pu hx]; unfold freeB at hf; simpa using hf)
  rw [e] at this
  simp at this
theorem FtlOk.fresh {bs : List Bk} {L : List Int} {seq o : Int} (h : FtlOk bs L seq o) : ∃ (i : Nat) (x : Bk), freshOf bs (-1) = (i : Int) ∧ bs[i]? = .some x ∧ freeB x = true ∧ i < bs.length ∧ leastIn bs (freeTo bs bs.length) = (i : Int) := by
  have hL := h.settled.some
  have h0 : ∀ x ∈ freeTo bs bs.length, 0 ≤ x := fun x hx => by obtain ⟨i, _, rfl, _⟩ := mem_freeTo hx; omega
  have hm := leastIn_mem (bs := bs) hL
  have e := leastIn_fresh (bs := bs) h0 hL
  obtain ⟨i, hi, hx, hb⟩ := mem_freeTo hm
  obtain ⟨y, hy⟩ := getElem?_ex (l := bs) (k := i) hi
  refine ⟨i, y, e.symm.trans hx, hy, ?_, hi, hx⟩
  rw [begun_pu hy] at hb
  unfold freeB
  simp [hb]

theorem vicTo_full {bs : List Bk} {L : List Int} {o : Int} {i : Nat} {x : Bk} (hx : bs[i]? = some x) (hn : (i : Int) ≠ o) (hf : fullB x = true) : ∀ k, i < k → 0 ≤ vicTo bs L o k := by
  intro k
  induction k with
  | zero => intro h; omega
  | succ k ih =>
    intro hk
    by_cases e : i = k
    · subst e
      by_cases hb : beats bs L (vicTo bs L o i) (i : Int) x.wear = true
      · rw [vicTo_take hx hn hf hb]; omega
      · rw [vicTo_keep hx hn hf (by simpa using hb)]
        have h1 : ¬ vicTo bs L o i < 0 := fun h => hb (beats_neg h)
        omega
    · have h0 := ih (by omega)
      rw [vicTo_succ]
      unfold vicStep
      split
      · exact h0
      · split
        · exact h0
        · split
          · omega
          · exact h0
theorem fullB_pu {x : Bk} (h : fullB x = true) : pu x 0 = true := by unfold fullB at h; simp at h; exact h.1.1.1
theorem FtlOk.victim {bs : List Bk} {L : List Int} {seq o : Int} (h : FtlOk bs L seq o) {x : Bk} (hx : bs[o.toNat]? = some x) (hf : fullB x = true) : 0 ≤ vicOf bs L (freshOf bs (-1)) ∧ vicOf bs L (freshOf bs (-1)) < (bs.length : Int) := by
  refine ⟨?_, (vicTo_bounds bs L _ bs.length).2⟩
  obtain ⟨i, y, e, hy, hfy, _⟩ := h.fresh
  have ho := h.opn
  refine vicTo_full (i := o.toNat) hx ?_ hf _ (by omega)
  rw [e]
  intro e2
  have e3 : o.toNat = i := by omega
  rw [e3, hy] at hx
  cases hx
  have := fullB_pu hf
  unfold freeB at hfy
  rw [this] at hfy
  cases hfy

/-- Page k of block v. -/
def pageIn (bs : List Bk) (v : Int) (k : Nat) : Pg := (mOf bs).page v.toNat k
theorem pageIn_of {bs : List Bk} {v : Nat} {x : Bk} (hx : bs[v]? = some x) {k : Nat} {p : Pg} (hp : x.pages[k]? = some p) : pageIn bs (v : Int) k = p := by
  unfold pageIn
  rw [Int.toNat_natCast]
  exact mOf_page hx hp
/-- Is page k of block v the newest of its log? -/
def movesAt (bs : List Bk) (L : List Int) (v : Int) (k : Nat) : Bool := (pageIn bs v k).used && decide (L[(pageIn bs v k).log.toNat]? = some (v * 4 + (k : Int)))
theorem FtlOk.moves {bs : List Bk} {L : List Int} {seq o : Int} (h : FtlOk bs L seq o) {v : Int} (hv : 0 ≤ v) {k : Nat} (hk : k < 4) : movesAt bs L v k = decide ((v * 4 + (k : Int)) ∈ L) := by
  rw [Bool.eq_iff_iff]
  unfold movesAt
  simp only [Bool.and_eq_true, decide_eq_true_eq]
  constructor
  · rintro ⟨_, h2⟩
    exact List.mem_of_getElem? h2
  · intro hm
    have hm2 := hm
    rw [h.map] at hm
    unfold placesOf at hm
    simp only [List.mem_map, List.mem_range] at hm
    obtain ⟨i, hi, he⟩ := hm
    cases e : newestAt (usedOf bs) (i : Int) with
    | none => rw [e] at he; simp only [placeIn] at he; omega
    | some y =>
      rw [e] at he
      simp only [placeIn] at he
      obtain ⟨hmm, hlg⟩ := newestAt_mem e
      obtain ⟨_, _, _, _, _, b, k', z, hb, hp, hk', hy, hu⟩ := h.chip.usedRight hmm
      have e1 : v.toNat = b := by omega
      have e2 : k' = k := by omega
      subst e2
      have e3 : pageIn bs v k' = y.2 := by unfold pageIn; rw [e1]; exact mOf_page hb hp
      rw [e3]
      refine ⟨hu, ?_⟩
      rw [hlg, Int.toNat_natCast, h.map, placesOf_at _ _ hi, e]
      simp only [placeIn, he]
/-- The newest pages of the first k of block v, as they are written into another. -/
def movedTo (bs : List Bk) (L : List Int) (v into seq : Int) : Nat → List Opn
  | 0 => []
  | k + 1 => movedTo bs L v into seq k ++ if movesAt bs L v k then [⟨1, into, { pageIn bs v k with seq := seq + ((movedTo bs L v into seq k).length : Int) }⟩] else []
theorem movedTo_length (bs : List Bk) (L : List Int) (v into seq : Int) (k : Nat) : (movedTo bs L v into seq k).length ≤ k := by
  induction k with
  | zero => simp [movedTo]
  | succ k ih =>
    simp only [movedTo, List.length_append]
    split
    · simp; omega
    · simp; omega
/-- A block is emptied: its newest pages are written into another, and it is erased. -/
def moveOps (bs : List Bk) (L : List Int) (v into seq : Int) : List Opn := movedTo bs L v into seq 4 ++ [⟨2, v, zeroPg⟩]
theorem moveOps_length (bs : List Bk) (L : List Int) (v into seq : Int) : (moveOps bs L v into seq).length = (movedTo bs L v into seq 4).length + 1 := by simp [moveOps]
def fullAt (bs : List Bk) (o : Int) : Bool := ((bs[o.toNat]?).map fullB).getD false
theorem fullAt_of {bs : List Bk} {o : Int} {x : Bk} (hx : bs[o.toNat]? = some x) : fullAt bs o = fullB x := by simp [fullAt, hx]
/-- The ops of a write of a right member. -/
def writeOps (bs : List Bk) (L : List Int) (seq o log : Int) (data : ByteArray) : List Opn :=
  if fullAt bs o = true then
    if freshOf bs (freshOf bs (-1)) < 0 then moveOps bs L (vicOf bs L (freshOf bs (-1))) (freshOf bs (-1)) seq ++ [⟨1, freshOf bs (-1), ⟨true, log, seq + ((movedTo bs L (vicOf bs L (freshOf bs (-1))) (freshOf bs (-1)) seq 4).length : Int), data⟩⟩]
    else [⟨1, freshOf bs (-1), ⟨true, log, seq, data⟩⟩]
  else [⟨1, o, ⟨true, log, seq, data⟩⟩]
theorem writeOps_length (bs : List Bk) (L : List Int) (seq o log : Int) (data : ByteArray) : 1 ≤ (writeOps bs L seq o log data).length ∧ (writeOps bs L seq o log data).length ≤ 6 := by
  have h := movedTo_length bs L (vicOf bs L (freshOf bs (-1))) (freshOf bs (-1)) seq 4
  unfold writeOps moveOps
  split
  · split <;> simp <;> omega
  · simp
/-- Is there a block that is worn out? -/
def wornTo (bs : List Bk) (k : Nat) : Prop := ∃ i x, i < k ∧ bs[i]? = some x ∧ x.wear = 1000000000
def worn (bs : List Bk) : Prop := wornTo bs bs.length
theorem wornTo_succ {bs : List Bk} {k : Nat} {x : Bk} (hx : bs[k]? = some x) : wornTo bs (k + 1) ↔ wornTo bs k ∨ x.wear = 1000000000 := by
  constructor
  · rintro ⟨i, y, hi, hy, hw⟩
    by_cases e : i = k
    · subst e; rw [hx] at hy; cases hy; exact .inr hw
    · exact .inl ⟨i, y, by omega, hy, hw⟩
  · rintro (⟨i, y, hi, hy, hw⟩ | hw)
    · exact ⟨i, y, by omega, hy, hw⟩
    · exact ⟨k, x, by omega, hx, hw⟩
def formOk (bs : List Bk) (log : Int) (data : ByteArray) : Prop := 0 ≤ log ∧ log < (roomOf bs : Int) ∧ data.size = 4
def roomy (bs : List Bk) (seq : Int) : Prop := ¬ worn bs ∧ seq ≤ 999999990
/-- What OpsOf answers. -/
def OpsOfIs (bs : List Bk) (L : List Int) (seq o log : Int) (data : ByteArray) (xs : List Opn) (r : Bool) : Prop :=
  (r = true ∧ (FtlOk bs L seq o ∧ formOk bs log data ∧ roomy bs seq) ∧ xs = writeOps bs L seq o log data) ∨ (r = false ∧ xs = [] ∧ ¬ (FtlOk bs L seq o ∧ formOk bs log data ∧ roomy bs seq))
theorem OpsOfIs.one {bs : List Bk} {L : List Int} {seq o log : Int} {data : ByteArray} {x1 x2 : List Opn} {r1 r2 : Bool} (h : OpsOfIs bs L seq o log data x1 r1) (k : OpsOfIs bs L seq o log data x2 r2) : x1 = x2 ∧ r1 = r2 := by
  rcases h with ⟨rfl, h1, rfl⟩ | ⟨rfl, rfl, h1⟩
  · rcases k with ⟨rfl, _, rfl⟩ | ⟨_, _, k1⟩
    · exact ⟨rfl, rfl⟩
    · exact absurd h1 k1
  · rcases k with ⟨_, k1, _⟩ | ⟨rfl, rfl, _⟩
    · exact absurd k1 h1
    · exact ⟨rfl, rfl⟩
theorem OpsOfIs.length {bs : List Bk} {L : List Int} {seq o log : Int} {data : ByteArray} {xs : List Opn} {r : Bool} (h : OpsOfIs bs L seq o log data xs r) : xs.length ≤ 6 := by
  rcases h with ⟨_, _, rfl⟩ | ⟨_, rfl, _⟩
  · exact (writeOps_length ..).2
  · simp
end Go.Proofs.YtjgcjeaplckbbaaGreat

/- May a log be written? The model's l3Form and l3Room. -/
namespace Go.Proofs.YtjgcjeaplckbbaaGreat
open Go.RowKit
set_option linter.unusedVariables false
set_option linter.unusedSimpArgs false

set_option maxHeartbeats 1000000 in
theorem l3Form_any (va : Value) (ma : Option Addr) (mc mn : Nat) (seq o lg : Int) (data : ByteArray) (w : World) (hmn : mn ≤ 1048576) (hd : data.size ≤ 1048576) :
    Calls Tryz.prog 23 #[.agg #[va, .slice ma mn mc, .int .i64 seq, .int .i64 o], .int .i64 lg, .string data] w fun e w' => RetIff (0 ≤ lg ∧ lg < (mn : Int) ∧ data.size = 4) e ∧ Below w.heap.size w w' := by
  have hb0 : ∀ o, Below w.heap.size w (w.alloc o) := fun o => (Below.refl _ w).alloc (Nat.le_refl _) _
  by_cases hin : 0 ≤ lg ∧ lg ≤ (mn : Int) - 1
  · have hdd : decide (0 ≤ lg ∧ lg ≤ (mn : Int) - 1) = true := by simpa using hin
    by_cases h4 : data.size = 4
    · have e4 : ((data.size : Int) == 4) = true := by simp; omega
      go_enter Tryz.func23, Tryz.ntmps23
      go_wp2_with fail
      refine (l1In_any _ _ _ _).mono ?_
      rintro e w1 ⟨rfl, rfl⟩
      rw [hdd]
      go_wp2
      go_ret
      exact ⟨RetIff.yes ⟨hin.1, by omega, h4⟩, hb0 _⟩
    · have e4 : ((data.size : Int) == 4) = false := by simp; omega
      go_enter Tryz.func23, Tryz.ntmps23
      go_wp2_with fail
      refine (l1In_any _ _ _ _).mono ?_
      rintro e w1 ⟨rfl, rfl⟩
      rw [hdd]
      go_wp2
      go_ret
      exact ⟨RetIff.no (fun h => h4 h.2.2), hb0 _⟩
  · have hdd : decide (0 ≤ lg ∧ lg ≤ (mn : Int) - 1) = false := by simpa using hin
    go_enter Tryz.func23, Tryz.ntmps23
    go_wp2_with fail
    refine (l1In_any _ _ _ _).mono ?_
    rintro e w1 ⟨rfl, rfl⟩
    rw [hdd]
    go_wp2
    go_ret
    exact ⟨RetIff.no (fun h => hin ⟨h.1, by omega⟩), hb0 _⟩

set_option maxRecDepth 100000 in
set_option maxHeartbeats 1000000 in
theorem l3Room_any (a : Option Addr) (c : Nat) (bs : List Bk) (n : Nat) (hl : bs.length = n) (hn12 : n ≤ 12) (ma : Option Addr) (mc mn : Nat) (seq o : Int) (w : World) (h : BlocksAt w a bs) :
    Calls Tryz.prog 24 #[.agg #[.slice a n c, .slice ma mn mc, .int .i64 seq, .int .i64 o]] w fun e w' => RetIff (roomy bs seq) e ∧ Below w.heap.size w w' := by
  have hb0 : ∀ o, Below w.heap.size w (w.alloc o) := fun o => (Below.refl _ w).alloc (Nat.le_refl _) _
  have HL := hide hl
  clear hl
  go_enter Tryz.func24, Tryz.ntmps24
  go_wp2
  go_loop [3] (fun i => ∃ k : Nat, k ≤ n ∧ i = .int .i64 k ∧ ¬ wornTo bs k) (fun i => n - (intOf i).toNat)
  case atStart => exact ⟨0, Nat.zero_le _, rfl, fun ⟨i, _, hi, _⟩ => absurd hi (Nat.not_lt_zero _)⟩
  case round =>
    obtain ⟨k, hk, rfl, hall⟩ := hrel
    have HA := hide hall
    clear hall
    by_cases hlt : k < n
    · obtain ⟨x, hx⟩ := getElem?_ex (l := bs) (k := k) (by have := unhide HL; omega)
      obtain ⟨g, og, pa, pc, rfl, hcw, _, _⟩ := h k x hx
      have hgl : g < w.heap.size := World.block_lt_of_cell? _ _ hcw
      have HX := hide hx
      clear hx h
      by_cases hw : x.wear = 1000000000
      · have ew : (x.wear == 1000000000) = true := by simpa using hw
        go_wp2
        go_ret
        exact ⟨RetIff.no (fun hr => hr.1 ⟨k, x, by have := unhide HL; omega, unhide HX, hw⟩), hb0 _⟩
      · have ew : (x.wear == 1000000000) = false := by simpa using hw
        go_wp2
        go_round
        case rel =>
          refine ⟨k + 1, by omega, by go_num, fun h => ?_⟩
          rcases (wornTo_succ (unhide HX)).1 h with h | h
          · exact unhide HA h
          · exact hw h
        case measure => simp [intOf]; omega
    · obtain rfl : k = n := by omega
      have HW : Hid (¬ worn bs) := fun h => unhide HA (by have := unhide HL; unfold worn at h; rwa [this] at h)
      clear h
      by_cases hs : seq ≤ 999999990
      · go_wp2
        go_ret
        exact ⟨⟨_, rfl, by simp [hs, roomy, unhide HW]⟩, hb0 _⟩
      · go_wp2
        go_ret
        exact ⟨⟨_, rfl, by simp [hs, roomy]⟩, hb0 _⟩
end Go.Proofs.YtjgcjeaplckbbaaGreat

/- The free block that is worn the least: the model's l3Fresh. -/
namespace Go.Proofs.YtjgcjeaplckbbaaGreat
open Go.RowKit
set_option linter.unusedVariables false
set_option linter.unusedSimpArgs false

theorem fresher_but {bs : List Bk} {best f : Int} : fresher bs f best f = false := by simp [fresher]
theorem fresher_first {bs : List Bk} {but best f : Int} (h : f ≠ but) (hb : best < 0) : fresher bs but best f = true := by simp [fresher, h, hb]
theorem fresher_less {bs : List Bk} {but best f x y : Int} (h : f ≠ but) (hx : wearAt bs f = x) (hy : wearAt bs best = y) (hw : x < y) : fresher bs but best f = true := by simp [fresher, h, hx, hy, hw]
theorem fresher_not {bs : List Bk} {but best f x y : Int} (hb : 0 ≤ best) (hx : wearAt bs f = x) (hy : wearAt bs best = y) (hw : y ≤ x) : fresher bs but best f = false := by
  have h1 : ¬ best < 0 := by omega
  have h2 : ¬ x < y := by omega
  simp [fresher, h1, h2, hx, hy]
theorem freshTo_bounds {bs : List Bk} {but : Int} (k : Nat) : freshIn bs but ((freeTo bs bs.length).take k) = -1 ∨ ∃ i x, freshIn bs but ((freeTo bs bs.length).take k) = ((i : Nat) : Int) ∧ bs[i]? = some x := by
  rcases freshIn_some bs but ((freeTo bs bs.length).take k) (-1) with h | ⟨h, _⟩
  · exact .inl h
  · obtain ⟨i, hi, he, _⟩ := mem_freeTo (List.mem_of_mem_take h)
    obtain ⟨x, hx⟩ := getElem?_ex (l := bs) (k := i) hi
    exact .inr ⟨i, x, he, hx⟩

set_option maxRecDepth 100000 in
set_option maxHeartbeats 4000000 in
theorem l3Fresh_any (a : Option Addr) (c : Nat) (bs : List Bk) (n : Nat) (hl : bs.length = n) (hok : ChipOk bs) (but : Int) (w : World) (h : BlocksAt w a bs) :
    Calls Tryz.prog 56 #[.agg #[.slice a n c], .int .i64 but] w fun e w' => e = .returned (.int .i64 (freshOf bs but)) ∧ Below w.heap.size w w' := by
  have hb0 : ∀ o, Below w.heap.size w (w.alloc o) := fun o => (Below.refl _ w).alloc (Nat.le_refl _) _
  have hn12 : n ≤ 12 := by have := hok.count; omega
  go_enter Tryz.func56, Tryz.ntmps56
  go_wp2_with fail
  refine (l1Free_any a c bs n hl hok _ (h.below (hb0 _) (Nat.le_refl _))).mono ?_
  rintro e w1 ⟨v, rfl, hv, hB1⟩
  obtain ⟨fa, fc, rfl, hI, _⟩ := hv.form
  have hs1 := hB1.size
  simp at hs1
  have hx1 : w1.cell? ⟨w.heap.size, 0, none⟩ = some (.slice a n c) := by
    rw [hB1.cell (p := ⟨w.heap.size, 0, none⟩) (by simp)]
    simp
  have hW1 : Below w.heap.size w w1 := (hb0 _).trans (hB1.mono (by simp))
  have hA := h.below hW1 (Nat.le_refl _)
  have hq := freeTo_length bs n
  obtain ⟨q, hqq⟩ : ∃ q, q = (freeTo bs n).length := ⟨_, rfl⟩
  rw [← hqq] at hq ⊢
  subst hl
  have HI := hide hI
  have HA := hide hA
  have HQ := hide hqq
  clear hv hI hA h hb0 hB1 hok hqq
  go_wp2
  go_loopw [5, 7] (fun v i wr => ∃ k : Nat, k ≤ q ∧ i = .int .i64 k ∧ v = .int .i64 (freshIn bs but ((freeTo bs bs.length).take k)) ∧ Below w1.heap.size w1 wr) (fun _ i _ => q - (intOf i).toNat)
  case atStart => exact ⟨0, Nat.zero_le _, rfl, by simp [freshIn], Below.refl _ _⟩
  case round =>
    obtain ⟨k, hk, rfl, rfl, hB⟩ := hrel
    have hsr := hB.size
    have hxr := (hB.cell (p := ⟨w.heap.size, 0, none⟩) (by show w.heap.size < _; omega)).trans hx1
    by_cases hlt : k < q
    · obtain ⟨f, hf⟩ := getElem?_ex (l := freeTo bs bs.length) (k := k) (by have := unhide HQ; omega)
      obtain ⟨j, hj, rfl, _⟩ := mem_freeTo (List.mem_of_getElem? hf)
      obtain ⟨x, hx⟩ := getElem?_ex (l := bs) (k := j) hj
      obtain ⟨b1, o1, rfl, hcf⟩ := ((unhide HI).below hB (Nat.le_refl _)) k _ hf
      obtain ⟨g, og, pa, pc, ha, hcw, _, _⟩ := ((unhide HA).below hB (Nat.le_refl _)) j x hx
      have HST := hide (freshIn_take (bs := bs) (but := but) hf)
      have HW := hide (wearAt_of hx)
      have hbb := freshTo_bounds (bs := bs) (but := but) k
      obtain ⟨best, hbest⟩ : ∃ best, best = freshIn bs but ((freeTo bs bs.length).take k) := ⟨_, rfl⟩
      rw [← hbest] at HST hbb ⊢
      clear hf hx hbest hx1
      by_cases hfb : (j : Int) = but
      · have heq : ((j : Int) != but) = false := by simpa using hfb
        go_wp2_with fail
        go_quiet (fail)
        go_wp2
        go_roundw
        case rel => exact ⟨k + 1, by omega, by go_num, by rw [unhide HST, ← hfb, freshStep_no fresher_but], Below.drewN hB _⟩
        case measure => simp [intOf]; omega
      · have heq : ((j : Int) != but) = true := by simpa using hfb
        rcases hbb with rfl | ⟨i, y, rfl, hy⟩
        · go_wp2_with fail
          go_quiet (fail)
          go_wp2
          go_roundw
          case rel => exact ⟨k + 1, by omega, by go_num, by rw [unhide HST, freshStep_yes (fresher_first hfb (by omega))], Below.drewN hB _⟩
          case measure => simp [intOf]; omega
        · obtain ⟨g2, og2, _, _, ha2, hcw2, _, _⟩ := ((unhide HA).below hB (Nat.le_refl _)) i y hy
          have hil : i < bs.length := (List.getElem?_eq_some_iff.1 hy).1
          rw [ha] at ha2
          cases ha2
          subst ha
          have HY := hide (wearAt_of hy)
          clear hy
          by_cases hw : x.wear < y.wear
          · go_wp2_with fail
            go_quiet (fail)
            go_wp2
            go_roundw
            case rel => exact ⟨k + 1, by omega, by go_num, by rw [unhide HST, freshStep_yes (fresher_less hfb (unhide HW) (unhide HY) hw)], Below.drewN hB _⟩
            case measure => simp [intOf]; omega
          · have hw' : y.wear ≤ x.wear := by omega
            go_wp2_with fail
            go_quiet (fail)
            go_wp2
            go_roundw
            case rel => exact ⟨k + 1, by omega, by go_num, by rw [unhide HST, freshStep_no (fresher_not (by omega) (unhide HW) (unhide HY) hw')], Below.drewN hB _⟩
            case measure => simp [intOf]; omega
    · obtain rfl : k = q := by omega
      have HE : Hid ((freeTo bs bs.length).take k = freeTo bs bs.length) := by have := unhide HQ; rw [this]; exact List.take_length
      rw [unhide HE]
      have hW := hW1.trans (hB.mono hW1.size)
      clear hx1 hxr
      go_wp2
      go_ret
      exact ⟨rfl, hW⟩
end Go.Proofs.YtjgcjeaplckbbaaGreat

/- Lists of ops that append has built. -/
namespace Go.Proofs.YtjgcjeaplckbbaaGreat
open Go.RowKit
set_option linter.unusedVariables false
set_option linter.unusedSimpArgs false

def opCells (xs : List Opn) : List Value := xs.flatMap fun x => [.int .i64 x.kind, .int .i64 x.block, .bool x.page.used, .int .i64 x.page.log, .int .i64 x.page.seq, .string x.page.data]
theorem opCells_at {xs : List Opn} : ∀ {i : Nat} {x : Opn}, xs[i]? = some x → ∀ j, j < 6 → (opCells xs)[i * 6 + j]? = some (opV x j) := by
  induction xs with
  | nil => intro i x h; simp at h
  | cons y xs ih =>
    intro i x h j hj
    have e : opCells (y :: xs) = [.int .i64 y.kind, .int .i64 y.block, .bool y.page.used, .int .i64 y.page.log, .int .i64 y.page.seq, .string y.page.data] ++ opCells xs := rfl
    cases i with
    | zero =>
      simp at h; subst h
      rw [e, List.getElem?_append_left (by simp; omega)]
      have h6 : j = 0 ∨ j = 1 ∨ j = 2 ∨ j = 3 ∨ j = 4 ∨ j = 5 := by omega
      rcases h6 with rfl | rfl | rfl | rfl | rfl | rfl <;> rfl
    | succ i =>
      rw [e, List.getElem?_append_right (by simp; omega)]
      rw [show (i + 1) * 6 + j - [Value.int .i64 y.kind, .int .i64 y.block, .bool y.page.used, .int .i64 y.page.log, .int .i64 y.page.seq, .string y.page.data].length = i * 6 + j by simp; omega]
      exact ih (by simpa using h) j hj

/-- The slice v holds the ops xs, in a row that was made from block B on and may be written. -/
def OwnsOps (w : World) (B : Nat) (v : Value) (xs : List Opn) : Prop := w.ownsRow B 93 6 v xs.length (opCells xs)
theorem OwnsOps.touch {w w' : World} {B r : Nat} {v : Value} {xs : List Opn} (h : OwnsOps w B v xs) (hr : r < B) (hT : Touch (· = r) w w') : OwnsOps w' B v xs := by
  refine ⟨h.1, ?_⟩
  rcases h.2 with ⟨hv, hl⟩ | ⟨g, cap, cur, rfl, hb, hg, hrest⟩
  · exact .inl ⟨hv, hl⟩
  · refine .inr ⟨g, cap, cur, rfl, hb, ?_, hrest⟩
    rw [hT.block g (Array.getElem?_eq_some_iff.1 hg).1 (by show ¬ g = r; omega)]
    exact hg
theorem OwnsOps.nil (w : World) (B : Nat) (hB : B ≤ w.heap.size) : OwnsOps (w.alloc (.cells #[] 93)) B (.slice (some ⟨w.heap.size, 0, none⟩) 0 0) [] := by
  have := World.ownsRow_lit (base := B) (e := 93) (size := 6) w #[] 0 hB (by unfold maxLen; omega) rfl
  simpa [OwnsOps, opCells] using this
theorem OwnsOps.form {w : World} {B : Nat} {v : Value} {xs : List Opn} (h : OwnsOps w B v xs) : ∃ a c, v = .slice a xs.length c ∧ OpsAt w a xs ∧ xs.length ≤ c := by
  have h0 := h
  rcases h.2 with ⟨hv, hl⟩ | ⟨g, cap, cur, rfl, hb, hg, hn, _⟩
  · exact ⟨none, 0, by rw [hv, hl], fun i x hx => by have := (List.getElem?_eq_some_iff.1 hx).1; omega, by omega⟩
  · refine ⟨_, _, rfl, fun i x hx => ?_, hn⟩
    have c : ∀ j, j < 6 → w.cell? ⟨g, 0 + i * 6 + j, none⟩ = some (opV x j) := fun j hj => by
      rw [Nat.zero_add]
      exact ownsRow_cell h0 (opCells_at hx j hj)
    exact ⟨g, 0, rfl, c 0 (by omega), c 1 (by omega), c 2 (by omega), c 3 (by omega), c 4 (by omega), c 5 (by omega)⟩
theorem infoCOp : (Tryz.prog.info? 93).map (fun i => (i.zero, i.size, i.bytes)) = some (some (.agg #[.int .i64 0, .int .i64 0, .bool false, .int .i64 0, .int .i64 0, .string ByteArray.empty]), 6, 56) := by kernel_rfl
theorem OwnsOps.kept {w w' : World} {B : Nat} {v : Value} {xs : List Opn} (h : OwnsOps w B v xs) (hb : Below w.heap.size w w') : OwnsOps w' B v xs := by
  have hg : w.grownBy w' none := ⟨hb.os, hb.tape, hb.output, hb.size, fun k hk _ => hb.block k hk⟩
  refine World.ownsRow.kept h hg ?_
  cases hv : v.ownBlock with
  | none => exact Or.inl rfl
  | some k => exact Or.inr (by simp)
theorem OwnsOps.lower {w : World} {B B' : Nat} {v : Value} {xs : List Opn} (h : OwnsOps w B v xs) (hB : B' ≤ B) : OwnsOps w B' v xs := by
  refine ⟨h.1, ?_⟩
  rcases h.2 with h0 | ⟨g, cap, cur, e1, e2, e3⟩
  · exact .inl h0
  · exact .inr ⟨g, cap, cur, e1, by omega, e3⟩
theorem opCells_snoc (xs : List Opn) (x : Opn) : opCells (xs ++ [x]) = opCells xs ++ [.int .i64 x.kind, .int .i64 x.block, .bool x.page.used, .int .i64 x.page.log, .int .i64 x.page.seq, .string x.page.data] := by simp [opCells]
end Go.Proofs.YtjgcjeaplckbbaaGreat

/- A block is emptied: the model's l3Move. -/
namespace Go.Proofs.YtjgcjeaplckbbaaGreat
open Go.RowKit
set_option linter.unusedVariables false
set_option linter.unusedSimpArgs false

theorem movedTo_not {bs : List Bk} {L : List Int} {v into seq : Int} {k : Nat} (h : movesAt bs L v k = false) : movedTo bs L v into seq (k + 1) = movedTo bs L v into seq k := by simp [movedTo, h]
theorem movedTo_yes {bs : List Bk} {L : List Int} {v into seq : Int} {k : Nat} (h : movesAt bs L v k = true) : movedTo bs L v into seq (k + 1) = movedTo bs L v into seq k ++ [⟨1, into, { pageIn bs v k with seq := seq + ((movedTo bs L v into seq k).length : Int) }⟩] := by simp [movedTo, h]
theorem movesAt_of {bs : List Bk} {L : List Int} {v : Int} {k lg : Nat} {s y : Int} {d : ByteArray} (hp : pageIn bs v k = ⟨true, (lg : Int), s, d⟩) (hy : L[lg]? = some y) : movesAt bs L v k = true ↔ y = v * 4 + (k : Int) := by
  have e : L[(pageIn bs v k).log.toNat]? = some y := by rw [hp]; simpa using hy
  have e2 : (pageIn bs v k).used = true := by rw [hp]
  unfold movesAt
  rw [Bool.and_eq_true, decide_eq_true_eq, e, e2]
  simp

set_option maxRecDepth 100000 in
set_option maxHeartbeats 4000000 in
theorem l3Move_any (a : Option Addr) (c : Nat) (bs : List Bk) (n : Nat) (hl : bs.length = n) (ma : Option Addr) (mc : Nat) (L : List Int) (mn : Nat) (hL : L.length = mn) (hok : ChipOk bs) (hfit : ∀ (b k : Nat) (x : Bk) (p : Pg), bs[b]? = some x → x.pages[k]? = some p → p.used = true → ∃ lg : Nat, p.log = (lg : Int) ∧ lg < mn) (hmn : mn ≤ 36)
    (v : Nat) (hv : v < n) (into seq : Int) (h0 : 0 ≤ seq) (h1 : seq ≤ 1000000000) (w : World) (h : BlocksAt w a bs) (hI : IntsAt w ma L) :
    Calls Tryz.prog 57 #[.agg #[.slice a n c], .slice ma mn mc, .int .i64 (v : Int), .int .i64 into, .int .i64 seq] w fun e w' => ∃ r, e = .returned r ∧ OwnsOps w' (w.heap.size + 1) r (moveOps bs L (v : Int) into seq) ∧ Below w.heap.size w w' := by
  have hn12 : n ≤ 12 := by have := hok.count; omega
  obtain ⟨i0, hi, hz0, hz1, hz2⟩ := info_parts infoCOp
  obtain ⟨x, hx⟩ := getElem?_ex (l := bs) (k := v) (by omega)
  have h4 := (hok.block x (List.mem_of_getElem? hx)).four
  have HX := hide hx
  have HL := hide hL
  have HF := hide (hfit v)
  have HA := hide h
  have HI := hide hI
  clear hfit hok hx h hI hL
  go_enter Tryz.func57, Tryz.ntmps57
  go_wp2_with fail
  obtain ⟨w0, hw0⟩ : ∃ w0, w0 = w.alloc (.cells #[.slice a n c] 26) := ⟨_, rfl⟩
  have hs0 : w.heap.size < w0.heap.size := by rw [hw0]; simp
  have hs0' : w0.heap.size = w.heap.size + 1 := by rw [hw0]; simp
  have hx0 : w0.cell? ⟨w.heap.size, 0, none⟩ = some (.slice a n c) := by rw [hw0]; simp
  have hW0 : Below w.heap.size w w0 := by rw [hw0]; exact (Below.refl _ w).alloc (Nat.le_refl _) _
  have HO0 : Hid (OwnsOps (w0.alloc (.cells #[] 93)) (w.heap.size + 1) (.slice (some ⟨w.heap.size + 1, 0, none⟩) 0 0) []) := by rw [← hs0']; exact OwnsOps.nil w0 w0.heap.size (Nat.le_refl _)
  have HS0 := hide hs0'
  rw [← hw0]
  clear hw0 hs0'
  go_wp2
  go_loopw [4, 11, 12] (fun sq out i wr => ∃ k : Nat, k ≤ 4 ∧ i = .int .i64 k ∧ sq = .int .i64 (seq + ((movedTo bs L (v : Int) into seq k).length : Int)) ∧ OwnsOps wr (w.heap.size + 1) out (movedTo bs L (v : Int) into seq k) ∧ Below w0.heap.size w0 wr) (fun _ _ i _ => 4 - (intOf i).toNat)
  case atStart => exact ⟨0, Nat.zero_le _, rfl, by simp [movedTo], unhide HO0, (Below.refl _ w0).alloc (Nat.le_refl _) _⟩
  case round =>
    obtain ⟨k, hk, rfl, rfl, hO, hB⟩ := hrel
    have hsr := hB.size
    have hxr := (hB.cell (p := ⟨w.heap.size, 0, none⟩) hs0).trans hx0
    have hml := movedTo_length bs L (v : Int) into seq k
    obtain ⟨m, hm⟩ : ∃ m, m = (movedTo bs L (v : Int) into seq k).length := ⟨_, rfl⟩
    rw [← hm] at hml ⊢
    have HM := hide hm
    have HO := hide hO
    have hW := hW0.trans (hB.mono hW0.size)
    clear hm hO hx0 HO0
    by_cases hlt : k < 4
    · obtain ⟨p, hp⟩ := getElem?_ex (l := x.pages) (k := k) (by omega)
      obtain ⟨g, og, pa, pc, rfl, hcw, hcp, hpa⟩ := ((unhide HA).below hW (Nat.le_refl _)) v x (unhide HX)
      rw [h4] at hcp
      obtain ⟨g2, o2, rfl, q0, q1, q2, q3⟩ := hpa k p hp
      have hg2 : g2 < wr.heap.size := World.block_lt_of_cell? _ _ q0
      have hpi := pageIn_of (unhide HX) hp
      have hfl := unhide HF k x p (unhide HX) hp
      have HPI := hide hpi
      clear hcw hpa hp hpi
      obtain ⟨u, lg0, s, d⟩ := p
      simp only at q0 q1 q2 q3 hfl
      cases u with
      | false =>
        have HNO : Hid (movesAt bs L (v : Int) k = false) := by unfold movesAt; rw [unhide HPI]; rfl
        clear hfl
        go_wp2
        go_roundw
        case rel => exact ⟨k + 1, by omega, by go_num, by rw [movedTo_not (unhide HNO), ← unhide HM], by rw [movedTo_not (unhide HNO)]; exact (unhide HO).kept ((Below.refl _ wr).alloc (Nat.le_refl _) _), hB.alloc hB.size _⟩
        case measure => simp [intOf]; omega
      | true =>
        obtain ⟨lg, rfl, hlg⟩ := hfl rfl
        obtain ⟨y, hy⟩ := getElem?_ex (l := L) (k := lg) (by have := unhide HL; omega)
        obtain ⟨b1, o1, rfl, hcy⟩ := ((unhide HI).below hW (Nat.le_refl _)) lg y hy
        have hb1 : b1 < wr.heap.size := World.block_lt_of_cell? _ _ hcy
        have hlgi : (lg : Int) < (mn : Int) := by omega
        have HY := hide hy
        clear hy
        by_cases hmv : y = (v : Int) * 4 + (k : Int)
        · have HYES : Hid (movesAt bs L (v : Int) k = true) := (movesAt_of (unhide HPI) (unhide HY)).2 hmv
          have heq : (y == (v : Int) * 4 + (k : Int)) = true := by simpa using hmv
          obtain ⟨w5, hw5⟩ : ∃ w5, w5 = wr.alloc (.cells #[.bool true, .int .i64 (lg : Int), .int .i64 (seq + (m : Int)), .string d] 51) := ⟨_, rfl⟩
          have hB5 : Below wr.heap.size wr w5 := by rw [hw5]; exact (Below.refl _ wr).alloc (Nat.le_refl _) _
          have hs5 : w5.heap.size = wr.heap.size + 1 := by rw [hw5]; simp
          have k0 : w5.cell? ⟨wr.heap.size, 0, none⟩ = some (.bool true) := by rw [hw5]; simp
          have k1 : w5.cell? ⟨wr.heap.size, 1, none⟩ = some (.int .i64 (lg : Int)) := by rw [hw5]; simp
          have k2 : w5.cell? ⟨wr.heap.size, 2, none⟩ = some (.int .i64 (seq + (m : Int))) := by rw [hw5]; simp
          have k3 : w5.cell? ⟨wr.heap.size, 3, none⟩ = some (.string d) := by rw [hw5]; simp
          go_upto_region 9 with fail
          rw [← hw5]
          clear hw5
          obtain ⟨X, hX⟩ : ∃ X, X = opCells (movedTo bs L (v : Int) into seq k) := ⟨_, rfl⟩
          have hRw : w5.ownsRow (w.heap.size + 1) 93 6 u11 m X := by have := (unhide HO).kept hB5; rw [hX, unhide HM]; exact this
          have HXX := hide hX
          clear hX q0 q1 q2 q3 hcp hcy
          go_wp2_with (refine wpList_append_lies _ rfl (.tmp 46) (.tmp 50) 32 rfl (w.heap.size + 1) 93 i0 _ 6 56 Tryz.underlying32 hi hz0 hz1 hz2 rfl (by decide) u11 m X (by simp [Act.eval]) (by exact hRw.alloc _) ⟨w5.heap.size, 0, none⟩ 1 1 [.int .i64 1, .int .i64 into, .bool true, .int .i64 (lg : Int), .int .i64 (seq + (m : Int)), .string d] (by simp [Act.eval]) rfl (World.news_of_block (cs := #[.int .i64 1, .int .i64 into, .bool true, .int .i64 (lg : Int), .int .i64 (seq + (m : Int)), .string d]) (t := 93) (fr := (0, 0)) (by exact Go.Deep.blk_alloc_new _ _)) (by simp [Value.oneCell']) (by omega) (by unfold maxLen; omega) (by omega) (by simp; omega) (w5.heap.size + 1) (by simp) ?_; intro g1 cap wE hown hgrow hat hlt1)
          go_roundw
          case rel =>
            have hBE : Below (w.heap.size + 1) w5 wE := Below.grown ((Below.refl _ w5).alloc (by omega) _) hgrow (by simp; omega) (fun j e => (hRw.lt j e).1)
            have hBB : Below w0.heap.size w0 wE := by
              have h2 := (hB.trans (hB5.mono hB.size))
              have h3 := hBE.mono (Nat.le_of_eq (unhide HS0))
              exact h2.trans h3
            refine ⟨k + 1, by omega, by go_num, ?_, ?_, hBB⟩
            · rw [movedTo_yes (unhide HYES), List.length_append, ← unhide HM]
              simp
              omega
            · rw [movedTo_yes (unhide HYES), ← unhide HM, unhide HPI]
              unfold OwnsOps
              rw [List.length_append, opCells_snoc, ← unhide HXX, ← unhide HM]
              simpa using hown
          case measure => simp [intOf]; omega
        · have HNO : Hid (movesAt bs L (v : Int) k = false) := Bool.eq_false_iff.2 (fun h => hmv ((movesAt_of (unhide HPI) (unhide HY)).1 h))
          have heq : (y == (v : Int) * 4 + (k : Int)) = false := by simpa using hmv
          go_wp2
          go_roundw
          case rel => exact ⟨k + 1, by omega, by go_num, by rw [movedTo_not (unhide HNO), ← unhide HM], by rw [movedTo_not (unhide HNO)]; exact (unhide HO).kept ((Below.refl _ wr).alloc (Nat.le_refl _) _), hB.alloc hB.size _⟩
          case measure => simp [intOf]; omega
    · obtain rfl : k = 4 := by omega
      obtain ⟨X, hX⟩ : ∃ X, X = opCells (movedTo bs L (v : Int) into seq 4) := ⟨_, rfl⟩
      have hRw : wr.ownsRow (w.heap.size + 1) 93 6 u11 m X := by rw [hX, unhide HM]; exact unhide HO
      have HXX := hide hX
      have hsr' : w.heap.size + 1 ≤ wr.heap.size := by have := unhide HS0; omega
      clear hX hxr
      go_wp2_with (refine wpList_append_lies _ rfl (.tmp 52) (.tmp 55) 32 rfl (w.heap.size + 1) 93 i0 _ 6 56 Tryz.underlying32 hi hz0 hz1 hz2 rfl (by decide) u11 m X (by simp [Act.eval]) (by exact hRw.alloc _) ⟨wr.heap.size, 0, none⟩ 1 1 [.int .i64 2, .int .i64 (v : Int), .bool false, .int .i64 0, .int .i64 0, .string ⟨#[]⟩] (by simp [Act.eval]) rfl (World.news_of_block (cs := #[.int .i64 2, .int .i64 (v : Int), .bool false, .int .i64 0, .int .i64 0, .string ⟨#[]⟩]) (t := 93) (fr := (0, 0)) (by exact Go.Deep.blk_alloc_new _ _)) (by simp [Value.oneCell']) (by omega) (by unfold maxLen; omega) (by omega) (by simp; omega) (wr.heap.size + 1) (by simp) ?_; intro g1 cap wE hown hgrow hat hlt1)
      go_ret
      refine ⟨_, rfl, ?_, ?_⟩
      · unfold moveOps OwnsOps
        rw [List.length_append, opCells_snoc, ← unhide HXX, ← unhide HM]
        simp at hown ⊢
        exact hown
      · have hBE : Below (w.heap.size + 1) wr wE := Below.grown ((Below.refl _ wr).alloc (by omega) _) hgrow (by simp; omega) (fun j e => (hRw.lt j e).1)
        exact hW.trans (hBE.mono (by omega))
end Go.Proofs.YtjgcjeaplckbbaaGreat

/- The greatest number on a chip: the model's l2Seq. -/
namespace Go.Proofs.YtjgcjeaplckbbaaGreat
open Go.RowKit
set_option linter.unusedVariables false
set_option linter.unusedSimpArgs false

theorem topStep_max (c : Int × Int) (x : Int × Pg) : (topStep c x).1 = max c.1 x.2.seq := by
  unfold topStep
  split
  · simp; omega
  · omega

set_option maxRecDepth 100000 in
set_option maxHeartbeats 2000000 in
theorem l2Seq_any (a : Option Addr) (c : Nat) (bs : List Bk) (n : Nat) (hl : bs.length = n) (hok : ChipOk bs) (w : World) (h : BlocksAt w a bs) :
    Calls Tryz.prog 53 #[.agg #[.slice a n c]] w fun e w' => e = .returned (.int .i64 (topSeq bs)) ∧ Below w.heap.size w w' := by
  have hn12 : 4 ≤ n ∧ n ≤ 12 := by have := hok.count; omega
  have HL := hide hl
  clear hl
  go_enter Tryz.func53, Tryz.ntmps53
  go_wp2
  go_loopw [3, 4] (fun v i wr => ∃ k : Nat, k ≤ n ∧ i = .int .i64 k ∧ v = .int .i64 (topOf (usedAll (mOf bs) k)).1 ∧ wr = w.alloc (.cells #[.slice a n c] 26)) (fun _ i _ => n - (intOf i).toNat)
  case atStart => exact ⟨0, Nat.zero_le _, rfl, rfl, rfl⟩
  case round =>
    obtain ⟨k, hk, rfl, rfl, rfl⟩ := hrel
    by_cases hlt : k < n
    · obtain ⟨x, hx⟩ := getElem?_ex (l := bs) (k := k) (by have := unhide HL; omega)
      obtain ⟨g1, o1, pa, pc, rfl, hcw, hcp, hpa⟩ := h k x hx
      have h4 := (hok.block x (List.mem_of_getElem? hx)).four
      rw [h4] at hcp
      have hg1 : g1 < w.heap.size := World.block_lt_of_cell? _ _ hcw
      obtain ⟨T, hT⟩ : ∃ T, T = (topOf (usedAll (mOf bs) k)).1 := ⟨_, rfl⟩
      rw [← hT]
      have HT := hide hT
      have HH := hide h
      have HX := hide hx
      clear hT h hx hcw
      go_wp2
      go_loopw [3, 5] (fun v i wr => ∃ j : Nat, j ≤ 4 ∧ i = .int .i64 j ∧ v = .int .i64 (topOf (usedAll (mOf bs) k ++ usedB (mOf bs) k j)).1 ∧ wr = w.alloc (.cells #[.slice (some ⟨g1, o1, none⟩) n c] 26)) (fun _ i _ => 4 - (intOf i).toNat)
      case atStart => exact ⟨0, Nat.zero_le _, rfl, by rw [unhide HT]; simp [usedB], rfl⟩
      case round =>
        obtain ⟨j, hj, rfl, rfl, rfl⟩ := hrel
        by_cases hlt2 : j < 4
        · obtain ⟨p, hp⟩ := getElem?_ex (l := x.pages) (k := j) (by omega)
          obtain ⟨g2, o2, rfl, c0, c1, c2, c3⟩ := hpa j p hp
          have hg2 : g2 < w.heap.size := World.block_lt_of_cell? _ _ c0
          have hsu := usedB_succ (mOf bs) k j
          rw [mOf_page (unhide HX) hp] at hsu
          have hpk := (hok.block x (List.mem_of_getElem? (unhide HX))).page j p hp
          have hbd : 0 ≤ (topOf (usedAll (mOf bs) k ++ usedB (mOf bs) k j)).1 := by
            refine (topOf_bounds _ (fun y hy => ?_)).1
            have hmem : y ∈ usedOf bs := by
              have hpre := used_le (mOf bs) (b := k) (k := j) (n := n) hlt (by omega)
              unfold usedOf
              rw [unhide HL]
              exact hpre.subset hy
            exact (hok.usedRight hmem).2.2.2.1
          have hnew : (topOf (usedAll (mOf bs) k ++ usedB (mOf bs) k (j + 1))).1 = max (topOf (usedAll (mOf bs) k ++ usedB (mOf bs) k j)).1 p.seq := by
            rw [hsu, ← List.append_assoc]
            cases hu : p.used with
            | true =>
              simp only [if_true]
              rw [topOf_snoc, topStep_max]
            | false =>
              simp only [Bool.false_eq_true, if_false, List.append_nil]
              simp only [pgOk, hu, Bool.false_eq_true, if_false, isZero, Bool.and_eq_true, decide_eq_true_eq] at hpk
              rw [hpk.1.2]
              omega
          obtain ⟨T2, hT2⟩ : ∃ T2, T2 = (topOf (usedAll (mOf bs) k ++ usedB (mOf bs) k j)).1 := ⟨_, rfl⟩
          rw [← hT2] at hnew hbd ⊢
          have HN := hide hnew
          have HHK := hide hok
          have HPA := hide hpa
          clear hnew hsu hpk hT2 hok hpa
          go_wp2
          go_roundw
          case rel =>
            refine ⟨j + 1, by omega, by go_num, ?_, trivial⟩
            rw [unhide HN]
            congr 1
            split <;> omega
          case measure => simp [intOf]; omega
        · obtain rfl : j = 4 := by omega
          rw [← usedAll_succ]
          have HHK := hide hok
          have HPA := hide hpa
          clear hok hpa
          go_wp2
          go_roundw
          case rel => exact ⟨k + 1, by omega, by go_num, rfl, trivial⟩
          case measure => simp [intOf]; omega
    · obtain rfl : k = n := by omega
      have HHK := hide hok
      have HH := hide h
      clear hok h
      have e : (topOf (usedAll (mOf bs) k)).1 = topSeq bs := by unfold topSeq usedOf; rw [unhide HL]
      rw [e]
      clear e
      go_wp2
      go_ret
      exact ⟨rfl, (Below.refl _ w).alloc (Nat.le_refl _) _⟩
end Go.Proofs.YtjgcjeaplckbbaaGreat

/- The model's NextOf. -/
namespace Go.Proofs.YtjgcjeaplckbbaaGreat
open Go.RowKit
set_option linter.unusedVariables false
set_option linter.unusedSimpArgs false

set_option maxHeartbeats 1000000 in
theorem l1Next_any (x : Int) (pa : Option Addr) (pc : Nat) (ps : List Pg) (w : World) (h : PagesAt w pa ps) (hn : ps.length ≤ 9223372036854775807) :
    Calls Tryz.prog 55 #[.agg #[.int .i64 x, .slice pa ps.length pc]] w fun e w' => ∃ r : Int, e = .returned (.int .i64 r) ∧ NextIs (fun k => (pagesF ps k).used) ps.length r ∧ Below w.heap.size w w' := by
  have hb0 : ∀ o, Below w.heap.size w (w.alloc o) := fun o => (Below.refl _ w).alloc (Nat.le_refl _) _
  have hp := fun o => h.below (hb0 o) (Nat.le_refl _)
  go_enter Tryz.func55, Tryz.ntmps55
  go_wp2
  go_loop [3] (fun i => ∃ k : Nat, k ≤ ps.length ∧ i = .int .i64 k ∧ ∀ j, j < k → (pagesF ps j).used = true) (fun i => ps.length - (intOf i).toNat)
  case atStart => exact ⟨0, Nat.zero_le _, rfl, fun j hj => absurd hj (Nat.not_lt_zero _)⟩
  case round =>
    obtain ⟨k, hk, rfl, hall⟩ := hrel
    have HA := hide hall
    clear hall
    by_cases hlt : k < ps.length
    · obtain ⟨p, hpk⟩ := getElem?_ex hlt
      obtain ⟨b, o, rfl, c0, _⟩ := h k p hpk
      have hbl : b < w.heap.size := World.block_lt_of_cell? _ _ c0
      have hu : (pagesF ps k).used = p.used := by simp [pagesF, hpk]
      have HU := hide hu
      clear hu hp h hb0
      obtain ⟨u, l, s, d⟩ := p
      simp only at c0
      cases u with
      | true =>
        go_wp2
        go_round
        case rel =>
          refine ⟨k + 1, by omega, by go_num, fun j hj => ?_⟩
          by_cases e : j = k
          · subst e; exact unhide HU
          · exact unhide HA j (by omega)
        case measure => simp [intOf]; omega
      | false =>
        go_wp2
        go_ret
        exact ⟨_, rfl, .inl ⟨k, hlt, by go_num, unhide HU, unhide HA⟩, (Below.refl _ w).alloc (Nat.le_refl _) _⟩
    · have hkn : k = ps.length := by omega
      subst hkn
      clear hp
      go_wp2
      go_ret
      exact ⟨_, rfl, .inr ⟨rfl, unhide HA⟩, hb0 _⟩

end Go.Proofs.YtjgcjeaplckbbaaGreat

/- Regions that draw their order and only read, with callees that lay new memory: one walk, over all worlds that have grown from one. No program is named here. -/
namespace Go.Proofs.YtjgcjeaplckbbaaGreat
open Go.RowKit
set_option linter.unusedVariables false
set_option linter.unusedSimpArgs false

theorem wpQuiet_val {P : Program} {ops : Array Oper} {C : World → Prop} {Q : Act → Prop} {a : Act} {o : Oper} {rest : List Oper} (hw : Region.wanted o (yielded ops a.tmps) = true) (v : Value)
    (hq : ∀ W, C W → o.quietAt P a C W v) (h : wpQuiet P ops C Q rest (a.put o.dst v)) : wpQuiet P ops C Q (o :: rest) a :=
  BigFrame.wpQuiet_want hw fun K hK => ⟨v, hq, hK _ h⟩
theorem wpQuiet_not {P : Program} {ops : Array Oper} {C : World → Prop} {Q : Act → Prop} {a : Act} {o : Oper} {rest : List Oper} (hw : Region.wanted o (yielded ops a.tmps) = false)
    (h : wpQuiet P ops C Q rest (a.put o.dst undef)) : wpQuiet P ops C Q (o :: rest) a := BigFrame.wpQuiet_skip hw h

theorem quietAt_load_mid {P : Program} {o : Oper} {a : Act} {C : World → Prop} {W : World} (ty : TypeId) (x : Operand) (ho : o.op = .load ty x)
    (g off : Nat) (hx : a.eval x = .pointer (some ⟨g, off, none⟩)) (A : Array Value) (s : Nat) (hA : A.size = s) (hc : ∀ j, j < s → W.cell? ⟨g, off + j, none⟩ = A[j]?) (d : TypeDesc)
    (hu : P.underlying ty = some d) (hd : (match d with | .struct _ | .array _ _ => true | _ => false) = true) (hi : (P.info? ty).map (·.size) = some s) : o.quietAt P a C W (.agg A) := by
  unfold Oper.quietAt execOp
  simp only [ho, hx, Instr.loadAt, Instr.sureAddr, Sem.run_bind, Sem.run_pure, Result.andThen_ok, run_loadVar_mid W g off ty A s hA hc d hu hd hi]
  exact ⟨rfl, rfl⟩

theorem wp_region_grown {P : Program} {id : Nat} {Q : Exit → Act → World → Prop} {a : Act} {w : World} {l : List Oper} (C : World → Prop) (hm : P.follows .mixedOrders = true) (hB : Region.lexB .any l.toArray = true) (hC : C { w with drawn := w.drawn + 1 })
    (h : wpQuiet P l.toArray C (fun a' => ∀ w', C w' → Q .normal a' w') l a) : (Code.region id l.toArray true).wp P Q a w :=
  wp_region_quiet (C := C) hm hB hC (by simpa using h)
theorem below_drawn (w : World) : Below w.heap.size w { w with drawn := w.drawn + 1 } := (Below.refl w.heap.size w).drew
theorem Below.step {B : Nat} {a b c : World} (h : Below B a b) (hB : B ≤ b.heap.size) (k : Below b.heap.size b c) : Below B a c := h.trans (k.mono hB)
end Go.Proofs.YtjgcjeaplckbbaaGreat
