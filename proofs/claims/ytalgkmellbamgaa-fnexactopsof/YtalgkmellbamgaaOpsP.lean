/- The ops of a write, as plain lists say them. No program is named here. -/
import Derived.Test.YtalgkmellbamgaaVicP
import Derived.Test.YtalgkmellbamgaaFreeP
import Derived.Test.YtalgkmellbamgaaOpM
namespace Go.Proofs.Ytalgkmellbamgaa
open Go.RowKit
set_option linter.unusedVariables false
set_option linter.unusedSimpArgs false

/-- Is the free block f to be taken rather than best? -/
def fresher (bs : List Bk) (but best f : Int) : Bool := decide (f ≠ but) && (decide (best < 0) || decide (wearAt bs f < wearAt bs best))
def freshStep (bs : List Bk) (but best f : Int) : Int := if fresher bs but best f = true then f else best
def freshIn (bs : List Bk) (but : Int) (L : List Int) : Int := L.foldl (freshStep bs but) (-1)
/-- The free block, but one, that is worn the least. -/
def freshOf (bs : List Bk) (but : Int) : Int := freshIn bs but (freeTo bs bs.length)
theorem freshIn_take {bs : List Bk} {but : Int} {L : List Int} {k : Nat} {x : Int} (hx : L[k]? = some x) : freshIn bs but (L.take (k + 1)) = freshStep bs but (freshIn bs but (L.take k)) x := by
  rw [take_succ_of hx]; simp [freshIn]
theorem freshStep_yes {bs : List Bk} {but best f : Int} (h : fresher bs but best f = true) : freshStep bs but best f = f := by simp [freshStep, h]
theorem freshStep_no {bs : List Bk} {but best f : Int} (h : fresher bs but best f = false) : freshStep bs but best f = best := by simp [freshStep, h]
theorem mem_freeTo {bs : List Bk} {k : Nat} {x : Int} (h : x ∈ freeTo bs k) : ∃ i : Nat, i < k ∧ x = (i : Int) ∧ begun bs i = false := by
  unfold freeTo at h
  simp only [List.mem_map, List.mem_filter, List.mem_range] at h
  obtain ⟨i, ⟨hi, hb⟩, rfl⟩ := h
  exact ⟨i, hi, rfl, by simpa using hb⟩
theorem freeTo_mem {bs : List Bk} {k i : Nat} (hi : i < k) (hb : begun bs i = false) : (i : Int) ∈ freeTo bs k := by
  unfold freeTo
  simp only [List.mem_map, List.mem_filter, List.mem_range]
  exact ⟨i, ⟨hi, by simpa using hb⟩, rfl⟩
theorem freeTo_nodup (bs : List Bk) (k : Nat) : (freeTo bs k).Nodup := by
  unfold freeTo
  refine List.Pairwise.map _ (fun a b h => ?_) (List.Pairwise.filter _ List.nodup_range)
  intro e
  exact h (by omega)
theorem freshIn_some (bs : List Bk) (but : Int) (L : List Int) : ∀ b, (L.foldl (freshStep bs but) b = b) ∨ (L.foldl (freshStep bs but) b ∈ L ∧ L.foldl (freshStep bs but) b ≠ but) := by
  induction L with
  | nil => intro b; exact .inl rfl
  | cons x L ih =>
    intro b
    simp only [List.foldl_cons]
    rcases ih (freshStep bs but b x) with h | ⟨h1, h2⟩
    · rw [h]
      by_cases hf : fresher bs but b x = true
      · rw [freshStep_yes hf]
        refine .inr ⟨by simp, ?_⟩
        unfold fresher at hf
        simp at hf
        exact hf.1
      · rw [freshStep_no (by simpa using hf)]; exact .inl rfl
    · exact .inr ⟨by simp [h1], h2⟩
theorem freshIn_neg {bs : List Bk} {but : Int} {L : List Int} (h0 : ∀ x ∈ L, 0 ≤ x) : (freshIn bs but L < 0 ↔ ∀ x ∈ L, x = but) := by
  suffices H : ∀ (L : List Int) (b : Int), (∀ x ∈ L, 0 ≤ x) → (L.foldl (freshStep bs but) b < 0 ↔ b < 0 ∧ ∀ x ∈ L, x = but) by
    have := H L (-1) h0
    unfold freshIn
    rw [this]
    simp
  intro L
  induction L with
  | nil => intro b _; simp
  | cons x L ih =>
    intro b h0
    simp only [List.foldl_cons]
    rw [ih _ (fun y hy => h0 y (by simp [hy]))]
    have hx := h0 x (by simp)
    by_cases hf : fresher bs but b x = true
    · rw [freshStep_yes hf]
      constructor
      · rintro ⟨h, _⟩; omega
      · rintro ⟨_, h⟩
        unfold fresher at hf
        simp at hf
        exact absurd (h x (by simp)) hf.1
    · rw [freshStep_no (by simpa using hf)]
      constructor
      · rintro ⟨h1, h2⟩
        refine ⟨h1, fun y hy => ?_⟩
        rcases List.mem_cons.1 hy with rfl | hy
        · by_cases e : y = but
          · exact e
          · exfalso; exact hf (by unfold fresher; simp [e, h1])
        · exact h2 y hy
      · rintro ⟨h1, h2⟩
        exact ⟨h1, fun y hy => h2 y (by simp [hy])⟩

/-- The least worn of a list that has one at least, the first of those alike. -/
def leastStep (bs : List Bk) (m y : Int) : Int := if wearAt bs y < wearAt bs m then y else m
def leastIn (bs : List Bk) : List Int → Int
  | [] => 0
  | x :: xs => xs.foldl (leastStep bs) x
theorem leastIn_fresh {bs : List Bk} {L : List Int} (h0 : ∀ x ∈ L, 0 ≤ x) (hL : L ≠ []) : leastIn bs L = freshIn bs (-1) L := by
  cases L with
  | nil => exact absurd rfl hL
  | cons x xs =>
    unfold leastIn freshIn
    simp only [List.foldl_cons]
    have e : freshStep bs (-1) (-1) x = x := freshStep_yes (by have := h0 x (by simp); unfold fresher; simp; omega)
    rw [e]
    have hx := h0 x (by simp)
    have hxs : ∀ y ∈ xs, 0 ≤ y := fun y hy => h0 y (by simp [hy])
    clear e h0 hL
    induction xs generalizing x with
    | nil => rfl
    | cons y ys ih =>
      simp only [List.foldl_cons]
      have hy := hxs y (by simp)
      have hn : ¬ x < 0 := by omega
      have hn1 : ¬ y = -1 := by omega
      have e2 : freshStep bs (-1) x y = leastStep bs x y := by
        unfold freshStep leastStep fresher
        simp [hn, hn1]
      rw [e2]
      refine ih _ ?_ (fun z hz => hxs z (by simp [hz]))
      unfold leastStep
      split <;> omega
theorem leastIn_take {bs : List Bk} {L : List Int} {k : Nat} {x : Int} (hk : 0 < k) (hx : L[k]? = some x) : leastIn bs (L.take (k + 1)) = leastStep bs (leastIn bs (L.take k)) x := by
  rw [take_succ_of hx]
  cases L with
  | nil => simp at hx
  | cons y ys =>
    obtain ⟨j, rfl⟩ : ∃ j, k = j + 1 := ⟨k - 1, by omega⟩
    simp [leastIn]
theorem leastIn_one {bs : List Bk} {L : List Int} {x : Int} (hx : L[0]? = some x) : leastIn bs (L.take 1) = x := by
  cases L with
  | nil => simp at hx
  | cons y ys => simp at hx; simp [leastIn, hx]
theorem leastIn_mem {bs : List Bk} {L : List Int} (hL : L ≠ []) : leastIn bs L ∈ L := by
  cases L with
  | nil => exact absurd rfl hL
  | cons x xs =>
    clear hL
    show xs.foldl (leastStep bs) x ∈ x :: xs
    induction xs generalizing x with
    | nil => simp
    | cons y ys ih =>
      simp only [List.foldl_cons]
      have := ih (leastStep bs x y)
      rcases List.mem_cons.1 this with h | h
      · rw [h]; unfold leastStep; split <;> simp
      · exact List.mem_cons_of_mem _ (List.mem_cons_of_mem _ h)
/-- Is there one free block alone? -/
theorem fresh_alone {bs : List Bk} (hL : freeTo bs bs.length ≠ []) : (freshOf bs (freshOf bs (-1)) < 0 ↔ (freeTo bs bs.length).length = 1) := by
  have h0 : ∀ x ∈ freeTo bs bs.length, 0 ≤ x := fun x hx => by obtain ⟨i, _, rfl, _⟩ := mem_freeTo hx; omega
  have hm : freshOf bs (-1) ∈ freeTo bs bs.length := by
    unfold freshOf
    rw [← leastIn_fresh h0 hL]
    exact leastIn_mem hL
  have hd := freeTo_nodup bs bs.length
  unfold freshOf at hm ⊢
  rw [freshIn_neg h0]
  generalize freshIn bs (-1) (freeTo bs bs.length) = f at hm ⊢
  generalize freeTo bs bs.length = L at hL h0 hm hd ⊢
  constructor
  · intro h
    match L, hL, hd, h with
    | [x], _, _, _ => rfl
    | x :: y :: t, _, hd, h =>
      exfalso
      have h1 := h x (by simp)
      have h2 := h y (by simp)
      simp at hd
      exact hd.1.1 (h1.trans h2.symm)
  · intro h
    match L, h, hm with
    | [x], _, hm =>
      intro y hy
      simp at hy hm
      exact hy.trans hm.symm

theorem begun_pu {bs : List Bk} {i : Nat} {x : Bk} (hx : bs[i]? = some x) : begun bs i = pu x 0 := by simp [begun, hx]
theorem Settled.some {bs : List Bk} {o : Int} (h : Settled bs o) : freeTo bs bs.length ≠ [] := by
  obtain ⟨i, x, hi, hx, _, hf⟩ := h.2
  intro e
  have := freeTo_mem hi (show begun bs i = false by rw [begun_pu hx]; unfold freeB at hf; simpa using hf)
  rw [e] at this
  simp at this
theorem FtlOk.fresh {bs : List Bk} {L : List Int} {seq o : Int} (h : FtlOk bs L seq o) : ∃ (i : Nat) (x : Bk), freshOf bs (-1) = (i : Int) ∧ bs[i]? = .some x ∧ freeB x = true ∧ i < bs.length ∧ leastIn bs (freeTo bs bs.length) = (i : Int) := by
  have hL := h.settled.some
  have h0 : ∀ x ∈ freeTo bs bs.length, 0 ≤ x := fun x hx => by obtain ⟨i, _, rfl, _⟩ := mem_freeTo hx; omega
  have hm := leastIn_mem (bs := bs) hL
  have e := leastIn_fresh (bs := bs) h0 hL
  obtain ⟨i, hi, hx, hb⟩ := mem_freeTo hm
  obtain ⟨y, hy⟩ := getElem?_ex (l := bs) (k := i) hi
  refine ⟨i, y, e.symm.trans hx, hy, ?_, hi, hx⟩
  rw [begun_pu hy] at hb
  unfold freeB
  simp [hb]

theorem vicTo_full {bs : List Bk} {L : List Int} {o : Int} {i : Nat} {x : Bk} (hx : bs[i]? = some x) (hn : (i : Int) ≠ o) (hf : fullB x = true) : ∀ k, i < k → 0 ≤ vicTo bs L o k := by
  intro k
  induction k with
  | zero => intro h; omega
  | succ k ih =>
    intro hk
    by_cases e : i = k
    · subst e
      by_cases hb : beats bs L (vicTo bs L o i) (i : Int) x.wear = true
      · rw [vicTo_take hx hn hf hb]; omega
      · rw [vicTo_keep hx hn hf (by simpa using hb)]
        have h1 : ¬ vicTo bs L o i < 0 := fun h => hb (beats_neg h)
        omega
    · have h0 := ih (by omega)
      rw [vicTo_succ]
      unfold vicStep
      split
      · exact h0
      · split
        · exact h0
        · split
          · omega
          · exact h0
theorem fullB_pu {x : Bk} (h : fullB x = true) : pu x 0 = true := by unfold fullB at h; simp at h; exact h.1.1.1
theorem FtlOk.victim {bs : List Bk} {L : List Int} {seq o : Int} (h : FtlOk bs L seq o) {x : Bk} (hx : bs[o.toNat]? = some x) (hf : fullB x = true) : 0 ≤ vicOf bs L (freshOf bs (-1)) ∧ vicOf bs L (freshOf bs (-1)) < (bs.length : Int) := by
  refine ⟨?_, (vicTo_bounds bs L _ bs.length).2⟩
  obtain ⟨i, y, e, hy, hfy, _⟩ := h.fresh
  have ho := h.opn
  refine vicTo_full (i := o.toNat) hx ?_ hf _ (by omega)
  rw [e]
  intro e2
  have e3 : o.toNat = i := by omega
  rw [e3, hy] at hx
  cases hx
  have := fullB_pu hf
  unfold freeB at hfy
  rw [this] at hfy
  cases hfy

/-- Page k of block v. -/
def pageIn (bs : List Bk) (v : Int) (k : Nat) : Pg := (mOf bs).page v.toNat k
theorem pageIn_of {bs : List Bk} {v : Nat} {x : Bk} (hx : bs[v]? = some x) {k : Nat} {p : Pg} (hp : x.pages[k]? = some p) : pageIn bs (v : Int) k = p := by
  unfold pageIn
  rw [Int.toNat_natCast]
  exact mOf_page hx hp
/-- Is page k of block v the newest of its log? -/
def movesAt (bs : List Bk) (L : List Int) (v : Int) (k : Nat) : Bool := (pageIn bs v k).used && decide (L[(pageIn bs v k).log.toNat]? = some (v * 4 + (k : Int)))
theorem FtlOk.moves {bs : List Bk} {L : List Int} {seq o : Int} (h : FtlOk bs L seq o) {v : Int} (hv : 0 ≤ v) {k : Nat} (hk : k < 4) : movesAt bs L v k = decide ((v * 4 + (k : Int)) ∈ L) := by
  rw [Bool.eq_iff_iff]
  unfold movesAt
  simp only [Bool.and_eq_true, decide_eq_true_eq]
  constructor
  · rintro ⟨_, h2⟩
    exact List.mem_of_getElem? h2
  · intro hm
    have hm2 := hm
    rw [h.map] at hm
    unfold placesOf at hm
    simp only [List.mem_map, List.mem_range] at hm
    obtain ⟨i, hi, he⟩ := hm
    cases e : newestAt (usedOf bs) (i : Int) with
    | none => rw [e] at he; simp only [placeIn] at he; omega
    | some y =>
      rw [e] at he
      simp only [placeIn] at he
      obtain ⟨hmm, hlg⟩ := newestAt_mem e
      obtain ⟨_, _, _, _, _, b, k', z, hb, hp, hk', hy, hu⟩ := h.chip.usedRight hmm
      have e1 : v.toNat = b := by omega
      have e2 : k' = k := by omega
      subst e2
      have e3 : pageIn bs v k' = y.2 := by unfold pageIn; rw [e1]; exact mOf_page hb hp
      rw [e3]
      refine ⟨hu, ?_⟩
      rw [hlg, Int.toNat_natCast, h.map, placesOf_at _ _ hi, e]
      simp only [placeIn, he]
/-- The newest pages of the first k of block v, as they are written into another. -/
def movedTo (bs : List Bk) (L : List Int) (v into seq : Int) : Nat → List Opn
  | 0 => []
  | k + 1 => movedTo bs L v into seq k ++ if movesAt bs L v k then [⟨1, into, { pageIn bs v k with seq := seq + ((movedTo bs L v into seq k).length : Int) }⟩] else []
theorem movedTo_length (bs : List Bk) (L : List Int) (v into seq : Int) (k : Nat) : (movedTo bs L v into seq k).length ≤ k := by
  induction k with
  | zero => simp [movedTo]
  | succ k ih =>
    simp only [movedTo, List.length_append]
    split
    · simp; omega
    · simp; omega
/-- A block is emptied: its newest pages are written into another, and it is erased. -/
def moveOps (bs : List Bk) (L : List Int) (v into seq : Int) : List Opn := movedTo bs L v into seq 4 ++ [⟨2, v, zeroPg⟩]
theorem moveOps_length (bs : List Bk) (L : List Int) (v into seq : Int) : (moveOps bs L v into seq).length = (movedTo bs L v into seq 4).length + 1 := by simp [moveOps]
def fullAt (bs : List Bk) (o : Int) : Bool := ((bs[o.toNat]?).map fullB).getD false
theorem fullAt_of {bs : List Bk} {o : Int} {x : Bk} (hx : bs[o.toNat]? = some x) : fullAt bs o = fullB x := by simp [fullAt, hx]
/-- The ops of a write of a right member. -/
def writeOps (bs : List Bk) (L : List Int) (seq o log : Int) (data : ByteArray) : List Opn :=
  if fullAt bs o = true then
    if freshOf bs (freshOf bs (-1)) < 0 then moveOps bs L (vicOf bs L (freshOf bs (-1))) (freshOf bs (-1)) seq ++ [⟨1, freshOf bs (-1), ⟨true, log, seq + ((movedTo bs L (vicOf bs L (freshOf bs (-1))) (freshOf bs (-1)) seq 4).length : Int), data⟩⟩]
    else [⟨1, freshOf bs (-1), ⟨true, log, seq, data⟩⟩]
  else [⟨1, o, ⟨true, log, seq, data⟩⟩]
theorem writeOps_length (bs : List Bk) (L : List Int) (seq o log : Int) (data : ByteArray) : 1 ≤ (writeOps bs L seq o log data).length ∧ (writeOps bs L seq o log data).length ≤ 6 := by
  have h := movedTo_length bs L (vicOf bs L (freshOf bs (-1))) (freshOf bs (-1)) seq 4
  unfold writeOps moveOps
  split
  · split <;> simp <;> omega
  · simp
/-- Is there a block that is worn out? -/
def wornTo (bs : List Bk) (k : Nat) : Prop := ∃ i x, i < k ∧ bs[i]? = some x ∧ x.wear = 1000000000
def worn (bs : List Bk) : Prop := wornTo bs bs.length
theorem wornTo_succ {bs : List Bk} {k : Nat} {x : Bk} (hx : bs[k]? = some x) : wornTo bs (k + 1) ↔ wornTo bs k ∨ x.wear = 1000000000 := by
  constructor
  · rintro ⟨i, y, hi, hy, hw⟩
    by_cases e : i = k
    · subst e; rw [hx] at hy; cases hy; exact .inr hw
    · exact .inl ⟨i, y, by omega, hy, hw⟩
  · rintro (⟨i, y, hi, hy, hw⟩ | hw)
    · exact ⟨i, y, by omega, hy, hw⟩
    · exact ⟨k, x, by omega, hx, hw⟩
def formOk (bs : List Bk) (log : Int) (data : ByteArray) : Prop := 0 ≤ log ∧ log < (roomOf bs : Int) ∧ data.size = 4
def roomy (bs : List Bk) (seq : Int) : Prop := ¬ worn bs ∧ seq ≤ 999999990
/-- What OpsOf answers. -/
def OpsOfIs (bs : List Bk) (L : List Int) (seq o log : Int) (data : ByteArray) (xs : List Opn) (r : Bool) : Prop :=
  (r = true ∧ (FtlOk bs L seq o ∧ formOk bs log data ∧ roomy bs seq) ∧ xs = writeOps bs L seq o log data) ∨ (r = false ∧ xs = [] ∧ ¬ (FtlOk bs L seq o ∧ formOk bs log data ∧ roomy bs seq))
theorem OpsOfIs.one {bs : List Bk} {L : List Int} {seq o log : Int} {data : ByteArray} {x1 x2 : List Opn} {r1 r2 : Bool} (h : OpsOfIs bs L seq o log data x1 r1) (k : OpsOfIs bs L seq o log data x2 r2) : x1 = x2 ∧ r1 = r2 := by
  rcases h with ⟨rfl, h1, rfl⟩ | ⟨rfl, rfl, h1⟩
  · rcases k with ⟨rfl, _, rfl⟩ | ⟨_, _, k1⟩
    · exact ⟨rfl, rfl⟩
    · exact absurd h1 k1
  · rcases k with ⟨_, k1, _⟩ | ⟨rfl, rfl, _⟩
    · exact absurd k1 h1
    · exact ⟨rfl, rfl⟩
theorem OpsOfIs.length {bs : List Bk} {L : List Int} {seq o log : Int} {data : ByteArray} {xs : List Opn} {r : Bool} (h : OpsOfIs bs L seq o log data xs r) : xs.length ≤ 6 := by
  rcases h with ⟨_, _, rfl⟩ | ⟨_, rfl, _⟩
  · exact (writeOps_length ..).2
  · simp
end Go.Proofs.Ytalgkmellbamgaa
