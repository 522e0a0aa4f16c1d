/- 4 texts in one. -/
import Derived.Test.YtimencianaclmaaG13
import Derived.Test.YtimencianaclmaaG06
import Derived.Test.YtimencianaclmaaG11
import Derived.WalkKit
import Derived.Outline
import Derived.Test.YtimencianaclmaaG05

/- The ops of a write, as plain lists say them. No program is named here. -/
namespace Go.Proofs.Ytimencianaclmaa
open Go.RowKit
set_option linter.unusedVariables false
set_option linter.unusedSimpArgs false

/-- Is the free block f to be taken rather than best? -/
def fresher (bs : List Bk) (but best f : Int) : Bool := decide (f ≠ but) && (decide (best < 0) || decide (wearAt bs f < wearAt bs best))
def freshStep (bs : List Bk) (but best f : Int) : Int := if fresher bs but best f = true then f else best
def freshIn (bs : List Bk) (but : Int) (L : List Int) : Int := L.foldl (freshStep bs but) (-1)
/-- The free block, but one, that is worn the least. -/
def freshOf (bs : List Bk) (but : Int) : Int := freshIn bs but (freeTo bs bs.length)
theorem freshIn_take {bs : List Bk} {but : Int} {L : List Int} {k : Nat} {x : Int} (hx : L[k]? = some x) : freshIn bs but (L.take (k + 1)) = freshStep bs but (freshIn bs but (L.take k)) x := by
  rw [take_succ_of hx]; simp [freshIn]
theorem freshStep_yes {bs : List Bk} {but best f : Int} (h : fresher bs but best f = true) : freshStep bs but best f = f := by simp [freshStep, h]
theorem freshStep_no {bs : List Bk} {but best f : Int} (h : fresher bs but best f = false) : freshStep bs but best f = best := by simp [freshStep, h]
theorem mem_freeTo {bs : List Bk} {k : Nat} {x : Int} (h : x ∈ freeTo bs k) : ∃ i : Nat, i < k ∧ x = (i : Int) ∧ begun bs i = false := by
  unfold freeTo at h
  simp only [List.mem_map, List.mem_filter, List.mem_range] at h
  obtain ⟨i, ⟨hi, hb⟩, rfl⟩ := h
  exact ⟨i, hi, rfl, by simpa using hb⟩
theorem freeTo_mem {bs : List Bk} {k i : Nat} (hi : i < k) (hb : begun bs i = false) : (i : Int) ∈ freeTo bs k := by
  unfold freeTo
  simp only [List.mem_map, List.mem_filter, List.mem_range]
  exact ⟨i, ⟨hi, by simpa using hb⟩, rfl⟩
theorem freeTo_nodup (bs : List Bk) (k : Nat) : (freeTo bs k).Nodup := by
  unfold freeTo
  refine List.Pairwise.map _ (fun a b h => ?_) (List.Pairwise.filter _ List.nodup_range)
  intro e
  exact h (by omega)
theorem freshIn_some (bs : List Bk) (but : Int) (L : List Int) : ∀ b, (L.foldl (freshStep bs but) b = b) ∨ (L.foldl (freshStep bs but) b ∈ L ∧ L.foldl (freshStep bs but) b ≠ but) := by
  induction L with
  | nil => intro b; exact .inl rfl
  | cons x L ih =>
    intro b
    simp only [List.foldl_cons]
    rcases ih (freshStep bs but b x) with h | ⟨h1, h2⟩
    · rw [h]
      by_cases hf : fresher bs but b x = true
      · rw [freshStep_yes hf]
        refine .inr ⟨by simp, ?_⟩
        unfold fresher at hf
        simp at hf
        exact hf.1
      · rw [freshStep_no (by simpa using hf)]; exact .inl rfl
    · exact .inr ⟨by simp [h1], h2⟩
theorem freshIn_neg {bs : List Bk} {but : Int} {L : List Int} (h0 : ∀ x ∈ L, 0 ≤ x) : (freshIn bs but L < 0 ↔ ∀ x ∈ L, x = but) := by
  suffices H : ∀ (L : List Int) (b : Int), (∀ x ∈ L, 0 ≤ x) → (L.foldl (freshStep bs but) b < 0 ↔ b < 0 ∧ ∀ x ∈ L, x = but) by
    have := H L (-1) h0
    unfold freshIn
    rw [this]
    simp
  intro L
  induction L with
  | nil => intro b _; simp
  | cons x L ih =>
    intro b h0
    simp only [List.foldl_cons]
    rw [ih _ (fun y hy => h0 y (by simp [hy]))]
    have hx := h0 x (by simp)
    by_cases hf : fresher bs but b x = true
    · rw [freshStep_yes hf]
      constructor
      · rintro ⟨h, _⟩; omega
      · rintro ⟨_, h⟩
        unfold fresher at hf
        simp at hf
        exact absurd (h x (by simp)) hf.1
    · rw [freshStep_no (by simpa using hf)]
      constructor
      · rintro ⟨h1, h2⟩
        refine ⟨h1, fun y hy => ?_⟩
        rcases List.mem_cons.1 hy with rfl | hy
        · by_cases e : y = but
          · exact e
          · exfalso; exact hf (by unfold fresher; simp [e, h1])
        · exact h2 y hy
      · rintro ⟨h1, h2⟩
        exact ⟨h1, fun y hy => h2 y (by simp [hy])⟩

/-- The least worn of a list that has one at least, the first of those alike. -/
def leastStep (bs : List Bk) (m y : Int) : Int := if wearAt bs y < wearAt bs m then y else m
def leastIn (bs : List Bk) : List Int → Int
  | [] => 0
  | x :: xs => xs.foldl (leastStep bs) x
theorem leastIn_fresh {bs : List Bk} {L : List Int} (h0 : ∀ x ∈ L, 0 ≤ x) (hL : L ≠ []) : leastIn bs L = freshIn bs (-1) L := by
  cases L with
  | nil => exact absurd rfl hL
  | cons x xs =>
    unfold leastIn freshIn
    simp only [List.foldl_cons]
    have e : freshStep bs (-1) (-1) x = x := freshStep_yes (by have := h0 x (by simp); unfold fresher; simp; omega)
    rw [e]
    have hx := h0 x (by simp)
    have hxs : ∀ y ∈ xs, 0 ≤ y := fun y hy => h0 y (by simp [hy])
    clear e h0 hL
    induction xs generalizing x with
    | nil => rfl
    | cons y ys ih =>
      simp only [List.foldl_cons]
      have hy := hxs y (by simp)
      have hn : ¬ x < 0 := by omega
      have hn1 : ¬ y = -1 := by omega
      have e2 : freshStep bs (-1) x y = leastStep bs x y := by
        unfold freshStep leastStep fresher
        simp [hn, hn1]
      rw [e2]
      refine ih _ ?_ (fun z hz => hxs z (by simp [hz]))
      unfold leastStep
      split <;> omega
theorem leastIn_take {bs : List Bk} {L : List Int} {k : Nat} {x : Int} (hk : 0 < k) (hx : L[k]? = some x) : leastIn bs (L.take (k + 1)) = leastStep bs (leastIn bs (L.take k)) x := by
  rw [take_succ_of hx]
  cases L with
  | nil => simp at hx
  | cons y ys =>
    obtain ⟨j, rfl⟩ : ∃ j, k = j + 1 := ⟨k - 1, by omega⟩
    simp [leastIn]
theorem leastIn_one {bs : List Bk} {L : List Int} {x : Int} (hx : L[0]? = some x) : leastIn bs (L.take 1) = x := by
  cases L with
  | nil => simp at hx
  | cons y ys => simp at hx; simp [leastIn, hx]
theorem leastIn_mem {bs : List Bk} {L : List Int} (hL : L ≠ []) : leastIn bs L ∈ L := by
  cases L with
  | nil => exact absurd rfl hL
  | cons x xs =>
    clear hL
    show xs.foldl (leastStep bs) x ∈ x :: xs
    induction xs generalizing x with
    | nil => simp
    | cons y ys ih =>
      simp only [List.foldl_cons]
      have := ih (leastStep bs x y)
      rcases List.mem_cons.1 this with h | h
      · rw [h]; unfold leastStep; split <;> simp
      · exact List.mem_cons_of_mem _ (List.mem_cons_of_mem _ h)
/-- Is there one free block alone? -/
theorem fresh_alone {bs : List Bk} (hL : freeTo bs bs.length ≠ []) : (freshOf bs (freshOf bs (-1)) < 0 ↔ (freeTo bs bs.length).length = 1) := by
  have h0 : ∀ x ∈ freeTo bs bs.length, 0 ≤ x := fun x hx => by obtain ⟨i, _, rfl, _⟩ := mem_freeTo hx; omega
  have hm : freshOf bs (-1) ∈ freeTo bs bs.length := by
    unfold freshOf
    rw [← leastIn_fresh h0 hL]
    exact leastIn_mem hL
  have hd := freeTo_nodup bs bs.length
  unfold freshOf at hm ⊢
  rw [freshIn_neg h0]
  generalize freshIn bs (-1) (freeTo bs bs.length) = f at hm ⊢
  generalize freeTo bs bs.length = L at hL h0 hm hd ⊢
  constructor
  · intro h
    match L, hL, hd, h with
    | [x], _, _, _ => rfl
    | x :: y :: t, _, hd, h =>
      exfalso
      have h1 := h x (by simp)
      have h2 := h y (by simp)
      simp at hd
      exact hd.1.1 (h1.trans h2.symm)
  · intro h
    match L, h, hm with
    | [x], _, hm =>
      intro y hy
      simp at hy hm
      exact hy.trans hm.symm

theorem begun_pu {bs : List Bk} {i : Nat} {x : Bk} (hx : bs[i]? = some x) : begun bs i = pu x 0 := by simp [begun, hx]
theorem Settled.some {bs : List Bk} {o : Int} (h : Settled bs o) : freeTo bs bs.length ≠ [] := by
  obtain ⟨i, x, hi, hx, _, hf⟩ := h.2
  intro e
  have := freeTo_mem hi (show begun bs i = false by rw [begun_pu hx]; unfold freeB at hf; simpa using hf)
  rw [e] at this
  simp at this
theorem FtlOk.fresh {bs : List Bk} {L : List Int} {seq o : Int} (h : FtlOk bs L seq o) : ∃ (i : Nat) (x : Bk), freshOf bs (-1) = (i : Int) ∧ bs[i]? = .some x ∧ freeB x = true ∧ i < bs.length ∧ leastIn bs (freeTo bs bs.length) = (i : Int) := by
  have hL := h.settled.some
  have h0 : ∀ x ∈ freeTo bs bs.length, 0 ≤ x := fun x hx => by obtain ⟨i, _, rfl, _⟩ := mem_freeTo hx; omega
  have hm := leastIn_mem (bs := bs) hL
  have e := leastIn_fresh (bs := bs) h0 hL
  obtain ⟨i, hi, hx, hb⟩ := mem_freeTo hm
  obtain ⟨y, hy⟩ := getElem?_ex (l := bs) (k := i) hi
  refine ⟨i, y, e.symm.trans hx, hy, ?_, hi, hx⟩
  rw [begun_pu hy] at hb
  unfold freeB
  simp [hb]

theorem vicTo_full {bs : List Bk} {L : List Int} {o : Int} {i : Nat} {x : Bk} (hx : bs[i]? = some x) (hn : (i : Int) ≠ o) (hf : fullB x = true) : ∀ k, i < k → 0 ≤ vicTo bs L o k := by
  intro k
  induction k with
  | zero => intro h; omega
  | succ k ih =>
    intro hk
    by_cases e : i = k
    · subst e
      by_cases hb : beats bs L (vicTo bs L o i) (i : Int) x.wear = true
      · rw [vicTo_take hx hn hf hb]; omega
      · rw [vicTo_keep hx hn hf (by simpa using hb)]
        have h1 : ¬ vicTo bs L o i < 0 := fun h => hb (beats_neg h)
        omega
    · have h0 := ih (by omega)
      rw [vicTo_succ]
      unfold vicStep
      split
      · exact h0
      · split
        · exact h0
        · split
          · omega
          · exact h0
theorem fullB_pu {x : Bk} (h : fullB x = true) : pu x 0 = true := by unfold fullB at h; simp at h; exact h.1.1.1
theorem FtlOk.victim {bs : List Bk} {L : List Int} {seq o : Int} (h : FtlOk bs L seq o) {x : Bk} (hx : bs[o.toNat]? = some x) (hf : fullB x = true) : 0 ≤ vicOf bs L (freshOf bs (-1)) ∧ vicOf bs L (freshOf bs (-1)) < (bs.length : Int) := by
  refine ⟨?_, (vicTo_bounds bs L _ bs.length).2⟩
  obtain ⟨i, y, e, hy, hfy, _⟩ := h.fresh
  have ho := h.opn
  refine vicTo_full (i := o.toNat) hx ?_ hf _ (by omega)
  rw [e]
  intro e2
  have e3 : o.toNat = i := by omega
  rw [e3, hy] at hx
  cases hx
  have := fullB_pu hf
  unfold freeB at hfy
  rw [this] at hfy
  cases hfy

/-- Page k of block v. -/
def pageIn (bs : List Bk) (v : Int) (k : Nat) : Pg := (mOf bs).page v.toNat k
theorem pageIn_of {bs : List Bk} {v : Nat} {x : Bk} (hx : bs[v]? = some x) {k : Nat} {p : Pg} (hp : x.pages[k]? = some p) : pageIn bs (v : Int) k = p := by
  unfold pageIn
  rw [Int.toNat_natCast]
  exact mOf_page hx hp
/-- Is page k of block v the newest of its log? -/
def movesAt (bs : List Bk) (L : List Int) (v : Int) (k : Nat) : Bool := (pageIn bs v k).used && decide (L[(pageIn bs v k).log.toNat]? = some (v * 4 + (k : Int)))
theorem FtlOk.moves {bs : List Bk} {L : List Int} {seq o : Int} (h : FtlOk bs L seq o) {v : Int} (hv : 0 ≤ v) {k : Nat} (hk : k < 4) : movesAt bs L v k = decide ((v * 4 + (k : Int)) ∈ L) := by
  rw [Bool.eq_iff_iff]
  unfold movesAt
  simp only [Bool.and_eq_true, decide_eq_true_eq]
  constructor
  · rintro ⟨_, h2⟩
    exact List.mem_of_getElem? h2
  · intro hm
    have hm2 := hm
    rw [h.map] at hm
    unfold placesOf at hm
    simp only [List.mem_map, List.mem_range] at hm
    obtain ⟨i, hi, he⟩ := hm
    cases e : newestAt (usedOf bs) (i : Int) with
    | none => rw [e] at he; simp only [placeIn] at he; omega
    | some y =>
      rw [e] at he
      simp only [placeIn] at he
      obtain ⟨hmm, hlg⟩ := newestAt_mem e
      obtain ⟨_, _, _, _, _, b, k', z, hb, hp, hk', hy, hu⟩ := h.chip.usedRight hmm
      have e1 : v.toNat = b := by omega
      have e2 : k' = k := by omega
      subst e2
      have e3 : pageIn bs v k' = y.2 := by unfold pageIn; rw [e1]; exact mOf_page hb hp
      rw [e3]
      refine ⟨hu, ?_⟩
      rw [hlg, Int.toNat_natCast, h.map, placesOf_at _ _ hi, e]
      simp only [placeIn, he]
/-- The newest pages of the first k of block v, as they are written into another. -/
def movedTo (bs : List Bk) (L : List Int) (v into seq : Int) : Nat → List Opn
  | 0 => []
  | k + 1 => movedTo bs L v into seq k ++ if movesAt bs L v k then [⟨1, into, { pageIn bs v k with seq := seq + ((movedTo bs L v into seq k).length : Int) }⟩] else []
theorem movedTo_length (bs : List Bk) (L : List Int) (v into seq : Int) (k : Nat) : (movedTo bs L v into seq k).length ≤ k := by
  induction k with
  | zero => simp [movedTo]
  | succ k ih =>
    simp only [movedTo, List.length_append]
    split
    · simp; omega
    · simp; omega
/-- A block is emptied: its newest pages are written into another, and it is erased. -/
def moveOps (bs : List Bk) (L : List Int) (v into seq : Int) : List Opn := movedTo bs L v into seq 4 ++ [⟨2, v, zeroPg⟩]
theorem moveOps_length (bs : List Bk) (L : List Int) (v into seq : Int) : (moveOps bs L v into seq).length = (movedTo bs L v into seq 4).length + 1 := by simp [moveOps]
def fullAt (bs : List Bk) (o : Int) : Bool := ((bs[o.toNat]?).map fullB).getD false
theorem fullAt_of {bs : List Bk} {o : Int} {x : Bk} (hx : bs[o.toNat]? = some x) : fullAt bs o = fullB x := by simp [fullAt, hx]
/-- The ops of a write of a right member. -/
def writeOps (bs : List Bk) (L : List Int) (seq o log : Int) (data : ByteArray) : List Opn :=
  if fullAt bs o = true then
    if freshOf bs (freshOf bs (-1)) < 0 then moveOps bs L (vicOf bs L (freshOf bs (-1))) (freshOf bs (-1)) seq ++ [⟨1, freshOf bs (-1), ⟨true, log, seq + ((movedTo bs L (vicOf bs L (freshOf bs (-1))) (freshOf bs (-1)) seq 4).length : Int), data⟩⟩]
    else [⟨1, freshOf bs (-1), ⟨true, log, seq, data⟩⟩]
  else [⟨1, o, ⟨true, log, seq, data⟩⟩]
theorem writeOps_length (bs : List Bk) (L : List Int) (seq o log : Int) (data : ByteArray) : 1 ≤ (writeOps bs L seq o log data).length ∧ (writeOps bs L seq o log data).length ≤ 6 := by
  have h := movedTo_length bs L (vicOf bs L (freshOf bs (-1))) (freshOf bs (-1)) seq 4
  unfold writeOps moveOps
  split
  · split <;> simp <;> omega
  · simp
/-- Is there a block that is worn out? -/
def wornTo (bs : List Bk) (k : Nat) : Prop := ∃ i x, i < k ∧ bs[i]? = some x ∧ x.wear = 1000000000
def worn (bs : List Bk) : Prop := wornTo bs bs.length
theorem wornTo_succ {bs : List Bk} {k : Nat} {x : Bk} (hx : bs[k]? = some x) : wornTo bs (k + 1) ↔ wornTo bs k ∨ x.wear = 1000000000 := by
  constructor
  · rintro ⟨i, y, hi, hy, hw⟩
    by_cases e : i = k
    · subst e; rw [hx] at hy; cases hy; exact .inr hw
    · exact .inl ⟨i, y, by omega, hy, hw⟩
  · rintro (⟨i, y, hi, hy, hw⟩ | hw)
    · exact ⟨i, y, by omega, hy, hw⟩
    · exact ⟨k, x, by omega, hx, hw⟩
def formOk (bs : List Bk) (log : Int) (data : ByteArray) : Prop := 0 ≤ log ∧ log < (roomOf bs : Int) ∧ data.size = 4
def roomy (bs : List Bk) (seq : Int) : Prop := ¬ worn bs ∧ seq ≤ 999999990
/-- What OpsOf answers. -/
def OpsOfIs (bs : List Bk) (L : List Int) (seq o log : Int) (data : ByteArray) (xs : List Opn) (r : Bool) : Prop :=
  (r = true ∧ (FtlOk bs L seq o ∧ formOk bs log data ∧ roomy bs seq) ∧ xs = writeOps bs L seq o log data) ∨ (r = false ∧ xs = [] ∧ ¬ (FtlOk bs L seq o ∧ formOk bs log data ∧ roomy bs seq))
theorem OpsOfIs.one {bs : List Bk} {L : List Int} {seq o log : Int} {data : ByteArray} {x1 x2 : List Opn} {r1 r2 : Bool} (h : OpsOfIs bs L seq o log data x1 r1) (k : OpsOfIs bs L seq o log data x2 r2) : x1 = x2 ∧ r1 = r2 := by
  rcases h with ⟨rfl, h1, rfl⟩ | ⟨rfl, rfl, h1⟩
  · rcases k with ⟨rfl, _, rfl⟩ | ⟨_, _, k1⟩
    · exact ⟨rfl, rfl⟩
    · exact absurd h1 k1
  · rcases k with ⟨_, k1, _⟩ | ⟨rfl, rfl, _⟩
    · exact absurd k1 h1
    · exact ⟨rfl, rfl⟩
theorem OpsOfIs.length {bs : List Bk} {L : List Int} {seq o log : Int} {data : ByteArray} {xs : List Opn} {r : Bool} (h : OpsOfIs bs L seq o log data xs r) : xs.length ≤ 6 := by
  rcases h with ⟨_, _, rfl⟩ | ⟨_, rfl, _⟩
  · exact (writeOps_length ..).2
  · simp
end Go.Proofs.Ytimencianaclmaa

/- The program's erased cells. -/
namespace Go.Proofs.Ytimencianaclmaa
open Go.RowKit
set_option linter.unusedVariables false
set_option linter.unusedSimpArgs false

/-- One block's cells are written anew. -/
theorem ccA_setBlock (m : CC) (b : Nat) (x : Int) (f : Nat → Pg) (hb : b < 12) :
    ((ccA m).toList.take (1 + b * 17) ++ (bcA x f).toList ++ (ccA m).toList.drop (1 + b * 17 + 17)).toArray = ccA ((m.setWear b x).setPages b f) := by
  have hl : (ccA m).toList.length = 205 := by rw [Array.length_toList, ccA_size]
  have hp : (bcA x f).toList.length = 17 := by rw [Array.length_toList, bcA_size]
  have ht : ((ccA m).toList.take (1 + b * 17)).length = 1 + b * 17 := by rw [List.length_take, hl]; omega
  apply Array.ext_getElem?
  intro i
  rw [List.getElem?_toArray]
  have hF : ∀ i, i < 205 → ¬ (1 + b * 17 ≤ i ∧ i < 1 + b * 17 + 17) → ccF ((m.setWear b x).setPages b f) i = ccF m i := by
    intro i hi hn
    unfold ccF CC.setPages CC.setWear
    by_cases h0 : i = 0
    · simp [h0]
    · simp only [if_neg h0]
      by_cases h1 : (i - 1) % 17 = 0
      · simp only [if_pos h1]
        rw [if_neg (by omega)]
      · simp only [if_neg h1]
        rw [if_neg (by omega)]
  by_cases hi : i < 205
  · rw [ccA_get _ hi]
    by_cases h1 : i < 1 + b * 17
    · rw [List.getElem?_append_left (by rw [List.length_append, ht, hp]; omega), List.getElem?_append_left (by rw [ht]; exact h1), List.getElem?_take_of_lt h1, Array.getElem?_toList, ccA_get _ hi, hF i hi (by omega)]
    · by_cases h2 : i < 1 + b * 17 + 17
      · rw [List.getElem?_append_left (by rw [List.length_append, ht, hp]; omega), List.getElem?_append_right (by rw [ht]; omega), ht, Array.getElem?_toList]
        have := ccA_block ((m.setWear b x).setPages b f) (b := b) (i := i - (1 + b * 17)) hb (by omega)
        rw [show 1 + b * 17 + (i - (1 + b * 17)) = i by omega, ccA_get _ hi] at this
        rw [this]
        simp [CC.setPages, CC.setWear]
      · rw [List.getElem?_append_right (by rw [List.length_append, ht, hp]; omega), List.length_append, ht, hp, List.getElem?_drop, show 1 + b * 17 + 17 + (i - (1 + b * 17 + 17)) = i by omega, Array.getElem?_toList, ccA_get _ hi, hF i hi (by omega)]
  · rw [List.getElem?_eq_none (by simp only [List.length_append, ht, hp, List.length_drop, hl]; omega), Array.getElem?_eq_none (by simp [ccA_size]; omega)]

theorem bcF_one (x : Int) (f : Nat → Pg) (i : Nat) : (bcF x f i).oneCell' = true := by
  unfold bcF
  split
  · rfl
  · exact pgV_one _ _
theorem bcA_one (x : Int) (f : Nat → Pg) : ∀ v ∈ (bcA x f).toList, v.oneCell' = true := by
  intro v hv
  have hv' : v ∈ bcA x f := by simpa using hv
  obtain ⟨i, hi, rfl⟩ := Array.mem_iff_getElem.1 hv'
  simp only [bcA, Array.getElem_ofFn]
  exact bcF_one _ _ _

theorem store_block (P : Program) (W : World) (g : Nat) (t : TypeId) (m : CC) (b : Nat) (x : Int) (f : Nat → Pg) (hb : b < 12) (hg : W.heap[g]? = some (.cells (ccA m) t (0, 0))) :
    (storeCells ⟨g, 1 + b * 17, none⟩ (bcA x f).toList).run P W = .ok () (W.setRow g (ccA ((m.setWear b x).setPages b f))) := by
  have hst := run_storeCells_at P g (1 + b * 17) t (bcA x f).toList 0 (ccA m) W hg (by rw [Array.length_toList, bcA_size, ccA_size]; omega) (bcA_one _ _)
  rw [Nat.add_zero, Array.length_toList, bcA_size, ccA_setBlock m b x f hb] at hst
  exact hst

set_option maxRecDepth 100000 in
set_option maxHeartbeats 1000000 in
theorem erased_out (m : CC) (n : Nat) (hm : m.count = n) (hn : n ≤ 12) (blk : Int) (h : ¬ (0 ≤ blk ∧ blk ≤ (n : Int) - 1)) (w : World) :
    Calls Try.prog 80 #[.agg (ccA m), .int .i64 blk] w fun e w' => e = .returned (.tuple #[.agg (ccA m), .int .i64 2]) ∧ Below w.heap.size w w' := by
  have hA0 := ccA_count m
  rw [hm] at hA0
  have hAs := ccA_size m
  have h1 := ccA_one m
  have HSZ := hide (sizeCC m)
  generalize ccA m = A at *
  have HA0 := hide hA0
  have H1 := hide h1
  clear hA0 h1
  go_enter Try.func80, Try.ntmps80
  go_wp2_with (refine wpList_load_row rfl 109 _ rfl w.heap.size rfl 109 A (0, 0) _ (by rw [Below.heap_alloc _ _ _ (by simp)]; exact Go.Deep.blk_alloc_new _ _) Try.underlying109 rfl (unhide HSZ) ?_)
  refine (has_any A (n : Int) (unhide HA0) (by omega) (by omega) blk _).mono ?_
  rintro e w2 ⟨rfl, hB2⟩
  have hd : decide ((0 : Int) ≤ blk ∧ blk ≤ (n : Int) - 1) = false := by simpa using h
  rw [hd]
  have hs2 := hB2.size
  simp at hs2
  have hb1 : w2.heap[w.heap.size]? = some (.cells A 109 (0, 0)) := by
    rw [hB2.block _ (by simp; omega), Below.heap_alloc _ _ _ (by simp)]
    exact Go.Deep.blk_alloc_new _ _
  have hb2 : w2.heap[w.heap.size + 1]? = some (.cells Try.zeroCells109 109 (0, 0)) := by
    rw [hB2.block _ (by simp)]
    exact heap_alloc2_new _ _ _
  have hst := store_row Try.prog w2 (w.heap.size + 1) 109 Try.zeroCells109 A hb2 (by rw [zeroCC_size, hAs]) (unhide H1)
  have hld := run_loadVar_row (P := Try.prog) (w2.setRow (w.heap.size + 1) A) (w.heap.size + 1) 109 109 A (0, 0) _ (setRow_heap _ _ _ _ _ _ hb2) Try.underlying109 rfl (unhide HSZ)
  have hW2 : Below w.heap.size w w2 := (((Below.refl _ w).alloc (Nat.le_refl _) _).alloc (by simp) _).trans (hB2.mono (by simp; omega))
  have hW3 := Below.setRow hW2 (g := w.heap.size + 1) (by omega) A
  generalize w2.setRow (w.heap.size + 1) A = W3 at hst hld hW3
  have HL := hide hld
  have HB1 := hide hb1
  clear hld hb1 hb2 hB2 hd h hW2
  go_wp2_with (refine wpList_load_row rfl 109 _ rfl w.heap.size rfl 109 A (0, 0) _ (unhide HB1) Try.underlying109 rfl (unhide HSZ) ?_)
  exact bodyPost_ret (results_cell_slot 4 109 5 Try.results80 _ _ _ _ _ rfl (unhide HL) rfl) rfl ⟨rfl, hW3⟩

theorem bcA_zero (x : Int) : bcA x (fun _ => zeroPg) = #[.int .i64 x, .bool false, .int .i64 0, .int .i64 0, .string ByteArray.empty, .bool false, .int .i64 0, .int .i64 0, .string ByteArray.empty, .bool false, .int .i64 0, .int .i64 0, .string ByteArray.empty, .bool false, .int .i64 0, .int .i64 0, .string ByteArray.empty] := by
  apply Array.ext
  · rw [bcA_size]; rfl
  · intro i h1 h2
    have h3 : i < 17 := by rw [bcA_size] at h1; exact h1
    have h4 : i = 0 ∨ i = 1 ∨ i = 2 ∨ i = 3 ∨ i = 4 ∨ i = 5 ∨ i = 6 ∨ i = 7 ∨ i = 8 ∨ i = 9 ∨ i = 10 ∨ i = 11 ∨ i = 12 ∨ i = 13 ∨ i = 14 ∨ i = 15 ∨ i = 16 := by omega
    rcases h4 with rfl | rfl | rfl | rfl | rfl | rfl | rfl | rfl | rfl | rfl | rfl | rfl | rfl | rfl | rfl | rfl | rfl <;> simp [bcA, bcF, pgV, zeroPg]

theorem wpList_store_agg {P : Program} {ops : Array Oper} {rest : List Oper} {o : Oper} {a : Act} {w : World} {Q : Exit → Act → World → Prop} (hgd : o.guard = none) (ty : TypeId) (x y : Operand) (ho : o.op = .store ty x y)
    (g off : Nat) (B : Array Value) (hx : a.eval x = .pointer (some ⟨g, off, none⟩)) (hy : a.eval y = .agg B) (W' : World) (hr : (storeCells ⟨g, off, none⟩ B.toList).run P w = .ok () W') (hi : (P.info? ty).map (·.size) = some B.size)
    (h : wpList P ops Q rest (a.put o.dst undef) W') : wpList P ops Q (o :: rest) a w := by
  have hsv : (storeVar ty ⟨g, off, none⟩ (.agg B)).run P w = .ok () W' := by
    cases hq : P.info? ty with
    | none => simp [hq] at hi
    | some i =>
      have hs : i.size = B.size := by simpa [hq] using hi
      simp [storeVar, Value.cells, Sem.run_bind, sizeOf, typeInfo, hq, hs, hr]
  refine wpList_plain hgd fun _ hK => ?_
  unfold Oper.wp execOp
  simp only [ho, hx, hy, Instr.storeAt, Instr.sureAddr, Sem.run_bind, Sem.run_pure, Result.andThen_ok, hsv]
  exact hK _ _ h

set_option maxRecDepth 100000 in
set_option maxHeartbeats 1000000 in
theorem erased_in (m : CC) (n : Nat) (hm : m.count = n) (hn : n ≤ 12) (k : Nat) (hk : k < n) (hw0 : 0 ≤ m.wear k) (hw1 : m.wear k ≤ 1000000000) (w : World) :
    Calls Try.prog 80 #[.agg (ccA m), .int .i64 (k : Int)] w fun e w' =>
      ((m.wear k = 1000000000 ∧ e = .returned (.tuple #[.agg (ccA m), .int .i64 4])) ∨ (m.wear k ≠ 1000000000 ∧ e = .returned (.tuple #[.agg (ccA ((m.setWear k (m.wear k + 1)).setPages k (fun _ => zeroPg))), .int .i64 0]))) ∧ Below w.heap.size w w' := by
  have hA0 := ccA_count m
  rw [hm] at hA0
  have hAs := ccA_size m
  have h1 := ccA_one m
  have hAw := ccA_wear m (b := k) (by omega)
  have HSZ := hide (sizeCC m)
  have HSB := hide (fun P W g t x f hg => store_block P W g t m k x f (by omega) hg)
  obtain ⟨A, hA⟩ : ∃ A, A = ccA m := ⟨_, rfl⟩
  rw [← hA] at hA0 hAs h1 hAw HSZ HSB ⊢
  have HA0 := hide hA0
  have H1 := hide h1
  have HAW := hide hAw
  clear hA0 h1 hAw hA
  obtain ⟨x, hx⟩ : ∃ x, x = m.wear k := ⟨_, rfl⟩
  rw [← hx] at hw0 hw1 HAW ⊢
  have HX := hide hx
  clear hx
  go_enter Try.func80, Try.ntmps80
  go_wp2_with (refine wpList_load_row rfl 109 _ rfl w.heap.size rfl 109 A (0, 0) _ (by rw [Below.heap_alloc _ _ _ (by simp)]; exact Go.Deep.blk_alloc_new _ _) Try.underlying109 rfl (unhide HSZ) ?_)
  refine (has_any A (n : Int) (unhide HA0) (by omega) (by omega) (k : Int) _).mono ?_
  rintro e w2 ⟨rfl, hB2⟩
  have hd : decide ((0 : Int) ≤ (k : Int) ∧ (k : Int) ≤ (n : Int) - 1) = true := by simp; omega
  rw [hd]
  have hs2 := hB2.size
  simp at hs2
  have hb1 : w2.heap[w.heap.size]? = some (.cells A 109 (0, 0)) := by
    rw [hB2.block _ (by simp; omega), Below.heap_alloc _ _ _ (by simp)]
    exact Go.Deep.blk_alloc_new _ _
  have hb2 : w2.heap[w.heap.size + 1]? = some (.cells Try.zeroCells109 109 (0, 0)) := by
    rw [hB2.block _ (by simp)]
    exact heap_alloc2_new _ _ _
  have hcw : w2.cell? ⟨w.heap.size, 1 + k * 17, none⟩ = some (.int .i64 x) := (cell_of_row _ _ _ _ _ _ hb1).trans (unhide HAW)
  have hW2 : Below w.heap.size w w2 := (((Below.refl _ w).alloc (Nat.le_refl _) _).alloc (by simp) _).trans (hB2.mono (by simp; omega))
  have hki : (k : Int) < 12 := by omega
  clear hd hB2
  by_cases hx9 : x = 1000000000
  · have hst := store_row Try.prog w2 (w.heap.size + 1) 109 Try.zeroCells109 A hb2 (by rw [zeroCC_size, hAs]) (unhide H1)
    have hld := run_loadVar_row (P := Try.prog) (w2.setRow (w.heap.size + 1) A) (w.heap.size + 1) 109 109 A (0, 0) _ (setRow_heap _ _ _ _ _ _ hb2) Try.underlying109 rfl (unhide HSZ)
    have hW3 := Below.setRow hW2 (g := w.heap.size + 1) (by omega) A
    generalize w2.setRow (w.heap.size + 1) A = W3 at hst hld hW3
    have HL := hide hld
    have HB1 := hide hb1
    clear hld hb1 hb2
    go_wp2_with (refine wpList_load_row rfl 109 _ rfl w.heap.size rfl 109 A (0, 0) _ (unhide HB1) Try.underlying109 rfl (unhide HSZ) ?_)
    exact bodyPost_ret (results_cell_slot 4 109 5 Try.results80 _ _ _ _ _ rfl (unhide HL) rfl) rfl ⟨.inl ⟨hx9, rfl⟩, hW3⟩
  · have hne : (x == 1000000000) = false := by simpa using hx9
    have hsb := unhide HSB Try.prog w2 w.heap.size 109 (x + 1) (fun _ => zeroPg) hb1
    obtain ⟨m2, hm2⟩ : ∃ m2, m2 = (m.setWear k (x + 1)).setPages k (fun _ => zeroPg) := ⟨_, rfl⟩
    rw [← hm2, bcA_zero] at hsb
    have h21 := ccA_one m2
    have hs22 := ccA_size m2
    have HSZ2 := hide (sizeCC m2)
    obtain ⟨A2, hA2⟩ : ∃ A2, A2 = ccA m2 := ⟨_, rfl⟩
    rw [← hA2] at hsb h21 hs22 HSZ2
    have hr3 : (w2.setRow w.heap.size A2).heap[w.heap.size]? = some (.cells A2 109 (0, 0)) := setRow_heap _ _ _ _ _ _ hb1
    have hz3 : (w2.setRow w.heap.size A2).heap[w.heap.size + 1]? = some (.cells Try.zeroCells109 109 (0, 0)) := by rw [setRow_other _ _ _ _ (by omega)]; exact hb2
    have hW3 := Below.setRow hW2 (g := w.heap.size) (Nat.le_refl _) A2
    generalize w2.setRow w.heap.size A2 = W3 at hsb hr3 hz3 hW3
    have hst := store_row Try.prog W3 (w.heap.size + 1) 109 Try.zeroCells109 A2 hz3 (by rw [zeroCC_size, hs22]) h21
    have hld := run_loadVar_row (P := Try.prog) (W3.setRow (w.heap.size + 1) A2) (w.heap.size + 1) 109 109 A2 (0, 0) _ (setRow_heap _ _ _ _ _ _ hz3) Try.underlying109 rfl (unhide HSZ2)
    have hW4 := Below.setRow hW3 (g := w.heap.size + 1) (by omega) A2
    generalize W3.setRow (w.heap.size + 1) A2 = W4 at hst hld hW4
    have HL := hide hld
    have HR3 := hide hr3
    have HSB2 := hide hsb
    have HE : Hid (A2 = ccA ((m.setWear k (x + 1)).setPages k (fun _ => zeroPg))) := by rw [hA2, hm2]; rfl
    clear hb1 hb2 hz3 hr3 hld hsb h21 hA2 hm2 hW2 hW3
    go_wp2_with (first
      | (refine wpList_store_agg rfl 106 _ _ rfl w.heap.size (1 + k * 17) #[.int .i64 (x + 1), .bool false, .int .i64 0, .int .i64 0, .string ByteArray.empty, .bool false, .int .i64 0, .int .i64 0, .string ByteArray.empty, .bool false, .int .i64 0, .int .i64 0, .string ByteArray.empty, .bool false, .int .i64 0, .int .i64 0, .string ByteArray.empty] rfl rfl W3 (unhide HSB2) sizeBC ?_)
      | (refine wpList_load_row rfl 109 _ rfl w.heap.size rfl 109 A2 (0, 0) _ (unhide HR3) Try.underlying109 rfl (unhide HSZ2) ?_))
    exact bodyPost_ret (v := .tuple #[.agg A2, .int .i64 0]) (results_cell_slot 4 109 5 Try.results80 _ _ _ _ _ rfl (unhide HL) rfl) rfl ⟨.inr ⟨hx9, by rw [unhide HE]⟩, hW4⟩
end Go.Proofs.Ytimencianaclmaa

/- The program's Erased. -/
namespace Go.Proofs.Ytimencianaclmaa
open Go.RowKit
set_option linter.unusedVariables false
set_option linter.unusedSimpArgs false

def InB (bs : List Bk) (blk : Int) : Prop := 0 ≤ blk ∧ blk ≤ (bs.length : Int) - 1
/-- What Erased answers. -/
def ErasedIs (bs : List Bk) (blk : Int) (out : List Bk) (code : Int) : Prop :=
  (¬ ChipOk bs ∧ out = [] ∧ code = 1) ∨ (ChipOk bs ∧ ¬ InB bs blk ∧ out = bs ∧ code = 2) ∨
  (ChipOk bs ∧ InB bs blk ∧ ∃ b, bs[blk.toNat]? = some b ∧ ((b.wear = 1000000000 ∧ out = bs ∧ code = 4) ∨ (b.wear ≠ 1000000000 ∧ out = bs.set blk.toNat ⟨b.wear + 1, zeroBk.pages⟩ ∧ code = 0)))
theorem ErasedIs.one {bs : List Bk} {blk : Int} {o1 o2 : List Bk} {c1 c2 : Int} (h : ErasedIs bs blk o1 c1) (k : ErasedIs bs blk o2 c2) : o1 = o2 ∧ c1 = c2 := by
  rcases h with ⟨h1, rfl, rfl⟩ | ⟨h1, h2, rfl, rfl⟩ | ⟨h1, h2, b, hb, h3⟩
  · rcases k with ⟨k1, rfl, rfl⟩ | ⟨k1, _⟩ | ⟨k1, _⟩
    · exact ⟨rfl, rfl⟩
    · exact absurd k1 h1
    · exact absurd k1 h1
  · rcases k with ⟨k1, _⟩ | ⟨k1, k2, rfl, rfl⟩ | ⟨k1, k2, _⟩
    · exact absurd h1 k1
    · exact ⟨rfl, rfl⟩
    · exact absurd k2 h2
  · rcases k with ⟨k1, _⟩ | ⟨k1, k2, _⟩ | ⟨k1, k2, d, hd, k3⟩
    · exact absurd h1 k1
    · exact absurd h2 k2
    · rw [hb] at hd
      cases hd
      rcases h3 with ⟨e1, rfl, rfl⟩ | ⟨e1, rfl, rfl⟩
      · rcases k3 with ⟨f1, rfl, rfl⟩ | ⟨f1, _⟩
        · exact ⟨rfl, rfl⟩
        · exact absurd e1 f1
      · rcases k3 with ⟨f1, _⟩ | ⟨f1, rfl, rfl⟩
        · exact absurd f1 e1
        · exact ⟨rfl, rfl⟩

theorem ccBs_set (m : CC) (n k : Nat) (x : Int) (hk : k < n) : ccBs ((m.setWear k x).setPages k (fun _ => zeroPg)) n = (ccBs m n).set k ⟨x, zeroBk.pages⟩ := by
  apply List.ext_getElem?
  intro i
  rw [List.getElem?_set]
  by_cases hi : i < n
  · rw [ccBs_at _ hi, ccBs_at _ hi]
    by_cases e : k = i
    · subst e
      rw [if_pos rfl, if_pos (by rw [ccBs_length]; exact hi)]
      simp [CC.setWear, CC.setPages, ccPs, zeroBk]
    · rw [if_neg e]
      have e' : ¬ i = k := fun x => e x.symm
      simp [CC.setWear, CC.setPages, ccPs, e']
  · rw [List.getElem?_eq_none (by rw [ccBs_length]; omega), List.getElem?_eq_none (by rw [ccBs_length]; omega), if_neg (by omega)]

/-- erased, whatever the block: the cells m2 and the code. -/
theorem erased_any (bs : List Bk) (hok : ChipOk bs) (m : CC) (hct : m.count = bs.length) (hbs : ccBs m bs.length = bs) (blk : Int) (w : World) :
    Calls Try.prog 80 #[.agg (ccA m), .int .i64 blk] w fun e w' => ∃ m2 code, e = .returned (.tuple #[.agg (ccA m2), .int .i64 code]) ∧ m2.count = bs.length ∧ ErasedIs bs blk (ccBs m2 bs.length) code ∧ Below w.heap.size w w' := by
  have hc := hok.count
  by_cases hin : InB bs blk
  · obtain ⟨k, rfl⟩ := Int.eq_ofNat_of_zero_le hin.1
    have hkl : k < bs.length := by have := hin.2; omega
    have hbk : bs[k]? = some ⟨m.wear k, ccPs m k⟩ := by have := ccBs_at m hkl; rwa [hbs] at this
    have hw := (hok.block _ (List.mem_of_getElem? hbk)).wear
    refine (erased_in m bs.length hct hc.2 k hkl hw.1 hw.2 w).mono ?_
    rintro e w' ⟨⟨hx, rfl⟩ | ⟨hx, rfl⟩, hB⟩
    · exact ⟨m, 4, rfl, hct, .inr (.inr ⟨hok, hin, _, by simpa using hbk, .inl ⟨hx, hbs, rfl⟩⟩), hB⟩
    · refine ⟨_, 0, rfl, hct, .inr (.inr ⟨hok, hin, _, by simpa using hbk, .inr ⟨hx, ?_, rfl⟩⟩), hB⟩
      rw [ccBs_set m _ k _ hkl, hbs]
      rfl
  · refine (erased_out m bs.length hct hc.2 blk hin w).mono ?_
    rintro e w' ⟨rfl, hB⟩
    exact ⟨m, 2, rfl, hct, .inr (.inl ⟨hok, hin, hbs, rfl⟩), hB⟩

set_option maxRecDepth 100000 in
set_option maxHeartbeats 2000000 in
theorem implErased_any (a : Option Addr) (c : Nat) (bs : List Bk) (n : Nat) (hl : bs.length = n) (blk : Int) (w : World) (h : BlocksAt w a bs) (hn : Lens 9223372036854775807 bs) :
    Calls Try.prog 21 #[.agg #[.slice a n c], .int .i64 blk] w fun e w' =>
      (¬ ChipOk bs ∧ e = .returned (.tuple #[.agg #[.slice none 0 0], .int .i64 1]) ∧ Below w.heap.size w w') ∨
      (ChipOk bs ∧ ∃ g H out code, e = .returned (.tuple #[.agg #[.slice (some ⟨g, 0, none⟩) n n], .int .i64 code]) ∧ ErasedIs bs blk out code ∧ out.length = n ∧ w.heap.size ≤ g ∧ OwnBlocks w' 38 28 g H n out ∧ Below w.heap.size w w') := by
  subst hl
  have hb0 : ∀ o1 o2, Below w.heap.size w ((w.alloc o1).alloc o2) := fun o1 o2 => ((Below.refl _ w).alloc (Nat.le_refl _) _).alloc (by simp) _
  go_enter Try.func21, Try.ntmps21
  go_wp2_with fail
  refine (cellsOf_any a c bs _ (h.below (hb0 _ _) (Nat.le_refl _)) hn).mono ?_
  rintro e w1 ⟨⟨m, r, rfl, hr, hm⟩, hB1⟩
  have hW1 : Below w.heap.size w w1 := (hb0 _ _).trans (hB1.mono (by simp; omega))
  have hs1 := hB1.size
  simp at hs1
  have hz1 : w1.cell? ⟨w.heap.size + 1, 0, none⟩ = some (.slice none 0 0) := by
    rw [hB1.cell (p := ⟨w.heap.size + 1, 0, none⟩) (by simp)]
    simp
  have hf1 : w1.frozen? ⟨w.heap.size + 1, 0, none⟩ = false := by
    rw [hB1.frozen (p := ⟨w.heap.size + 1, 0, none⟩) (by simp)]
    simp
  have hl1 : w.heap.size + 1 < w1.heap.size := by omega
  have hsc := store_cc m w1
  have hAs := ccA_size m
  have HSZ := hide (sizeCC m)
  have HR := hide hr
  have HE := hide (fun hok hct hbs => erased_any bs hok m hct hbs blk)
  have HM := hide hm
  obtain ⟨A, hA⟩ : ∃ A, A = ccA m := ⟨_, rfl⟩
  rw [← hA] at hsc hAs HSZ HE ⊢
  clear hr hm h hn hB1 hb0 hA
  cases r with
  | false =>
    have HN : Hid (¬ ChipOk bs) := fun hc => by have := (unhide HR).2 hc; cases this
    clear HE HM HR
    go_wp2
    refine bodyPost_ret (v := .tuple #[.agg #[.slice none 0 0], .int .i64 1]) (by simp [results, Try.results21, go_sem, hz1, hl1, cell_alloc_lt]) rfl (.inl ⟨unhide HN, rfl, ?_⟩)
    repeat (first | exact hW1 | refine Below.drew ?_ | refine Below.alloc ?_ (by simp [World.setCell] <;> omega) _ | refine Below.setCell ?_ (by simp <;> omega) _)
  | true =>
    have hok := (unhide HR).1 rfl
    have hc12 := hok.count
    obtain ⟨hct, hbss⟩ := unhide HM rfl
    have HE1 := hide (unhide HE hok hct hbss)
    have HO := hide hok
    clear HE HM HR hok hct hbss
    go_wp2_with fail
    refine wp_load_row 109 _ rfl w1.heap.size rfl 109 A (0, 0) _ (Go.Deep.blk_alloc_new _ _) Try.underlying109 rfl (unhide HSZ) ?_
    clear hsc
    go_wp2_with fail
    refine (unhide HE1 _).mono ?_
    rintro e w2 ⟨m2, code, rfl, hct2, hE2, hB2⟩
    have hs2 := hB2.size
    simp at hs2
    have hrow2 : w2.heap[w1.heap.size]? = some (.cells A 109 (0, 0)) := (hB2.block _ (by simp)).trans (Go.Deep.blk_alloc_new _ _)
    have hz2 : w2.cell? ⟨w.heap.size + 1, 0, none⟩ = some (.slice none 0 0) := by
      rw [hB2.cell (p := ⟨w.heap.size + 1, 0, none⟩) (by simp; omega), cell_alloc_lt _ _ _ _ hl1]
      exact hz1
    have hf2 : w2.frozen? ⟨w.heap.size + 1, 0, none⟩ = false := by
      rw [hB2.frozen (p := ⟨w.heap.size + 1, 0, none⟩) (by simp; omega), frozen_alloc_lt _ _ _ _ hl1]
      exact hf1
    have hW2 : Below w.heap.size w w2 := (hW1.alloc hW1.size _).trans (hB2.mono (by simp; omega))
    have hst := store_row Try.prog w2 w1.heap.size 109 A (ccA m2) hrow2 (by rw [ccA_size, hAs]) (ccA_one m2)
    have hrow3 : (w2.setRow w1.heap.size (ccA m2)).heap[w1.heap.size]? = some (.cells (ccA m2) 109 (0, 0)) := setRow_heap _ _ _ _ _ _ hrow2
    have hz3 : (w2.setRow w1.heap.size (ccA m2)).cell? ⟨w.heap.size + 1, 0, none⟩ = some (.slice none 0 0) := (World.cell?_of_block (w := w2) (a := ⟨w.heap.size + 1, 0, none⟩) (setRow_other _ _ _ _ (by show w.heap.size + 1 ≠ _; omega))).trans hz2
    have hf3 : (w2.setRow w1.heap.size (ccA m2)).frozen? ⟨w.heap.size + 1, 0, none⟩ = false := by
      have : (w2.setRow w1.heap.size (ccA m2)).frozen? ⟨w.heap.size + 1, 0, none⟩ = w2.frozen? ⟨w.heap.size + 1, 0, none⟩ := by
        have e := setRow_other w2 w1.heap.size (w.heap.size + 1) (ccA m2) (by omega)
        simp [World.frozen?, e]
      exact this.trans hf2
    have hW3 := Below.setRow hW2 (g := w1.heap.size) (by omega) (ccA m2)
    have hs3 : (w2.setRow w1.heap.size (ccA m2)).heap.size = w2.heap.size := setRow_size _ _ _
    generalize w2.setRow w1.heap.size (ccA m2) = W3 at hst hrow3 hz3 hf3 hW3 hs3
    have HC := hide (fun W => chip_any m2 bs.length hct2 hc12.2 W)
    have hAs2 := ccA_size m2
    have HSZ2 := hide (sizeCC m2)
    obtain ⟨A2, hA2⟩ : ∃ A2, A2 = ccA m2 := ⟨_, rfl⟩
    rw [← hA2] at hst hrow3 HC hAs2 HSZ2 ⊢
    have HR3 := hide hrow3
    have HE2 := hide hE2
    clear hA2 hrow3 hrow2 hB2 hz2 hf2 hW2 hz1 hf1 hE2 HE1
    go_wp2_with (refine wpList_load_row rfl 109 _ rfl w1.heap.size rfl 109 A2 (0, 0) _ (unhide HR3) Try.underlying109 rfl (unhide HSZ2) ?_)
    refine (unhide HC _).mono ?_
    rintro e w4 ⟨g, H, rfl, hg, hO4, hB4⟩
    have hz4 := (hB4.cell (p := ⟨w.heap.size + 1, 0, none⟩) (by show w.heap.size + 1 < _; omega)).trans hz3
    have hf4 := (hB4.frozen (p := ⟨w.heap.size + 1, 0, none⟩) (by show w.heap.size + 1 < _; omega)).trans hf3
    have hW4 := hW3.trans (hB4.mono hW3.size)
    have HO4 := hide hO4
    clear hO4 hB4 hW3 hz3 hf3 HC HR3 hst
    go_wp2
    refine bodyPost_ret (v := .tuple #[.agg #[.slice (some ⟨g, 0, none⟩) bs.length bs.length], .int .i64 code]) (by simp [results, Try.results21, go_sem, hz4]) rfl (.inr ⟨unhide HO, g, H, ccBs m2 bs.length, code, rfl, unhide HE2, ccBs_length _ _, by omega, (unhide HO4).setOther (by simp; omega) _, hW4.setCell (by simp) _⟩)
end Go.Proofs.Ytimencianaclmaa

/- What Programmed answers, in plain lists. No program is named here. -/
namespace Go.Proofs.Ytimencianaclmaa
open Go.RowKit
set_option linter.unusedVariables false
set_option linter.unusedSimpArgs false

/-- The page may be programmed into the block, as far as its form goes. -/
def ProgOk (bs : List Bk) (blk : Int) (p : Pg) : Prop := InB bs blk ∧ rightUsed p = true ∧ p.seq ∉ seqs bs

def ProgIs (bs : List Bk) (blk : Int) (p : Pg) (out : List Bk) (code : Int) : Prop :=
  (¬ ChipOk bs ∧ out = [] ∧ code = 1) ∨ (ChipOk bs ∧ ¬ ProgOk bs blk p ∧ out = bs ∧ code = 2) ∨
  (ChipOk bs ∧ ProgOk bs blk p ∧ ∃ b r, bs[blk.toNat]? = some b ∧ NextIs (fun k => (pagesF b.pages k).used) 4 r ∧ ((r < 0 ∧ out = bs ∧ code = 3) ∨ (0 ≤ r ∧ out = bs.set blk.toNat ⟨b.wear, b.pages.set r.toNat p⟩ ∧ code = 0)))

theorem ProgIs.one {bs : List Bk} {blk : Int} {p : Pg} {o1 o2 : List Bk} {c1 c2 : Int} (h : ProgIs bs blk p o1 c1) (k : ProgIs bs blk p o2 c2) : o1 = o2 ∧ c1 = c2 := by
  rcases h with ⟨h1, rfl, rfl⟩ | ⟨h1, h2, rfl, rfl⟩ | ⟨h1, h2, b, r, hb, hr, h3⟩
  · rcases k with ⟨k1, rfl, rfl⟩ | ⟨k1, _⟩ | ⟨k1, _⟩
    · exact ⟨rfl, rfl⟩
    · exact absurd k1 h1
    · exact absurd k1 h1
  · rcases k with ⟨k1, _⟩ | ⟨k1, k2, rfl, rfl⟩ | ⟨k1, k2, _⟩
    · exact absurd h1 k1
    · exact ⟨rfl, rfl⟩
    · exact absurd k2 h2
  · rcases k with ⟨k1, _⟩ | ⟨k1, k2, _⟩ | ⟨k1, k2, d, q, hd, hq, k3⟩
    · exact absurd h1 k1
    · exact absurd h2 k2
    · rw [hb] at hd
      cases hd
      obtain rfl := hr.one hq
      rcases h3 with ⟨e1, rfl, rfl⟩ | ⟨e1, rfl, rfl⟩
      · rcases k3 with ⟨f1, rfl, rfl⟩ | ⟨f1, _⟩
        · exact ⟨rfl, rfl⟩
        · omega
      · rcases k3 with ⟨f1, _⟩ | ⟨f1, rfl, rfl⟩
        · omega
        · exact ⟨rfl, rfl⟩

theorem ProgIs.lens {bs : List Bk} {blk : Int} {p : Pg} {out : List Bk} {code : Int} (h : ProgIs bs blk p out code) (hn : Lens 1048576 bs) : Lens 1048576 out := by
  rcases h with ⟨_, rfl, _⟩ | ⟨_, _, rfl, _⟩ | ⟨_, _, b, r, hb, _, ⟨_, rfl, _⟩ | ⟨_, rfl, _⟩⟩
  · exact ⟨by simp, fun b hb => by simp at hb⟩
  · exact hn
  · exact hn
  · refine ⟨by rw [List.length_set]; exact hn.1, fun c hc => ?_⟩
    rcases List.mem_or_eq_of_mem_set hc with h1 | rfl
    · exact hn.2 c h1
    · show (b.pages.set r.toNat p).length ≤ _
      rw [List.length_set]
      exact hn.at hb

/-- A page is put into a block's cells. -/
def CC.putPage (m : CC) (b j : Nat) (p : Pg) : CC := m.setPages b (fun i => if i = j then p else m.page b i)

theorem ccA_putPage (m : CC) (b j : Nat) (p : Pg) (hb : b < 12) (hj : j < 4) :
    ((((ccA m).setIfInBounds (1 + b * 17 + 1 + j * 4) (.bool p.used)).setIfInBounds (1 + b * 17 + 1 + j * 4 + 1) (.int .i64 p.log)).setIfInBounds (1 + b * 17 + 1 + j * 4 + 2) (.int .i64 p.seq)).setIfInBounds (1 + b * 17 + 1 + j * 4 + 3) (.string p.data) = ccA (m.putPage b j p) := by
  apply Array.ext_getElem?
  intro i
  by_cases hi : i < 205
  · rw [ccA_get _ hi]
    simp only [Array.getElem?_setIfInBounds, Array.size_setIfInBounds, ccA_size]
    have hF : ¬ (1 + b * 17 + 1 + j * 4 ≤ i ∧ i < 1 + b * 17 + 1 + j * 4 + 4) → ccF (m.putPage b j p) i = ccF m i := by
      intro hn
      unfold ccF CC.putPage CC.setPages
      by_cases h0 : i = 0
      · simp [h0]
      · simp only [if_neg h0]
        by_cases h1 : (i - 1) % 17 = 0
        · simp only [if_pos h1]
        · simp only [if_neg h1]
          by_cases h2 : (i - 1) / 17 = b
          · have h3 : ¬ ((i - 1) % 17 - 1) / 4 = j := by omega
            simp [h2, h3]
          · simp [h2]
    have hT : ∀ t, t < 4 → i = 1 + b * 17 + 1 + j * 4 + t → ccF (m.putPage b j p) i = pgV p t := by
      intro t ht e
      subst e
      unfold ccF CC.putPage CC.setPages
      have h0 : ¬ 1 + b * 17 + 1 + j * 4 + t = 0 := by omega
      have e9 : 1 + b * 17 + 1 + j * 4 + t - 1 = 17 * b + (1 + j * 4 + t) := by omega
      have e8 : (17 * b + (1 + j * 4 + t)) % 17 = 1 + j * 4 + t := by rw [Nat.mul_add_mod, Nat.mod_eq_of_lt (by omega)]
      have h1 : ¬ (1 + b * 17 + 1 + j * 4 + t - 1) % 17 = 0 := by rw [e9, e8]; omega
      have h2 : (1 + b * 17 + 1 + j * 4 + t - 1) / 17 = b := by rw [e9, Nat.mul_add_div (by omega), Nat.div_eq_of_lt (by omega)]; rfl
      have h3 : ((1 + b * 17 + 1 + j * 4 + t - 1) % 17 - 1) / 4 = j := by rw [e9, e8]; omega
      have h4 : ((1 + b * 17 + 1 + j * 4 + t - 1) % 17 - 1) % 4 = t := by rw [e9, e8]; omega
      simp only [if_neg h0, if_neg h1, h2, h3, h4, if_true]
    by_cases e3 : 1 + b * 17 + 1 + j * 4 + 3 = i
    · rw [if_pos e3, if_pos (by omega), hT 3 (by omega) e3.symm]; rfl
    · rw [if_neg e3]
      by_cases e2 : 1 + b * 17 + 1 + j * 4 + 2 = i
      · rw [if_pos e2, if_pos (by omega), hT 2 (by omega) e2.symm]; rfl
      · rw [if_neg e2]
        by_cases e1 : 1 + b * 17 + 1 + j * 4 + 1 = i
        · rw [if_pos e1, if_pos (by omega), hT 1 (by omega) e1.symm]; rfl
        · rw [if_neg e1]
          by_cases e0 : 1 + b * 17 + 1 + j * 4 = i
          · rw [if_pos e0, if_pos (by omega), hT 0 (by omega) e0.symm]; rfl
          · rw [if_neg e0, ccA_get _ hi, hF (by omega)]
  · rw [Array.getElem?_eq_none (by simp [ccA_size]; omega), Array.getElem?_eq_none (by simp [ccA_size]; omega)]

theorem ccBs_putPage (m : CC) (n k j : Nat) (p : Pg) (hk : k < n) (hj : j < 4) : ccBs (m.putPage k j p) n = (ccBs m n).set k ⟨m.wear k, (ccPs m k).set j p⟩ := by
  apply List.ext_getElem?
  intro i
  rw [List.getElem?_set]
  by_cases hi : i < n
  · rw [ccBs_at _ hi, ccBs_at _ hi]
    by_cases e : k = i
    · subst e
      rw [if_pos rfl, if_pos (by rw [ccBs_length]; exact hi)]
      have h4 : j = 0 ∨ j = 1 ∨ j = 2 ∨ j = 3 := by omega
      rcases h4 with rfl | rfl | rfl | rfl <;> simp [CC.putPage, CC.setPages, ccPs]
    · rw [if_neg e]
      have e' : ¬ i = k := fun x => e x.symm
      simp [CC.putPage, CC.setPages, ccPs, e']
  · rw [List.getElem?_eq_none (by rw [ccBs_length]; omega), List.getElem?_eq_none (by rw [ccBs_length]; omega), if_neg (by omega)]

end Go.Proofs.Ytimencianaclmaa
