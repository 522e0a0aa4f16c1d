/- 5 texts in one. -/
import Derived.Test.YtalgkmellbamgaaGreatG06
import Derived.Test.YtalgkmellbamgaaGreatG08
import Derived.WalkKit
import Derived.Laws.IdiomStrings
import Derived.Test.YtalgkmellbamgaaGreatG18
import Derived.Shelf.Strings.Repeat
import Derived.Test.YtalgkmellbamgaaGreatProg
import Derived.Test.YtalgkmellbamgaaGreatG26
import Derived.BigQuiet

/- What is read of a log: in plain words, and the model's l2Page and PageAt. -/
namespace Go.Proofs.YtalgkmellbamgaaGreat
open Go.RowKit
set_option linter.unusedVariables false
set_option linter.unusedSimpArgs false

def zeros4 : ByteArray := ⟨#[0, 0, 0, 0]⟩
/-- What stands at a place. -/
def pageOf (bs : List Bk) (x : Int) : Pg := pagesF ((bs[(x / 4).toNat]?.map (·.pages)).getD []) (x % 4).toNat
def dataOf (bs : List Bk) (x : Int) : ByteArray := if x < 0 then zeros4 else (pageOf bs x).data
theorem pageOf_at {bs : List Bk} {x : Int} {b k : Nat} {y : Bk} {p : Pg} (hb : x / 4 = (b : Int)) (hk : x % 4 = (k : Int)) (hy : bs[b]? = some y) (hp : y.pages[k]? = some p) : pageOf bs x = p := by
  unfold pageOf
  rw [hb, hk]
  simp [hy, pagesF, hp]
theorem dataOf_at {bs : List Bk} {x : Int} {b k : Nat} {y : Bk} {p : Pg} (h0 : 0 ≤ x) (hb : x / 4 = (b : Int)) (hk : x % 4 = (k : Int)) (hy : bs[b]? = some y) (hp : y.pages[k]? = some p) : dataOf bs x = p.data := by
  unfold dataOf
  rw [if_neg (by omega), pageOf_at hb hk hy hp]
theorem dataOf_none {bs : List Bk} {x : Int} (h : x < 0) : dataOf bs x = zeros4 := if_pos h
/-- What PageAt answers. -/
def PageIs (bs : List Bk) (L : List Int) (seq o lg : Int) (d : ByteArray) (r : Bool) : Prop :=
  ((FtlOk bs L seq o ∧ 0 ≤ lg ∧ lg ≤ (L.length : Int) - 1) ∧ r = true ∧ ∃ x, L[lg.toNat]? = some x ∧ d = dataOf bs x) ∨ (¬ (FtlOk bs L seq o ∧ 0 ≤ lg ∧ lg ≤ (L.length : Int) - 1) ∧ r = false ∧ d = ByteArray.empty)
theorem PageIs.one {bs : List Bk} {L : List Int} {seq o lg : Int} {d e : ByteArray} {r s : Bool} (h : PageIs bs L seq o lg d r) (k : PageIs bs L seq o lg e s) : d = e ∧ r = s := by
  rcases h with ⟨h1, rfl, x, hx, rfl⟩ | ⟨h1, rfl, rfl⟩
  · rcases k with ⟨_, rfl, y, hy, rfl⟩ | ⟨k1, _⟩
    · rw [hx] at hy; cases hy; exact ⟨rfl, rfl⟩
    · exact absurd h1 k1
  · rcases k with ⟨k1, _⟩ | ⟨_, rfl, rfl⟩
    · exact absurd k1 h1
    · exact ⟨rfl, rfl⟩

/-- The page at a place that the map of a right member names. -/
theorem FtlOk.placed {bs : List Bk} {L : List Int} {seq o : Int} (h : FtlOk bs L seq o) {x : Int} (hx : x ∈ L) (h0 : 0 ≤ x) : ∃ (b k : Nat) (y : Bk) (p : Pg), x / 4 = (b : Int) ∧ x % 4 = (k : Int) ∧ b < bs.length ∧ k < 4 ∧ bs[b]? = some y ∧ y.pages[k]? = some p := by
  have hp := h.places x hx
  have hc := h.chip.count
  obtain ⟨y, hy⟩ := getElem?_ex (l := bs) (k := (x / 4).toNat) (by omega)
  have h4 := (h.chip.block y (List.mem_of_getElem? hy)).four
  obtain ⟨p, hp'⟩ := getElem?_ex (l := y.pages) (k := (x % 4).toNat) (by omega)
  exact ⟨(x / 4).toNat, (x % 4).toNat, y, p, by omega, by omega, by omega, by omega, hy, hp'⟩

theorem infoByteP : (Tryz.prog.info? 5).map (fun i => (i.zero, i.size, i.bytes)) = some (some (.int .u8 0), 1, 1) := by kernel_rfl
theorem make_bytes4P (w : World) : (Instr.makeSlice 22 (.int .i64 4) (.int .i64 4)).run Tryz.prog w = .ok (.slice (some ⟨w.heap.size, 0, none⟩) 4 4) (w.alloc (.cells #[.int .u8 0, .int .u8 0, .int .u8 0, .int .u8 0] 5)) := by
  obtain ⟨i, hi, hz⟩ := Option.map_eq_some_iff.1 infoByteP
  simp only [Prod.mk.injEq] at hz
  obtain ⟨hz0, hz1, hz2⟩ := hz
  have h := run_make (P := Tryz.prog) w 22 5 i _ Tryz.underlying22 hi hz0 .i64 .i64 4 4 (by omega) (Int.le_refl _) (by rw [hz2]; omega) (by omega)
  rw [hz1] at h
  have e : madeCells (Value.int .u8 0).cells (4 * 1) = #[.int .u8 0, .int .u8 0, .int .u8 0, .int .u8 0] := by kernel_rfl
  simpa [e] using h
theorem bytes4_string (w : World) : (convert 22 9 (.slice (some ⟨w.heap.size, 0, none⟩) 4 4)).run Tryz.prog (w.alloc (.cells #[.int .u8 0, .int .u8 0, .int .u8 0, .int .u8 0] 5)) = .ok (.string zeros4) (w.alloc (.cells #[.int .u8 0, .int .u8 0, .int .u8 0, .int .u8 0] 5)) := by
  have h := run_convert_bytes_back (P := Tryz.prog) (w.alloc (.cells #[.int .u8 0, .int .u8 0, .int .u8 0, .int .u8 0] 5)) 22 9 5 ⟨w.heap.size, 0, none⟩ 4 [0, 0, 0, 0] Tryz.underlying22 Tryz.underlying5 Tryz.underlying9 (fun j hj => by
    rw [Go.WideShapes.add_plain, Nat.zero_add, World.cell?_alloc_mark]
    have h4 : j = 0 ∨ j = 1 ∨ j = 2 ∨ j = 3 := by simp at hj; omega
    rcases h4 with rfl | rfl | rfl | rfl <;> rfl)
  exact h


end Go.Proofs.YtalgkmellbamgaaGreat

/- The newest pages of a chip, told as a set; what programming and erasing do to them. No program is named here. -/
namespace Go.Proofs.YtalgkmellbamgaaGreat
open Go.RowKit
set_option linter.unusedVariables false
set_option linter.unusedSimpArgs false

theorem usedOf_iff {bs : List Bk} (h : ChipOk bs) {x : Int × Pg} : x ∈ usedOf bs ↔ ∃ (b k : Nat) (y : Bk), bs[b]? = some y ∧ y.pages[k]? = some x.2 ∧ k < 4 ∧ x.1 = (b : Int) * 4 + (k : Int) ∧ x.2.used = true := by
  constructor
  · intro hx
    exact (h.usedRight hx).2.2.2.2.2
  · rintro ⟨b, k, y, hy, hp, hk, e, hu⟩
    have := mem_usedOf hy hp hk hu
    rw [← e] at this
    exact this
theorem ccBs_mOf {bs : List Bk} (h : ChipOk bs) : ccBs (mOf bs) bs.length = bs := by
  refine List.ext_getElem? (fun i => ?_)
  by_cases hi : i < bs.length
  · rw [ccBs_at _ hi]
    obtain ⟨y, hy⟩ := getElem?_ex (l := bs) (k := i) hi
    rw [hy]
    have h4 := (h.block y (List.mem_of_getElem? hy)).four
    obtain ⟨yw, ps⟩ := y
    match ps, h4 with
    | [p0, p1, p2, p3], _ =>
      have e0 := mOf_page hy (k := 0) (p := p0) rfl
      have e1 := mOf_page hy (k := 1) (p := p1) rfl
      have e2 := mOf_page hy (k := 2) (p := p2) rfl
      have e3 := mOf_page hy (k := 3) (p := p3) rfl
      unfold ccPs
      rw [e0, e1, e2, e3]
      simp [mOf, hy]
  · rw [List.getElem?_eq_none (by rw [ccBs_length]; omega), List.getElem?_eq_none (by omega)]
theorem usedOf_distinct {bs : List Bk} (h : ChipOk bs) {y z : Int × Pg} (hy : y ∈ usedOf bs) (hz : z ∈ usedOf bs) (e : y.2.seq = z.2.seq) : y = z := by
  have hn : (usedSeqs (usedOf bs)).Nodup := by
    unfold usedOf
    rw [usedSeqs_all, ccBs_mOf h]
    exact h.nodup
  unfold usedSeqs at hn
  obtain ⟨i, hi, rfl⟩ := List.getElem_of_mem hy
  obtain ⟨j, hj, rfl⟩ := List.getElem_of_mem hz
  have hp := List.pairwise_iff_getElem.1 (List.pairwise_map.1 hn)
  rcases Nat.lt_trichotomy i j with hlt | rfl | hlt
  · exact absurd e (hp i j hi hj hlt)
  · rfl
  · exact absurd e.symm (hp j i hj hi hlt)

/-- The newest page of a log is none, or the one of the greatest number. -/
theorem newestAt_is (log : Int) (xs : List (Int × Pg)) : (newestAt xs log = none ∧ ∀ z ∈ xs, z.2.log ≠ log) ∨ ∃ y, newestAt xs log = some y ∧ y ∈ xs ∧ y.2.log = log ∧ ∀ z ∈ xs, z.2.log = log → z.2.seq ≤ y.2.seq := by
  suffices H : ∀ n (xs : List (Int × Pg)), xs.length = n → ((newestAt xs log = none ∧ ∀ z ∈ xs, z.2.log ≠ log) ∨ ∃ y, newestAt xs log = some y ∧ y ∈ xs ∧ y.2.log = log ∧ ∀ z ∈ xs, z.2.log = log → z.2.seq ≤ y.2.seq) from H _ xs rfl
  intro n
  induction n with
  | zero =>
    intro xs hl
    have : xs = [] := List.length_eq_zero_iff.1 hl
    subst this
    exact .inl ⟨rfl, fun z hz => by simp at hz⟩
  | succ n ih =>
    intro xs hl
    obtain ⟨ys, x, rfl⟩ : ∃ ys x, xs = ys ++ [x] := ⟨xs.dropLast, xs.getLast (by intro e; subst e; cases hl), (List.dropLast_concat_getLast _).symm⟩
    rw [newestAt_snoc]
    unfold pick
    have hm : ∀ z, z ∈ ys ++ [x] ↔ z ∈ ys ∨ z = x := fun z => by simp
    rcases ih ys (by simpa using hl) with ⟨h1, h2⟩ | ⟨y, h1, h2, h3, h4⟩
    · by_cases hx : x.2.log = log
      · rw [if_pos ⟨hx, by rw [h1]; rfl⟩]
        refine .inr ⟨x, rfl, (hm x).2 (.inr rfl), hx, fun z hz hzl => ?_⟩
        rcases (hm z).1 hz with hz | rfl
        · exact absurd hzl (h2 z hz)
        · exact Int.le_refl _
      · rw [if_neg (fun h => hx h.1)]
        refine .inl ⟨h1, fun z hz => ?_⟩
        rcases (hm z).1 hz with hz | rfl
        · exact h2 z hz
        · exact hx
    · by_cases hx : x.2.log = log ∧ y.2.seq < x.2.seq
      · rw [if_pos ⟨hx.1, by rw [h1]; simpa [newer] using hx.2⟩]
        refine .inr ⟨x, rfl, (hm x).2 (.inr rfl), hx.1, fun z hz hzl => ?_⟩
        rcases (hm z).1 hz with hz | rfl
        · have := h4 z hz hzl; omega
        · exact Int.le_refl _
      · rw [if_neg (fun h => hx ⟨h.1, by have := h.2; rw [h1] at this; simpa [newer] using this⟩)]
        refine .inr ⟨y, h1, (hm y).2 (.inl h2), h3, fun z hz hzl => ?_⟩
        rcases (hm z).1 hz with hz | rfl
        · exact h4 z hz hzl
        · have : ¬ y.2.seq < z.2.seq := fun h => hx ⟨hzl, h⟩
          omega
theorem newestAt_of {bs : List Bk} (h : ChipOk bs) {log : Int} {y : Int × Pg} (hy : y ∈ usedOf bs) (hl : y.2.log = log) (hm : ∀ z ∈ usedOf bs, z.2.log = log → z.2.seq ≤ y.2.seq) : newestAt (usedOf bs) log = some y := by
  rcases newestAt_is log (usedOf bs) with ⟨_, h2⟩ | ⟨z, h1, h2, h3, h4⟩
  · exact absurd hl (h2 y hy)
  · have e1 := hm z h2 h3
    have e2 := h4 y hy hl
    rw [h1, usedOf_distinct h h2 hy (by omega)]
theorem newestAt_no {xs : List (Int × Pg)} {log : Int} (h : ∀ z ∈ xs, z.2.log ≠ log) : newestAt xs log = none := by
  rcases newestAt_is log xs with ⟨h1, _⟩ | ⟨y, _, h2, h3, _⟩
  · exact h1
  · exact absurd h3 (h y h2)
/-- A page more, newer than all. -/
theorem newest_more {bs bs' : List Bk} (h' : ChipOk bs') (h : ChipOk bs) {q : Int × Pg} (hm : ∀ x, x ∈ usedOf bs' ↔ x ∈ usedOf bs ∨ x = q) (hs : ∀ x ∈ usedOf bs, x.2.seq < q.2.seq) (log : Int) :
    newestAt (usedOf bs') log = if q.2.log = log then some q else newestAt (usedOf bs) log := by
  by_cases hq : q.2.log = log
  · rw [if_pos hq]
    refine newestAt_of h' ((hm q).2 (.inr rfl)) hq (fun z hz hzl => ?_)
    rcases (hm z).1 hz with hz | rfl
    · have := hs z hz; omega
    · exact Int.le_refl _
  · rw [if_neg hq]
    rcases newestAt_is log (usedOf bs) with ⟨h1, h2⟩ | ⟨y, h1, h2, h3, h4⟩
    · rw [h1]
      refine newestAt_no (fun z hz => ?_)
      rcases (hm z).1 hz with hz | rfl
      · exact h2 z hz
      · exact hq
    · rw [h1]
      refine newestAt_of h' ((hm y).2 (.inl h2)) h3 (fun z hz hzl => ?_)
      rcases (hm z).1 hz with hz | rfl
      · exact h4 z hz hzl
      · exact absurd hzl hq
/-- Pages less, none of which is the newest of this log. -/
theorem newest_less {bs bs' : List Bk} (h' : ChipOk bs') (h : ChipOk bs) {P : Int × Pg → Prop} (hm : ∀ x, x ∈ usedOf bs' ↔ x ∈ usedOf bs ∧ ¬ P x) {log : Int} (hno : ∀ y, newestAt (usedOf bs) log = some y → ¬ P y) :
    newestAt (usedOf bs') log = newestAt (usedOf bs) log := by
  rcases newestAt_is log (usedOf bs) with ⟨h1, h2⟩ | ⟨y, h1, h2, h3, h4⟩
  · rw [h1]
    exact newestAt_no (fun z hz => h2 z ((hm z).1 hz).1)
  · rw [h1]
    exact newestAt_of h' ((hm y).2 ⟨h2, hno y h1⟩) h3 (fun z hz hzl => h4 z ((hm z).1 hz).1 hzl)

/-- The pages of a chip behind one that was programmed. -/
theorem used_prog {bs : List Bk} {f : Nat} {wf : Int} {ps : List Pg} {p : Pg} (h : ChipOk bs) (h' : ChipOk (bs.set f ⟨wf, padded (ps ++ [p])⟩)) (hx : bs[f]? = some ⟨wf, padded ps⟩) (hlt : ps.length < 4) (hp : p.used = true) (x : Int × Pg) :
    x ∈ usedOf (bs.set f ⟨wf, padded (ps ++ [p])⟩) ↔ x ∈ usedOf bs ∨ x = ((f : Int) * 4 + (ps.length : Int), p) := by
  have hf := (List.getElem?_eq_some_iff.1 hx).1
  rw [usedOf_iff h', usedOf_iff h]
  constructor
  · rintro ⟨b, k, y, hy, hk, h4, e, hu⟩
    by_cases hb : b = f
    · subst hb
      rw [List.getElem?_set_self hf] at hy
      cases hy
      have hk : (padded (ps ++ [p]))[k]? = some x.2 := hk
      rcases Nat.lt_trichotomy k ps.length with hlk | rfl | hgk
      · rw [padded_at (by simp; omega), List.getElem?_append_left hlk] at hk
        exact .inl ⟨b, k, _, hx, by show (padded ps)[k]? = _; rw [padded_at hlk]; exact hk, h4, e, hu⟩
      · rw [padded_at (by simp), List.getElem?_append_right (Nat.le_refl _)] at hk
        simp at hk
        refine .inr (Prod.ext e hk.symm)
      · rw [padded_rest (by simp; omega) h4] at hk
        injection hk with hk
        rw [← hk] at hu
        cases hu
    · rw [List.getElem?_set_ne (fun h => hb h.symm)] at hy
      exact .inl ⟨b, k, y, hy, hk, h4, e, hu⟩
  · rintro (⟨b, k, y, hy, hk, h4, e, hu⟩ | rfl)
    · by_cases hb : b = f
      · subst hb
        rw [hx] at hy
        cases hy
        have hk : (padded ps)[k]? = some x.2 := hk
        by_cases hlk : k < ps.length
        · rw [padded_at hlk] at hk
          refine ⟨b, k, _, List.getElem?_set_self hf, ?_, h4, e, hu⟩
          show (padded (ps ++ [p]))[k]? = _
          rw [padded_at (by simp; omega), List.getElem?_append_left hlk]
          exact hk
        · rw [padded_rest (by omega) h4] at hk
          injection hk with hk
          rw [← hk] at hu
          cases hu
      · exact ⟨b, k, y, by rw [List.getElem?_set_ne (fun h => hb h.symm)]; exact hy, hk, h4, e, hu⟩
    · refine ⟨f, ps.length, _, List.getElem?_set_self hf, ?_, hlt, rfl, hp⟩
      show (padded (ps ++ [p]))[ps.length]? = _
      rw [padded_at (by simp), List.getElem?_append_right (Nat.le_refl _)]
      simp
/-- The pages of a chip behind a block that was erased. -/
theorem used_erase {bs : List Bk} {v : Nat} {wv : Int} (h : ChipOk bs) (h' : ChipOk (bs.set v ⟨wv, zeroBk.pages⟩)) (hv : v < bs.length) (x : Int × Pg) :
    x ∈ usedOf (bs.set v ⟨wv, zeroBk.pages⟩) ↔ x ∈ usedOf bs ∧ ¬ x.1 / 4 = (v : Int) := by
  rw [usedOf_iff h', usedOf_iff h]
  constructor
  · rintro ⟨b, k, y, hy, hk, h4, e, hu⟩
    by_cases hb : b = v
    · subst hb
      rw [List.getElem?_set_self hv] at hy
      cases hy
      have hm := List.mem_of_getElem? hk
      simp [zeroBk] at hm
      rw [hm] at hu
      cases hu
    · rw [List.getElem?_set_ne (fun h => hb h.symm)] at hy
      exact ⟨⟨b, k, y, hy, hk, h4, e, hu⟩, by omega⟩
  · rintro ⟨⟨b, k, y, hy, hk, h4, e, hu⟩, hne⟩
    have hb : ¬ b = v := fun hb => hne (by subst hb; omega)
    exact ⟨b, k, y, by rw [List.getElem?_set_ne (fun h => hb h.symm)]; exact hy, hk, h4, e, hu⟩
theorem topOf_le {xs : List (Int × Pg)} {B : Int} (h : ∀ x ∈ xs, x.2.seq ≤ B) (h0 : 0 ≤ B) : (topOf xs).1 ≤ B := by
  suffices H : ∀ (xs : List (Int × Pg)) (c : Int × Int), c.1 ≤ B → (∀ x ∈ xs, x.2.seq ≤ B) → (xs.foldl topStep c).1 ≤ B from H xs (0, 0) h0 h
  intro xs
  induction xs with
  | nil => intro c hc _; exact hc
  | cons y ys ih =>
    intro c hc hx
    simp only [List.foldl_cons]
    refine ih _ ?_ (fun x hx2 => hx x (by simp [hx2]))
    unfold topStep
    split
    · exact hx y (by simp)
    · exact hc
/-- What is read of a log. -/
def readOf (bs : List Bk) (log : Int) : ByteArray := ((newestAt (usedOf bs) log).map (·.2.data)).getD zeros4
theorem readOf_map {bs : List Bk} (h : ChipOk bs) {i : Nat} (hi : i < roomOf bs) {x : Int} (hx : (placesOf (usedOf bs) (roomOf bs))[i]? = some x) : dataOf bs x = readOf bs (i : Int) := by
  rw [placesOf_at _ _ hi] at hx
  cases hx
  unfold readOf
  cases e : newestAt (usedOf bs) (i : Int) with
  | none => simp [placeIn, dataOf]
  | some y =>
    obtain ⟨hm, hlg⟩ := newestAt_mem e
    obtain ⟨b, k, z, hz, hp, hk, ey, hu⟩ := (usedOf_iff h).1 hm
    simp only [placeIn, Option.map_some, Option.getD_some]
    exact dataOf_at (b := b) (k := k) (by omega) (by omega) (by omega) hz hp
theorem FtlOk.read {bs : List Bk} {L : List Int} {seq o : Int} (h : FtlOk bs L seq o) {i : Nat} {x : Int} (hx : L[i]? = some x) : dataOf bs x = readOf bs (i : Int) := by
  have hi := (List.getElem?_eq_some_iff.1 hx).1
  rw [h.map] at hx
  refine readOf_map h.chip ?_ hx
  have := h.map
  rw [this, placesOf_length] at hi
  exact hi
end Go.Proofs.YtalgkmellbamgaaGreat

/- What a write leaves: a right member, what was written, and all else as it was. In plain lists; no program is named here. -/
namespace Go.Proofs.YtalgkmellbamgaaGreat
open Go.RowKit
set_option linter.unusedVariables false
set_option linter.unusedSimpArgs false

theorem used_seqs {bs : List Bk} (h : ChipOk bs) {x : Int × Pg} (hx : x ∈ usedOf bs) : x.2.seq ∈ seqs bs := by
  obtain ⟨b, k, y, hy, hp, _, _, hu⟩ := (usedOf_iff h).1 hx
  exact mem_seqs hy hp hu
theorem FtlOk.newestIn {bs : List Bk} {L : List Int} {seq o : Int} (h : FtlOk bs L seq o) {l : Int} {y : Int × Pg} (hy : newestAt (usedOf bs) l = some y) : y.1 ∈ L := by
  obtain ⟨hm, hl⟩ := newestAt_mem hy
  have h1 := h.chip.usedRight hm
  have h2 := h.fits y hm
  obtain ⟨i, rfl⟩ := Int.eq_ofNat_of_zero_le (show 0 ≤ l by omega)
  have := placesOf_at (usedOf bs) (roomOf bs) (i := i) (by omega)
  rw [hy] at this
  rw [h.map]
  exact List.mem_of_getElem? this
/-- Where the pages of the first k of block v stand behind their moves into f. -/
structure Moved (bs bsk : List Bk) (f v k : Nat) (seq : Int) (n : Nat) : Prop where
  ok : ChipOk bsk
  logs : ∀ x ∈ usedOf bsk, x.2.log < (roomOf bs : Int)
  top : ∀ x ∈ usedOf bsk, x.2.seq < seq + (n : Int)
  stay : ∀ l, (∀ y, newestAt (usedOf bs) l = some y → ¬ ∃ j : Nat, j < k ∧ y.1 = (v : Int) * 4 + (j : Int)) → newestAt (usedOf bsk) l = newestAt (usedOf bs) l
  went : ∀ l y, newestAt (usedOf bs) l = some y → (∃ j : Nat, j < k ∧ y.1 = (v : Int) * 4 + (j : Int)) → ∃ z, newestAt (usedOf bsk) l = some z ∧ z.1 / 4 = (f : Int) ∧ z.2.data = y.2.data
theorem moves_moved {bs : List Bk} {L : List Int} {seq o : Int} (h : FtlOk bs L seq o) (hq : seq ≤ 999999990) {f : Nat} {x : Bk} (hx : bs[f]? = some x) (hfree : freeB x = true) {v : Nat} (hv : v < bs.length) :
    ∀ k, k ≤ 4 → Moved bs (bs.set f ⟨x.wear, padded ((movedTo bs L (v : Int) (f : Int) seq k).map (·.page))⟩) f v k seq (movedTo bs L (v : Int) (f : Int) seq k).length := by
  have hf := (List.getElem?_eq_some_iff.1 hx).1
  have hxb := h.chip.block x (List.mem_of_getElem? hx)
  have hpx := free_pages hxb hfree
  have hR := runs_moves h hq hx hfree hv
  intro k
  induction k with
  | zero =>
    intro _
    have e : bs.set f ⟨x.wear, padded ((movedTo bs L (v : Int) (f : Int) seq 0).map (·.page))⟩ = bs := by
      have e2 : (⟨x.wear, padded ((movedTo bs L (v : Int) (f : Int) seq 0).map (·.page))⟩ : Bk) = x := by
        obtain ⟨xw, xp⟩ := x
        simp only at hpx
        rw [hpx]
        rfl
      rw [e2, ← (List.getElem?_eq_some_iff.1 hx).2]
      exact List.set_getElem_self _
    rw [e]
    refine ⟨h.chip, h.fits, fun y hy => ?_, fun l _ => rfl, fun l y hy hj => ?_⟩
    · have := h.chip.seqs_top (used_seqs h.chip hy)
      have := h.seq
      simp [movedTo]
      omega
    · obtain ⟨j, hj, _⟩ := hj
      omega
  | succ k ih =>
    intro hk
    have I := ih (by omega)
    by_cases hm : movesAt bs L (v : Int) k = true
    · have e : movedTo bs L (v : Int) (f : Int) seq (k + 1) = movedTo bs L (v : Int) (f : Int) seq k ++ [⟨1, (f : Int), { pageIn bs (v : Int) k with seq := seq + ((movedTo bs L (v : Int) (f : Int) seq k).length : Int) }⟩] := by simp [movedTo, hm]
      have hln := movedTo_length bs L (v : Int) (f : Int) seq k
      obtain ⟨r1, r2, r3⟩ := hR (k + 1) hk
      obtain ⟨q1, q2, q3⟩ := hR k (by omega)
      have ok' := r1.ok h.chip
      rw [e] at ok' ⊢
      obtain ⟨M, hM⟩ : ∃ M, M = movedTo bs L (v : Int) (f : Int) seq k := ⟨_, rfl⟩
      rw [← hM] at I hln ok' q2 q3 ⊢
      obtain ⟨y, hy⟩ := getElem?_ex (l := bs) (k := v) hv
      have hyb := h.chip.block y (List.mem_of_getElem? hy)
      obtain ⟨p, hp⟩ := getElem?_ex (l := y.pages) (k := k) (by have := hyb.four; omega)
      have hpi := pageIn_of hy hp
      have hm2 := hm
      unfold movesAt at hm2
      rw [hpi] at hm2
      simp only [Bool.and_eq_true, decide_eq_true_eq] at hm2
      obtain ⟨hpu, hLp⟩ := hm2
      rw [hpi] at ok' ⊢
      have hin : (((v : Int) * 4 + (k : Int)), p) ∈ usedOf bs := mem_usedOf hy hp (by omega) hpu
      have hrt := h.chip.usedRight hin
      have hfit := h.fits _ hin
      simp only at hrt hfit
      have hnew : newestAt (usedOf bs) p.log = some (((v : Int) * 4 + (k : Int)), p) := by
        rw [h.map] at hLp
        rw [placesOf_at _ _ (by omega)] at hLp
        have e1 : ((p.log.toNat : Nat) : Int) = p.log := by omega
        rw [e1] at hLp
        cases en : newestAt (usedOf bs) p.log with
        | none => rw [en] at hLp; simp [placeIn] at hLp; omega
        | some z =>
          rw [en] at hLp
          simp only [placeIn, Option.some.injEq] at hLp
          obtain ⟨hzm, hzl⟩ := newestAt_mem en
          obtain ⟨b', k', y', hy', hk', h4', ez, _⟩ := (usedOf_iff h.chip).1 hzm
          have eb : b' = v := by omega
          have ek : k' = k := by omega
          subst eb ek
          rw [hy] at hy'
          cases hy'
          rw [hp] at hk'
          cases hk'
          exact congrArg some (Prod.ext hLp rfl)
      have hMl : (M.map (·.page)).length = M.length := by simp
      have hcur : (bs.set f ⟨x.wear, padded (M.map (·.page))⟩)[f]? = some ⟨x.wear, padded (M.map (·.page))⟩ := List.getElem?_set_self hf
      have e3 : bs.set f ⟨x.wear, padded ((M ++ [(⟨1, (f : Int), { p with seq := seq + (M.length : Int) }⟩ : Opn)]).map (·.page))⟩ = (bs.set f ⟨x.wear, padded (M.map (·.page))⟩).set f ⟨x.wear, padded (M.map (·.page) ++ [{ p with seq := seq + (M.length : Int) }])⟩ := by
        rw [List.set_set]
        simp
      rw [e3] at ok' ⊢
      have hmem := used_prog (p := { p with seq := seq + (M.length : Int) }) I.ok ok' hcur (by rw [hMl]; omega) hpu
      rw [hMl] at hmem
      have hN := fun l => newest_more ok' I.ok hmem (fun z hz => I.top z hz) l
      refine ⟨ok', fun z hz => ?_, fun z hz => ?_, fun l hl => ?_, fun l z hz hj => ?_⟩
      · rcases (hmem z).1 hz with hz | rfl
        · exact I.logs z hz
        · exact hfit
      · rw [List.length_append]
        rcases (hmem z).1 hz with hz | rfl
        · have := I.top z hz; simp; omega
        · simp; omega
      · rw [hN l]
        rw [if_neg]
        · exact I.stay l (fun w hw ⟨j, hj, ej⟩ => hl w hw ⟨j, by omega, ej⟩)
        · intro el
          simp only at el
          rw [el] at hnew
          exact hl _ hnew ⟨k, by omega, rfl⟩
      · rw [hN l]
        by_cases el : p.log = l
        · rw [if_pos (show ({ p with seq := seq + (M.length : Int) } : Pg).log = l from el)]
          rw [el, hz] at hnew
          simp only [Option.some.injEq] at hnew
          subst hnew
          exact ⟨_, rfl, by simp only; omega, rfl⟩
        · rw [if_neg (show ¬ ({ p with seq := seq + (M.length : Int) } : Pg).log = l from el)]
          obtain ⟨j, hj, ej⟩ := hj
          by_cases ek : j = k
          · subst ek
            exfalso
            obtain ⟨hzm, hzl⟩ := newestAt_mem hz
            obtain ⟨b', k', y', hy', hk', h4', ez, _⟩ := (usedOf_iff h.chip).1 hzm
            have eb : b' = v := by omega
            have ek : k' = j := by omega
            subst eb ek
            rw [hy] at hy'
            cases hy'
            rw [hp] at hk'
            cases hk'
            exact el hzl
          · exact I.went l z hz ⟨j, by omega, ej⟩
    · have e : movedTo bs L (v : Int) (f : Int) seq (k + 1) = movedTo bs L (v : Int) (f : Int) seq k := by simp [movedTo, hm]
      rw [e]
      refine ⟨I.ok, I.logs, I.top, fun l hl => I.stay l (fun w hw ⟨j, hj, ej⟩ => hl w hw ⟨j, by omega, ej⟩), fun l z hz ⟨j, hj, ej⟩ => ?_⟩
      by_cases ek : j = k
      · subst ek
        exfalso
        have := h.newestIn hz
        rw [ej] at this
        rw [h.moves (by omega) (by omega)] at hm
        exact hm (by simpa using this)
      · exact I.went l z hz ⟨j, by omega, ej⟩
theorem Moved.read {bs bsk : List Bk} {f v k : Nat} {seq : Int} {n : Nat} (h : Moved bs bsk f v k seq n) (l : Int) : readOf bsk l = readOf bs l := by
  unfold readOf
  by_cases hj : ∃ y, newestAt (usedOf bs) l = some y ∧ ∃ j : Nat, j < k ∧ y.1 = (v : Int) * 4 + (j : Int)
  · obtain ⟨y, hy, hj⟩ := hj
    obtain ⟨z, hz, _, hd⟩ := h.went l y hy hj
    rw [hy, hz]
    simp [hd]
  · rw [h.stay l (fun y hy hj2 => hj ⟨y, hy, hj2⟩)]
/-- Behind all moves the block has no newest page any more. -/
theorem Moved.left {bs bsk : List Bk} {f v : Nat} {seq : Int} {n : Nat} (h : Moved bs bsk f v 4 seq n) (hok : ChipOk bs) (hne : v ≠ f) (l : Int) (z : Int × Pg) (hz : newestAt (usedOf bsk) l = some z) : ¬ z.1 / 4 = (v : Int) := by
  by_cases hj : ∃ y, newestAt (usedOf bs) l = some y ∧ ∃ j : Nat, j < 4 ∧ y.1 = (v : Int) * 4 + (j : Int)
  · obtain ⟨y, hy, hj⟩ := hj
    obtain ⟨z', hz', hf, _⟩ := h.went l y hy hj
    rw [hz] at hz'
    cases hz'
    omega
  · have e := h.stay l (fun y hy hj2 => hj ⟨y, hy, hj2⟩)
    rw [e] at hz
    intro hv
    obtain ⟨b, k, y, _, _, h4, ez, _⟩ := (usedOf_iff hok).1 (newestAt_mem hz).1
    exact hj ⟨z, hz, k, h4, by omega⟩

/-- How a right member is written to. -/
inductive Way (bs : List Bk) (L : List Int) (seq o : Int) : Prop where
  | room (ob : Nat) (wf : Int) (ps : List Pg) : o = (ob : Int) → bs[ob]? = some ⟨wf, padded ps⟩ → ps.length < 4 → (∀ q ∈ ps, q.used = true) → (∀ lg data, writeOps bs L seq o lg data = [⟨1, (ob : Int), ⟨true, lg, seq, data⟩⟩]) → Way bs L seq o
  | fresh (ob : Nat) (x : Bk) (fi : Nat) (wf : Int) (j : Nat) (y : Bk) : o = (ob : Int) → bs[ob]? = some x → fullB x = true → bs[fi]? = some ⟨wf, padded []⟩ → fi ≠ ob → bs[j]? = some y → freeB y = true → j ≠ fi → (∀ lg data, writeOps bs L seq o lg data = [⟨1, (fi : Int), ⟨true, lg, seq, data⟩⟩]) → Way bs L seq o
  | move (ob : Nat) (x : Bk) (fi : Nat) (fx : Bk) (v : Nat) (y : Bk) : o = (ob : Int) → bs[ob]? = some x → fullB x = true → bs[fi]? = some fx → freeB fx = true → bs[v]? = some y → v ≠ fi → (movedTo bs L (v : Int) (fi : Int) seq 4).length ≤ 3 → validIn L (v : Int) ≤ 3 → vicOf bs L (fi : Int) = (v : Int) → (∀ i z, bs[i]? = some z → i ≠ fi → fullB z = true) → (∀ lg data, writeOps bs L seq o lg data = moveOps bs L (v : Int) (fi : Int) seq ++ [⟨1, (fi : Int), ⟨true, lg, seq + ((movedTo bs L (v : Int) (fi : Int) seq 4).length : Int), data⟩⟩]) → Way bs L seq o
theorem next_of_free {x : Bk} (hfu : fullB x = false) : ∃ r, NextIs (pu x) 4 r ∧ 0 ≤ r := by
  unfold fullB at hfu
  cases e0 : pu x 0 with
  | false => exact ⟨0, .inl ⟨0, by omega, rfl, e0, fun j hj => by omega⟩, by omega⟩
  | true =>
    cases e1 : pu x 1 with
    | false => exact ⟨1, .inl ⟨1, by omega, rfl, e1, fun j hj => by
        have : j = 0 := by omega
        subst this
        exact e0⟩, by omega⟩
    | true =>
      cases e2 : pu x 2 with
      | false => exact ⟨2, .inl ⟨2, by omega, rfl, e2, fun j hj => by
          have : j = 0 ∨ j = 1 := by omega
          rcases this with rfl | rfl
          · exact e0
          · exact e1⟩, by omega⟩
      | true =>
        cases e3 : pu x 3 with
        | false => exact ⟨3, .inl ⟨3, by omega, rfl, e3, fun j hj => by
            have : j = 0 ∨ j = 1 ∨ j = 2 := by omega
            rcases this with rfl | rfl | rfl
            · exact e0
            · exact e1
            · exact e2⟩, by omega⟩
        | true => rw [e0, e1, e2, e3] at hfu; cases hfu
theorem FtlOk.way {bs : List Bk} {L : List Int} {seq o : Int} (h : FtlOk bs L seq o) : Way bs L seq o := by
  have hop := h.opn
  have hc := h.chip.count
  obtain ⟨ob, rfl⟩ := Int.eq_ofNat_of_zero_le hop.1
  obtain ⟨x, hx⟩ := getElem?_ex (l := bs) (k := ob) (by omega)
  have hx' : bs[((ob : Int)).toNat]? = some x := by simpa using hx
  have hxb := h.chip.block x (List.mem_of_getElem? hx)
  cases hfu : fullB x with
  | false =>
    obtain ⟨r, hr, hr0⟩ := next_of_free hfu
    obtain ⟨e1, e2, e3⟩ := full_order hxb hr hr0
    have hl4 := hxb.four
    refine .room ob x.wear (x.pages.take r.toNat) rfl (by rw [← e1]; exact hx) (by rw [List.length_take]; omega) e3 (fun lg data => ?_)
    unfold writeOps; rw [fullAt_of hx', hfu]; rfl
  | true =>
    obtain ⟨fi, fx, hfr, hfx, hff, hfl, _⟩ := h.fresh
    have hfxb := h.chip.block fx (List.mem_of_getElem? hfx)
    have hne : fi ≠ ob := by
      rintro rfl
      rw [hx] at hfx
      cases hfx
      have := fullB_pu hfu
      unfold freeB at hff
      rw [this] at hff
      cases hff
    by_cases hal : freshOf bs (freshOf bs (-1)) < 0
    · obtain ⟨hfew, v, y, hv, hy, hvn⟩ := h.victimFew hx' hfu hal
      have hvl := (List.getElem?_eq_some_iff.1 hy).1
      rw [hv] at hfew
      rw [hfr] at hvn hv
      have hj3 := moved_few (into := (fi : Int)) (s := seq) h (v := (v : Int)) (by omega)
      refine .move ob x fi fx v y rfl hx hfu hfx hff hy (by omega) (by omega) hfew hv (fun i z hz hn => ?_) (fun lg data => ?_)
      · have hi := (List.getElem?_eq_some_iff.1 hz).1
        have h1 := (freshIn_neg (bs := bs) (but := (fi : Int)) (L := freeTo bs bs.length) (fun y hy => by obtain ⟨i, _, rfl, _⟩ := mem_freeTo hy; omega)).1 (by rw [hfr] at hal; exact hal)
        have hnf : freeB z = false := by
          cases hfy : freeB z with
          | false => rfl
          | true =>
            exfalso
            have hb : begun bs i = false := by rw [begun_pu hz]; unfold freeB at hfy; simpa using hfy
            have := h1 _ (freeTo_mem hi hb)
            omega
        by_cases e : i = ob
        · subst e
          rw [hz] at hx
          cases hx
          exact hfu
        · have hh := h.settled.1 i z hi hz (by omega)
          unfold halfB at hh
          unfold freeB at hnf
          have hp : pu z 0 = true := by simpa using hnf
          rw [hp] at hh
          simpa using hh
      · unfold writeOps
        rw [fullAt_of hx', hfu, if_pos rfl, if_pos hal, hfr, hv]
    · have hp := free_pages hfxb hff
      have e1 : fx = ⟨fx.wear, padded []⟩ := by
        obtain ⟨fw, fp⟩ := fx
        simp only at hp
        rw [hp]
        rfl
      have hfree : ∃ (j : Nat) (y : Bk), bs[j]? = some y ∧ freeB y = true ∧ j ≠ fi := by
        apply Classical.byContradiction
        intro hno
        apply hal
        rw [hfr]
        refine (freshIn_neg (bs := bs) (but := (fi : Int)) (L := freeTo bs bs.length) (fun y hy => by obtain ⟨i, _, rfl, _⟩ := mem_freeTo hy; omega)).2 (fun z hz => ?_)
        obtain ⟨i, hi, rfl, hb⟩ := mem_freeTo hz
        obtain ⟨w, hw⟩ := getElem?_ex (l := bs) (k := i) hi
        by_cases e : i = fi
        · rw [e]
        · exact absurd ⟨i, w, hw, by rw [begun_pu hw] at hb; unfold freeB; simp [hb], e⟩ hno
      obtain ⟨j, y, hy, hfy, hjn⟩ := hfree
      refine .fresh ob x fi fx.wear j y rfl hx hfu (by rw [← e1]; exact hfx) hne hy hfy hjn (fun lg data => ?_)
      unfold writeOps
      rw [fullAt_of hx', hfu, if_pos rfl, if_neg hal, hfr]
theorem freeB_half {x : Bk} (h : freeB x = true) : halfB x = false := by unfold freeB at h; unfold halfB; simp at h; simp [h]
theorem fullB_half {x : Bk} (h : fullB x = true) : halfB x = false := by unfold halfB; simp [h]
theorem freeB_zero (w : Int) : freeB ⟨w, zeroBk.pages⟩ = true := rfl
/-- What is right of a member that is made of a chip. -/
theorem FtlOk.made {bs : List Bk} {L : List Int} {r : Bool} {s o : Int} (hok : ChipOk bs) (hf : Fits bs) (hM : MapIs bs r L) (hs : ∀ x ∈ usedOf bs, x.2.seq ≤ s) (h0 : 0 ≤ s) (h9 : s + 1 ≤ 1000000000) (ho : 0 ≤ o ∧ o ≤ (bs.length : Int) - 1) (hst : Settled bs o) : FtlOk bs L (s + 1) o := by
  have hr : r = true := hM.1.2 hf
  subst hr
  refine ⟨hok, hf, by rw [hM.2, if_pos rfl], ⟨?_, h9⟩, ho, hst⟩
  have := topOf_le hs h0
  unfold topSeq
  omega
theorem lastOp_one (x : Opn) : lastOp [x] = x := rfl
theorem lastOp_snoc (xs : List Opn) (x : Opn) : lastOp (xs ++ [x]) = x := by simp [lastOp]
/-- A write keeps a right member right: what was written is read, and all else as it was. -/
theorem FtlOk.wrote {bs : List Bk} {L : List Int} {seq o lg : Int} {data : ByteArray} (h : FtlOk bs L seq o) (hfo : formOk bs lg data) (hro : roomy bs seq) {bs' : List Bk} {L' : List Int} {seq' o' : Int} (hd : DoneIs bs L seq o lg data bs' L' seq' o') :
    FtlOk bs' L' seq' o' ∧ bs'.length = bs.length ∧ ∀ l, readOf bs' l = if lg = l then data else readOf bs l := by
  obtain ⟨hR, ⟨r, hM⟩, rfl, rfl⟩ := hd
  have hlen := hR.len
  have hroom : roomOf bs' = roomOf bs := by unfold roomOf; rw [hlen]
  have ok' := hR.ok h.chip
  have hsq := h.seq
  have htp := h.chip.top
  have hro2 := hro.2
  have hc := h.chip.count
  have hrm : (roomOf bs : Int) ≤ 36 := by unfold roomOf; omega
  have htop0 : ∀ z ∈ usedOf bs, z.2.seq < seq := fun z hz => by have := h.chip.seqs_top (used_seqs h.chip hz); omega
  have hright : ∀ s : Int, 1 ≤ s → s ≤ 1000000000 → rightUsed ⟨true, lg, s, data⟩ = true := fun s h1 h2 => by
    obtain ⟨f1, f2, f3⟩ := hfo
    unfold rightUsed
    simp only [Bool.and_eq_true, decide_eq_true_eq, Bool.true_and]
    exact ⟨⟨⟨f1, by omega⟩, h1, h2⟩, f3⟩
  have hs0 : ∀ s ∈ seqs bs, s < seq := fun s hs => by have := h.chip.seqs_top hs; omega
  have hread : ∀ (b0 : List Bk) (q : Int × Pg), q.2.log = lg → q.2.data = data → (∀ l, newestAt (usedOf bs') l = if q.2.log = l then some q else newestAt (usedOf b0) l) → (∀ l, readOf b0 l = readOf bs l) → ∀ l, readOf bs' l = if lg = l then data else readOf bs l := by
    intro b0 q hql hqd hn h0 l
    have e1 : readOf bs' l = ((newestAt (usedOf bs') l).map (·.2.data)).getD zeros4 := rfl
    rw [e1, hn l, hql]
    by_cases hl : lg = l
    · rw [if_pos hl, if_pos hl]
      simp [hqd]
    · rw [if_neg hl, if_neg hl]
      exact h0 l
  cases h.way with
  | room ob wf ps ho hx hlt hu hops =>
    subst ho
    have hob := (List.getElem?_eq_some_iff.1 hx).1
    rw [hops lg data] at hR ⊢
    have hst := step_prog (p := ⟨true, lg, seq, data⟩) h.chip hx hlt hu (hright seq (by omega) hsq.2) hs0
    obtain rfl : bs' = _ := hR.one (o2 := bs.set ob ⟨wf, padded (ps ++ [(⟨true, lg, seq, data⟩ : Pg)])⟩) ⟨_, hst, rfl⟩
    have hmem := used_prog (p := ⟨true, lg, seq, data⟩) h.chip ok' hx hlt rfl
    have hN := newest_more ok' h.chip hmem htop0
    rw [lastOp_one]
    refine ⟨FtlOk.made (s := seq) ok' (fun z hz => ?_) hM (fun z hz => ?_) (by omega) (by omega) ⟨by simp only; omega, by simp only [List.length_set]; omega⟩ ⟨fun i z hi hz hn => ?_, ?_⟩, hlen, hread bs _ rfl rfl hN (fun l => rfl)⟩
    · rw [hroom]
      rcases (hmem z).1 hz with hz | rfl
      · exact h.fits z hz
      · exact hfo.2.1
    · rcases (hmem z).1 hz with hz | rfl
      · have := htop0 z hz; omega
      · exact Int.le_refl _
    · have hn' : ob ≠ i := fun e => hn (by subst e; rfl)
      rw [List.getElem?_set_ne hn'] at hz
      exact h.settled.1 i z (by simpa using hi) hz hn
    · obtain ⟨i, z, hi, hz, hn, hf⟩ := h.settled.2
      exact ⟨i, z, by simpa using hi, by rw [List.getElem?_set_ne (fun e => hn (by subst e; rfl))]; exact hz, hn, hf⟩
  | fresh ob x fi wf j y ho hx hfull hfx hne hy hfy hjn hops =>
    subst ho
    have hfi := (List.getElem?_eq_some_iff.1 hfx).1
    have hjl := (List.getElem?_eq_some_iff.1 hy).1
    rw [hops lg data] at hR ⊢
    have hst := step_prog (p := ⟨true, lg, seq, data⟩) h.chip hfx (by simp) (fun q hq => by simp at hq) (hright seq (by omega) hsq.2) hs0
    obtain rfl : bs' = _ := hR.one (o2 := bs.set fi ⟨wf, padded ([] ++ [(⟨true, lg, seq, data⟩ : Pg)])⟩) ⟨_, hst, rfl⟩
    have hmem := used_prog (p := ⟨true, lg, seq, data⟩) h.chip ok' hfx (by simp) rfl
    have hN := newest_more ok' h.chip hmem htop0
    rw [lastOp_one]
    refine ⟨FtlOk.made (s := seq) ok' (fun z hz => ?_) hM (fun z hz => ?_) (by omega) (by omega) ⟨by simp only; omega, by simp only [List.length_set]; omega⟩ ⟨fun i z hi hz hn => ?_, ?_⟩, hlen, hread bs _ rfl rfl hN (fun l => rfl)⟩
    · rw [hroom]
      rcases (hmem z).1 hz with hz | rfl
      · exact h.fits z hz
      · exact hfo.2.1
    · rcases (hmem z).1 hz with hz | rfl
      · have := htop0 z hz; omega
      · exact Int.le_refl _
    · have hn' : fi ≠ i := fun e => hn (by subst e; rfl)
      rw [List.getElem?_set_ne hn'] at hz
      by_cases e : i = ob
      · subst e
        rw [hx] at hz
        cases hz
        exact fullB_half hfull
      · exact h.settled.1 i z (by simpa using hi) hz (by omega)
    · exact ⟨j, y, by simpa using hjl, by rw [List.getElem?_set_ne (fun e => hjn e.symm)]; exact hy, fun e => hjn (by simp only at e; omega), hfy⟩
  | move ob x fi fx v y ho hx hfull hfx hff hy hvn hj3 hfew hvic hall hops =>
    subst ho
    have hfi := (List.getElem?_eq_some_iff.1 hfx).1
    have hvl := (List.getElem?_eq_some_iff.1 hy).1
    rw [hops lg data] at hR ⊢
    obtain ⟨m1, m2, m3⟩ := runs_moves h hro2 hfx hff hvl 4 (Nat.le_refl _)
    have I := moves_moved h hro2 hfx hff hvl 4 (Nat.le_refl _)
    obtain ⟨M, hMM⟩ : ∃ M, M = movedTo bs L (v : Int) (fi : Int) seq 4 := ⟨_, rfl⟩
    unfold moveOps at hR ⊢
    rw [← hMM] at m1 m2 m3 hj3 I hR ⊢
    have ok1 := m1.ok h.chip
    have hyw : y.wear ≠ 1000000000 := fun e => hro.1 ⟨v, y, hvl, hy, e⟩
    have hy1 : (bs.set fi ⟨fx.wear, padded (M.map (·.page))⟩)[v]? = some y := by rw [List.getElem?_set_ne (by omega)]; exact hy
    have st1 := step_erase ok1 hy1 hyw
    have r1 := runs_snoc.2 ⟨_, m1, st1⟩
    have ok2 := r1.ok h.chip
    have hf2 : ((bs.set fi ⟨fx.wear, padded (M.map (·.page))⟩).set v ⟨y.wear + 1, zeroBk.pages⟩)[fi]? = some ⟨fx.wear, padded (M.map (·.page))⟩ := by
      rw [List.getElem?_set_ne (by omega)]
      simp [hfi]
    have st2 := step_prog (p := ⟨true, lg, seq + (M.length : Int), data⟩) ok2 hf2 (by simp; omega) m2 (hright _ (by omega) (by omega)) (fun s hs => by
      rcases seqs_set_mem hs with h1 | ⟨q, hq2, hqu, rfl⟩
      · exact m3 s h1
      · simp [zeroBk] at hq2
        rw [hq2] at hqu
        cases hqu)
    obtain rfl := hR.one (runs_snoc.2 ⟨_, r1, st2⟩)
    have hmE := used_erase (wv := y.wear + 1) ok1 ok2 (show v < _ by simpa using hvl)
    have hlM : (M.map (·.page)).length = M.length := by simp
    have hmem := used_prog (p := ⟨true, lg, seq + (M.length : Int), data⟩) ok2 ok' hf2 (by simp; omega) rfl
    have hN := newest_more ok' ok2 hmem (fun z hz => I.top z ((hmE z).1 hz).1)
    have hE : ∀ l, readOf ((bs.set fi ⟨fx.wear, padded (M.map (·.page))⟩).set v ⟨y.wear + 1, zeroBk.pages⟩) l = readOf bs l := fun l => by
      rw [← I.read l]
      unfold readOf
      rw [newest_less ok2 ok1 hmE (fun z hz => I.left h.chip hvn l z hz)]
    rw [lastOp_snoc]
    refine ⟨FtlOk.made (s := seq + (M.length : Int)) ok' (fun z hz => ?_) hM (fun z hz => ?_) (by omega) (by omega) ⟨by simp only; omega, by simp only [List.length_set]; omega⟩ ⟨fun i z hi hz hn => ?_, ?_⟩, hlen, hread _ _ rfl rfl hN hE⟩
    · rw [hroom]
      rcases (hmem z).1 hz with hz | rfl
      · exact I.logs z ((hmE z).1 hz).1
      · exact hfo.2.1
    · rcases (hmem z).1 hz with hz | rfl
      · have := I.top z ((hmE z).1 hz).1; omega
      · exact Int.le_refl _
    · simp only at hn
      have hn' : fi ≠ i := fun e => hn (by subst e; rfl)
      rw [List.getElem?_set_ne hn'] at hz
      by_cases e : v = i
      · subst e
        rw [List.getElem?_set_self (by simpa using hvl)] at hz
        cases hz
        exact freeB_half (freeB_zero _)
      · rw [List.getElem?_set_ne e, List.getElem?_set_ne hn'] at hz
        exact fullB_half (hall i z hz (fun h => hn' h.symm))
    · refine ⟨v, ⟨y.wear + 1, zeroBk.pages⟩, by simpa using hvl, ?_, by simp only; omega, freeB_zero _⟩
      rw [List.getElem?_set_ne (fun h => hvn h.symm), List.getElem?_set_self (by simpa using hvl)]
end Go.Proofs.YtalgkmellbamgaaGreat

/- What the library's contract of strings.Repeat asks of this program: its numbers. -/
namespace Go.Proofs.YtalgkmellbamgaaGreat
open Go.Shelf
def rep_ren : Go.Shelf.Ren := ⟨fun | 105 => 114 | 212 => 132 | 99 => 133 | 165 => 134 | 166 => 135 | 170 => 136 | 169 => 137 | 263 => 142 | 264 => 143 | 206 => 144 | 240 => 145 | 241 => 146 | 276 => 150 | 277 => 151 | n => n, fun | 9 => 9 | 3 => 3 | 4 => 4 | 20 => 20 | 0 => 0 | 46 => 160 | 109 => 179 | 5 => 5 | 72 => 184 | 76 => 188 | 51 => 193 | 146 => 194 | 53 => 158 | 148 => 196 | 70 => 182 | 37 => 22 | 75 => 187 | 127 => 198 | 164 => 203 | 80 => 90 | n => n, fun | n => n⟩
theorem rep_lays : Go.Proofs.Lays.n105 Tryz.prog rep_ren := {
  mixed := by kernel_rfl
  f99 := Tryz.func133.trans (congrArg some (by kernel_rfl))
  f105 := Tryz.func114.trans (congrArg some (by kernel_rfl))
  f165 := Tryz.func134.trans (congrArg some (by kernel_rfl))
  f166 := Tryz.func135.trans (congrArg some (by kernel_rfl))
  f169 := Tryz.func137.trans (congrArg some (by kernel_rfl))
  f170 := Tryz.func136.trans (congrArg some (by kernel_rfl))
  f206 := Tryz.func144.trans (congrArg some (by kernel_rfl))
  f212 := Tryz.func132.trans (congrArg some (by kernel_rfl))
  f240 := Tryz.func145.trans (congrArg some (by kernel_rfl))
  f241 := Tryz.func146.trans (congrArg some (by kernel_rfl))
  f263 := Tryz.func142.trans (congrArg some (by kernel_rfl))
  f264 := Tryz.func143.trans (congrArg some (by kernel_rfl))
  f276 := Tryz.func150.trans (congrArg some (by kernel_rfl))
  f277 := Tryz.func151.trans (congrArg some (by kernel_rfl))
  t0 := Tryz.underlying0
  a0 := Tryz.isAgg0
  z0 := Tryz.sizeOf0
  v0 := Tryz.zeroValue0
  t3 := Tryz.underlying3
  a3 := Tryz.isAgg3
  z3 := Tryz.sizeOf3
  v3 := Tryz.zeroValue3
  t4 := Tryz.underlying4
  a4 := Tryz.isAgg4
  z4 := Tryz.sizeOf4
  v4 := Tryz.zeroValue4
  t5 := Tryz.underlying5
  a5 := Tryz.isAgg5
  z5 := Tryz.sizeOf5
  v5 := Tryz.zeroValue5
  t9 := Tryz.underlying9
  a9 := Tryz.isAgg9
  z9 := Tryz.sizeOf9
  v9 := Tryz.zeroValue9
  t20 := Tryz.underlying20
  a20 := Tryz.isAgg20
  z20 := Tryz.sizeOf20
  v20 := Tryz.zeroValue20
  t37 := Tryz.underlying22
  a37 := Tryz.isAgg22
  z37 := Tryz.sizeOf22
  v37 := Tryz.zeroValue22
  t46 := Tryz.underlying160
  a46 := Tryz.isAgg160
  z46 := Tryz.sizeOf160
  v46 := Tryz.zeroValue160
  t51 := Tryz.underlying193
  a51 := Tryz.isAgg193
  z51 := Tryz.sizeOf193
  v51 := Tryz.zeroValue193
  t53 := Tryz.underlying158
  a53 := Tryz.isAgg158
  z53 := Tryz.sizeOf158
  v53 := Tryz.zeroValue158
  t70 := Tryz.underlying182
  a70 := Tryz.isAgg182
  z70 := Tryz.sizeOf182
  v70 := Tryz.zeroValue182
  t72 := Tryz.underlying184
  a72 := Tryz.isAgg184
  z72 := Tryz.sizeOf184
  v72 := Tryz.zeroValue184
  t75 := Tryz.underlying187
  a75 := Tryz.isAgg187
  z75 := Tryz.sizeOf187
  v75 := Tryz.zeroValue187
  t76 := Tryz.underlying188
  a76 := Tryz.isAgg188
  z76 := Tryz.sizeOf188
  v76 := Tryz.zeroValue188
  t109 := Tryz.underlying179
  a109 := Tryz.isAgg179
  z109 := Tryz.sizeOf179
  v109 := Tryz.zeroValue179
  t127 := Tryz.underlying198
  a127 := Tryz.isAgg198
  z127 := Tryz.sizeOf198
  v127 := Tryz.zeroValue198
  t146 := Tryz.underlying194
  a146 := Tryz.isAgg194
  z146 := Tryz.sizeOf194
  v146 := Tryz.zeroValue194
  t148 := Tryz.underlying196
  a148 := Tryz.isAgg196
  z148 := Tryz.sizeOf196
  v148 := Tryz.zeroValue196
  t164 := Tryz.underlying203
  a164 := Tryz.isAgg203
  z164 := Tryz.sizeOf203
  v164 := Tryz.zeroValue203 }
theorem rep_extra : Builder.Extra Tryz.prog rep_ren := {
  sizeBuilder := by kernel_rfl
  liesBuilder := by kernel_rfl
  t5 := Tryz.underlying5
  a5 := Tryz.isAgg5
  z5 := Tryz.sizeOf5
  v5 := Tryz.zeroValue5
  infoByte := by kernel_rfl
  cellsByte := by kernel_rfl
  sizeByte := by kernel_rfl
  neB5 := by decide }
end Go.Proofs.YtalgkmellbamgaaGreat

/- What is read of a log: the program's dataAt and PageAt. -/
namespace Go.Proofs.YtalgkmellbamgaaGreat
open Go.RowKit
set_option linter.unusedVariables false
set_option linter.unusedSimpArgs false

theorem repeat4 (w : World) : Calls Tryz.prog 114 #[.string ⟨#[0]⟩, .int .i64 4] w fun e w' => e = .returned (.string zeros4) ∧ Below w.heap.size w w' := by
  refine (Any.strings_Repeat rep_lays rep_extra ⟨#[0]⟩ 4 w (by omega) (by decide)).mono ?_
  rintro e w1 ⟨rfl, hB⟩
  exact ⟨by rfl, hB⟩

theorem blankData_any (w : World) : Calls Tryz.prog 84 #[] w fun e w' => e = .returned (.string zeros4) ∧ Below w.heap.size w w' := by
  go_enter Tryz.func84, Tryz.ntmps84
  go_wp2_with fail
  refine (repeat4 _).mono ?_
  rintro e w1 ⟨rfl, hB⟩
  go_wp2
  go_ret
  exact ⟨rfl, hB⟩

set_option maxRecDepth 100000 in
set_option maxHeartbeats 1000000 in
theorem dataAt_any (A : Array Value) (m : CC) (bs : List Bk) (hbs : ccBs m bs.length = bs) (hAp : ∀ b k j, b < 12 → k < 4 → j < 4 → A[1 + b * 17 + 1 + k * 4 + j]? = some (pgV (m.page b k) j)) (L : List Int) (seq o : Int) (hok : FtlOk bs L seq o) (x : Int) (hx : x ∈ L) (w : World) :
    Calls Tryz.prog 45 #[.agg A, .int .i64 x] w fun e w' => e = .returned (.string (dataOf bs x)) ∧ Below w.heap.size w w' := by
  have hb0 : ∀ o, Below w.heap.size w (w.alloc o) := fun o => (Below.refl _ w).alloc (Nat.le_refl _) _
  have hpl := hok.places x hx
  by_cases h0 : x < 0
  · obtain rfl : x = -1 := by omega
    have HD := hide (dataOf_none (bs := bs) h0)
    clear hok hx hpl hAp hbs
    go_enter Tryz.func45, Tryz.ntmps45
    go_wp2_with fail
    refine (blankData_any _).mono ?_
    rintro e w1 ⟨rfl, hB⟩
    go_wp2
    go_ret
    exact ⟨by rw [unhide HD]; rfl, (hb0 _).trans (hB.mono (by simp))⟩
  · have hc := hok.chip.count
    obtain ⟨q, t, y, p, hq, ht, hqb, ht4, hy, hp⟩ := hok.placed hx (by omega)
    have HD := hide (dataOf_at (bs := bs) (by omega) hq ht hy hp)
    have hcd := hAp q t 3 (by omega) ht4 (by omega)
    have hpg : m.page q t = p := by
      have e := ccBs_at m hqb
      rw [hbs, hy] at e
      cases e
      have e2 := ccPs_at m q ht4
      rw [hp] at e2
      cases e2
      rfl
    rw [hpg] at hcd
    have hcw : ∀ ty, (w.alloc (.cells A ty)).cell? ⟨w.heap.size, 1 + q * 17 + 1 + t * 4 + 3, none⟩ = some (.string p.data) := fun ty => (cell_of_row _ _ _ _ _ _ (Go.Deep.blk_alloc_new _ _)).trans hcd
    have hq12 : (q : Int) < 12 := by omega
    have ht4' : (t : Int) < 4 := by omega
    have hx48 : x < 48 := by omega
    have hx0 : 0 ≤ x := by omega
    have hne : (x == -1) = false := by simp; omega
    clear hok hx hpl hAp hbs hcd hpg hy hp h0 hc hqb
    go_enter Tryz.func45, Tryz.ntmps45
    go_wp2
    go_ret
    exact ⟨by rw [unhide HD]; rfl, hb0 _⟩

set_option maxRecDepth 100000 in
set_option maxHeartbeats 1000000 in
theorem implPageAt_any (a : Option Addr) (c : Nat) (bs : List Bk) (n : Nat) (hl : bs.length = n) (ma : Option Addr) (mc : Nat) (L : List Int) (mn : Nat) (hL : L.length = mn) (seq o lg : Int) (w : World) (h : BlocksAt w a bs) (hn : Lens 9223372036854775807 bs) (hI : IntsAt w ma L) (hmn : mn ≤ 9223372036854775807) :
    Calls Tryz.prog 12 #[.agg #[.slice a n c, .slice ma mn mc, .int .i64 seq, .int .i64 o], .int .i64 lg] w fun e w' => ∃ (d : ByteArray) (r : Bool), e = .returned (.tuple #[.string d, .bool r]) ∧ PageIs bs L seq o lg d r ∧ Below w.heap.size w w' := by
  have hb0 : ∀ o, Below w.heap.size w (w.alloc o) := fun o => (Below.refl _ w).alloc (Nat.le_refl _) _
  have hmix : Tryz.prog.follows .mixedOrders = true := by kernel_rfl
  go_enter Tryz.func12, Tryz.ntmps12
  go_wp2_with fail
  refine (rightCells_any a c bs n hl ma mc L mn hL seq o _ (h.below (hb0 _) (Nat.le_refl _)) hn (hI.below (hb0 _) (Nat.le_refl _)) hmn).mono ?_
  rintro e w1 ⟨⟨m, r, rfl, hr, hm⟩, hB1⟩
  have hW1 : Below w.heap.size w w1 := (hb0 _).trans (hB1.mono (by simp))
  have hs1 := hB1.size
  simp at hs1
  have hx1 : ∀ o', (w1.alloc o').cell? ⟨w.heap.size, 1, none⟩ = some (.slice ma mn mc) := fun o' => by
    rw [cell_alloc_lt _ _ _ _ (by omega), hB1.cell (p := ⟨w.heap.size, 1, none⟩) (by simp)]
    simp
  have hsc := store_cc m w1
  have hAs := ccA_size m
  have hA0 := ccA_count m
  have HSZ := hide (sizeCC m)
  have HAP := hide (fun b k j hb hk hj => ccA_page m (b := b) (k := k) (j := j) hb hk hj)
  have HR := hide hr
  have HM := hide hm
  have HI := hide (hI.below hW1 (Nat.le_refl _))
  have HL := hide hl
  have HLL := hide hL
  generalize ccA m = A at hsc hAs hA0 HSZ HAP
  have HA0 := hide hA0
  clear hr hm hA0 h hn hB1 hb0 hI hl hL
  cases r with
  | false =>
    go_wp2
    exact bodyPost_ret (v := .tuple #[.string ⟨#[]⟩, .bool false]) (by simp [results, Tryz.results12, go_sem]) rfl ⟨_, _, rfl, .inr ⟨(fun hc => by have := (unhide HR).2 hc.1; cases this), rfl, rfl⟩, hW1.alloc hW1.size _⟩
  | true =>
    have hok := (unhide HR).1 (by trivial)
    have hc12 : 4 ≤ n ∧ n ≤ 12 := by have := hok.chip.count; have := unhide HL; omega
    have hmn4 : (mn : Int) = 4 * ((n : Int) - 3) := by have := hok.len; have := unhide HLL; have := unhide HL; omega
    obtain ⟨hct, hbss⟩ := unhide HM (by trivial)
    have hA0 := unhide HA0
    rw [hct, unhide HL] at hA0
    have hc0 : (w1.alloc (.cells A 65)).cell? ⟨w1.heap.size, 0, none⟩ = some (.int .i64 (n : Int)) := (cell_of_row _ _ 0 _ _ _ (Go.Deep.blk_alloc_new _ _)).trans hA0
    have HS := hide hbss
    have HO := hide hok
    have HMN := hide hmn4
    obtain ⟨w2, hw2⟩ : ∃ w2, w2 = w1.alloc (.cells A 65) := ⟨_, rfl⟩
    have hx2 := hx1 (.cells A 65)
    rw [← hw2] at hc0 hsc hx2
    have hs2 : w1.heap.size < w2.heap.size := by rw [hw2]; simp
    have HLD : Hid (∀ j, j < 205 → w2.cell? ⟨w1.heap.size, 0 + j, none⟩ = A[j]?) := fun j hj => by rw [hw2, Nat.zero_add]; exact cell_of_row _ _ j _ _ _ (Go.Deep.blk_alloc_new _ _)
    have hW2 : Below w.heap.size w w2 := by rw [hw2]; exact hW1.alloc hW1.size _
    have HI2 : Hid (IntsAt w2 ma L) := by rw [hw2]; exact (unhide HI).below ((Below.refl _ w1).alloc (Nat.le_refl _) _) (Nat.le_refl _)
    clear hok hA0 HA0 HM hct hbss hw2 hx1 HI hW1 hmn4
    go_wp2_with fail
    refine (implRoomFor_any (n : Int) _).mono ?_
    rintro e w3 ⟨rfl, rfl⟩
    rw [roomI_in (by omega), ← unhide HMN]
    have hmn36 : mn ≤ 36 := by have := unhide HMN; omega
    go_wp2_with fail
    refine (within_any _ _ _ _).mono ?_
    rintro e w4 ⟨rfl, rfl⟩
    by_cases hin : 0 ≤ lg ∧ lg ≤ (mn : Int) - 1
    · obtain ⟨k, rfl⟩ := Int.eq_ofNat_of_zero_le hin.1
      obtain ⟨x, hx⟩ := getElem?_ex (l := L) (k := k) (by have := unhide HLL; omega)
      have hd : decide ((0 : Int) ≤ (k : Int) ∧ (k : Int) ≤ (mn : Int) - 1) = true := by simpa using hin
      rw [hd]
      have hkm : (k : Int) < (mn : Int) := by omega
      obtain ⟨b1, o1, rfl, hcx⟩ := (unhide HI2) k x hx
      have hb1 : b1 < w4.heap.size := World.block_lt_of_cell? _ _ hcx
      have HDA : Hid (∀ W, Calls Tryz.prog 45 #[.agg A, .int .i64 x] W fun e w' => e = .returned (.string (dataOf bs x)) ∧ Below W.heap.size W w') := fun W => dataAt_any A m bs (unhide HS) (unhide HAP) L seq o (unhide HO) x (List.mem_of_getElem? hx) W
      have HX := hide hx
      have HIN := hide hin
      obtain ⟨D, hD⟩ : ∃ D, D = dataOf bs x := ⟨_, rfl⟩
      rw [← hD] at HDA
      have HDD := hide hD
      clear hx hin hd hc0 hsc hD
      go_wp2_with fail
      refine wp_region_grown (Below w4.heap.size w4) hmix (by kernel_rfl) (below_drawn w4) ?_
      refine wpQuiet_val rfl (.agg A) (fun W hC => quietAt_load_mid 65 _ rfl w1.heap.size 0 rfl A 205 hAs (fun j hj => (hC.cell (p := ⟨w1.heap.size, 0 + j, none⟩) (by show w1.heap.size < _; omega)).trans (unhide HLD j hj)) _ Tryz.underlying65 rfl sizeCC') ?_
      simp only [Act.put, List.setIfInBounds_toArray, List.set_cons_zero, List.set_cons_succ]
      go_big_quiet_step (exact fun _ => rfl)
      refine wpQuiet_val rfl (.slice (some ⟨b1, o1, none⟩) mn mc) (fun W hC => ?_) ?_
      · have hcl := (hC.cell (p := ⟨w.heap.size, 1, none⟩) (by show w.heap.size < _; omega)).trans hx2
        go_simp
      simp only [Act.put, List.setIfInBounds_toArray, List.set_cons_zero, List.set_cons_succ]
      go_big_quiet_step (exact fun _ => rfl)
      go_big_quiet_step (exact fun _ => rfl)
      refine wpQuiet_val rfl (.int .i64 x) (fun W hC => ?_) ?_
      · have hcl := (hC.cell (p := ⟨b1, o1 + k, none⟩) hb1).trans hcx
        go_simp
      simp only [Act.put, List.setIfInBounds_toArray, List.set_cons_zero, List.set_cons_succ]
      refine wpQuiet_val rfl (.string D) (fun W hC => ?_) ?_
      · go_simp
        refine (unhide HDA W).mono ?_
        rintro e w' ⟨rfl, hB'⟩
        exact ⟨rfl, hC.trans (hB'.mono hC.size)⟩
      simp only [Act.put, List.setIfInBounds_toArray, List.set_cons_zero, List.set_cons_succ]
      go_big_quiet_step (exact fun _ => rfl)
      go_big_quiet_step (exact fun _ => rfl)
      refine wpQuiet_nil ?_
      intro w8 hC8
      have hW8 := hW2.trans (hC8.mono hW2.size)
      clear hC8 hx2 hcx HDA
      go_wp2
      exact bodyPost_ret (v := .tuple #[.string D, .bool true]) (by simp [results, Tryz.results12, go_sem]) rfl ⟨_, _, rfl, .inl ⟨⟨unhide HO, (unhide HIN).1, by rw [unhide HLL]; exact (unhide HIN).2⟩, rfl, x, by simpa using unhide HX, unhide HDD⟩, hW8⟩
    · have hd : decide ((0 : Int) ≤ lg ∧ lg ≤ (mn : Int) - 1) = false := by simpa using hin
      rw [hd]
      clear hc0 hsc hx2
      go_wp2
      exact bodyPost_ret (v := .tuple #[.string ⟨#[]⟩, .bool false]) (by simp [results, Tryz.results12, go_sem]) rfl ⟨_, _, rfl, .inr ⟨fun hc => hin (by rw [← unhide HLL]; exact hc.2), rfl, rfl⟩, hW2⟩
end Go.Proofs.YtalgkmellbamgaaGreat
