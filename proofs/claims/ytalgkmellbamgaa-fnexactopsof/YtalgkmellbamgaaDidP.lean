/- Ops done one by one, as plain lists say it; a right chip stays one. No program is named here. -/
import Derived.Test.YtalgkmellbamgaaOpM
import Derived.Test.YtalgkmellbamgaaProgP
namespace Go.Proofs.Ytalgkmellbamgaa
open Go.RowKit
set_option linter.unusedVariables false
set_option linter.unusedSimpArgs false

theorem seqs_split {bs : List Bk} {i : Nat} {b : Bk} (h : bs[i]? = some b) : seqs bs = seqs (bs.take i) ++ (seqsP b.pages ++ seqs (bs.drop (i + 1))) := by
  obtain ⟨hi, rfl⟩ := List.getElem?_eq_some_iff.1 h
  have e : bs = bs.take i ++ (bs[i] :: bs.drop (i + 1)) := by simp
  conv => lhs; rw [e]
  rw [seqs_append]
  rfl
theorem seqs_set {bs : List Bk} {i : Nat} {b c : Bk} (h : bs[i]? = some b) : seqs (bs.set i c) = seqs (bs.take i) ++ (seqsP c.pages ++ seqs (bs.drop (i + 1))) := by
  have hi := (List.getElem?_eq_some_iff.1 h).1
  have h2 : (bs.set i c)[i]? = some c := by simp [hi]
  rw [seqs_split h2]
  have e1 : (bs.set i c).take i = bs.take i := by rw [List.take_set]; exact List.set_eq_of_length_le (by simp; omega)
  have e2 : (bs.set i c).drop (i + 1) = bs.drop (i + 1) := by rw [List.drop_set]; simp
  rw [e1, e2]
theorem seqsP_split {ps : List Pg} {r : Nat} {q : Pg} (h : ps[r]? = some q) : seqsP ps = seqsP (ps.take r) ++ ((if q.used then [q.seq] else []) ++ seqsP (ps.drop (r + 1))) := by
  obtain ⟨hi, rfl⟩ := List.getElem?_eq_some_iff.1 h
  have e : ps = ps.take r ++ ([ps[r]] ++ ps.drop (r + 1)) := by simp
  conv => lhs; rw [e]
  rw [seqsP_append, seqsP_append]
  congr 2
  by_cases hu : ps[r].used <;> simp [seqsP, hu]
theorem seqsP_set {ps : List Pg} {r : Nat} {q p : Pg} (h : ps[r]? = some q) (hp : p.used = true) : seqsP (ps.set r p) = seqsP (ps.take r) ++ (p.seq :: seqsP (ps.drop (r + 1))) := by
  have hi := (List.getElem?_eq_some_iff.1 h).1
  have h2 : (ps.set r p)[r]? = some p := by simp [hi]
  rw [seqsP_split h2]
  have e1 : (ps.set r p).take r = ps.take r := by rw [List.take_set]; exact List.set_eq_of_length_le (by simp; omega)
  have e2 : (ps.set r p).drop (r + 1) = ps.drop (r + 1) := by rw [List.drop_set]; simp
  rw [e1, e2, hp]
  rfl

theorem chipOk_set {bs : List Bk} (h : ChipOk bs) {i : Nat} {b c : Bk} (hb : bs[i]? = some b) (hc : BkOk c) (hn : (seqs (bs.set i c)).Nodup) : ChipOk (bs.set i c) := by
  refine ⟨by rw [List.length_set]; exact h.count, fun x hx => ?_, hn⟩
  rcases List.mem_or_eq_of_mem_set hx with h1 | rfl
  · exact h.block x h1
  · exact hc
theorem ErasedIs.ok {bs : List Bk} {blk : Int} {out : List Bk} {code : Int} (h : ErasedIs bs blk out code) (hok : ChipOk bs) : ChipOk out := by
  rcases h with ⟨h1, _⟩ | ⟨_, _, rfl, _⟩ | ⟨_, _, b, hb, ⟨_, rfl, _⟩ | ⟨hw, rfl, _⟩⟩
  · exact absurd hok h1
  · exact hok
  · exact hok
  · have hbk := hok.block b (List.mem_of_getElem? hb)
    refine chipOk_set hok hb ⟨?_, rfl, fun k p hp => ?_, fun k p q hq hp hu => ?_⟩ ?_
    · have := hbk.wear
      show 0 ≤ b.wear + 1 ∧ b.wear + 1 ≤ 1000000000
      omega
    · have hm := List.mem_of_getElem? hp
      simp [zeroBk] at hm
      rw [hm]; rfl
    · have hm := List.mem_of_getElem? hp
      simp [zeroBk] at hm
      rw [hm] at hu
      cases hu
    · rw [seqs_set hb]
      have e : seqsP zeroBk.pages = [] := rfl
      have h2 := hok.nodup
      rw [seqs_split hb] at h2
      refine List.Sublist.nodup (List.Sublist.append_left ?_ _) h2
      show (seqsP zeroBk.pages ++ seqs (bs.drop (blk.toNat + 1))).Sublist _
      rw [e]
      exact List.sublist_append_right _ _
theorem ProgIs.ok {bs : List Bk} {blk : Int} {p : Pg} {out : List Bk} {code : Int} (h : ProgIs bs blk p out code) (hok : ChipOk bs) : ChipOk out := by
  rcases h with ⟨h1, _⟩ | ⟨_, _, rfl, _⟩ | ⟨_, hP, b, r, hb, hr, ⟨_, rfl, _⟩ | ⟨hr0, rfl, _⟩⟩
  · exact absurd hok h1
  · exact hok
  · exact hok
  · have hbk := hok.block b (List.mem_of_getElem? hb)
    rcases hr with ⟨k, hk, rfl, hu, hall⟩ | ⟨rfl, _⟩
    · have h4 := hbk.four
      obtain ⟨q, hq⟩ := getElem?_ex (l := b.pages) (k := k) (by omega)
      have hqu : q.used = false := by simpa [pagesF, hq] using hu
      have hru := hP.2.1
      have hpu : p.used = true := by unfold rightUsed at hru; simp at hru; exact hru.1.1.1
      have hkn : ((k : Int)).toNat = k := by simp
      rw [hkn]
      refine chipOk_set hok hb ⟨hbk.wear, by simpa using h4, fun j x hx => ?_, fun j x y hy hx hxu => ?_⟩ ?_
      · simp only [List.getElem?_set] at hx
        split at hx
        · split at hx
          · cases hx
            unfold pgOk
            rw [hpu]
            exact hru
          · cases hx
        · exact hbk.page j x hx
      · simp only [List.getElem?_set] at hx hy
        by_cases e1 : k = j
        · subst e1
          rw [if_pos rfl] at hy
          split at hy
          · cases hy; exact hpu
          · cases hy
        · rw [if_neg e1] at hy
          by_cases e2 : k = j + 1
          · have hj := hall j (by omega)
            simpa [pagesF, hy] using hj
          · rw [if_neg e2] at hx
            exact hbk.order j x y hy hx hxu
      · rw [seqs_set hb]
        show (seqs (bs.take blk.toNat) ++ (seqsP (b.pages.set k p) ++ seqs (bs.drop (blk.toNat + 1)))).Nodup
        rw [seqsP_set hq hpu]
        have h2 := hok.nodup
        have hnot := hP.2.2
        rw [seqs_split hb, seqsP_split hq, hqu] at h2 hnot
        simp only [Bool.false_eq_true, if_false, List.nil_append, List.append_assoc] at h2 hnot
        simp only [List.append_assoc, List.cons_append]
        have e : (seqs (bs.take blk.toNat) ++ (seqsP (b.pages.take k) ++ (p.seq :: (seqsP (b.pages.drop (k + 1)) ++ seqs (bs.drop (blk.toNat + 1)))))).Perm (p.seq :: (seqs (bs.take blk.toNat) ++ (seqsP (b.pages.take k) ++ (seqsP (b.pages.drop (k + 1)) ++ seqs (bs.drop (blk.toNat + 1)))))) := by
          rw [← List.append_assoc, ← List.append_assoc]
          exact List.perm_middle
        exact e.nodup_iff.2 (List.nodup_cons.2 ⟨hnot, h2⟩)
    · omega

/-- One op is done. -/
def OpStep (bs : List Bk) (x : Opn) (out : List Bk) : Prop := (x.kind = 1 ∧ ProgIs bs x.block x.page out 0) ∨ (x.kind = 2 ∧ ErasedIs bs x.block out 0 ∧ isZero x.page = true)
theorem OpStep.one {bs : List Bk} {x : Opn} {o1 o2 : List Bk} (h : OpStep bs x o1) (k : OpStep bs x o2) : o1 = o2 := by
  rcases h with ⟨h1, h2⟩ | ⟨h1, h2, _⟩
  · rcases k with ⟨_, k2⟩ | ⟨k1, _⟩
    · exact (h2.one k2).1
    · omega
  · rcases k with ⟨k1, _⟩ | ⟨_, k2, _⟩
    · omega
    · exact (h2.one k2).1
theorem OpStep.ok {bs : List Bk} {x : Opn} {out : List Bk} (h : OpStep bs x out) : ChipOk bs ∧ ChipOk out := by
  rcases h with ⟨_, h2⟩ | ⟨_, h2, _⟩
  · have hok : ChipOk bs := by
      rcases h2 with ⟨_, _, h⟩ | ⟨h, _⟩ | ⟨h, _⟩
      · omega
      · exact h
      · exact h
    exact ⟨hok, h2.ok hok⟩
  · have hok : ChipOk bs := by
      rcases h2 with ⟨_, _, h⟩ | ⟨h, _⟩ | ⟨h, _⟩
      · omega
      · exact h
      · exact h
    exact ⟨hok, h2.ok hok⟩
/-- All ops are done, one behind the other. -/
def Runs : List Bk → List Opn → List Bk → Prop
  | bs, [], out => out = bs
  | bs, x :: xs, out => ∃ mid, OpStep bs x mid ∧ Runs mid xs out
theorem Runs.one {xs : List Opn} : ∀ {bs o1 o2 : List Bk}, Runs bs xs o1 → Runs bs xs o2 → o1 = o2 := by
  induction xs with
  | nil => intro bs o1 o2 h k; exact h.trans k.symm
  | cons x xs ih =>
    rintro bs o1 o2 ⟨m1, h1, h2⟩ ⟨m2, k1, k2⟩
    obtain rfl := h1.one k1
    exact ih h2 k2
theorem runs_snoc {xs : List Opn} {x : Opn} : ∀ {bs out : List Bk}, Runs bs (xs ++ [x]) out ↔ ∃ mid, Runs bs xs mid ∧ OpStep mid x out := by
  induction xs with
  | nil =>
    intro bs out
    constructor
    · rintro ⟨mid, h1, h2⟩; cases h2; exact ⟨bs, rfl, h1⟩
    · rintro ⟨mid, h1, h2⟩; cases h1; exact ⟨out, h2, rfl⟩
  | cons y ys ih =>
    intro bs out
    constructor
    · rintro ⟨m1, h1, h2⟩
      obtain ⟨m2, h3, h4⟩ := ih.1 h2
      exact ⟨m2, ⟨m1, h1, h3⟩, h4⟩
    · rintro ⟨m2, ⟨m1, h1, h3⟩, h4⟩
      exact ⟨m1, h1, ih.2 ⟨m2, h3, h4⟩⟩
theorem Runs.split {xs ys : List Opn} : ∀ {bs out : List Bk}, Runs bs (xs ++ ys) out → ∃ mid, Runs bs xs mid ∧ Runs mid ys out := by
  induction xs with
  | nil => intro bs out h; exact ⟨bs, rfl, h⟩
  | cons x xs ih =>
    rintro bs out ⟨m, h1, h2⟩
    obtain ⟨m2, h3, h4⟩ := ih h2
    exact ⟨m2, ⟨m, h1, h3⟩, h4⟩
theorem Runs.ok {xs : List Opn} : ∀ {bs out : List Bk}, Runs bs xs out → ChipOk bs → ChipOk out := by
  induction xs with
  | nil => intro bs out h hok; cases h; exact hok
  | cons x xs ih => rintro bs out ⟨m, h1, h2⟩ hok; exact ih h2 h1.ok.2
/-- What Did answers. -/
def DidIs (bs : List Bk) (xs : List Opn) (out : List Bk) (r : Bool) : Prop :=
  (r = true ∧ ChipOk bs ∧ xs.length ≤ 20 ∧ Runs bs xs out) ∨ (r = false ∧ out = [] ∧ ¬ (ChipOk bs ∧ xs.length ≤ 20 ∧ ∃ o, Runs bs xs o))
theorem DidIs.one {bs : List Bk} {xs : List Opn} {o1 o2 : List Bk} {r1 r2 : Bool} (h : DidIs bs xs o1 r1) (k : DidIs bs xs o2 r2) : o1 = o2 ∧ r1 = r2 := by
  rcases h with ⟨rfl, h1, h2, h3⟩ | ⟨rfl, rfl, h1⟩
  · rcases k with ⟨rfl, _, _, k3⟩ | ⟨_, _, k1⟩
    · exact ⟨h3.one k3, rfl⟩
    · exact absurd ⟨h1, h2, _, h3⟩ k1
  · rcases k with ⟨_, k1, k2, k3⟩ | ⟨rfl, rfl, _⟩
    · exact absurd ⟨k1, k2, _, k3⟩ h1
    · exact ⟨rfl, rfl⟩
theorem lens_of_ok {bs : List Bk} (h : ChipOk bs) : Lens 1048576 bs := ⟨by have := h.count; omega, fun b hb => by rw [(h.block b hb).four]; omega⟩
end Go.Proofs.Ytalgkmellbamgaa
