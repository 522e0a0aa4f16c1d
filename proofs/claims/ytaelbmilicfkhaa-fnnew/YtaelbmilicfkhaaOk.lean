/- Right chips, as plain lists say it. No program is named here. -/
import Derived.Test.YtaelbmilicfkhaaOwn
namespace Go.Proofs.Ytaelbmilicfkhaa
open Go.RowKit
set_option linter.unusedVariables false
set_option linter.unusedSimpArgs false

def rightUsed (p : Pg) : Bool := p.used && (decide (0 ≤ p.log) && decide (p.log ≤ 39)) && (decide (1 ≤ p.seq) && decide (p.seq ≤ 1000000000)) && decide (p.data.size = 4)
def isZero (p : Pg) : Bool := (!p.used) && decide (p.log = 0) && decide (p.seq = 0) && decide (p.data.size = 0)
def pgOk (p : Pg) : Bool := if p.used then rightUsed p else isZero p

/-- The numbers of the pages that are used. -/
def seqsP (ps : List Pg) : List Int := (ps.filter (·.used)).map (·.seq)
def seqs (bs : List Bk) : List Int := bs.flatMap fun b => seqsP b.pages

theorem seqsP_append (a b : List Pg) : seqsP (a ++ b) = seqsP a ++ seqsP b := by simp [seqsP]
theorem seqsP_snoc {ps : List Pg} {k : Nat} {p : Pg} (h : ps[k]? = some p) : seqsP (ps.take (k + 1)) = seqsP (ps.take k) ++ if p.used then [p.seq] else [] := by
  obtain ⟨hk, rfl⟩ := List.getElem?_eq_some_iff.1 h
  rw [List.take_succ_eq_append_getElem hk, seqsP_append]
  congr 1
  by_cases hu : ps[k].used <;> simp [seqsP, hu]
theorem seqs_append (a b : List Bk) : seqs (a ++ b) = seqs a ++ seqs b := by simp [seqs]
theorem seqs_snoc {bs : List Bk} {k : Nat} {b : Bk} (h : bs[k]? = some b) : seqs (bs.take (k + 1)) = seqs (bs.take k) ++ seqsP b.pages := by
  obtain ⟨hk, rfl⟩ := List.getElem?_eq_some_iff.1 h
  rw [List.take_succ_eq_append_getElem hk, seqs_append]
  simp [seqs]
theorem seqsP_length (ps : List Pg) : (seqsP ps).length ≤ ps.length := by simp [seqsP]; exact List.length_filter_le _ _
theorem seqs_length {n : Nat} {bs : List Bk} (h : ∀ b ∈ bs, b.pages.length ≤ n) : (seqs bs).length ≤ bs.length * n := by
  induction bs with
  | nil => simp [seqs]
  | cons b bs ih =>
    have h1 := ih (fun c hc => h c (by simp [hc]))
    have h2 := h b (by simp)
    have h3 := seqsP_length b.pages
    have e : seqs (b :: bs) = seqsP b.pages ++ seqs bs := rfl
    rw [e, List.length_append, List.length_cons, Nat.add_mul]
    omega

/-- A block is right but for its numbers. -/
structure BkOk (b : Bk) : Prop where
  wear : 0 ≤ b.wear ∧ b.wear ≤ 1000000000
  four : b.pages.length = 4
  page : ∀ (k : Nat) (p : Pg), b.pages[k]? = some p → pgOk p = true
  order : ∀ (k : Nat) (p q : Pg), b.pages[k]? = some q → b.pages[k + 1]? = some p → p.used = true → q.used = true

structure ChipOk (bs : List Bk) : Prop where
  count : 4 ≤ bs.length ∧ bs.length ≤ 12
  block : ∀ b ∈ bs, BkOk b
  nodup : (seqs bs).Nodup

theorem mem_seqsP {ps : List Pg} {k : Nat} {p : Pg} (h : ps[k]? = some p) (hu : p.used = true) : p.seq ∈ seqsP ps :=
  List.mem_map.2 ⟨p, List.mem_filter.2 ⟨List.mem_of_getElem? h, hu⟩, rfl⟩
theorem mem_seqs {bs : List Bk} {i : Nat} {b : Bk} (hb : bs[i]? = some b) {k : Nat} {p : Pg} (h : b.pages[k]? = some p) (hu : p.used = true) : p.seq ∈ seqs bs :=
  List.mem_flatMap.2 ⟨b, List.mem_of_getElem? hb, mem_seqsP h hu⟩
theorem seqs_mem {bs : List Bk} {s : Int} (h : s ∈ seqs bs) : ∃ (i : Nat) (b : Bk) (k : Nat) (p : Pg), bs[i]? = some b ∧ b.pages[k]? = some p ∧ p.used = true ∧ p.seq = s := by
  obtain ⟨b, hb, hs⟩ := List.mem_flatMap.1 h
  obtain ⟨p, hp, rfl⟩ := List.mem_map.1 hs
  obtain ⟨hp1, hu⟩ := List.mem_filter.1 hp
  obtain ⟨i, hi, rfl⟩ := List.getElem_of_mem hb
  obtain ⟨k, hk, rfl⟩ := List.getElem_of_mem hp1
  exact ⟨i, bs[i], k, _, by simp [hi], by simp [hk], hu, rfl⟩

theorem ChipOk.one {bs : List Bk} (h : ChipOk bs) {s : Int} (hs : s ∈ seqs bs) : (seqs bs).count s = 1 := by
  have h1 := (List.nodup_iff_count.1 h.nodup) s
  have h2 := List.count_pos_iff.2 hs
  omega
theorem nodup_of_one {bs : List Bk} (h : ∀ s ∈ seqs bs, (seqs bs).count s = 1) : (seqs bs).Nodup := by
  refine List.nodup_iff_count.2 (fun s => ?_)
  by_cases hs : s ∈ seqs bs
  · exact Nat.le_of_eq (h s hs)
  · rw [List.count_eq_zero_of_not_mem hs]; omega

/-- The call has answered whether C. -/
def RetIff (C : Prop) (e : Ending) : Prop := ∃ r : Bool, e = .returned (.bool r) ∧ (r = true ↔ C)
theorem RetIff.yes {C : Prop} (h : C) : RetIff C (.returned (.bool true)) := ⟨true, rfl, by simp [h]⟩
theorem RetIff.no {C : Prop} (h : ¬ C) : RetIff C (.returned (.bool false)) := ⟨false, rfl, by simp [h]⟩

end Go.Proofs.Ytaelbmilicfkhaa
