/- 13 texts in one. -/
import Derived.Test.YtjgcjeaplckbbaaGreatChecked
import Derived.Test.YtjgcjeaplckbbaaGreatG01
import Derived.WalkKit
import Derived.Outline
import Derived.Deep.RegionHeld3
import Derived.Deep.SlicePairs
import Derived.Deep.Fields
import Derived.Lib.SmallJoins
import Derived.ChangeArms
import Derived.ProofKit
import Derived.OpenShut
import Derived.ChangeOld
import Derived.Test.YtjgcjeaplckbbaaGreatG14
import Derived.Laws.BytesArg
import Derived.Test.YtjgcjeaplckbbaaGreatG02
import Derived.Test.YtjgcjeaplckbbaaGreatG09
import Derived.Maps.OwnIn
import Derived.Maps.Views
import Derived.Test.YtjgcjeaplckbbaaGreatG07
import Derived.Test.YtjgcjeaplckbbaaGreatG03

/- The laws' own comparisons answer true where both sides hold the same. -/
namespace Go.Proofs.YtjgcjeaplckbbaaGreat
open Go.RowKit
set_option linter.unusedVariables false





end Go.Proofs.YtjgcjeaplckbbaaGreat

/- The laws' own measure of an argument: it answers a number not above the one that it was given; not below nought only where no list is longer than that. -/
namespace Go.Proofs.YtjgcjeaplckbbaaGreat
open Go.RowKit
set_option linter.unusedVariables false





end Go.Proofs.YtjgcjeaplckbbaaGreat

/- An argument that is a chip, opened: the plain blocks that it is. No program is named here. -/
namespace Go.Proofs.YtjgcjeaplckbbaaGreat
open Go.RowKit Go.ChangeShapes Go.WideShapes Go.Deep
set_option linter.unusedVariables false
set_option linter.unusedSimpArgs false

section
variable {H : Type} {enc : TypeId × Value → H} {P : Program} {w : World} {base : Nat} {spare : Nat → Bool} {held : Bool}

instance : Inhabited Pg := ⟨⟨false, 0, 0, ByteArray.empty⟩⟩
instance : Inhabited Bk := ⟨⟨0, []⟩⟩

/-- One page out of its four cells. -/
theorem open_page {e : TypeId} {f0 f1 f2 f3 : Field} (he : P.underlying e = some (.struct #[f0, f1, f2, f3])) (hone : Go.Deep.oneCellFields P #[f0, f1, f2, f3] = true)
    (u0 : P.underlying f0.type = some .bool) (u1 : P.underlying f1.type = some (.int .i64)) (u2 : P.underlying f2.type = some (.int .i64)) (u3 : P.underlying f3.type = some .string)
    {n : Nat} {cs : List Value} {x : DataW H × List MemPlace} (hcl : cs.length = 4) (h : DataW.trod enc P w base spare held n e cs = some x) :
    ∃ p : Pg, cs = [.bool p.used, .int .i64 p.log, .int .i64 p.seq, .string p.data] ∧ p.data.size ≤ 9223372036854775807 := by
  obtain ⟨xs, k, hk, hxy, _, hxl, hf⟩ := DataW.trod_struct he h
  obtain ⟨o0, c0⟩ := hone_of hone 0 f0 rfl
  obtain ⟨o1, c1⟩ := hone_of hone 1 f1 rfl
  obtain ⟨o2, c2⟩ := hone_of hone 2 f2 rfl
  obtain ⟨o3, c3⟩ := hone_of hone 3 f3 rfl
  match xs, hxl, cs, hcl with
  | [y0, y1, y2, y3], _, [v0, v1, v2, v3], _ =>
    have g0 := hf 0 f0 rfl
    have g1 := hf 1 f1 rfl
    have g2 := hf 2 f2 rfl
    have g3 := hf 3 f3 rfl
    simp [o0, o1, o2, o3, c0, c1, c2, c3] at g0 g1 g2 g3
    obtain ⟨b, hb, _⟩ := DataW.trod_bool u0 g0
    obtain ⟨i1, hi1, _⟩ := DataW.trod_int u1 g1
    obtain ⟨i2, hi2, _⟩ := DataW.trod_int u2 g2
    obtain ⟨s, hs, _, hsz⟩ := DataW.trod_string u3 g3
    cases hb
    cases hi1
    cases hi2
    cases hs
    exact ⟨⟨b, i1, i2, s⟩, rfl, by simpa [maxLen] using hsz⟩

theorem open_pages {t e : TypeId} {f0 f1 f2 f3 : Field} (ht : P.underlying t = some (.slice e)) (he : P.underlying e = some (.struct #[f0, f1, f2, f3])) (ce : P.cellsOf e = 4) (hone : Go.Deep.oneCellFields P #[f0, f1, f2, f3] = true)
    (u0 : P.underlying f0.type = some .bool) (u1 : P.underlying f1.type = some (.int .i64)) (u2 : P.underlying f2.type = some (.int .i64)) (u3 : P.underlying f3.type = some .string)
    {n : Nat} {v : Value} {x : DataW H × List MemPlace} (h : DataW.trod enc P w base spare held n t [v] = some x) :
    ∃ (pa : Option Addr) (pc : Nat) (ps : List Pg), v = .slice pa ps.length pc ∧ PagesAt w pa ps ∧ ps.length ≤ 9223372036854775807 ∧ ∀ p ∈ ps, p.data.size ≤ 9223372036854775807 := by
  rcases open_slice ht h with ⟨h0, _⟩ | ⟨a, len, cap, m, k, D, Pl, hv, hb, hl, hm, hmm, rfl, hx⟩
  · cases h0
    exact ⟨none, 0, [], rfl, fun i p hp => by simp at hp, by simp, fun p hp => by simp at hp⟩
  · cases hv
    have hlm : len ≤ m := by rw [hmm]; split <;> omega
    have hsp : 0 < len → ∃ b o, a = ⟨b, o, none⟩ := fun hp => by
      obtain ⟨cs', h1, h2⟩ := hx 0 (by omega)
      rw [ce] at h1
      obtain ⟨_, hlen, hcell⟩ := World.cells?_some h1
      have e0 := hcell 0 (by omega)
      rw [Go.Deep.add_add] at e0
      obtain ⟨b, o, spot⟩ := a
      obtain ⟨v, hv⟩ := getElem?_ex (l := cs') (k := 0) (by omega)
      have := World.cell?_spot (e0.trans hv)
      have hs : spot = none := by simpa [Addr.add] using this
      subst hs
      exact ⟨b, o, rfl⟩
    have each : ∀ i, i < len → ∃ p : Pg, (∃ b o, a = ⟨b, o, none⟩ ∧ w.cell? ⟨b, o + i * 4, none⟩ = some (.bool p.used) ∧ w.cell? ⟨b, o + i * 4 + 1, none⟩ = some (.int .i64 p.log) ∧
        w.cell? ⟨b, o + i * 4 + 2, none⟩ = some (.int .i64 p.seq) ∧ w.cell? ⟨b, o + i * 4 + 3, none⟩ = some (.string p.data)) ∧ p.data.size ≤ 9223372036854775807 := by
      intro i hi
      obtain ⟨cs', h1, h2⟩ := hx i (by omega)
      rw [ce] at h1
      obtain ⟨_, hlen, hcell⟩ := World.cells?_some h1
      obtain ⟨p, rfl, hp⟩ := open_page he hone u0 u1 u2 u3 hlen h2
      refine ⟨p, ?_, hp⟩
      have e0 := hcell 0 (by omega)
      have e1 := hcell 1 (by omega)
      have e2 := hcell 2 (by omega)
      have e3 := hcell 3 (by omega)
      rw [Go.Deep.add_add] at e0 e1 e2 e3
      obtain ⟨b, o, rfl⟩ := hsp (by omega)
      rw [Go.WideShapes.add_plain] at e0 e1 e2 e3
      exact ⟨b, o, rfl, by simpa using e0, by simpa [Nat.add_assoc] using e1, by simpa [Nat.add_assoc] using e2, by simpa [Nat.add_assoc] using e3⟩
    obtain ⟨q, hq⟩ := choose_lt each
    refine ⟨some a, cap, (List.range len).map q, by simp, fun i p hp => ?_, by simp; simp [maxLen] at hm; omega, fun p hp => ?_⟩
    · have hi : i < len := by have := (List.getElem?_eq_some_iff.1 hp).1; simpa using this
      simp [hi] at hp
      subst hp
      obtain ⟨⟨b, o, rfl, h0, h1, h2, h3⟩, _⟩ := hq i hi
      exact ⟨b, o, rfl, h0, h1, h2, h3⟩
    · obtain ⟨i, hi, rfl⟩ := List.mem_map.1 hp
      exact (hq i (List.mem_range.1 hi)).2

theorem open_blocks {t e tp ep : TypeId} {g0 g1 f0 f1 f2 f3 : Field} (ht : P.underlying t = some (.slice e)) (he : P.underlying e = some (.struct #[g0, g1])) (ce : P.cellsOf e = 2) (honeb : Go.Deep.oneCellFields P #[g0, g1] = true)
    (v0 : P.underlying g0.type = some (.int .i64)) (v1 : P.underlying g1.type = some (.slice ep)) (hep : P.underlying ep = some (.struct #[f0, f1, f2, f3])) (cep : P.cellsOf ep = 4) (hone : Go.Deep.oneCellFields P #[f0, f1, f2, f3] = true)
    (u0 : P.underlying f0.type = some .bool) (u1 : P.underlying f1.type = some (.int .i64)) (u2 : P.underlying f2.type = some (.int .i64)) (u3 : P.underlying f3.type = some .string)
    {n : Nat} {v : Value} {x : DataW H × List MemPlace} (h : DataW.trod enc P w base spare held n t [v] = some x) :
    ∃ (a : Option Addr) (c : Nat) (bs : List Bk), v = .slice a bs.length c ∧ BlocksAt w a bs ∧ Lens 9223372036854775807 bs ∧ Texts bs := by
  obtain ⟨o0, c0⟩ := hone_of honeb 0 g0 rfl
  obtain ⟨o1, c1⟩ := hone_of honeb 1 g1 rfl
  rcases open_slice_pairs ht he ce o0 o1 c0 c1 h with ⟨h0, _⟩ | ⟨a, len, cap, m, k, V0, V1, D0, D1, P0, P1, hv, hb, hl, hm, hmm, rfl, hx⟩
  · cases h0
    exact ⟨none, 0, [], rfl, fun i p hp => by simp at hp, ⟨by simp, fun b hb => by simp at hb⟩, fun b hb => by simp at hb⟩
  · cases hv
    have hlm : len ≤ m := by rw [hmm]; split <;> omega
    have hsp : 0 < len → ∃ b o, a = ⟨b, o, none⟩ := fun hp => by
      obtain ⟨e0, _⟩ := hx 0 (by omega)
      obtain ⟨b, o, spot⟩ := a
      have := World.cell?_spot e0
      have hs : spot = none := by simpa [Addr.add] using this
      subst hs
      exact ⟨b, o, rfl⟩
    have each : ∀ i, i < len → ∃ b : Bk, (∃ g o pa pc, a = ⟨g, o, none⟩ ∧ w.cell? ⟨g, o + i * 2, none⟩ = some (.int .i64 b.wear) ∧ w.cell? ⟨g, o + i * 2 + 1, none⟩ = some (.slice pa b.pages.length pc) ∧ PagesAt w pa b.pages) ∧
        b.pages.length ≤ 9223372036854775807 ∧ ∀ p ∈ b.pages, p.data.size ≤ 9223372036854775807 := by
      intro i hi
      obtain ⟨e0, e1, t0, t1⟩ := hx i (by omega)
      obtain ⟨i0, hi0, _⟩ := DataW.trod_int v0 t0
      obtain ⟨pa, pc, ps, hps, hpa, hpl, hpt⟩ := open_pages v1 hep cep hone u0 u1 u2 u3 t1
      have hi0' : V0 i = .int .i64 i0 := by simpa using hi0
      rw [hi0'] at e0
      rw [hps] at e1
      refine ⟨⟨i0, ps⟩, ?_, hpl, hpt⟩
      obtain ⟨b, o, rfl⟩ := hsp (by omega)
      rw [Go.WideShapes.add_plain] at e0 e1
      exact ⟨b, o, pa, pc, rfl, by simpa using e0, by simpa [Nat.add_assoc] using e1, hpa⟩
    obtain ⟨q, hq⟩ := choose_lt each
    refine ⟨some a, cap, (List.range len).map q, by simp, fun i b hp => ?_, ⟨by simp; simp [maxLen] at hm; omega, fun b hb => ?_⟩, fun b hb => ?_⟩
    · have hi : i < len := by have := (List.getElem?_eq_some_iff.1 hp).1; simpa using this
      simp [hi] at hp
      subst hp
      obtain ⟨⟨g, o, pa, pc, rfl, h0, h1, h2⟩, _⟩ := hq i hi
      exact ⟨g, o, pa, pc, rfl, h0, h1, h2⟩
    · obtain ⟨i, hi, rfl⟩ := List.mem_map.1 hb
      exact (hq i (List.mem_range.1 hi)).2.1
    · obtain ⟨i, hi, rfl⟩ := List.mem_map.1 hb
      exact (hq i (List.mem_range.1 hi)).2.2
end
end Go.Proofs.YtjgcjeaplckbbaaGreat

/- An argument of the laws that is a chip, opened. -/
namespace Go.Proofs.YtjgcjeaplckbbaaGreat
open Go.RowKit Go.ChangeShapes Go.WideShapes Go.Deep
set_option linter.unusedVariables false
set_option linter.unusedSimpArgs false


end Go.Proofs.YtjgcjeaplckbbaaGreat

/- What every law over a chip calls, told for a length by name. -/
namespace Go.Proofs.YtjgcjeaplckbbaaGreat
open Go.RowKit
set_option linter.unusedVariables false

end Go.Proofs.YtjgcjeaplckbbaaGreat

/- The laws' own marks: each field of each page and block is written with a number of its own, and found there again. -/
namespace Go.Proofs.YtjgcjeaplckbbaaGreat
open Go.RowKit
set_option linter.unusedVariables false

/-- The digits of m ahead of s. -/
def mtF : Nat → Nat → ByteArray → ByteArray
  | 0, _, s => s
  | f + 1, m, s => if 0 < m then mtF f (m / 10) (strOfNums [48 + (m : Int) % 10] ++ s) else s
/-- The text of a mark. -/
def mt (k : Nat) : ByteArray := ⟨#[109]⟩ ++ mtF k k ⟨#[]⟩

theorem mtF_zero (f : Nat) (s : ByteArray) : mtF f 0 s = s := by cases f <;> simp [mtF]
theorem mtF_step (f m : Nat) (s : ByteArray) (hm : 0 < m) (hf : m ≤ f) : ∃ g, m / 10 ≤ g ∧ mtF f m s = mtF g (m / 10) (strOfNums [48 + (m : Int) % 10] ++ s) := by
  cases f with
  | zero => omega
  | succ g => exact ⟨g, by omega, by simp [mtF, hm]⟩

theorem conv1 (x : Int) (w : World) : (convert 22 9 (.slice (some ⟨w.heap.size, 0, none⟩) 1 1)).run Tryz.prog (w.alloc (.cells #[.int .u8 x] 5)) = .ok (.string (strOfNums [x])) (w.alloc (.cells #[.int .u8 x] 5)) :=
  run_convert_bytes_arg _ 22 5 Tryz.underlying22 Tryz.underlying5 w.heap.size 0 1 1 [x] rfl (fun i hi => by
    obtain rfl : i = 0 := by omega
    simp) 9 Tryz.underlying9


/-- A page that bears the marks from k on. -/
def mkPg (k : Int) : Pg := ⟨k % 3 == 0, k + 1, k + 1 + 1, mt (k + 1 + 1 + 1).toNat⟩
def markPs (k : Int) (n : Nat) : List Pg := (List.range n).map fun (i : Nat) => mkPg (k + 4 * (i : Int))
def markTo (k : Int) (ps : List Pg) (j : Nat) : List Pg := markPs k j ++ ps.drop j

theorem markPs_length (k : Int) (n : Nat) : (markPs k n).length = n := by simp [markPs]
theorem markPs_at (k : Int) {n i : Nat} (hi : i < n) : (markPs k n)[i]? = some (mkPg (k + 4 * (i : Int))) := by simp [markPs, hi]
theorem markTo_length (k : Int) (ps : List Pg) {j : Nat} (hj : j ≤ ps.length) : (markTo k ps j).length = ps.length := by simp [markTo, markPs_length]; omega
theorem markTo_zero (k : Int) (ps : List Pg) : markTo k ps 0 = ps := by simp [markTo, markPs]
theorem markTo_full (k : Int) (ps : List Pg) : markTo k ps ps.length = markPs k ps.length := by simp [markTo]
theorem markTo_step (k : Int) (ps : List Pg) {j : Nat} (hj : j < ps.length) : (markTo k ps j).set j (mkPg (k + 4 * (j : Int))) = markTo k ps (j + 1) := by
  have h1 : markPs k (j + 1) = markPs k j ++ [mkPg (k + 4 * (j : Int))] := by simp [markPs, List.range_succ]
  unfold markTo
  rw [h1, List.set_append_right _ _ (by simp [markPs_length]), markPs_length, Nat.sub_self, List.append_assoc]
  congr 1
  rw [List.drop_eq_getElem_cons hj]
  rfl



/-- The number behind all marks of the blocks. -/
def kAfter (k : Int) : List Bk → Int
  | [] => k
  | b :: r => kAfter (k + 1 + 4 * (b.pages.length : Int)) r
def markBs (k : Int) : List Bk → List Bk
  | [] => []
  | b :: r => ⟨k, markPs (k + 1) b.pages.length⟩ :: markBs (k + 1 + 4 * (b.pages.length : Int)) r

theorem kAfter_snoc (l : List Bk) (b : Bk) : ∀ k, kAfter k (l ++ [b]) = kAfter k l + 1 + 4 * (b.pages.length : Int) := by
  induction l with
  | nil => intro k; rfl
  | cons c l ih => intro k; exact ih _
theorem markBs_snoc (l : List Bk) (b : Bk) : ∀ k, markBs k (l ++ [b]) = markBs k l ++ [⟨kAfter k l, markPs (kAfter k l + 1) b.pages.length⟩] := by
  induction l with
  | nil => intro k; rfl
  | cons c l ih => intro k; show _ :: markBs _ (l ++ [b]) = _; rw [ih]; rfl
theorem markBs_length (l : List Bk) : ∀ k, (markBs k l).length = l.length := by
  induction l with
  | nil => intro k; rfl
  | cons c l ih => intro k; show (markBs _ l).length + 1 = l.length + 1; rw [ih]
theorem kAfter_le (l : List Bk) : ∀ k, k ≤ kAfter k l := by
  induction l with
  | nil => intro k; exact Int.le_refl _
  | cons c l ih => intro k; have := ih (k + 1 + 4 * (c.pages.length : Int)); show k ≤ kAfter _ l; omega
theorem kAfter_append (l m : List Bk) : ∀ k, kAfter k (l ++ m) = kAfter (kAfter k l) m := by
  induction l with
  | nil => intro k; rfl
  | cons c l ih => intro k; exact ih _
theorem take_snoc {l : List Bk} {i : Nat} {b : Bk} (h : l[i]? = some b) : l.take (i + 1) = l.take i ++ [b] := by
  obtain ⟨hi, rfl⟩ := List.getElem?_eq_some_iff.1 h
  rw [List.take_succ_eq_append_getElem hi]
theorem kAfter_take {l : List Bk} {i : Nat} {b : Bk} (h : l[i]? = some b) (k : Int) : kAfter k (l.take i) + 1 + 4 * (b.pages.length : Int) ≤ kAfter k l := by
  have e : l = l.take (i + 1) ++ l.drop (i + 1) := (List.take_append_drop _ _).symm
  have h1 : kAfter k l = kAfter (kAfter k (l.take (i + 1))) (l.drop (i + 1)) := by rw [← kAfter_append, ← e]
  rw [h1, take_snoc h, kAfter_snoc]
  exact kAfter_le _ _

def markBTo (k : Int) (bs : List Bk) (i : Nat) : List Bk := markBs k (bs.take i) ++ bs.drop i
theorem markBTo_zero (k : Int) (bs : List Bk) : markBTo k bs 0 = bs := by simp [markBTo, markBs]
theorem markBTo_full (k : Int) (bs : List Bk) : markBTo k bs bs.length = markBs k bs := by simp [markBTo]
theorem markBTo_at (k : Int) {bs : List Bk} {i : Nat} {b : Bk} (h : bs[i]? = some b) : (markBTo k bs i)[i]? = some b := by
  obtain ⟨hi, rfl⟩ := List.getElem?_eq_some_iff.1 h
  unfold markBTo
  rw [List.getElem?_append_right (by rw [markBs_length]; simp; omega), markBs_length]
  simp [Nat.min_eq_left (Nat.le_of_lt hi), hi]
theorem markBTo_step (k : Int) {bs : List Bk} {i : Nat} {b : Bk} (h : bs[i]? = some b) : (markBTo k bs i).set i ⟨kAfter k (bs.take i), markPs (kAfter k (bs.take i) + 1) b.pages.length⟩ = markBTo k bs (i + 1) := by
  obtain ⟨hi, hb⟩ := List.getElem?_eq_some_iff.1 h
  have hl : (markBs k (bs.take i)).length = i := by rw [markBs_length]; simp; omega
  unfold markBTo
  rw [take_snoc h, markBs_snoc, List.set_append_right _ _ (by omega), hl, Nat.sub_self, List.append_assoc]
  congr 1
  rw [List.drop_eq_getElem_cons hi]
  rfl
theorem markBs_at (k : Int) {bs : List Bk} {i : Nat} {b : Bk} (h : bs[i]? = some b) : (markBs k bs)[i]? = some ⟨kAfter k (bs.take i), markPs (kAfter k (bs.take i) + 1) b.pages.length⟩ := by
  have hi : i < bs.length := (List.getElem?_eq_some_iff.1 h).1
  have e : markBs k bs = markBs k (bs.take (i + 1) ++ bs.drop (i + 1)) := by rw [List.take_append_drop]
  have ap : ∀ (l m : List Bk) k, markBs k (l ++ m) = markBs k l ++ markBs (kAfter k l) m := by
    intro l
    induction l with
    | nil => intro m k; rfl
    | cons c l ih => intro m k; show _ :: markBs _ (l ++ m) = _; rw [ih]; rfl
  rw [e, ap, take_snoc h, markBs_snoc, List.getElem?_append_left (by simp [markBs_length]; omega), List.getElem?_append_right (by rw [markBs_length]; simp; omega), markBs_length]
  simp [Nat.min_eq_left (Nat.le_of_lt hi)]





end Go.Proofs.YtjgcjeaplckbbaaGreat

/- For laws whose answer is a list of int64: its form, its marks. -/
namespace Go.Proofs.YtjgcjeaplckbbaaGreat
open Go.RowKit
set_option linter.unusedVariables false
set_option linter.unusedSimpArgs false



theorem kAfter_upto (bs : List Bk) : ∀ k, (∀ b ∈ bs, b.pages.length ≤ 1048576) → k ≤ kAfter k bs ∧ kAfter k bs ≤ k + (bs.length : Int) * 4194305 := by
  induction bs with
  | nil => intro k _; simp [kAfter]
  | cons b bs ih =>
    intro k h
    have h1 := ih (k + 1 + 4 * (b.pages.length : Int)) (fun c hc => h c (by simp [hc]))
    have h2 := h b (by simp)
    have e : kAfter k (b :: bs) = kAfter (k + 1 + 4 * (b.pages.length : Int)) bs := rfl
    rw [e, List.length_cons]
    have e2 : ((bs.length + 1 : Nat) : Int) * 4194305 = (bs.length : Int) * 4194305 + 4194305 := by omega
    rw [e2]
    omega

end Go.Proofs.YtjgcjeaplckbbaaGreat

/- A chip as an answer: what it owns, its marks. -/
namespace Go.Proofs.YtjgcjeaplckbbaaGreat
open Go.RowKit
set_option linter.unusedVariables false
set_option linter.unusedSimpArgs false

theorem OwnBlocks.of_blocks {w w' : World} {tB tP : TypeId} {g : Nat} {H : Nat → Nat} {n : Nat} {bs : List Bk} (h : OwnBlocks w tB tP g H n bs) (e : ∀ k, g ≤ k → k < w.heap.size → w'.heap[k]? = w.heap[k]?) : OwnBlocks w' tB tP g H n bs :=
  ⟨h.row.of_block (e g (Nat.le_refl _) h.row.lt), fun i b hb => World.rowIs.of_block (h.pages i b hb) (e _ (Nat.le_of_lt (h.ahead i (List.getElem?_eq_some_iff.1 hb).1)) (World.rowIs.lt (h.pages i b hb))), h.ahead, h.order⟩

/-- An answer that is a chip: its blocks lie from B on and ahead of K, each in a row of its own. -/
def ChipOwn (w : World) (B K : Nat) (a : Option Addr) (n c : Nat) (out : List Bk) : Prop :=
  out.length = n ∧ ((a = none ∧ n = 0 ∧ c = 0) ∨ ∃ g H, a = some ⟨g, 0, none⟩ ∧ B ≤ g ∧ g < K ∧ (∀ i, i < n → g < H i ∧ H i < K) ∧ OwnBlocks w 108 51 g H n out)

theorem ChipOwn.blocksAt {w : World} {B K : Nat} {a : Option Addr} {n c : Nat} {out : List Bk} (h : ChipOwn w B K a n c out) : BlocksAt w a out := by
  obtain ⟨hl, ⟨_, h0, _⟩ | ⟨g, H, rfl, _, _, _, hO⟩⟩ := h
  · intro i b hb
    have := (List.getElem?_eq_some_iff.1 hb).1
    omega
  · exact hO.blocksAt (by omega)

theorem ChipOwn.below {w w' : World} {B K : Nat} {a : Option Addr} {n c : Nat} {out : List Bk} (h : ChipOwn w B K a n c out) (hb : Below w.heap.size w w') : ChipOwn w' B K a n c out := by
  obtain ⟨hl, h0 | ⟨g, H, rfl, h1, h2, h3, hO⟩⟩ := h
  · exact ⟨hl, .inl h0⟩
  · exact ⟨hl, .inr ⟨g, H, rfl, h1, h2, h3, hO.below hb (Nat.le_refl _)⟩⟩

theorem ChipOwn.touch {S : Nat → Prop} {w w' : World} {B K : Nat} {a : Option Addr} {n c : Nat} {out : List Bk} (h : ChipOwn w B K a n c out) (hT : Touch S w w') (hS : ∀ k, S k → k < B) : ChipOwn w' B K a n c out := by
  obtain ⟨hl, h0 | ⟨g, H, rfl, h1, h2, h3, hO⟩⟩ := h
  · exact ⟨hl, .inl h0⟩
  · exact ⟨hl, .inr ⟨g, H, rfl, h1, h2, h3, hO.of_blocks fun k hk hlt => hT.block k hlt (fun hs => by have := hS k hs; omega)⟩⟩


end Go.Proofs.YtjgcjeaplckbbaaGreat

/- Members: the laws' own copy, comparison and size of them; an argument that is a member, opened. -/
namespace Go.Proofs.YtjgcjeaplckbbaaGreat
open Go.RowKit
set_option linter.unusedVariables false
set_option linter.unusedSimpArgs false






end Go.Proofs.YtjgcjeaplckbbaaGreat

/- A member as an answer: what it owns, its marks. -/
namespace Go.Proofs.YtjgcjeaplckbbaaGreat
open Go.RowKit
set_option linter.unusedVariables false
set_option linter.unusedSimpArgs false

theorem marksI_length (k : Int) (n : Nat) : (marksI k n).length = n := by simp [marksI]

/-- An answer that is a member: its rows lie from B on and ahead of T: the chip's in [C, K), its map in none of these. -/
def FtlOwn (w : World) (B T : Nat) (a : Option Addr) (n c : Nat) (out : List Bk) (ma : Option Addr) (mn : Nat) (L : List Int) : Prop :=
  L.length = mn ∧ IntsAt w ma L ∧ MineFrom w ma mn B ∧ (∀ g, ma = some ⟨g, 0, none⟩ → g < T) ∧ ∃ C K, B ≤ C ∧ ChipOwn w C K a n c out ∧ K ≤ T ∧ ∀ g, ma = some ⟨g, 0, none⟩ → ¬ (C ≤ g ∧ g < K)
theorem FtlOwn.blocksAt {w : World} {B T : Nat} {a : Option Addr} {n c : Nat} {out : List Bk} {ma : Option Addr} {mn : Nat} {L : List Int} (h : FtlOwn w B T a n c out ma mn L) : BlocksAt w a out := by
  obtain ⟨_, _, _, _, C, K, _, h1, _⟩ := h; exact h1.blocksAt
theorem FtlOwn.length {w : World} {B T : Nat} {a : Option Addr} {n c : Nat} {out : List Bk} {ma : Option Addr} {mn : Nat} {L : List Int} (h : FtlOwn w B T a n c out ma mn L) : out.length = n ∧ L.length = mn := by
  obtain ⟨h0, _, _, _, C, K, _, h1, _⟩ := h; exact ⟨h1.1, h0⟩
theorem FtlOwn.below {w w' : World} {B T : Nat} {a : Option Addr} {n c : Nat} {out : List Bk} {ma : Option Addr} {mn : Nat} {L : List Int} (h : FtlOwn w B T a n c out ma mn L) (hb : Below w.heap.size w w') : FtlOwn w' B T a n c out ma mn L := by
  obtain ⟨h0, h1, h2, h6, C, K, h3, h4, h5⟩ := h
  exact ⟨h0, h1.below hb (Nat.le_refl _), h2.below hb, h6, C, K, h3, h4.below hb, h5⟩
theorem FtlOwn.touch {S : Nat → Prop} {w w' : World} {B T : Nat} {a : Option Addr} {n c : Nat} {out : List Bk} {ma : Option Addr} {mn : Nat} {L : List Int} (h : FtlOwn w B T a n c out ma mn L) (hT : Touch S w w') (hS : ∀ k, S k → k < B) : FtlOwn w' B T a n c out ma mn L := by
  obtain ⟨h0, h1, h2, h6, C, K, h3, h4, h5⟩ := h
  exact ⟨h0, intsAt_touch h1 (by rw [h0]; exact h2) hT hS, h2.touch hT hS, h6, C, K, h3, h4.touch hT (fun k hk => by have := hS k hk; omega), h5⟩

theorem MineFrom.touch' {S : Nat → Prop} {w w' : World} {a : Option Addr} {n B : Nat} (h : MineFrom w a n B) (hT : Touch S w w') (hS : ∀ g, a = some ⟨g, 0, none⟩ → ¬ S g) : MineFrom w' a n B := by
  rcases h with h | ⟨g, ha, h1, h2, h3⟩
  · exact .inl h
  · exact .inr ⟨g, ha, h1, Nat.lt_of_lt_of_le h2 hT.size, h3.of_block (hT.block g h2 (hS g ha))⟩


/-- What marks a member holds. -/
def FtlMarked (w : World) (a : Option Addr) (out : List Bk) (ma : Option Addr) (mn : Nat) : Prop := BlocksAt w a (markBs 1 out) ∧ IntsAt w ma (marksI (kAfter 1 out) mn)
theorem FtlMarked.below {w w' : World} {a : Option Addr} {out : List Bk} {ma : Option Addr} {mn : Nat} (h : FtlMarked w a out ma mn) (hb : Below w.heap.size w w') : FtlMarked w' a out ma mn :=
  ⟨h.1.below hb (Nat.le_refl _), h.2.below hb (Nat.le_refl _)⟩



end Go.Proofs.YtjgcjeaplckbbaaGreat

/- The walk over the used pages, for whom asks something of each of them. -/
namespace Go.Proofs.YtjgcjeaplckbbaaGreat
open Go.RowKit Go.Shelf
set_option linter.unusedVariables false
set_option linter.unusedSimpArgs false
attribute [local go_sem] Oper.semAt_some

set_option maxRecDepth 100000 in
set_option maxHeartbeats 4000000 in
theorem used1R_in (Rx : Int × Pg → Prop) (F : Fence) (n : Nat) (h122 : F.fn 92) (hro : F.round = none) (hn : 1 ≤ n) (l Bx c : Nat) (m : CC) (hm : m.count = c) (hc : c ≤ 12) (J Jx : List (Int × Pg) → World → Prop)
    (hRx : ∀ b k : Nat, b < c → k < 4 → (m.page b k).used = true → Rx ((b : Int) * 4 + (k : Int), m.page b k)) (hY : ∀ pre x W, Rx x → J pre W → pre.length < 48 → YieldAt F (n - 1) Tryz.prog l (encU x) W fun e W' =>
      (e = .returned (.bool true) ∧ J (pre ++ [x]) W' ∧ KeepB Bx W W') ∨ (e = .returned (.bool false) ∧ Jx (pre ++ [x]) W'))
    (W : World) (hn0 : Bx < W.heap.size) (hJA : AbidesFrom W.heap.size J) (hbox : ∀ i, W.cell? ⟨Bx, i, none⟩ = (ccA m)[i]?) (h0 : J [] W) :
    CallsIn F n Tryz.prog 92 #[.func (.yield l) #[] #[], .pointer (some ⟨Bx, 0, none⟩)] W fun e W' => (∃ v, e = .returned v) ∧
      ((∃ ys, ys = usedAll m c ∧ J ys W') ∨ (∃ pre, pre <+: usedAll m c ∧ Jx pre W')) := by
  have hc0 := ccA_count m
  rw [hm] at hc0
  have HY := hide hY
  have HRX := hide hRx
  have HJAB := hide hJA
  clear hY hJA hRx
  refine callsIn_of_wp Tryz.func92 rfl h122 ?_ hro
  simp only [Tryz.ntmps92, List.size_toArray, List.length_cons, List.length_nil, Nat.reduceAdd, Nat.reduceSub, Array.replicate_succ, Array.replicate_zero, List.push_toArray, List.append_toArray, List.nil_append, List.cons_append]
  gi_wp2
  gi_loopw [8] (fun i wr => ∃ b : Nat, b ≤ c ∧ i = .int .i64 b ∧ J (usedAll m b) wr ∧ KeepB Bx W wr) (fun i _ => c - (intOf i).toNat)
  case atStart => exact ⟨0, Nat.zero_le _, rfl, h0, KeepB.refl _ _⟩
  case round =>
    obtain ⟨b, hb, rfl, hJs, hnx⟩ := hrel
    clear hc0
    by_cases hlt : b < c
    · have hboxr : ∀ i, wr.cell? ⟨Bx, i, none⟩ = (ccA m)[i]? := fun i => (hnx.cell i).trans (hbox i)
      have hpa : ∀ j, j < 16 → wr.cell? ⟨Bx, 1 + b * 17 + 1 + j, none⟩ = (paA (m.page b))[j]? := fun j hj => by rw [hboxr]; exact ccA_pages m (by omega) hj
      have HPA := hide hpa
      have HBR := hide hboxr
      clear hpa hboxr hbox
      gi_wp2_with (refine wpListIn_load_mid rfl 52 _ rfl Bx (1 + b * 17 + 1) rfl (paA (m.page b)) 16 (paA_size _) (unhide HPA) _ Tryz.underlying52 rfl sizePages ?_)
      clear HPA HBR
      gi_loopw [16] (fun i wr => ∃ k : Nat, k ≤ 4 ∧ i = .int .i64 k ∧ J (usedAll m b ++ usedB m b k) wr ∧ KeepB Bx W wr) (fun i _ => 4 - (intOf i).toNat)
      case atStart => exact ⟨0, by omega, rfl, by simpa [usedB] using hJs, hnx⟩
      case round =>
        obtain ⟨k, hk, rfl, hJk, hnk⟩ := hrel
        have hbl : Bx < wr.heap.size := Nat.lt_of_lt_of_le hn0 hnk.1
        have hszk := hnk.1
        have HNK := hide hnk
        clear hnk
        by_cases hlt2 : k < 4
        · have hk4 : (k : Int) < 4 := by omega
          have hidx := fun W => run_index_pages (P := Tryz.prog) W 52 51 (m.page b) k hlt2 Tryz.underlying52 _ Tryz.underlying51 rfl sizePage
          obtain ⟨p, hp⟩ : ∃ p, m.page b k = p := ⟨_, rfl⟩
          have hsu := usedB_succ m b k
          have hrx := unhide HRX b k (by omega) hlt2
          rw [hp] at hidx hsu hrx
          obtain ⟨u, lg, s, d⟩ := p
          simp only at hidx hrx
          have HRXP := hide hrx
          clear hrx
          have hlen : (usedAll m b ++ usedB m b k).length < 48 := by
            rw [List.length_append]
            have h1 := usedAll_length m b
            have h2 := usedB_length m b k
            omega
          have HSU := hide hsu
          clear hsu hp hm
          have hpre := used_le m (b := b) (k := k + 1) (n := c) hlt (by omega)
          have HPRE := hide hpre
          clear hpre
          have hJa : ∀ o, J (usedAll m b ++ usedB m b k) (wr.alloc o) := fun o => unhide HJAB _ _ _ none hJk (World.grownBy_alloc wr o none) (fun r e => by cases e)
          have HJA := hide hJa
          clear hJa
          cases u with
          | false =>
            clear hJk hJs hnx h0 hlen hszk
            gi_wp2
            refine ⟨fun _ h => (by cases h), ?_⟩
            gi_wp2
            go_roundw
            case rel =>
              refine ⟨k + 1, by omega, by go_num, ?_, (unhide HNK).trans (KeepB.alloc _ _ hbl)⟩
              rw [unhide HSU]
              simp only [Bool.false_eq_true, if_false, List.append_nil]
              exact unhide HJA _
            case measure => simp [intOf]; omega
          | true =>
            obtain ⟨fn, tmps, assign, body, hy, hR⟩ := unhide HY (usedAll m b ++ usedB m b k) ((b : Int) * 4 + (k : Int), ⟨true, lg, s, d⟩) (wr.alloc (.cells #[.bool true, .int .i64 lg, .int .i64 s, .string d] 51)) (unhide HRXP rfl) (unhide HJA _) hlen
            dsimp only [encU] at hy
            have HR := hide hR
            clear hR
            gi_wp2
            refine (unhide HR).mono ?_
            rintro e W3 (⟨rfl, hJ3, hk3⟩ | ⟨rfl, hJx3⟩)
            · have HK3 := hide hk3
              clear hk3
              gi_wp2
              go_roundw
              case rel =>
                refine ⟨k + 1, by omega, by go_num, ?_, ((unhide HNK).trans (KeepB.alloc _ _ hbl)).trans (unhide HK3)⟩
                rw [unhide HSU, ← List.append_assoc]
                exact hJ3
              case measure => simp [intOf]; omega
            · gi_wp2
              refine bodyPost_ret (results_none rfl _ _ _) rfl ?_
              refine ⟨⟨_, rfl⟩, .inr ⟨_, ?_, hJx3⟩⟩
              have := unhide HPRE
              rw [unhide HSU, ← List.append_assoc] at this
              exact this
        · obtain rfl : k = 4 := by omega
          gi_wp2
          go_roundw
          case rel => exact ⟨b + 1, by omega, by go_num, by rw [usedAll_succ]; exact hJk, unhide HNK⟩
          case measure => simp [intOf]; omega
    · obtain rfl : b = c := by omega
      gi_wp2
      go_end0
      exact ⟨⟨_, rfl⟩, .inl ⟨_, rfl, hJs⟩⟩

theorem usedR_stops (Rx : Int × Pg → Prop) (F : Fence) (n : Nat) (h122 : F.fn 92) (hro : F.round = none) (hn : 1 ≤ n) (Bx c : Nat) (m : CC) (hm : m.count = c) (hc : c ≤ 12) (hRx : ∀ b k : Nat, b < c → k < 4 → (m.page b k).used = true → Rx ((b : Int) * 4 + (k : Int), m.page b k)) (w : World) (hBx : Bx < w.heap.size) (hbox : ∀ i, w.cell? ⟨Bx, i, none⟩ = (ccA m)[i]?) :
    SeqStopsK F n Tryz.prog 92 #[.pointer (some ⟨Bx, 0, none⟩)] (fun x : {x : Int × Pg // Rx x} => encU x.val) (KeepB Bx) (fun ys => ys.map (·.val) = usedAll m c) (fun pre => pre.map (·.val) <+: usedAll m c) 48 w := by
  intro l J Jx W hW hJA _ hY h0
  refine (used1R_in Rx F n h122 hro hn l Bx c m hm hc (fun p W => ∃ q : List {x : Int × Pg // Rx x}, q.map (·.val) = p ∧ J q W) (fun p W => ∃ q : List {x : Int × Pg // Rx x}, q.map (·.val) = p ∧ Jx q W) hRx ?_ W (Nat.lt_of_lt_of_le hBx hW.size) ?_ (fun i => (hW.cell (p := ⟨Bx, i, none⟩) hBx).trans (hbox i)) ⟨[], rfl, h0⟩).mono ?_
  · rintro pre x W1 hx ⟨q, rfl, hq⟩ hl
    obtain ⟨fn, tmps, assign, body, hy, hR⟩ := hY q ⟨x, hx⟩ W1 hq (by simpa using hl)
    refine ⟨fn, tmps, assign, body, hy, hR.mono ?_⟩
    rintro e W' (⟨rfl, h1, h2⟩ | ⟨rfl, h1⟩)
    · exact .inl ⟨rfl, ⟨_, by simp, h1⟩, h2⟩
    · exact .inr ⟨rfl, ⟨_, by simp, h1⟩⟩
  · rintro p W W' row ⟨q, hq, hJ⟩ hg hr
    exact ⟨q, hq, hJA q W W' row hJ hg hr⟩
  · rintro e W' ⟨hv, h⟩
    refine ⟨hv, ?_⟩
    rcases h with ⟨ys, rfl, q, hq, hJ⟩ | ⟨pre, hp, q, rfl, hJ⟩
    · exact .inl ⟨q, hq, hJ⟩
    · exact .inr ⟨q, hp, hJ⟩
end Go.Proofs.YtjgcjeaplckbbaaGreat

/- A map of numbers and places by logs, which the call itself has made: what it holds is said by the pages that came. -/
namespace Go.Proofs.YtjgcjeaplckbbaaGreat
open Go.RowKit Go.Maps
set_option linter.unusedVariables false
set_option linter.unusedSimpArgs false

def npD (s p : Int) : DataW Unit := .agg [.lit (.int .i64 s), .lit (.int .i64 p)]
def npElem (v : Value) : Option (DataW Unit × List MemPlace) :=
  match v with
  | .agg A => match A.toList with
    | [.int .i64 s, .int .i64 p] => some (npD s p, [])
    | _ => none
  | _ => none
theorem npElem_mk (s p : Int) : npElem (.agg #[.int .i64 s, .int .i64 p]) = some (npD s p, []) := rfl
theorem npElem_inv {v : Value} {z : DataW Unit × List MemPlace} (h : npElem v = some z) : ∃ s p : Int, v = .agg #[.int .i64 s, .int .i64 p] ∧ z = (npD s p, []) := by
  unfold npElem at h
  split at h
  · rename_i A
    split at h
    · rename_i s p e
      cases h
      refine ⟨s, p, ?_, rfl⟩
      congr 1
      exact Array.toList_inj.1 (by rw [e])
    · cases h
  · cases h
theorem npD_inj {s p s' p' : Int} (h : npD s p = npD s' p') : s = s' ∧ p = p' := by
  simp [npD] at h
  exact h

def npOf : Option (Int × Pg) → Int × Int
  | none => (0, 0)
  | some y => (y.2.seq, y.1)

theorem i64_keyed : Keyed Tryz.prog 2 := int_keyed Tryz.underlying2
theorem zeroNp (w : World) : (zeroValue 75).run Tryz.prog w = .ok (.agg #[.int .i64 0, .int .i64 0]) w := by kernel_rfl

/-- The map in block b holds, of each log, the newest of the pages xs. -/
def NpIs (W : World) (b n : Nat) (xs : List (Int × Pg)) : Prop :=
  ∃ D : DataW Unit, W.ownsMap Tryz.prog 2 npElem b n D ∧ IsMap D ∧ ∀ k : Int, 0 ≤ k → k ≤ 39 → D.atKey (.int .i64 k) (npD 0 0) = npD (npOf (newestAt xs k)).1 (npOf (newestAt xs k)).2 ∧ Maps.has D (.int .i64 k) = (newestAt xs k).isSome

theorem NpIs.lt {W : World} {b n : Nat} {xs : List (Int × Pg)} (h : NpIs W b n xs) : b < W.heap.size := by
  obtain ⟨D, h1, _⟩ := h
  exact h1.lt
theorem NpIs.made (w : World) : NpIs (w.alloc (.map #[] 0)) w.heap.size 0 [] :=
  ⟨_, World.ownsMap_made _ _ _ _, isMap_empty, fun k _ _ => ⟨rfl, rfl⟩⟩
theorem NpIs.kept {W W' : World} {b n : Nat} {xs : List (Int × Pg)} {row : Option Nat} (h : NpIs W b n xs) (hg : W.grownBy W' row) (hne : some b ≠ row) : NpIs W' b n xs := by
  obtain ⟨D, h1, h2⟩ := h
  exact ⟨D, h1.kept hg hne, h2⟩
theorem NpIs.mono {W : World} {b n n' : Nat} {xs : List (Int × Pg)} (h : NpIs W b n xs) (hn : n ≤ n') : NpIs W b n' xs := by
  obtain ⟨D, h1, h2⟩ := h
  exact ⟨D, h1.mono hn, h2⟩
theorem isKeyLit_int (k : Int) : WideAt.IsKeyLit (.int .i64 k) := by simp [WideAt.IsKeyLit]

theorem NpIs.step {W W' : World} {b n n' : Nat} {xs : List (Int × Pg)} {x : Int × Pg} {l : Int} (hl : x.2.log = l) {D : DataW Unit} (hM : IsMap D)
    (hD : ∀ k : Int, 0 ≤ k → k ≤ 39 → D.atKey (.int .i64 k) (npD 0 0) = npD (npOf (newestAt xs k)).1 (npOf (newestAt xs k)).2 ∧ Maps.has D (.int .i64 k) = (newestAt xs k).isSome)
    (hO : W'.ownsMap Tryz.prog 2 npElem b n' (D.put (.int .i64 l) (npD x.2.seq x.1))) (hn : newer (newestAt xs l) x.2.seq = true) : NpIs W' b n' (xs ++ [x]) := by
  refine ⟨_, hO, hM.put _ _, fun k h0 h1 => ?_⟩
  rw [newestAt_snoc]
  by_cases e : k = l
  · subst e
    rw [atKey_put_same hM (isKeyLit_int _), has_put_same hM (isKeyLit_int _)]
    unfold pick
    rw [if_pos ⟨hl, hn⟩]
    exact ⟨rfl, rfl⟩
  · have hne : (Lit.int .i64 k) ≠ .int .i64 l := by intro h; cases h; exact e rfl
    rw [atKey_put_other hne, has_put_other hne]
    unfold pick
    rw [if_neg (fun h => e (by rw [← h.1, hl]))]
    exact hD k h0 h1
theorem NpIs.same {W : World} {b n : Nat} {xs : List (Int × Pg)} (h : NpIs W b n xs) {x : Int × Pg} {l : Int} (hl : x.2.log = l) (hn : ¬ newer (newestAt xs l) x.2.seq = true) : NpIs W b n (xs ++ [x]) := by
  obtain ⟨D, h1, h2, h3⟩ := h
  refine ⟨D, h1, h2, fun k k0 k1 => ?_⟩
  rw [newestAt_snoc]
  unfold pick
  rw [if_neg (fun hc => hn (by rw [← hl, hc.1]; exact hc.2))]
  exact h3 k k0 k1

theorem keyOf_log {k : Int} (h0 : 0 ≤ k) (h1 : k ≤ 39) : keyOf Tryz.prog 2 (.int .i64 k) = some (.int .i64 k) := keyOf_int_mk Tryz.underlying2 (WalkArith.wf_i64 (by omega))

section
variable {F : Fence} {nF : Nat} (w : World) {ops : Array Oper} {rest : List Oper} {o : Oper} {a : Act} {Q : Exit → Act → World → Prop}
theorem wpListIn_lookup_np (hg : o.guard = none) (m x : Operand) (hop : o.op = Op.lookup 130 m x false) (b n : Nat) (xs : List (Int × Pg)) (hm : a.eval m = .map (some b)) (hN : NpIs w b n xs)
    (k : Int) (h0 : 0 ≤ k) (h1 : k ≤ 39) (hx : a.eval x = .int .i64 k)
    (hK : wpListIn F nF Tryz.prog ops Q rest (a.put o.dst (.agg #[.int .i64 (npOf (newestAt xs k)).1, .int .i64 (npOf (newestAt xs k)).2])) w) : wpListIn F nF Tryz.prog ops Q (o :: rest) a w := by
  refine wpListIn_plain hg fun K' hK' => ?_
  obtain ⟨D, hown, hM, hD⟩ := hN
  obtain ⟨v, ps, hrun, hv⟩ := hown.lookup i64_keyed Tryz.underlying130 (zeroNp w) (npElem_mk 0 0) (keyOf_log h0 h1)
  obtain ⟨s, p, rfl, hz⟩ := npElem_inv hv
  rw [(hD k h0 h1).1] at hz
  obtain ⟨e1, e2⟩ := npD_inj (congrArg Prod.fst hz)
  rw [e1, e2] at hK
  unfold Oper.wpIn
  refine ⟨by simp [Oper.about, hop], ?_⟩
  rw [Oper.semAt_plain F _ _ (by rw [hop]; intro c hc'; cases hc')]
  simp [execOp, hop, hm, hx, hrun, Result.andThen]
  exact hK' _ _ hK
theorem wpListIn_lookup_ok_np (hg : o.guard = none) (m x : Operand) (hop : o.op = Op.lookup 130 m x true) (b n : Nat) (xs : List (Int × Pg)) (hm : a.eval m = .map (some b)) (hN : NpIs w b n xs)
    (k : Int) (h0 : 0 ≤ k) (h1 : k ≤ 39) (hx : a.eval x = .int .i64 k)
    (hK : wpListIn F nF Tryz.prog ops Q rest (a.put o.dst (.tuple #[.agg #[.int .i64 (npOf (newestAt xs k)).1, .int .i64 (npOf (newestAt xs k)).2], .bool (newestAt xs k).isSome])) w) : wpListIn F nF Tryz.prog ops Q (o :: rest) a w := by
  obtain ⟨D, hown, hM, hD⟩ := hN
  refine wpListIn_lookup_own_ok w hg m x _ hop _ _ i64_keyed Tryz.underlying130 npElem (zeroNp w) _ _ (npElem_mk 0 0) b n D hm hown _ _ hx (keyOf_log h0 h1) (fun v ps hv => ?_)
  obtain ⟨s, p, rfl, hz⟩ := npElem_inv hv
  rw [(hD k h0 h1).1] at hz
  obtain ⟨e1, e2⟩ := npD_inj (congrArg Prod.fst hz)
  rw [e1, e2] at hK
  rw [(hD k h0 h1).2]
  exact hK
theorem wpListIn_update_np (hg : o.guard = none) (m x v : Operand) (hop : o.op = Op.mapUpdate 130 m x v) (b n : Nat) (xs : List (Int × Pg)) (hm : a.eval m = .map (some b)) (hN : NpIs w b n xs) (hn : n < maxLen)
    (y : Int × Pg) (h0 : 0 ≤ y.2.log) (h1 : y.2.log ≤ 39) (hx : a.eval x = .int .i64 y.2.log) (hv : a.eval v = .agg #[.int .i64 y.2.seq, .int .i64 y.1]) (hnw : newer (newestAt xs y.2.log) y.2.seq = true)
    (hK : ∀ w', NpIs w' b (n + 1) (xs ++ [y]) → w.grownBy w' (some b) → wpListIn F nF Tryz.prog ops Q rest (a.put o.dst undef) w') : wpListIn F nF Tryz.prog ops Q (o :: rest) a w := by
  obtain ⟨D, hown, hM, hD⟩ := hN
  refine wpListIn_mapUpdate_own w hg m x v _ hop _ _ i64_keyed Tryz.underlying130 npElem b n D hm hown hn _ _ _ hx hv (keyOf_log h0 h1) _ _ (npElem_mk _ _) (fun w' h2 h3 => ?_)
  exact hK w' (NpIs.step (W := w) (n := n) rfl hM hD h2 hnw) h3
end
end Go.Proofs.YtjgcjeaplckbbaaGreat

/- The program's map of the newest pages. -/
namespace Go.Proofs.YtjgcjeaplckbbaaGreat
open Go.RowKit Go.Shelf
set_option linter.unusedVariables false
set_option linter.unusedSimpArgs false
attribute [local go_sem] Oper.semAt_some

def RightU (x : Int × Pg) : Prop := 0 ≤ x.2.log ∧ x.2.log ≤ 39 ∧ 1 ≤ x.2.seq ∧ x.2.seq ≤ 1000000000
abbrev RU := {x : Int × Pg // RightU x}

/-- Between two rounds: the function's own variables, those that came being pre. -/
def NewI (w : World) (room : Nat) (pre : List RU) (W : World) : Prop :=
  W.heap[w.heap.size + 1]? = some (.cells #[Value.slice none 0 0] 27 (0, 0)) ∧ W.heap[w.heap.size + 1 + 1]? = some (.cells #[Value.bool false] 4 (0, 0)) ∧
  W.heap[w.heap.size + 1 + 1 + 1]? = some (.cells #[Value.int .i64 (room : Int)] 2 (0, 0)) ∧ W.heap[w.heap.size + 1 + 1 + 1 + 1 + 1]? = some (.cells #[Value.map (some (w.heap.size + 1 + 1 + 1 + 1))] 130 (0, 0)) ∧
  NpIs W (w.heap.size + 1 + 1 + 1 + 1) pre.length (pre.map (·.val)) ∧ (∀ x ∈ pre, x.val.2.log < (room : Int)) ∧ w.heap.size + 1 + 1 + 1 + 1 + 1 + 1 < W.heap.size
def NewX (w : World) (room : Nat) (c : Code) (pre : List RU) (W : World) : Prop :=
  c = .ret ∧ (∃ x ∈ pre, (room : Int) ≤ x.val.2.log) ∧ W.heap[w.heap.size + 1]? = some (.cells #[Value.slice none 0 0] 27 (0, 0)) ∧ W.heap[w.heap.size + 1 + 1]? = some (.cells #[Value.bool false] 4 (0, 0))
theorem NewI.own (w : World) (room : Nat) {B : Nat} (hB : w.heap.size + 1 + 1 + 1 + 1 < B) : OwnFrom B (NewI w room) := fun p W W' row ⟨h1, h2, h3, h4, h5, h6, h7⟩ hg hr =>
  have hr' : ∀ r, row = some r → ∃ o : Obj, W.heap[r]? = some o ∧ o.isCells = false := fun r e => (hr r e).2
  ⟨blk_kept h1 hg hr', blk_kept h2 hg hr', blk_kept h3 hg hr', blk_kept h4 hg hr', h5.kept hg (fun e => by have := (hr _ e.symm).1; omega), h6, Nat.lt_of_lt_of_le h7 hg.size⟩
theorem NewX.own (w : World) (room : Nat) (c : Code) : Own (NewX w room c) := fun p W W' row ⟨h1, h2, h3, h4⟩ hg hr => ⟨h1, h2, blk_kept h3 hg hr, blk_kept h4 hg hr⟩

theorem keepsFrom_grown {B b : Nat} {W W' : World} (h : W.grownBy W' (some b)) (hb : b < B) : KeepsFrom B W W' :=
  ⟨h.size, fun k o hk ho _ => by rw [h.block k (Array.getElem?_eq_some_iff.1 ho).1 (fun e => by cases e; omega)]; exact ho⟩
theorem keepB_grown {Bx b : Nat} {W W' : World} (h : W.grownBy W' (some b)) (hB : Bx < W.heap.size) (hb : Bx ≠ b) : KeepB Bx W W' :=
  ⟨h.size, h.block Bx hB (fun e => by cases e; exact hb rfl)⟩
theorem newer_iff {cur : Option (Int × Pg)} {s : Int} (hs : 1 ≤ s) : newer cur s = true ↔ (npOf cur).1 < s := by
  cases cur with
  | none => simp [newer, npOf]; omega
  | some y => simp [newer, npOf]

theorem run_field_np (a b : Int) (W : World) : (Instr.field 75 (.agg #[.int .i64 a, .int .i64 b]) 0).run Tryz.prog W = .ok (.int .i64 a) W := by kernel_rfl

theorem wpListIn_lookup_ok_cur {F : Fence} {nF : Nat} (w : World) {ops : Array Oper} {rest : List Oper} {o : Oper} {a : Act} {Q : Exit → Act → World → Prop} (hg : o.guard = none) (m x : Operand) (hop : o.op = Op.lookup 130 m x true) (b n : Nat) (xs : List (Int × Pg)) (hm : a.eval m = .map (some b)) (hN : NpIs w b n xs)
    (k : Int) (h0 : 0 ≤ k) (h1 : k ≤ 39) (hx : a.eval x = .int .i64 k) (s p : Int) (r : Bool) (hs : (npOf (newestAt xs k)).1 = s) (hp : (npOf (newestAt xs k)).2 = p) (hr : (newestAt xs k).isSome = r)
    (hK : wpListIn F nF Tryz.prog ops Q rest (a.put o.dst (.tuple #[.agg #[.int .i64 s, .int .i64 p], .bool r])) w) : wpListIn F nF Tryz.prog ops Q (o :: rest) a w := by
  refine wpListIn_lookup_ok_np w hg m x hop b n xs hm hN k h0 h1 hx ?_
  rw [hs, hp, hr]
  exact hK
theorem RowInts.put2 {w : World} {t : TypeId} {b n k : Nat} {L : List Int} {x : Int} (h : RowInts w t b n (L.take k)) (hx : L[k]? = some x) (v0 : Value) (o : Obj) :
    RowInts (((w.setCell ⟨b, k, none⟩ v0).setCell ⟨b, k, none⟩ (.int .i64 x)).alloc o) t b n (L.take (k + 1)) := by
  refine World.rowIs.congr (World.rowIs.alloc (World.rowIs.set (World.rowIs.set h k v0) k (.int .i64 x)) o) fun i hi => ?_
  unfold intF
  by_cases e : i = k
  · subst e; simp [List.getElem?_take, hx]
  · by_cases l : i < k
    · simp [e, List.getElem?_take, l, Nat.lt_succ_of_lt l]
    · have l2 : ¬ i < k + 1 := by omega
      simp [e, List.getElem?_take, l, l2]

theorem RowInts.own {w : World} {t : TypeId} {b n B : Nat} {L : List Int} (h : RowInts w t b n L) (hl : L.length = n) (hB : B ≤ b) (hn : n ≤ 1048576) : OwnInts w t B (.slice (some ⟨b, 0, none⟩) n n) L := by
  obtain ⟨c, hb, hc, hf⟩ := h
  refine ⟨by simp [ints], .inr ⟨b, n, c, by rw [hl], hB, hb, by omega, by unfold maxLen; omega, by omega, ?_⟩⟩
  rw [List.take_of_length_le (by simp; omega)]
  refine List.ext_getElem? (fun i => ?_)
  by_cases hi : i < n
  · have h1 := hf i hi
    rw [← Array.getElem?_toList] at h1
    rw [h1]
    obtain ⟨x, hx⟩ := getElem?_ex (l := L) (k := i) (by omega)
    simp [ints, intF, hx]
  · rw [List.getElem?_eq_none (by simp; omega), List.getElem?_eq_none (by rw [ints_length]; omega)]

theorem heap6 (w : World) (o1 o2 o3 o4 o5 o6 : Obj) :
    ((((((w.alloc o1).alloc o2).alloc o3).alloc o4).alloc o5).alloc o6).heap[w.heap.size]? = some o1 ∧ ((((((w.alloc o1).alloc o2).alloc o3).alloc o4).alloc o5).alloc o6).heap[w.heap.size + 1]? = some o2 ∧
    ((((((w.alloc o1).alloc o2).alloc o3).alloc o4).alloc o5).alloc o6).heap[w.heap.size + 1 + 1]? = some o3 ∧ ((((((w.alloc o1).alloc o2).alloc o3).alloc o4).alloc o5).alloc o6).heap[w.heap.size + 1 + 1 + 1]? = some o4 ∧
    ((((((w.alloc o1).alloc o2).alloc o3).alloc o4).alloc o5).alloc o6).heap[w.heap.size + 1 + 1 + 1 + 1]? = some o5 ∧ ((((((w.alloc o1).alloc o2).alloc o3).alloc o4).alloc o5).alloc o6).heap[w.heap.size + 1 + 1 + 1 + 1 + 1]? = some o6 := by
  have e : ((((((w.alloc o1).alloc o2).alloc o3).alloc o4).alloc o5).alloc o6).heap = (((((w.heap.push o1).push o2).push o3).push o4).push o5).push o6 := rfl
  rw [e]
  simp only [Array.getElem?_push, Array.size_push]
  refine ⟨?_, ?_, ?_, ?_, ?_, ?_⟩
  · rw [if_neg (by omega), if_neg (by omega), if_neg (by omega), if_neg (by omega), if_neg (by omega), if_pos trivial]
  · rw [if_neg (by omega), if_neg (by omega), if_neg (by omega), if_neg (by omega), if_pos trivial]
  · rw [if_neg (by omega), if_neg (by omega), if_neg (by omega), if_pos trivial]
  · rw [if_neg (by omega), if_neg (by omega), if_pos trivial]
  · rw [if_neg (by omega), if_pos trivial]
  · rw [if_pos trivial]

set_option maxRecDepth 100000 in
set_option maxHeartbeats 2000000 in
theorem newestPlaces_any (m : CC) (c : Nat) (hm : m.count = c) (h4 : 4 ≤ c) (hc : c ≤ 12) (bs : List Bk) (hl : bs.length = c) (hbs : ccBs m c = bs) (hok : ChipOk bs) (w : World) :
    Calls Tryz.prog 41 #[.agg (ccA m)] w fun e w' => MapRet bs 2 w.heap.size e w' ∧ Below w.heap.size w w' := by
  obtain ⟨room, hroom⟩ : ∃ room, room = roomOf bs := ⟨_, rfl⟩
  have hroomN : room = 4 * (c - 3) := by rw [hroom]; unfold roomOf; rw [hl]
  have hri : roomI (c : Int) = (room : Int) := by rw [roomI_in (by omega), hroomN]; omega
  have hr36 : room ≤ 36 := by omega
  have hua : usedAll m c = usedOf bs := by subst hl; exact usedOf_cc hbs
  have hRx : ∀ b k : Nat, b < c → k < 4 → (m.page b k).used = true → RightU ((b : Int) * 4 + (k : Int), m.page b k) := fun b k hb hk hu => by
    have hmem : ((b : Int) * 4 + (k : Int), m.page b k) ∈ usedOf bs := by
      rw [← hua]
      unfold usedAll
      simp only [List.mem_flatMap, List.mem_range]
      refine ⟨b, hb, ?_⟩
      unfold usedB
      simp only [List.mem_map, List.mem_filter, List.mem_range]
      exact ⟨k, ⟨hk, hu⟩, rfl⟩
    obtain ⟨q1, q2, q3, q4, _⟩ := hok.usedRight hmem
    exact ⟨q1, q2, q3, q4⟩
  have hc0 := ccA_count m
  rw [hm] at hc0
  have HRM := hide hroom
  have HUA := hide hua
  have HRX := hide hRx
  clear hroom hua hRx hroomN
  refine (callsIn_wide (n := 8)).1 ?_
  refine callsIn_of_wp_marks Tryz.func41 rfl trivial ?_ rfl
  simp only [Tryz.ntmps41, List.size_toArray, List.length_cons, List.length_nil, Nat.reduceAdd, Nat.reduceSub, Array.replicate_succ, Array.replicate_zero, List.push_toArray, List.append_toArray, List.nil_append, List.cons_append]
  gi_wp2_with fail
  refine ⟨trivial, ?_⟩
  gi_at_call 34
  refine (callsIn_wide.2 (implRoomFor_any _ _)).mono ?_
  rintro e w' ⟨rfl, rfl⟩
  rw [hri]
  clear hc0 hri
  have hmm := @run_makeMap Tryz.prog
  have h6 := heap6 w (.cells (ccA m) 57) (.cells #[.slice none 0 0] 27) (.cells #[.bool false] 4) (.cells #[.int .i64 (room : Int)] 2) (.map #[] 0) (.cells #[.map (some (w.heap.size + 1 + 1 + 1 + 1))] 130)
  have H6 := hide h6
  have HLD := hide (fun j (hj : j < 205) => (by rw [Nat.zero_add]; exact cell_of_row _ _ j _ _ _ h6.1 : World.cell? _ ⟨w.heap.size, 0 + j, none⟩ = (ccA m)[j]?))
  clear h6
  gi_wp2_with (first | (refine wpListIn_load_mid rfl 57 _ rfl w.heap.size 0 rfl (ccA m) 205 (ccA_size m) (unhide HLD) _ Tryz.underlying57 rfl sizeCC' ?_) | (refine ⟨trivial, ?_⟩; gi_at_call 69; refine (usedPages_in Fence.wide _ trivial rfl m _).mono ?_; rintro e w' ⟨rfl, rfl⟩))
  clear HLD hmm
  obtain ⟨W4, hW4⟩ : ∃ W4, W4 = (((((w.alloc (.cells (ccA m) 57)).alloc (.cells #[.slice none 0 0] 27)).alloc (.cells #[.bool false] 4)).alloc (.cells #[.int .i64 (room : Int)] 2)).alloc (.map #[] 0)).alloc (.cells #[.map (some (w.heap.size + 1 + 1 + 1 + 1))] 130) := ⟨_, rfl⟩
  have h6 := unhide H6
  clear H6
  have hs4 : W4.heap.size = w.heap.size + 1 + 1 + 1 + 1 + 1 + 1 := by rw [hW4]; simp
  have hB4 : Below w.heap.size w W4 := by
    rw [hW4]
    exact ((((((Below.refl _ w).alloc (Nat.le_refl _) _).alloc (by simp) _).alloc (by simp; omega) _).alloc (by simp; omega) _).alloc (by simp; omega) _).alloc (by simp; omega) _
  have hNp0 : NpIs W4 (w.heap.size + 1 + 1 + 1 + 1) 0 [] := by
    have h0 := NpIs.made ((((w.alloc (.cells (ccA m) 57)).alloc (.cells #[.slice none 0 0] 27)).alloc (.cells #[.bool false] 4)).alloc (.cells #[.int .i64 (room : Int)] 2))
    have e : ((((w.alloc (.cells (ccA m) 57)).alloc (.cells #[.slice none 0 0] 27)).alloc (.cells #[.bool false] 4)).alloc (.cells #[.int .i64 (room : Int)] 2)).heap.size = w.heap.size + 1 + 1 + 1 + 1 := by simp
    rw [e] at h0
    rw [hW4]
    exact h0.kept (World.grownBy_alloc _ _ none) (by simp)
  rw [← hW4] at h6 ⊢
  clear hW4
  obtain ⟨_, h61, h62, h63, _, h65⟩ := h6
  have hbel : Below w.heap.size w (W4.alloc (.cells (ccA m) 57)) := hB4.alloc hB4.size _
  have hbox : ∀ i, (W4.alloc (.cells (ccA m) 57)).cell? ⟨w.heap.size + 1 + 1 + 1 + 1 + 1 + 1, i, none⟩ = (ccA m)[i]? := fun i => by rw [← hs4]; simp
  refine wpIn_rangeFunc_ownH rfl (by omega) (gf := 92) (lb := #[.pointer (some ⟨w.heap.size + 1 + 1 + 1 + 1 + 1 + 1, 0, none⟩)]) rfl trivial (enters_of Tryz.func92 (by kernel_rfl) rfl)
    (usedR_stops RightU Fence.wide _ trivial rfl (by omega) (w.heap.size + 1 + 1 + 1 + 1 + 1 + 1) c m hm hc (unhide HRX) _ (by simp; omega) hbox) KeepB.trans (keepB_b (by simp; omega)) (Below.refl _ _) (fun _ => rfl)
    (fun pre W => NewI w room pre W ∧ Below w.heap.size w W) (fun c pre W => NewX w room c pre W ∧ Below w.heap.size w W)
    (OwnFrom.and (NewI.own w room (by simp; omega)) (ownFrom_below (Nat.le_refl _) (by simp; omega)))
    (fun c => OwnFrom.and (Own.from (NewX.own w room c) _) (ownFrom_below (Nat.le_refl _) (by simp; omega)))
    ⟨⟨by rw [Below.heap_alloc _ _ _ (by rw [hs4]; omega)]; exact h61, by rw [Below.heap_alloc _ _ _ (by rw [hs4]; omega)]; exact h62, by rw [Below.heap_alloc _ _ _ (by rw [hs4]; omega)]; exact h63, by rw [Below.heap_alloc _ _ _ (by rw [hs4]; omega)]; exact h65, hNp0.kept (World.grownBy_alloc _ _ none) (by simp), fun x hx => by simp at hx, by simp; omega⟩, hbel⟩
    (fun x a' W => ∃ Bp, w.heap.size + 1 + 1 + 1 + 1 + 1 + 1 < Bp ∧ W.heap[Bp]? = some (.cells #[Value.bool x.val.2.used, Value.int .i64 x.val.2.log, Value.int .i64 x.val.2.seq, Value.string x.val.2.data] 51 (0, 0)) ∧
      a' = { tmps := #[.agg (ccA m), .pointer (some ⟨w.heap.size, 0, none⟩), .pointer (some ⟨w.heap.size + 1, 0, none⟩), .pointer (some ⟨w.heap.size + 1 + 1, 0, none⟩), .pointer (some ⟨w.heap.size + 1 + 1 + 1, 0, none⟩), .pointer (some ⟨w.heap.size + 1 + 1 + 1 + 1 + 1, 0, none⟩), .int .i64 x.val.1, .pointer (some ⟨Bp, 0, none⟩), undef, undef, undef, undef, .pointer (some ⟨w.heap.size, 0, none⟩), .int .i64 (c : Int), .int .i64 (room : Int), .map (some (w.heap.size + 1 + 1 + 1 + 1)), .agg (ccA m), .func (.func 92) #[] #[.pointer (some ⟨w.heap.size + 1 + 1 + 1 + 1 + 1 + 1, 0, none⟩)], .int .i64 x.val.1, .agg #[Value.bool x.val.2.used, Value.int .i64 x.val.2.log, Value.int .i64 x.val.2.seq, Value.string x.val.2.data], undef, undef, undef, undef, undef, undef, undef, undef, undef, undef, undef, undef, undef, undef, undef, undef, undef, undef, undef, undef, undef, undef, undef, undef, undef, undef, undef, undef, undef, undef, undef, undef, undef, undef, undef, undef, undef, undef, undef, undef, undef, undef, undef], defers := [] })
    (fun x a' => Own.from (fun _ W W' row ⟨Bp, h1, h2, h3⟩ hg hr => ⟨Bp, h1, blk_kept h2 hg hr, h3⟩) _) ?assign ?body ?done ?stop
  case assign =>
    rintro l pre x W K ⟨hi, hb⟩ hK
    obtain ⟨⟨xi, xp⟩, hx⟩ := x
    simp only [encU]
    gi_wp2
    have hWs : w.heap.size + 1 + 1 + 1 + 1 + 1 + 1 < W.heap.size := hi.2.2.2.2.2.2
    exact hK _ _ ((KeepsOthers.alloc _ _).from _) (KeepB.alloc _ _ hWs) ⟨NewI.own w room (B := w.heap.size + 1 + 1 + 1 + 1 + 1) (by omega) pre W _ none hi (World.grownBy_alloc W _ none) (fun r e => by cases e), hb.alloc hb.size _⟩ ⟨W.heap.size, hWs, World.alloc_heap_new _ _, rfl⟩
  case body =>
    rintro l pre ⟨⟨xi, u, lg, s, d⟩, hx⟩ a' W hlb hlr ⟨⟨h1, h2, h3, h5, hNp, hF, hWs⟩, hb⟩ ⟨Bp, hBp, hpb, rfl⟩ hlen
    obtain ⟨q0, q1, q2, q3⟩ := hx
    simp only at q0 q1 q2 q3 hpb ⊢
    have hcL := cell_of_row _ _ 1 _ _ _ hpb
    have hcS := cell_of_row _ _ 2 _ _ _ hpb
    have hcR := cell_of_row _ _ 0 _ _ _ h3
    have hcM := cell_of_row _ _ 0 _ _ _ h5
    have hcF := cell_of_row _ _ 0 _ _ _ h1
    have hfF := frozen_of_row _ _ 0 _ _ h1
    have hcG := cell_of_row _ _ 0 _ _ _ h2
    have hfG := frozen_of_row _ _ 0 _ _ h2
    simp only [List.getElem?_toArray, List.getElem?_cons_succ, List.getElem?_cons_zero] at hcL hcS hcR hcM hcF hcG
    have H1 := hide h1
    have H2 := hide h2
    have H3 := hide h3
    have H5 := hide h5
    have HNP := hide hNp
    have HF := hide hF
    clear h1 h2 h3 h5 hNp hF hpb
    have hfld := run_field_np
    by_cases hlog : lg < (room : Int)
    · by_cases hnw : newer (newestAt (pre.map (·.val)) lg) s = true
      · have hv : (npOf (newestAt (pre.map (·.val)) lg)).1 < s := (newer_iff q2).1 hnw
        have HNW := hide hnw
        clear hnw
        gi_wp2_with (first | (gi_at_lookup; refine wpListIn_lookup_np _ rfl _ _ rfl (w.heap.size + 1 + 1 + 1 + 1) pre.length (pre.map (·.val)) rfl (unhide HNP) lg q0 q1 rfl ?_) | (gi_at_mapUpdate; refine wpListIn_update_np _ rfl _ _ _ rfl (w.heap.size + 1 + 1 + 1 + 1) pre.length (pre.map (·.val)) rfl (unhide HNP) (by unfold maxLen; omega) (xi, ⟨u, lg, s, d⟩) q0 q1 rfl rfl (unhide HNW) ?_; intro w2 hnp2 hg2))
        refine ⟨keepsFrom_grown hg2 (by simp; omega), keepB_grown hg2 hWs (by omega), ⟨?_, ?_, ?_, ?_, ?_, ?_, Nat.lt_of_lt_of_le hWs hg2.size⟩, hb.grown hg2 hb.size (fun j e => by cases e; omega)⟩
        · rw [hg2.block _ (by omega) (fun e => by simp at e)]; exact unhide H1
        · rw [hg2.block _ (by omega) (fun e => by simp at e)]; exact unhide H2
        · rw [hg2.block _ (by omega) (fun e => by simp at e)]; exact unhide H3
        · rw [hg2.block _ (by omega) (fun e => by simp at e)]; exact unhide H5
        · simpa using hnp2
        · intro x hx
          rcases List.mem_append.1 hx with hx | hx
          · exact unhide HF x hx
          · rw [List.mem_singleton.1 hx]; exact hlog
      · have hv : ¬ (npOf (newestAt (pre.map (·.val)) lg)).1 < s := fun hc => hnw ((newer_iff q2).2 hc)
        have HNW := hide hnw
        clear hnw
        gi_wp2_with (first | (gi_at_lookup; refine wpListIn_lookup_np _ rfl _ _ rfl (w.heap.size + 1 + 1 + 1 + 1) pre.length (pre.map (·.val)) rfl (unhide HNP) lg q0 q1 rfl ?_))
        refine ⟨KeepsFrom.refl _ _, KeepB.refl _ _, ⟨unhide H1, unhide H2, unhide H3, unhide H5, ?_, ?_, hWs⟩, hb⟩
        · have h0 := NpIs.same (unhide HNP) (x := (xi, ⟨u, lg, s, d⟩)) rfl (unhide HNW)
          rw [List.map_append, List.length_append]
          exact h0.mono (by simp)
        · intro x hx
          rcases List.mem_append.1 hx with hx | hx
          · exact unhide HF x hx
          · rw [List.mem_singleton.1 hx]; exact hlog
    · have hlog' : (room : Int) ≤ lg := by omega
      gi_wp2
      refine ⟨((KeepsOthers.setCell _ _ _).from _).trans ((KeepsOthers.setCell _ _ _).from _), ⟨rfl, ⟨_, List.mem_append_right _ (List.mem_singleton.2 rfl), hlog'⟩, ?_, ?_⟩, ?_⟩
      · rw [Below.heap_setCell _ _ _ _ (by simp)]
        exact blk_setCell_same 0 (.slice none 0 0) (unhide H1)
      · exact blk_setCell_same 0 (.bool false) ((Below.heap_setCell _ _ _ _ (by simp)).trans (unhide H2))
      · exact (hb.setCell (p := ⟨w.heap.size + 1, 0, none⟩) (by simp) _).setCell (p := ⟨w.heap.size + 1 + 1, 0, none⟩) (by simp; omega) _
  case done =>
    rintro D ys W hD hys ⟨⟨h1, h2, h3, h5, hNp, hF, hWs⟩, hb⟩ hK
    have hcR := cell_of_row _ _ 0 _ _ _ h3
    have hcM := cell_of_row _ _ 0 _ _ _ h5
    have hcF := cell_of_row _ _ 0 _ _ _ h1
    have hfF := frozen_of_row _ _ 0 _ _ h1
    have hcG := cell_of_row _ _ 0 _ _ _ h2
    have hfG := frozen_of_row _ _ 0 _ _ h2
    simp only [List.getElem?_toArray, List.getElem?_cons_succ, List.getElem?_cons_zero] at hcR hcM hcF hcG
    have H1 := hide h1
    have H2 := hide h2
    rw [hys, unhide HUA] at hNp
    have hF' : Fits bs := fun x hx => by
      rw [← unhide HUA, ← hys] at hx
      obtain ⟨y, hy, rfl⟩ := List.mem_map.1 hx
      rw [← unhide HRM]
      exact hF y hy
    have HNP := hide hNp
    have HF := hide hF'
    have HK := hide hK
    clear h1 h2 h3 h5 hNp hF hF' hys hK
    have hmk := make_ints room (by omega)
    gi_wp2
    clear hmk hcR
    have hDlt : D < W.heap.size := (Array.getElem?_eq_some_iff.1 (unhide HK)).1
    gi_loopw [43] (fun i wr => ∃ k : Nat, k ≤ room ∧ i = .int .i64 k ∧ RowInts wr 2 W.heap.size room ((placesOf (usedOf bs) room).take k) ∧ Below W.heap.size W wr ∧ W.heap.size < wr.heap.size) (fun i _ => room - (intOf i).toNat)
    case atStart => exact ⟨0, Nat.zero_le _, rfl, by simpa using RowInts.made W _ _, (Below.refl _ _).alloc (Nat.le_refl _) _, by simp⟩
    case round =>
      obtain ⟨k, hk, rfl, hR, hBr, hsr⟩ := hrel
      by_cases hlt : k < room
      · have hat := placesOf_at (usedOf bs) room hlt
        have hcM' := (hBr.cell (p := ⟨w.heap.size + 1 + 1 + 1 + 1 + 1, 0, none⟩) (by show w.heap.size + 1 + 1 + 1 + 1 + 1 < W.heap.size; omega)).trans hcM
        have hNp' : NpIs (wr.setCell ⟨W.heap.size, k, none⟩ (.int .i64 (-1))) (w.heap.size + 1 + 1 + 1 + 1) ys.length (usedOf bs) := by
          refine NpIs.kept (W := wr) (row := some W.heap.size) ((unhide HNP).kept (row := none) ⟨hBr.os, hBr.tape, hBr.output, hBr.size, fun j hj _ => hBr.block j hj⟩ (by simp)) ⟨rfl, rfl, rfl, by simp [World.setCell], fun j _ hj => Below.heap_setCell _ _ _ _ (fun e => hj (by rw [e]))⟩ (by simp; omega)
        have c0 := World.rowIs.cell hR (i := k) hlt
        have f0 := World.rowIs.frozen hR
        have HR := hide hR
        have HNP' := hide hNp'
        have HAT := hide hat
        have hk40 : (k : Int) ≤ 39 := by omega
        have hk00 : 0 ≤ (k : Int) := by omega
        have hne1 : W.heap.size ≠ w.heap.size + 1 + 1 + 1 + 1 + 1 := by omega
        clear hR hNp' hat hcM hcF hfF hcG hfG
        cases hnw : newestAt (usedOf bs) (k : Int) with
        | none =>
          have e1 : (npOf (newestAt (usedOf bs) (k : Int))).1 = 0 := by rw [hnw]; rfl
          have e2 : (npOf (newestAt (usedOf bs) (k : Int))).2 = 0 := by rw [hnw]; rfl
          have e3 : (newestAt (usedOf bs) (k : Int)).isSome = false := by rw [hnw]; rfl
          have hat := unhide HAT
          rw [hnw] at hat
          have HAT2 := hide hat
          have E1 := hide e1
          have E2 := hide e2
          have E3 := hide e3
          clear HAT hat e1 e2 e3 hnw
          gi_wp2_with (gi_at_lookup; refine wpListIn_lookup_ok_cur _ rfl _ _ rfl (w.heap.size + 1 + 1 + 1 + 1) ys.length (usedOf bs) rfl (unhide HNP') (k : Int) hk00 hk40 rfl 0 0 false (unhide E1) (unhide E2) (unhide E3) ?_)
          go_roundw
          case rel =>
            refine ⟨k + 1, by omega, by go_num, ?_, ?_, ?_⟩
            · exact World.rowIs.alloc (RowInts.put (unhide HR) (unhide HAT2)) _
            · exact (hBr.setCell (p := ⟨W.heap.size, k, none⟩) (Nat.le_refl _) _).alloc (by simp [World.setCell]; omega) _
            · simp [World.setCell]; omega
          case measure => simp [intOf]; omega
        | some y =>
          have e1 : (npOf (newestAt (usedOf bs) (k : Int))).1 = y.2.seq := by rw [hnw]; rfl
          have e2 : (npOf (newestAt (usedOf bs) (k : Int))).2 = y.1 := by rw [hnw]; rfl
          have e3 : (newestAt (usedOf bs) (k : Int)).isSome = true := by rw [hnw]; rfl
          have hat := unhide HAT
          rw [hnw] at hat
          have HAT2 := hide hat
          have E1 := hide e1
          have E2 := hide e2
          have E3 := hide e3
          clear HAT hat e1 e2 e3 hnw
          gi_wp2_with (gi_at_lookup; refine wpListIn_lookup_ok_cur _ rfl _ _ rfl (w.heap.size + 1 + 1 + 1 + 1) ys.length (usedOf bs) rfl (unhide HNP') (k : Int) hk00 hk40 rfl y.2.seq y.1 true (unhide E1) (unhide E2) (unhide E3) ?_)
          go_roundw
          case rel =>
            refine ⟨k + 1, by omega, by go_num, ?_, ?_, ?_⟩
            · exact RowInts.put2 (unhide HR) (unhide HAT2) _ _
            · exact ((hBr.setCell (p := ⟨W.heap.size, k, none⟩) (Nat.le_refl _) _).setCell (p := ⟨W.heap.size, k, none⟩) (Nat.le_refl _) _).alloc (by simp [World.setCell]; omega) _
            · simp [World.setCell]; omega
          case measure => simp [intOf]; omega
      · obtain rfl : k = room := by omega
        have hcF' := (hBr.cell (p := ⟨w.heap.size + 1, 0, none⟩) (by show w.heap.size + 1 < W.heap.size; omega)).trans hcF
        have hfF' := (hBr.frozen (p := ⟨w.heap.size + 1, 0, none⟩) (by show w.heap.size + 1 < W.heap.size; omega)).trans hfF
        have hcG' := (hBr.cell (p := ⟨w.heap.size + 1 + 1, 0, none⟩) (by show w.heap.size + 1 + 1 < W.heap.size; omega)).trans hcG
        have hfG' := (hBr.frozen (p := ⟨w.heap.size + 1 + 1, 0, none⟩) (by show w.heap.size + 1 + 1 < W.heap.size; omega)).trans hfG
        have hKr := (hBr.block D hDlt).trans (unhide HK)
        have HKR := hide hKr
        have HR := hide hR
        clear hKr hR hcF hfF hcG hfG hcM
        gi_wp2
        have hK' := ((KeepsOthers.setCell wr ⟨w.heap.size + 1, 0, none⟩ (.slice (some ⟨W.heap.size, 0, none⟩) k k)).trans (KeepsOthers.setCell _ ⟨w.heap.size + 1 + 1, 0, none⟩ (.bool true))).same D _ (unhide HKR) rfl
        refine ⟨by simp, .inl ⟨_, _, rfl, run_takeDeferred hK', ?_⟩⟩
        have hc4 : ((wr.setCell ⟨w.heap.size + 1, 0, none⟩ (.slice (some ⟨W.heap.size, 0, none⟩) k k)).setCell ⟨w.heap.size + 1 + 1, 0, none⟩ (.bool true)).cell? ⟨w.heap.size + 1, 0, none⟩ = some (.slice (some ⟨W.heap.size, 0, none⟩) k k) := by
          refine (World.cell?_of_block (a := ⟨w.heap.size + 1, 0, none⟩) (Below.heap_setCell _ _ _ _ (by show w.heap.size + 1 ≠ w.heap.size + 1 + 1; omega))).trans ?_
          exact World.cell?_setCell_same' wr ⟨w.heap.size + 1, 0, none⟩ _ (by rw [hcF']; rfl)
        have hc5 := cell_kept hc4 (grownBy_putObj' _ D (.deferred none)) (fun r e => by cases e; exact ⟨_, hK', rfl⟩)
        have hc6 := cell_kept (World.cell?_setCell_same' (wr.setCell ⟨w.heap.size + 1, 0, none⟩ (.slice (some ⟨W.heap.size, 0, none⟩) k k)) ⟨w.heap.size + 1 + 1, 0, none⟩ (.bool true) (by rw [World.cell?_of_block (a := ⟨w.heap.size + 1 + 1, 0, none⟩) (Below.heap_setCell wr _ _ _ (by show w.heap.size + 1 + 1 ≠ w.heap.size + 1; omega)), hcG']; rfl)) (grownBy_putObj' _ D (.deferred none)) (fun r e => by cases e; exact ⟨_, hK', rfl⟩)
        have hBw : Below w.heap.size w ((wr.setCell ⟨w.heap.size + 1, 0, none⟩ (.slice (some ⟨W.heap.size, 0, none⟩) k k)).setCell ⟨w.heap.size + 1 + 1, 0, none⟩ (.bool true)) := ((hb.trans (hBr.mono hb.size)).setCell (p := ⟨w.heap.size + 1, 0, none⟩) (by simp) _).setCell (p := ⟨w.heap.size + 1 + 1, 0, none⟩) (by simp; omega) _
        refine ⟨.tuple #[.slice (some ⟨W.heap.size, 0, none⟩) k k, .bool true], ?_, ⟨_, true, _, rfl, ⟨?_, rfl⟩, ?_⟩, hBw.trans (belowK_b (w := w) (Nat.le_refl _) _ D _ _ (by simp at hD; omega) hK' rfl rfl)⟩
        · simp [results, Tryz.f41, go_sem, hc5, hc6]
        · simp only [true_iff]
          exact unhide HF
        · simp only [if_true]
          have hr := unhide HR
          rw [List.take_of_length_le (by rw [placesOf_length]; exact Nat.le_refl _)] at hr
          rw [← unhide HRM]
          refine RowInts.own (World.rowIs.of_block hr ?_) (placesOf_length _ _) hb.size (by omega)
          rw [World.putObj_heap_other (by omega), Below.heap_setCell _ _ _ _ (by show W.heap.size ≠ w.heap.size + 1 + 1; omega), Below.heap_setCell _ _ _ _ (by show W.heap.size ≠ w.heap.size + 1; omega)]
  case stop =>
    rintro D c' pre W hD hpre ⟨⟨rfl, hin, h1, h2⟩, hb⟩ hK
    have hcF := cell_of_row _ _ 0 _ _ _ h1
    have hcG := cell_of_row _ _ 0 _ _ _ h2
    have HA := hide hin
    clear hin
    gi_wp2
    refine ⟨by simp, .inl ⟨_, _, rfl, run_takeDeferred hK, ?_⟩⟩
    have hc5 := cell_kept hcF (grownBy_putObj' _ D (.deferred none)) (fun r e => by cases e; exact ⟨_, hK, rfl⟩)
    have hc6 := cell_kept hcG (grownBy_putObj' _ D (.deferred none)) (fun r e => by cases e; exact ⟨_, hK, rfl⟩)
    refine ⟨.tuple #[.slice none 0 0, .bool false], ?_, ⟨_, false, [], rfl, ⟨?_, rfl⟩, World.ownsRow_nil _ _ _ _⟩, hb.trans (belowK_b (w := w) (Nat.le_refl _) W D _ _ (by simp at hD; omega) hK rfl rfl)⟩
    · simp [results, Tryz.f41, go_sem, hc5, hc6]
    · simp only [Bool.false_eq_true, false_iff]
      intro hfit
      obtain ⟨x, hx, hge⟩ := unhide HA
      have := hfit x.val (by rw [← unhide HUA]; exact hpre.subset (List.mem_map.2 ⟨x, hx, rfl⟩))
      rw [← unhide HRM] at this
      omega
end Go.Proofs.YtjgcjeaplckbbaaGreat
