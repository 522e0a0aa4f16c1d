/- An argument of the laws that is a list of ops, opened. -/
import Derived.Test.YtalgkmellbamgaaOpenC
import Derived.Test.YtalgkmellbamgaaOpM
import Derived.SliceStrings
namespace Go.Proofs.Ytalgkmellbamgaa
open Go.RowKit Go.ChangeShapes Go.WideShapes Go.Deep
set_option linter.unusedVariables false
set_option linter.unusedSimpArgs false

instance : Inhabited Opn := ⟨zeroOp⟩

set_option maxRecDepth 100000 in
/-- One op out of its six cells. -/
theorem open_op {H : Type} {enc : TypeId × Value → H} {w : World} {base : Nat} {spare : Nat → Bool} {held : Bool} {n : Nat} {cs : List Value} {x : DataW H × List MemPlace} (hcl : cs.length = 6) (h : DataW.trod enc Try.prog w base spare held n 147 cs = some x) :
    ∃ p : Opn, cs = [.int .i64 p.kind, .int .i64 p.block, .bool p.page.used, .int .i64 p.page.log, .int .i64 p.page.seq, .string p.page.data] ∧ p.page.data.size ≤ 9223372036854775807 := by
  obtain ⟨xs, k, hk, hxy, _, hxl, hf⟩ := DataW.trod_struct Try.underlying147 h
  have c0 : Try.prog.cellsOf 2 = 1 := by kernel_rfl
  have c1 : Try.prog.cellsOf 145 = 4 := by kernel_rfl
  match xs, hxl, cs, hcl with
  | [y0, y1, y2], _, [v0, v1, v2, v3, v4, v5], _ =>
    have g0 := hf 0 _ rfl
    have g1 := hf 1 _ rfl
    have g2 := hf 2 _ rfl
    simp [c0, c1] at g0 g1 g2
    obtain ⟨i0, hi0, _⟩ := DataW.trod_int Try.underlying2 g0
    obtain ⟨i1, hi1, _⟩ := DataW.trod_int Try.underlying2 g1
    obtain ⟨pg, hp, hd⟩ := open_page (cs := [v2, v3, v4, v5]) Try.underlying145 (by kernel_rfl) Try.underlying4 Try.underlying2 Try.underlying2 Try.underlying9 rfl g2
    cases hi0
    cases hi1
    cases hp
    exact ⟨⟨i0, i1, pg⟩, rfl, hd⟩

set_option maxRecDepth 100000 in
theorem open_ops {H : Type} {enc : TypeId × Value → H} {w : World} {base b0 : Nat} {spare : Nat → Bool} {held : Bool} {v : Value} {d : DataW H} {p : List MemPlace}
    (hv : Value.okWide Try.prog w .any b0 79 v) (h : DataW.Trod enc Try.prog w base spare held 79 v d p) :
    ∃ (a : Option Addr) (c : Nat) (xs : List Opn), v = .slice a xs.length c ∧ OpsAt w a xs ∧ xs.length ≤ 9223372036854775807 ∧ OpTexts xs := by
  have ce : Try.prog.cellsOf 147 = 6 := by kernel_rfl
  obtain ⟨a9, len9, cap9, rfl⟩ := okWide_slice Try.underlying79 hv
  obtain ⟨fuel, h⟩ := h
  rcases open_slice Try.underlying79 h with ⟨h0, _⟩ | ⟨a, len, cap, m, k, D, Pl, hv, hb, hl, hm, hmm, _, hx⟩
  · cases h0
    exact ⟨none, 0, [], rfl, fun i p hp => by simp at hp, by simp, fun p hp => by simp at hp⟩
  · cases hv
    have hlm : len9 ≤ m := by rw [hmm]; split <;> omega
    have hsp : 0 < len9 → ∃ b o, a = ⟨b, o, none⟩ := fun hp => by
      obtain ⟨cs', h1, h2⟩ := hx 0 (by omega)
      rw [ce] at h1
      obtain ⟨_, hlen, hcell⟩ := World.cells?_some h1
      have e0 := hcell 0 (by omega)
      rw [Go.Deep.add_add] at e0
      obtain ⟨b, o, spot⟩ := a
      obtain ⟨v, hv⟩ := getElem?_ex (l := cs') (k := 0) (by omega)
      have := World.cell?_spot (e0.trans hv)
      have hs : spot = none := by simpa [Addr.add] using this
      subst hs
      exact ⟨b, o, rfl⟩
    have each : ∀ i, i < len9 → ∃ p : Opn, (∃ b o, a = ⟨b, o, none⟩ ∧ w.cell? ⟨b, o + i * 6, none⟩ = some (.int .i64 p.kind) ∧ w.cell? ⟨b, o + i * 6 + 1, none⟩ = some (.int .i64 p.block) ∧ w.cell? ⟨b, o + i * 6 + 2, none⟩ = some (.bool p.page.used) ∧ w.cell? ⟨b, o + i * 6 + 3, none⟩ = some (.int .i64 p.page.log) ∧
        w.cell? ⟨b, o + i * 6 + 4, none⟩ = some (.int .i64 p.page.seq) ∧ w.cell? ⟨b, o + i * 6 + 5, none⟩ = some (.string p.page.data)) ∧ p.page.data.size ≤ 9223372036854775807 := by
      intro i hi
      obtain ⟨cs', h1, h2⟩ := hx i (by omega)
      rw [ce] at h1
      obtain ⟨_, hlen, hcell⟩ := World.cells?_some h1
      obtain ⟨p, rfl, hp⟩ := open_op hlen h2
      refine ⟨p, ?_, hp⟩
      have e0 := hcell 0 (by omega)
      have e1 := hcell 1 (by omega)
      have e2 := hcell 2 (by omega)
      have e3 := hcell 3 (by omega)
      have e4 := hcell 4 (by omega)
      have e5 := hcell 5 (by omega)
      rw [Go.Deep.add_add] at e0 e1 e2 e3 e4 e5
      obtain ⟨b, o, rfl⟩ := hsp (by omega)
      rw [Go.WideShapes.add_plain] at e0 e1 e2 e3 e4 e5
      exact ⟨b, o, rfl, by simpa using e0, by simpa [Nat.add_assoc] using e1, by simpa [Nat.add_assoc] using e2, by simpa [Nat.add_assoc] using e3, by simpa [Nat.add_assoc] using e4, by simpa [Nat.add_assoc] using e5⟩
    obtain ⟨q, hq⟩ := choose_lt each
    refine ⟨some a, cap9, (List.range len9).map q, by simp, fun i p hp => ?_, by simp; simp [maxLen] at hm; omega, fun p hp => ?_⟩
    · have hi : i < len9 := by have := (List.getElem?_eq_some_iff.1 hp).1; simpa using this
      simp [hi] at hp
      subst hp
      obtain ⟨⟨b, o, rfl, h0, h1, h2, h3, h4, h5⟩, _⟩ := hq i hi
      exact ⟨b, o, rfl, h0, h1, h2, h3, h4, h5⟩
    · obtain ⟨i, hi, rfl⟩ := List.mem_map.1 hp
      exact (hq i (List.mem_range.1 hi)).2
end Go.Proofs.Ytalgkmellbamgaa
