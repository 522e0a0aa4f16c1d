/- 12 texts in one. -/
import Derived.Test.YtalgkmellbamgaaGreatG23
import Derived.Test.YtalgkmellbamgaaGreatG27
import Derived.Test.YtalgkmellbamgaaGreatChecked
import Derived.Test.YtalgkmellbamgaaGreatG24
import Derived.Test.YtalgkmellbamgaaGreatG04
import Derived.Test.YtalgkmellbamgaaGreatG01
import Derived.WalkKit
import Derived.Outline
import Derived.ProofKit
import Derived.Below
import Derived.Deep.SlicePairs
import Derived.Deep.Fields
import Derived.Lib.SmallJoins
import Derived.ChangeArms
import Derived.OpenShut
import Derived.ChangeOld
import Derived.Test.YtalgkmellbamgaaGreatG03
import Derived.SliceStrings
import Derived.Test.YtalgkmellbamgaaGreatG14

/- Ops: the laws' own marks of them. -/
namespace Go.Proofs.YtalgkmellbamgaaGreat
open Go.RowKit
set_option linter.unusedVariables false
set_option linter.unusedSimpArgs false

def mkOp (k : Int) : Opn := ⟨k, k + 1, ⟨(k + 1 + 1) % 3 == 0, k + 1 + 1 + 1, k + 1 + 1 + 1 + 1, mt (k + 1 + 1 + 1 + 1 + 1).toNat⟩⟩
def markOs (k : Int) (n : Nat) : List Opn := (List.range n).map fun (i : Nat) => mkOp (k + 6 * (i : Int))
def markOTo (k : Int) (xs : List Opn) (j : Nat) : List Opn := markOs k j ++ xs.drop j
theorem markOs_length (k : Int) (n : Nat) : (markOs k n).length = n := by simp [markOs]
theorem markOs_at (k : Int) {n i : Nat} (hi : i < n) : (markOs k n)[i]? = some (mkOp (k + 6 * (i : Int))) := by simp [markOs, hi]
theorem markOTo_zero (k : Int) (xs : List Opn) : markOTo k xs 0 = xs := by simp [markOTo, markOs]
theorem markOTo_full (k : Int) (xs : List Opn) : markOTo k xs xs.length = markOs k xs.length := by simp [markOTo]
theorem markOTo_step (k : Int) (xs : List Opn) {j : Nat} (hj : j < xs.length) : (markOTo k xs (j + 1))[j]? = some (mkOp (k + 6 * (j : Int))) ∧ ∀ i, i ≠ j → (markOTo k xs (j + 1))[i]? = (markOTo k xs j)[i]? := by
  have h1 := markOs_length k (j + 1)
  have h0 := markOs_length k j
  unfold markOTo
  refine ⟨by rw [List.getElem?_append_left (by omega), markOs_at k (by omega)], fun i hi => ?_⟩
  by_cases hlt : i < j
  · rw [List.getElem?_append_left (by omega), List.getElem?_append_left (by omega), markOs_at k (by omega), markOs_at k hlt]
  · rw [List.getElem?_append_right (by omega), List.getElem?_append_right (by omega), h1, h0, List.getElem?_drop, List.getElem?_drop]
    congr 1
    omega

end Go.Proofs.YtalgkmellbamgaaGreat

/- Lists of int64: the laws' own comparison, marks, and whether they are held. -/
namespace Go.Proofs.YtalgkmellbamgaaGreat
open Go.RowKit
set_option linter.unusedVariables false
set_option linter.unusedSimpArgs false

def marksI (k : Int) (n : Nat) : List Int := (List.range n).map fun (i : Nat) => k + (i : Int)

set_option maxHeartbeats 1000000 in
theorem markInt64S_any (b o c n : Nat) (k : Int) (w : World) (h : IntsMine w b o n) (hn : n ≤ 1048576) (h0 : 0 < k) (h1 : k + n ≤ 1125899906842624) :
    Calls Tryz.prog 27 #[.slice (some ⟨b, o, none⟩) n c, .int .i64 k] w fun e w' => e = .returned (.int .i64 (k + n)) ∧ IntsAt w' (some ⟨b, o, none⟩) (marksI k n) ∧ Touch (· = b) w w' := by
  go_enter Tryz.func27, Tryz.ntmps27
  go_wp2
  go_loopw [1, 5] (fun v i wr => ∃ j : Nat, j ≤ n ∧ i = .int .i64 j ∧ v = .int .i64 (k + (j : Int)) ∧ IntsMine wr b o n ∧ (∀ t, t < j → wr.cell? ⟨b, o + t, none⟩ = some (.int .i64 (k + (t : Int)))) ∧ Touch (· = b) w wr) (fun _ i _ => n - (intOf i).toNat)
  case atStart => exact ⟨0, Nat.zero_le _, rfl, by simp, h, fun t ht => absurd ht (Nat.not_lt_zero _), Touch.refl _ _⟩
  case round =>
    obtain ⟨j, hj, rfl, rfl, hM, hD, hT⟩ := hrel
    by_cases hlt : j < n
    · obtain ⟨⟨x, hx⟩, hf⟩ := hM j hlt
      have HM := hide hM
      have HD := hide hD
      clear h hM hD
      go_wp2
      go_roundw
      case rel =>
        have hc : ∀ t, t ≠ j → (wr.setCell ⟨b, o + j, none⟩ (.int .i64 (k + (j : Int)))).cell? ⟨b, o + t, none⟩ = wr.cell? ⟨b, o + t, none⟩ := fun t ht => World.cell?_setCell_other _ _ _ _ (by simp <;> omega)
        have hs : (wr.setCell ⟨b, o + j, none⟩ (.int .i64 (k + (j : Int)))).cell? ⟨b, o + j, none⟩ = some (.int .i64 (k + (j : Int))) := World.cell?_setCell_same' _ _ _ (by rw [hx]; rfl)
        refine ⟨j + 1, by omega, by go_num, by go_num, fun i hi => ?_, fun t ht => ?_, hT.setCell rfl _⟩
        · obtain ⟨⟨y, hy⟩, hfy⟩ := unhide HM i hi
          refine ⟨?_, by simpa using hfy⟩
          by_cases e : i = j
          · subst e; exact ⟨_, hs⟩
          · exact ⟨y, (hc i e).trans hy⟩
        · by_cases e : t = j
          · subst e; exact hs
          · exact (hc t e).trans (unhide HD t (by omega))
      case measure => simp [intOf]; omega
    · have hk' : j = n := by omega
      subst hk'
      have HD := hide hD
      clear h hM hD
      go_wp2
      go_ret
      refine ⟨rfl, fun i x hx => ⟨b, o, rfl, ?_⟩, hT⟩
      have hi : i < j := by have := (List.getElem?_eq_some_iff.1 hx).1; simpa [marksI] using this
      simp [marksI, hi] at hx
      subst hx
      exact unhide HD i hi
end Go.Proofs.YtalgkmellbamgaaGreat

/- Lists of int64: the laws' own heldInt64S. -/
namespace Go.Proofs.YtalgkmellbamgaaGreat
open Go.RowKit
set_option linter.unusedVariables false
set_option linter.unusedSimpArgs false

set_option maxHeartbeats 1000000 in
theorem heldInt64S_any (a : Option Addr) (c n : Nat) (k : Int) (w : World) (h : IntsAt w a (marksI k n)) (hn : n ≤ 1048576) (h0 : 0 < k) (h1 : k + n ≤ 1125899906842624) :
    Calls Tryz.prog 58 #[.slice a n c, .int .i64 k] w fun e w' => e = .returned (.int .i64 (k + n)) ∧ w' = w := by
  go_enter Tryz.func58, Tryz.ntmps58
  go_wp2
  go_loop [1, 5] (fun v i => ∃ j : Nat, j ≤ n ∧ i = .int .i64 j ∧ v = .int .i64 (k + (j : Int))) (fun _ i => n - (intOf i).toNat)
  case atStart => exact ⟨0, Nat.zero_le _, rfl, by simp⟩
  case round =>
    obtain ⟨j, hj, rfl, rfl⟩ := hrel
    by_cases hlt : j < n
    · obtain ⟨b, o, rfl, g⟩ := h j (k + (j : Int)) (by simp [marksI, hlt])
      have hne : (k + (j : Int) != k + (j : Int)) = false := by simp
      clear h
      go_wp2
      go_round
      case rel => exact ⟨j + 1, by omega, by go_num, by go_num⟩
      case measure => simp [intOf]; omega
    · have hk' : j = n := by omega
      subst hk'
      clear h
      go_wp2
      go_ret
      exact ⟨rfl, rfl⟩
end Go.Proofs.YtalgkmellbamgaaGreat

/- What every law asks of the whole program. -/
namespace Go.Proofs.YtalgkmellbamgaaGreat
open Go.RowKit

theorem own : ownKnob Tryz.prog.godebug = none := by kernel_rfl
theorem laidOut : laidOutB Tryz.prog = true := by kernel_rfl

end Go.Proofs.YtalgkmellbamgaaGreat

/- An argument that is a chip, opened: the plain blocks that it is. No program is named here. -/
namespace Go.Proofs.YtalgkmellbamgaaGreat
open Go.RowKit Go.ChangeShapes Go.WideShapes Go.Deep
set_option linter.unusedVariables false
set_option linter.unusedSimpArgs false

section
variable {H : Type} {enc : TypeId × Value → H} {P : Program} {w : World} {base : Nat} {spare : Nat → Bool} {held : Bool}

instance : Inhabited Pg := ⟨⟨false, 0, 0, ByteArray.empty⟩⟩
instance : Inhabited Bk := ⟨⟨0, []⟩⟩

/-- One page out of its four cells. -/
theorem open_page {e : TypeId} {f0 f1 f2 f3 : Field} (he : P.underlying e = some (.struct #[f0, f1, f2, f3])) (hone : Go.Deep.oneCellFields P #[f0, f1, f2, f3] = true)
    (u0 : P.underlying f0.type = some .bool) (u1 : P.underlying f1.type = some (.int .i64)) (u2 : P.underlying f2.type = some (.int .i64)) (u3 : P.underlying f3.type = some .string)
    {n : Nat} {cs : List Value} {x : DataW H × List MemPlace} (hcl : cs.length = 4) (h : DataW.trod enc P w base spare held n e cs = some x) :
    ∃ p : Pg, cs = [.bool p.used, .int .i64 p.log, .int .i64 p.seq, .string p.data] ∧ p.data.size ≤ 9223372036854775807 := by
  obtain ⟨xs, k, hk, hxy, _, hxl, hf⟩ := DataW.trod_struct he h
  obtain ⟨o0, c0⟩ := hone_of hone 0 f0 rfl
  obtain ⟨o1, c1⟩ := hone_of hone 1 f1 rfl
  obtain ⟨o2, c2⟩ := hone_of hone 2 f2 rfl
  obtain ⟨o3, c3⟩ := hone_of hone 3 f3 rfl
  match xs, hxl, cs, hcl with
  | [y0, y1, y2, y3], _, [v0, v1, v2, v3], _ =>
    have g0 := hf 0 f0 rfl
    have g1 := hf 1 f1 rfl
    have g2 := hf 2 f2 rfl
    have g3 := hf 3 f3 rfl
    simp [o0, o1, o2, o3, c0, c1, c2, c3] at g0 g1 g2 g3
    obtain ⟨b, hb, _⟩ := DataW.trod_bool u0 g0
    obtain ⟨i1, hi1, _⟩ := DataW.trod_int u1 g1
    obtain ⟨i2, hi2, _⟩ := DataW.trod_int u2 g2
    obtain ⟨s, hs, _, hsz⟩ := DataW.trod_string u3 g3
    cases hb
    cases hi1
    cases hi2
    cases hs
    exact ⟨⟨b, i1, i2, s⟩, rfl, by simpa [maxLen] using hsz⟩

theorem open_pages {t e : TypeId} {f0 f1 f2 f3 : Field} (ht : P.underlying t = some (.slice e)) (he : P.underlying e = some (.struct #[f0, f1, f2, f3])) (ce : P.cellsOf e = 4) (hone : Go.Deep.oneCellFields P #[f0, f1, f2, f3] = true)
    (u0 : P.underlying f0.type = some .bool) (u1 : P.underlying f1.type = some (.int .i64)) (u2 : P.underlying f2.type = some (.int .i64)) (u3 : P.underlying f3.type = some .string)
    {n : Nat} {v : Value} {x : DataW H × List MemPlace} (h : DataW.trod enc P w base spare held n t [v] = some x) :
    ∃ (pa : Option Addr) (pc : Nat) (ps : List Pg), v = .slice pa ps.length pc ∧ PagesAt w pa ps ∧ ps.length ≤ 9223372036854775807 ∧ ∀ p ∈ ps, p.data.size ≤ 9223372036854775807 := by
  rcases open_slice ht h with ⟨h0, _⟩ | ⟨a, len, cap, m, k, D, Pl, hv, hb, hl, hm, hmm, rfl, hx⟩
  · cases h0
    exact ⟨none, 0, [], rfl, fun i p hp => by simp at hp, by simp, fun p hp => by simp at hp⟩
  · cases hv
    have hlm : len ≤ m := by rw [hmm]; split <;> omega
    have hsp : 0 < len → ∃ b o, a = ⟨b, o, none⟩ := fun hp => by
      obtain ⟨cs', h1, h2⟩ := hx 0 (by omega)
      rw [ce] at h1
      obtain ⟨_, hlen, hcell⟩ := World.cells?_some h1
      have e0 := hcell 0 (by omega)
      rw [Go.Deep.add_add] at e0
      obtain ⟨b, o, spot⟩ := a
      obtain ⟨v, hv⟩ := getElem?_ex (l := cs') (k := 0) (by omega)
      have := World.cell?_spot (e0.trans hv)
      have hs : spot = none := by simpa [Addr.add] using this
      subst hs
      exact ⟨b, o, rfl⟩
    have each : ∀ i, i < len → ∃ p : Pg, (∃ b o, a = ⟨b, o, none⟩ ∧ w.cell? ⟨b, o + i * 4, none⟩ = some (.bool p.used) ∧ w.cell? ⟨b, o + i * 4 + 1, none⟩ = some (.int .i64 p.log) ∧
        w.cell? ⟨b, o + i * 4 + 2, none⟩ = some (.int .i64 p.seq) ∧ w.cell? ⟨b, o + i * 4 + 3, none⟩ = some (.string p.data)) ∧ p.data.size ≤ 9223372036854775807 := by
      intro i hi
      obtain ⟨cs', h1, h2⟩ := hx i (by omega)
      rw [ce] at h1
      obtain ⟨_, hlen, hcell⟩ := World.cells?_some h1
      obtain ⟨p, rfl, hp⟩ := open_page he hone u0 u1 u2 u3 hlen h2
      refine ⟨p, ?_, hp⟩
      have e0 := hcell 0 (by omega)
      have e1 := hcell 1 (by omega)
      have e2 := hcell 2 (by omega)
      have e3 := hcell 3 (by omega)
      rw [Go.Deep.add_add] at e0 e1 e2 e3
      obtain ⟨b, o, rfl⟩ := hsp (by omega)
      rw [Go.WideShapes.add_plain] at e0 e1 e2 e3
      exact ⟨b, o, rfl, by simpa using e0, by simpa [Nat.add_assoc] using e1, by simpa [Nat.add_assoc] using e2, by simpa [Nat.add_assoc] using e3⟩
    obtain ⟨q, hq⟩ := choose_lt each
    refine ⟨some a, cap, (List.range len).map q, by simp, fun i p hp => ?_, by simp; simp [maxLen] at hm; omega, fun p hp => ?_⟩
    · have hi : i < len := by have := (List.getElem?_eq_some_iff.1 hp).1; simpa using this
      simp [hi] at hp
      subst hp
      obtain ⟨⟨b, o, rfl, h0, h1, h2, h3⟩, _⟩ := hq i hi
      exact ⟨b, o, rfl, h0, h1, h2, h3⟩
    · obtain ⟨i, hi, rfl⟩ := List.mem_map.1 hp
      exact (hq i (List.mem_range.1 hi)).2

theorem open_blocks {t e tp ep : TypeId} {g0 g1 f0 f1 f2 f3 : Field} (ht : P.underlying t = some (.slice e)) (he : P.underlying e = some (.struct #[g0, g1])) (ce : P.cellsOf e = 2) (honeb : Go.Deep.oneCellFields P #[g0, g1] = true)
    (v0 : P.underlying g0.type = some (.int .i64)) (v1 : P.underlying g1.type = some (.slice ep)) (hep : P.underlying ep = some (.struct #[f0, f1, f2, f3])) (cep : P.cellsOf ep = 4) (hone : Go.Deep.oneCellFields P #[f0, f1, f2, f3] = true)
    (u0 : P.underlying f0.type = some .bool) (u1 : P.underlying f1.type = some (.int .i64)) (u2 : P.underlying f2.type = some (.int .i64)) (u3 : P.underlying f3.type = some .string)
    {n : Nat} {v : Value} {x : DataW H × List MemPlace} (h : DataW.trod enc P w base spare held n t [v] = some x) :
    ∃ (a : Option Addr) (c : Nat) (bs : List Bk), v = .slice a bs.length c ∧ BlocksAt w a bs ∧ Lens 9223372036854775807 bs ∧ Texts bs := by
  obtain ⟨o0, c0⟩ := hone_of honeb 0 g0 rfl
  obtain ⟨o1, c1⟩ := hone_of honeb 1 g1 rfl
  rcases open_slice_pairs ht he ce o0 o1 c0 c1 h with ⟨h0, _⟩ | ⟨a, len, cap, m, k, V0, V1, D0, D1, P0, P1, hv, hb, hl, hm, hmm, rfl, hx⟩
  · cases h0
    exact ⟨none, 0, [], rfl, fun i p hp => by simp at hp, ⟨by simp, fun b hb => by simp at hb⟩, fun b hb => by simp at hb⟩
  · cases hv
    have hlm : len ≤ m := by rw [hmm]; split <;> omega
    have hsp : 0 < len → ∃ b o, a = ⟨b, o, none⟩ := fun hp => by
      obtain ⟨e0, _⟩ := hx 0 (by omega)
      obtain ⟨b, o, spot⟩ := a
      have := World.cell?_spot e0
      have hs : spot = none := by simpa [Addr.add] using this
      subst hs
      exact ⟨b, o, rfl⟩
    have each : ∀ i, i < len → ∃ b : Bk, (∃ g o pa pc, a = ⟨g, o, none⟩ ∧ w.cell? ⟨g, o + i * 2, none⟩ = some (.int .i64 b.wear) ∧ w.cell? ⟨g, o + i * 2 + 1, none⟩ = some (.slice pa b.pages.length pc) ∧ PagesAt w pa b.pages) ∧
        b.pages.length ≤ 9223372036854775807 ∧ ∀ p ∈ b.pages, p.data.size ≤ 9223372036854775807 := by
      intro i hi
      obtain ⟨e0, e1, t0, t1⟩ := hx i (by omega)
      obtain ⟨i0, hi0, _⟩ := DataW.trod_int v0 t0
      obtain ⟨pa, pc, ps, hps, hpa, hpl, hpt⟩ := open_pages v1 hep cep hone u0 u1 u2 u3 t1
      have hi0' : V0 i = .int .i64 i0 := by simpa using hi0
      rw [hi0'] at e0
      rw [hps] at e1
      refine ⟨⟨i0, ps⟩, ?_, hpl, hpt⟩
      obtain ⟨b, o, rfl⟩ := hsp (by omega)
      rw [Go.WideShapes.add_plain] at e0 e1
      exact ⟨b, o, pa, pc, rfl, by simpa using e0, by simpa [Nat.add_assoc] using e1, hpa⟩
    obtain ⟨q, hq⟩ := choose_lt each
    refine ⟨some a, cap, (List.range len).map q, by simp, fun i b hp => ?_, ⟨by simp; simp [maxLen] at hm; omega, fun b hb => ?_⟩, fun b hb => ?_⟩
    · have hi : i < len := by have := (List.getElem?_eq_some_iff.1 hp).1; simpa using this
      simp [hi] at hp
      subst hp
      obtain ⟨⟨g, o, pa, pc, rfl, h0, h1, h2⟩, _⟩ := hq i hi
      exact ⟨g, o, pa, pc, rfl, h0, h1, h2⟩
    · obtain ⟨i, hi, rfl⟩ := List.mem_map.1 hb
      exact (hq i (List.mem_range.1 hi)).2.1
    · obtain ⟨i, hi, rfl⟩ := List.mem_map.1 hb
      exact (hq i (List.mem_range.1 hi)).2.2
end
end Go.Proofs.YtalgkmellbamgaaGreat

/- An argument of the laws that is a chip, opened. -/
namespace Go.Proofs.YtalgkmellbamgaaGreat
open Go.RowKit Go.ChangeShapes Go.WideShapes Go.Deep
set_option linter.unusedVariables false
set_option linter.unusedSimpArgs false

set_option maxRecDepth 100000 in
/-- An argument of the type Chip, opened. -/
theorem open_chip {H : Type} {enc : TypeId × Value → H} {w : World} {base b0 : Nat} {spare : Nat → Bool} {held : Bool} {v : Value} {d : DataW H} {p : List MemPlace}
    (hv : Value.okWide Tryz.prog w .any b0 44 v) (h : DataW.Trod enc Tryz.prog w base spare held 44 v d p) :
    ∃ (a : Option Addr) (c : Nat) (bs : List Bk), v = .agg #[.slice a bs.length c] ∧ BlocksAt w a bs ∧ Lens 9223372036854775807 bs ∧ Texts bs := by
  obtain ⟨cs, rfl, hsz⟩ := okWide_struct Tryz.underlying44 hv
  have h1 : cs.size = 1 := hsz.trans (by kernel_rfl)
  obtain ⟨l⟩ := cs
  match l, h1 with
  | [v0], _ =>
    obtain ⟨fuel, hf⟩ := h
    obtain ⟨y0, n, _, _, hy⟩ := trod_struct1 Tryz.underlying44 hf
    have hc : Tryz.prog.cellsOf 42 = 1 := by kernel_rfl
    simp [Value.cells, hc] at hy
    obtain ⟨a, c, bs, rfl, hbs, hl, ht⟩ := open_blocks (tp := 162) Tryz.underlying42 Tryz.underlying164 (by kernel_rfl) (by kernel_rfl) Tryz.underlying2 Tryz.underlying162 Tryz.underlying200 (by kernel_rfl) (by kernel_rfl)
      Tryz.underlying4 Tryz.underlying2 Tryz.underlying2 Tryz.underlying9 hy
    exact ⟨a, c, bs, rfl, hbs, hl, ht⟩

end Go.Proofs.YtalgkmellbamgaaGreat

/- What every law over a chip calls, told for a length by name. -/
namespace Go.Proofs.YtalgkmellbamgaaGreat
open Go.RowKit
set_option linter.unusedVariables false

theorem eqChip_n {n : Nat} (a1 a2 : Option Addr) (c1 c2 : Nat) (bs : List Bk) (hl : bs.length = n) (w : World) (h1 : BlocksAt w a1 bs) (h2 : BlocksAt w a2 bs) (hn : Lens 1048576 bs) :
    Calls Tryz.prog 55 #[.agg #[.slice a1 n c1], .agg #[.slice a2 n c2]] w fun e w' => e = .returned (.bool true) ∧ Below w.heap.size w w' := by
  subst hl; exact eqChip_same a1 a2 c1 c2 bs w h1 h2 hn
theorem szChip_n {n : Nat} (a : Option Addr) (c : Nat) (bs : List Bk) (hl : bs.length = n) (w : World) (h : BlocksAt w a bs) (hn : Lens 9223372036854775807 bs) (ht : Texts bs) :
    Calls Tryz.prog 52 #[.agg #[.slice a n c], .int .i64 1048576] w fun e w' => ∃ n : Int, e = .returned (.int .i64 n) ∧ n ≤ 1048576 ∧ (0 ≤ n → Lens 1048576 bs) ∧ Below w.heap.size w w' := by
  subst hl; exact szChip_any a c bs _ w h hn ht (by omega) (by omega)
theorem toChip_n {n : Nat} (a : Option Addr) (c : Nat) (bs : List Bk) (hl : bs.length = n) (w : World) (h : BlocksAt w a bs) (hn : Lens 1048576 bs) :
    Calls Tryz.prog 54 #[.agg #[.slice a n c]] w fun e w' => ∃ g, e = .returned (.agg #[.slice (some ⟨g, 0, none⟩) n n]) ∧ BlocksAt w' (some ⟨g, 0, none⟩) bs ∧ Below w.heap.size w w' := by
  subst hl
  refine (toChip_any a c bs w h hn).mono ?_
  rintro e w1 ⟨g, H, rfl, _, hO, hB⟩
  exact ⟨g, rfl, hO.blocksAt (Nat.le_refl _), hB⟩
end Go.Proofs.YtalgkmellbamgaaGreat

/- For laws whose answer is a list of int64: its form, its marks. -/
namespace Go.Proofs.YtalgkmellbamgaaGreat
open Go.RowKit
set_option linter.unusedVariables false
set_option linter.unusedSimpArgs false

set_option maxHeartbeats 1000000 in
theorem markInts_any (a : Option Addr) (c n B : Nat) (w : World) (h : MineFrom w a n B) (hB : B ≤ w.heap.size) (hn : n ≤ 1048576) :
    Calls Tryz.prog 27 #[.slice a n c, .int .i64 1] w fun e w' => e = .returned (.int .i64 (1 + (n : Int))) ∧ IntsAt w' a (marksI 1 n) ∧ Below B w w' := by
  rcases h with ⟨rfl, rfl⟩ | ⟨g, rfl, h1, h2, h3⟩
  · go_enter Tryz.func27, Tryz.ntmps27
    go_wp2
    go_loop [1, 5] (fun v i => i = .int .i64 0 ∧ v = .int .i64 1) (fun _ i => 0)
    case atStart => exact ⟨rfl, rfl⟩
    case round =>
      obtain ⟨rfl, rfl⟩ := hrel
      go_wp2
      go_ret
      exact ⟨rfl, fun i x hx => by simp [marksI] at hx, Below.refl _ _⟩
  · refine (markInt64S_any g 0 c n 1 w h3 hn (by omega) (by omega)).mono ?_
    rintro e w' ⟨rfl, hI, hT⟩
    exact ⟨rfl, hI, hT.below hB (fun k hk => by subst hk; exact h1)⟩

theorem markChip_n {n : Nat} (g : Nat) (H : Nat → Nat) (c : Nat) (bs : List Bk) (hl : bs.length = n) (k : Int) (w : World) (h : OwnBlocks w 120 59 g H n bs) (hn : Lens 1048576 bs) (h0 : 0 < k) (h1 : kAfter k bs ≤ 1125899906842624) :
    Calls Tryz.prog 56 #[.agg #[.slice (some ⟨g, 0, none⟩) n c], .int .i64 k] w fun e w' => e = .returned (.int .i64 (kAfter k bs)) ∧ OwnBlocks w' 120 59 g H n (markBs k bs) ∧ Touch (fun j => j = g ∨ ∃ i, i < n ∧ j = H i) w w' := by
  subst hl; exact markChip_any g H c bs k w h hn h0 h1

theorem kAfter_upto (bs : List Bk) : ∀ k, (∀ b ∈ bs, b.pages.length ≤ 1048576) → k ≤ kAfter k bs ∧ kAfter k bs ≤ k + (bs.length : Int) * 4194305 := by
  induction bs with
  | nil => intro k _; simp [kAfter]
  | cons b bs ih =>
    intro k h
    have h1 := ih (k + 1 + 4 * (b.pages.length : Int)) (fun c hc => h c (by simp [hc]))
    have h2 := h b (by simp)
    have e : kAfter k (b :: bs) = kAfter (k + 1 + 4 * (b.pages.length : Int)) bs := rfl
    rw [e, List.length_cons]
    have e2 : ((bs.length + 1 : Nat) : Int) * 4194305 = (bs.length : Int) * 4194305 + 4194305 := by omega
    rw [e2]
    omega

/-- toChip, with what it owns. -/
theorem toChip_own {n : Nat} (a : Option Addr) (c : Nat) (bs : List Bk) (hl : bs.length = n) (w : World) (h : BlocksAt w a bs) (hn : Lens 1048576 bs) :
    Calls Tryz.prog 54 #[.agg #[.slice a n c]] w fun e w' => ∃ g H, e = .returned (.agg #[.slice (some ⟨g, 0, none⟩) n n]) ∧ w.heap.size ≤ g ∧ OwnBlocks w' 120 59 g H n bs ∧ Below w.heap.size w w' := by
  subst hl; exact toChip_any a c bs w h hn
end Go.Proofs.YtalgkmellbamgaaGreat

/- A chip as an answer: what it owns, its marks. -/
namespace Go.Proofs.YtalgkmellbamgaaGreat
open Go.RowKit
set_option linter.unusedVariables false
set_option linter.unusedSimpArgs false

theorem OwnBlocks.of_blocks {w w' : World} {tB tP : TypeId} {g : Nat} {H : Nat → Nat} {n : Nat} {bs : List Bk} (h : OwnBlocks w tB tP g H n bs) (e : ∀ k, g ≤ k → k < w.heap.size → w'.heap[k]? = w.heap[k]?) : OwnBlocks w' tB tP g H n bs :=
  ⟨h.row.of_block (e g (Nat.le_refl _) h.row.lt), fun i b hb => World.rowIs.of_block (h.pages i b hb) (e _ (Nat.le_of_lt (h.ahead i (List.getElem?_eq_some_iff.1 hb).1)) (World.rowIs.lt (h.pages i b hb))), h.ahead, h.order⟩

/-- An answer that is a chip: its blocks lie from B on and ahead of K, each in a row of its own. -/
def ChipOwn (w : World) (B K : Nat) (a : Option Addr) (n c : Nat) (out : List Bk) : Prop :=
  out.length = n ∧ ((a = none ∧ n = 0 ∧ c = 0) ∨ ∃ g H, a = some ⟨g, 0, none⟩ ∧ B ≤ g ∧ g < K ∧ (∀ i, i < n → g < H i ∧ H i < K) ∧ OwnBlocks w 120 59 g H n out)

theorem ChipOwn.blocksAt {w : World} {B K : Nat} {a : Option Addr} {n c : Nat} {out : List Bk} (h : ChipOwn w B K a n c out) : BlocksAt w a out := by
  obtain ⟨hl, ⟨_, h0, _⟩ | ⟨g, H, rfl, _, _, _, hO⟩⟩ := h
  · intro i b hb
    have := (List.getElem?_eq_some_iff.1 hb).1
    omega
  · exact hO.blocksAt (by omega)

theorem ChipOwn.below {w w' : World} {B K : Nat} {a : Option Addr} {n c : Nat} {out : List Bk} (h : ChipOwn w B K a n c out) (hb : Below w.heap.size w w') : ChipOwn w' B K a n c out := by
  obtain ⟨hl, h0 | ⟨g, H, rfl, h1, h2, h3, hO⟩⟩ := h
  · exact ⟨hl, .inl h0⟩
  · exact ⟨hl, .inr ⟨g, H, rfl, h1, h2, h3, hO.below hb (Nat.le_refl _)⟩⟩

theorem ChipOwn.touch {S : Nat → Prop} {w w' : World} {B K : Nat} {a : Option Addr} {n c : Nat} {out : List Bk} (h : ChipOwn w B K a n c out) (hT : Touch S w w') (hS : ∀ k, S k → k < B) : ChipOwn w' B K a n c out := by
  obtain ⟨hl, h0 | ⟨g, H, rfl, h1, h2, h3, hO⟩⟩ := h
  · exact ⟨hl, .inl h0⟩
  · exact ⟨hl, .inr ⟨g, H, rfl, h1, h2, h3, hO.of_blocks fun k hk hlt => hT.block k hlt (fun hs => by have := hS k hs; omega)⟩⟩

theorem markChip_own {B K : Nat} (a : Option Addr) (n c : Nat) (out : List Bk) (w : World) (h : ChipOwn w B K a n c out) (hn : Lens 1048576 out) (h1 : kAfter 1 out ≤ 1125899906842624) :
    Calls Tryz.prog 56 #[.agg #[.slice a n c], .int .i64 1] w fun e w' => e = .returned (.int .i64 (kAfter 1 out)) ∧ BlocksAt w' a (markBs 1 out) ∧ Touch (fun k => B ≤ k ∧ k < K) w w' := by
  obtain ⟨hl, ⟨rfl, rfl, rfl⟩ | ⟨g, H, rfl, hB, hK, hH, hO⟩⟩ := h
  · have h0 : out = [] := List.length_eq_zero_iff.1 hl
    subst h0
    refine (markChip_nil 1 w).mono ?_
    rintro e w' ⟨rfl, hB⟩
    exact ⟨rfl, fun i b hb => by simp [markBs] at hb, Touch.of_below hB⟩
  · refine (markChip_n g H c out hl 1 w hO hn (by omega) h1).mono ?_
    rintro e w' ⟨rfl, hO2, hT⟩
    refine ⟨rfl, hO2.blocksAt ?_, hT.mono fun k hk => ?_⟩
    · rw [markBs_length, hl]
      exact Nat.le_refl _
    · rcases hk with rfl | ⟨i, hi, rfl⟩
      · exact ⟨hB, hK⟩
      · have := hH i hi
        exact ⟨by omega, this.2⟩

theorem heldChip_own (a : Option Addr) (n c : Nat) (out : List Bk) (hl : out.length = n) (w : World) (h : BlocksAt w a (markBs 1 out)) (hn : Lens 1048576 out) (h1 : kAfter 1 out ≤ 1125899906842624) :
    Calls Tryz.prog 57 #[.agg #[.slice a n c], .int .i64 1] w fun e w' => e = .returned (.int .i64 (kAfter 1 out)) ∧ Below w.heap.size w w' := by
  subst hl; exact heldChip_any a c out 1 w h hn (by omega) h1
end Go.Proofs.YtalgkmellbamgaaGreat

/- Arguments that are lists of numbers or of texts, opened. No program is named here. -/
namespace Go.Proofs.YtalgkmellbamgaaGreat
open Go.RowKit Go.ChangeShapes Go.WideShapes
set_option linter.unusedVariables false
set_option linter.unusedSimpArgs false

section
variable {H : Type} {enc : TypeId × Value → H} {P : Program} {w : World} {base b0 : Nat} {spare : Nat → Bool} {held : Bool}

theorem open_intsAt {t e : TypeId} {fuel : Nat} {v : Value} {x : DataW H × List MemPlace} (ht : P.underlying t = some (.slice e)) (he : P.underlying e = some (.int .i64)) (hc : P.cellsOf e = 1)
    (h : DataW.trod enc P w base spare held fuel t [v] = some x) :
    ∃ (a : Option Addr) (c : Nat) (L : List Int), v = .slice a L.length c ∧ IntsAt w a L ∧ L.length ≤ 9223372036854775807 ∧ ∀ z ∈ L, (Lit.int .i64 z).wf = true := by
  rcases open_ints ht he hc h with ⟨h0, _⟩ | ⟨a, len, cap, zs, h0, hb, hl, hm, hz, _, hcell, hwf⟩
  · cases h0
    exact ⟨none, 0, [], rfl, fun i x hx => by simp at hx, by simp, fun z hz => by simp at hz⟩
  · cases h0
    have hle : len ≤ zs.length := by rw [hz]; split <;> omega
    refine ⟨some a, cap, zs.take len, by simp [hle], fun i x hx => ?_, by simp; simp [maxLen] at hm; omega, fun z hz => hwf z (List.mem_of_mem_take hz)⟩
    have hi : i < len := by have := (List.getElem?_eq_some_iff.1 hx).1; simp at this; omega
    have h1 := hcell i (by omega)
    obtain ⟨b, o, spot⟩ := a
    have hs : spot = none := by have := World.cell?_spot (hcell 0 (by omega)); simpa [Addr.add] using this
    subst hs
    refine ⟨b, o, rfl, ?_⟩
    rw [add_plain] at h1
    rw [h1]
    simp [List.getElem?_take, hi] at hx
    simp [hx]

/-- The texts T lie, one behind the other, from the address a on. -/
def TextsAt (w : World) (a : Option Addr) (T : List ByteArray) : Prop :=
  ∀ i x, T[i]? = some x → ∃ b o, a = some ⟨b, o, none⟩ ∧ w.cell? ⟨b, o + i, none⟩ = some (.string x)

theorem TextsAt.below {w w' : World} {a : Option Addr} {T : List ByteArray} (h : TextsAt w a T) {B : Nat} (hb : Below B w w') (hB : w.heap.size ≤ B) : TextsAt w' a T := by
  intro i x hx
  obtain ⟨b, o, ha, h0⟩ := h i x hx
  exact ⟨b, o, ha, (hb.cell (p := ⟨b, o + i, none⟩) (Nat.lt_of_lt_of_le (World.block_lt_of_cell? _ _ h0) hB)).trans h0⟩

theorem open_textsAt {t e : TypeId} {fuel : Nat} {v : Value} {x : DataW H × List MemPlace} (ht : P.underlying t = some (.slice e)) (he : P.underlying e = some .string) (hc : P.cellsOf e = 1)
    (h : DataW.trod enc P w base spare held fuel t [v] = some x) :
    ∃ (a : Option Addr) (c : Nat) (T : List ByteArray), v = .slice a T.length c ∧ TextsAt w a T ∧ T.length ≤ 9223372036854775807 ∧ ∀ s ∈ T, s.size ≤ 9223372036854775807 := by
  rcases open_strings ht he hc h with ⟨h0, _⟩ | ⟨a, len, cap, ss, h0, hb, hl, hm, hz, _, hcell, hsz⟩
  · cases h0
    exact ⟨none, 0, [], rfl, fun i x hx => by simp at hx, by simp, fun z hz => by simp at hz⟩
  · cases h0
    have hle : len ≤ ss.length := by rw [hz]; split <;> omega
    refine ⟨some a, cap, ss.take len, by simp [hle], fun i x hx => ?_, by simp; simp [maxLen] at hm; omega, fun z hz => by have := hsz z (List.mem_of_mem_take hz); simpa [maxLen] using this⟩
    have hi : i < len := by have := (List.getElem?_eq_some_iff.1 hx).1; simp at this; omega
    have h1 := hcell i (by omega)
    obtain ⟨b, o, spot⟩ := a
    have hs : spot = none := by have := World.cell?_spot (hcell 0 (by omega)); simpa [Addr.add] using this
    subst hs
    refine ⟨b, o, rfl, ?_⟩
    rw [add_plain] at h1
    rw [h1]
    simp [List.getElem?_take, hi] at hx
    simp [hx]

theorem open_intsArg {t e : TypeId} {v : Value} {d : DataW H} {p : List MemPlace} (ht : P.underlying t = some (.slice e)) (he : P.underlying e = some (.int .i64)) (hc : P.cellsOf e = 1)
    (hv : Value.okWide P w .any b0 t v) (h : DataW.Trod enc P w base spare held t v d p) :
    ∃ (a : Option Addr) (c : Nat) (L : List Int), v = .slice a L.length c ∧ IntsAt w a L ∧ L.length ≤ 9223372036854775807 := by
  obtain ⟨a, len, cap, rfl⟩ := okWide_slice ht hv
  obtain ⟨fuel, hf⟩ := h
  obtain ⟨a', c, L, h1, h2, h3, _⟩ := open_intsAt ht he hc hf
  exact ⟨a', c, L, h1, h2, h3⟩

theorem open_textsArg {t e : TypeId} {v : Value} {d : DataW H} {p : List MemPlace} (ht : P.underlying t = some (.slice e)) (he : P.underlying e = some .string) (hc : P.cellsOf e = 1)
    (hv : Value.okWide P w .any b0 t v) (h : DataW.Trod enc P w base spare held t v d p) :
    ∃ (a : Option Addr) (c : Nat) (T : List ByteArray), v = .slice a T.length c ∧ TextsAt w a T ∧ T.length ≤ 9223372036854775807 ∧ ∀ s ∈ T, s.size ≤ 9223372036854775807 := by
  obtain ⟨a, len, cap, rfl⟩ := okWide_slice ht hv
  obtain ⟨fuel, hf⟩ := h
  exact open_textsAt ht he hc hf
end
end Go.Proofs.YtalgkmellbamgaaGreat

/- Members: the laws' own copy, comparison and size of them; an argument that is a member, opened. -/
namespace Go.Proofs.YtalgkmellbamgaaGreat
open Go.RowKit
set_option linter.unusedVariables false
set_option linter.unusedSimpArgs false

theorem toChip_own2 {n : Nat} (a : Option Addr) (c : Nat) (bs : List Bk) (hl : bs.length = n) (w : World) (h : BlocksAt w a bs) (hn : Lens 1048576 bs) :
    Calls Tryz.prog 54 #[.agg #[.slice a n c]] w fun e w' => ∃ g H, e = .returned (.agg #[.slice (some ⟨g, 0, none⟩) n n]) ∧ w.heap.size ≤ g ∧ OwnBlocks w' 120 59 g H n bs ∧ Below w.heap.size w w' := by
  subst hl; exact toChip_any a c bs w h hn

set_option maxRecDepth 100000 in
set_option maxHeartbeats 1000000 in
theorem toFtl_any (a : Option Addr) (c : Nat) (bs : List Bk) (n : Nat) (hl : bs.length = n) (ma : Option Addr) (mc : Nat) (L : List Int) (mn : Nat) (hL : L.length = mn) (seq o : Int) (w : World) (h : BlocksAt w a bs) (hn : Lens 1048576 bs) (hI : IntsAt w ma L) (hmn : mn ≤ 1048576) :
    Calls Tryz.prog 18 #[.agg #[.slice a n c, .slice ma mn mc, .int .i64 seq, .int .i64 o]] w fun e w' => ∃ g H m, e = .returned (.agg #[.slice (some ⟨g, 0, none⟩) n n, .slice (some ⟨m, 0, none⟩) mn mn, .int .i64 seq, .int .i64 o]) ∧ w.heap.size ≤ g ∧ g < m ∧ (∀ i, i < n → H i < m) ∧
      OwnBlocks w' 120 59 g H n bs ∧ RowInts w' 2 m mn L ∧ Below w.heap.size w w' := by
  have hb0 : ∀ o1 o2 o3, Below w.heap.size w (((w.alloc o1).alloc o2).alloc o3) := fun o1 o2 o3 => (((Below.refl _ w).alloc (Nat.le_refl _) _).alloc (by simp) _).alloc (by simp; omega) _
  have HL := hide hl
  have HLL := hide hL
  clear hl hL
  go_enter Tryz.func18, Tryz.ntmps18
  go_wp2_with fail
  refine (toChip_own2 a c bs (unhide HL) _ (h.below (hb0 _ _ _) (Nat.le_refl _)) hn).mono ?_
  rintro e w1 ⟨g, H, rfl, hg, hO, hB1⟩
  have hs1 := hB1.size
  simp at hs1 hg
  obtain ⟨r0, r1, r2⟩ := heap3 w (.cells #[.slice a n c, .slice ma mn mc, .int .i64 seq, .int .i64 o] 46) (.cells #[.slice none 0 0, .slice none 0 0, .int .i64 0, .int .i64 0] 29) (.cells #[.slice none 0 0, .slice none 0 0, .int .i64 0, .int .i64 0] 29)
  have r0' := (hB1.block _ (by simp; omega)).trans r0
  have r1' := (hB1.block _ (by simp)).trans r1
  have r2' := (hB1.block _ (by simp)).trans r2
  have hm1 := cell_of_row _ _ 1 _ _ _ r0'
  have hz0 := cell_of_row _ _ 0 _ _ _ r2'
  have hzf := frozen_of_row _ _ 0 _ _ r2'
  simp at hm1 hz0
  have hW1 : Below w.heap.size w w1 := (hb0 _ _ _).trans (hB1.mono (by simp; omega))
  have hlt : ∀ i, i < n → H i < w1.heap.size := fun i hi => hO.lt (by rw [unhide HL]; exact hi)
  have hglt : g < w1.heap.size := hO.row.lt
  have HO := hide hO
  have R0 := hide r0'
  have R1 := hide r1'
  have R2 := hide r2'
  have HH := hide h
  have HI := hide hI
  have HLT := hide hlt
  clear h hI hO hB1 hb0 hlt r0 r1 r2 r0' r1' r2'
  go_wp2_with fail
  have hW2 : ∀ v, Below w.heap.size w (w1.setCell ⟨w.heap.size + 1 + 1, 0, none⟩ v) := fun v => hW1.setCell (by show w.heap.size ≤ w.heap.size + 1 + 1; omega) v
  refine (toInt64S_any ma mc L mn (unhide HLL) _ ((unhide HI).below (hW2 _) (Nat.le_refl _)) hmn).mono ?_
  rintro e w3 ⟨rfl, hR, hB3⟩
  have hs3 := hB3.size
  simp at hs3 hR
  have r0 := (hB3.block w.heap.size (by simp; omega)).trans ((Below.heap_setCell _ _ _ _ (by show w.heap.size ≠ w.heap.size + 1 + 1; omega)).trans (unhide R0))
  have r1 := (hB3.block (w.heap.size + 1) (by simp; omega)).trans ((Below.heap_setCell _ _ _ _ (by simp)).trans (unhide R1))
  have r2 := (hB3.block (w.heap.size + 1 + 1) (by simp; omega)).trans (blk_setCell_same 0 (.slice (some ⟨g, 0, none⟩) n n) (unhide R2))
  simp at r2
  have p2 := cell_of_row _ _ 2 _ _ _ r0
  have p3 := cell_of_row _ _ 3 _ _ _ r0
  have q0 := cell_of_row _ _ 0 _ _ _ r1
  have q1 := cell_of_row _ _ 1 _ _ _ r1
  have q2 := cell_of_row _ _ 2 _ _ _ r1
  have q3 := cell_of_row _ _ 3 _ _ _ r1
  have f0 := frozen_of_row _ _ 0 _ _ r1
  have f1 := frozen_of_row _ _ 1 _ _ r1
  have f2 := frozen_of_row _ _ 2 _ _ r1
  have f3 := frozen_of_row _ _ 3 _ _ r1
  have s0 := cell_of_row _ _ 0 _ _ _ r2
  have s1 := cell_of_row _ _ 1 _ _ _ r2
  have s2 := cell_of_row _ _ 2 _ _ _ r2
  have s3 := cell_of_row _ _ 3 _ _ _ r2
  have t1 := frozen_of_row _ _ 1 _ _ r2
  have t2 := frozen_of_row _ _ 2 _ _ r2
  have t3 := frozen_of_row _ _ 3 _ _ r2
  simp at p2 p3 q0 q1 q2 q3 s0 s1 s2 s3
  clear r0 r1 r2 hz0 hzf hm1
  have HO3 : Hid (OwnBlocks w3 120 59 g H n bs) := ((unhide HO).setOther (a := ⟨w.heap.size + 1 + 1, 0, none⟩) (by show w.heap.size + 1 + 1 < g; omega) _).below hB3 (by simp)
  have hW3 : Below w.heap.size w w3 := (hW2 _).trans (hB3.mono (hW2 _).size)
  have HR := hide hR
  clear hR hB3 HO hW2 HI HH R0 R1 R2
  go_wp2
  refine bodyPost_ret (v := .agg #[.slice (some ⟨g, 0, none⟩) n n, .slice (some ⟨w1.heap.size, 0, none⟩) mn mn, .int .i64 seq, .int .i64 o]) (by simp [results, Tryz.results18, go_sem, q0, q1, q2, q3]) rfl ⟨g, H, w1.heap.size, rfl, by omega, hglt, unhide HLT, ?_, ?_, ?_⟩
  · exact (((((((unhide HO3).setOther (by show w.heap.size + 1 + 1 < g; omega) _).setOther (by show w.heap.size + 1 + 1 < g; omega) _).setOther (by show w.heap.size + 1 + 1 < g; omega) _).setOther (by show w.heap.size + 1 < g; omega) _).setOther (by show w.heap.size + 1 < g; omega) _).setOther (by show w.heap.size + 1 < g; omega) _).setOther (by show w.heap.size + 1 < g; omega) _
  · exact ((((((World.rowIs.setOther (unhide HR) (by show w1.heap.size ≠ w.heap.size + 1 + 1; omega) _).setOther (by show w1.heap.size ≠ w.heap.size + 1 + 1; omega) _).setOther (by show w1.heap.size ≠ w.heap.size + 1 + 1; omega) _).setOther (by show w1.heap.size ≠ w.heap.size + 1; omega) _).setOther (by show w1.heap.size ≠ w.heap.size + 1; omega) _).setOther (by show w1.heap.size ≠ w.heap.size + 1; omega) _).setOther (by show w1.heap.size ≠ w.heap.size + 1; omega) _
  · exact ((((((hW3.setCell (by show w.heap.size ≤ w.heap.size + 1 + 1; omega) _).setCell (by show w.heap.size ≤ w.heap.size + 1 + 1; omega) _).setCell (by show w.heap.size ≤ w.heap.size + 1 + 1; omega) _).setCell (by show w.heap.size ≤ w.heap.size + 1; omega) _).setCell (by show w.heap.size ≤ w.heap.size + 1; omega) _).setCell (by show w.heap.size ≤ w.heap.size + 1; omega) _).setCell (by show w.heap.size ≤ w.heap.size + 1; omega) _

set_option maxRecDepth 100000 in
set_option maxHeartbeats 1000000 in
theorem eqFtl_same (a1 a2 : Option Addr) (c1 c2 : Nat) (bs : List Bk) (n : Nat) (hl : bs.length = n) (m1 m2 : Option Addr) (d1 d2 : Nat) (L : List Int) (mn : Nat) (hL : L.length = mn) (seq o : Int) (w : World) (h1 : BlocksAt w a1 bs) (h2 : BlocksAt w a2 bs) (hn : Lens 1048576 bs) (i1 : IntsAt w m1 L) (i2 : IntsAt w m2 L) (hmn : mn ≤ 1048576) :
    Calls Tryz.prog 19 #[.agg #[.slice a1 n c1, .slice m1 mn d1, .int .i64 seq, .int .i64 o], .agg #[.slice a2 n c2, .slice m2 mn d2, .int .i64 seq, .int .i64 o]] w fun e w' => e = .returned (.bool true) ∧ Below w.heap.size w w' := by
  have hb0 : ∀ o1 o2, Below w.heap.size w ((w.alloc o1).alloc o2) := fun o1 o2 => ((Below.refl _ w).alloc (Nat.le_refl _) _).alloc (by simp) _
  have hne1 : (seq != seq) = false := by simp
  have hne2 : (o != o) = false := by simp
  go_enter Tryz.func19, Tryz.ntmps19
  go_wp2_with fail
  refine (eqChip_n a1 a2 c1 c2 bs hl _ (h1.below (hb0 _ _) (Nat.le_refl _)) (h2.below (hb0 _ _) (Nat.le_refl _)) hn).mono ?_
  rintro e w1 ⟨rfl, hB1⟩
  have hs1 := hB1.size
  simp at hs1
  have hx : ∀ i, w1.cell? ⟨w.heap.size, i, none⟩ = (#[Value.slice a1 n c1, .slice m1 mn d1, .int .i64 seq, .int .i64 o])[i]? := fun i => by
    rw [hB1.cell (p := ⟨w.heap.size, i, none⟩) (by simp; omega), cell_alloc_lt _ _ _ _ (by simp)]
    simp
  have hy : ∀ i, w1.cell? ⟨w.heap.size + 1, i, none⟩ = (#[Value.slice a2 n c2, .slice m2 mn d2, .int .i64 seq, .int .i64 o])[i]? := fun i => by
    rw [hB1.cell (p := ⟨w.heap.size + 1, i, none⟩) (by simp), cell_of_row _ _ i _ _ _ (heap_alloc2_new _ _ _)]
  have hW1 : Below w.heap.size w w1 := (hb0 _ _).trans (hB1.mono (by simp; omega))
  have x1 := hx 1
  have x2 := hx 2
  have x3 := hx 3
  have y1 := hy 1
  have y2 := hy 2
  have y3 := hy 3
  simp at x1 x2 x3 y1 y2 y3
  have I1 := hide (i1.below hW1 (Nat.le_refl _))
  have I2 := hide (i2.below hW1 (Nat.le_refl _))
  have HL := hide hL
  clear h1 h2 i1 i2 hx hy hB1 hb0 hn hl hL
  go_wp2_with fail
  refine (eqInt64S_same m1 m2 d1 d2 L mn (unhide HL) _ (unhide I1) (unhide I2) hmn).mono ?_
  rintro e w2 ⟨rfl, hB2⟩
  have hs2 := hB2.size
  have x2' := (hB2.cell (p := ⟨w.heap.size, 2, none⟩) (by show w.heap.size < _; omega)).trans x2
  have x3' := (hB2.cell (p := ⟨w.heap.size, 3, none⟩) (by show w.heap.size < _; omega)).trans x3
  have y2' := (hB2.cell (p := ⟨w.heap.size + 1, 2, none⟩) (by show w.heap.size + 1 < _; omega)).trans y2
  have y3' := (hB2.cell (p := ⟨w.heap.size + 1, 3, none⟩) (by show w.heap.size + 1 < _; omega)).trans y3
  have hW2 := hW1.trans (hB2.mono hW1.size)
  clear x1 x2 x3 y1 y2 y3 hB2 hW1 I1 I2
  go_wp2
  go_ret
  exact ⟨rfl, hW2⟩

set_option maxHeartbeats 1000000 in
theorem szInt64S_any (a : Option Addr) (c n : Nat) (left : Int) (w : World) (hn : n ≤ 9223372036854775807) (h0 : 0 ≤ left) (h1 : left ≤ 1048576) :
    Calls Tryz.prog 53 #[.slice a n c, .int .i64 left] w fun e w' => ∃ r : Int, e = .returned (.int .i64 r) ∧ r ≤ 1048576 ∧ (0 ≤ r → n ≤ 1048576) ∧ w' = w := by
  by_cases hneg : left - (n : Int) < 0
  · go_enter Tryz.func53, Tryz.ntmps53
    go_wp2
    go_ret
    exact ⟨_, rfl, by omega, by omega, rfl⟩
  · go_enter Tryz.func53, Tryz.ntmps53
    go_wp2
    go_ret
    exact ⟨_, rfl, by omega, by omega, rfl⟩

set_option maxRecDepth 100000 in
set_option maxHeartbeats 1000000 in
theorem szFtl_any (a : Option Addr) (c : Nat) (bs : List Bk) (n : Nat) (hl : bs.length = n) (ma : Option Addr) (mc mn : Nat) (seq o : Int) (w : World) (h : BlocksAt w a bs) (hn : Lens 9223372036854775807 bs) (ht : Texts bs) (hmn : mn ≤ 9223372036854775807) :
    Calls Tryz.prog 17 #[.agg #[.slice a n c, .slice ma mn mc, .int .i64 seq, .int .i64 o], .int .i64 1048576] w fun e w' => ∃ r : Int, e = .returned (.int .i64 r) ∧ r ≤ 1048576 ∧ (0 ≤ r → Lens 1048576 bs ∧ mn ≤ 1048576) ∧ Below w.heap.size w w' := by
  have hb0 : ∀ o1, Below w.heap.size w (w.alloc o1) := fun o1 => (Below.refl _ w).alloc (Nat.le_refl _) _
  go_enter Tryz.func17, Tryz.ntmps17
  go_wp2_with fail
  refine (szChip_n a c bs hl _ (h.below (hb0 _) (Nat.le_refl _)) hn ht).mono ?_
  rintro e w1 ⟨r, rfl, hr1, hr2, hB1⟩
  have hs1 := hB1.size
  simp at hs1
  have hx : w1.cell? ⟨w.heap.size, 1, none⟩ = some (.slice ma mn mc) := by
    rw [hB1.cell (p := ⟨w.heap.size, 1, none⟩) (by simp)]
    simp
  have hW1 : Below w.heap.size w w1 := (hb0 _).trans (hB1.mono (by simp))
  have HR := hide hr2
  clear h hr2 hb0 hB1 hn ht hl
  by_cases hneg : r < 0
  · go_wp2
    go_ret
    exact ⟨_, rfl, by omega, by omega, hW1⟩
  · go_wp2_with fail
    refine (szInt64S_any ma mc mn r _ hmn (by omega) hr1).mono ?_
    rintro e w2 ⟨r2, rfl, h21, h22, rfl⟩
    have HR2 := hide h22
    clear h22
    by_cases hneg2 : r2 < 0
    · go_wp2
      go_ret
      exact ⟨_, rfl, by omega, by omega, hW1⟩
    · go_wp2
      go_ret
      exact ⟨_, rfl, by omega, fun _ => ⟨unhide HR (by omega), unhide HR2 (by omega)⟩, hW1⟩

open Go.ChangeShapes Go.WideShapes Go.Deep in
set_option maxRecDepth 100000 in
/-- An argument of the type Ftl, opened. -/
theorem open_ftl {H : Type} {enc : TypeId × Value → H} {w : World} {base b0 : Nat} {spare : Nat → Bool} {held : Bool} {v : Value} {d : DataW H} {p : List MemPlace}
    (hv : Value.okWide Tryz.prog w .any b0 46 v) (h : DataW.Trod enc Tryz.prog w base spare held 46 v d p) :
    ∃ (a : Option Addr) (c : Nat) (bs : List Bk) (ma : Option Addr) (mc : Nat) (L : List Int) (seq o : Int), v = .agg #[.slice a bs.length c, .slice ma L.length mc, .int .i64 seq, .int .i64 o] ∧ BlocksAt w a bs ∧ Lens 9223372036854775807 bs ∧ Texts bs ∧ IntsAt w ma L ∧ L.length ≤ 9223372036854775807 := by
  obtain ⟨cs, rfl, hsz⟩ := okWide_struct Tryz.underlying46 hv
  have h1 : cs.size = 4 := hsz.trans (by kernel_rfl)
  obtain ⟨l⟩ := cs
  match l, h1 with
  | [v0, v1, v2, v3], _ =>
    obtain ⟨fuel, hf⟩ := h
    obtain ⟨xs, k, hk, hxy, _, hxl, hf⟩ := DataW.trod_struct Tryz.underlying46 hf
    have c0 : Tryz.prog.cellsOf 44 = 1 := by kernel_rfl
    have c1 : Tryz.prog.cellsOf 27 = 1 := by kernel_rfl
    have c2 : Tryz.prog.cellsOf 2 = 1 := by kernel_rfl
    have c3 : Tryz.prog.cellsOf 42 = 1 := by kernel_rfl
    match xs, hxl with
    | [y0, y1, y2, y3], _ =>
      have g0 := hf 0 _ rfl
      have g1 := hf 1 _ rfl
      have g2 := hf 2 _ rfl
      have g3 := hf 3 _ rfl
      simp [Value.cells, c0, c1, c2] at g0 g1 g2 g3
      obtain ⟨z0, m, _, _, hz⟩ := trod_struct1 Tryz.underlying44 g0
      simp [c3] at hz
      obtain ⟨a, c, bs, rfl, hbs, hl, ht⟩ := open_blocks (tp := 162) Tryz.underlying42 Tryz.underlying164 (by kernel_rfl) (by kernel_rfl) Tryz.underlying2 Tryz.underlying162 Tryz.underlying200 (by kernel_rfl) (by kernel_rfl)
        Tryz.underlying4 Tryz.underlying2 Tryz.underlying2 Tryz.underlying9 hz
      obtain ⟨ma, mc, L, rfl, hI, hLl, _⟩ := open_intsAt Tryz.underlying27 Tryz.underlying2 c2 g1
      obtain ⟨i2, hi2, _⟩ := DataW.trod_int Tryz.underlying2 g2
      obtain ⟨i3, hi3, _⟩ := DataW.trod_int Tryz.underlying2 g3
      cases hi2
      cases hi3
      exact ⟨a, c, bs, ma, mc, L, i2, i3, rfl, hbs, hl, ht, hI, hLl⟩
end Go.Proofs.YtalgkmellbamgaaGreat

/- A member as an answer: what it owns, its marks. -/
namespace Go.Proofs.YtalgkmellbamgaaGreat
open Go.RowKit
set_option linter.unusedVariables false
set_option linter.unusedSimpArgs false

theorem marksI_length (k : Int) (n : Nat) : (marksI k n).length = n := by simp [marksI]

/-- An answer that is a member: its rows lie from B on and ahead of T: the chip's in [C, K), its map in none of these. -/
def FtlOwn (w : World) (B T : Nat) (a : Option Addr) (n c : Nat) (out : List Bk) (ma : Option Addr) (mn : Nat) (L : List Int) : Prop :=
  L.length = mn ∧ IntsAt w ma L ∧ MineFrom w ma mn B ∧ (∀ g, ma = some ⟨g, 0, none⟩ → g < T) ∧ ∃ C K, B ≤ C ∧ ChipOwn w C K a n c out ∧ K ≤ T ∧ ∀ g, ma = some ⟨g, 0, none⟩ → ¬ (C ≤ g ∧ g < K)
theorem FtlOwn.blocksAt {w : World} {B T : Nat} {a : Option Addr} {n c : Nat} {out : List Bk} {ma : Option Addr} {mn : Nat} {L : List Int} (h : FtlOwn w B T a n c out ma mn L) : BlocksAt w a out := by
  obtain ⟨_, _, _, _, C, K, _, h1, _⟩ := h; exact h1.blocksAt
theorem FtlOwn.length {w : World} {B T : Nat} {a : Option Addr} {n c : Nat} {out : List Bk} {ma : Option Addr} {mn : Nat} {L : List Int} (h : FtlOwn w B T a n c out ma mn L) : out.length = n ∧ L.length = mn := by
  obtain ⟨h0, _, _, _, C, K, _, h1, _⟩ := h; exact ⟨h1.1, h0⟩
theorem FtlOwn.below {w w' : World} {B T : Nat} {a : Option Addr} {n c : Nat} {out : List Bk} {ma : Option Addr} {mn : Nat} {L : List Int} (h : FtlOwn w B T a n c out ma mn L) (hb : Below w.heap.size w w') : FtlOwn w' B T a n c out ma mn L := by
  obtain ⟨h0, h1, h2, h6, C, K, h3, h4, h5⟩ := h
  exact ⟨h0, h1.below hb (Nat.le_refl _), h2.below hb, h6, C, K, h3, h4.below hb, h5⟩
theorem FtlOwn.touch {S : Nat → Prop} {w w' : World} {B T : Nat} {a : Option Addr} {n c : Nat} {out : List Bk} {ma : Option Addr} {mn : Nat} {L : List Int} (h : FtlOwn w B T a n c out ma mn L) (hT : Touch S w w') (hS : ∀ k, S k → k < B) : FtlOwn w' B T a n c out ma mn L := by
  obtain ⟨h0, h1, h2, h6, C, K, h3, h4, h5⟩ := h
  exact ⟨h0, intsAt_touch h1 (by rw [h0]; exact h2) hT hS, h2.touch hT hS, h6, C, K, h3, h4.touch hT (fun k hk => by have := hS k hk; omega), h5⟩

theorem MineFrom.touch' {S : Nat → Prop} {w w' : World} {a : Option Addr} {n B : Nat} (h : MineFrom w a n B) (hT : Touch S w w') (hS : ∀ g, a = some ⟨g, 0, none⟩ → ¬ S g) : MineFrom w' a n B := by
  rcases h with h | ⟨g, ha, h1, h2, h3⟩
  · exact .inl h
  · exact .inr ⟨g, ha, h1, Nat.lt_of_lt_of_le h2 hT.size, h3.of_block (hT.block g h2 (hS g ha))⟩

set_option maxHeartbeats 1000000 in
theorem markIntsK_any (a : Option Addr) (c n B : Nat) (k : Int) (w : World) (h : MineFrom w a n B) (hn : n ≤ 1048576) (h0 : 0 < k) (h1 : k + n ≤ 1125899906842624) :
    Calls Tryz.prog 27 #[.slice a n c, .int .i64 k] w fun e w' => e = .returned (.int .i64 (k + (n : Int))) ∧ IntsAt w' a (marksI k n) ∧ Touch (fun g => a = some ⟨g, 0, none⟩ ∧ B ≤ g) w w' := by
  rcases h with ⟨rfl, rfl⟩ | ⟨g, rfl, hB, h2, h3⟩
  · go_enter Tryz.func27, Tryz.ntmps27
    go_wp2
    go_loop [1, 5] (fun v i => i = .int .i64 0 ∧ v = .int .i64 k) (fun _ i => 0)
    case atStart => exact ⟨rfl, rfl⟩
    case round =>
      obtain ⟨rfl, rfl⟩ := hrel
      go_wp2
      go_ret
      exact ⟨by simp [Act.eval], fun i x hx => by simp [marksI] at hx, Touch.refl _ _⟩
  · refine (markInt64S_any g 0 c n k w h3 hn h0 h1).mono ?_
    rintro e w' ⟨rfl, hI, hT⟩
    exact ⟨rfl, hI, hT.mono (fun j hj => by subst hj; exact ⟨rfl, hB⟩)⟩

/-- What marks a member holds. -/
def FtlMarked (w : World) (a : Option Addr) (out : List Bk) (ma : Option Addr) (mn : Nat) : Prop := BlocksAt w a (markBs 1 out) ∧ IntsAt w ma (marksI (kAfter 1 out) mn)
theorem FtlMarked.below {w w' : World} {a : Option Addr} {out : List Bk} {ma : Option Addr} {mn : Nat} (h : FtlMarked w a out ma mn) (hb : Below w.heap.size w w') : FtlMarked w' a out ma mn :=
  ⟨h.1.below hb (Nat.le_refl _), h.2.below hb (Nat.le_refl _)⟩

theorem ChipOwn.apart {S : Nat → Prop} {w w' : World} {B K : Nat} {a : Option Addr} {n c : Nat} {out : List Bk} (h : ChipOwn w B K a n c out) (hT : Touch S w w') (hS : ∀ k, S k → ¬ (B ≤ k ∧ k < K)) : ChipOwn w' B K a n c out := by
  obtain ⟨hl, h0 | ⟨g, H, rfl, h1, h2, h3, hO⟩⟩ := h
  · exact ⟨hl, .inl h0⟩
  · refine ⟨hl, .inr ⟨g, H, rfl, h1, h2, h3, hO.row.of_block (hT.block g hO.row.lt (fun hs => hS g hs ⟨h1, h2⟩)), fun i b hb => ?_, hO.ahead, hO.order⟩⟩
    have hi : i < n := by have := (List.getElem?_eq_some_iff.1 hb).1; omega
    have := h3 i hi
    exact World.rowIs.of_block (hO.pages i b hb) (hT.block (H i) (World.rowIs.lt (hO.pages i b hb)) (fun hs => hS _ hs ⟨by omega, this.2⟩))
theorem markChip_own2 {B K : Nat} (a : Option Addr) (n c : Nat) (out : List Bk) (w : World) (h : ChipOwn w B K a n c out) (hn : Lens 1048576 out) (h1 : kAfter 1 out ≤ 1125899906842624) :
    Calls Tryz.prog 56 #[.agg #[.slice a n c], .int .i64 1] w fun e w' => e = .returned (.int .i64 (kAfter 1 out)) ∧ ChipOwn w' B K a n c (markBs 1 out) ∧ Touch (fun k => B ≤ k ∧ k < K) w w' := by
  obtain ⟨hl, ⟨rfl, rfl, rfl⟩ | ⟨g, H, rfl, hB, hK, hH, hO⟩⟩ := h
  · have h0 : out = [] := List.length_eq_zero_iff.1 hl
    subst h0
    refine (markChip_nil 1 w).mono ?_
    rintro e w' ⟨rfl, hB⟩
    exact ⟨rfl, ⟨rfl, .inl ⟨rfl, rfl, rfl⟩⟩, Touch.of_below hB⟩
  · refine (markChip_n g H c out hl 1 w hO hn (by omega) h1).mono ?_
    rintro e w' ⟨rfl, hO2, hT⟩
    refine ⟨rfl, ⟨by rw [markBs_length, hl], .inr ⟨g, H, rfl, hB, hK, hH, hO2⟩⟩, hT.mono fun k hk => ?_⟩
    rcases hk with rfl | ⟨i, hi, rfl⟩
    · exact ⟨hB, hK⟩
    · have := hH i hi
      exact ⟨by omega, this.2⟩

set_option maxRecDepth 100000 in
set_option maxHeartbeats 2000000 in
theorem markFtl_own {B T : Nat} (a : Option Addr) (n c : Nat) (out : List Bk) (ma : Option Addr) (mn mc : Nat) (L : List Int) (seq o : Int) (w : World) (h : FtlOwn w B T a n c out ma mn L) (hTw : T ≤ w.heap.size) (hn : Lens 1048576 out) (hmn : mn ≤ 1048576) (h1 : kAfter 1 out + mn ≤ 1125899906842624) :
    Calls Tryz.prog 20 #[.agg #[.slice a n c, .slice ma mn mc, .int .i64 seq, .int .i64 o], .int .i64 1] w fun e w' => e = .returned (.int .i64 (kAfter 1 out + (mn : Int))) ∧ FtlMarked w' a out ma mn ∧ Touch (fun k => B ≤ k ∧ k < T) w w' := by
  obtain ⟨hL, hI, hM, hMT, C, K, hBC, hC, hKw, hne⟩ := h
  have hk1 : 1 ≤ kAfter 1 out := kAfter_le out 1
  have hb0 : ∀ o, Below w.heap.size w (w.alloc o) := fun o => (Below.refl _ w).alloc (Nat.le_refl _) _
  have hC0 := fun o => hC.below (hb0 o)
  have HM := hide (fun o => hM.below (hb0 o))
  have HMB : Hid (∀ g, ma = some ⟨g, 0, none⟩ → B ≤ g ∧ g < T) := fun g hg => by
    have h9 := hMT g hg
    rcases hM with ⟨rfl, _⟩ | ⟨g', hg', h1, h2, _⟩
    · cases hg
    · rw [hg] at hg'; cases hg'; exact ⟨h1, h9⟩
  have HNE := hide hne
  have HKA := hide h1
  obtain ⟨q, hq⟩ : ∃ q, q = kAfter 1 out := ⟨_, rfl⟩
  have HQ := hide hq
  clear hI hC hne hM hMT
  go_enter Tryz.func20, Tryz.ntmps20
  go_wp2_with fail
  refine (markChip_own2 a n c out _ (hC0 _) hn (by omega)).mono ?_
  rintro e w1 ⟨rfl, hMk, hT⟩
  rw [← hq] at h1 hk1 ⊢
  have hs1 := hT.size
  simp at hs1
  have hx1 : w1.cell? ⟨w.heap.size, 1, none⟩ = some (.slice ma mn mc) := by
    rw [World.cell?_of_block (w := w.alloc _) (a := ⟨w.heap.size, 1, none⟩) (hT.block w.heap.size (by simp) (fun hs => by omega))]
    simp
  have HM1 := hide ((unhide HM _).touch' hT (fun g hg hs => unhide HNE g hg hs))
  have HT := hide hT
  have HMK := hide hMk
  clear hT hMk hC0 HM hq
  go_wp2_with fail
  refine (markIntsK_any ma mc mn B q _ (unhide HM1) hmn (by omega) (by omega)).mono ?_
  rintro e w2 ⟨rfl, hI2, hT2⟩
  have HI2 := hide hI2
  have HC2 := hide ((unhide HMK).apart hT2 (fun k hk hs => unhide HNE k hk.1 hs))
  have hTT : Touch (fun k => B ≤ k ∧ k < T) w w2 := by
    have t0 : Touch (fun k => B ≤ k ∧ k < T) w (w.alloc (.cells #[.slice a n c, .slice ma mn mc, .int .i64 seq, .int .i64 o] 29)) := Touch.of_below (hb0 _)
    exact (t0.trans ((unhide HT).mono (fun k hk => ⟨by omega, by omega⟩))).trans (hT2.mono (fun k hk => unhide HMB k hk.1))
  clear hI2 hT2 hx1
  go_wp2
  go_ret
  refine ⟨by rw [← unhide HQ]; rfl, ⟨(unhide HC2).blocksAt, ?_⟩, hTT⟩
  rw [← unhide HQ]
  exact unhide HI2

set_option maxRecDepth 100000 in
set_option maxHeartbeats 2000000 in
theorem heldFtl_own (a : Option Addr) (n c : Nat) (out : List Bk) (hl : out.length = n) (ma : Option Addr) (mn mc : Nat) (seq o : Int) (w : World) (h : FtlMarked w a out ma mn) (hn : Lens 1048576 out) (hmn : mn ≤ 1048576) (h1 : kAfter 1 out + mn ≤ 1125899906842624) :
    Calls Tryz.prog 21 #[.agg #[.slice a n c, .slice ma mn mc, .int .i64 seq, .int .i64 o], .int .i64 1] w fun e w' => e = .returned (.int .i64 (kAfter 1 out + (mn : Int))) ∧ Below w.heap.size w w' := by
  obtain ⟨hC, hI⟩ := h
  have hk1 : 1 ≤ kAfter 1 out := kAfter_le out 1
  have hb0 : ∀ o, Below w.heap.size w (w.alloc o) := fun o => (Below.refl _ w).alloc (Nat.le_refl _) _
  obtain ⟨q, hq⟩ : ∃ q, q = kAfter 1 out := ⟨_, rfl⟩
  have HQ := hide hq
  have hhc := fun o => heldChip_own a n c out hl _ (hC.below (hb0 o) (Nat.le_refl _)) hn (by omega)
  rw [← hq] at h1 hk1 hI hhc ⊢
  have HHC := hide hhc
  have HI := hide hI
  clear hC hI hq hhc
  go_enter Tryz.func21, Tryz.ntmps21
  go_wp2_with fail
  refine (unhide HHC _).mono ?_
  rintro e w1 ⟨rfl, hB1⟩
  have hs1 := hB1.size
  simp at hs1
  have hx1 : w1.cell? ⟨w.heap.size, 1, none⟩ = some (.slice ma mn mc) := by
    rw [hB1.cell (p := ⟨w.heap.size, 1, none⟩) (by simp)]
    simp
  have hW1 : Below w.heap.size w w1 := (hb0 _).trans (hB1.mono (by simp))
  clear hB1 HHC
  go_wp2_with fail
  refine (heldInt64S_any ma mc mn q _ ((unhide HI).below hW1 (Nat.le_refl _)) hmn (by omega) (by omega)).mono ?_
  rintro e w2 ⟨rfl, rfl⟩
  clear hx1
  go_wp2
  go_ret
  exact ⟨rfl, hW1⟩
end Go.Proofs.YtalgkmellbamgaaGreat
