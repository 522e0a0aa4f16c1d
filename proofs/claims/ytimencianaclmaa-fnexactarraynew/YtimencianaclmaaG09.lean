/- 4 texts in one. -/
import Derived.Test.YtimencianaclmaaG01
import Derived.Deep.SlicePairs
import Derived.Deep.Fields
import Derived.Lib.SmallJoins
import Derived.ChangeArms
import Derived.Test.YtimencianaclmaaChecked
import Derived.WalkKit
import Derived.ProofKit
import Derived.OpenShut
import Derived.ChangeOld
import Derived.Test.YtimencianaclmaaG08
import Derived.Test.YtimencianaclmaaG02
import Derived.Outline
import Derived.Deep.RegionHeld3
import Derived.Laws.BytesArg

/- An argument that is a chip, opened: the plain blocks that it is. No program is named here. -/
namespace Go.Proofs.Ytimencianaclmaa
open Go.RowKit Go.ChangeShapes Go.WideShapes Go.Deep
set_option linter.unusedVariables false
set_option linter.unusedSimpArgs false

section
variable {H : Type} {enc : TypeId × Value → H} {P : Program} {w : World} {base : Nat} {spare : Nat → Bool} {held : Bool}

instance : Inhabited Pg := ⟨⟨false, 0, 0, ByteArray.empty⟩⟩
instance : Inhabited Bk := ⟨⟨0, []⟩⟩

/-- One page out of its four cells. -/
theorem open_page {e : TypeId} {f0 f1 f2 f3 : Field} (he : P.underlying e = some (.struct #[f0, f1, f2, f3])) (hone : Go.Deep.oneCellFields P #[f0, f1, f2, f3] = true)
    (u0 : P.underlying f0.type = some .bool) (u1 : P.underlying f1.type = some (.int .i64)) (u2 : P.underlying f2.type = some (.int .i64)) (u3 : P.underlying f3.type = some .string)
    {n : Nat} {cs : List Value} {x : DataW H × List MemPlace} (hcl : cs.length = 4) (h : DataW.trod enc P w base spare held n e cs = some x) :
    ∃ p : Pg, cs = [.bool p.used, .int .i64 p.log, .int .i64 p.seq, .string p.data] ∧ p.data.size ≤ 9223372036854775807 := by
  obtain ⟨xs, k, hk, hxy, _, hxl, hf⟩ := DataW.trod_struct he h
  obtain ⟨o0, c0⟩ := hone_of hone 0 f0 rfl
  obtain ⟨o1, c1⟩ := hone_of hone 1 f1 rfl
  obtain ⟨o2, c2⟩ := hone_of hone 2 f2 rfl
  obtain ⟨o3, c3⟩ := hone_of hone 3 f3 rfl
  match xs, hxl, cs, hcl with
  | [y0, y1, y2, y3], _, [v0, v1, v2, v3], _ =>
    have g0 := hf 0 f0 rfl
    have g1 := hf 1 f1 rfl
    have g2 := hf 2 f2 rfl
    have g3 := hf 3 f3 rfl
    simp [o0, o1, o2, o3, c0, c1, c2, c3] at g0 g1 g2 g3
    obtain ⟨b, hb, _⟩ := DataW.trod_bool u0 g0
    obtain ⟨i1, hi1, _⟩ := DataW.trod_int u1 g1
    obtain ⟨i2, hi2, _⟩ := DataW.trod_int u2 g2
    obtain ⟨s, hs, _, hsz⟩ := DataW.trod_string u3 g3
    cases hb
    cases hi1
    cases hi2
    cases hs
    exact ⟨⟨b, i1, i2, s⟩, rfl, by simpa [maxLen] using hsz⟩

theorem open_pages {t e : TypeId} {f0 f1 f2 f3 : Field} (ht : P.underlying t = some (.slice e)) (he : P.underlying e = some (.struct #[f0, f1, f2, f3])) (ce : P.cellsOf e = 4) (hone : Go.Deep.oneCellFields P #[f0, f1, f2, f3] = true)
    (u0 : P.underlying f0.type = some .bool) (u1 : P.underlying f1.type = some (.int .i64)) (u2 : P.underlying f2.type = some (.int .i64)) (u3 : P.underlying f3.type = some .string)
    {n : Nat} {v : Value} {x : DataW H × List MemPlace} (h : DataW.trod enc P w base spare held n t [v] = some x) :
    ∃ (pa : Option Addr) (pc : Nat) (ps : List Pg), v = .slice pa ps.length pc ∧ PagesAt w pa ps ∧ ps.length ≤ 9223372036854775807 ∧ ∀ p ∈ ps, p.data.size ≤ 9223372036854775807 := by
  rcases open_slice ht h with ⟨h0, _⟩ | ⟨a, len, cap, m, k, D, Pl, hv, hb, hl, hm, hmm, rfl, hx⟩
  · cases h0
    exact ⟨none, 0, [], rfl, fun i p hp => by simp at hp, by simp, fun p hp => by simp at hp⟩
  · cases hv
    have hlm : len ≤ m := by rw [hmm]; split <;> omega
    have hsp : 0 < len → ∃ b o, a = ⟨b, o, none⟩ := fun hp => by
      obtain ⟨cs', h1, h2⟩ := hx 0 (by omega)
      rw [ce] at h1
      obtain ⟨_, hlen, hcell⟩ := World.cells?_some h1
      have e0 := hcell 0 (by omega)
      rw [Go.Deep.add_add] at e0
      obtain ⟨b, o, spot⟩ := a
      obtain ⟨v, hv⟩ := getElem?_ex (l := cs') (k := 0) (by omega)
      have := World.cell?_spot (e0.trans hv)
      have hs : spot = none := by simpa [Addr.add] using this
      subst hs
      exact ⟨b, o, rfl⟩
    have each : ∀ i, i < len → ∃ p : Pg, (∃ b o, a = ⟨b, o, none⟩ ∧ w.cell? ⟨b, o + i * 4, none⟩ = some (.bool p.used) ∧ w.cell? ⟨b, o + i * 4 + 1, none⟩ = some (.int .i64 p.log) ∧
        w.cell? ⟨b, o + i * 4 + 2, none⟩ = some (.int .i64 p.seq) ∧ w.cell? ⟨b, o + i * 4 + 3, none⟩ = some (.string p.data)) ∧ p.data.size ≤ 9223372036854775807 := by
      intro i hi
      obtain ⟨cs', h1, h2⟩ := hx i (by omega)
      rw [ce] at h1
      obtain ⟨_, hlen, hcell⟩ := World.cells?_some h1
      obtain ⟨p, rfl, hp⟩ := open_page he hone u0 u1 u2 u3 hlen h2
      refine ⟨p, ?_, hp⟩
      have e0 := hcell 0 (by omega)
      have e1 := hcell 1 (by omega)
      have e2 := hcell 2 (by omega)
      have e3 := hcell 3 (by omega)
      rw [Go.Deep.add_add] at e0 e1 e2 e3
      obtain ⟨b, o, rfl⟩ := hsp (by omega)
      rw [Go.WideShapes.add_plain] at e0 e1 e2 e3
      exact ⟨b, o, rfl, by simpa using e0, by simpa [Nat.add_assoc] using e1, by simpa [Nat.add_assoc] using e2, by simpa [Nat.add_assoc] using e3⟩
    obtain ⟨q, hq⟩ := choose_lt each
    refine ⟨some a, cap, (List.range len).map q, by simp, fun i p hp => ?_, by simp; simp [maxLen] at hm; omega, fun p hp => ?_⟩
    · have hi : i < len := by have := (List.getElem?_eq_some_iff.1 hp).1; simpa using this
      simp [hi] at hp
      subst hp
      obtain ⟨⟨b, o, rfl, h0, h1, h2, h3⟩, _⟩ := hq i hi
      exact ⟨b, o, rfl, h0, h1, h2, h3⟩
    · obtain ⟨i, hi, rfl⟩ := List.mem_map.1 hp
      exact (hq i (List.mem_range.1 hi)).2

theorem open_blocks {t e tp ep : TypeId} {g0 g1 f0 f1 f2 f3 : Field} (ht : P.underlying t = some (.slice e)) (he : P.underlying e = some (.struct #[g0, g1])) (ce : P.cellsOf e = 2) (honeb : Go.Deep.oneCellFields P #[g0, g1] = true)
    (v0 : P.underlying g0.type = some (.int .i64)) (v1 : P.underlying g1.type = some (.slice ep)) (hep : P.underlying ep = some (.struct #[f0, f1, f2, f3])) (cep : P.cellsOf ep = 4) (hone : Go.Deep.oneCellFields P #[f0, f1, f2, f3] = true)
    (u0 : P.underlying f0.type = some .bool) (u1 : P.underlying f1.type = some (.int .i64)) (u2 : P.underlying f2.type = some (.int .i64)) (u3 : P.underlying f3.type = some .string)
    {n : Nat} {v : Value} {x : DataW H × List MemPlace} (h : DataW.trod enc P w base spare held n t [v] = some x) :
    ∃ (a : Option Addr) (c : Nat) (bs : List Bk), v = .slice a bs.length c ∧ BlocksAt w a bs ∧ Lens 9223372036854775807 bs ∧ Texts bs := by
  obtain ⟨o0, c0⟩ := hone_of honeb 0 g0 rfl
  obtain ⟨o1, c1⟩ := hone_of honeb 1 g1 rfl
  rcases open_slice_pairs ht he ce o0 o1 c0 c1 h with ⟨h0, _⟩ | ⟨a, len, cap, m, k, V0, V1, D0, D1, P0, P1, hv, hb, hl, hm, hmm, rfl, hx⟩
  · cases h0
    exact ⟨none, 0, [], rfl, fun i p hp => by simp at hp, ⟨by simp, fun b hb => by simp at hb⟩, fun b hb => by simp at hb⟩
  · cases hv
    have hlm : len ≤ m := by rw [hmm]; split <;> omega
    have hsp : 0 < len → ∃ b o, a = ⟨b, o, none⟩ := fun hp => by
      obtain ⟨e0, _⟩ := hx 0 (by omega)
      obtain ⟨b, o, spot⟩ := a
      have := World.cell?_spot e0
      have hs : spot = none := by simpa [Addr.add] using this
      subst hs
      exact ⟨b, o, rfl⟩
    have each : ∀ i, i < len → ∃ b : Bk, (∃ g o pa pc, a = ⟨g, o, none⟩ ∧ w.cell? ⟨g, o + i * 2, none⟩ = some (.int .i64 b.wear) ∧ w.cell? ⟨g, o + i * 2 + 1, none⟩ = some (.slice pa b.pages.length pc) ∧ PagesAt w pa b.pages) ∧
        b.pages.length ≤ 9223372036854775807 ∧ ∀ p ∈ b.pages, p.data.size ≤ 9223372036854775807 := by
      intro i hi
      obtain ⟨e0, e1, t0, t1⟩ := hx i (by omega)
      obtain ⟨i0, hi0, _⟩ := DataW.trod_int v0 t0
      obtain ⟨pa, pc, ps, hps, hpa, hpl, hpt⟩ := open_pages v1 hep cep hone u0 u1 u2 u3 t1
      have hi0' : V0 i = .int .i64 i0 := by simpa using hi0
      rw [hi0'] at e0
      rw [hps] at e1
      refine ⟨⟨i0, ps⟩, ?_, hpl, hpt⟩
      obtain ⟨b, o, rfl⟩ := hsp (by omega)
      rw [Go.WideShapes.add_plain] at e0 e1
      exact ⟨b, o, pa, pc, rfl, by simpa using e0, by simpa [Nat.add_assoc] using e1, hpa⟩
    obtain ⟨q, hq⟩ := choose_lt each
    refine ⟨some a, cap, (List.range len).map q, by simp, fun i b hp => ?_, ⟨by simp; simp [maxLen] at hm; omega, fun b hb => ?_⟩, fun b hb => ?_⟩
    · have hi : i < len := by have := (List.getElem?_eq_some_iff.1 hp).1; simpa using this
      simp [hi] at hp
      subst hp
      obtain ⟨⟨g, o, pa, pc, rfl, h0, h1, h2⟩, _⟩ := hq i hi
      exact ⟨g, o, pa, pc, rfl, h0, h1, h2⟩
    · obtain ⟨i, hi, rfl⟩ := List.mem_map.1 hb
      exact (hq i (List.mem_range.1 hi)).2.1
    · obtain ⟨i, hi, rfl⟩ := List.mem_map.1 hb
      exact (hq i (List.mem_range.1 hi)).2.2
end
end Go.Proofs.Ytimencianaclmaa

/- An argument of the laws that is a chip, opened. -/
namespace Go.Proofs.Ytimencianaclmaa
open Go.RowKit Go.ChangeShapes Go.WideShapes Go.Deep
set_option linter.unusedVariables false
set_option linter.unusedSimpArgs false

set_option maxRecDepth 100000 in
/-- An argument of the type Chip, opened. -/
theorem open_chip {H : Type} {enc : TypeId × Value → H} {w : World} {base b0 : Nat} {spare : Nat → Bool} {held : Bool} {v : Value} {d : DataW H} {p : List MemPlace}
    (hv : Value.okWide Try.prog w .any b0 70 v) (h : DataW.Trod enc Try.prog w base spare held 70 v d p) :
    ∃ (a : Option Addr) (c : Nat) (bs : List Bk), v = .agg #[.slice a bs.length c] ∧ BlocksAt w a bs ∧ Lens 9223372036854775807 bs ∧ Texts bs := by
  obtain ⟨cs, rfl, hsz⟩ := okWide_struct Try.underlying70 hv
  have h1 : cs.size = 1 := hsz.trans (by kernel_rfl)
  obtain ⟨l⟩ := cs
  match l, h1 with
  | [v0], _ =>
    obtain ⟨fuel, hf⟩ := h
    obtain ⟨y0, n, _, _, hy⟩ := trod_struct1 Try.underlying70 hf
    have hc : Try.prog.cellsOf 68 = 1 := by kernel_rfl
    simp [Value.cells, hc] at hy
    obtain ⟨a, c, bs, rfl, hbs, hl, ht⟩ := open_blocks (tp := 216) Try.underlying68 Try.underlying218 (by kernel_rfl) (by kernel_rfl) Try.underlying2 Try.underlying216 Try.underlying154 (by kernel_rfl) (by kernel_rfl)
      Try.underlying4 Try.underlying2 Try.underlying2 Try.underlying9 hy
    exact ⟨a, c, bs, rfl, hbs, hl, ht⟩

end Go.Proofs.Ytimencianaclmaa

/- What every law over a chip calls, told for a length by name. -/
namespace Go.Proofs.Ytimencianaclmaa
open Go.RowKit
set_option linter.unusedVariables false

theorem eqChip_n {n : Nat} (a1 a2 : Option Addr) (c1 c2 : Nat) (bs : List Bk) (hl : bs.length = n) (w : World) (h1 : BlocksAt w a1 bs) (h2 : BlocksAt w a2 bs) (hn : Lens 1048576 bs) :
    Calls Try.prog 53 #[.agg #[.slice a1 n c1], .agg #[.slice a2 n c2]] w fun e w' => e = .returned (.bool true) ∧ Below w.heap.size w w' := by
  subst hl; exact eqChip_same a1 a2 c1 c2 bs w h1 h2 hn
theorem szChip_n {n : Nat} (a : Option Addr) (c : Nat) (bs : List Bk) (hl : bs.length = n) (w : World) (h : BlocksAt w a bs) (hn : Lens 9223372036854775807 bs) (ht : Texts bs) :
    Calls Try.prog 49 #[.agg #[.slice a n c], .int .i64 1048576] w fun e w' => ∃ n : Int, e = .returned (.int .i64 n) ∧ n ≤ 1048576 ∧ (0 ≤ n → Lens 1048576 bs) ∧ Below w.heap.size w w' := by
  subst hl; exact szChip_any a c bs _ w h hn ht (by omega) (by omega)
theorem toChip_n {n : Nat} (a : Option Addr) (c : Nat) (bs : List Bk) (hl : bs.length = n) (w : World) (h : BlocksAt w a bs) (hn : Lens 1048576 bs) :
    Calls Try.prog 51 #[.agg #[.slice a n c]] w fun e w' => ∃ g, e = .returned (.agg #[.slice (some ⟨g, 0, none⟩) n n]) ∧ BlocksAt w' (some ⟨g, 0, none⟩) bs ∧ Below w.heap.size w w' := by
  subst hl
  refine (toChip_any a c bs w h hn).mono ?_
  rintro e w1 ⟨g, H, rfl, _, hO, hB⟩
  exact ⟨g, rfl, hO.blocksAt (Nat.le_refl _), hB⟩
end Go.Proofs.Ytimencianaclmaa

/- The laws' own marks: each field of each page and block is written with a number of its own, and found there again. -/
namespace Go.Proofs.Ytimencianaclmaa
open Go.RowKit
set_option linter.unusedVariables false

/-- The digits of m ahead of s. -/
def mtF : Nat → Nat → ByteArray → ByteArray
  | 0, _, s => s
  | f + 1, m, s => if 0 < m then mtF f (m / 10) (strOfNums [48 + (m : Int) % 10] ++ s) else s
/-- The text of a mark. -/
def mt (k : Nat) : ByteArray := ⟨#[109]⟩ ++ mtF k k ⟨#[]⟩

theorem mtF_zero (f : Nat) (s : ByteArray) : mtF f 0 s = s := by cases f <;> simp [mtF]
theorem mtF_step (f m : Nat) (s : ByteArray) (hm : 0 < m) (hf : m ≤ f) : ∃ g, m / 10 ≤ g ∧ mtF f m s = mtF g (m / 10) (strOfNums [48 + (m : Int) % 10] ++ s) := by
  cases f with
  | zero => omega
  | succ g => exact ⟨g, by omega, by simp [mtF, hm]⟩

theorem conv1 (x : Int) (w : World) : (convert 22 9 (.slice (some ⟨w.heap.size, 0, none⟩) 1 1)).run Try.prog (w.alloc (.cells #[.int .u8 x] 5)) = .ok (.string (strOfNums [x])) (w.alloc (.cells #[.int .u8 x] 5)) :=
  run_convert_bytes_arg _ 22 5 Try.underlying22 Try.underlying5 w.heap.size 0 1 1 [x] rfl (fun i hi => by
    obtain rfl : i = 0 := by omega
    simp) 9 Try.underlying9

set_option maxRecDepth 100000 in
set_option maxHeartbeats 1000000 in
theorem markText_any (k : Int) (w : World) (h0 : 0 < k) (h1 : k ≤ 1125899906842624) :
    Calls Try.prog 108 #[.int .i64 k] w fun e w' => e = .returned (.string (mt k.toNat)) ∧ Below w.heap.size w w' := by
  go_enter Try.func108, Try.ntmps108
  go_wp2
  go_loopw [0, 3] (fun i v wr => ∃ (m f : Nat) (s : ByteArray), i = .int .i64 m ∧ v = .string s ∧ s.size + m ≤ k ∧ m ≤ f ∧ mtF f m s = mtF k.toNat k.toNat ⟨#[]⟩ ∧ Below w.heap.size w wr) (fun i _ _ => (intOf i).toNat)
  case atStart => exact ⟨k.toNat, k.toNat, _, by simp; omega, rfl, by simp [ByteArray.size]; omega, Nat.le_refl _, rfl, Below.refl _ _⟩
  case round =>
    obtain ⟨m, f, s, rfl, rfl, hs, hf, he, hB⟩ := hrel
    have HE := hide he
    clear he
    by_cases hm : 0 < m
    · have hcv := conv1 (48 + (m : Int) % 10) wr
      have hz := strOfNums_size [48 + (m : Int) % 10]
      generalize hx : strOfNums [48 + (m : Int) % 10] = x at hcv hz
      have HX := hide hx
      have hz1 : x.size ≤ 1 := by simp at hz; omega
      clear hz hx
      go_wp2
      obtain ⟨g, hg, hge⟩ := mtF_step f m s hm hf
      rw [unhide HX] at hge
      refine ⟨⟨m / 10, g, x ++ s, by go_num, rfl, by rw [ByteArray.size_append]; omega, hg, by rw [← hge]; exact unhide HE, hB.alloc hB.size _⟩, by simp [intOf]; omega⟩
    · obtain rfl : m = 0 := by omega
      go_wp2
      go_ret
      refine ⟨?_, hB⟩
      have := unhide HE
      rw [mtF_zero] at this
      rw [this]
      rfl

/-- A page that bears the marks from k on. -/
def mkPg (k : Int) : Pg := ⟨k % 3 == 0, k + 1, k + 1 + 1, mt (k + 1 + 1 + 1).toNat⟩
def markPs (k : Int) (n : Nat) : List Pg := (List.range n).map fun (i : Nat) => mkPg (k + 4 * (i : Int))
def markTo (k : Int) (ps : List Pg) (j : Nat) : List Pg := markPs k j ++ ps.drop j

theorem markPs_length (k : Int) (n : Nat) : (markPs k n).length = n := by simp [markPs]
theorem markPs_at (k : Int) {n i : Nat} (hi : i < n) : (markPs k n)[i]? = some (mkPg (k + 4 * (i : Int))) := by simp [markPs, hi]
theorem markTo_length (k : Int) (ps : List Pg) {j : Nat} (hj : j ≤ ps.length) : (markTo k ps j).length = ps.length := by simp [markTo, markPs_length]; omega
theorem markTo_zero (k : Int) (ps : List Pg) : markTo k ps 0 = ps := by simp [markTo, markPs]
theorem markTo_full (k : Int) (ps : List Pg) : markTo k ps ps.length = markPs k ps.length := by simp [markTo]
theorem markTo_step (k : Int) (ps : List Pg) {j : Nat} (hj : j < ps.length) : (markTo k ps j).set j (mkPg (k + 4 * (j : Int))) = markTo k ps (j + 1) := by
  have h1 : markPs k (j + 1) = markPs k j ++ [mkPg (k + 4 * (j : Int))] := by simp [markPs, List.range_succ]
  unfold markTo
  rw [h1, List.set_append_right _ _ (by simp [markPs_length]), markPs_length, Nat.sub_self, List.append_assoc]
  congr 1
  rw [List.drop_eq_getElem_cons hj]
  rfl

set_option maxRecDepth 100000 in
set_option maxHeartbeats 1000000 in
theorem markPageS_any (b c : Nat) (ps : List Pg) (k : Int) (w : World) (h : OwnPages w 28 b ps.length ps) (hn : ps.length ≤ 1048576) (h0 : 0 < k) (h1 : k + 4 * ps.length ≤ 1125899906842624) :
    Calls Try.prog 162 #[.slice (some ⟨b, 0, none⟩) ps.length c, .int .i64 k] w fun e w' => e = .returned (.int .i64 (k + 4 * ps.length)) ∧ OwnPages w' 28 b ps.length (markPs k ps.length) ∧ Touch (· = b) w w' := by
  go_enter Try.func162, Try.ntmps162
  go_wp2
  go_loopw [1, 5] (fun v i wr => ∃ j : Nat, j ≤ ps.length ∧ i = .int .i64 j ∧ v = .int .i64 (k + 4 * (j : Int)) ∧ OwnPages wr 28 b ps.length (markTo k ps j) ∧ Touch (· = b) w wr) (fun _ i _ => ps.length - (intOf i).toNat)
  case atStart => exact ⟨0, Nat.zero_le _, rfl, by simp, by rw [markTo_zero]; exact h, Touch.refl _ _⟩
  case round =>
    obtain ⟨j, hj, rfl, rfl, hO, hT⟩ := hrel
    by_cases hlt : j < ps.length
    · obtain ⟨⟨v0, c0⟩, ⟨v1, c1⟩, ⟨v2, c2⟩, ⟨v3, c3⟩⟩ := hO.cells hlt
      have f0 := World.rowIs.frozen hO
      have hlb := World.rowIs.lt hO
      clear h
      go_wp2_with fail
      refine (markText_any _ _ (by omega) (by omega)).mono ?_
      rintro e w1 ⟨rfl, hc⟩
      have h3 := World.rowIs.set (World.rowIs.set (World.rowIs.set hO (j * 4) (Value.bool ((k + 4 * (j : Int)) % 3 == 0))) (j * 4 + 1) (Value.int .i64 (k + 4 * (j : Int) + 1))) (j * 4 + 2) (Value.int .i64 (k + 4 * (j : Int) + 1 + 1))
      have h4 := h3.of_block (hc.block b (by simpa using hlb))
      have c3' := h4.cell (i := j * 4 + 3) (by omega)
      have f3' := h4.frozen
      have H4 := hide h4
      have HC := hide hc
      clear h3 h4 hc c0 c1 c2 c3 f0
      go_wp2
      go_roundw
      case rel =>
        refine ⟨j + 1, by omega, by go_num, by go_num, ?_, ?_⟩
        · refine ((unhide H4).set (j * 4 + 3) _).congr (fun x _ => ?_)
          rw [← markTo_step k ps hlt]
          exact pgsF_set (p := mkPg (k + 4 * (j : Int))) (by rw [markTo_length k ps hj]; exact hlt) x
        · exact ((((hT.setCell rfl _).setCell rfl _).setCell rfl _).trans (Touch.of_below (unhide HC))).setCell rfl _
      case measure => simp [intOf]; omega
    · have hk' : j = ps.length := by omega
      subst hk'
      rw [markTo_full] at hO
      go_wp2
      go_ret
      exact ⟨rfl, hO, hT⟩

set_option maxRecDepth 100000 in
set_option maxHeartbeats 1000000 in
theorem heldPageS_any (a : Option Addr) (c n : Nat) (k : Int) (w : World) (h : PagesAt w a (markPs k n)) (hn : n ≤ 1048576) (h0 : 0 < k) (h1 : k + 4 * n ≤ 1125899906842624) :
    Calls Try.prog 163 #[.slice a n c, .int .i64 k] w fun e w' => e = .returned (.int .i64 (k + 4 * n)) ∧ Below w.heap.size w w' := by
  go_enter Try.func163, Try.ntmps163
  go_wp2
  go_loopw [1, 5] (fun v i wr => ∃ j : Nat, j ≤ n ∧ i = .int .i64 j ∧ v = .int .i64 (k + 4 * (j : Int)) ∧ Below w.heap.size w wr) (fun _ i _ => n - (intOf i).toNat)
  case atStart => exact ⟨0, Nat.zero_le _, rfl, by simp, Below.refl _ _⟩
  case round =>
    obtain ⟨j, hj, rfl, rfl, hB⟩ := hrel
    by_cases hlt : j < n
    · obtain ⟨b1, o1, rfl, g10, g11, g12, g13⟩ := (h.below hB (Nat.le_refl _)) j _ (markPs_at k hlt)
      have hb1 : b1 < wr.heap.size := World.block_lt_of_cell? _ _ g10
      simp only [mkPg] at g10 g11 g12 g13
      clear h
      go_wp2
      go_region_held3 (fun W => ∀ b o, b < wr.heap.size → W.cell? ⟨b, o, none⟩ = wr.cell? ⟨b, o, none⟩) (first | (intro b o hb; simp; done) | (intro b o hb; rw [hc.cell (p := ⟨b, o, none⟩) hb]; rfl))
        (first | (go_at_call 108; refine (markText_any _ _ (by omega) (by omega)).mono ?_; rintro e w1 ⟨rfl, hc⟩))
      go_wp2
      go_roundw
      case rel => exact ⟨j + 1, by omega, by go_num, by go_num, hB.drew.trans (hc.mono hB.size)⟩
      case measure => simp [intOf]; omega
    · have hk' : j = n := by omega
      subst hk'
      go_wp2
      go_ret
      exact ⟨rfl, hB⟩

/-- The number behind all marks of the blocks. -/
def kAfter (k : Int) : List Bk → Int
  | [] => k
  | b :: r => kAfter (k + 1 + 4 * (b.pages.length : Int)) r
def markBs (k : Int) : List Bk → List Bk
  | [] => []
  | b :: r => ⟨k, markPs (k + 1) b.pages.length⟩ :: markBs (k + 1 + 4 * (b.pages.length : Int)) r

theorem kAfter_snoc (l : List Bk) (b : Bk) : ∀ k, kAfter k (l ++ [b]) = kAfter k l + 1 + 4 * (b.pages.length : Int) := by
  induction l with
  | nil => intro k; rfl
  | cons c l ih => intro k; exact ih _
theorem markBs_snoc (l : List Bk) (b : Bk) : ∀ k, markBs k (l ++ [b]) = markBs k l ++ [⟨kAfter k l, markPs (kAfter k l + 1) b.pages.length⟩] := by
  induction l with
  | nil => intro k; rfl
  | cons c l ih => intro k; show _ :: markBs _ (l ++ [b]) = _; rw [ih]; rfl
theorem markBs_length (l : List Bk) : ∀ k, (markBs k l).length = l.length := by
  induction l with
  | nil => intro k; rfl
  | cons c l ih => intro k; show (markBs _ l).length + 1 = l.length + 1; rw [ih]
theorem kAfter_le (l : List Bk) : ∀ k, k ≤ kAfter k l := by
  induction l with
  | nil => intro k; exact Int.le_refl _
  | cons c l ih => intro k; have := ih (k + 1 + 4 * (c.pages.length : Int)); show k ≤ kAfter _ l; omega
theorem kAfter_append (l m : List Bk) : ∀ k, kAfter k (l ++ m) = kAfter (kAfter k l) m := by
  induction l with
  | nil => intro k; rfl
  | cons c l ih => intro k; exact ih _
theorem take_snoc {l : List Bk} {i : Nat} {b : Bk} (h : l[i]? = some b) : l.take (i + 1) = l.take i ++ [b] := by
  obtain ⟨hi, rfl⟩ := List.getElem?_eq_some_iff.1 h
  rw [List.take_succ_eq_append_getElem hi]
theorem kAfter_take {l : List Bk} {i : Nat} {b : Bk} (h : l[i]? = some b) (k : Int) : kAfter k (l.take i) + 1 + 4 * (b.pages.length : Int) ≤ kAfter k l := by
  have e : l = l.take (i + 1) ++ l.drop (i + 1) := (List.take_append_drop _ _).symm
  have h1 : kAfter k l = kAfter (kAfter k (l.take (i + 1))) (l.drop (i + 1)) := by rw [← kAfter_append, ← e]
  rw [h1, take_snoc h, kAfter_snoc]
  exact kAfter_le _ _

def markBTo (k : Int) (bs : List Bk) (i : Nat) : List Bk := markBs k (bs.take i) ++ bs.drop i
theorem markBTo_zero (k : Int) (bs : List Bk) : markBTo k bs 0 = bs := by simp [markBTo, markBs]
theorem markBTo_full (k : Int) (bs : List Bk) : markBTo k bs bs.length = markBs k bs := by simp [markBTo]
theorem markBTo_at (k : Int) {bs : List Bk} {i : Nat} {b : Bk} (h : bs[i]? = some b) : (markBTo k bs i)[i]? = some b := by
  obtain ⟨hi, rfl⟩ := List.getElem?_eq_some_iff.1 h
  unfold markBTo
  rw [List.getElem?_append_right (by rw [markBs_length]; simp; omega), markBs_length]
  simp [Nat.min_eq_left (Nat.le_of_lt hi), hi]
theorem markBTo_step (k : Int) {bs : List Bk} {i : Nat} {b : Bk} (h : bs[i]? = some b) : (markBTo k bs i).set i ⟨kAfter k (bs.take i), markPs (kAfter k (bs.take i) + 1) b.pages.length⟩ = markBTo k bs (i + 1) := by
  obtain ⟨hi, hb⟩ := List.getElem?_eq_some_iff.1 h
  have hl : (markBs k (bs.take i)).length = i := by rw [markBs_length]; simp; omega
  unfold markBTo
  rw [take_snoc h, markBs_snoc, List.set_append_right _ _ (by omega), hl, Nat.sub_self, List.append_assoc]
  congr 1
  rw [List.drop_eq_getElem_cons hi]
  rfl
theorem markBs_at (k : Int) {bs : List Bk} {i : Nat} {b : Bk} (h : bs[i]? = some b) : (markBs k bs)[i]? = some ⟨kAfter k (bs.take i), markPs (kAfter k (bs.take i) + 1) b.pages.length⟩ := by
  have hi : i < bs.length := (List.getElem?_eq_some_iff.1 h).1
  have e : markBs k bs = markBs k (bs.take (i + 1) ++ bs.drop (i + 1)) := by rw [List.take_append_drop]
  have ap : ∀ (l m : List Bk) k, markBs k (l ++ m) = markBs k l ++ markBs (kAfter k l) m := by
    intro l
    induction l with
    | nil => intro m k; rfl
    | cons c l ih => intro m k; show _ :: markBs _ (l ++ m) = _; rw [ih]; rfl
  rw [e, ap, take_snoc h, markBs_snoc, List.getElem?_append_left (by simp [markBs_length]; omega), List.getElem?_append_right (by rw [markBs_length]; simp; omega), markBs_length]
  simp [Nat.min_eq_left (Nat.le_of_lt hi)]

set_option maxRecDepth 100000 in
set_option maxHeartbeats 1000000 in
theorem markBlockS_any (g : Nat) (H : Nat → Nat) (c : Nat) (bs : List Bk) (k : Int) (w : World) (h : OwnBlocks w 38 28 g H bs.length bs) (hn : Lens 1048576 bs) (h0 : 0 < k) (h1 : kAfter k bs ≤ 1125899906842624) :
    Calls Try.prog 114 #[.slice (some ⟨g, 0, none⟩) bs.length c, .int .i64 k] w fun e w' => e = .returned (.int .i64 (kAfter k bs)) ∧ OwnBlocks w' 38 28 g H bs.length (markBs k bs) ∧ Touch (fun j => j = g ∨ ∃ i, i < bs.length ∧ j = H i) w w' := by
  have hn1 := hn.1
  go_enter Try.func114, Try.ntmps114
  go_wp2
  go_loopw [1, 5] (fun v i wr => ∃ j : Nat, j ≤ bs.length ∧ i = .int .i64 j ∧ v = .int .i64 (kAfter k (bs.take j)) ∧ OwnBlocks wr 38 28 g H bs.length (markBTo k bs j) ∧ Touch (fun j => j = g ∨ ∃ i, i < bs.length ∧ j = H i) w wr) (fun _ i _ => bs.length - (intOf i).toNat)
  case atStart => exact ⟨0, Nat.zero_le _, rfl, rfl, by rw [markBTo_zero]; exact h, Touch.refl _ _⟩
  case round =>
    obtain ⟨j, hj, rfl, rfl, hO, hT⟩ := hrel
    by_cases hlt : j < bs.length
    · obtain ⟨b, hb⟩ := getElem?_ex hlt
      have hbt := markBTo_at k hb
      have c0 := hO.row.cell (i := j * 2 + 0) (by omega)
      have c1 := hO.row.cell (i := j * 2 + 1) (by omega)
      rw [bksF_at H hbt 0 (by omega)] at c0
      rw [bksF_at H hbt 1 (by omega)] at c1
      simp only [bkV, Nat.add_zero] at c0 c1
      have f0 := hO.row.frozen
      have hlb := hO.row.lt
      have hpl := hn.at hb
      have hka := kAfter_take hb k
      have hkb := kAfter_le (bs.take j) k
      have hW := hO.setWear hbt (kAfter k (bs.take j))
      have hset : ((markBTo k bs j).set j ⟨kAfter k (bs.take j), b.pages⟩)[j]? = some ⟨kAfter k (bs.take j), b.pages⟩ := by
        have : j < (markBTo k bs j).length := (List.getElem?_eq_some_iff.1 hbt).1
        simp [this]
      have HS := hide hset
      have HB := hide hb
      have HBT := hide hbt
      generalize hkk : kAfter k (bs.take j) = kk at *
      have HK := hide hkk
      clear h hset hb hbt hkk
      go_wp2_with fail
      refine (markPageS_any _ _ b.pages _ _ (hW.pages j ⟨kk, b.pages⟩ (unhide HS)) hpl (by omega) (by omega)).mono ?_
      rintro e w1 ⟨rfl, hP, hT1⟩
      have h2 := hW.setPages (unhide HS) (ps := markPs (kk + 1) b.pages.length) (markPs_length _ _) hP hT1
      clear hW c0 c1 f0 hP
      have H2 := hide h2
      have HT1 := hide hT1
      clear h2 hT1 hO
      go_wp2
      go_roundw
      case rel =>
        refine ⟨j + 1, by omega, by go_num, ?_, ?_, ?_⟩
        · rw [take_snoc (unhide HB), kAfter_snoc, unhide HK]
        · have h3 := unhide H2
          rw [List.set_set] at h3
          have h4 := markBTo_step k (unhide HB)
          rw [unhide HK] at h4
          rw [← h4]
          exact h3
        · exact (hT.setCell (Or.inl rfl) _).trans ((unhide HT1).mono (fun x hx => Or.inr ⟨j, hlt, hx⟩))
      case measure => simp [intOf]; omega
    · have hk' : j = bs.length := by omega
      subst hk'
      rw [markBTo_full] at hO
      rw [List.take_length]
      go_wp2
      go_ret
      exact ⟨rfl, hO, hT⟩

set_option maxRecDepth 100000 in
set_option maxHeartbeats 1000000 in
theorem heldBlockS_any (a : Option Addr) (c : Nat) (bs : List Bk) (k : Int) (w : World) (h : BlocksAt w a (markBs k bs)) (hn : Lens 1048576 bs) (h0 : 0 < k) (h1 : kAfter k bs ≤ 1125899906842624) :
    Calls Try.prog 115 #[.slice a bs.length c, .int .i64 k] w fun e w' => e = .returned (.int .i64 (kAfter k bs)) ∧ Below w.heap.size w w' := by
  have hn1 := hn.1
  go_enter Try.func115, Try.ntmps115
  go_wp2
  go_loopw [1, 5] (fun v i wr => ∃ j : Nat, j ≤ bs.length ∧ i = .int .i64 j ∧ v = .int .i64 (kAfter k (bs.take j)) ∧ Below w.heap.size w wr) (fun _ i _ => bs.length - (intOf i).toNat)
  case atStart => exact ⟨0, Nat.zero_le _, rfl, rfl, Below.refl _ _⟩
  case round =>
    obtain ⟨j, hj, rfl, rfl, hB⟩ := hrel
    by_cases hlt : j < bs.length
    · obtain ⟨b, hb⟩ := getElem?_ex hlt
      obtain ⟨b1, o1, pa, pc, rfl, g10, g11, q⟩ := (h.below hB (Nat.le_refl _)) j _ (markBs_at k hb)
      have hpl := hn.at hb
      have hka := kAfter_take hb k
      have hkb := kAfter_le (bs.take j) k
      simp only [markPs_length] at g10 g11
      have HB := hide hb
      generalize hkk : kAfter k (bs.take j) = kk at *
      have HK := hide hkk
      clear h hb hkk
      go_wp2_with fail
      refine (heldPageS_any _ _ b.pages.length _ _ q hpl (by omega) (by omega)).mono ?_
      rintro e w1 ⟨rfl, hc⟩
      clear g10 g11 q
      go_wp2
      go_roundw
      case rel =>
        refine ⟨j + 1, by omega, by go_num, ?_, hB.trans (hc.mono hB.size)⟩
        rw [take_snoc (unhide HB), kAfter_snoc, unhide HK]
      case measure => simp [intOf]; omega
    · have hk' : j = bs.length := by omega
      subst hk'
      rw [List.take_length]
      go_wp2
      go_ret
      exact ⟨rfl, hB⟩

theorem markChip_any (g : Nat) (H : Nat → Nat) (c : Nat) (bs : List Bk) (k : Int) (w : World) (h : OwnBlocks w 38 28 g H bs.length bs) (hn : Lens 1048576 bs) (h0 : 0 < k) (h1 : kAfter k bs ≤ 1125899906842624) :
    Calls Try.prog 54 #[.agg #[.slice (some ⟨g, 0, none⟩) bs.length c], .int .i64 k] w fun e w' => e = .returned (.int .i64 (kAfter k bs)) ∧ OwnBlocks w' 38 28 g H bs.length (markBs k bs) ∧ Touch (fun j => j = g ∨ ∃ i, i < bs.length ∧ j = H i) w w' := by
  go_enter Try.func54, Try.ntmps54
  go_wp2_with fail
  have hb0 : ∀ o1, Below w.heap.size w (w.alloc o1) := fun o1 => (Below.refl _ w).alloc (Nat.le_refl _) _
  refine (markBlockS_any g H c bs k _ (h.below (hb0 _) (Nat.le_refl _)) hn h0 h1).mono ?_
  rintro e w1 ⟨rfl, hO, hT⟩
  have HO := hide hO
  have HT := hide hT
  clear h hO hT
  go_wp2
  go_ret
  exact ⟨rfl, unhide HO, (Touch.of_below (hb0 _)).trans (unhide HT)⟩

theorem heldChip_any (a : Option Addr) (c : Nat) (bs : List Bk) (k : Int) (w : World) (h : BlocksAt w a (markBs k bs)) (hn : Lens 1048576 bs) (h0 : 0 < k) (h1 : kAfter k bs ≤ 1125899906842624) :
    Calls Try.prog 55 #[.agg #[.slice a bs.length c], .int .i64 k] w fun e w' => e = .returned (.int .i64 (kAfter k bs)) ∧ Below w.heap.size w w' := by
  have hkb := kAfter_le bs k
  go_enter Try.func55, Try.ntmps55
  go_wp2_with fail
  have hb0 : ∀ o1, Below w.heap.size w (w.alloc o1) := fun o1 => (Below.refl _ w).alloc (Nat.le_refl _) _
  refine (heldBlockS_any a c bs k _ (h.below (hb0 _) (Nat.le_refl _)) hn h0 h1).mono ?_
  rintro e w1 ⟨rfl, hc⟩
  clear h
  go_wp2
  go_ret
  exact ⟨rfl, (hb0 _).trans (hc.mono (by simp))⟩
set_option maxRecDepth 100000 in
theorem markBlockS_nil (k : Int) (w : World) : Calls Try.prog 114 #[.slice none 0 0, .int .i64 k] w fun e w' => e = .returned (.int .i64 k) ∧ w' = w := by
  go_enter Try.func114, Try.ntmps114
  go_wp2
  go_loopw [1, 5] (fun v i wr => i = .int .i64 0 ∧ v = .int .i64 k ∧ wr = w) (fun _ _ _ => 0)
  case atStart => exact ⟨rfl, rfl, rfl⟩
  case round =>
    obtain ⟨rfl, rfl, rfl⟩ := hrel
    go_wp2
    go_ret
    exact ⟨rfl, rfl⟩

theorem markChip_nil (k : Int) (w : World) : Calls Try.prog 54 #[.agg #[.slice none 0 0], .int .i64 k] w fun e w' => e = .returned (.int .i64 k) ∧ Below w.heap.size w w' := by
  go_enter Try.func54, Try.ntmps54
  go_wp2_with fail
  refine (markBlockS_nil k _).mono ?_
  rintro e w1 ⟨rfl, rfl⟩
  go_wp2
  go_ret
  exact ⟨rfl, (Below.refl _ w).alloc (Nat.le_refl _) _⟩
end Go.Proofs.Ytimencianaclmaa
