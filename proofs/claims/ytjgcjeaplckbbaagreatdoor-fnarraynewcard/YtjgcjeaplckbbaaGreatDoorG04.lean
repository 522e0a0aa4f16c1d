/- 13 texts in one. -/
import Derived.Test.YtjgcjeaplckbbaaGreatDoorChecked
import Derived.WalkKit
import Derived.ProofKit
import Derived.Below
import Derived.Test.YtjgcjeaplckbbaaGreatDoorG01
import Derived.Outline
import Derived.Deep.RegionHeld3
import Derived.Deep.SlicePairs
import Derived.Deep.Fields
import Derived.Lib.SmallJoins
import Derived.ChangeArms
import Derived.OpenShut
import Derived.ChangeOld
import Derived.Laws.BytesArg
import Derived.Test.YtjgcjeaplckbbaaGreatDoorG02
import Derived.Test.YtjgcjeaplckbbaaGreatDoorG03
import Derived.SliceStrings

/- What every law asks of the whole program. -/
namespace Go.Proofs.YtjgcjeaplckbbaaGreatDoor
open Go.RowKit

theorem own : ownKnob Tryz.prog.godebug = none := by kernel_rfl
theorem laidOut : laidOutB Tryz.prog = true := by kernel_rfl

end Go.Proofs.YtjgcjeaplckbbaaGreatDoor

/- The laws' own comparisons answer true where both sides hold the same. -/
namespace Go.Proofs.YtjgcjeaplckbbaaGreatDoor
open Go.RowKit
set_option linter.unusedVariables false

theorem eqPage_same (u : Bool) (l s : Int) (d : ByteArray) (w : World) :
    Calls Tryz.prog 292 #[.agg #[.bool u, .int .i64 l, .int .i64 s, .string d], .agg #[.bool u, .int .i64 l, .int .i64 s, .string d]] w fun e w' => e = .returned (.bool true) ∧ Below w.heap.size w w' := by
  go_enter Tryz.func292, Tryz.ntmps292
  go_wp2
  go_ret
  exact ⟨rfl, by repeat (first | exact Below.refl _ _ | refine Below.drew ?_ | refine Below.alloc ?_ (by simp) _)⟩

set_option maxHeartbeats 1000000 in
theorem eqPageS_same (a1 a2 : Option Addr) (c1 c2 : Nat) (ps : List Pg) (w : World) (h1 : PagesAt w a1 ps) (h2 : PagesAt w a2 ps) (hn : ps.length ≤ 1048576) :
    Calls Tryz.prog 288 #[.slice a1 ps.length c1, .slice a2 ps.length c2] w fun e w' => e = .returned (.bool true) ∧ Below w.heap.size w w' := by
  go_enter Tryz.func288, Tryz.ntmps288
  go_wp2
  go_loopw [5] (fun i wr => ∃ k : Nat, k ≤ ps.length ∧ i = .int .i64 k ∧ Below w.heap.size w wr) (fun i _ => ps.length - (intOf i).toNat)
  case atStart => exact ⟨0, Nat.zero_le _, rfl, Below.refl _ _⟩
  case round =>
    obtain ⟨k, hk, rfl, hB⟩ := hrel
    by_cases hlt : k < ps.length
    · obtain ⟨p, hp⟩ := getElem?_ex hlt
      obtain ⟨b1, o1, rfl, g10, g11, g12, g13⟩ := (h1.below hB (Nat.le_refl _)) k p hp
      obtain ⟨b2, o2, rfl, g20, g21, g22, g23⟩ := (h2.below hB (Nat.le_refl _)) k p hp
      have hb1 : b1 < wr.heap.size := World.block_lt_of_cell? _ _ g10
      have hb2 : b2 < wr.heap.size := World.block_lt_of_cell? _ _ g20
      clear hp h1 h2
      go_wp2
      go_region_held3 (fun W => ∀ b o, b < wr.heap.size → W.cell? ⟨b, o, none⟩ = wr.cell? ⟨b, o, none⟩) (first | (intro b o hb; simp; done) | (intro b o hb; rw [hc.cell (p := ⟨b, o, none⟩) hb]; rfl))
        (first | (go_at_call 292; refine (eqPage_same _ _ _ _ _).mono ?_; rintro e w1 ⟨rfl, hc⟩))
      go_wp2
      go_roundw
      case rel => exact ⟨k + 1, by omega, by go_num, hB.drew.trans (hc.mono hB.size)⟩
      case measure => simp [intOf]; omega
    · go_wp2
      go_ret
      exact ⟨rfl, hB⟩

theorem eqBlock_same (x : Int) (a1 a2 : Option Addr) (c1 c2 : Nat) (ps : List Pg) (w : World) (h1 : PagesAt w a1 ps) (h2 : PagesAt w a2 ps) (hn : ps.length ≤ 1048576) :
    Calls Tryz.prog 281 #[.agg #[.int .i64 x, .slice a1 ps.length c1], .agg #[.int .i64 x, .slice a2 ps.length c2]] w fun e w' => e = .returned (.bool true) ∧ Below w.heap.size w w' := by
  go_enter Tryz.func281, Tryz.ntmps281
  go_wp2_with fail
  have hb0 : ∀ o1 o2, Below w.heap.size w ((w.alloc o1).alloc o2) := fun o1 o2 => ((Below.refl _ w).alloc (Nat.le_refl _) _).alloc (by simp) _
  refine (eqPageS_same a1 a2 c1 c2 ps _ (h1.below (hb0 _ _) (Nat.le_refl _)) (h2.below (hb0 _ _) (Nat.le_refl _)) hn).mono ?_
  rintro e w1 ⟨rfl, hc⟩
  clear h1 h2
  go_wp2
  go_ret
  exact ⟨rfl, (hb0 _ _).trans (hc.mono (by simp; omega))⟩

set_option maxHeartbeats 1000000 in
theorem eqBlockS_same (a1 a2 : Option Addr) (c1 c2 : Nat) (bs : List Bk) (w : World) (h1 : BlocksAt w a1 bs) (h2 : BlocksAt w a2 bs) (hn : Lens 1048576 bs) :
    Calls Tryz.prog 262 #[.slice a1 bs.length c1, .slice a2 bs.length c2] w fun e w' => e = .returned (.bool true) ∧ Below w.heap.size w w' := by
  have hn1 := hn.1
  go_enter Tryz.func262, Tryz.ntmps262
  go_wp2
  go_loopw [5] (fun i wr => ∃ k : Nat, k ≤ bs.length ∧ i = .int .i64 k ∧ Below w.heap.size w wr) (fun i _ => bs.length - (intOf i).toNat)
  case atStart => exact ⟨0, Nat.zero_le _, rfl, Below.refl _ _⟩
  case round =>
    obtain ⟨k, hk, rfl, hB⟩ := hrel
    by_cases hlt : k < bs.length
    · obtain ⟨p, hp⟩ := getElem?_ex hlt
      obtain ⟨b1, o1, pa1, pc1, rfl, g10, g11, q1⟩ := (h1.below hB (Nat.le_refl _)) k p hp
      obtain ⟨b2, o2, pa2, pc2, rfl, g20, g21, q2⟩ := (h2.below hB (Nat.le_refl _)) k p hp
      have hb1 : b1 < wr.heap.size := World.block_lt_of_cell? _ _ g10
      have hb2 : b2 < wr.heap.size := World.block_lt_of_cell? _ _ g20
      have hl := hn.at hp
      clear hp h1 h2
      go_wp2
      go_region_held3 (fun W => ∀ b o, b < wr.heap.size → W.cell? ⟨b, o, none⟩ = wr.cell? ⟨b, o, none⟩) (first | (intro b o hb; simp; done) | (intro b o hb; rw [hc.cell (p := ⟨b, o, none⟩) hb]; rfl))
        (first | (go_at_call 281; refine (eqBlock_same _ _ _ _ _ _ _ (by exact q1) (by exact q2) hl).mono ?_; rintro e w1 ⟨rfl, hc⟩))
      go_wp2
      go_roundw
      case rel => exact ⟨k + 1, by omega, by go_num, hB.drew.trans (hc.mono hB.size)⟩
      case measure => simp [intOf]; omega
    · go_wp2
      go_ret
      exact ⟨rfl, hB⟩

theorem eqChip_same (a1 a2 : Option Addr) (c1 c2 : Nat) (bs : List Bk) (w : World) (h1 : BlocksAt w a1 bs) (h2 : BlocksAt w a2 bs) (hn : Lens 1048576 bs) :
    Calls Tryz.prog 210 #[.agg #[.slice a1 bs.length c1], .agg #[.slice a2 bs.length c2]] w fun e w' => e = .returned (.bool true) ∧ Below w.heap.size w w' := by
  go_enter Tryz.func210, Tryz.ntmps210
  go_wp2_with fail
  have hb0 : ∀ o1 o2, Below w.heap.size w ((w.alloc o1).alloc o2) := fun o1 o2 => ((Below.refl _ w).alloc (Nat.le_refl _) _).alloc (by simp) _
  refine (eqBlockS_same a1 a2 c1 c2 bs _ (h1.below (hb0 _ _) (Nat.le_refl _)) (h2.below (hb0 _ _) (Nat.le_refl _)) hn).mono ?_
  rintro e w1 ⟨rfl, hc⟩
  clear h1 h2
  go_wp2
  go_ret
  exact ⟨rfl, (hb0 _ _).trans (hc.mono (by simp; omega))⟩
end Go.Proofs.YtjgcjeaplckbbaaGreatDoor

/- The laws' own measure of an argument: it answers a number not above the one that it was given; not below nought only where no list is longer than that. -/
namespace Go.Proofs.YtjgcjeaplckbbaaGreatDoor
open Go.RowKit
set_option linter.unusedVariables false

theorem szPage_any (u : Bool) (l s left : Int) (d : ByteArray) (w : World) (h0 : 0 ≤ left) (h1 : left ≤ 1048576) (hd : d.size ≤ 9223372036854775807) :
    Calls Tryz.prog 290 #[.agg #[.bool u, .int .i64 l, .int .i64 s, .string d], .int .i64 left] w fun e w' => ∃ n : Int, e = .returned (.int .i64 n) ∧ n ≤ left ∧ Below w.heap.size w w' := by
  by_cases hc : left - d.size < 0
  · go_enter Tryz.func290, Tryz.ntmps290
    go_wp2
    go_ret
    exact ⟨_, rfl, by omega, (Below.refl _ _).alloc (Nat.le_refl _) _⟩
  · go_enter Tryz.func290, Tryz.ntmps290
    go_wp2
    go_ret
    exact ⟨_, rfl, by omega, (Below.refl _ _).alloc (Nat.le_refl _) _⟩

set_option maxHeartbeats 1000000 in
theorem szPageS_any (a : Option Addr) (c : Nat) (ps : List Pg) (left : Int) (w : World) (h : PagesAt w a ps) (hn : ps.length ≤ 9223372036854775807) (ht : ∀ p ∈ ps, p.data.size ≤ 9223372036854775807) (h0 : 0 ≤ left) (h1 : left ≤ 1048576) :
    Calls Tryz.prog 286 #[.slice a ps.length c, .int .i64 left] w fun e w' => ∃ n : Int, e = .returned (.int .i64 n) ∧ n ≤ left ∧ (0 ≤ n → ps.length ≤ 1048576) ∧ Below w.heap.size w w' := by
  by_cases hc : left - ps.length < 0
  · go_enter Tryz.func286, Tryz.ntmps286
    go_wp2
    go_ret
    exact ⟨_, rfl, by omega, by omega, Below.refl _ _⟩
  · have hl : ps.length ≤ 1048576 := by omega
    go_enter Tryz.func286, Tryz.ntmps286
    go_wp2
    go_loopw [1, 5] (fun v i wr => ∃ (k : Nat) (m : Int), k ≤ ps.length ∧ i = .int .i64 k ∧ v = .int .i64 m ∧ 0 ≤ m ∧ m ≤ left ∧ Below w.heap.size w wr) (fun _ i _ => ps.length - (intOf i).toNat)
    case atStart => exact ⟨0, _, Nat.zero_le _, rfl, rfl, by omega, by omega, Below.refl _ _⟩
    case round =>
      obtain ⟨k, m, hk, rfl, rfl, hm0, hm1, hB⟩ := hrel
      by_cases hlt : k < ps.length
      · obtain ⟨p, hp⟩ := getElem?_ex hlt
        obtain ⟨b1, o1, rfl, g10, g11, g12, g13⟩ := (h.below hB (Nat.le_refl _)) k p hp
        have hd := ht p (List.mem_of_getElem? hp)
        clear hp h
        go_wp2_with fail
        refine (szPage_any _ _ _ _ _ _ hm0 (by omega) hd).mono ?_
        rintro e w1 ⟨n, rfl, hn1, hb⟩
        by_cases hneg : n < 0
        · go_wp2
          go_ret
          exact ⟨_, rfl, by omega, by omega, hB.trans (hb.mono hB.size)⟩
        · go_wp2
          go_roundw
          case rel => exact ⟨k + 1, n, by omega, by go_num, rfl, by omega, by omega, hB.trans (hb.mono hB.size)⟩
          case measure => simp [intOf]; omega
      · go_wp2
        go_ret
        exact ⟨_, rfl, hm1, fun _ => hl, hB⟩

theorem szBlock_any (x : Int) (a : Option Addr) (c : Nat) (ps : List Pg) (left : Int) (w : World) (h : PagesAt w a ps) (hn : ps.length ≤ 9223372036854775807) (ht : ∀ p ∈ ps, p.data.size ≤ 9223372036854775807) (h0 : 0 ≤ left) (h1 : left ≤ 1048576) :
    Calls Tryz.prog 279 #[.agg #[.int .i64 x, .slice a ps.length c], .int .i64 left] w fun e w' => ∃ n : Int, e = .returned (.int .i64 n) ∧ n ≤ left ∧ (0 ≤ n → ps.length ≤ 1048576) ∧ Below w.heap.size w w' := by
  go_enter Tryz.func279, Tryz.ntmps279
  go_wp2_with fail
  have hb0 : ∀ o1, Below w.heap.size w (w.alloc o1) := fun o1 => (Below.refl _ w).alloc (Nat.le_refl _) _
  refine (szPageS_any a c ps left _ (h.below (hb0 _) (Nat.le_refl _)) hn ht h0 h1).mono ?_
  rintro e w1 ⟨n, rfl, hn1, hn2, hb⟩
  clear h
  by_cases hneg : n < 0
  · go_wp2
    go_ret
    exact ⟨_, rfl, by omega, by omega, (hb0 _).trans (hb.mono (by simp))⟩
  · go_wp2
    go_ret
    exact ⟨_, rfl, by omega, hn2, (hb0 _).trans (hb.mono (by simp))⟩

set_option maxHeartbeats 1000000 in
theorem szBlockS_any (a : Option Addr) (c : Nat) (bs : List Bk) (left : Int) (w : World) (h : BlocksAt w a bs) (hn : Lens 9223372036854775807 bs) (ht : Texts bs) (h0 : 0 ≤ left) (h1 : left ≤ 1048576) :
    Calls Tryz.prog 260 #[.slice a bs.length c, .int .i64 left] w fun e w' => ∃ n : Int, e = .returned (.int .i64 n) ∧ n ≤ left ∧ (0 ≤ n → Lens 1048576 bs) ∧ Below w.heap.size w w' := by
  have hn1 := hn.1
  by_cases hc : left - bs.length < 0
  · go_enter Tryz.func260, Tryz.ntmps260
    go_wp2
    go_ret
    exact ⟨_, rfl, by omega, by omega, Below.refl _ _⟩
  · have hl : bs.length ≤ 1048576 := by omega
    go_enter Tryz.func260, Tryz.ntmps260
    go_wp2
    go_loopw [1, 5] (fun v i wr => ∃ (k : Nat) (m : Int), k ≤ bs.length ∧ i = .int .i64 k ∧ v = .int .i64 m ∧ 0 ≤ m ∧ m ≤ left ∧ (∀ j b, j < k → bs[j]? = some b → b.pages.length ≤ 1048576) ∧ Below w.heap.size w wr) (fun _ i _ => bs.length - (intOf i).toNat)
    case atStart => exact ⟨0, _, Nat.zero_le _, rfl, rfl, by omega, by omega, fun _ _ hj => absurd hj (Nat.not_lt_zero _), Below.refl _ _⟩
    case round =>
      obtain ⟨k, m, hk, rfl, rfl, hm0, hm1, hall, hB⟩ := hrel
      by_cases hlt : k < bs.length
      · obtain ⟨p, hp⟩ := getElem?_ex hlt
        obtain ⟨b1, o1, pa, pc, rfl, g10, g11, q⟩ := (h.below hB (Nat.le_refl _)) k p hp
        have hd := ht.at hp
        have hpl := hn.at hp
        have HP := hide hp
        have HA := hide hall
        clear hp h hall
        go_wp2_with fail
        refine (szBlock_any _ _ _ _ _ _ q hpl hd hm0 (by omega)).mono ?_
        rintro e w1 ⟨n, rfl, hn1, hn2, hb⟩
        have HN := hide hn2
        clear q hn2
        by_cases hneg : n < 0
        · go_wp2
          go_ret
          exact ⟨_, rfl, by omega, by omega, hB.trans (hb.mono hB.size)⟩
        · go_wp2
          go_roundw
          case rel =>
            refine ⟨k + 1, n, by omega, by go_num, rfl, by omega, by omega, ?_, hB.trans (hb.mono hB.size)⟩
            intro j b hj hbj
            by_cases e : j = k
            · subst e
              rw [unhide HP] at hbj
              cases hbj
              exact unhide HN (by omega)
            · exact unhide HA j b (by omega) hbj
          case measure => simp [intOf]; omega
      · have hfin : Lens 1048576 bs := ⟨hl, fun b hb => by
          obtain ⟨j, hj, rfl⟩ := List.getElem_of_mem hb
          exact hall j _ (by omega) (by simp [hj])⟩
        have HA := hide hall
        clear hall
        go_wp2
        go_ret
        exact ⟨_, rfl, hm1, fun _ => hfin, hB⟩

theorem szChip_any (a : Option Addr) (c : Nat) (bs : List Bk) (left : Int) (w : World) (h : BlocksAt w a bs) (hn : Lens 9223372036854775807 bs) (ht : Texts bs) (h0 : 0 ≤ left) (h1 : left ≤ 1048576) :
    Calls Tryz.prog 208 #[.agg #[.slice a bs.length c], .int .i64 left] w fun e w' => ∃ n : Int, e = .returned (.int .i64 n) ∧ n ≤ left ∧ (0 ≤ n → Lens 1048576 bs) ∧ Below w.heap.size w w' := by
  go_enter Tryz.func208, Tryz.ntmps208
  go_wp2_with fail
  have hb0 : ∀ o1, Below w.heap.size w (w.alloc o1) := fun o1 => (Below.refl _ w).alloc (Nat.le_refl _) _
  refine (szBlockS_any a c bs left _ (h.below (hb0 _) (Nat.le_refl _)) hn ht h0 h1).mono ?_
  rintro e w1 ⟨n, rfl, hn1, hn2, hb⟩
  have HN := hide hn2
  clear h hn2
  by_cases hneg : n < 0
  · go_wp2
    go_ret
    exact ⟨_, rfl, by omega, by omega, (hb0 _).trans (hb.mono (by simp))⟩
  · go_wp2
    go_ret
    exact ⟨_, rfl, by omega, unhide HN, (hb0 _).trans (hb.mono (by simp))⟩
end Go.Proofs.YtjgcjeaplckbbaaGreatDoor

/- An argument that is a chip, opened: the plain blocks that it is. No program is named here. -/
namespace Go.Proofs.YtjgcjeaplckbbaaGreatDoor
open Go.RowKit Go.ChangeShapes Go.WideShapes Go.Deep
set_option linter.unusedVariables false
set_option linter.unusedSimpArgs false

section
variable {H : Type} {enc : TypeId × Value → H} {P : Program} {w : World} {base : Nat} {spare : Nat → Bool} {held : Bool}

instance : Inhabited Pg := ⟨⟨false, 0, 0, ByteArray.empty⟩⟩
instance : Inhabited Bk := ⟨⟨0, []⟩⟩

/-- One page out of its four cells. -/
theorem open_page {e : TypeId} {f0 f1 f2 f3 : Field} (he : P.underlying e = some (.struct #[f0, f1, f2, f3])) (hone : Go.Deep.oneCellFields P #[f0, f1, f2, f3] = true)
    (u0 : P.underlying f0.type = some .bool) (u1 : P.underlying f1.type = some (.int .i64)) (u2 : P.underlying f2.type = some (.int .i64)) (u3 : P.underlying f3.type = some .string)
    {n : Nat} {cs : List Value} {x : DataW H × List MemPlace} (hcl : cs.length = 4) (h : DataW.trod enc P w base spare held n e cs = some x) :
    ∃ p : Pg, cs = [.bool p.used, .int .i64 p.log, .int .i64 p.seq, .string p.data] ∧ p.data.size ≤ 9223372036854775807 := by
  obtain ⟨xs, k, hk, hxy, _, hxl, hf⟩ := DataW.trod_struct he h
  obtain ⟨o0, c0⟩ := hone_of hone 0 f0 rfl
  obtain ⟨o1, c1⟩ := hone_of hone 1 f1 rfl
  obtain ⟨o2, c2⟩ := hone_of hone 2 f2 rfl
  obtain ⟨o3, c3⟩ := hone_of hone 3 f3 rfl
  match xs, hxl, cs, hcl with
  | [y0, y1, y2, y3], _, [v0, v1, v2, v3], _ =>
    have g0 := hf 0 f0 rfl
    have g1 := hf 1 f1 rfl
    have g2 := hf 2 f2 rfl
    have g3 := hf 3 f3 rfl
    simp [o0, o1, o2, o3, c0, c1, c2, c3] at g0 g1 g2 g3
    obtain ⟨b, hb, _⟩ := DataW.trod_bool u0 g0
    obtain ⟨i1, hi1, _⟩ := DataW.trod_int u1 g1
    obtain ⟨i2, hi2, _⟩ := DataW.trod_int u2 g2
    obtain ⟨s, hs, _, hsz⟩ := DataW.trod_string u3 g3
    cases hb
    cases hi1
    cases hi2
    cases hs
    exact ⟨⟨b, i1, i2, s⟩, rfl, by simpa [maxLen] using hsz⟩

theorem open_pages {t e : TypeId} {f0 f1 f2 f3 : Field} (ht : P.underlying t = some (.slice e)) (he : P.underlying e = some (.struct #[f0, f1, f2, f3])) (ce : P.cellsOf e = 4) (hone : Go.Deep.oneCellFields P #[f0, f1, f2, f3] = true)
    (u0 : P.underlying f0.type = some .bool) (u1 : P.underlying f1.type = some (.int .i64)) (u2 : P.underlying f2.type = some (.int .i64)) (u3 : P.underlying f3.type = some .string)
    {n : Nat} {v : Value} {x : DataW H × List MemPlace} (h : DataW.trod enc P w base spare held n t [v] = some x) :
    ∃ (pa : Option Addr) (pc : Nat) (ps : List Pg), v = .slice pa ps.length pc ∧ PagesAt w pa ps ∧ ps.length ≤ 9223372036854775807 ∧ ∀ p ∈ ps, p.data.size ≤ 9223372036854775807 := by
  rcases open_slice ht h with ⟨h0, _⟩ | ⟨a, len, cap, m, k, D, Pl, hv, hb, hl, hm, hmm, rfl, hx⟩
  · cases h0
    exact ⟨none, 0, [], rfl, fun i p hp => by simp at hp, by simp, fun p hp => by simp at hp⟩
  · cases hv
    have hlm : len ≤ m := by rw [hmm]; split <;> omega
    have hsp : 0 < len → ∃ b o, a = ⟨b, o, none⟩ := fun hp => by
      obtain ⟨cs', h1, h2⟩ := hx 0 (by omega)
      rw [ce] at h1
      obtain ⟨_, hlen, hcell⟩ := World.cells?_some h1
      have e0 := hcell 0 (by omega)
      rw [Go.Deep.add_add] at e0
      obtain ⟨b, o, spot⟩ := a
      obtain ⟨v, hv⟩ := getElem?_ex (l := cs') (k := 0) (by omega)
      have := World.cell?_spot (e0.trans hv)
      have hs : spot = none := by simpa [Addr.add] using this
      subst hs
      exact ⟨b, o, rfl⟩
    have each : ∀ i, i < len → ∃ p : Pg, (∃ b o, a = ⟨b, o, none⟩ ∧ w.cell? ⟨b, o + i * 4, none⟩ = some (.bool p.used) ∧ w.cell? ⟨b, o + i * 4 + 1, none⟩ = some (.int .i64 p.log) ∧
        w.cell? ⟨b, o + i * 4 + 2, none⟩ = some (.int .i64 p.seq) ∧ w.cell? ⟨b, o + i * 4 + 3, none⟩ = some (.string p.data)) ∧ p.data.size ≤ 9223372036854775807 := by
      intro i hi
      obtain ⟨cs', h1, h2⟩ := hx i (by omega)
      rw [ce] at h1
      obtain ⟨_, hlen, hcell⟩ := World.cells?_some h1
      obtain ⟨p, rfl, hp⟩ := open_page he hone u0 u1 u2 u3 hlen h2
      refine ⟨p, ?_, hp⟩
      have e0 := hcell 0 (by omega)
      have e1 := hcell 1 (by omega)
      have e2 := hcell 2 (by omega)
      have e3 := hcell 3 (by omega)
      rw [Go.Deep.add_add] at e0 e1 e2 e3
      obtain ⟨b, o, rfl⟩ := hsp (by omega)
      rw [Go.WideShapes.add_plain] at e0 e1 e2 e3
      exact ⟨b, o, rfl, by simpa using e0, by simpa [Nat.add_assoc] using e1, by simpa [Nat.add_assoc] using e2, by simpa [Nat.add_assoc] using e3⟩
    obtain ⟨q, hq⟩ := choose_lt each
    refine ⟨some a, cap, (List.range len).map q, by simp, fun i p hp => ?_, by simp; simp [maxLen] at hm; omega, fun p hp => ?_⟩
    · have hi : i < len := by have := (List.getElem?_eq_some_iff.1 hp).1; simpa using this
      simp [hi] at hp
      subst hp
      obtain ⟨⟨b, o, rfl, h0, h1, h2, h3⟩, _⟩ := hq i hi
      exact ⟨b, o, rfl, h0, h1, h2, h3⟩
    · obtain ⟨i, hi, rfl⟩ := List.mem_map.1 hp
      exact (hq i (List.mem_range.1 hi)).2

theorem open_blocks {t e tp ep : TypeId} {g0 g1 f0 f1 f2 f3 : Field} (ht : P.underlying t = some (.slice e)) (he : P.underlying e = some (.struct #[g0, g1])) (ce : P.cellsOf e = 2) (honeb : Go.Deep.oneCellFields P #[g0, g1] = true)
    (v0 : P.underlying g0.type = some (.int .i64)) (v1 : P.underlying g1.type = some (.slice ep)) (hep : P.underlying ep = some (.struct #[f0, f1, f2, f3])) (cep : P.cellsOf ep = 4) (hone : Go.Deep.oneCellFields P #[f0, f1, f2, f3] = true)
    (u0 : P.underlying f0.type = some .bool) (u1 : P.underlying f1.type = some (.int .i64)) (u2 : P.underlying f2.type = some (.int .i64)) (u3 : P.underlying f3.type = some .string)
    {n : Nat} {v : Value} {x : DataW H × List MemPlace} (h : DataW.trod enc P w base spare held n t [v] = some x) :
    ∃ (a : Option Addr) (c : Nat) (bs : List Bk), v = .slice a bs.length c ∧ BlocksAt w a bs ∧ Lens 9223372036854775807 bs ∧ Texts bs := by
  obtain ⟨o0, c0⟩ := hone_of honeb 0 g0 rfl
  obtain ⟨o1, c1⟩ := hone_of honeb 1 g1 rfl
  rcases open_slice_pairs ht he ce o0 o1 c0 c1 h with ⟨h0, _⟩ | ⟨a, len, cap, m, k, V0, V1, D0, D1, P0, P1, hv, hb, hl, hm, hmm, rfl, hx⟩
  · cases h0
    exact ⟨none, 0, [], rfl, fun i p hp => by simp at hp, ⟨by simp, fun b hb => by simp at hb⟩, fun b hb => by simp at hb⟩
  · cases hv
    have hlm : len ≤ m := by rw [hmm]; split <;> omega
    have hsp : 0 < len → ∃ b o, a = ⟨b, o, none⟩ := fun hp => by
      obtain ⟨e0, _⟩ := hx 0 (by omega)
      obtain ⟨b, o, spot⟩ := a
      have := World.cell?_spot e0
      have hs : spot = none := by simpa [Addr.add] using this
      subst hs
      exact ⟨b, o, rfl⟩
    have each : ∀ i, i < len → ∃ b : Bk, (∃ g o pa pc, a = ⟨g, o, none⟩ ∧ w.cell? ⟨g, o + i * 2, none⟩ = some (.int .i64 b.wear) ∧ w.cell? ⟨g, o + i * 2 + 1, none⟩ = some (.slice pa b.pages.length pc) ∧ PagesAt w pa b.pages) ∧
        b.pages.length ≤ 9223372036854775807 ∧ ∀ p ∈ b.pages, p.data.size ≤ 9223372036854775807 := by
      intro i hi
      obtain ⟨e0, e1, t0, t1⟩ := hx i (by omega)
      obtain ⟨i0, hi0, _⟩ := DataW.trod_int v0 t0
      obtain ⟨pa, pc, ps, hps, hpa, hpl, hpt⟩ := open_pages v1 hep cep hone u0 u1 u2 u3 t1
      have hi0' : V0 i = .int .i64 i0 := by simpa using hi0
      rw [hi0'] at e0
      rw [hps] at e1
      refine ⟨⟨i0, ps⟩, ?_, hpl, hpt⟩
      obtain ⟨b, o, rfl⟩ := hsp (by omega)
      rw [Go.WideShapes.add_plain] at e0 e1
      exact ⟨b, o, pa, pc, rfl, by simpa using e0, by simpa [Nat.add_assoc] using e1, hpa⟩
    obtain ⟨q, hq⟩ := choose_lt each
    refine ⟨some a, cap, (List.range len).map q, by simp, fun i b hp => ?_, ⟨by simp; simp [maxLen] at hm; omega, fun b hb => ?_⟩, fun b hb => ?_⟩
    · have hi : i < len := by have := (List.getElem?_eq_some_iff.1 hp).1; simpa using this
      simp [hi] at hp
      subst hp
      obtain ⟨⟨g, o, pa, pc, rfl, h0, h1, h2⟩, _⟩ := hq i hi
      exact ⟨g, o, pa, pc, rfl, h0, h1, h2⟩
    · obtain ⟨i, hi, rfl⟩ := List.mem_map.1 hb
      exact (hq i (List.mem_range.1 hi)).2.1
    · obtain ⟨i, hi, rfl⟩ := List.mem_map.1 hb
      exact (hq i (List.mem_range.1 hi)).2.2
end
end Go.Proofs.YtjgcjeaplckbbaaGreatDoor

/- An argument of the laws that is a chip, opened. -/
namespace Go.Proofs.YtjgcjeaplckbbaaGreatDoor
open Go.RowKit Go.ChangeShapes Go.WideShapes Go.Deep
set_option linter.unusedVariables false
set_option linter.unusedSimpArgs false

set_option maxRecDepth 100000 in
/-- An argument of the type Chip, opened. -/
theorem open_chip {H : Type} {enc : TypeId × Value → H} {w : World} {base b0 : Nat} {spare : Nat → Bool} {held : Bool} {v : Value} {d : DataW H} {p : List MemPlace}
    (hv : Value.okWide Tryz.prog w .any b0 224 v) (h : DataW.Trod enc Tryz.prog w base spare held 224 v d p) :
    ∃ (a : Option Addr) (c : Nat) (bs : List Bk), v = .agg #[.slice a bs.length c] ∧ BlocksAt w a bs ∧ Lens 9223372036854775807 bs ∧ Texts bs := by
  obtain ⟨cs, rfl, hsz⟩ := okWide_struct Tryz.underlying224 hv
  have h1 : cs.size = 1 := hsz.trans (by kernel_rfl)
  obtain ⟨l⟩ := cs
  match l, h1 with
  | [v0], _ =>
    obtain ⟨fuel, hf⟩ := h
    obtain ⟨y0, n, _, _, hy⟩ := trod_struct1 Tryz.underlying224 hf
    have hc : Tryz.prog.cellsOf 222 = 1 := by kernel_rfl
    simp [Value.cells, hc] at hy
    obtain ⟨a, c, bs, rfl, hbs, hl, ht⟩ := open_blocks (tp := 359) Tryz.underlying222 Tryz.underlying361 (by kernel_rfl) (by kernel_rfl) Tryz.underlying2 Tryz.underlying359 Tryz.underlying372 (by kernel_rfl) (by kernel_rfl)
      Tryz.underlying4 Tryz.underlying2 Tryz.underlying2 Tryz.underlying9 hy
    exact ⟨a, c, bs, rfl, hbs, hl, ht⟩

end Go.Proofs.YtjgcjeaplckbbaaGreatDoor

/- What every law over a chip calls, told for a length by name. -/
namespace Go.Proofs.YtjgcjeaplckbbaaGreatDoor
open Go.RowKit
set_option linter.unusedVariables false

theorem eqChip_n {n : Nat} (a1 a2 : Option Addr) (c1 c2 : Nat) (bs : List Bk) (hl : bs.length = n) (w : World) (h1 : BlocksAt w a1 bs) (h2 : BlocksAt w a2 bs) (hn : Lens 1048576 bs) :
    Calls Tryz.prog 210 #[.agg #[.slice a1 n c1], .agg #[.slice a2 n c2]] w fun e w' => e = .returned (.bool true) ∧ Below w.heap.size w w' := by
  subst hl; exact eqChip_same a1 a2 c1 c2 bs w h1 h2 hn
theorem szChip_n {n : Nat} (a : Option Addr) (c : Nat) (bs : List Bk) (hl : bs.length = n) (w : World) (h : BlocksAt w a bs) (hn : Lens 9223372036854775807 bs) (ht : Texts bs) :
    Calls Tryz.prog 208 #[.agg #[.slice a n c], .int .i64 1048576] w fun e w' => ∃ n : Int, e = .returned (.int .i64 n) ∧ n ≤ 1048576 ∧ (0 ≤ n → Lens 1048576 bs) ∧ Below w.heap.size w w' := by
  subst hl; exact szChip_any a c bs _ w h hn ht (by omega) (by omega)
theorem toChip_n {n : Nat} (a : Option Addr) (c : Nat) (bs : List Bk) (hl : bs.length = n) (w : World) (h : BlocksAt w a bs) (hn : Lens 1048576 bs) :
    Calls Tryz.prog 209 #[.agg #[.slice a n c]] w fun e w' => ∃ g, e = .returned (.agg #[.slice (some ⟨g, 0, none⟩) n n]) ∧ BlocksAt w' (some ⟨g, 0, none⟩) bs ∧ Below w.heap.size w w' := by
  subst hl
  refine (toChip_any a c bs w h hn).mono ?_
  rintro e w1 ⟨g, H, rfl, _, hO, hB⟩
  exact ⟨g, rfl, hO.blocksAt (Nat.le_refl _), hB⟩
end Go.Proofs.YtjgcjeaplckbbaaGreatDoor

/- The laws' own marks: each field of each page and block is written with a number of its own, and found there again. -/
namespace Go.Proofs.YtjgcjeaplckbbaaGreatDoor
open Go.RowKit
set_option linter.unusedVariables false

/-- The digits of m ahead of s. -/
def mtF : Nat → Nat → ByteArray → ByteArray
  | 0, _, s => s
  | f + 1, m, s => if 0 < m then mtF f (m / 10) (strOfNums [48 + (m : Int) % 10] ++ s) else s
/-- The text of a mark. -/
def mt (k : Nat) : ByteArray := ⟨#[109]⟩ ++ mtF k k ⟨#[]⟩

theorem mtF_zero (f : Nat) (s : ByteArray) : mtF f 0 s = s := by cases f <;> simp [mtF]
theorem mtF_step (f m : Nat) (s : ByteArray) (hm : 0 < m) (hf : m ≤ f) : ∃ g, m / 10 ≤ g ∧ mtF f m s = mtF g (m / 10) (strOfNums [48 + (m : Int) % 10] ++ s) := by
  cases f with
  | zero => omega
  | succ g => exact ⟨g, by omega, by simp [mtF, hm]⟩

theorem conv1 (x : Int) (w : World) : (convert 22 9 (.slice (some ⟨w.heap.size, 0, none⟩) 1 1)).run Tryz.prog (w.alloc (.cells #[.int .u8 x] 5)) = .ok (.string (strOfNums [x])) (w.alloc (.cells #[.int .u8 x] 5)) :=
  run_convert_bytes_arg _ 22 5 Tryz.underlying22 Tryz.underlying5 w.heap.size 0 1 1 [x] rfl (fun i hi => by
    obtain rfl : i = 0 := by omega
    simp) 9 Tryz.underlying9


/-- A page that bears the marks from k on. -/
def mkPg (k : Int) : Pg := ⟨k % 3 == 0, k + 1, k + 1 + 1, mt (k + 1 + 1 + 1).toNat⟩
def markPs (k : Int) (n : Nat) : List Pg := (List.range n).map fun (i : Nat) => mkPg (k + 4 * (i : Int))
def markTo (k : Int) (ps : List Pg) (j : Nat) : List Pg := markPs k j ++ ps.drop j

theorem markPs_length (k : Int) (n : Nat) : (markPs k n).length = n := by simp [markPs]
theorem markPs_at (k : Int) {n i : Nat} (hi : i < n) : (markPs k n)[i]? = some (mkPg (k + 4 * (i : Int))) := by simp [markPs, hi]
theorem markTo_length (k : Int) (ps : List Pg) {j : Nat} (hj : j ≤ ps.length) : (markTo k ps j).length = ps.length := by simp [markTo, markPs_length]; omega
theorem markTo_zero (k : Int) (ps : List Pg) : markTo k ps 0 = ps := by simp [markTo, markPs]
theorem markTo_full (k : Int) (ps : List Pg) : markTo k ps ps.length = markPs k ps.length := by simp [markTo]
theorem markTo_step (k : Int) (ps : List Pg) {j : Nat} (hj : j < ps.length) : (markTo k ps j).set j (mkPg (k + 4 * (j : Int))) = markTo k ps (j + 1) := by
  have h1 : markPs k (j + 1) = markPs k j ++ [mkPg (k + 4 * (j : Int))] := by simp [markPs, List.range_succ]
  unfold markTo
  rw [h1, List.set_append_right _ _ (by simp [markPs_length]), markPs_length, Nat.sub_self, List.append_assoc]
  congr 1
  rw [List.drop_eq_getElem_cons hj]
  rfl



/-- The number behind all marks of the blocks. -/
def kAfter (k : Int) : List Bk → Int
  | [] => k
  | b :: r => kAfter (k + 1 + 4 * (b.pages.length : Int)) r
def markBs (k : Int) : List Bk → List Bk
  | [] => []
  | b :: r => ⟨k, markPs (k + 1) b.pages.length⟩ :: markBs (k + 1 + 4 * (b.pages.length : Int)) r

theorem kAfter_snoc (l : List Bk) (b : Bk) : ∀ k, kAfter k (l ++ [b]) = kAfter k l + 1 + 4 * (b.pages.length : Int) := by
  induction l with
  | nil => intro k; rfl
  | cons c l ih => intro k; exact ih _
theorem markBs_snoc (l : List Bk) (b : Bk) : ∀ k, markBs k (l ++ [b]) = markBs k l ++ [⟨kAfter k l, markPs (kAfter k l + 1) b.pages.length⟩] := by
  induction l with
  | nil => intro k; rfl
  | cons c l ih => intro k; show _ :: markBs _ (l ++ [b]) = _; rw [ih]; rfl
theorem markBs_length (l : List Bk) : ∀ k, (markBs k l).length = l.length := by
  induction l with
  | nil => intro k; rfl
  | cons c l ih => intro k; show (markBs _ l).length + 1 = l.length + 1; rw [ih]
theorem kAfter_le (l : List Bk) : ∀ k, k ≤ kAfter k l := by
  induction l with
  | nil => intro k; exact Int.le_refl _
  | cons c l ih => intro k; have := ih (k + 1 + 4 * (c.pages.length : Int)); show k ≤ kAfter _ l; omega
theorem kAfter_append (l m : List Bk) : ∀ k, kAfter k (l ++ m) = kAfter (kAfter k l) m := by
  induction l with
  | nil => intro k; rfl
  | cons c l ih => intro k; exact ih _
theorem take_snoc {l : List Bk} {i : Nat} {b : Bk} (h : l[i]? = some b) : l.take (i + 1) = l.take i ++ [b] := by
  obtain ⟨hi, rfl⟩ := List.getElem?_eq_some_iff.1 h
  rw [List.take_succ_eq_append_getElem hi]
theorem kAfter_take {l : List Bk} {i : Nat} {b : Bk} (h : l[i]? = some b) (k : Int) : kAfter k (l.take i) + 1 + 4 * (b.pages.length : Int) ≤ kAfter k l := by
  have e : l = l.take (i + 1) ++ l.drop (i + 1) := (List.take_append_drop _ _).symm
  have h1 : kAfter k l = kAfter (kAfter k (l.take (i + 1))) (l.drop (i + 1)) := by rw [← kAfter_append, ← e]
  rw [h1, take_snoc h, kAfter_snoc]
  exact kAfter_le _ _

def markBTo (k : Int) (bs : List Bk) (i : Nat) : List Bk := markBs k (bs.take i) ++ bs.drop i
theorem markBTo_zero (k : Int) (bs : List Bk) : markBTo k bs 0 = bs := by simp [markBTo, markBs]
theorem markBTo_full (k : Int) (bs : List Bk) : markBTo k bs bs.length = markBs k bs := by simp [markBTo]
theorem markBTo_at (k : Int) {bs : List Bk} {i : Nat} {b : Bk} (h : bs[i]? = some b) : (markBTo k bs i)[i]? = some b := by
  obtain ⟨hi, rfl⟩ := List.getElem?_eq_some_iff.1 h
  unfold markBTo
  rw [List.getElem?_append_right (by rw [markBs_length]; simp; omega), markBs_length]
  simp [Nat.min_eq_left (Nat.le_of_lt hi), hi]
theorem markBTo_step (k : Int) {bs : List Bk} {i : Nat} {b : Bk} (h : bs[i]? = some b) : (markBTo k bs i).set i ⟨kAfter k (bs.take i), markPs (kAfter k (bs.take i) + 1) b.pages.length⟩ = markBTo k bs (i + 1) := by
  obtain ⟨hi, hb⟩ := List.getElem?_eq_some_iff.1 h
  have hl : (markBs k (bs.take i)).length = i := by rw [markBs_length]; simp; omega
  unfold markBTo
  rw [take_snoc h, markBs_snoc, List.set_append_right _ _ (by omega), hl, Nat.sub_self, List.append_assoc]
  congr 1
  rw [List.drop_eq_getElem_cons hi]
  rfl
theorem markBs_at (k : Int) {bs : List Bk} {i : Nat} {b : Bk} (h : bs[i]? = some b) : (markBs k bs)[i]? = some ⟨kAfter k (bs.take i), markPs (kAfter k (bs.take i) + 1) b.pages.length⟩ := by
  have hi : i < bs.length := (List.getElem?_eq_some_iff.1 h).1
  have e : markBs k bs = markBs k (bs.take (i + 1) ++ bs.drop (i + 1)) := by rw [List.take_append_drop]
  have ap : ∀ (l m : List Bk) k, markBs k (l ++ m) = markBs k l ++ markBs (kAfter k l) m := by
    intro l
    induction l with
    | nil => intro m k; rfl
    | cons c l ih => intro m k; show _ :: markBs _ (l ++ m) = _; rw [ih]; rfl
  rw [e, ap, take_snoc h, markBs_snoc, List.getElem?_append_left (by simp [markBs_length]; omega), List.getElem?_append_right (by rw [markBs_length]; simp; omega), markBs_length]
  simp [Nat.min_eq_left (Nat.le_of_lt hi)]





end Go.Proofs.YtjgcjeaplckbbaaGreatDoor

/- For laws whose answer is a list of int64: its form, its marks. -/
namespace Go.Proofs.YtjgcjeaplckbbaaGreatDoor
open Go.RowKit
set_option linter.unusedVariables false
set_option linter.unusedSimpArgs false



theorem kAfter_upto (bs : List Bk) : ∀ k, (∀ b ∈ bs, b.pages.length ≤ 1048576) → k ≤ kAfter k bs ∧ kAfter k bs ≤ k + (bs.length : Int) * 4194305 := by
  induction bs with
  | nil => intro k _; simp [kAfter]
  | cons b bs ih =>
    intro k h
    have h1 := ih (k + 1 + 4 * (b.pages.length : Int)) (fun c hc => h c (by simp [hc]))
    have h2 := h b (by simp)
    have e : kAfter k (b :: bs) = kAfter (k + 1 + 4 * (b.pages.length : Int)) bs := rfl
    rw [e, List.length_cons]
    have e2 : ((bs.length + 1 : Nat) : Int) * 4194305 = (bs.length : Int) * 4194305 + 4194305 := by omega
    rw [e2]
    omega

/-- toChip, with what it owns. -/
theorem toChip_own {n : Nat} (a : Option Addr) (c : Nat) (bs : List Bk) (hl : bs.length = n) (w : World) (h : BlocksAt w a bs) (hn : Lens 1048576 bs) :
    Calls Tryz.prog 209 #[.agg #[.slice a n c]] w fun e w' => ∃ g H, e = .returned (.agg #[.slice (some ⟨g, 0, none⟩) n n]) ∧ w.heap.size ≤ g ∧ OwnBlocks w' 220 122 g H n bs ∧ Below w.heap.size w w' := by
  subst hl; exact toChip_any a c bs w h hn
end Go.Proofs.YtjgcjeaplckbbaaGreatDoor

/- A chip as an answer: what it owns, its marks. -/
namespace Go.Proofs.YtjgcjeaplckbbaaGreatDoor
open Go.RowKit
set_option linter.unusedVariables false
set_option linter.unusedSimpArgs false

theorem OwnBlocks.of_blocks {w w' : World} {tB tP : TypeId} {g : Nat} {H : Nat → Nat} {n : Nat} {bs : List Bk} (h : OwnBlocks w tB tP g H n bs) (e : ∀ k, g ≤ k → k < w.heap.size → w'.heap[k]? = w.heap[k]?) : OwnBlocks w' tB tP g H n bs :=
  ⟨h.row.of_block (e g (Nat.le_refl _) h.row.lt), fun i b hb => World.rowIs.of_block (h.pages i b hb) (e _ (Nat.le_of_lt (h.ahead i (List.getElem?_eq_some_iff.1 hb).1)) (World.rowIs.lt (h.pages i b hb))), h.ahead, h.order⟩

/-- An answer that is a chip: its blocks lie from B on and ahead of K, each in a row of its own. -/
def ChipOwn (w : World) (B K : Nat) (a : Option Addr) (n c : Nat) (out : List Bk) : Prop :=
  out.length = n ∧ ((a = none ∧ n = 0 ∧ c = 0) ∨ ∃ g H, a = some ⟨g, 0, none⟩ ∧ B ≤ g ∧ g < K ∧ (∀ i, i < n → g < H i ∧ H i < K) ∧ OwnBlocks w 220 122 g H n out)

theorem ChipOwn.blocksAt {w : World} {B K : Nat} {a : Option Addr} {n c : Nat} {out : List Bk} (h : ChipOwn w B K a n c out) : BlocksAt w a out := by
  obtain ⟨hl, ⟨_, h0, _⟩ | ⟨g, H, rfl, _, _, _, hO⟩⟩ := h
  · intro i b hb
    have := (List.getElem?_eq_some_iff.1 hb).1
    omega
  · exact hO.blocksAt (by omega)

theorem ChipOwn.below {w w' : World} {B K : Nat} {a : Option Addr} {n c : Nat} {out : List Bk} (h : ChipOwn w B K a n c out) (hb : Below w.heap.size w w') : ChipOwn w' B K a n c out := by
  obtain ⟨hl, h0 | ⟨g, H, rfl, h1, h2, h3, hO⟩⟩ := h
  · exact ⟨hl, .inl h0⟩
  · exact ⟨hl, .inr ⟨g, H, rfl, h1, h2, h3, hO.below hb (Nat.le_refl _)⟩⟩

theorem ChipOwn.touch {S : Nat → Prop} {w w' : World} {B K : Nat} {a : Option Addr} {n c : Nat} {out : List Bk} (h : ChipOwn w B K a n c out) (hT : Touch S w w') (hS : ∀ k, S k → k < B) : ChipOwn w' B K a n c out := by
  obtain ⟨hl, h0 | ⟨g, H, rfl, h1, h2, h3, hO⟩⟩ := h
  · exact ⟨hl, .inl h0⟩
  · exact ⟨hl, .inr ⟨g, H, rfl, h1, h2, h3, hO.of_blocks fun k hk hlt => hT.block k hlt (fun hs => by have := hS k hs; omega)⟩⟩


end Go.Proofs.YtjgcjeaplckbbaaGreatDoor

/- Arguments that are lists of numbers or of texts, opened. No program is named here. -/
namespace Go.Proofs.YtjgcjeaplckbbaaGreatDoor
open Go.RowKit Go.ChangeShapes Go.WideShapes
set_option linter.unusedVariables false
set_option linter.unusedSimpArgs false

section
variable {H : Type} {enc : TypeId × Value → H} {P : Program} {w : World} {base b0 : Nat} {spare : Nat → Bool} {held : Bool}

theorem open_intsAt {t e : TypeId} {fuel : Nat} {v : Value} {x : DataW H × List MemPlace} (ht : P.underlying t = some (.slice e)) (he : P.underlying e = some (.int .i64)) (hc : P.cellsOf e = 1)
    (h : DataW.trod enc P w base spare held fuel t [v] = some x) :
    ∃ (a : Option Addr) (c : Nat) (L : List Int), v = .slice a L.length c ∧ IntsAt w a L ∧ L.length ≤ 9223372036854775807 ∧ ∀ z ∈ L, (Lit.int .i64 z).wf = true := by
  rcases open_ints ht he hc h with ⟨h0, _⟩ | ⟨a, len, cap, zs, h0, hb, hl, hm, hz, _, hcell, hwf⟩
  · cases h0
    exact ⟨none, 0, [], rfl, fun i x hx => by simp at hx, by simp, fun z hz => by simp at hz⟩
  · cases h0
    have hle : len ≤ zs.length := by rw [hz]; split <;> omega
    refine ⟨some a, cap, zs.take len, by simp [hle], fun i x hx => ?_, by simp; simp [maxLen] at hm; omega, fun z hz => hwf z (List.mem_of_mem_take hz)⟩
    have hi : i < len := by have := (List.getElem?_eq_some_iff.1 hx).1; simp at this; omega
    have h1 := hcell i (by omega)
    obtain ⟨b, o, spot⟩ := a
    have hs : spot = none := by have := World.cell?_spot (hcell 0 (by omega)); simpa [Addr.add] using this
    subst hs
    refine ⟨b, o, rfl, ?_⟩
    rw [add_plain] at h1
    rw [h1]
    simp [List.getElem?_take, hi] at hx
    simp [hx]

/-- The texts T lie, one behind the other, from the address a on. -/
def TextsAt (w : World) (a : Option Addr) (T : List ByteArray) : Prop :=
  ∀ i x, T[i]? = some x → ∃ b o, a = some ⟨b, o, none⟩ ∧ w.cell? ⟨b, o + i, none⟩ = some (.string x)

theorem TextsAt.below {w w' : World} {a : Option Addr} {T : List ByteArray} (h : TextsAt w a T) {B : Nat} (hb : Below B w w') (hB : w.heap.size ≤ B) : TextsAt w' a T := by
  intro i x hx
  obtain ⟨b, o, ha, h0⟩ := h i x hx
  exact ⟨b, o, ha, (hb.cell (p := ⟨b, o + i, none⟩) (Nat.lt_of_lt_of_le (World.block_lt_of_cell? _ _ h0) hB)).trans h0⟩

theorem open_textsAt {t e : TypeId} {fuel : Nat} {v : Value} {x : DataW H × List MemPlace} (ht : P.underlying t = some (.slice e)) (he : P.underlying e = some .string) (hc : P.cellsOf e = 1)
    (h : DataW.trod enc P w base spare held fuel t [v] = some x) :
    ∃ (a : Option Addr) (c : Nat) (T : List ByteArray), v = .slice a T.length c ∧ TextsAt w a T ∧ T.length ≤ 9223372036854775807 ∧ ∀ s ∈ T, s.size ≤ 9223372036854775807 := by
  rcases open_strings ht he hc h with ⟨h0, _⟩ | ⟨a, len, cap, ss, h0, hb, hl, hm, hz, _, hcell, hsz⟩
  · cases h0
    exact ⟨none, 0, [], rfl, fun i x hx => by simp at hx, by simp, fun z hz => by simp at hz⟩
  · cases h0
    have hle : len ≤ ss.length := by rw [hz]; split <;> omega
    refine ⟨some a, cap, ss.take len, by simp [hle], fun i x hx => ?_, by simp; simp [maxLen] at hm; omega, fun z hz => by have := hsz z (List.mem_of_mem_take hz); simpa [maxLen] using this⟩
    have hi : i < len := by have := (List.getElem?_eq_some_iff.1 hx).1; simp at this; omega
    have h1 := hcell i (by omega)
    obtain ⟨b, o, spot⟩ := a
    have hs : spot = none := by have := World.cell?_spot (hcell 0 (by omega)); simpa [Addr.add] using this
    subst hs
    refine ⟨b, o, rfl, ?_⟩
    rw [add_plain] at h1
    rw [h1]
    simp [List.getElem?_take, hi] at hx
    simp [hx]

theorem open_intsArg {t e : TypeId} {v : Value} {d : DataW H} {p : List MemPlace} (ht : P.underlying t = some (.slice e)) (he : P.underlying e = some (.int .i64)) (hc : P.cellsOf e = 1)
    (hv : Value.okWide P w .any b0 t v) (h : DataW.Trod enc P w base spare held t v d p) :
    ∃ (a : Option Addr) (c : Nat) (L : List Int), v = .slice a L.length c ∧ IntsAt w a L ∧ L.length ≤ 9223372036854775807 := by
  obtain ⟨a, len, cap, rfl⟩ := okWide_slice ht hv
  obtain ⟨fuel, hf⟩ := h
  obtain ⟨a', c, L, h1, h2, h3, _⟩ := open_intsAt ht he hc hf
  exact ⟨a', c, L, h1, h2, h3⟩

theorem open_textsArg {t e : TypeId} {v : Value} {d : DataW H} {p : List MemPlace} (ht : P.underlying t = some (.slice e)) (he : P.underlying e = some .string) (hc : P.cellsOf e = 1)
    (hv : Value.okWide P w .any b0 t v) (h : DataW.Trod enc P w base spare held t v d p) :
    ∃ (a : Option Addr) (c : Nat) (T : List ByteArray), v = .slice a T.length c ∧ TextsAt w a T ∧ T.length ≤ 9223372036854775807 ∧ ∀ s ∈ T, s.size ≤ 9223372036854775807 := by
  obtain ⟨a, len, cap, rfl⟩ := okWide_slice ht hv
  obtain ⟨fuel, hf⟩ := h
  exact open_textsAt ht he hc hf
end
end Go.Proofs.YtjgcjeaplckbbaaGreatDoor

/- The program's answer whether a number is a used page's. -/
namespace Go.Proofs.YtjgcjeaplckbbaaGreatDoor
open Go.RowKit Go.Shelf
set_option linter.unusedVariables false
set_option linter.unusedSimpArgs false
attribute [local go_sem] Oper.semAt_some

def HasI (w : World) (s : Int) (pre : List (Int × Pg)) (W : World) : Prop :=
  W.heap[w.heap.size + 1]? = some (.cells #[Value.int .i64 s] 2 (0, 0)) ∧ W.heap[w.heap.size + 1 + 1]? = some (.cells #[Value.bool false] 4 (0, 0)) ∧ s ∉ usedSeqs pre ∧ w.heap.size + 1 + 1 + 1 < W.heap.size
def HasX (w : World) (s : Int) (c : Code) (pre : List (Int × Pg)) (W : World) : Prop :=
  c = .ret ∧ s ∈ usedSeqs pre ∧ W.heap[w.heap.size + 1 + 1]? = some (.cells #[Value.bool true] 4 (0, 0))
theorem HasI.own (w : World) (s : Int) : Own (HasI w s) := fun p W W' row ⟨h1, h2, h3, h4⟩ hg hr => ⟨blk_kept h1 hg hr, blk_kept h2 hg hr, h3, Nat.lt_of_lt_of_le h4 hg.size⟩
theorem HasX.own (w : World) (s : Int) (c : Code) : Own (HasX w s c) := fun p W W' row ⟨h1, h2, h3⟩ hg hr => ⟨h1, h2, blk_kept h3 hg hr⟩

theorem heap3 (w : World) (o1 o2 o3 : Obj) :
    (((w.alloc o1).alloc o2).alloc o3).heap[w.heap.size]? = some o1 ∧ (((w.alloc o1).alloc o2).alloc o3).heap[w.heap.size + 1]? = some o2 ∧ (((w.alloc o1).alloc o2).alloc o3).heap[w.heap.size + 1 + 1]? = some o3 := by
  have e : (((w.alloc o1).alloc o2).alloc o3).heap = ((w.heap.push o1).push o2).push o3 := rfl
  rw [e]
  simp only [Array.getElem?_push, Array.size_push]
  refine ⟨?_, ?_, ?_⟩
  · rw [if_neg (by omega), if_neg (by omega), if_pos trivial]
  · rw [if_neg (by omega), if_pos trivial]
  · rw [if_pos trivial]

set_option maxRecDepth 100000 in
set_option maxHeartbeats 1000000 in
theorem hasSeq_any (m : CC) (c : Nat) (hm : m.count = c) (hc : c ≤ 12) (s : Int) (w : World) :
    Calls Tryz.prog 259 #[.agg (ccA m), .int .i64 s] w fun e w' => RetIff (s ∈ usedSeqs (usedAll m c)) e ∧ Below w.heap.size w w' := by
  refine (callsIn_wide (n := 8)).1 ?_
  refine callsIn_of_wp_marks Tryz.func259 rfl trivial ?_ rfl
  simp only [Tryz.ntmps259, List.size_toArray, List.length_cons, List.length_nil, Nat.reduceAdd, Nat.reduceSub, Array.replicate_succ, Array.replicate_zero, List.push_toArray, List.append_toArray, List.nil_append, List.cons_append]
  gi_wp2_with (first | (refine wpListIn_load_mid rfl 128 _ rfl w.heap.size 0 rfl (ccA m) 205 (ccA_size m) (fun j hj => by rw [Nat.zero_add]; exact cell_of_row _ _ _ _ _ _ (heap3 w _ _ _).1) _ Tryz.underlying128 rfl sizeCC' ?_) | (refine ⟨trivial, ?_⟩; gi_at_call 194; refine (usedPages_in Fence.wide _ trivial rfl m _).mono ?_; rintro e w' ⟨rfl, rfl⟩))
  obtain ⟨W4, hW4⟩ : ∃ W4, W4 = ((w.alloc (.cells (ccA m) 128)).alloc (.cells #[.int .i64 s] 2)).alloc (.cells #[.bool false] 4) := ⟨_, rfl⟩
  have h4 := heap3 w (.cells (ccA m) 128) (.cells #[.int .i64 s] 2) (.cells #[.bool false] 4)
  have hs4 : W4.heap.size = w.heap.size + 1 + 1 + 1 := by rw [hW4]; simp
  have hB4 : Below w.heap.size w W4 := by
    rw [hW4]
    exact (((Below.refl _ w).alloc (Nat.le_refl _) _).alloc (by simp) _).alloc (by simp; omega) _
  rw [← hW4] at h4 ⊢
  clear hW4
  obtain ⟨_, h41, h42⟩ := h4
  have hbel : Below w.heap.size w (W4.alloc (.cells (ccA m) 128)) := hB4.alloc hB4.size _
  have hbox : ∀ i, (W4.alloc (.cells (ccA m) 128)).cell? ⟨w.heap.size + 1 + 1 + 1, i, none⟩ = (ccA m)[i]? := fun i => by rw [← hs4]; simp
  refine wpIn_rangeFunc_ownH rfl (by omega) (gf := 254) (lb := #[.pointer (some ⟨w.heap.size + 1 + 1 + 1, 0, none⟩)]) rfl trivial (enters_of Tryz.func254 (by kernel_rfl) rfl)
    (used_stops Fence.wide _ trivial rfl (by omega) (w.heap.size + 1 + 1 + 1) c m hm hc _ (by simp; omega) hbox) KeepB.trans (keepB_b (by simp; omega)) (Below.refl _ _) (fun _ => rfl)
    (fun pre W => HasI w s pre W ∧ Below w.heap.size w W) (fun c pre W => HasX w s c pre W ∧ Below w.heap.size w W)
    (OwnFrom.and (Own.from (HasI.own w s) _) (ownFrom_below (Nat.le_refl _) (by simp; omega)))
    (fun c => OwnFrom.and (Own.from (HasX.own w s c) _) (ownFrom_below (Nat.le_refl _) (by simp; omega)))
    ⟨⟨by rw [Below.heap_alloc _ _ _ (by rw [hs4]; omega)]; exact h41, by rw [Below.heap_alloc _ _ _ (by rw [hs4]; omega)]; exact h42, by simp [usedSeqs], by simp; omega⟩, hbel⟩
    (fun x a' W => ∃ Bp, w.heap.size + 1 + 1 + 1 < Bp ∧ W.heap[Bp]? = some (.cells #[Value.bool x.2.used, Value.int .i64 x.2.log, Value.int .i64 x.2.seq, Value.string x.2.data] 122 (0, 0)) ∧
      a' = { tmps := #[.agg (ccA m), .int .i64 s, .pointer (some ⟨w.heap.size, 0, none⟩), .pointer (some ⟨w.heap.size + 1, 0, none⟩), .pointer (some ⟨w.heap.size + 1 + 1, 0, none⟩), undef, .pointer (some ⟨Bp, 0, none⟩), .agg (ccA m), .func (.func 254) #[] #[.pointer (some ⟨w.heap.size + 1 + 1 + 1, 0, none⟩)], .int .i64 x.1, .agg #[Value.bool x.2.used, Value.int .i64 x.2.log, Value.int .i64 x.2.seq, Value.string x.2.data], undef, undef, undef, undef], defers := [] })
    (fun x a' => Own.from (fun _ W W' row ⟨Bp, h1, h2, h3⟩ hg hr => ⟨Bp, h1, blk_kept h2 hg hr, h3⟩) _) ?assign ?body ?done ?stop
  case assign =>
    rintro l pre x W K ⟨hi, hb⟩ hK
    obtain ⟨xi, xp⟩ := x
    simp only [encU]
    gi_wp2
    have hWs : w.heap.size + 1 + 1 + 1 < W.heap.size := hi.2.2.2
    exact hK _ _ ((KeepsOthers.alloc _ _).from _) (KeepB.alloc _ _ hWs) ⟨HasI.own w s pre W _ none hi (World.grownBy_alloc W _ none) (fun r e => by cases e), hb.alloc hb.size _⟩ ⟨W.heap.size, hWs, World.alloc_heap_new _ _, rfl⟩
  case body =>
    rintro l pre ⟨xi, xp⟩ a' W hl hlr ⟨⟨hA1, hA2, hnot, hWs⟩, hb⟩ ⟨Bp, hBp, hpb, rfl⟩ hlen
    have hcS := cell_of_row _ _ 2 _ _ _ hpb
    have hcQ := cell_of_row _ _ 0 _ _ _ hA1
    have hcF := cell_of_row _ _ 0 _ _ _ hA2
    have hfF := frozen_of_row _ _ 0 _ _ hA2
    have HN := hide hnot
    have HP := hide hpb
    clear hnot hpb
    simp only [] at hcS
    by_cases hin : xp.seq = s
    · have hbe : (xp.seq == s) = true := by simpa using hin
      gi_wp2
      refine ⟨((KeepsOthers.setCell _ _ _).from _), ⟨rfl, ?_, ?_⟩, ?_⟩
      · rw [usedSeqs_snoc, hin]
        simp
      · exact blk_setCell_same 0 (.bool true) hA2
      · exact hb.setCell (p := ⟨w.heap.size + 1 + 1, 0, none⟩) (by simp; omega) _
    · have hbe : (xp.seq == s) = false := by simpa using hin
      gi_wp2
      refine ⟨(KeepsOthers.refl _).from _, KeepB.refl _ _, ⟨hA1, hA2, ?_, hWs⟩, hb⟩
      rw [usedSeqs_snoc]
      intro hc
      rcases List.mem_append.1 hc with h1 | h1
      · exact unhide HN h1
      · simp at h1
        exact hin h1.symm
  case done =>
    rintro D ys W hD rfl ⟨⟨hA1, hA2, hnot, hWs⟩, hb⟩ hK
    have hcF := cell_of_row _ _ 0 _ _ _ hA2
    have hfF := frozen_of_row _ _ 0 _ _ hA2
    have HA := hide hnot
    clear hnot
    gi_wp2
    have hK' := (KeepsOthers.setCell W ⟨w.heap.size + 1 + 1, 0, none⟩ (.bool false)).same D _ hK rfl
    refine ⟨by simp, .inl ⟨_, _, rfl, run_takeDeferred hK', ?_⟩⟩
    have hc5 := cell_kept (World.cell?_setCell_same' W ⟨w.heap.size + 1 + 1, 0, none⟩ (.bool false) (by rw [hcF]; rfl)) (grownBy_putObj' _ D (.deferred none)) (fun r e => by cases e; exact ⟨_, hK', rfl⟩)
    refine ⟨.bool false, ?_, RetIff.no (unhide HA), (hb.setCell (p := ⟨w.heap.size + 1 + 1, 0, none⟩) (by simp; omega) _).trans (belowK_b (w := w) (Nat.le_refl _) _ D _ _ (by simp at hD; omega) hK' rfl rfl)⟩
    simp [results, Tryz.f259, go_sem, hc5]
  case stop =>
    rintro D c' pre W hD hpre ⟨⟨rfl, hin, hA2⟩, hb⟩ hK
    have hcF := cell_of_row _ _ 0 _ _ _ hA2
    have HA := hide hin
    clear hin
    gi_wp2
    refine ⟨by simp, .inl ⟨_, _, rfl, run_takeDeferred hK, ?_⟩⟩
    have hc5 := cell_kept hcF (grownBy_putObj' _ D (.deferred none)) (fun r e => by cases e; exact ⟨_, hK, rfl⟩)
    refine ⟨.bool true, ?_, RetIff.yes ?_, hb.trans (belowK_b (w := w) (Nat.le_refl _) W D _ _ (by simp at hD; omega) hK rfl rfl)⟩
    · simp [results, Tryz.f259, go_sem, hc5]
    · obtain ⟨t, ht⟩ := hpre
      rw [← ht]
      have := unhide HA
      simp [usedSeqs] at this ⊢
      exact .inl this
end Go.Proofs.YtjgcjeaplckbbaaGreatDoor

/- Members: the laws' own copy, comparison and size of them; an argument that is a member, opened. -/
namespace Go.Proofs.YtjgcjeaplckbbaaGreatDoor
open Go.RowKit
set_option linter.unusedVariables false
set_option linter.unusedSimpArgs false

theorem toChip_own2 {n : Nat} (a : Option Addr) (c : Nat) (bs : List Bk) (hl : bs.length = n) (w : World) (h : BlocksAt w a bs) (hn : Lens 1048576 bs) :
    Calls Tryz.prog 209 #[.agg #[.slice a n c]] w fun e w' => ∃ g H, e = .returned (.agg #[.slice (some ⟨g, 0, none⟩) n n]) ∧ w.heap.size ≤ g ∧ OwnBlocks w' 220 122 g H n bs ∧ Below w.heap.size w w' := by
  subst hl; exact toChip_any a c bs w h hn

set_option maxRecDepth 100000 in
set_option maxHeartbeats 1000000 in
theorem toFtl_any (a : Option Addr) (c : Nat) (bs : List Bk) (n : Nat) (hl : bs.length = n) (ma : Option Addr) (mc : Nat) (L : List Int) (mn : Nat) (hL : L.length = mn) (seq o : Int) (w : World) (h : BlocksAt w a bs) (hn : Lens 1048576 bs) (hI : IntsAt w ma L) (hmn : mn ≤ 1048576) :
    Calls Tryz.prog 158 #[.agg #[.slice a n c, .slice ma mn mc, .int .i64 seq, .int .i64 o]] w fun e w' => ∃ g H m, e = .returned (.agg #[.slice (some ⟨g, 0, none⟩) n n, .slice (some ⟨m, 0, none⟩) mn mn, .int .i64 seq, .int .i64 o]) ∧ w.heap.size ≤ g ∧ g < m ∧ (∀ i, i < n → H i < m) ∧
      OwnBlocks w' 220 122 g H n bs ∧ RowInts w' 2 m mn L ∧ Below w.heap.size w w' := by
  have hb0 : ∀ o1 o2 o3, Below w.heap.size w (((w.alloc o1).alloc o2).alloc o3) := fun o1 o2 o3 => (((Below.refl _ w).alloc (Nat.le_refl _) _).alloc (by simp) _).alloc (by simp; omega) _
  have HL := hide hl
  have HLL := hide hL
  clear hl hL
  go_enter Tryz.func158, Tryz.ntmps158
  go_wp2_with fail
  refine (toChip_own2 a c bs (unhide HL) _ (h.below (hb0 _ _ _) (Nat.le_refl _)) hn).mono ?_
  rintro e w1 ⟨g, H, rfl, hg, hO, hB1⟩
  have hs1 := hB1.size
  simp at hs1 hg
  obtain ⟨r0, r1, r2⟩ := heap3 w (.cells #[.slice a n c, .slice ma mn mc, .int .i64 seq, .int .i64 o] 226) (.cells #[.slice none 0 0, .slice none 0 0, .int .i64 0, .int .i64 0] 53) (.cells #[.slice none 0 0, .slice none 0 0, .int .i64 0, .int .i64 0] 53)
  have r0' := (hB1.block _ (by simp; omega)).trans r0
  have r1' := (hB1.block _ (by simp)).trans r1
  have r2' := (hB1.block _ (by simp)).trans r2
  have hm1 := cell_of_row _ _ 1 _ _ _ r0'
  have hz0 := cell_of_row _ _ 0 _ _ _ r2'
  have hzf := frozen_of_row _ _ 0 _ _ r2'
  simp at hm1 hz0
  have hW1 : Below w.heap.size w w1 := (hb0 _ _ _).trans (hB1.mono (by simp; omega))
  have hlt : ∀ i, i < n → H i < w1.heap.size := fun i hi => hO.lt (by rw [unhide HL]; exact hi)
  have hglt : g < w1.heap.size := hO.row.lt
  have HO := hide hO
  have R0 := hide r0'
  have R1 := hide r1'
  have R2 := hide r2'
  have HH := hide h
  have HI := hide hI
  have HLT := hide hlt
  clear h hI hO hB1 hb0 hlt r0 r1 r2 r0' r1' r2'
  go_wp2_with fail
  have hW2 : ∀ v, Below w.heap.size w (w1.setCell ⟨w.heap.size + 1 + 1, 0, none⟩ v) := fun v => hW1.setCell (by show w.heap.size ≤ w.heap.size + 1 + 1; omega) v
  refine (toInt64S_any ma mc L mn (unhide HLL) _ ((unhide HI).below (hW2 _) (Nat.le_refl _)) hmn).mono ?_
  rintro e w3 ⟨rfl, hR, hB3⟩
  have hs3 := hB3.size
  simp at hs3 hR
  have r0 := (hB3.block w.heap.size (by simp; omega)).trans ((Below.heap_setCell _ _ _ _ (by show w.heap.size ≠ w.heap.size + 1 + 1; omega)).trans (unhide R0))
  have r1 := (hB3.block (w.heap.size + 1) (by simp; omega)).trans ((Below.heap_setCell _ _ _ _ (by simp)).trans (unhide R1))
  have r2 := (hB3.block (w.heap.size + 1 + 1) (by simp; omega)).trans (blk_setCell_same 0 (.slice (some ⟨g, 0, none⟩) n n) (unhide R2))
  simp at r2
  have p2 := cell_of_row _ _ 2 _ _ _ r0
  have p3 := cell_of_row _ _ 3 _ _ _ r0
  have q0 := cell_of_row _ _ 0 _ _ _ r1
  have q1 := cell_of_row _ _ 1 _ _ _ r1
  have q2 := cell_of_row _ _ 2 _ _ _ r1
  have q3 := cell_of_row _ _ 3 _ _ _ r1
  have f0 := frozen_of_row _ _ 0 _ _ r1
  have f1 := frozen_of_row _ _ 1 _ _ r1
  have f2 := frozen_of_row _ _ 2 _ _ r1
  have f3 := frozen_of_row _ _ 3 _ _ r1
  have s0 := cell_of_row _ _ 0 _ _ _ r2
  have s1 := cell_of_row _ _ 1 _ _ _ r2
  have s2 := cell_of_row _ _ 2 _ _ _ r2
  have s3 := cell_of_row _ _ 3 _ _ _ r2
  have t1 := frozen_of_row _ _ 1 _ _ r2
  have t2 := frozen_of_row _ _ 2 _ _ r2
  have t3 := frozen_of_row _ _ 3 _ _ r2
  simp at p2 p3 q0 q1 q2 q3 s0 s1 s2 s3
  clear r0 r1 r2 hz0 hzf hm1
  have HO3 : Hid (OwnBlocks w3 220 122 g H n bs) := ((unhide HO).setOther (a := ⟨w.heap.size + 1 + 1, 0, none⟩) (by show w.heap.size + 1 + 1 < g; omega) _).below hB3 (by simp)
  have hW3 : Below w.heap.size w w3 := (hW2 _).trans (hB3.mono (hW2 _).size)
  have HR := hide hR
  clear hR hB3 HO hW2 HI HH R0 R1 R2
  go_wp2
  refine bodyPost_ret (v := .agg #[.slice (some ⟨g, 0, none⟩) n n, .slice (some ⟨w1.heap.size, 0, none⟩) mn mn, .int .i64 seq, .int .i64 o]) (by simp [results, Tryz.results158, go_sem, q0, q1, q2, q3]) rfl ⟨g, H, w1.heap.size, rfl, by omega, hglt, unhide HLT, ?_, ?_, ?_⟩
  · exact (((((((unhide HO3).setOther (by show w.heap.size + 1 + 1 < g; omega) _).setOther (by show w.heap.size + 1 + 1 < g; omega) _).setOther (by show w.heap.size + 1 + 1 < g; omega) _).setOther (by show w.heap.size + 1 < g; omega) _).setOther (by show w.heap.size + 1 < g; omega) _).setOther (by show w.heap.size + 1 < g; omega) _).setOther (by show w.heap.size + 1 < g; omega) _
  · exact ((((((World.rowIs.setOther (unhide HR) (by show w1.heap.size ≠ w.heap.size + 1 + 1; omega) _).setOther (by show w1.heap.size ≠ w.heap.size + 1 + 1; omega) _).setOther (by show w1.heap.size ≠ w.heap.size + 1 + 1; omega) _).setOther (by show w1.heap.size ≠ w.heap.size + 1; omega) _).setOther (by show w1.heap.size ≠ w.heap.size + 1; omega) _).setOther (by show w1.heap.size ≠ w.heap.size + 1; omega) _).setOther (by show w1.heap.size ≠ w.heap.size + 1; omega) _
  · exact ((((((hW3.setCell (by show w.heap.size ≤ w.heap.size + 1 + 1; omega) _).setCell (by show w.heap.size ≤ w.heap.size + 1 + 1; omega) _).setCell (by show w.heap.size ≤ w.heap.size + 1 + 1; omega) _).setCell (by show w.heap.size ≤ w.heap.size + 1; omega) _).setCell (by show w.heap.size ≤ w.heap.size + 1; omega) _).setCell (by show w.heap.size ≤ w.heap.size + 1; omega) _).setCell (by show w.heap.size ≤ w.heap.size + 1; omega) _

set_option maxRecDepth 100000 in
set_option maxHeartbeats 1000000 in
theorem eqFtl_same (a1 a2 : Option Addr) (c1 c2 : Nat) (bs : List Bk) (n : Nat) (hl : bs.length = n) (m1 m2 : Option Addr) (d1 d2 : Nat) (L : List Int) (mn : Nat) (hL : L.length = mn) (seq o : Int) (w : World) (h1 : BlocksAt w a1 bs) (h2 : BlocksAt w a2 bs) (hn : Lens 1048576 bs) (i1 : IntsAt w m1 L) (i2 : IntsAt w m2 L) (hmn : mn ≤ 1048576) :
    Calls Tryz.prog 160 #[.agg #[.slice a1 n c1, .slice m1 mn d1, .int .i64 seq, .int .i64 o], .agg #[.slice a2 n c2, .slice m2 mn d2, .int .i64 seq, .int .i64 o]] w fun e w' => e = .returned (.bool true) ∧ Below w.heap.size w w' := by
  have hb0 : ∀ o1 o2, Below w.heap.size w ((w.alloc o1).alloc o2) := fun o1 o2 => ((Below.refl _ w).alloc (Nat.le_refl _) _).alloc (by simp) _
  have hne1 : (seq != seq) = false := by simp
  have hne2 : (o != o) = false := by simp
  go_enter Tryz.func160, Tryz.ntmps160
  go_wp2_with fail
  refine (eqChip_n a1 a2 c1 c2 bs hl _ (h1.below (hb0 _ _) (Nat.le_refl _)) (h2.below (hb0 _ _) (Nat.le_refl _)) hn).mono ?_
  rintro e w1 ⟨rfl, hB1⟩
  have hs1 := hB1.size
  simp at hs1
  have hx : ∀ i, w1.cell? ⟨w.heap.size, i, none⟩ = (#[Value.slice a1 n c1, .slice m1 mn d1, .int .i64 seq, .int .i64 o])[i]? := fun i => by
    rw [hB1.cell (p := ⟨w.heap.size, i, none⟩) (by simp; omega), cell_alloc_lt _ _ _ _ (by simp)]
    simp
  have hy : ∀ i, w1.cell? ⟨w.heap.size + 1, i, none⟩ = (#[Value.slice a2 n c2, .slice m2 mn d2, .int .i64 seq, .int .i64 o])[i]? := fun i => by
    rw [hB1.cell (p := ⟨w.heap.size + 1, i, none⟩) (by simp), cell_of_row _ _ i _ _ _ (heap_alloc2_new _ _ _)]
  have hW1 : Below w.heap.size w w1 := (hb0 _ _).trans (hB1.mono (by simp; omega))
  have x1 := hx 1
  have x2 := hx 2
  have x3 := hx 3
  have y1 := hy 1
  have y2 := hy 2
  have y3 := hy 3
  simp at x1 x2 x3 y1 y2 y3
  have I1 := hide (i1.below hW1 (Nat.le_refl _))
  have I2 := hide (i2.below hW1 (Nat.le_refl _))
  have HL := hide hL
  clear h1 h2 i1 i2 hx hy hB1 hb0 hn hl hL
  go_wp2_with fail
  refine (eqInt64S_same m1 m2 d1 d2 L mn (unhide HL) _ (unhide I1) (unhide I2) hmn).mono ?_
  rintro e w2 ⟨rfl, hB2⟩
  have hs2 := hB2.size
  have x2' := (hB2.cell (p := ⟨w.heap.size, 2, none⟩) (by show w.heap.size < _; omega)).trans x2
  have x3' := (hB2.cell (p := ⟨w.heap.size, 3, none⟩) (by show w.heap.size < _; omega)).trans x3
  have y2' := (hB2.cell (p := ⟨w.heap.size + 1, 2, none⟩) (by show w.heap.size + 1 < _; omega)).trans y2
  have y3' := (hB2.cell (p := ⟨w.heap.size + 1, 3, none⟩) (by show w.heap.size + 1 < _; omega)).trans y3
  have hW2 := hW1.trans (hB2.mono hW1.size)
  clear x1 x2 x3 y1 y2 y3 hB2 hW1 I1 I2
  go_wp2
  go_ret
  exact ⟨rfl, hW2⟩

set_option maxHeartbeats 1000000 in
theorem szInt64S_any (a : Option Addr) (c n : Nat) (left : Int) (w : World) (hn : n ≤ 9223372036854775807) (h0 : 0 ≤ left) (h1 : left ≤ 1048576) :
    Calls Tryz.prog 86 #[.slice a n c, .int .i64 left] w fun e w' => ∃ r : Int, e = .returned (.int .i64 r) ∧ r ≤ 1048576 ∧ (0 ≤ r → n ≤ 1048576) ∧ w' = w := by
  by_cases hneg : left - (n : Int) < 0
  · go_enter Tryz.func86, Tryz.ntmps86
    go_wp2
    go_ret
    exact ⟨_, rfl, by omega, by omega, rfl⟩
  · go_enter Tryz.func86, Tryz.ntmps86
    go_wp2
    go_ret
    exact ⟨_, rfl, by omega, by omega, rfl⟩

set_option maxRecDepth 100000 in
set_option maxHeartbeats 1000000 in
theorem szFtl_any (a : Option Addr) (c : Nat) (bs : List Bk) (n : Nat) (hl : bs.length = n) (ma : Option Addr) (mc mn : Nat) (seq o : Int) (w : World) (h : BlocksAt w a bs) (hn : Lens 9223372036854775807 bs) (ht : Texts bs) (hmn : mn ≤ 9223372036854775807) :
    Calls Tryz.prog 155 #[.agg #[.slice a n c, .slice ma mn mc, .int .i64 seq, .int .i64 o], .int .i64 1048576] w fun e w' => ∃ r : Int, e = .returned (.int .i64 r) ∧ r ≤ 1048576 ∧ (0 ≤ r → Lens 1048576 bs ∧ mn ≤ 1048576) ∧ Below w.heap.size w w' := by
  have hb0 : ∀ o1, Below w.heap.size w (w.alloc o1) := fun o1 => (Below.refl _ w).alloc (Nat.le_refl _) _
  go_enter Tryz.func155, Tryz.ntmps155
  go_wp2_with fail
  refine (szChip_n a c bs hl _ (h.below (hb0 _) (Nat.le_refl _)) hn ht).mono ?_
  rintro e w1 ⟨r, rfl, hr1, hr2, hB1⟩
  have hs1 := hB1.size
  simp at hs1
  have hx : w1.cell? ⟨w.heap.size, 1, none⟩ = some (.slice ma mn mc) := by
    rw [hB1.cell (p := ⟨w.heap.size, 1, none⟩) (by simp)]
    simp
  have hW1 : Below w.heap.size w w1 := (hb0 _).trans (hB1.mono (by simp))
  have HR := hide hr2
  clear h hr2 hb0 hB1 hn ht hl
  by_cases hneg : r < 0
  · go_wp2
    go_ret
    exact ⟨_, rfl, by omega, by omega, hW1⟩
  · go_wp2_with fail
    refine (szInt64S_any ma mc mn r _ hmn (by omega) hr1).mono ?_
    rintro e w2 ⟨r2, rfl, h21, h22, rfl⟩
    have HR2 := hide h22
    clear h22
    by_cases hneg2 : r2 < 0
    · go_wp2
      go_ret
      exact ⟨_, rfl, by omega, by omega, hW1⟩
    · go_wp2
      go_ret
      exact ⟨_, rfl, by omega, fun _ => ⟨unhide HR (by omega), unhide HR2 (by omega)⟩, hW1⟩

open Go.ChangeShapes Go.WideShapes Go.Deep in
set_option maxRecDepth 100000 in
/-- An argument of the type Ftl, opened. -/
theorem open_ftl {H : Type} {enc : TypeId × Value → H} {w : World} {base b0 : Nat} {spare : Nat → Bool} {held : Bool} {v : Value} {d : DataW H} {p : List MemPlace}
    (hv : Value.okWide Tryz.prog w .any b0 226 v) (h : DataW.Trod enc Tryz.prog w base spare held 226 v d p) :
    ∃ (a : Option Addr) (c : Nat) (bs : List Bk) (ma : Option Addr) (mc : Nat) (L : List Int) (seq o : Int), v = .agg #[.slice a bs.length c, .slice ma L.length mc, .int .i64 seq, .int .i64 o] ∧ BlocksAt w a bs ∧ Lens 9223372036854775807 bs ∧ Texts bs ∧ IntsAt w ma L ∧ L.length ≤ 9223372036854775807 := by
  obtain ⟨cs, rfl, hsz⟩ := okWide_struct Tryz.underlying226 hv
  have h1 : cs.size = 4 := hsz.trans (by kernel_rfl)
  obtain ⟨l⟩ := cs
  match l, h1 with
  | [v0, v1, v2, v3], _ =>
    obtain ⟨fuel, hf⟩ := h
    obtain ⟨xs, k, hk, hxy, _, hxl, hf⟩ := DataW.trod_struct Tryz.underlying226 hf
    have c0 : Tryz.prog.cellsOf 224 = 1 := by kernel_rfl
    have c1 : Tryz.prog.cellsOf 24 = 1 := by kernel_rfl
    have c2 : Tryz.prog.cellsOf 2 = 1 := by kernel_rfl
    have c3 : Tryz.prog.cellsOf 222 = 1 := by kernel_rfl
    match xs, hxl with
    | [y0, y1, y2, y3], _ =>
      have g0 := hf 0 _ rfl
      have g1 := hf 1 _ rfl
      have g2 := hf 2 _ rfl
      have g3 := hf 3 _ rfl
      simp [Value.cells, c0, c1, c2] at g0 g1 g2 g3
      obtain ⟨z0, m, _, _, hz⟩ := trod_struct1 Tryz.underlying224 g0
      simp [c3] at hz
      obtain ⟨a, c, bs, rfl, hbs, hl, ht⟩ := open_blocks (tp := 359) Tryz.underlying222 Tryz.underlying361 (by kernel_rfl) (by kernel_rfl) Tryz.underlying2 Tryz.underlying359 Tryz.underlying372 (by kernel_rfl) (by kernel_rfl)
        Tryz.underlying4 Tryz.underlying2 Tryz.underlying2 Tryz.underlying9 hz
      obtain ⟨ma, mc, L, rfl, hI, hLl, _⟩ := open_intsAt Tryz.underlying24 Tryz.underlying2 c2 g1
      obtain ⟨i2, hi2, _⟩ := DataW.trod_int Tryz.underlying2 g2
      obtain ⟨i3, hi3, _⟩ := DataW.trod_int Tryz.underlying2 g3
      cases hi2
      cases hi3
      exact ⟨a, c, bs, ma, mc, L, i2, i3, rfl, hbs, hl, ht, hI, hLl⟩
end Go.Proofs.YtjgcjeaplckbbaaGreatDoor

/- A member as an answer: what it owns, its marks. -/
namespace Go.Proofs.YtjgcjeaplckbbaaGreatDoor
open Go.RowKit
set_option linter.unusedVariables false
set_option linter.unusedSimpArgs false

theorem marksI_length (k : Int) (n : Nat) : (marksI k n).length = n := by simp [marksI]

/-- An answer that is a member: its rows lie from B on and ahead of T: the chip's in [C, K), its map in none of these. -/
def FtlOwn (w : World) (B T : Nat) (a : Option Addr) (n c : Nat) (out : List Bk) (ma : Option Addr) (mn : Nat) (L : List Int) : Prop :=
  L.length = mn ∧ IntsAt w ma L ∧ MineFrom w ma mn B ∧ (∀ g, ma = some ⟨g, 0, none⟩ → g < T) ∧ ∃ C K, B ≤ C ∧ ChipOwn w C K a n c out ∧ K ≤ T ∧ ∀ g, ma = some ⟨g, 0, none⟩ → ¬ (C ≤ g ∧ g < K)
theorem FtlOwn.blocksAt {w : World} {B T : Nat} {a : Option Addr} {n c : Nat} {out : List Bk} {ma : Option Addr} {mn : Nat} {L : List Int} (h : FtlOwn w B T a n c out ma mn L) : BlocksAt w a out := by
  obtain ⟨_, _, _, _, C, K, _, h1, _⟩ := h; exact h1.blocksAt
theorem FtlOwn.length {w : World} {B T : Nat} {a : Option Addr} {n c : Nat} {out : List Bk} {ma : Option Addr} {mn : Nat} {L : List Int} (h : FtlOwn w B T a n c out ma mn L) : out.length = n ∧ L.length = mn := by
  obtain ⟨h0, _, _, _, C, K, _, h1, _⟩ := h; exact ⟨h1.1, h0⟩
theorem FtlOwn.below {w w' : World} {B T : Nat} {a : Option Addr} {n c : Nat} {out : List Bk} {ma : Option Addr} {mn : Nat} {L : List Int} (h : FtlOwn w B T a n c out ma mn L) (hb : Below w.heap.size w w') : FtlOwn w' B T a n c out ma mn L := by
  obtain ⟨h0, h1, h2, h6, C, K, h3, h4, h5⟩ := h
  exact ⟨h0, h1.below hb (Nat.le_refl _), h2.below hb, h6, C, K, h3, h4.below hb, h5⟩
theorem FtlOwn.touch {S : Nat → Prop} {w w' : World} {B T : Nat} {a : Option Addr} {n c : Nat} {out : List Bk} {ma : Option Addr} {mn : Nat} {L : List Int} (h : FtlOwn w B T a n c out ma mn L) (hT : Touch S w w') (hS : ∀ k, S k → k < B) : FtlOwn w' B T a n c out ma mn L := by
  obtain ⟨h0, h1, h2, h6, C, K, h3, h4, h5⟩ := h
  exact ⟨h0, intsAt_touch h1 (by rw [h0]; exact h2) hT hS, h2.touch hT hS, h6, C, K, h3, h4.touch hT (fun k hk => by have := hS k hk; omega), h5⟩

theorem MineFrom.touch' {S : Nat → Prop} {w w' : World} {a : Option Addr} {n B : Nat} (h : MineFrom w a n B) (hT : Touch S w w') (hS : ∀ g, a = some ⟨g, 0, none⟩ → ¬ S g) : MineFrom w' a n B := by
  rcases h with h | ⟨g, ha, h1, h2, h3⟩
  · exact .inl h
  · exact .inr ⟨g, ha, h1, Nat.lt_of_lt_of_le h2 hT.size, h3.of_block (hT.block g h2 (hS g ha))⟩


/-- What marks a member holds. -/
def FtlMarked (w : World) (a : Option Addr) (out : List Bk) (ma : Option Addr) (mn : Nat) : Prop := BlocksAt w a (markBs 1 out) ∧ IntsAt w ma (marksI (kAfter 1 out) mn)
theorem FtlMarked.below {w w' : World} {a : Option Addr} {out : List Bk} {ma : Option Addr} {mn : Nat} (h : FtlMarked w a out ma mn) (hb : Below w.heap.size w w') : FtlMarked w' a out ma mn :=
  ⟨h.1.below hb (Nat.le_refl _), h.2.below hb (Nat.le_refl _)⟩



end Go.Proofs.YtjgcjeaplckbbaaGreatDoor
