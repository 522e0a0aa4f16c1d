/- 4 texts in one. -/
import Derived.Test.YtimencianaclmaaChecked
import Derived.Test.YtimencianaclmaaG01
import Derived.WalkKit
import Derived.Outline
import Derived.Deep.RegionHeld3
import Derived.Deep.RegionLaw
import Derived.Laws.Tables
import Derived.Laws.Rows
import Derived.Laws.CopyRow

/- The laws' own copies: what was handed in, in rows that are new. -/
namespace Go.Proofs.Ytimencianaclmaa
open Go.RowKit
set_option linter.unusedVariables false

theorem toPage_any (u : Bool) (l s : Int) (d : ByteArray) (w : World) :
    Calls Try.prog 160 #[.agg #[.bool u, .int .i64 l, .int .i64 s, .string d]] w fun e w' => e = .returned (.agg #[.bool u, .int .i64 l, .int .i64 s, .string d]) ∧ Below w.heap.size w w' := by
  go_enter Try.func160, Try.ntmps160
  go_wp2
  refine bodyPost_ret (v := .agg #[.bool u, .int .i64 l, .int .i64 s, .string d]) (by simp [results, Try.results160, go_sem]) rfl ⟨rfl, ?_⟩
  repeat (first | exact Below.refl _ _ | refine Below.drew ?_ | refine Below.alloc ?_ (by simp <;> omega) _ | refine Below.setCell ?_ (by simp <;> omega) _)

theorem infoPage : (Try.prog.info? 28).map (fun i => (i.zero, i.size, i.bytes)) = some (some (.agg #[.bool false, .int .i64 0, .int .i64 0, .string ByteArray.empty]), 4, 40) := by kernel_rfl
theorem infoBlock : (Try.prog.info? 38).map (fun i => (i.zero, i.size, i.bytes)) = some (some (.agg #[.int .i64 0, .slice none 0 0]), 2, 32) := by kernel_rfl

theorem make_pages (n : Nat) (hn : n ≤ 1048576) (w : World) :
    (Instr.makeSlice 36 (.int .i64 (n : Int)) (.int .i64 (n : Int))).run Try.prog w = .ok (.slice (some ⟨w.heap.size, 0, none⟩) n n) (w.alloc (.cells (madeCells #[.bool false, .int .i64 0, .int .i64 0, .string ByteArray.empty] (n * 4)) 28)) := by
  obtain ⟨i, hi, hz⟩ := Option.map_eq_some_iff.1 infoPage
  simp only [Prod.mk.injEq] at hz
  obtain ⟨hz0, hz1, hz2⟩ := hz
  have h := run_make (P := Try.prog) w 36 28 i _ Try.underlying36 hi hz0 .i64 .i64 (n : Int) (n : Int) (by omega) (Int.le_refl _) (by rw [hz2]; omega) (by omega)
  rw [hz1] at h
  simpa [Value.cells] using h

theorem make_pages4 (w : World) : (Instr.makeSlice 36 (.int .i64 4) (.int .i64 4)).run Try.prog w = .ok (.slice (some ⟨w.heap.size, 0, none⟩) 4 4) (w.alloc (.cells (madeCells #[.bool false, .int .i64 0, .int .i64 0, .string ByteArray.empty] 16) 28)) :=
  make_pages 4 (by omega) w

theorem make_blocks (n : Nat) (hn : n ≤ 1048576) (w : World) :
    (Instr.makeSlice 24 (.int .i64 (n : Int)) (.int .i64 (n : Int))).run Try.prog w = .ok (.slice (some ⟨w.heap.size, 0, none⟩) n n) (w.alloc (.cells (madeCells #[.int .i64 0, .slice none 0 0] (n * 2)) 38)) := by
  obtain ⟨i, hi, hz⟩ := Option.map_eq_some_iff.1 infoBlock
  simp only [Prod.mk.injEq] at hz
  obtain ⟨hz0, hz1, hz2⟩ := hz
  have h := run_make (P := Try.prog) w 24 38 i _ Try.underlying24 hi hz0 .i64 .i64 (n : Int) (n : Int) (by omega) (Int.le_refl _) (by rw [hz2]; omega) (by omega)
  rw [hz1] at h
  simpa [Value.cells] using h

set_option maxHeartbeats 1000000 in
theorem toPageS_any (a : Option Addr) (c : Nat) (ps : List Pg) (w : World) (h : PagesAt w a ps) (hn : ps.length ≤ 1048576) :
    Calls Try.prog 184 #[.slice a ps.length c] w fun e w' => e = .returned (.slice (some ⟨w.heap.size, 0, none⟩) ps.length ps.length) ∧ OwnPages w' 28 w.heap.size ps.length ps ∧ Below w.heap.size w w' := by
  have hmk := make_pages ps.length hn
  go_enter Try.func184, Try.ntmps184
  go_wp2
  clear hmk
  go_loopw [4] (fun i wr => ∃ k : Nat, k ≤ ps.length ∧ i = .int .i64 k ∧ OwnPages wr 28 w.heap.size ps.length (ps.take k) ∧ Below w.heap.size w wr) (fun i _ => ps.length - (intOf i).toNat)
  case atStart => exact ⟨0, Nat.zero_le _, rfl, by simpa using OwnPages.made w _ _, (Below.refl _ _).alloc (Nat.le_refl _) _⟩
  case round =>
    obtain ⟨k, hk, rfl, hO, hB⟩ := hrel
    by_cases hlt : k < ps.length
    · obtain ⟨p, hp⟩ := getElem?_ex hlt
      obtain ⟨b1, o1, rfl, g10, g11, g12, g13⟩ := (h.below hB (Nat.le_refl _)) k p hp
      have HP := hide hp
      clear hp h
      go_wp2_with fail
      refine (toPage_any _ _ _ _ _).mono ?_
      rintro e w1 ⟨rfl, hc⟩
      clear g10 g11 g12 g13
      have hO1 : OwnPages w1 _ _ _ _ := hO.below hc (World.rowIs.lt hO)
      obtain ⟨⟨v0, c0⟩, ⟨v1, c1⟩, ⟨v2, c2⟩, ⟨v3, c3⟩⟩ := hO1.cells hlt
      have f0 := World.rowIs.frozen hO1
      clear hO
      go_wp2
      go_roundw
      case rel => exact ⟨k + 1, by omega, by go_num, hO1.put (unhide HP), ((((hB.trans (hc.mono hB.size)).setCell (Nat.le_refl _) _).setCell (Nat.le_refl _) _).setCell (Nat.le_refl _) _).setCell (Nat.le_refl _) _⟩
      case measure => simp [intOf]; omega
    · have hk' : k = ps.length := by omega
      subst hk'
      rw [List.take_length] at hO
      go_wp2
      go_ret
      exact ⟨rfl, hO, hB⟩

set_option maxHeartbeats 1000000 in
theorem toBlock_any (x : Int) (a : Option Addr) (c : Nat) (ps : List Pg) (w : World) (h : PagesAt w a ps) (hn : ps.length ≤ 1048576) :
    Calls Try.prog 159 #[.agg #[.int .i64 x, .slice a ps.length c]] w fun e w' => ∃ q, e = .returned (.agg #[.int .i64 x, .slice (some ⟨q, 0, none⟩) ps.length ps.length]) ∧ w.heap.size ≤ q ∧ OwnPages w' 28 q ps.length ps ∧ Below w.heap.size w w' := by
  go_enter Try.func159, Try.ntmps159
  go_wp2_with fail
  have hb0 : ∀ o1 o2 o3, Below w.heap.size w (((w.alloc o1).alloc o2).alloc o3) := fun o1 o2 o3 => (((Below.refl _ w).alloc (Nat.le_refl _) _).alloc (by simp) _).alloc (by simp; omega) _
  refine (toPageS_any a c ps _ (h.below (hb0 _ _ _) (Nat.le_refl _)) hn).mono ?_
  rintro e w1 ⟨rfl, hO, hc⟩
  clear h
  obtain ⟨hcc, hcf⟩ := bcell hc
  have hsz := hc.size
  simp at hsz hO
  go_wp2
  refine bodyPost_ret (v := .agg #[.int .i64 x, .slice (some ⟨w.heap.size + 1 + 1 + 1, 0, none⟩) ps.length ps.length]) (by simp [results, Try.results159, go_sem, hcc]) rfl ⟨_, rfl, by omega, ?_, ?_⟩
  · exact World.rowIs.setOther (World.rowIs.setOther (World.rowIs.setOther hO (by simp) _) (by simp <;> omega) _) (by simp <;> omega) _
  · exact ((((hb0 _ _ _).trans (hc.mono (by simp <;> omega))).setCell (by simp <;> omega) _).setCell (by simp <;> omega) _).setCell (by simp <;> omega) _

set_option maxHeartbeats 1000000 in
theorem toBlockS_any (a : Option Addr) (c : Nat) (bs : List Bk) (w : World) (h : BlocksAt w a bs) (hn : Lens 1048576 bs) :
    Calls Try.prog 111 #[.slice a bs.length c] w fun e w' => ∃ H, e = .returned (.slice (some ⟨w.heap.size, 0, none⟩) bs.length bs.length) ∧ OwnBlocks w' 38 28 w.heap.size H bs.length bs ∧ Below w.heap.size w w' := by
  have hn1 := hn.1
  have hmk := make_blocks bs.length hn.1
  go_enter Try.func111, Try.ntmps111
  go_wp2
  clear hmk
  go_loopw [4] (fun i wr => ∃ (k : Nat) (H : Nat → Nat), k ≤ bs.length ∧ i = .int .i64 k ∧ OwnBlocks wr 38 28 w.heap.size H bs.length (bs.take k) ∧ Below w.heap.size w wr) (fun i _ => bs.length - (intOf i).toNat)
  case atStart => exact ⟨0, fun _ => 0, Nat.zero_le _, rfl, by simpa using OwnBlocks.made w _ _ _ _, (Below.refl _ _).alloc (Nat.le_refl _) _⟩
  case round =>
    obtain ⟨k, H, hk, rfl, hO, hB⟩ := hrel
    by_cases hlt : k < bs.length
    · obtain ⟨p, hp⟩ := getElem?_ex hlt
      obtain ⟨b1, o1, pa, pc, rfl, g10, g11, q1⟩ := (h.below hB (Nat.le_refl _)) k p hp
      have hl := hn.at hp
      have HP := hide hp
      have hgs := hO.row.lt
      have hHs : ∀ i, i < k → H i < wr.heap.size := fun i hi => hO.lt (by simp; omega)
      have HH := hide hHs
      clear hp h hHs
      go_wp2_with fail
      refine (toBlock_any _ _ _ _ _ q1 hl).mono ?_
      rintro e w1 ⟨q, rfl, hq, hOp, hc⟩
      clear g10 g11 q1
      have hO1 : OwnBlocks w1 _ _ _ _ _ _ := hO.below hc (Nat.le_refl _)
      have c0 := hO1.row.cell (i := k * 2) (by omega)
      have c1 := hO1.row.cell (i := k * 2 + 1) (by omega)
      have f0 := hO1.row.frozen
      clear hO
      go_wp2
      go_roundw
      case rel => exact ⟨k + 1, _, by omega, by go_num, hO1.put (unhide HP) hOp (by omega) (fun i hi => Nat.lt_of_lt_of_le (unhide HH i hi) hq), ((hB.trans (hc.mono hB.size)).setCell (Nat.le_refl _) _).setCell (Nat.le_refl _) _⟩
      case measure => simp [intOf]; omega
    · have hk' : k = bs.length := by omega
      subst hk'
      rw [List.take_length] at hO
      go_wp2
      go_ret
      exact ⟨H, rfl, hO, hB⟩

set_option maxHeartbeats 1000000 in
theorem toChip_any (a : Option Addr) (c : Nat) (bs : List Bk) (w : World) (h : BlocksAt w a bs) (hn : Lens 1048576 bs) :
    Calls Try.prog 51 #[.agg #[.slice a bs.length c]] w fun e w' => ∃ g H, e = .returned (.agg #[.slice (some ⟨g, 0, none⟩) bs.length bs.length]) ∧ w.heap.size ≤ g ∧ OwnBlocks w' 38 28 g H bs.length bs ∧ Below w.heap.size w w' := by
  go_enter Try.func51, Try.ntmps51
  go_wp2_with fail
  have hb0 : ∀ o1 o2 o3, Below w.heap.size w (((w.alloc o1).alloc o2).alloc o3) := fun o1 o2 o3 => (((Below.refl _ w).alloc (Nat.le_refl _) _).alloc (by simp) _).alloc (by simp; omega) _
  refine (toBlockS_any a c bs _ (h.below (hb0 _ _ _) (Nat.le_refl _)) hn).mono ?_
  rintro e w1 ⟨H, rfl, hO, hc⟩
  clear h
  obtain ⟨hcc, hcf⟩ := bcell hc
  have hsz := hc.size
  simp at hsz hO
  go_wp2
  refine bodyPost_ret (v := .agg #[.slice (some ⟨w.heap.size + 1 + 1 + 1, 0, none⟩) bs.length bs.length]) (by simp [results, Try.results51, go_sem, hcc]) rfl ⟨_, H, rfl, by omega, ?_, ?_⟩
  · exact (hO.setOther (by simp) _).setOther (by simp) _
  · exact (((hb0 _ _ _).trans (hc.mono (by simp <;> omega))).setCell (by simp <;> omega) _).setCell (by simp <;> omega) _
end Go.Proofs.Ytimencianaclmaa

/- New chips: the model's and the program's. -/
namespace Go.Proofs.Ytimencianaclmaa
open Go.RowKit
set_option linter.unusedVariables false
set_option linter.unusedSimpArgs false

set_option maxRecDepth 100000 in
set_option maxHeartbeats 1000000 in
theorem specChipNew_yes (n : Nat) (w : World) (h1 : 4 ≤ n) (h2 : n ≤ 12) :
    Calls Try.prog 130 #[.int .i64 n] w fun e w' => ∃ a c, e = .returned (.tuple #[.agg #[.slice a n c], .bool true]) ∧ BlocksAt w' a (List.replicate n zeroBk) ∧ Below w.heap.size w w' := by
  go_enter Try.func130, Try.ntmps130
  go_wp2_with fail
  refine (l1In_any _ _ _ _).mono ?_
  rintro e w1 ⟨rfl, rfl⟩
  have hd : decide (4 ≤ (n : Int) ∧ (n : Int) ≤ 12) = true := by simp; omega
  rw [hd]
  go_wp2
  go_loopw [5] (fun i wr => ∃ (k : Nat) (v : Value) (Q C : Nat → Nat), k ≤ n ∧ i = .int .i64 k ∧ wr.heap[w.heap.size + 1]? = some (.cells #[v] 26 (0, 0)) ∧ SpecBlocks wr 38 28 (w.heap.size + 2) v Q C (List.replicate k zeroBk) ∧ Below (w.heap.size + 1) (w.alloc (.cells #[.slice none 0 0] 26)) wr ∧ w.heap.size + 2 ≤ wr.heap.size) (fun i _ => n - (intOf i).toNat)
  case atStart =>
    refine ⟨0, .slice none 0 0, fun _ => 0, fun _ => 0, Nat.zero_le _, rfl, ?_, SpecBlocks.nil _ _ _ _ _ _, ?_, by simp⟩
    · exact heap_alloc2_new _ _ _
    · exact (Below.refl _ _).alloc (by simp) _
  case round =>
    obtain ⟨k, v, Q, C, hk, rfl, hv, hS, hB, hsz⟩ := hrel
    by_cases hlt : k < n
    · have hcv := cell_of_one hv
      have hfv := free_of_one hv
      have hvl : w.heap.size + 1 < wr.heap.size := by omega
      have hne : some (w.heap.size + 1) ≠ v.ownBlock := fun e => by have := (hS.row.lt _ e.symm).1; omega
      have hR : wr.ownsRow (w.heap.size + 2) 38 2 v k (bkCells Q C 0 (List.replicate k zeroBk)) := by have := hS.row; rwa [List.length_replicate] at this
      have HS := hide hS
      clear hS
      obtain ⟨X, hX⟩ : ∃ X, X = bkCells Q C 0 (List.replicate k zeroBk) := ⟨_, rfl⟩
      rw [← hX] at hR
      have HX := hide hX
      clear hX
      obtain ⟨i0, hi, hz0, hz1, hz2⟩ := info_parts infoBlock
      have hvl0 : w.heap.size < wr.heap.size := by omega
      have hmk := make_pages4
      go_wp2
      go_region_law
        (first | (refine step_append_lies _ rfl (.tmp 17) (.tmp 20) 24 rfl (w.heap.size + 2) 38 i0 _ 2 32 Try.underlying24 hi hz0 hz1 hz2 rfl (by decide) v k X (by simp [Act.eval]) (by exact (hR.alloc _).alloc _) ⟨wr.heap.size + 1, 0, none⟩ 1 1 [.int .i64 0, .slice (some ⟨wr.heap.size, 0, none⟩) 4 4] (by simp [Act.eval]) rfl (World.news_of_block (cs := #[.int .i64 0, .slice (some ⟨wr.heap.size, 0, none⟩) 4 4]) (t := 38) (fr := (0, 0)) (by exact heap_alloc2_new _ _ _)) (by simp [Value.oneCell']) (by omega) (by unfold maxLen; omega) (by omega) (by simp; omega) (wr.heap.size + 1 + 1) (by simp) ?_; intro g cap w1 hown hgrow hat hlt1; have hk1 : w1.cell? ⟨w.heap.size + 1, 0, none⟩ = some v := (hgrow.cell_far ⟨w.heap.size + 1, 0, none⟩ (by simp; omega) hne).trans (by simp [*, frozen_alloc_lt, cell_alloc_lt, frozen_drew, cell_drew]); have hk2 : w1.frozen? ⟨w.heap.size + 1, 0, none⟩ = false := (hgrow.frozen_far ⟨w.heap.size + 1, 0, none⟩ (by simp; omega) hne).trans (by simp [*, frozen_alloc_lt, cell_alloc_lt, frozen_drew, cell_drew])))
      all_goals go_wp2
      all_goals
        go_roundw
        case rel =>
          rw [unhide HX] at hown
          obtain ⟨Q', C', h2⟩ := newStep (unhide HS) hsz hown hgrow hat
          have hbl : w1.heap[w.heap.size + 1]? = some (.cells #[v] 26 (0, 0)) := by
            rw [hgrow.block _ (by simp; omega) hne]
            show (((wr.heap.push _).push _))[w.heap.size + 1]? = _
            rw [Array.getElem?_push, if_neg (by simp; omega), Array.getElem?_push, if_neg (by omega)]
            exact hv
          have hsz1 := hgrow.size
          simp at hsz1
          refine ⟨k + 1, _, Q', C', by omega, by go_num, one_setCell hbl, h2.setLow (by show w.heap.size + 1 < w.heap.size + 2; omega) _, ?_, by simp [World.setCell]; omega⟩
          refine (Below.setCell ?_ (by simp) _)
          refine Below.grown (((hB.alloc (by omega) _).alloc (by simp; omega) _).drew) hgrow (by simp; omega) (fun j e => ?_)
          have := ((unhide HS).row.lt j e).1
          omega
        case measure => simp [intOf]; omega
    · have hk' : k = n := by omega
      subst hk'
      obtain ⟨a, c, rfl, hBA⟩ := hS.form
      have hcv := cell_of_one hv
      have hfv := free_of_one hv
      have hcell0 : wr.cell? ⟨w.heap.size, 0, none⟩ = some (.slice none 0 0) := by rw [hB.cell (p := ⟨w.heap.size, 0, none⟩) (by simp)]; simp
      have hfr0 : wr.frozen? ⟨w.heap.size, 0, none⟩ = false := by rw [hB.frozen (p := ⟨w.heap.size, 0, none⟩) (by simp)]; simp
      have HBA := hide hBA
      have HSS := hide hS
      clear hBA hS
      simp only [List.length_replicate] at hcv hv
      go_wp2
      refine bodyPost_ret (v := .tuple #[.agg #[.slice a k c], .bool true]) (by simp [results, Try.results130, go_sem, hcell0]) rfl ⟨a, c, rfl, ?_, ?_⟩
      · have hx : SpecBlocks (wr.setCell ⟨w.heap.size, 0, none⟩ (.slice a k c)) _ _ _ _ _ _ _ := (unhide HSS).setLow (a := ⟨w.heap.size, 0, none⟩) (by show w.heap.size < w.heap.size + 2; omega) (.slice a k c)
        obtain ⟨a', c', e', hB'⟩ := hx.form
        simp at e'
        obtain ⟨rfl, _⟩ := e'
        exact hB'
      · refine (((Below.refl _ w).alloc (Nat.le_refl _) _).trans (hB.mono (by omega))).setCell (by simp) _

theorem specChipNew_no (n : Int) (w : World) (h : ¬ (4 ≤ n ∧ n ≤ 12)) :
    Calls Try.prog 130 #[.int .i64 n] w fun e w' => e = .returned (.tuple #[.agg #[.slice none 0 0], .bool false]) ∧ Below w.heap.size w w' := by
  go_enter Try.func130, Try.ntmps130
  go_wp2_with fail
  refine (l1In_any _ _ _ _).mono ?_
  rintro e w1 ⟨rfl, rfl⟩
  have hd : decide (4 ≤ n ∧ n ≤ 12) = false := by simpa using h
  rw [hd]
  go_wp2
  refine bodyPost_ret (v := .tuple #[.agg #[.slice none 0 0], .bool false]) (by simp [results, Try.results130, go_sem]) rfl ⟨rfl, ?_⟩
  repeat (first | exact Below.refl _ _ | refine Below.drew ?_ | refine Below.alloc ?_ (by simp <;> omega) _ | refine Below.setCell ?_ (by simp <;> omega) _)
end Go.Proofs.Ytimencianaclmaa

/- A chip held in arrays: 205 cells in one row. No program is named here. -/
namespace Go.Proofs.Ytimencianaclmaa
open Go.RowKit
set_option linter.unusedVariables false
set_option linter.unusedSimpArgs false

structure CC where
  count : Int
  wear : Nat → Int
  page : Nat → Nat → Pg

/-- What stands in cell i. -/
def ccF (m : CC) (i : Nat) : Value :=
  if i = 0 then .int .i64 m.count
  else if (i - 1) % 17 = 0 then .int .i64 (m.wear ((i - 1) / 17))
  else pgV (m.page ((i - 1) / 17) (((i - 1) % 17 - 1) / 4)) (((i - 1) % 17 - 1) % 4)
def ccA (m : CC) : Array Value := Array.ofFn (n := 205) fun i => ccF m i.val

theorem ccA_size (m : CC) : (ccA m).size = 205 := by simp [ccA]
theorem ccA_get (m : CC) {i : Nat} (hi : i < 205) : (ccA m)[i]? = some (ccF m i) := by simp [ccA, hi]
theorem ccA_count (m : CC) : (ccA m)[0]? = some (.int .i64 m.count) := by rw [ccA_get m (by omega)]; rfl
theorem ccA_wear (m : CC) {b : Nat} (hb : b < 12) : (ccA m)[1 + b * 17]? = some (.int .i64 (m.wear b)) := by
  rw [ccA_get m (by omega)]
  unfold ccF
  rw [if_neg (by omega), if_pos (by omega), show (1 + b * 17 - 1) / 17 = b by omega]
theorem ccA_page (m : CC) {b k j : Nat} (hb : b < 12) (hk : k < 4) (hj : j < 4) : (ccA m)[1 + b * 17 + 1 + k * 4 + j]? = some (pgV (m.page b k) j) := by
  rw [ccA_get m (by omega)]
  unfold ccF
  have h4 : k = 0 ∨ k = 1 ∨ k = 2 ∨ k = 3 := by omega
  have e1 : (1 + b * 17 + 1 + k * 4 + j - 1) / 17 = b := by rcases h4 with rfl | rfl | rfl | rfl <;> omega
  have e2 : (1 + b * 17 + 1 + k * 4 + j - 1) % 17 = 1 + k * 4 + j := by rcases h4 with rfl | rfl | rfl | rfl <;> omega
  rw [if_neg (by omega), if_neg (by omega), e1, e2, show (1 + k * 4 + j - 1) / 4 = k by omega, show (1 + k * 4 + j - 1) % 4 = j by omega]

theorem pgV_one (p : Pg) (j : Nat) : (pgV p j).oneCell' = true := by
  match j with
  | 0 => rfl
  | 1 => rfl
  | 2 => rfl
  | _ + 3 => rfl
theorem ccF_one (m : CC) (i : Nat) : (ccF m i).oneCell' = true := by
  unfold ccF
  split
  · rfl
  · split
    · rfl
    · exact pgV_one _ _
theorem ccA_one (m : CC) : ∀ v ∈ (ccA m).toList, v.oneCell' = true := by
  intro v hv
  have hv' : v ∈ ccA m := by simpa using hv
  obtain ⟨i, hi, rfl⟩ := Array.mem_iff_getElem.1 hv'
  simp only [ccA, Array.getElem_ofFn]
  exact ccF_one _ _

/-- A new row is written from end to end. -/
theorem storeNew (P : Program) (W : World) (G : Nat) (hG : W.heap.size = G) (cur : Array Value) (t : TypeId) (vs : List Value) (hl : vs.length = cur.size) (h1 : ∀ v ∈ vs, v.oneCell' = true) :
    (storeCells ⟨G, 0, none⟩ vs).run P (W.alloc (.cells cur t)) = .ok () (W.alloc (.cells vs.toArray t)) := by
  subst hG
  have hg : (W.alloc (.cells cur t)).heap[W.heap.size]? = some (.cells cur t (0, 0)) := Go.Deep.blk_alloc_new _ _
  rw [run_storeCells_at P W.heap.size 0 t vs 0 cur _ hg (by omega) h1]
  congr 1
  simp only [Nat.zero_add, List.take_zero, List.nil_append]
  rw [List.drop_eq_nil_of_le (by simp [hl]), List.append_nil]
  unfold World.setRow World.alloc
  congr 1
  apply Array.ext
  · simp
  · intro i h1 h2
    simp only [Array.getElem_modify, Array.getElem_push]
    by_cases e : W.heap.size = i
    · subst e; simp
    · have : i < W.heap.size := by simp at h2; omega
      simp [e, this]

/-- The pages of a block, as a list. -/
def ccPs (m : CC) (b : Nat) : List Pg := [m.page b 0, m.page b 1, m.page b 2, m.page b 3]
/-- The blocks that are there, as a list. -/
def ccBs (m : CC) (n : Nat) : List Bk := (List.range n).map fun b => ⟨m.wear b, ccPs m b⟩
theorem ccBs_length (m : CC) (n : Nat) : (ccBs m n).length = n := by simp [ccBs]
theorem ccBs_at (m : CC) {n b : Nat} (hb : b < n) : (ccBs m n)[b]? = some ⟨m.wear b, ccPs m b⟩ := by simp [ccBs, hb]
theorem ccPs_at (m : CC) (b : Nat) {k : Nat} (hk : k < 4) : (ccPs m b)[k]? = some (m.page b k) := by
  have h4 : k = 0 ∨ k = 1 ∨ k = 2 ∨ k = 3 := by omega
  rcases h4 with rfl | rfl | rfl | rfl <;> rfl

/-- copy of four pages out of the middle of a row into a row that was made for them. -/
theorem copy_pages (P : Program) (w : World) (dT sT ty elem : TypeId) (g b : Nat) (o : Nat) (cur : Array Value) (t : TypeId) (ps : List Pg) (hps : ps.length = 4)
    (hu : P.underlying dT = some (.slice elem)) (hs : (P.info? elem).map (·.size) = some 4)
    (hg : w.heap[g]? = some (.cells cur t (0, 0))) (hcur : cur.size = 16)
    (hsrc : ∀ k p, ps[k]? = some p → ∀ j, j < 4 → w.cell? ⟨b, o + (k * 4 + j), none⟩ = some (pgV p j)) :
    ∃ C : Array Value, C.size = 16 ∧ (∀ i, i < 16 → C[i]? = some (pgsF ps i)) ∧
    (Builtin.copy_ #[dT, sT] ty #[.slice (some ⟨g, 0, none⟩) 4 4, .slice (some ⟨b, o, none⟩) 4 4]).run P w = .ok (goInt 4) (w.setRow g C) := by
  have hsrc' : ∀ j, j < 16 → w.cell? ((⟨b, o, none⟩ : Addr).add j) = some (pgsF ps j) := fun j hj => by
    have hadd : (⟨b, o, none⟩ : Addr).add j = ⟨b, o + j, none⟩ := by unfold Addr.add; split <;> simp_all
    obtain ⟨p, hp⟩ := getElem?_ex (l := ps) (k := j / 4) (by omega)
    have := hsrc (j / 4) p hp (j % 4) (by omega)
    rw [show j / 4 * 4 + j % 4 = j by omega] at this
    rw [hadd, this]
    unfold pgsF
    rw [hp]
    rfl
  have hl := run_loadCells (P := P) w ⟨b, o, none⟩ 16 (pgsF ps) hsrc'
  have hst := run_storeCells_at P g 0 t ((List.range 16).map (pgsF ps)) 0 cur w hg (by simp [hcur]) (fun v hv => by
    obtain ⟨i, _, rfl⟩ := List.mem_map.1 hv
    exact pgV_one _ _)
  refine ⟨((List.range 16).map (pgsF ps)).toArray, by simp, fun i hi => by simp [hi], ?_⟩
  cases hq : P.info? elem with
  | none => simp [hq] at hs
  | some i =>
    have hi : i.size = 4 := by simpa [hq] using hs
    have hst' : (storeCells ⟨g, 0, none⟩ ((List.range 16).map (pgsF ps))).run P w = .ok () (w.setRow g ((List.range 16).map (pgsF ps)).toArray) := by
      rw [hst]
      congr 2
      simp [hcur]
    simp [Builtin.copy_, run_underlying hu, Builtin.lenOf, Builtin.firstCells, sizeOf, typeInfo, hq, hi, hl, hst']

theorem rowIs_setRow {w : World} {g : Nat} {t : TypeId} {cur C : Array Value} {n : Nat} {f : Nat → Value} (hg : w.heap[g]? = some (.cells cur t (0, 0))) (hC : C.size = n) (hf : ∀ i, i < n → C[i]? = some (f i)) : (w.setRow g C).rowIs g t n f :=
  ⟨C, setRow_heap w g cur C t (0, 0) hg, hC, hf⟩

theorem setRow_alloc (W : World) (cur C : Array Value) (t : TypeId) : (W.alloc (.cells cur t)).setRow W.heap.size C = W.alloc (.cells C t) := by
  unfold World.setRow World.alloc
  congr 1
  apply Array.ext
  · simp
  · intro i h1 h2
    simp only [Array.getElem_modify, Array.getElem_push]
    by_cases e : W.heap.size = i
    · subst e; simp
    · have : i < W.heap.size := by simp at h2; omega
      simp [e, this]

/-- copy of four pages into the row that was made last. -/
theorem copy_new (P : Program) (W : World) (dT sT ty elem : TypeId) (b o : Nat) (cur : Array Value) (t : TypeId) (ps : List Pg) (hps : ps.length = 4)
    (hu : P.underlying dT = some (.slice elem)) (hs : (P.info? elem).map (·.size) = some 4) (hcur : cur.size = 16) (hb : b < W.heap.size)
    (hsrc : ∀ k p, ps[k]? = some p → ∀ j, j < 4 → W.cell? ⟨b, o + (k * 4 + j), none⟩ = some (pgV p j)) :
    ∃ C : Array Value, (W.alloc (.cells C t)).rowIs W.heap.size t 16 (pgsF ps) ∧
    (Builtin.copy_ #[dT, sT] ty #[.slice (some ⟨W.heap.size, 0, none⟩) 4 4, .slice (some ⟨b, o, none⟩) 4 4]).run P (W.alloc (.cells cur t)) = .ok (goInt 4) (W.alloc (.cells C t)) := by
  obtain ⟨C, h1, h2, h3⟩ := copy_pages P (W.alloc (.cells cur t)) dT sT ty elem W.heap.size b o cur t ps hps hu hs (Go.Deep.blk_alloc_new _ _) hcur (fun k p hp j hj => by
    rw [cell_alloc_lt _ _ _ _ hb]; exact hsrc k p hp j hj)
  refine ⟨C, ⟨C, Go.Deep.blk_alloc_new _ _, h1, h2⟩, ?_⟩
  rw [h3, setRow_alloc]

/-- Four pages in sixteen cells; a block in seventeen. -/
def paA (f : Nat → Pg) : Array Value := Array.ofFn (n := 16) fun i => pgV (f (i.val / 4)) (i.val % 4)
def bcF (x : Int) (f : Nat → Pg) (i : Nat) : Value := if i = 0 then .int .i64 x else pgV (f ((i - 1) / 4)) ((i - 1) % 4)
def bcA (x : Int) (f : Nat → Pg) : Array Value := Array.ofFn (n := 17) fun i => bcF x f i.val
theorem paA_size (f : Nat → Pg) : (paA f).size = 16 := by simp [paA]
theorem bcA_size (x : Int) (f : Nat → Pg) : (bcA x f).size = 17 := by simp [bcA]
theorem paA_get (f : Nat → Pg) {i : Nat} (h : i < 16) : (paA f)[i]? = some (pgV (f (i / 4)) (i % 4)) := by simp [paA, h]
theorem bcA_get (x : Int) (f : Nat → Pg) {i : Nat} (h : i < 17) : (bcA x f)[i]? = some (bcF x f i) := by simp [bcA, h]
theorem paA_page (f : Nat → Pg) {k j : Nat} (hk : k < 4) (hj : j < 4) : (paA f)[k * 4 + j]? = some (pgV (f k) j) := by
  rw [paA_get f (by omega), show (k * 4 + j) / 4 = k by omega, show (k * 4 + j) % 4 = j by omega]
theorem bcA_page (x : Int) (f : Nat → Pg) {i : Nat} (h : i < 16) : (bcA x f)[1 + i]? = some (pgV (f (i / 4)) (i % 4)) := by
  rw [bcA_get x f (by omega)]
  unfold bcF
  rw [if_neg (by omega), show 1 + i - 1 = i by omega]
theorem ccA_block (m : CC) {b i : Nat} (hb : b < 12) (hi : i < 17) : (ccA m)[1 + b * 17 + i]? = (bcA (m.wear b) (m.page b))[i]? := by
  rw [bcA_get _ _ hi]
  unfold bcF
  by_cases e : i = 0
  · subst e; rw [if_pos rfl]; exact ccA_wear m hb
  · rw [if_neg e]
    have := ccA_page m (b := b) (k := (i - 1) / 4) (j := (i - 1) % 4) hb (by omega) (by omega)
    rw [show 1 + b * 17 + 1 + (i - 1) / 4 * 4 + (i - 1) % 4 = 1 + b * 17 + i by omega] at this
    exact this
theorem ccA_pages (m : CC) {b i : Nat} (hb : b < 12) (hi : i < 16) : (ccA m)[1 + b * 17 + 1 + i]? = (paA (m.page b))[i]? := by
  rw [paA_get _ hi]
  have := ccA_page m (b := b) (k := i / 4) (j := i % 4) hb (by omega) (by omega)
  rw [show 1 + b * 17 + 1 + i / 4 * 4 + i % 4 = 1 + b * 17 + 1 + i by omega] at this
  exact this

/-- A struct or an array is read out of the middle of a row. -/
theorem run_loadVar_mid {P : Program} (w : World) (g off : Nat) (ty : TypeId) (A : Array Value) (s : Nat) (hA : A.size = s) (hc : ∀ j, j < s → w.cell? ⟨g, off + j, none⟩ = A[j]?) (d : TypeDesc)
    (hu : P.underlying ty = some d) (hd : (match d with | .struct _ | .array _ _ => true | _ => false) = true) (hi : (P.info? ty).map (·.size) = some s) :
    (loadVar ty ⟨g, off, none⟩).run P w = .ok (.agg A) w := by
  have hl : (loadCells ⟨g, off, none⟩ A.toList.length).run P w = .ok A.toList.toArray w :=
    run_loadCells_list (P := P) w ⟨g, off, none⟩ A.toList (fun j v hv => by
      have hadd : (⟨g, off, none⟩ : Addr).add j = ⟨g, off + j, none⟩ := by unfold Addr.add; split <;> simp_all
      have hj : j < s := by rw [← hA, ← Array.length_toList]; exact (List.getElem?_eq_some_iff.1 hv).1
      rw [hadd, hc j hj, ← hv, Array.getElem?_toList])
  cases hq : P.info? ty with
  | none => simp [hq] at hi
  | some i =>
    have hs : i.size = A.size := by rw [hA]; simpa [hq] using hi
    have hagg : (isAgg ty).run P w = .ok true w := by
      unfold isAgg
      rw [Sem.run_bind, run_underlying hu w]
      cases d <;> simp_all
    simp only [Array.length_toList, Array.toArray_toList] at hl
    simp [loadVar, Sem.run_bind, hagg, sizeOf, typeInfo, hq, hs, hl]

theorem wp_load_mid {P : Program} {o : Oper} {a : Act} {w : World} {K : Act → World → Prop} {Q : Exit → Act → World → Prop} (ty : TypeId) (x : Operand) (ho : o.op = .load ty x)
    (g off : Nat) (hx : a.eval x = .pointer (some ⟨g, off, none⟩)) (A : Array Value) (s : Nat) (hA : A.size = s) (hc : ∀ j, j < s → w.cell? ⟨g, off + j, none⟩ = A[j]?) (d : TypeDesc)
    (hu : P.underlying ty = some d) (hd : (match d with | .struct _ | .array _ _ => true | _ => false) = true) (hi : (P.info? ty).map (·.size) = some s)
    (h : K (a.put o.dst (.agg A)) w) : o.wp P a w K Q := by
  unfold Oper.wp execOp
  simp only [ho, hx, Instr.loadAt, Instr.sureAddr, Sem.run_bind, Sem.run_pure, Result.andThen_ok, run_loadVar_mid w g off ty A s hA hc d hu hd hi]
  exact h

theorem wpList_load_mid {P : Program} {ops : Array Oper} {rest : List Oper} {o : Oper} {a : Act} {w : World} {Q : Exit → Act → World → Prop} (hgd : o.guard = none) (ty : TypeId) (x : Operand) (ho : o.op = .load ty x)
    (g off : Nat) (hx : a.eval x = .pointer (some ⟨g, off, none⟩)) (A : Array Value) (s : Nat) (hA : A.size = s) (hc : ∀ j, j < s → w.cell? ⟨g, off + j, none⟩ = A[j]?) (d : TypeDesc)
    (hu : P.underlying ty = some d) (hd : (match d with | .struct _ | .array _ _ => true | _ => false) = true) (hi : (P.info? ty).map (·.size) = some s)
    (h : wpList P ops Q rest (a.put o.dst (.agg A)) w) : wpList P ops Q (o :: rest) a w :=
  wpList_plain hgd fun _ hK => wp_load_mid ty x ho g off hx A s hA hc d hu hd hi (hK _ _ h)

/-- A page out of four in an array. -/
theorem run_index_pages {P : Program} (w : World) (ty e : TypeId) (f : Nat → Pg) (k : Nat) (hk : k < 4) (hu : P.underlying ty = some (.array 4 e)) (d : TypeDesc) (hue : P.underlying e = some d) (hd : (match d with | .struct _ | .array _ _ => true | _ => false) = true) (hi : (P.info? e).map (·.size) = some 4) :
    (Instr.index ty (.agg (paA f)) (.int .i64 (k : Int))).run P w = .ok (.agg #[.bool (f k).used, .int .i64 (f k).log, .int .i64 (f k).seq, .string (f k).data]) w := by
  cases hq : P.info? e with
  | none => simp [hq] at hi
  | some i =>
    have hs : i.size = 4 := by simpa [hq] using hi
    have hagg : (isAgg e).run P w = .ok true w := by
      unfold isAgg
      rw [Sem.run_bind, run_underlying hue w]
      cases d <;> simp_all
    have hx : (paA f).extract (k * 4) (k * 4 + 4) = #[.bool (f k).used, .int .i64 (f k).log, .int .i64 (f k).seq, .string (f k).data] := by
      apply Array.ext_getElem?
      intro j
      rw [Array.getElem?_extract, paA_size]
      by_cases hj : j < 4
      · rw [if_pos (by omega), paA_page f hk hj]
        have h4 : j = 0 ∨ j = 1 ∨ j = 2 ∨ j = 3 := by omega
        rcases h4 with rfl | rfl | rfl | rfl <;> rfl
      · rw [if_neg (by omega)]
        simp; omega
    have hlt : (0 : Int) ≤ (k : Int) ∧ (k : Int) < (4 : Nat) := by omega
    simp [Instr.index, asIntOf, run_underlying hu, hlt, part, hagg, sizeOf, typeInfo, hq, hs, hx, hk]

end Go.Proofs.Ytimencianaclmaa

/- Chips held in arrays: the program's new chip, and the chip that is told out of the arrays. -/
namespace Go.Proofs.Ytimencianaclmaa
open Go.RowKit
set_option linter.unusedVariables false
set_option linter.unusedSimpArgs false

theorem isBlockCount_any (n : Int) (w : World) : Calls Try.prog 120 #[.int .i64 n] w fun e w' => e = .returned (.bool (decide (4 ≤ n ∧ n ≤ 12))) ∧ w' = w := by
  go_enter Try.func120, Try.ntmps120
  go_wp2_with fail
  refine (within_any _ _ _ _).mono ?_
  rintro e w1 ⟨rfl, rfl⟩
  go_wp2
  go_ret
  exact ⟨by simp, rfl⟩

theorem sizePage : (Try.prog.info? 28).map (·.size) = some 4 := by kernel_rfl

set_option maxRecDepth 100000 in
set_option maxHeartbeats 1000000 in
theorem chip_any (m : CC) (n : Nat) (hm : m.count = n) (h1 : n ≤ 12) (w : World) :
    Calls Try.prog 71 #[.agg (ccA m)] w fun e w' => ∃ g H, e = .returned (.agg #[.slice (some ⟨g, 0, none⟩) n n]) ∧ w.heap.size ≤ g ∧ OwnBlocks w' 38 28 g H n (ccBs m n) ∧ Below w.heap.size w w' := by
  have hc0 := ccA_count m
  rw [hm] at hc0
  have hmk := make_blocks n (by omega)
  go_enter Try.func71, Try.ntmps71
  go_wp2
  clear hmk
  go_loopw [11] (fun i wr => ∃ (k : Nat) (H : Nat → Nat), k ≤ n ∧ i = .int .i64 k ∧ OwnBlocks wr 38 28 (w.heap.size + 1 + 1) H n ((ccBs m n).take k) ∧ Below (w.heap.size + 1 + 1) ((w.alloc (.cells (ccA m) 109)).alloc (.cells #[.slice none 0 0] 26)) wr) (fun i _ => n - (intOf i).toNat)
  case atStart =>
    refine ⟨0, fun _ => 0, Nat.zero_le _, rfl, ?_, (Below.refl _ _).alloc (by simp) _⟩
    have := OwnBlocks.made ((w.alloc (.cells (ccA m) 109)).alloc (.cells #[.slice none 0 0] 26)) 38 28 (fun _ => 0) n
    simpa using this
  case round =>
    obtain ⟨k, H, hk, rfl, hO, hB⟩ := hrel
    have hsz := hB.size
    simp at hsz
    by_cases hlt : k < n
    · have hbox : ∀ o, wr.cell? ⟨w.heap.size, o, none⟩ = (ccA m)[o]? := fun o => by
        rw [hB.cell (p := ⟨w.heap.size, o, none⟩) (by simp <;> omega)]
        simp
      have hgs := hO.row.lt
      obtain ⟨C, hC, hcp⟩ := copy_new Try.prog wr 36 36 3 28 w.heap.size (1 + k * 17 + 1) (madeCells #[.bool false, .int .i64 0, .int .i64 0, .string ByteArray.empty] 16) 28 (ccPs m k) rfl Try.underlying36 sizePage (size_madeCells _ _) (by omega) (fun q p hp j hj => by
        have hq : q < 4 := (List.getElem?_eq_some_iff.1 hp).1
        rw [ccPs_at m k hq] at hp
        cases hp
        rw [hbox, ← Nat.add_assoc]
        exact ccA_page m (by omega) hq hj)
      have hw := ccA_wear m (b := k) (by omega)
      have hmk4 := make_pages4
      have hbk := ccBs_at m hlt
      have c0 := hO.row.cell (i := k * 2) (by omega)
      have c1 := hO.row.cell (i := k * 2 + 1) (by omega)
      have f0 := hO.row.frozen
      have HB := hide hbk
      have HC := hide hC
      clear hbk hC
      have HCP := hide hcp
      obtain ⟨x0, hx0⟩ : ∃ x0, x0 = bksF H (List.take k (ccBs m n)) (k * 2) := ⟨_, rfl⟩
      obtain ⟨x1, hx1⟩ : ∃ x1, x1 = bksF H (List.take k (ccBs m n)) (k * 2 + 1) := ⟨_, rfl⟩
      rw [← hx0] at c0
      rw [← hx1] at c1
      clear hcp hx0 hx1
      go_wp2_with fail
      rw [unhide HCP]
      clear HCP hmk4
      have hcc : ∀ b o, b < wr.heap.size → (wr.alloc (.cells C 28)).cell? ⟨b, o, none⟩ = wr.cell? ⟨b, o, none⟩ := fun b o h => cell_alloc_lt _ _ _ _ h
      have hff : ∀ b o, b < wr.heap.size → (wr.alloc (.cells C 28)).frozen? ⟨b, o, none⟩ = wr.frozen? ⟨b, o, none⟩ := fun b o h => frozen_alloc_lt _ _ _ _ h
      have hgs0 : w.heap.size < wr.heap.size := by omega
      go_wp2
      go_roundw
      case rel =>
        have hO1 : OwnBlocks (wr.alloc (.cells C 28)) _ _ _ _ _ _ := hO.below ((Below.refl _ wr).alloc (Nat.le_refl _) _) (Nat.le_refl _)
        have hp := hO1.put (b := ⟨m.wear k, ccPs m k⟩) (unhide HB) (q := wr.heap.size) (unhide HC) (by omega) (fun i hi => hO.lt (by simp [ccBs_length]; omega))
        rw [World.setCell_alloc_past _ _ _ _ hgs, World.setCell_alloc_past _ _ _ _ (by simpa using hgs)] at hp
        exact ⟨k + 1, _, by omega, by go_num, hp, ((hB.setCell (by simp) _).setCell (by simp) _).alloc (by simp; omega) _⟩
      case measure => simp [intOf]; omega
    · have hk' : k = n := by omega
      subst hk'
      have hO' : OwnBlocks wr 38 28 (w.heap.size + 1 + 1) H k (ccBs m k) := by
        have := hO
        rwa [List.take_of_length_le (by rw [ccBs_length]; exact Nat.le_refl _)] at this
      have hcell : wr.cell? ⟨w.heap.size + 1, 0, none⟩ = some (.slice none 0 0) := by
        rw [hB.cell (p := ⟨w.heap.size + 1, 0, none⟩) (by simp)]
        simp
      have hfro : wr.frozen? ⟨w.heap.size + 1, 0, none⟩ = false := by
        rw [hB.frozen (p := ⟨w.heap.size + 1, 0, none⟩) (by simp)]
        simp
      have HO := hide hO'
      clear hO hO'
      go_wp2
      refine bodyPost_ret (v := .agg #[.slice (some ⟨w.heap.size + 1 + 1, 0, none⟩) k k]) (by simp [results, Try.results71, go_sem, hcell]) rfl ⟨_, H, rfl, by omega, (unhide HO).setOther (by simp) _, ?_⟩
      exact ((((Below.refl _ w).alloc (Nat.le_refl _) _).alloc (by simp) _).trans (hB.mono (by omega))).setCell (by simp) _

/-- A chip without pages. -/
def newCC (n : Int) : CC := ⟨n, fun _ => 0, fun _ _ => zeroPg⟩
theorem zeroCC : Try.zeroCells109 = ccA (newCC 0) := by kernel_rfl
theorem setCC (n : Int) : (Try.zeroCells109.toList.set 0 (.int .i64 n)) = (ccA (newCC n)).toList := by
  rw [zeroCC]
  have hlen : ∀ k, (ccA (newCC k)).toList.length = 205 := fun k => by rw [Array.length_toList, ccA_size]
  apply List.ext_getElem?
  intro i
  have h1 : ∀ k, (ccA (newCC k)).toList[i]? = (ccA (newCC k))[i]? := fun k => by rw [Array.getElem?_toList]
  rw [List.getElem?_set]
  by_cases e : 0 = i
  · subst e
    rw [if_pos rfl, if_pos (by rw [hlen]; omega), h1, ccA_count]
    rfl
  · rw [if_neg e]
    by_cases hi : i < 205
    · rw [h1, h1, ccA_get _ hi, ccA_get _ hi]
      unfold ccF
      simp only [if_neg (show ¬ i = 0 by omega)]
      rfl
    · rw [List.getElem?_eq_none (by rw [hlen]; omega), List.getElem?_eq_none (by rw [hlen]; omega)]

theorem sizeCC' : (Try.prog.info? 109).map (·.size) = some 205 := by kernel_rfl

theorem sizeCC (m : CC) : (Try.prog.info? 109).map (·.size) = some (ccA m).size := by
  rw [ccA_size]
  kernel_rfl

end Go.Proofs.Ytimencianaclmaa
