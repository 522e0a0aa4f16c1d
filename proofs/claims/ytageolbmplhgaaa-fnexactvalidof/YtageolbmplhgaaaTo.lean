/- The laws' own copies: what was handed in, in rows that are new. -/
import Derived.Test.YtageolbmplhgaaaChecked
import Derived.Test.YtageolbmplhgaaaOwn
import Derived.WalkKit
import Derived.Outline
namespace Go.Proofs.Ytageolbmplhgaaa
open Go.RowKit
set_option linter.unusedVariables false

theorem toPage_any (u : Bool) (l s : Int) (d : ByteArray) (w : World) :
    Calls Try.prog 28 #[.agg #[.bool u, .int .i64 l, .int .i64 s, .string d]] w fun e w' => e = .returned (.agg #[.bool u, .int .i64 l, .int .i64 s, .string d]) ∧ Below w.heap.size w w' := by
  go_enter Try.func28, Try.ntmps28
  go_wp2
  refine bodyPost_ret (v := .agg #[.bool u, .int .i64 l, .int .i64 s, .string d]) (by simp [results, Try.results28, go_sem]) rfl ⟨rfl, ?_⟩
  repeat (first | exact Below.refl _ _ | refine Below.drew ?_ | refine Below.alloc ?_ (by simp <;> omega) _ | refine Below.setCell ?_ (by simp <;> omega) _)

theorem infoPage : (Try.prog.info? 44).map (fun i => (i.zero, i.size, i.bytes)) = some (some (.agg #[.bool false, .int .i64 0, .int .i64 0, .string ByteArray.empty]), 4, 40) := by kernel_rfl
theorem infoBlock : (Try.prog.info? 75).map (fun i => (i.zero, i.size, i.bytes)) = some (some (.agg #[.int .i64 0, .slice none 0 0]), 2, 32) := by kernel_rfl

theorem make_pages (n : Nat) (hn : n ≤ 1048576) (w : World) :
    (Instr.makeSlice 73 (.int .i64 (n : Int)) (.int .i64 (n : Int))).run Try.prog w = .ok (.slice (some ⟨w.heap.size, 0, none⟩) n n) (w.alloc (.cells (madeCells #[.bool false, .int .i64 0, .int .i64 0, .string ByteArray.empty] (n * 4)) 44)) := by
  obtain ⟨i, hi, hz⟩ := Option.map_eq_some_iff.1 infoPage
  simp only [Prod.mk.injEq] at hz
  obtain ⟨hz0, hz1, hz2⟩ := hz
  have h := run_make (P := Try.prog) w 73 44 i _ Try.underlying73 hi hz0 .i64 .i64 (n : Int) (n : Int) (by omega) (Int.le_refl _) (by rw [hz2]; omega) (by omega)
  rw [hz1] at h
  simpa [Value.cells] using h

theorem make_pages4 (w : World) : (Instr.makeSlice 73 (.int .i64 4) (.int .i64 4)).run Try.prog w = .ok (.slice (some ⟨w.heap.size, 0, none⟩) 4 4) (w.alloc (.cells (madeCells #[.bool false, .int .i64 0, .int .i64 0, .string ByteArray.empty] 16) 44)) :=
  make_pages 4 (by omega) w

theorem make_blocks (n : Nat) (hn : n ≤ 1048576) (w : World) :
    (Instr.makeSlice 27 (.int .i64 (n : Int)) (.int .i64 (n : Int))).run Try.prog w = .ok (.slice (some ⟨w.heap.size, 0, none⟩) n n) (w.alloc (.cells (madeCells #[.int .i64 0, .slice none 0 0] (n * 2)) 75)) := by
  obtain ⟨i, hi, hz⟩ := Option.map_eq_some_iff.1 infoBlock
  simp only [Prod.mk.injEq] at hz
  obtain ⟨hz0, hz1, hz2⟩ := hz
  have h := run_make (P := Try.prog) w 27 75 i _ Try.underlying27 hi hz0 .i64 .i64 (n : Int) (n : Int) (by omega) (Int.le_refl _) (by rw [hz2]; omega) (by omega)
  rw [hz1] at h
  simpa [Value.cells] using h

set_option maxHeartbeats 1000000 in
theorem toPageS_any (a : Option Addr) (c : Nat) (ps : List Pg) (w : World) (h : PagesAt w a ps) (hn : ps.length ≤ 1048576) :
    Calls Try.prog 106 #[.slice a ps.length c] w fun e w' => e = .returned (.slice (some ⟨w.heap.size, 0, none⟩) ps.length ps.length) ∧ OwnPages w' 44 w.heap.size ps.length ps ∧ Below w.heap.size w w' := by
  have hmk := make_pages ps.length hn
  go_enter Try.func106, Try.ntmps106
  go_wp2
  clear hmk
  go_loopw [4] (fun i wr => ∃ k : Nat, k ≤ ps.length ∧ i = .int .i64 k ∧ OwnPages wr 44 w.heap.size ps.length (ps.take k) ∧ Below w.heap.size w wr) (fun i _ => ps.length - (intOf i).toNat)
  case atStart => exact ⟨0, Nat.zero_le _, rfl, by simpa using OwnPages.made w _ _, (Below.refl _ _).alloc (Nat.le_refl _) _⟩
  case round =>
    obtain ⟨k, hk, rfl, hO, hB⟩ := hrel
    by_cases hlt : k < ps.length
    · obtain ⟨p, hp⟩ := getElem?_ex hlt
      obtain ⟨b1, o1, rfl, g10, g11, g12, g13⟩ := (h.below hB (Nat.le_refl _)) k p hp
      have HP := hide hp
      clear hp h
      go_wp2_with fail
      refine (toPage_any _ _ _ _ _).mono ?_
      rintro e w1 ⟨rfl, hc⟩
      clear g10 g11 g12 g13
      have hO1 : OwnPages w1 _ _ _ _ := hO.below hc (World.rowIs.lt hO)
      obtain ⟨⟨v0, c0⟩, ⟨v1, c1⟩, ⟨v2, c2⟩, ⟨v3, c3⟩⟩ := hO1.cells hlt
      have f0 := World.rowIs.frozen hO1
      clear hO
      go_wp2
      go_roundw
      case rel => exact ⟨k + 1, by omega, by go_num, hO1.put (unhide HP), ((((hB.trans (hc.mono hB.size)).setCell (Nat.le_refl _) _).setCell (Nat.le_refl _) _).setCell (Nat.le_refl _) _).setCell (Nat.le_refl _) _⟩
      case measure => simp [intOf]; omega
    · have hk' : k = ps.length := by omega
      subst hk'
      rw [List.take_length] at hO
      go_wp2
      go_ret
      exact ⟨rfl, hO, hB⟩

set_option maxHeartbeats 1000000 in
theorem toBlock_any (x : Int) (a : Option Addr) (c : Nat) (ps : List Pg) (w : World) (h : PagesAt w a ps) (hn : ps.length ≤ 1048576) :
    Calls Try.prog 88 #[.agg #[.int .i64 x, .slice a ps.length c]] w fun e w' => ∃ q, e = .returned (.agg #[.int .i64 x, .slice (some ⟨q, 0, none⟩) ps.length ps.length]) ∧ w.heap.size ≤ q ∧ OwnPages w' 44 q ps.length ps ∧ Below w.heap.size w w' := by
  go_enter Try.func88, Try.ntmps88
  go_wp2_with fail
  have hb0 : ∀ o1 o2 o3, Below w.heap.size w (((w.alloc o1).alloc o2).alloc o3) := fun o1 o2 o3 => (((Below.refl _ w).alloc (Nat.le_refl _) _).alloc (by simp) _).alloc (by simp; omega) _
  refine (toPageS_any a c ps _ (h.below (hb0 _ _ _) (Nat.le_refl _)) hn).mono ?_
  rintro e w1 ⟨rfl, hO, hc⟩
  clear h
  obtain ⟨hcc, hcf⟩ := bcell hc
  have hsz := hc.size
  simp at hsz hO
  go_wp2
  refine bodyPost_ret (v := .agg #[.int .i64 x, .slice (some ⟨w.heap.size + 1 + 1 + 1, 0, none⟩) ps.length ps.length]) (by simp [results, Try.results88, go_sem, hcc]) rfl ⟨_, rfl, by omega, ?_, ?_⟩
  · exact World.rowIs.setOther (World.rowIs.setOther (World.rowIs.setOther hO (by simp) _) (by simp <;> omega) _) (by simp <;> omega) _
  · exact ((((hb0 _ _ _).trans (hc.mono (by simp <;> omega))).setCell (by simp <;> omega) _).setCell (by simp <;> omega) _).setCell (by simp <;> omega) _

set_option maxHeartbeats 1000000 in
theorem toBlockS_any (a : Option Addr) (c : Nat) (bs : List Bk) (w : World) (h : BlocksAt w a bs) (hn : Lens 1048576 bs) :
    Calls Try.prog 58 #[.slice a bs.length c] w fun e w' => ∃ H, e = .returned (.slice (some ⟨w.heap.size, 0, none⟩) bs.length bs.length) ∧ OwnBlocks w' 75 44 w.heap.size H bs.length bs ∧ Below w.heap.size w w' := by
  have hn1 := hn.1
  have hmk := make_blocks bs.length hn.1
  go_enter Try.func58, Try.ntmps58
  go_wp2
  clear hmk
  go_loopw [4] (fun i wr => ∃ (k : Nat) (H : Nat → Nat), k ≤ bs.length ∧ i = .int .i64 k ∧ OwnBlocks wr 75 44 w.heap.size H bs.length (bs.take k) ∧ Below w.heap.size w wr) (fun i _ => bs.length - (intOf i).toNat)
  case atStart => exact ⟨0, fun _ => 0, Nat.zero_le _, rfl, by simpa using OwnBlocks.made w _ _ _ _, (Below.refl _ _).alloc (Nat.le_refl _) _⟩
  case round =>
    obtain ⟨k, H, hk, rfl, hO, hB⟩ := hrel
    by_cases hlt : k < bs.length
    · obtain ⟨p, hp⟩ := getElem?_ex hlt
      obtain ⟨b1, o1, pa, pc, rfl, g10, g11, q1⟩ := (h.below hB (Nat.le_refl _)) k p hp
      have hl := hn.at hp
      have HP := hide hp
      have hgs := hO.row.lt
      have hHs : ∀ i, i < k → H i < wr.heap.size := fun i hi => hO.lt (by simp; omega)
      have HH := hide hHs
      clear hp h hHs
      go_wp2_with fail
      refine (toBlock_any _ _ _ _ _ q1 hl).mono ?_
      rintro e w1 ⟨q, rfl, hq, hOp, hc⟩
      clear g10 g11 q1
      have hO1 : OwnBlocks w1 _ _ _ _ _ _ := hO.below hc (Nat.le_refl _)
      have c0 := hO1.row.cell (i := k * 2) (by omega)
      have c1 := hO1.row.cell (i := k * 2 + 1) (by omega)
      have f0 := hO1.row.frozen
      clear hO
      go_wp2
      go_roundw
      case rel => exact ⟨k + 1, _, by omega, by go_num, hO1.put (unhide HP) hOp (by omega) (fun i hi => Nat.lt_of_lt_of_le (unhide HH i hi) hq), ((hB.trans (hc.mono hB.size)).setCell (Nat.le_refl _) _).setCell (Nat.le_refl _) _⟩
      case measure => simp [intOf]; omega
    · have hk' : k = bs.length := by omega
      subst hk'
      rw [List.take_length] at hO
      go_wp2
      go_ret
      exact ⟨H, rfl, hO, hB⟩

set_option maxHeartbeats 1000000 in
theorem toChip_any (a : Option Addr) (c : Nat) (bs : List Bk) (w : World) (h : BlocksAt w a bs) (hn : Lens 1048576 bs) :
    Calls Try.prog 17 #[.agg #[.slice a bs.length c]] w fun e w' => ∃ g H, e = .returned (.agg #[.slice (some ⟨g, 0, none⟩) bs.length bs.length]) ∧ w.heap.size ≤ g ∧ OwnBlocks w' 75 44 g H bs.length bs ∧ Below w.heap.size w w' := by
  go_enter Try.func17, Try.ntmps17
  go_wp2_with fail
  have hb0 : ∀ o1 o2 o3, Below w.heap.size w (((w.alloc o1).alloc o2).alloc o3) := fun o1 o2 o3 => (((Below.refl _ w).alloc (Nat.le_refl _) _).alloc (by simp) _).alloc (by simp; omega) _
  refine (toBlockS_any a c bs _ (h.below (hb0 _ _ _) (Nat.le_refl _)) hn).mono ?_
  rintro e w1 ⟨H, rfl, hO, hc⟩
  clear h
  obtain ⟨hcc, hcf⟩ := bcell hc
  have hsz := hc.size
  simp at hsz hO
  go_wp2
  refine bodyPost_ret (v := .agg #[.slice (some ⟨w.heap.size + 1 + 1 + 1, 0, none⟩) bs.length bs.length]) (by simp [results, Try.results17, go_sem, hcc]) rfl ⟨_, H, rfl, by omega, ?_, ?_⟩
  · exact (hO.setOther (by simp) _).setOther (by simp) _
  · exact (((hb0 _ _ _).trans (hc.mono (by simp <;> omega))).setCell (by simp <;> omega) _).setCell (by simp <;> omega) _
end Go.Proofs.Ytageolbmplhgaaa
