/- Whatever the chip, the block and the page, the law FnExactProgrammed answers true: the program's Programmed is the model's, chip and code, it leaves the chip as it was, and its answer owns its memory. No condition. -/
import Derived.Test.YtageolbmplhgaaaRows
import Derived.Test.YtageolbmplhgaaaProgS
import Derived.Test.YtageolbmplhgaaaProgC
import Derived.Test.YtageolbmplhgaaaLawC
import Derived.Test.YtageolbmplhgaaaChipA
import Derived.Test.YtageolbmplhgaaaProgA
import Derived.WalkKit
import Derived.ProofKit
import Derived.OpenShut
import Derived.ChangeOld
import Derived.Below
import Derived.Deep.RegionHeld3
import Derived.Deep.DeepCutAuto
namespace Go.Proofs.Ytageolbmplhgaaa.fnExactProgrammed
open Go.ChangeShapes Go.WideShapes Go.ChangeAt Go.RowKit
set_option linter.unusedVariables false
set_option linter.unusedSimpArgs false

set_option maxRecDepth 100000 in
set_option maxHeartbeats 16000000 in
theorem walk (a : Option Addr) (c : Nat) (bs : List Bk) (n : Nat) (hl : bs.length = n) (blk : Int) (u : Bool) (l s : Int) (d : ByteArray) (w : World) (h : BlocksAt w a bs) (hn : Lens 9223372036854775807 bs) (ht : Texts bs) (hd : d.size ≤ 9223372036854775807) :
    Calls Try.prog 6 #[.agg #[.slice a n c], .int .i64 blk, .agg #[.bool u, .int .i64 l, .int .i64 s, .string d]] w fun e w' => e = .returned (.bool true) ∧ Below w.heap.size w w' := by
  have hb0 : ∀ o1 o2, Below w.heap.size w ((w.alloc o1).alloc o2) := fun o1 o2 => ((Below.refl _ w).alloc (Nat.le_refl _) _).alloc (by simp) _
  have HL := hide hl
  clear hl
  go_enter Try.func6, Try.ntmps6
  go_wp2_with fail
  refine (szChip_n a c bs (unhide HL) _ (h.below (hb0 _ _) (Nat.le_refl _)) hn ht).mono ?_
  rintro e w1 ⟨left, rfl, hle, hlens, hB1⟩
  have hs1 := hB1.size
  simp at hs1
  have hx1 : w1.cell? ⟨w.heap.size, 0, none⟩ = some (.slice a n c) := by
    rw [hB1.cell (p := ⟨w.heap.size, 0, none⟩) (by simp; omega), cell_alloc_lt _ _ _ _ (by simp)]
    simp
  have HP1 : Hid (w1.heap[w.heap.size + 1]? = some (.cells #[.bool u, .int .i64 l, .int .i64 s, .string d] 40 (0, 0))) := by
    show w1.heap[w.heap.size + 1]? = _
    rw [hB1.block _ (by simp)]
    exact heap_alloc2_new _ _ _
  have hW1 : Below w.heap.size w w1 := (hb0 _ _).trans (hB1.mono (by simp; omega))
  have HA := hide h
  have q01 := cell_of_row _ _ 0 _ _ _ (unhide HP1)
  have q11 := cell_of_row _ _ 1 _ _ _ (unhide HP1)
  have q21 := cell_of_row _ _ 2 _ _ _ (unhide HP1)
  have q31 := cell_of_row _ _ 3 _ _ _ (unhide HP1)
  simp at q01 q11 q21 q31
  clear hb0 hB1 h hn ht
  by_cases h0 : left < 0
  · clear hlens
    go_wp2
    go_ret
    exact ⟨rfl, hW1⟩
  · have HN := hide (hlens (by omega))
    have HN9 : Hid (Lens 9223372036854775807 bs) := ⟨by have := (unhide HN).1; omega, fun b hb => by have := (unhide HN).2 b hb; omega⟩
    clear hlens
    go_wp2_with fail
    refine (szPage_any u l s left d _ (by omega) hle hd).mono ?_
    rintro e wz ⟨left2, rfl, _, hBz⟩
    have hsz := hBz.size
    have hxz := (hBz.cell (p := ⟨w.heap.size, 0, none⟩) (by show w.heap.size < _; omega)).trans hx1
    have HPz := hide ((hBz.block _ (by omega)).trans (unhide HP1))
    have hWz := hW1.trans (hBz.mono hW1.size)
    have hl0z : w.heap.size < wz.heap.size := by omega
    have hl1z : w.heap.size + 1 < wz.heap.size := by omega
    clear hBz hW1 hx1 HP1 q01 q11 q21 q31
    by_cases h02 : left2 < 0
    · go_wp2
      go_ret
      exact ⟨rfl, hWz⟩
    · have q0z := cell_of_row _ _ 0 _ _ _ (unhide HPz)
      have q1z := cell_of_row _ _ 1 _ _ _ (unhide HPz)
      have q2z := cell_of_row _ _ 2 _ _ _ (unhide HPz)
      have q3z := cell_of_row _ _ 3 _ _ _ (unhide HPz)
      simp at q0z q1z q2z q3z
      have HAz : Hid (BlocksAt wz.drew a bs) := (unhide HA).below hWz.drew (Nat.le_refl _)
      have HWz := hide hWz
      clear hWz
      go_upto_region 8 with fail
      go_cut [8, 9] (fun v8 v9 wx => MadeOut wz bs blk ⟨u, l, s, d⟩ v8 v9 wx)
      case first =>
        go_region_held3 (fun W => ∀ b o, b < wz.heap.size → W.cell? ⟨b, o, none⟩ = wz.cell? ⟨b, o, none⟩)
          (first
            | (intro b o hb; rfl)
            | (intro b o hb; exact (unhide HZ3).cell (p := ⟨b, o, none⟩) hb)
            | (intro b o hb; exact (unhide HZ2).cell (p := ⟨b, o, none⟩) hb)
            | (intro b o hb; exact (unhide HZp).cell (p := ⟨b, o, none⟩) hb)
            | (intro b o hb; rw [cell_drew, cell_alloc_lt _ _ _ _ (by omega)])
            | (intro b o hb; rw [cell_alloc_lt _ _ _ _ (by omega)]; exact (unhide HZ3).cell (p := ⟨b, o, none⟩) hb)
            | (intro b o hb; rw [cell_alloc_lt _ _ _ _ (by omega)]; exact (unhide HZ2).cell (p := ⟨b, o, none⟩) hb)
            | (intro b o hb; rw [cell_alloc_lt _ _ _ _ (by omega)]; exact (unhide HZp).cell (p := ⟨b, o, none⟩) hb)
            | (intro b o hb; rw [World.cell?_setCell_other _ _ _ _ (by simp <;> omega)]; exact (unhide HZ3).cell (p := ⟨b, o, none⟩) hb)
            | (intro b o hb; rw [cell_alloc_lt _ _ _ _ (by simp [World.setCell] <;> omega), World.cell?_setCell_other _ _ _ _ (by simp <;> omega)]; exact (unhide HZ3).cell (p := ⟨b, o, none⟩) hb))
          (first
            | (go_at_call 17
               refine (toChip_n a c bs (unhide HL) _ (by first | exact unhide HAp | exact unhide HAz | exact (unhide HAp).below ((Below.refl _ _).alloc (Nat.le_refl _) _) (Nat.le_refl _) | exact (unhide HAz).below ((Below.refl _ _).alloc (Nat.le_refl _) _) (Nat.le_refl _)) (unhide HN)).mono ?_
               rintro e w2 ⟨g1, rfl, hG1, hB2⟩
               have HZ2 : Hid (Below wz.heap.size wz w2) := by
                 first
                   | exact (unhide HZp).trans (hB2.mono (unhide HZp).size)
                   | exact (Below.refl wz.heap.size wz).drew.trans hB2
                   | exact ((unhide HZp).alloc (unhide HZp).size _).trans (hB2.mono (by simp; have := (unhide HZp).size; omega))
                   | exact ((Below.refl wz.heap.size wz).alloc (Nat.le_refl _) _).drew.trans (hB2.mono (by simp))
               have hs2 := (unhide HZ2).size
               have hxhB2 := hB2.size
               try simp at hxhB2
               try have hcwzw2 : w2.cell? ⟨wz.heap.size, 0, none⟩ = some (.slice none 0 0) := by first | (exact (hB2.cell (p := ⟨wz.heap.size, 0, none⟩) (by show wz.heap.size < _; omega)).trans hcwzwp) | (rw [hB2.cell (p := ⟨wz.heap.size, 0, none⟩) (by simp)]; simp; done)
               try have hgwzw2 : w2.frozen? ⟨wz.heap.size, 0, none⟩ = false := by first | (exact (hB2.frozen (p := ⟨wz.heap.size, 0, none⟩) (by show wz.heap.size < _; omega)).trans hgwzwp) | (rw [hB2.frozen (p := ⟨wz.heap.size, 0, none⟩) (by simp)]; simp; done)
               try have hcwpw2 : w2.cell? ⟨wp.heap.size, 0, none⟩ = some (.slice none 0 0) := by first | (exact (hB2.cell (p := ⟨wp.heap.size, 0, none⟩) (by show wp.heap.size < _; omega)).trans hcwpwp) | (rw [hB2.cell (p := ⟨wp.heap.size, 0, none⟩) (by simp)]; simp; done)
               try have hgwpw2 : w2.frozen? ⟨wp.heap.size, 0, none⟩ = false := by first | (exact (hB2.frozen (p := ⟨wp.heap.size, 0, none⟩) (by show wp.heap.size < _; omega)).trans hgwpwp) | (rw [hB2.frozen (p := ⟨wp.heap.size, 0, none⟩) (by simp)]; simp; done)
               have HG1 := hide hG1
               have HB2 := hide hB2
               clear hG1 hB2)
            | (go_at_call 28
               refine (toPage_any _ _ _ _ _).mono ?_
               rintro e wp ⟨rfl, hBp⟩
               have HZp : Hid (Below wz.heap.size wz wp) := by
                 first
                   | exact (unhide HZ2).trans (hBp.mono (unhide HZ2).size)
                   | exact (Below.refl wz.heap.size wz).drew.trans hBp
                   | exact ((unhide HZ2).alloc (unhide HZ2).size _).trans (hBp.mono (by simp; have := (unhide HZ2).size; omega))
                   | exact ((Below.refl wz.heap.size wz).alloc (Nat.le_refl _) _).drew.trans (hBp.mono (by simp))
               have hsp := (unhide HZp).size
               have HAp : Hid (BlocksAt wp a bs) := (unhide HA).below ((unhide HWz).trans ((unhide HZp).mono (unhide HWz).size)) (Nat.le_refl _)
               have hxhBp := hBp.size
               try simp at hxhBp
               try have hcwzwp : wp.cell? ⟨wz.heap.size, 0, none⟩ = some (.slice none 0 0) := by first | (exact (hBp.cell (p := ⟨wz.heap.size, 0, none⟩) (by show wz.heap.size < _; omega)).trans hcwzw2) | (rw [hBp.cell (p := ⟨wz.heap.size, 0, none⟩) (by simp)]; simp; done)
               try have hgwzwp : wp.frozen? ⟨wz.heap.size, 0, none⟩ = false := by first | (exact (hBp.frozen (p := ⟨wz.heap.size, 0, none⟩) (by show wz.heap.size < _; omega)).trans hgwzw2) | (rw [hBp.frozen (p := ⟨wz.heap.size, 0, none⟩) (by simp)]; simp; done)
               try have hcw2wp : wp.cell? ⟨w2.heap.size, 0, none⟩ = some (.slice none 0 0) := by first | (exact (hBp.cell (p := ⟨w2.heap.size, 0, none⟩) (by show w2.heap.size < _; omega)).trans hcw2w2) | (rw [hBp.cell (p := ⟨w2.heap.size, 0, none⟩) (by simp)]; simp; done)
               try have hgw2wp : wp.frozen? ⟨w2.heap.size, 0, none⟩ = false := by first | (exact (hBp.frozen (p := ⟨w2.heap.size, 0, none⟩) (by show w2.heap.size < _; omega)).trans hgw2w2) | (rw [hBp.frozen (p := ⟨w2.heap.size, 0, none⟩) (by simp)]; simp; done)
               have HBp := hide hBp
               clear hBp)
            | (go_at_call 27
               refine (specProgrammed_any _ n bs _ (unhide HL) blk u l s d _ (by
                 first
                   | exact unhide HG1
                   | exact (unhide HG1).below (unhide HBp) (Nat.le_refl _)
                   | exact (unhide HG1).below ((Below.refl _ _).alloc (Nat.le_refl _) _) (Nat.le_refl _)
                   | exact ((unhide HG1).below (unhide HBp) (Nat.le_refl _)).below ((Below.refl _ _).alloc (Nat.le_refl _) _) (Nat.le_refl _)
                   | exact ((unhide HG1).below ((Below.refl _ _).alloc (Nat.le_refl _) _) (Nat.le_refl _)).below (unhide HBp) (Nat.le_refl _)) (unhide HN)).mono ?_
               rintro e w3 ⟨a0, n0, c0, out, code, rfl, hE0, hln0, hA0, hB3⟩
               have HZ3 : Hid (Below wz.heap.size wz w3) := by
                 first
                   | exact (unhide HZ2).trans (hB3.mono (unhide HZ2).size)
                   | exact (unhide HZp).trans (hB3.mono (unhide HZp).size)
                   | exact ((unhide HZ2).alloc (unhide HZ2).size _).trans (hB3.mono (by simp; have := (unhide HZ2).size; omega))
                   | exact ((unhide HZp).alloc (unhide HZp).size _).trans (hB3.mono (by simp; have := (unhide HZp).size; omega))
               have hs3 := (unhide HZ3).size
               have HE := hide (And.intro hE0 (And.intro hln0 hA0))
               have hxhB3 := hB3.size
               try simp at hxhB3
               try have hcwzw3 : w3.cell? ⟨wz.heap.size, 0, none⟩ = some (.slice none 0 0) := by first | (exact (hB3.cell (p := ⟨wz.heap.size, 0, none⟩) (by show wz.heap.size < _; omega)).trans hcwzwp) | (exact (hB3.cell (p := ⟨wz.heap.size, 0, none⟩) (by show wz.heap.size < _; omega)).trans hcwzw2) | (rw [hB3.cell (p := ⟨wz.heap.size, 0, none⟩) (by simp)]; simp; done)
               try have hgwzw3 : w3.frozen? ⟨wz.heap.size, 0, none⟩ = false := by first | (exact (hB3.frozen (p := ⟨wz.heap.size, 0, none⟩) (by show wz.heap.size < _; omega)).trans hgwzwp) | (exact (hB3.frozen (p := ⟨wz.heap.size, 0, none⟩) (by show wz.heap.size < _; omega)).trans hgwzw2) | (rw [hB3.frozen (p := ⟨wz.heap.size, 0, none⟩) (by simp)]; simp; done)
               try have hcwpw3 : w3.cell? ⟨wp.heap.size, 0, none⟩ = some (.slice none 0 0) := by first | (exact (hB3.cell (p := ⟨wp.heap.size, 0, none⟩) (by show wp.heap.size < _; omega)).trans hcwpwp) | (exact (hB3.cell (p := ⟨wp.heap.size, 0, none⟩) (by show wp.heap.size < _; omega)).trans hcwpw2) | (rw [hB3.cell (p := ⟨wp.heap.size, 0, none⟩) (by simp)]; simp; done)
               try have hgwpw3 : w3.frozen? ⟨wp.heap.size, 0, none⟩ = false := by first | (exact (hB3.frozen (p := ⟨wp.heap.size, 0, none⟩) (by show wp.heap.size < _; omega)).trans hgwpwp) | (exact (hB3.frozen (p := ⟨wp.heap.size, 0, none⟩) (by show wp.heap.size < _; omega)).trans hgwpw2) | (rw [hB3.frozen (p := ⟨wp.heap.size, 0, none⟩) (by simp)]; simp; done)
               try have hcw2w3 : w3.cell? ⟨w2.heap.size, 0, none⟩ = some (.slice none 0 0) := by first | (exact (hB3.cell (p := ⟨w2.heap.size, 0, none⟩) (by show w2.heap.size < _; omega)).trans hcw2wp) | (exact (hB3.cell (p := ⟨w2.heap.size, 0, none⟩) (by show w2.heap.size < _; omega)).trans hcw2w2) | (rw [hB3.cell (p := ⟨w2.heap.size, 0, none⟩) (by simp)]; simp; done)
               try have hgw2w3 : w3.frozen? ⟨w2.heap.size, 0, none⟩ = false := by first | (exact (hB3.frozen (p := ⟨w2.heap.size, 0, none⟩) (by show w2.heap.size < _; omega)).trans hgw2wp) | (exact (hB3.frozen (p := ⟨w2.heap.size, 0, none⟩) (by show w2.heap.size < _; omega)).trans hgw2w2) | (rw [hB3.frozen (p := ⟨w2.heap.size, 0, none⟩) (by simp)]; simp; done)
               have HB3 := hide hB3
               clear hE0 hln0 hA0 hB3))
        all_goals (
          go_wp2_with fail
          go_meet
          first
            | exact madeOut_new _ (unhide HZ3) (unhide HE)
            | exact madeOut_set hczw3 (Nat.le_refl _) (unhide HZ3) (unhide HE)
            | exact madeOut_set hcwpw3 hsp (unhide HZ3) (unhide HE)
            | exact madeOut_set hcw2w3 hs2 (unhide HZ3) (unhide HE)
            | exact madeOut_set hcwzw3 (Nat.le_refl _) (unhide HZ3) (unhide HE))
      case rest =>
        obtain ⟨P8, a0, n0, c0, out, code, rfl, rfl, hP1, hP2, hp3, hE0, hln0, hA0, hZ3⟩ := hcut
        rename World => w3
        have hs3 := hZ3.size
        have hx3 := (hZ3.cell (p := ⟨w.heap.size, 0, none⟩) hl0z).trans hxz
        have HP3 := hide ((hZ3.block _ hl1z).trans (unhide HPz))
        have hW3 := (unhide HWz).trans (hZ3.mono (unhide HWz).size)
        have HE := hide hE0
        have HLN := hide hln0
        have HOL := hide (hE0.lens (unhide HN))
        have HA0 := hide hA0
        have hn0 : n0 ≤ 1048576 := by have := (unhide HOL).1; omega
        have hkk := kAfter_upto out 1 (unhide HOL).2
        have HKO : Hid (1 ≤ kAfter 1 out ∧ kAfter 1 out ≤ 1125899906842624) := ⟨hkk.1, by have := (unhide HOL).1; have h2 := hkk.2; have h3 : (out.length : Int) * 4194305 ≤ 1048576 * 4194305 := Int.mul_le_mul_of_nonneg_right (by omega) (by omega); omega⟩
        have hkb := kAfter_upto bs 1 (unhide HN).2
        have HKK : Hid (1 ≤ kAfter 1 bs ∧ kAfter 1 bs ≤ 1125899906842624) := ⟨hkb.1, by have := (unhide HN).1; have h2 := hkb.2; have h3 : (bs.length : Int) * 4194305 ≤ 1048576 * 4194305 := Int.mul_le_mul_of_nonneg_right (by omega) (by omega); omega⟩
        clear hZ3 hxz HPz HWz HAz q0z q1z q2z q3z hE0 hA0 hln0 hkk hkb
        go_wp2_with fail
        refine (toChip_own a c bs (unhide HL) _ ((unhide HA).below hW3 (Nat.le_refl _)) (unhide HN)).mono ?_
        rintro e w4 ⟨g2, H2, rfl, hg2, hO2, hB4⟩
        have hs4 := hB4.size
        have hx4 := (hB4.cell (p := ⟨w.heap.size, 0, none⟩) (by show w.heap.size < _; omega)).trans hx3
        have hp4 := (hB4.cell (p := ⟨P8, 0, none⟩) (by show P8 < _; omega)).trans hp3
        have HP4 := hide ((hB4.block _ (by omega)).trans (unhide HP3))
        have hW4 := hW3.trans (hB4.mono hW3.size)
        have hglt : g2 < w4.heap.size := hO2.row.lt
        have HS : Hid (∀ j, (j = g2 ∨ ∃ i, i < n ∧ j = H2 i) → w3.heap.size ≤ j ∧ j < w4.heap.size) := fun j hj => by
          rcases hj with rfl | ⟨i, hi, rfl⟩
          · exact ⟨hg2, hglt⟩
          · have hi' : i < bs.length := by rw [unhide HL]; exact hi
            have := hO2.ahead i hi'
            exact ⟨by omega, hO2.lt hi'⟩
        have HO4 := hide hO2
        have HA04 := hide ((unhide HA0).below hB4 (Nat.le_refl _))
        have HB4 := hide hB4
        clear hB4 hW3 hx3 hp3 hO2 HP3
        go_upto_region 10 with fail
        obtain ⟨wy, hwy⟩ : ∃ wy, wy = w4.alloc (.cells #[.slice (some ⟨g2, 0, none⟩) n n] 29) := ⟨_, rfl⟩
        have hBy : Below w4.heap.size w4 wy := by rw [hwy]; exact (Below.refl _ _).alloc (Nat.le_refl _) _
        have hsy : wy.heap.size = w4.heap.size + 1 := by rw [hwy]; simp
        have hyy : wy.cell? ⟨w4.heap.size, 0, none⟩ = some (.slice (some ⟨g2, 0, none⟩) n n) := by rw [hwy]; simp
        rw [← hwy]
        clear hwy
        have hxy := (hBy.cell (p := ⟨w.heap.size, 0, none⟩) (by show w.heap.size < _; omega)).trans hx4
        have hpy := (hBy.cell (p := ⟨P8, 0, none⟩) (by show P8 < _; omega)).trans hp4
        have HPy := hide ((hBy.block _ (by omega)).trans (unhide HP4))
        have hWy := hW4.trans (hBy.mono hW4.size)
        have HOy := hide ((unhide HO4).below hBy (Nat.le_refl _))
        have HGy := hide ((unhide HOy).blocksAt (by rw [unhide HL]; exact Nat.le_refl _))
        have HA0y := hide ((unhide HA04).below hBy (Nat.le_refl _))
        have HB3y := hide ((unhide HB4).trans (hBy.mono (by omega)))
        have q0y := cell_of_row _ _ 0 _ _ _ (unhide HPy)
        have q1y := cell_of_row _ _ 1 _ _ _ (unhide HPy)
        have q2y := cell_of_row _ _ 2 _ _ _ (unhide HPy)
        have q3y := cell_of_row _ _ 3 _ _ _ (unhide HPy)
        simp at q0y q1y q2y q3y
        have hl0y : w.heap.size + 1 < wy.heap.size := by omega
        have hl4y : w4.heap.size < wy.heap.size := by omega
        have HSY := hide hsy
        clear hsy hBy hW4 hx4 hp4 HP4 HO4 HA04
        go_cut [11, 12] (fun v11 v12 wx => MadeIn wy bs blk ⟨u, l, s, d⟩ v11 v12 wx)
        case first =>
          go_region_held3 (fun W => ∀ b o, b < wy.heap.size → W.cell? ⟨b, o, none⟩ = wy.cell? ⟨b, o, none⟩)
            (first
                | (intro b o hb; rfl)
                | (intro b o hb; exact (unhide HZ6).cell (p := ⟨b, o, none⟩) hb)
                | (intro b o hb; exact (unhide HZq).cell (p := ⟨b, o, none⟩) hb)
                | (intro b o hb; rw [cell_drew, cell_alloc_lt _ _ _ _ (by omega)])
                | (intro b o hb; rw [cell_alloc_lt _ _ _ _ (by omega)]; exact (unhide HZ6).cell (p := ⟨b, o, none⟩) hb)
                | (intro b o hb; rw [cell_alloc_lt _ _ _ _ (by omega)]; exact (unhide HZq).cell (p := ⟨b, o, none⟩) hb)
                | (intro b o hb; rw [World.cell?_setCell_other _ _ _ _ (by simp <;> omega)]; exact (unhide HZ6).cell (p := ⟨b, o, none⟩) hb)
                | (intro b o hb; rw [World.cell?_setCell_other _ _ _ _ (by simp <;> omega)]; exact (unhide HZq).cell (p := ⟨b, o, none⟩) hb))
            (first
              | (go_at_call 28
                 refine (toPage_any _ _ _ _ _).mono ?_
                 rintro e wq ⟨rfl, hBq⟩
                 have HZq : Hid (Below wy.heap.size wy wq) := by first | (exact (Below.refl wy.heap.size wy).drew.trans hBq) | (exact ((Below.refl wy.heap.size wy).alloc (Nat.le_refl _) _).drew.trans (hBq.mono (by simp)))
                 have hsq := (unhide HZq).size
                 have hxhBq := hBq.size
                 try simp at hxhBq
                 try have hcwywq : wq.cell? ⟨wy.heap.size, 0, none⟩ = some (.slice none 0 0) := by first | (rw [hBq.cell (p := ⟨wy.heap.size, 0, none⟩) (by simp)]; simp; done)
                 try have hgwywq : wq.frozen? ⟨wy.heap.size, 0, none⟩ = false := by first | (rw [hBq.frozen (p := ⟨wy.heap.size, 0, none⟩) (by simp)]; simp; done)
                 have HGq : Hid (BlocksAt wq (some ⟨g2, 0, none⟩) bs) := (unhide HGy).below (unhide HZq) (Nat.le_refl _)
                 clear hBq)
              | (go_at_call 29
                 refine (implProgrammed_own _ n bs _ (unhide HL) blk u l s d _ (by first | exact unhide HGq | exact (unhide HGq).below ((Below.refl _ _).alloc (Nat.le_refl _) _) (Nat.le_refl _)) (unhide HN9)).mono ?_
                 rintro e w6 ⟨a1, n1, c1, out1, code1, rfl, hE1, hO1, hB6⟩
                 have HZ6 : Hid (Below wy.heap.size wy w6) := by first | (exact (unhide HZq).trans (hB6.mono (unhide HZq).size)) | (exact (Below.refl wy.heap.size wy).drew.trans hB6) | (exact ((unhide HZq).alloc (unhide HZq).size _).trans (hB6.mono (by simp; have := (unhide HZq).size; omega))) | (exact ((Below.refl wy.heap.size wy).alloc (Nat.le_refl _) _).drew.trans (hB6.mono (by simp)))
                 have hs6 := (unhide HZ6).size
                 have hxhB6 := hB6.size
                 try simp at hxhB6
                 try have hcwyw6 : w6.cell? ⟨wy.heap.size, 0, none⟩ = some (.slice none 0 0) := by first | (exact (hB6.cell (p := ⟨wy.heap.size, 0, none⟩) (by show wy.heap.size < _; omega)).trans hcwywq) | (rw [hB6.cell (p := ⟨wy.heap.size, 0, none⟩) (by simp)]; simp; done)
                 try have hgwyw6 : w6.frozen? ⟨wy.heap.size, 0, none⟩ = false := by first | (exact (hB6.frozen (p := ⟨wy.heap.size, 0, none⟩) (by show wy.heap.size < _; omega)).trans hgwywq) | (rw [hB6.frozen (p := ⟨wy.heap.size, 0, none⟩) (by simp)]; simp; done)
                 try have hcwqw6 : w6.cell? ⟨wq.heap.size, 0, none⟩ = some (.slice none 0 0) := by first | (exact (hB6.cell (p := ⟨wq.heap.size, 0, none⟩) (by show wq.heap.size < _; omega)).trans hcwqwq) | (rw [hB6.cell (p := ⟨wq.heap.size, 0, none⟩) (by simp)]; simp; done)
                 try have hgwqw6 : w6.frozen? ⟨wq.heap.size, 0, none⟩ = false := by first | (exact (hB6.frozen (p := ⟨wq.heap.size, 0, none⟩) (by show wq.heap.size < _; omega)).trans hgwqwq) | (rw [hB6.frozen (p := ⟨wq.heap.size, 0, none⟩) (by simp)]; simp; done)
                 try simp only [World.size_alloc] at hO1
                 have HE1 := hide (And.intro hE1 hO1)
                 clear hE1 hO1 hB6))
          all_goals (
            go_wp2_with fail
            go_meet
            first
              | exact madeIn_new (w5 := wq) _ (unhide HZ6) hsq (unhide HE1)
              | exact madeIn_set (w5 := wq) hcwyw6 (Nat.le_refl _) (by omega) (unhide HZ6) hsq (unhide HE1)
              | exact madeIn_set (w5 := wq.alloc (.cells #[.slice none 0 0] 29)) hcwqw6 hsq (by simp) (unhide HZ6) (by simp; omega) (by simpa using unhide HE1))
        case rest =>
          obtain ⟨P11, a1, n1, c1, out1, code1, B, K, rfl, rfl, hP3, hP4, hPB, hBy6, hK6, hz6, hE1, hO1, hZ6⟩ := hcut
          rename World => w6
          obtain ⟨rfl, rfl⟩ : out1 = out ∧ code1 = code := hE1.one (unhide HE)
          obtain rfl : n1 = n0 := by have := hO1.1; have := unhide HLN; omega
          have hs6 := hZ6.size
          have hx6 := (hZ6.cell (p := ⟨w.heap.size, 0, none⟩) (by show w.heap.size < _; omega)).trans hxy
          have hp6 := (hZ6.cell (p := ⟨P8, 0, none⟩) (by show P8 < _; omega)).trans hpy
          have hy6 := (hZ6.cell (p := ⟨w4.heap.size, 0, none⟩) (by show w4.heap.size < _; omega)).trans hyy
          have HP6 := hide ((hZ6.block _ hl0y).trans (unhide HPy))
          have hW6 := hWy.trans (hZ6.mono hWy.size)
          have HO6 := hide ((unhide HOy).below hZ6 (Nat.le_refl _))
          have HB36 := hide ((unhide HB3y).trans (hZ6.mono (by omega)))
          have HC6 := hide hO1
          have hne : (code1 != code1) = false := by simp
          clear hZ6 hWy hxy hpy hyy HPy HOy HGy HA0y HB3y hO1 hE1 q0y q1y q2y q3y
          go_wp2_with fail
          refine (eqChip_n a1 a0 c1 c0 out1 (unhide HLN) _ (unhide HC6).blocksAt ((unhide HA0).below (unhide HB36) (Nat.le_refl _)) (unhide HOL)).mono ?_
          rintro e w7 ⟨rfl, hB7⟩
          have hs7 := hB7.size
          have hx7 := (hB7.cell (p := ⟨w.heap.size, 0, none⟩) (by show w.heap.size < _; omega)).trans hx6
          have hp7 := (hB7.cell (p := ⟨P8, 0, none⟩) (by show P8 < _; omega)).trans hp6
          have hy7 := (hB7.cell (p := ⟨w4.heap.size, 0, none⟩) (by show w4.heap.size < _; omega)).trans hy6
          have hz7 := (hB7.cell (p := ⟨P11, 0, none⟩) (by show P11 < _; omega)).trans hz6
          have HP7 := hide ((hB7.block _ (by omega)).trans (unhide HP6))
          have hW7 := hW6.trans (hB7.mono hW6.size)
          have HO7 := hide ((unhide HO6).below hB7 (Nat.le_refl _))
          have HB37 := hide ((unhide HB36).trans (hB7.mono (by omega)))
          have HC7 := hide ((unhide HC6).below hB7)
          have HG7 : Hid (BlocksAt w7.drew (some ⟨g2, 0, none⟩) bs) := ((unhide HO7).below (Below.refl w7.heap.size w7).drew (Nat.le_refl _)).blocksAt (by rw [unhide HL]; exact Nat.le_refl _)
          have HA7 : Hid (BlocksAt w7.drew a bs) := (unhide HA).below hW7.drew (Nat.le_refl _)
          have hl07 : w.heap.size < w7.heap.size := by omega
          have hl47 : w4.heap.size < w7.heap.size := by omega
          have HW7 := hide hW7
          clear hB7 hW6 hW7 hx6 hp6 hy6 hz6 HP6 HO6 HB36 HC6
          go_wp2
          go_region_held3 (fun W => ∀ b o, b < w7.heap.size → W.cell? ⟨b, o, none⟩ = w7.cell? ⟨b, o, none⟩)
            (first
              | (intro b o hb; rfl)
              | (intro b o hb; exact (unhide HB79).cell (p := ⟨b, o, none⟩) hb)
              | (intro b o hb; exact (unhide HB78).cell (p := ⟨b, o, none⟩) hb))
            (first
              | (go_at_call 17
                 refine (toChip_n a c bs (unhide HL) _ (unhide HA7) (unhide HN)).mono ?_
                 rintro e w8 ⟨g3, rfl, hG3, hB8⟩
                 have HB78 : Hid (Below w7.heap.size w7 w8) := (Below.refl w7.heap.size w7).drew.trans hB8
                 have HG8 := hide ((unhide HG7).below hB8 (Nat.le_refl _))
                 have HH8 := hide hG3
                 clear hB8 hG3)
              | (go_at_call 19
                 refine (eqChip_n _ _ n n bs (unhide HL) _ (unhide HG8) (unhide HH8) (unhide HN)).mono ?_
                 rintro e w9 ⟨rfl, hB9⟩
                 have HB79 : Hid (Below w7.heap.size w7 w9) := (unhide HB78).trans (hB9.mono (unhide HB78).size)
                 clear hB9))
          have hs79 := (unhide HB79).size
          have hx9 := ((unhide HB79).cell (p := ⟨w.heap.size, 0, none⟩) (by show w.heap.size < _; omega)).trans hx7
          have hp9 := ((unhide HB79).cell (p := ⟨P8, 0, none⟩) (by show P8 < _; omega)).trans hp7
          have hy9 := ((unhide HB79).cell (p := ⟨w4.heap.size, 0, none⟩) (by show w4.heap.size < _; omega)).trans hy7
          have hz9 := ((unhide HB79).cell (p := ⟨P11, 0, none⟩) (by show P11 < _; omega)).trans hz7
          have HP9 := hide (((unhide HB79).block _ (by omega)).trans (unhide HP7))
          have hW9 := (unhide HW7).trans ((unhide HB79).mono (unhide HW7).size)
          have HC9 := hide ((unhide HC7).below (unhide HB79))
          have HO9 := hide ((unhide HO7).below (unhide HB79) (Nat.le_refl _))
          have HB39 := hide ((unhide HB37).trans ((unhide HB79).mono (by omega)))
          clear HC7 HO7 HB37 HB79 HB78 HG8 HH8 HG7 HA7 HW7 HP7
          go_wp2_with fail
          refine (markChip_n g2 H2 n bs (unhide HL) 1 _ (unhide HO9) (unhide HN) (by omega) (unhide HKK).2).mono ?_
          rintro e w10 ⟨rfl, _, hT⟩
          have hk1 := (unhide HKK).1
          obtain ⟨kk, hkk⟩ : ∃ kk, kk = kAfter 1 bs := ⟨_, rfl⟩
          rw [← hkk] at hk1 ⊢
          have hs10 := hT.size
          have hTb : Below w3.heap.size w9 w10 := hT.below (by omega) (fun k hk => (unhide HS k hk).1)
          have hx10 := (hTb.cell (p := ⟨w.heap.size, 0, none⟩) (by show w.heap.size < _; omega)).trans hx9
          have hp10 := (hTb.cell (p := ⟨P8, 0, none⟩) (by show P8 < _; omega)).trans hp9
          have hz10 : w10.cell? ⟨P11, 0, none⟩ = some (.slice a1 n1 c1) := (World.cell?_of_block (w := w9) (a := ⟨P11, 0, none⟩) (hT.block P11 (by omega) (fun hs => by have := (unhide HS P11 hs).2; omega))).trans hz9
          have HP10 := hide ((hTb.block _ (by omega)).trans (unhide HP9))
          have hW10 := hW9.trans (hTb.mono (by omega))
          have HB310 := hide ((unhide HB39).trans hTb)
          have HC10 := hide ((unhide HC9).touch hT (fun k hk => by have := (unhide HS k hk).2; omega))
          clear hT hTb hx9 hp9 hy9 hz9 hW9 HC9 HO9 HB39 HKK hkk HP9
          go_wp2_with fail
          refine (eqChip_n a1 a0 c1 c0 out1 (unhide HLN) _ (unhide HC10).blocksAt ((unhide HA0).below (unhide HB310) (Nat.le_refl _)) (unhide HOL)).mono ?_
          rintro e w11 ⟨rfl, hB11⟩
          have hs11 := hB11.size
          have hx11 := (hB11.cell (p := ⟨w.heap.size, 0, none⟩) (by show w.heap.size < _; omega)).trans hx10
          have hp11 := (hB11.cell (p := ⟨P8, 0, none⟩) (by show P8 < _; omega)).trans hp10
          have hz11 := (hB11.cell (p := ⟨P11, 0, none⟩) (by show P11 < _; omega)).trans hz10
          have HP11 := hide ((hB11.block _ (by omega)).trans (unhide HP10))
          have hW11 := hW10.trans (hB11.mono hW10.size)
          have HC11 := hide ((unhide HC10).below hB11)
          have HB311 := hide ((unhide HB310).trans (hB11.mono (by omega)))
          clear hB11 hW10 hx10 hp10 hz10 HC10 HB310 HP10
          go_wp2_with fail
          refine (markChip_own a1 n1 c1 out1 _ (unhide HC11) (unhide HOL) (unhide HKO).2).mono ?_
          rintro e w12 ⟨rfl, hMk, hT⟩
          have hs12 := hT.size
          have hTb : Below wy.heap.size w11 w12 := hT.below (by omega) (fun k hk => by have := hk.1; omega)
          have hx12 := (hTb.cell (p := ⟨w.heap.size, 0, none⟩) (by show w.heap.size < _; omega)).trans hx11
          have hp12 := (hTb.cell (p := ⟨P8, 0, none⟩) (by show P8 < _; omega)).trans hp11
          have hz12 : w12.cell? ⟨P11, 0, none⟩ = some (.slice a1 n1 c1) := (World.cell?_of_block (w := w11) (a := ⟨P11, 0, none⟩) (hT.block P11 (by omega) (fun hs => by have := hs.1; have := hs.2; omega))).trans hz11
          have HP12 := hide ((hTb.block _ (by omega)).trans (unhide HP11))
          have hW12 := hW11.trans (hTb.mono (by omega))
          have HMK := hide hMk
          have HB312 := hide ((unhide HB311).trans (hTb.mono (by omega)))
          have HH := hide (fun W hW => heldChip_own a1 n1 c1 out1 (unhide HLN) W hW (unhide HOL) (unhide HKO).2)
          have hq1 := (unhide HKO).1
          obtain ⟨q, hq⟩ : ∃ q, q = kAfter 1 out1 := ⟨_, rfl⟩
          rw [← hq] at HH hq1 ⊢
          have hneq : (q != q) = false := by simp
          clear hMk hT hTb hW11 hx11 hp11 hz11 HC11 HB311 hq HKO HP11
          go_wp2_with fail
          refine (unhide HH _ (unhide HMK)).mono ?_
          rintro e w13 ⟨rfl, hB13⟩
          have hs13 := hB13.size
          have hx13 := (hB13.cell (p := ⟨w.heap.size, 0, none⟩) (by show w.heap.size < _; omega)).trans hx12
          have hp13 := (hB13.cell (p := ⟨P8, 0, none⟩) (by show P8 < _; omega)).trans hp12
          have hz13 := (hB13.cell (p := ⟨P11, 0, none⟩) (by show P11 < _; omega)).trans hz12
          have HP13 := hide ((hB13.block _ (by omega)).trans (unhide HP12))
          have hW13 := hW12.trans (hB13.mono hW12.size)
          have HMK13 := hide ((unhide HMK).below hB13 (Nat.le_refl _))
          have HB313 := hide ((unhide HB312).trans (hB13.mono (by omega)))
          clear hB13 hW12 hx12 hp12 hz12 HMK HB312 HP12
          go_upto_region 27 with fail
          have q013 := cell_of_row _ _ 0 _ _ _ (unhide HP13)
          have q113 := cell_of_row _ _ 1 _ _ _ (unhide HP13)
          have q213 := cell_of_row _ _ 2 _ _ _ (unhide HP13)
          have q313 := cell_of_row _ _ 3 _ _ _ (unhide HP13)
          simp at q013 q113 q213 q313
          have HA13 : Hid (BlocksAt w13.drew a bs) := (unhide HA).below hW13.drew (Nat.le_refl _)
          have hl013 : w.heap.size < w13.heap.size := by omega
          have hl113 : w.heap.size + 1 < w13.heap.size := by omega
          have hlP8 : P8 < w13.heap.size := by omega
          have hlP11 : P11 < w13.heap.size := by omega
          go_cut [16, 17] (fun v16 v17 wx => MadeIn w13 bs blk ⟨u, l, s, d⟩ v16 v17 wx)
          case first =>
            go_region_held3 (fun W => ∀ b o, b < w13.heap.size → W.cell? ⟨b, o, none⟩ = w13.cell? ⟨b, o, none⟩)
              (first
                  | (intro b o hb; rfl)
                  | (intro b o hb; exact (unhide HZu).cell (p := ⟨b, o, none⟩) hb)
                  | (intro b o hb; exact (unhide HZv).cell (p := ⟨b, o, none⟩) hb)
                  | (intro b o hb; exact (unhide HZ14).cell (p := ⟨b, o, none⟩) hb)
                  | (intro b o hb; rw [cell_drew, cell_alloc_lt _ _ _ _ (by omega)])
                  | (intro b o hb; rw [cell_alloc_lt _ _ _ _ (by omega)]; exact (unhide HZu).cell (p := ⟨b, o, none⟩) hb)
                  | (intro b o hb; rw [cell_alloc_lt _ _ _ _ (by omega)]; exact (unhide HZv).cell (p := ⟨b, o, none⟩) hb)
                  | (intro b o hb; rw [cell_alloc_lt _ _ _ _ (by omega)]; exact (unhide HZ14).cell (p := ⟨b, o, none⟩) hb)
                  | (intro b o hb; rw [World.cell?_setCell_other _ _ _ _ (by simp <;> omega)]; exact (unhide HZu).cell (p := ⟨b, o, none⟩) hb)
                  | (intro b o hb; rw [World.cell?_setCell_other _ _ _ _ (by simp <;> omega)]; exact (unhide HZv).cell (p := ⟨b, o, none⟩) hb)
                  | (intro b o hb; rw [World.cell?_setCell_other _ _ _ _ (by simp <;> omega)]; exact (unhide HZ14).cell (p := ⟨b, o, none⟩) hb))
              (first
                | (go_at_call 17
                   refine (toChip_n a c bs (unhide HL) _ (by first | exact unhide HA13 | exact (unhide HA13).below ((Below.refl _ _).alloc (Nat.le_refl _) _) (Nat.le_refl _)) (unhide HN)).mono ?_
                   rintro e w14 ⟨g4, rfl, hG4, hB14⟩
                   have HZ14 : Hid (Below w13.heap.size w13 w14) := by first | (exact (Below.refl w13.heap.size w13).drew.trans hB14) | (exact ((Below.refl w13.heap.size w13).alloc (Nat.le_refl _) _).drew.trans (hB14.mono (by simp)))
                   have hs14 := (unhide HZ14).size
                   have hxhB14 := hB14.size
                   try simp at hxhB14
                   try have hcw13w14 : w14.cell? ⟨w13.heap.size, 0, none⟩ = some (.slice none 0 0) := by first | (rw [hB14.cell (p := ⟨w13.heap.size, 0, none⟩) (by simp)]; simp; done)
                   try have hgw13w14 : w14.frozen? ⟨w13.heap.size, 0, none⟩ = false := by first | (rw [hB14.frozen (p := ⟨w13.heap.size, 0, none⟩) (by simp)]; simp; done)
                   have HG4 := hide hG4
                   clear hG4 hB14)
                | (go_at_call 28
                   refine (toPage_any _ _ _ _ _).mono ?_
                   rintro e wv ⟨rfl, hBv⟩
                   have HZv : Hid (Below w13.heap.size w13 wv) := by first | (exact (unhide HZ14).trans (hBv.mono (unhide HZ14).size)) | (exact (Below.refl w13.heap.size w13).drew.trans hBv) | (exact ((unhide HZ14).alloc (unhide HZ14).size _).trans (hBv.mono (by simp; have := (unhide HZ14).size; omega))) | (exact ((Below.refl w13.heap.size w13).alloc (Nat.le_refl _) _).drew.trans (hBv.mono (by simp)))
                   have hsv := (unhide HZv).size
                   have hxhBv := hBv.size
                   try simp at hxhBv
                   try have hcw13wv : wv.cell? ⟨w13.heap.size, 0, none⟩ = some (.slice none 0 0) := by first | (exact (hBv.cell (p := ⟨w13.heap.size, 0, none⟩) (by show w13.heap.size < _; omega)).trans hcw13w14) | (rw [hBv.cell (p := ⟨w13.heap.size, 0, none⟩) (by simp)]; simp; done)
                   try have hgw13wv : wv.frozen? ⟨w13.heap.size, 0, none⟩ = false := by first | (exact (hBv.frozen (p := ⟨w13.heap.size, 0, none⟩) (by show w13.heap.size < _; omega)).trans hgw13w14) | (rw [hBv.frozen (p := ⟨w13.heap.size, 0, none⟩) (by simp)]; simp; done)
                   try have hcw14wv : wv.cell? ⟨w14.heap.size, 0, none⟩ = some (.slice none 0 0) := by first | (exact (hBv.cell (p := ⟨w14.heap.size, 0, none⟩) (by show w14.heap.size < _; omega)).trans hcw14w14) | (rw [hBv.cell (p := ⟨w14.heap.size, 0, none⟩) (by simp)]; simp; done)
                   try have hgw14wv : wv.frozen? ⟨w14.heap.size, 0, none⟩ = false := by first | (exact (hBv.frozen (p := ⟨w14.heap.size, 0, none⟩) (by show w14.heap.size < _; omega)).trans hgw14w14) | (rw [hBv.frozen (p := ⟨w14.heap.size, 0, none⟩) (by simp)]; simp; done)
                   have HBv := hide hBv
                   clear hBv)
                | (go_at_call 29
                   refine (implProgrammed_own _ n bs _ (unhide HL) blk u l s d _ (by first | exact (unhide HG4).below (unhide HBv) (Nat.le_refl _) | exact ((unhide HG4).below (unhide HBv) (Nat.le_refl _)).below ((Below.refl _ _).alloc (Nat.le_refl _) _) (Nat.le_refl _) | exact ((unhide HG4).below ((Below.refl _ _).alloc (Nat.le_refl _) _) (Nat.le_refl _)).below (unhide HBv) (Nat.le_refl _)) (unhide HN9)).mono ?_
                   rintro e wu ⟨a2, n2, c2, out2, code2, rfl, hE2, hO2, hBu⟩
                   have HZu : Hid (Below w13.heap.size w13 wu) := by first | (exact (unhide HZv).trans (hBu.mono (unhide HZv).size)) | (exact (Below.refl w13.heap.size w13).drew.trans hBu) | (exact ((unhide HZv).alloc (unhide HZv).size _).trans (hBu.mono (by simp; have := (unhide HZv).size; omega))) | (exact ((Below.refl w13.heap.size w13).alloc (Nat.le_refl _) _).drew.trans (hBu.mono (by simp)))
                   have hsu := (unhide HZu).size
                   have hxhBu := hBu.size
                   try simp at hxhBu
                   try have hcw13wu : wu.cell? ⟨w13.heap.size, 0, none⟩ = some (.slice none 0 0) := by first | (exact (hBu.cell (p := ⟨w13.heap.size, 0, none⟩) (by show w13.heap.size < _; omega)).trans hcw13wv) | (rw [hBu.cell (p := ⟨w13.heap.size, 0, none⟩) (by simp)]; simp; done)
                   try have hgw13wu : wu.frozen? ⟨w13.heap.size, 0, none⟩ = false := by first | (exact (hBu.frozen (p := ⟨w13.heap.size, 0, none⟩) (by show w13.heap.size < _; omega)).trans hgw13wv) | (rw [hBu.frozen (p := ⟨w13.heap.size, 0, none⟩) (by simp)]; simp; done)
                   try have hcw14wu : wu.cell? ⟨w14.heap.size, 0, none⟩ = some (.slice none 0 0) := by first | (exact (hBu.cell (p := ⟨w14.heap.size, 0, none⟩) (by show w14.heap.size < _; omega)).trans hcw14wv) | (rw [hBu.cell (p := ⟨w14.heap.size, 0, none⟩) (by simp)]; simp; done)
                   try have hgw14wu : wu.frozen? ⟨w14.heap.size, 0, none⟩ = false := by first | (exact (hBu.frozen (p := ⟨w14.heap.size, 0, none⟩) (by show w14.heap.size < _; omega)).trans hgw14wv) | (rw [hBu.frozen (p := ⟨w14.heap.size, 0, none⟩) (by simp)]; simp; done)
                   try have hcwvwu : wu.cell? ⟨wv.heap.size, 0, none⟩ = some (.slice none 0 0) := by first | (exact (hBu.cell (p := ⟨wv.heap.size, 0, none⟩) (by show wv.heap.size < _; omega)).trans hcwvwv) | (rw [hBu.cell (p := ⟨wv.heap.size, 0, none⟩) (by simp)]; simp; done)
                   try have hgwvwu : wu.frozen? ⟨wv.heap.size, 0, none⟩ = false := by first | (exact (hBu.frozen (p := ⟨wv.heap.size, 0, none⟩) (by show wv.heap.size < _; omega)).trans hgwvwv) | (rw [hBu.frozen (p := ⟨wv.heap.size, 0, none⟩) (by simp)]; simp; done)
                   try simp only [World.size_alloc] at hO2
                   have HE2 := hide (And.intro hE2 hO2)
                   clear hE2 hO2 hBu))
            all_goals (
              go_wp2_with fail
              go_meet
              first
                | exact madeIn_new (w5 := wv) _ (unhide HZu) hsv (unhide HE2)
                | exact madeIn_set (w5 := wv) hcw13wu (Nat.le_refl _) (by omega) (unhide HZu) hsv (unhide HE2)
                | exact madeIn_set (w5 := wv) hcw14wu hs14 (by omega) (unhide HZu) hsv (unhide HE2)
                | exact madeIn_set (w5 := wv.alloc (.cells #[.slice none 0 0] 29)) hcwvwu hsv (by simp) (unhide HZu) (by simp; omega) (by simpa using unhide HE2))
          case rest =>
            obtain ⟨P16, a2, n2, c2, out2, code2, B2, K2, rfl, rfl, hR3, hR4, _, _, _, hr15, hE2, hO2, hZu⟩ := hcut
            rename World => w15
            obtain ⟨rfl, rfl⟩ : out2 = out1 ∧ code2 = code1 := hE2.one (unhide HE)
            obtain rfl : n2 = n1 := by have := hO2.1; have := unhide HLN; omega
            have hs15 := hZu.size
            have hp15 := (hZu.cell (p := ⟨P8, 0, none⟩) hlP8).trans hp13
            have hz15 := (hZu.cell (p := ⟨P11, 0, none⟩) hlP11).trans hz13
            have hW15 := hW13.trans (hZu.mono hW13.size)
            have HI2 := hide hO2.blocksAt
            have HMK15 := hide ((unhide HMK13).below hZu (Nat.le_refl _))
            have HB315 := hide ((unhide HB313).trans (hZu.mono (by omega)))
            clear hO2 hE2 hZu hW13 HMK13 HB313 hx13 hp13 hz13 HP13 HA13 q013 q113 q213 q313
            go_wp2_with fail
            refine (eqChip_n a2 a0 c2 c0 out2 (unhide HLN) _ (unhide HI2) ((unhide HA0).below (unhide HB315) (Nat.le_refl _)) (unhide HOL)).mono ?_
            rintro e w16 ⟨rfl, hB16⟩
            have hs16 := hB16.size
            have hz16 := (hB16.cell (p := ⟨P11, 0, none⟩) (by show P11 < _; omega)).trans hz15
            have hW16 := hW15.trans (hB16.mono hW15.size)
            have HMK16 := hide ((unhide HMK15).below hB16 (Nat.le_refl _))
            clear hB16 hW15 HMK15 HB315 HI2 hp15 hz15
            go_wp2_with fail
            refine (unhide HH _ (unhide HMK16)).mono ?_
            rintro e w17 ⟨rfl, hB17⟩
            have hW17 := hW16.trans (hB17.mono hW16.size)
            clear HMK16 HH hB17 hW16
            go_wp2
            go_ret
            exact ⟨rfl, hW17⟩


set_option maxRecDepth 100000 in
/-- An argument of the type Page, opened. -/
theorem open_pageArg {H : Type} {enc : TypeId × Value → H} {w : World} {base b0 : Nat} {spare : Nat → Bool} {held : Bool} {v : Value} {d : DataW H} {p : List MemPlace}
    (hv : Value.okWide Try.prog w .any b0 40 v) (h : DataW.Trod enc Try.prog w base spare held 40 v d p) :
    ∃ pg : Pg, v = .agg #[.bool pg.used, .int .i64 pg.log, .int .i64 pg.seq, .string pg.data] ∧ pg.data.size ≤ 9223372036854775807 := by
  obtain ⟨cs, rfl, hsz⟩ := okWide_struct Try.underlying40 hv
  have h4 : cs.size = 4 := hsz.trans (by kernel_rfl)
  obtain ⟨fuel, hf⟩ := h
  obtain ⟨pg, hp, hd⟩ := open_page (cs := cs.toList) Try.underlying40 (by kernel_rfl) Try.underlying4 Try.underlying2 Try.underlying2 Try.underlying9 (by simpa using h4) (by simpa [Value.cells] using hf)
  refine ⟨pg, ?_, hd⟩
  obtain ⟨l⟩ := cs
  simp only at hp
  rw [hp]

set_option maxRecDepth 100000 in
theorem lifted (os : Os) (started : os.Started) (H : Type) (enc : TypeId × Value → H) :
    ReturnsInHanded {} Try.checked os 6 .any (Rows.fnExactProgrammedSpec.pre6 enc Try.prog Try.f6 Rows.fnExactProgrammedRow.domain false) (Rows.fnExactProgrammedSpec.post enc Try.prog Try.f6 false true false false) := by
  refine returnsInHanded_of_change (C := Try.checked) own started (by kernel_rfl) Try.func6
    (ChangeSpec.witness6 (enc := enc) (C := Try.checked) false ⟨#[], #[.agg #[.slice none 0 0], .int .i64 0, .agg #[.bool false, .int .i64 0, .int .i64 0, .string ByteArray.empty]], []⟩ 8 (by kernel_rfl) (by kernel_rfl) (by kernel_rfl) (by kernel_rfl)) ?_
  intro W base args ds gs before hval0 hW hcnd _
  have hval : ∀ (j : Nat) t v, Try.f6.params[j]? = some t → args[j]? = some v → Value.okWide Try.prog W .any base t v := hval0
  have hW' := hW
  obtain ⟨p, q, hA0, hV, rfl, hfz, hnd⟩ := hW
  have hA : DataW.TrodAll enc Try.prog W 0 (fun _ => true) true Try.f6.params.toList args.toList ds p := hA0
  rw [Try.params6] at hA hval
  obtain ⟨v0, vs0, d0, ds0, p0, q0, hargs, rfl, rfl, h0, r0⟩ := trodAll_cons hA
  obtain ⟨v1, vs1, d1, ds1, p1, q1, rfl, rfl, rfl, h1, r1⟩ := trodAll_cons r0
  obtain ⟨v2, vs2, d2, ds2, p2, q2, rfl, rfl, rfl, h2, r2⟩ := trodAll_cons r1
  obtain ⟨rfl, rfl, rfl⟩ := trodAll_nil r2
  obtain rfl : args = #[v0, v1, v2] := by cases args; simp_all
  obtain ⟨rfl, rfl⟩ := trodVars_none hV
  have k0 := h0
  have lt0 : ∀ x ∈ p0, x.block < W.heap.size := by obtain ⟨m, hm⟩ := k0; exact DataW.trod_lt m _ _ _ hm
  obtain ⟨a, c, bs, rfl, hbs, hl, ht⟩ := open_chip (hval 0 24 v0 rfl rfl) h0
  obtain ⟨a1, rfl, rfl, rfl, w1⟩ := open_int Try.underlying2 (hval 1 2 v1 rfl rfl) h1
  have k2 := h2
  have lt2 : ∀ x ∈ p2, x.block < W.heap.size := by obtain ⟨m, hm⟩ := k2; exact DataW.trod_lt m _ _ _ hm
  obtain ⟨⟨pu, pl, ps, pd⟩, rfl, hpd⟩ := open_pageArg (hval 2 40 v2 rfl rfl) h2
  clear hA0 hval0
  refine (walk a c bs _ rfl a1 pu pl ps pd W hbs hl ht hpd).mono fun e W' ⟨he, bel⟩ => ?_
  subst he
  exact ⟨_, rfl, _, _, _, [], _, [], hW', trodAll_mk1 (shut_bool Try.underlying4 _), (trodAll_cons_mk (Below.trod laidOut (by kernel_rfl) (of_decide_eq_true (by kernel_rfl)) k0 bel lt0) (trodAll_cons_mk (shut_int Try.underlying2 w1) (trodAll_cons_mk (Below.trod laidOut (by kernel_rfl) (of_decide_eq_true (by kernel_rfl)) k2 bel lt2) trodAll_mk0))), rfl, bel.frame _, fun h => by cases h⟩

theorem over : Rows.fnExactProgrammedRow.holds Try.pinned (OpenSpec.ofChange Rows.fnExactProgrammedSpec) :=
  OpenClaim.holds_of_wide 6 Try.f6 rfl rfl rfl rfl rfl rfl rfl ⟨rfl, rfl, rfl, rfl, rfl⟩ rfl rfl rfl rfl rfl (by kernel_rfl) Try.func6 (by kernel_rfl)
    (of_decide_eq_true (by kernel_rfl)) (by unfold Func.isWrapper; first | (rw [if_pos (by decide +kernel)]; kernel_rfl) | (rw [if_neg (by decide +kernel)]; exact ⟨rfl, rfl⟩))
    (fun os started H enc _ => lifted os started H enc)

end Go.Proofs.Ytageolbmplhgaaa.fnExactProgrammed
namespace Go.Proofs.Ytageolbmplhgaaa
theorem programmed_holds : Rows.FnExactProgrammedSaid := fnExactProgrammed.over
end Go.Proofs.Ytageolbmplhgaaa
