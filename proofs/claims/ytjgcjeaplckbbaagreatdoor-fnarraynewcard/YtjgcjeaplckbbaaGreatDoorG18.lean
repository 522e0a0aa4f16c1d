/- 1 texts in one. -/
import Derived.Test.YtjgcjeaplckbbaaGreatDoorG11
import Derived.Test.YtjgcjeaplckbbaaGreatDoorG16
import Derived.Test.YtjgcjeaplckbbaaGreatDoorG17
import Derived.Test.YtjgcjeaplckbbaaGreatDoorG14
import Derived.Test.YtjgcjeaplckbbaaGreatDoorG04
import Derived.WalkKit
import Derived.ProofKit
import Derived.OpenShut
import Derived.ChangeOld
import Derived.Below

/- The walk through the law FnArrayNew. -/
namespace Go.Proofs.YtjgcjeaplckbbaaGreatDoor.fnArrayNew
open Go.ChangeShapes Go.WideShapes Go.ChangeAt Go.RowKit
set_option linter.unusedVariables false
set_option linter.unusedSimpArgs false

/-- Where several orders of a region meet. -/
theorem region_meet {R : Prop} {G : World → Nat → Prop} {A : World → Prop} (hmain : (∀ W blk, A W → G W blk) → R) (htail : ∀ W blk, A W → G W blk) : R := hmain htail
theorem region_meet1 {R : Prop} {G : World → Prop} {A : World → Prop} (hmain : (∀ W, A W → G W) → R) (htail : ∀ W, A W → G W) : R := hmain htail

set_option maxRecDepth 100000 in
set_option maxHeartbeats 8000000 in
theorem walk (a : Option Addr) (n c : Nat) (w : World) (h : CodeAt w a n) (hn : n ≤ 9223372036854775807) :
    Calls Tryz.prog 3 #[.slice a n c] w fun e w' => e = .returned (.bool true) ∧ Below w.heap.size w w' := by
  have HC := hide h
  clear h
  go_enter Tryz.func3, Tryz.ntmps3
  go_wp2_with fail
  refine (big_any a n c _ hn).mono ?_
  rintro e w0 ⟨rfl, rfl⟩
  by_cases hbig : (1048576 : Int) < (n : Int)
  · have hd : decide ((1048576 : Int) < (n : Int)) = true := by simpa using hbig
    rw [hd]
    clear hd
    go_wp2
    go_ret
    exact ⟨rfl, Below.refl _ _⟩
  · have hd : decide ((1048576 : Int) < (n : Int)) = false := by simpa using hbig
    have hbig' : n ≤ 1048576 := by omega
    rw [hd]
    clear hd hbig
    go_wp2_with fail
    refine (drawArrayNew_any a n c _ (unhide HC) hbig').mono ?_
    rintro e w1 ⟨g, k, cap, z, L, rfl, ⟨hI, hLk, hk2, hk5⟩, hW1⟩
    clear HC hbig' hn
    by_cases hy : NewYes L z
    · have hk : 3 ≤ k ∧ k ≤ 5 := by have := hy.len; omega
      have HSHT : Hid (∀ m ∈ List.replicate k (newMb z.toNat), Mb.Short m) := fun m hm => by rw [List.eq_of_mem_replicate hm]; exact newMb_short hy.nat.1 hy.nat.2
      go_wp2_with fail
      refine (implArrayNew_any (some ⟨g, 0, none⟩) cap L k hLk z w1 hI).mono ?_
      rintro e w2 ⟨⟨hno, -⟩ | ⟨-, G1, v1, T, rfl, hG1, hM1, hR1, hO1⟩, hB2⟩
      · exact absurd hy hno
      obtain ⟨a1, c1, rfl, hI1, hMn1⟩ := hO1.form
      have hI1n := hI1
      rw [hLk] at hMn1 ⊢
      have hs2 := hB2.size
      have hW2 := hW1.trans (hB2.mono hW1.size)
      have hb2 : ∀ o, Below w2.heap.size w2 (w2.alloc o) := fun o => (Below.refl _ w2).alloc (Nat.le_refl _) _
      have hI2 : IntsAt w2 (some ⟨g, 0, none⟩) L := hI.below hB2 (Nat.le_refl _)
      have HM1 := hide hM1.mbsAt
      have HI1 := hide hI1n
      clear hM1 hR1 hO1 hI1 hI1n hMn1 hG1
      have HI2 := hide hI2
      clear hI2 hB2
      go_wp2_with fail
      refine (specArrayNew_any (some ⟨g, 0, none⟩) cap L k hLk (by omega) z _ ((unhide HI2).below (hb2 _) (Nat.le_refl _))).mono ?_
      rintro e w3 ⟨⟨hno, -⟩ | ⟨-, a0, c0, G0, d0, rfl, hI0, hM0⟩, hB3⟩
      · exact absurd hy hno
      have HM0 := hide hM0
      have HI0 := hide hI0
      clear hM0 hI0
      have hs3 := hB3.size
      simp at hs3
      have hrP : w3.heap[w2.heap.size]? = some (.cells #[.slice a1 k c1, .int .i64 z, .int .i64 (-1), .bool false, .slice (some ⟨G1, 0, none⟩) k k, .slice none 0 0] 30 (0, 0)) := (hB3.block w2.heap.size (by simp)).trans (World.alloc_heap_new w2 _)
      have hB23 : Below w2.heap.size w2 w3 := (hb2 _).trans (hB3.mono (by simp))
      have hl3 : w2.heap.size < w3.heap.size := by omega
      have x0 : ∀ o', (w3.alloc o').cell? ⟨w2.heap.size, 0, none⟩ = some (.slice a1 k c1) := fun o' => (cell_alloc_lt _ _ _ _ hl3).trans (by simpa using cell_of_row _ _ 0 _ _ _ hrP)
      have x1 : ∀ o', (w3.alloc o').cell? ⟨w2.heap.size, 1, none⟩ = some (.int .i64 z) := fun o' => (cell_alloc_lt _ _ _ _ hl3).trans (by simpa using cell_of_row _ _ 1 _ _ _ hrP)
      have x2 : ∀ o', (w3.alloc o').cell? ⟨w2.heap.size, 2, none⟩ = some (.int .i64 (-1)) := fun o' => (cell_alloc_lt _ _ _ _ hl3).trans (by simpa using cell_of_row _ _ 2 _ _ _ hrP)
      have x3 : ∀ o', (w3.alloc o').cell? ⟨w2.heap.size, 3, none⟩ = some (.bool false) := fun o' => (cell_alloc_lt _ _ _ _ hl3).trans (by simpa using cell_of_row _ _ 3 _ _ _ hrP)
      have x4 : ∀ o', (w3.alloc o').cell? ⟨w2.heap.size, 4, none⟩ = some (.slice (some ⟨G1, 0, none⟩) k k) := fun o' => (cell_alloc_lt _ _ _ _ hl3).trans (by simpa using cell_of_row _ _ 4 _ _ _ hrP)
      have x5 : ∀ o', (w3.alloc o').cell? ⟨w2.heap.size, 5, none⟩ = some (.slice none 0 0) := fun o' => (cell_alloc_lt _ _ _ _ hl3).trans (by simpa using cell_of_row _ _ 5 _ _ _ hrP)
      have hb3 : ∀ o, Below w3.heap.size w3 (w3.alloc o) := fun o => (Below.refl _ w3).alloc (Nat.le_refl _) _
      have HRP := hide hrP
      have HB23 := hide hB23
      have hW3 := hW2.trans (hB23.mono hW2.size)
      clear hB3 hrP hB23 hb2 HI2
      go_wp2_with fail
      refine (sameArray_same a1 a0 c1 c0 L k hLk (by omega) z (-1) false _ _ k k d0 (List.replicate k (newMb z.toNat)) (by simp) (by omega) (unhide HSHT) _ ((unhide HI1).below ((unhide HB23).trans ((hb3 _).mono (by omega))) (Nat.le_refl _)) ((unhide HI0).below (hb3 _) (Nat.le_refl _)) (.inr ⟨G1, rfl, (unhide HM1).below ((unhide HB23).trans ((hb3 _).mono (by omega)))⟩) (.inr ⟨G0, rfl, (unhide HM0).below (hb3 _)⟩)).mono ?_
      rintro e w5 ⟨rfl, hB5⟩
      have hs5 := hB5.size
      simp at hs5
      have hB35 : Below w3.heap.size w3 w5 := (hb3 _).trans (hB5.mono (by simp))
      have hB25 : Below w2.heap.size w2 w5 := (unhide HB23).trans (hB35.mono (by omega))
      have hW5 := hW3.trans (hB35.mono hW3.size)
      have hr5 := (hB35.block w2.heap.size hl3).trans (unhide HRP)
      have HROW : Hid (∀ W, Below w5.heap.size w5 W → W.cell? ⟨w2.heap.size, 0, none⟩ = some (.slice a1 k c1) ∧ W.cell? ⟨w2.heap.size, 1, none⟩ = some (.int .i64 z) ∧ W.cell? ⟨w2.heap.size, 2, none⟩ = some (.int .i64 (-1)) ∧ W.cell? ⟨w2.heap.size, 3, none⟩ = some (.bool false) ∧ W.cell? ⟨w2.heap.size, 4, none⟩ = some (.slice (some ⟨G1, 0, none⟩) k k) ∧ W.cell? ⟨w2.heap.size, 5, none⟩ = some (.slice none 0 0)) := fun W hW => by
        have h := (hW.block w2.heap.size (by omega)).trans hr5
        exact ⟨by simpa using cell_of_row _ _ 0 _ _ _ h, by simpa using cell_of_row _ _ 1 _ _ _ h, by simpa using cell_of_row _ _ 2 _ _ _ h, by simpa using cell_of_row _ _ 3 _ _ _ h, by simpa using cell_of_row _ _ 4 _ _ _ h, by simpa using cell_of_row _ _ 5 _ _ _ h⟩
      obtain ⟨hup, hev⟩ := upOk_new hy
      obtain ⟨N, hN⟩ : ∃ N, N = sizeN k z.toNat := ⟨_, rfl⟩
      have hzn : ((z.toNat : Nat) : Int) = z := by have := hy.2; omega
      have hms : newMs L z = List.replicate k (newMb z.toNat) := by unfold newMs; rw [hLk]
      have HUP : Hid (∀ W, Below w5.heap.size w5 W → ArrUp W L k z.toNat (newMs L z) a1 G1) := fun W hW => ⟨hLk, hup, hev, (unhide HI1).below (hB25.trans (hW.mono (by omega))) (Nat.le_refl _), by rw [hms]; exact (unhide HM1).below (hB25.trans (hW.mono (by omega)))⟩
      have HOKA : Hid (∀ W, Below w5.heap.size w5 W → Calls Tryz.prog 17 #[.agg #[.slice a1 k c1, .int .i64 z, .int .i64 (-1), .bool false, .slice (some ⟨G1, 0, none⟩) k k, .slice none 0 0]] W fun e w' => e = .returned (.bool true) ∧ Below W.heap.size W w') := fun W hW => by
        have h := implArrayOk_up a1 c1 L k G1 k z.toNat (newMs L z) W (unhide HUP W hW)
        rwa [hzn] at h
      have HSZ : Hid (∀ W, Below w5.heap.size w5 W → Calls Tryz.prog 19 #[.agg #[.slice a1 k c1, .int .i64 z, .int .i64 (-1), .bool false, .slice (some ⟨G1, 0, none⟩) k k, .slice none 0 0]] W fun e w' => e = .returned (.int .i64 (N : Int)) ∧ Below W.heap.size W w') := fun W hW => by
        have h := implSizeOf_up a1 c1 L k G1 k z.toNat (newMs L z) W (unhide HUP W hW)
        rw [hzn] at h
        rw [hN]
        exact h
      have HSEEN : Hid (∀ W, Below w5.heap.size w5 W → Calls Tryz.prog 18 #[.agg #[.slice a1 k c1, .int .i64 z, .int .i64 (-1), .bool false, .slice (some ⟨G1, 0, none⟩) k k, .slice none 0 0]] W fun e w' => e = .returned (.string (zs N)) ∧ Below W.heap.size W w') := fun W hW => by
        have h := seen_up a1 c1 L k G1 k z.toNat (newMs L z) (fun m hm t ht => by rw [List.eq_of_mem_replicate hm]; exact pageM_new _ _) W (unhide HUP W hW)
        rw [hzn] at h
        rw [hN]
        exact h
      have HN144 : Hid (N ≤ 144) := by rw [hN]; exact sizeN_le hk.2 (by have := hy.2; omega)
      have HMUL : Hid (4 * (z - 3) * ((k : Int) - 1) = (N : Int)) := by
        have h := sizeN_int (k := k) (n := z.toNat) hk.1 (by have := hy.2; omega)
        rw [hzn] at h
        rw [hN]
        exact h
      have HROOM : Hid (roomI z = 4 * (z - 3)) := roomI_in hy.2
      have HMK := hide (fun W => make_zs N (unhide HN144) W)
      have HCV := hide (fun W blk h => zs_string N W blk h)
      have HZZ : Hid (((zs N).toList == (zs N).toList) = true) := by exact beq_self_eq_true _
      have hz12 := hy.2
      have HBD : Hid (Below w5.heap.size w5 w5.drew) := (Below.refl _ _).drew
      have hmix : Tryz.prog.follows .mixedOrders = true := by kernel_rfl
      clear hB5 hB35 hB25 hr5 hup hev hN hzn hms HUP hb3 x0 x1 x2 x3 x4 x5 HRP HB23 HM0 HI0 HM1 HI1 HSHT hW3 hW2 hI
      go_upto_region 8 with fail
      refine wp_region_held_drew (S := fun W => Below w5.heap.size w5 W) hmix (unhide HBD) (fun hHeld => ?_)
      refine wpAnyH_take (i := 0) (v := .agg #[.slice a1 k c1, .int .i64 z, .int .i64 (-1), .bool false, .slice (some ⟨G1, 0, none⟩) k k, .slice none 0 0]) rfl (by kernel_rfl) (by kernel_rfl) (by kernel_rfl) (fun _ _ _ h => h) (Or.inl ⟨by rfl, ?_⟩) hHeld ?_
      · (intro W hSW; obtain ⟨s0, s1, s2, s3, s4, s5⟩ := unhide HROW W hSW; clear hSW; go_simp)
      simp only [Act.put, List.setIfInBounds_toArray, List.set_cons_zero, List.set_cons_succ]
      refine wpAnyH_ready (rs := [1]) (by kernel_rfl) (by simp) ?_
      refine AllReadyH.cons rfl (fun K hK => ?_) AllReadyH.nil
      go_simp
      refine (unhide HOKA w5.drew (unhide HBD)).mono ?_
      rintro e v1 ⟨rfl, hbv1⟩
      have Hv1 : Hid (Below w5.heap.size w5 v1) := (unhide HBD).trans (hbv1.mono (unhide HBD).size)
      clear hbv1
      try go_wp2_with fail
      refine hK.out _ _ (unhide Hv1) (fun hHeld2 => ?_)
      clear hK K hHeld
      have hHeld := hHeld2
      clear hHeld2
      try simp only [Act.put, List.setIfInBounds_toArray, List.set_cons_zero, List.set_cons_succ]
      refine wpAnyH_take (i := 2) (v := .bool true) rfl (by kernel_rfl) (by kernel_rfl) (by kernel_rfl) (fun _ _ _ h => h) (Or.inl ⟨by rfl, ?_⟩) hHeld ?_
      · (intro W hSW; clear hSW; go_simp)
      simp only [Act.put, List.setIfInBounds_toArray, List.set_cons_zero, List.set_cons_succ]
      refine wpAnyH_take (i := 3) (v := .agg #[.slice a1 k c1, .int .i64 z, .int .i64 (-1), .bool false, .slice (some ⟨G1, 0, none⟩) k k, .slice none 0 0]) rfl (by kernel_rfl) (by kernel_rfl) (by kernel_rfl) (fun _ _ _ h => h) (Or.inl ⟨by rfl, ?_⟩) hHeld ?_
      · (intro W hSW; obtain ⟨s0, s1, s2, s3, s4, s5⟩ := unhide HROW W hSW; clear hSW; go_simp)
      simp only [Act.put, List.setIfInBounds_toArray, List.set_cons_zero, List.set_cons_succ]
      refine wpAnyH_take (i := 5) (v := .agg #[.slice a1 k c1, .int .i64 z, .int .i64 (-1), .bool false, .slice (some ⟨G1, 0, none⟩) k k, .slice none 0 0]) rfl (by kernel_rfl) (by kernel_rfl) (by kernel_rfl) (fun _ _ _ h => h) (Or.inl ⟨by rfl, ?_⟩) hHeld ?_
      · (intro W hSW; obtain ⟨s0, s1, s2, s3, s4, s5⟩ := unhide HROW W hSW; clear hSW; go_simp)
      simp only [Act.put, List.setIfInBounds_toArray, List.set_cons_zero, List.set_cons_succ]
      refine wpAnyH_ready (rs := [4]) (by kernel_rfl) (by simp) ?_
      refine AllReadyH.cons rfl (fun K hK => ?_) AllReadyH.nil
      go_simp
      refine (unhide HSEEN v1 (unhide Hv1)).mono ?_
      rintro e v2 ⟨rfl, hbv2⟩
      have Hv2 : Hid (Below w5.heap.size w5 v2) := (unhide Hv1).trans (hbv2.mono (unhide Hv1).size)
      clear hbv2
      try go_wp2_with fail
      refine hK.out _ _ (unhide Hv2) (fun hHeld2 => ?_)
      clear hK K hHeld
      have hHeld := hHeld2
      clear hHeld2
      try simp only [Act.put, List.setIfInBounds_toArray, List.set_cons_zero, List.set_cons_succ]
      refine wpAnyH_ready (rs := [6]) (by kernel_rfl) (by simp) ?_
      refine AllReadyH.cons rfl (fun K hK => ?_) AllReadyH.nil
      go_simp
      refine (unhide HSZ v2 (unhide Hv2)).mono ?_
      rintro e v3 ⟨rfl, hbv3⟩
      have Hv3 : Hid (Below w5.heap.size w5 v3) := (unhide Hv2).trans (hbv3.mono (unhide Hv2).size)
      clear hbv3
      try go_wp2_with fail
      refine hK.out _ _ (unhide Hv3) (fun hHeld2 => ?_)
      clear hK K hHeld
      have hHeld := hHeld2
      clear hHeld2
      try simp only [Act.put, List.setIfInBounds_toArray, List.set_cons_zero, List.set_cons_succ]
      refine wpAnyH_take (i := 7) (v := .int .i64 ((N : Int) * 4)) rfl (by kernel_rfl) (by kernel_rfl) (by kernel_rfl) (fun _ _ _ h => h) (Or.inl ⟨by rfl, ?_⟩) hHeld ?_
      · (intro W hSW; clear hSW; have := unhide HN144; go_simp; first | done | (simp [IntKind.wrap, IntKind.bits, IntKind.signed]; omega))
      simp only [Act.put, List.setIfInBounds_toArray, List.set_cons_zero, List.set_cons_succ]
      refine wpAnyH_ready (rs := [8]) (by kernel_rfl) (by simp) ?_
      refine AllReadyH.cons rfl (fun K hK => ?_) AllReadyH.nil
      have hmk := unhide HMK (v3)
      go_simp
      clear hmk
      obtain ⟨v4, hv4⟩ : ∃ v4, v4 = (v3).alloc (.cells (madeCells #[.int .u8 0] (N * 4)) 5) := ⟨_, rfl⟩
      have Hv4 : Hid (Below w5.heap.size w5 v4) := by rw [hv4]; exact (unhide Hv3).alloc (unhide Hv3).size _
      have HBv4 : Hid (v4.heap[(v3).heap.size]? = some (.cells (madeCells #[.int .u8 0] (N * 4)) 5 (0, 0))) := by rw [hv4]; exact World.alloc_heap_new _ _
      have HLv4 : Hid ((v3).heap.size < v4.heap.size) := hide (by rw [hv4]; simp)
      obtain ⟨blk, hblk⟩ : ∃ blk, blk = (v3).heap.size := ⟨_, rfl⟩
      rw [← hv4, ← hblk]
      rw [← hblk] at HBv4 HLv4
      clear hv4 hblk
      refine hK.out _ _ (unhide Hv4) (fun hHeld2 => ?_)
      clear hK K hHeld
      have hHeld := hHeld2
      clear hHeld2
      try simp only [Act.put, List.setIfInBounds_toArray, List.set_cons_zero, List.set_cons_succ]
      refine wpAnyH_ready (rs := [9]) (by kernel_rfl) (by simp) ?_
      refine AllReadyH.cons rfl (fun K hK => ?_) AllReadyH.nil
      have hcv := unhide HCV (v4) blk (unhide HBv4)
      go_simp
      clear hcv
      refine hK.out _ _ (unhide Hv4) (fun hHeld2 => ?_)
      clear hK K hHeld
      have hHeld := hHeld2
      clear hHeld2
      try simp only [Act.put, List.setIfInBounds_toArray, List.set_cons_zero, List.set_cons_succ]
      refine wpAnyH_take (i := 10) (v := .bool true) rfl (by kernel_rfl) (by kernel_rfl) (by kernel_rfl) (fun _ _ _ h => h) (Or.inl ⟨by rfl, ?_⟩) hHeld ?_
      · (intro W hSW; have hzz := unhide HZZ; clear hSW; go_simp)
      simp only [Act.put, List.setIfInBounds_toArray, List.set_cons_zero, List.set_cons_succ]
      refine wpAnyH_take (i := 11) (v := .bool true) rfl (by kernel_rfl) (by kernel_rfl) (by kernel_rfl) (fun _ _ _ h => h) (Or.inl ⟨by rfl, ?_⟩) hHeld ?_
      · (intro W hSW; clear hSW; go_simp)
      simp only [Act.put, List.setIfInBounds_toArray, List.set_cons_zero, List.set_cons_succ]
      refine wpAnyH_take (i := 12) (v := .bool true) rfl (by kernel_rfl) (by kernel_rfl) (by kernel_rfl) (fun _ _ _ h => h) (Or.inl ⟨by rfl, ?_⟩) hHeld ?_
      · (intro W hSW; clear hSW; go_simp)
      simp only [Act.put, List.setIfInBounds_toArray, List.set_cons_zero, List.set_cons_succ]
      refine wpAnyH_take (i := 13) (v := .agg #[.slice a1 k c1, .int .i64 z, .int .i64 (-1), .bool false, .slice (some ⟨G1, 0, none⟩) k k, .slice none 0 0]) rfl (by kernel_rfl) (by kernel_rfl) (by kernel_rfl) (fun _ _ _ h => h) (Or.inl ⟨by rfl, ?_⟩) hHeld ?_
      · (intro W hSW; obtain ⟨s0, s1, s2, s3, s4, s5⟩ := unhide HROW W hSW; clear hSW; go_simp)
      simp only [Act.put, List.setIfInBounds_toArray, List.set_cons_zero, List.set_cons_succ]
      refine wpAnyH_take (i := 15) (v := .int .i64 z) rfl (by kernel_rfl) (by kernel_rfl) (by kernel_rfl) (fun _ _ _ h => h) (Or.inl ⟨by rfl, ?_⟩) hHeld ?_
      · (intro W hSW; clear hSW; go_simp)
      simp only [Act.put, List.setIfInBounds_toArray, List.set_cons_zero, List.set_cons_succ]
      refine wpAnyH_take (i := 17) (v := .slice (some ⟨g, 0, none⟩) k cap) rfl (by kernel_rfl) (by kernel_rfl) (by kernel_rfl) (fun _ _ _ h => h) (Or.inl ⟨by rfl, ?_⟩) hHeld ?_
      · (intro W hSW; clear hSW; go_simp)
      simp only [Act.put, List.setIfInBounds_toArray, List.set_cons_zero, List.set_cons_succ]
      refine wpAnyH_take (i := 18) (v := .int .i64 (k : Int)) rfl (by kernel_rfl) (by kernel_rfl) (by kernel_rfl) (fun _ _ _ h => h) (Or.inl ⟨by rfl, ?_⟩) hHeld ?_
      · (intro W hSW; clear hSW; go_simp)
      simp only [Act.put, List.setIfInBounds_toArray, List.set_cons_zero, List.set_cons_succ]
      refine wpAnyH_take (i := 19) (v := .int .i64 ((k : Int) - 1)) rfl (by kernel_rfl) (by kernel_rfl) (by kernel_rfl) (fun _ _ _ h => h) (Or.inl ⟨by rfl, ?_⟩) hHeld ?_
      · (intro W hSW; clear hSW; go_simp; first | done | (simp [IntKind.wrap, IntKind.bits, IntKind.signed]; omega))
      simp only [Act.put, List.setIfInBounds_toArray, List.set_cons_zero, List.set_cons_succ]
      refine wpAnyH_ready (rs := [14]) (by kernel_rfl) (by simp) ?_
      refine AllReadyH.cons rfl (fun K hK => ?_) AllReadyH.nil
      go_simp
      refine (unhide HSZ v4 (unhide Hv4)).mono ?_
      rintro e v7 ⟨rfl, hbv7⟩
      have Hv7 : Hid (Below w5.heap.size w5 v7) := (unhide Hv4).trans (hbv7.mono (unhide Hv4).size)
      clear hbv7
      try go_wp2_with fail
      refine hK.out _ _ (unhide Hv7) (fun hHeld2 => ?_)
      clear hK K hHeld
      have hHeld := hHeld2
      clear hHeld2
      try simp only [Act.put, List.setIfInBounds_toArray, List.set_cons_zero, List.set_cons_succ]
      refine wpAnyH_ready (rs := [16]) (by kernel_rfl) (by simp) ?_
      refine AllReadyH.cons rfl (fun K hK => ?_) AllReadyH.nil
      go_simp
      refine (implRoomFor_any z v7).mono ?_
      rintro e w' ⟨rfl, e9⟩
      have e10 := e9.symm
      subst e10
      clear e9
      rw [unhide HROOM]
      try go_wp2_with fail
      refine hK.out _ _ (unhide Hv7) (fun hHeld2 => ?_)
      clear hK K hHeld
      have hHeld := hHeld2
      clear hHeld2
      try simp only [Act.put, List.setIfInBounds_toArray, List.set_cons_zero, List.set_cons_succ]
      refine wpAnyH_take (i := 20) (v := .int .i64 (N : Int)) rfl (by kernel_rfl) (by kernel_rfl) (by kernel_rfl) (fun _ _ _ h => h) (Or.inl ⟨by rfl, ?_⟩) hHeld ?_
      · (intro W hSW; have hml := unhide HMUL; clear hSW; go_simp; first | done | (simp [IntKind.wrap, IntKind.bits, IntKind.signed]; have := unhide HN144; omega))
      simp only [List.getElem_toArray, List.getElem_cons_zero, List.getElem_cons_succ, Act.put, List.setIfInBounds_toArray, List.set_cons_zero, List.set_cons_succ]
      refine wpAnyH_take (i := 21) (v := .bool true) rfl (by kernel_rfl) (by kernel_rfl) (by kernel_rfl) (fun _ _ _ h => h) (Or.inl ⟨by rfl, ?_⟩) hHeld ?_
      · (intro W hSW; clear hSW; go_simp)
      simp only [List.getElem_toArray, List.getElem_cons_zero, List.getElem_cons_succ, Act.put, List.setIfInBounds_toArray, List.set_cons_zero, List.set_cons_succ]
      refine wpAnyH_take (i := 22) (v := .bool true) rfl (by kernel_rfl) (by kernel_rfl) (by kernel_rfl) (fun _ _ _ h => h) (Or.inl ⟨by rfl, ?_⟩) hHeld ?_
      · (intro W hSW; clear hSW; go_simp)
      simp only [List.getElem_toArray, List.getElem_cons_zero, List.getElem_cons_succ, Act.put, List.setIfInBounds_toArray, List.set_cons_zero, List.set_cons_succ]
      refine wpAnyH_take (i := 23) (v := .bool true) rfl (by kernel_rfl) (by kernel_rfl) (by kernel_rfl) (fun _ _ _ h => h) (Or.inl ⟨by rfl, ?_⟩) hHeld ?_
      · (intro W hSW; clear hSW; go_simp)
      simp only [List.getElem_toArray, List.getElem_cons_zero, List.getElem_cons_succ, Act.put, List.setIfInBounds_toArray, List.set_cons_zero, List.set_cons_succ]
      refine wpAnyH_done (by kernel_rfl) ?_ _
      have hWF := hW5.trans ((unhide Hv7).mono hW5.size)
      clear hHeld
      go_wp2
      go_ret
      exact ⟨rfl, hWF⟩
    · skip
      go_wp2_with fail
      refine (implArrayNew_any (some ⟨g, 0, none⟩) cap L k hLk z w1 hI).mono ?_
      rintro e w2 ⟨⟨-, rfl⟩ | ⟨hyes, -⟩, hB2⟩
      case inr => exact absurd hyes hy
      have hs2 := hB2.size
      have hW2 := hW1.trans (hB2.mono hW1.size)
      have hb2 : ∀ o, Below w2.heap.size w2 (w2.alloc o) := fun o => (Below.refl _ w2).alloc (Nat.le_refl _) _
      have hI2 : IntsAt w2 (some ⟨g, 0, none⟩) L := hI.below hB2 (Nat.le_refl _)
      have HI2 := hide hI2
      clear hI2 hB2
      go_wp2_with fail
      refine (specArrayNew_any (some ⟨g, 0, none⟩) cap L k hLk (by omega) z _ ((unhide HI2).below (hb2 _) (Nat.le_refl _))).mono ?_
      rintro e w3 ⟨⟨-, rfl⟩ | ⟨hyes, -⟩, hB3⟩
      case inr => exact absurd hyes hy
      have hs3 := hB3.size
      simp at hs3
      have hrP : w3.heap[w2.heap.size]? = some (.cells #[.slice none 0 0, .int .i64 0, .int .i64 0, .bool false, .slice none 0 0, .slice none 0 0] 30 (0, 0)) := (hB3.block w2.heap.size (by simp)).trans (World.alloc_heap_new w2 _)
      have hB23 : Below w2.heap.size w2 w3 := (hb2 _).trans (hB3.mono (by simp))
      have hl3 : w2.heap.size < w3.heap.size := by omega
      have x0 : ∀ o', (w3.alloc o').cell? ⟨w2.heap.size, 0, none⟩ = some (.slice none 0 0) := fun o' => (cell_alloc_lt _ _ _ _ hl3).trans (by simpa using cell_of_row _ _ 0 _ _ _ hrP)
      have x1 : ∀ o', (w3.alloc o').cell? ⟨w2.heap.size, 1, none⟩ = some (.int .i64 0) := fun o' => (cell_alloc_lt _ _ _ _ hl3).trans (by simpa using cell_of_row _ _ 1 _ _ _ hrP)
      have x2 : ∀ o', (w3.alloc o').cell? ⟨w2.heap.size, 2, none⟩ = some (.int .i64 0) := fun o' => (cell_alloc_lt _ _ _ _ hl3).trans (by simpa using cell_of_row _ _ 2 _ _ _ hrP)
      have x3 : ∀ o', (w3.alloc o').cell? ⟨w2.heap.size, 3, none⟩ = some (.bool false) := fun o' => (cell_alloc_lt _ _ _ _ hl3).trans (by simpa using cell_of_row _ _ 3 _ _ _ hrP)
      have x4 : ∀ o', (w3.alloc o').cell? ⟨w2.heap.size, 4, none⟩ = some (.slice none 0 0) := fun o' => (cell_alloc_lt _ _ _ _ hl3).trans (by simpa using cell_of_row _ _ 4 _ _ _ hrP)
      have x5 : ∀ o', (w3.alloc o').cell? ⟨w2.heap.size, 5, none⟩ = some (.slice none 0 0) := fun o' => (cell_alloc_lt _ _ _ _ hl3).trans (by simpa using cell_of_row _ _ 5 _ _ _ hrP)
      have hb3 : ∀ o, Below w3.heap.size w3 (w3.alloc o) := fun o => (Below.refl _ w3).alloc (Nat.le_refl _) _
      have HRP := hide hrP
      have HB23 := hide hB23
      have hW3 := hW2.trans (hB23.mono hW2.size)
      clear hB3 hrP hB23 hb2 HI2
      go_wp2_with fail
      refine (sameArray_same none none 0 0 [] 0 rfl (by omega) 0 0 false none none 0 0 0 [] rfl (by omega) (fun m hm => by simp at hm) _ (fun i x hx => by simp at hx) (fun i x hx => by simp at hx) (.inl rfl) (.inl rfl)).mono ?_
      rintro e w5 ⟨rfl, hB5⟩
      have hs5 := hB5.size
      simp at hs5
      have hB35 : Below w3.heap.size w3 w5 := (hb3 _).trans (hB5.mono (by simp))
      have hW5 := hW3.trans (hB35.mono hW3.size)
      have hr5 := (hB35.block w2.heap.size hl3).trans (unhide HRP)
      have hr6 := (hB5.block w3.heap.size (by simp)).trans (World.alloc_heap_new w3 _)
      have u0 := cell_of_row _ _ 0 _ _ _ hr5
      have v0 := cell_of_row _ _ 0 _ _ _ hr6
      have u1 := cell_of_row _ _ 1 _ _ _ hr5
      have v1 := cell_of_row _ _ 1 _ _ _ hr6
      have u2 := cell_of_row _ _ 2 _ _ _ hr5
      have v2 := cell_of_row _ _ 2 _ _ _ hr6
      have u3 := cell_of_row _ _ 3 _ _ _ hr5
      have v3 := cell_of_row _ _ 3 _ _ _ hr6
      have u4 := cell_of_row _ _ 4 _ _ _ hr5
      have v4 := cell_of_row _ _ 4 _ _ _ hr6
      have u5 := cell_of_row _ _ 5 _ _ _ hr5
      have v5 := cell_of_row _ _ 5 _ _ _ hr6
      simp at u0 u1 u2 u3 u4 u5 v0 v1 v2 v3 v4 v5
      clear hB5 hB35 hr5 hr6 hb3 x0 x1 x2 x3 x4 x5 HRP HB23 hW3 hW2 hI
      go_wp2_with fail
      refine (sameArray_same none none 0 0 [] 0 rfl (by omega) 0 0 false none none 0 0 0 [] rfl (by omega) (fun m hm => by simp at hm) _ (fun i x hx => by simp at hx) (fun i x hx => by simp at hx) (.inl rfl) (.inl rfl)).mono ?_
      rintro e w6 ⟨rfl, hB6⟩
      have hW6 := hW5.trans (hB6.mono hW5.size)
      clear u0 u1 u2 u3 u4 u5 v0 v1 v2 v3 v4 v5 hB6
      go_wp2
      go_ret
      exact ⟨rfl, hW6⟩
end Go.Proofs.YtjgcjeaplckbbaaGreatDoor.fnArrayNew
