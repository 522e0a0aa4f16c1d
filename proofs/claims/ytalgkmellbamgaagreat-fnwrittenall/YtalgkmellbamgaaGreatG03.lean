/- 5 texts in one. -/
import Derived.Test.YtalgkmellbamgaaGreatG01
import Derived.Test.YtalgkmellbamgaaGreatG02
import Derived.WalkKit
import Derived.Outline
import Derived.Deep.RegionLaw
import Derived.Deep.RegionHeld3
import Derived.Laws.Tables
import Derived.Laws.Rows
import Derived.Laws.CopyRow
import Derived.Test.YtalgkmellbamgaaGreatChecked

/- The model's copy of a right chip. -/
namespace Go.Proofs.YtalgkmellbamgaaGreat
open Go.RowKit
set_option linter.unusedVariables false
set_option linter.unusedSimpArgs false

theorem pgCells_one (ps : List Pg) : ∀ u ∈ pgCells ps, u.oneCell' = true := by
  intro u hu
  unfold pgCells at hu
  obtain ⟨p, _, hp⟩ := List.mem_flatMap.1 hu
  simp at hp
  rcases hp with rfl | rfl | rfl | rfl <;> rfl

theorem pagesAt_news {w : World} {pb po : Nat} {ps : List Pg} (h : PagesAt w (some ⟨pb, po, none⟩) ps) : ∀ j u, (pgCells ps)[j]? = some u → w.cell? ⟨pb, po + j, none⟩ = some u := by
  intro j u hu
  have hj : j < ps.length * 4 := by have := (List.getElem?_eq_some_iff.1 hu).1; rwa [pgCells_length] at this
  obtain ⟨p, hp⟩ := getElem?_ex (l := ps) (k := j / 4) (by omega)
  have h1 := pgCells_at hp (j % 4) (by omega)
  rw [show j / 4 * 4 + j % 4 = j by omega] at h1
  rw [hu] at h1
  cases h1
  obtain ⟨b, o, e, c0, c1, c2, c3⟩ := h (j / 4) p hp
  cases e
  have h4 : j % 4 = 0 ∨ j % 4 = 1 ∨ j % 4 = 2 ∨ j % 4 = 3 := by omega
  rcases h4 with e | e | e | e
  · rw [e, show po + j = po + j / 4 * 4 by omega]; exact c0
  · rw [e, show po + j = po + j / 4 * 4 + 1 by omega]; exact c1
  · rw [e, show po + j = po + j / 4 * 4 + 2 by omega]; exact c2
  · rw [e, show po + j = po + j / 4 * 4 + 3 by omega]; exact c3

set_option maxRecDepth 100000 in
set_option maxHeartbeats 2000000 in
theorem l1Copy_any (a : Option Addr) (c : Nat) (bs : List Bk) (n : Nat) (hl : bs.length = n) (hok : ChipOk bs) (w : World) (h : BlocksAt w a bs) :
    Calls Tryz.prog 80 #[.agg #[.slice a n c]] w fun e w' => ∃ v Q C, e = .returned (.agg #[v]) ∧ SpecBlocks w' 120 59 (w.heap.size + 3) v Q C bs ∧ Below w.heap.size w w' := by
  have hn12 : n ≤ 12 := by have := hok.count; omega
  have HL := hide hl
  have HH := hide h
  have HOK := hide hok
  clear h hok hl
  go_enter Tryz.func80, Tryz.ntmps80
  go_wp2
  go_loopw [4] (fun i wr => ∃ (k : Nat) (v : Value) (Q C : Nat → Nat), k ≤ n ∧ i = .int .i64 k ∧ wr.heap[w.heap.size + 1 + 1]? = some (.cells #[v] 26 (0, 0)) ∧ SpecBlocks wr 120 59 (w.heap.size + 3) v Q C (bs.take k) ∧ Below (w.heap.size + 1 + 1) ((w.alloc (.cells #[.slice a n c] 26)).alloc (.cells #[.slice none 0 0] 26)) wr ∧ w.heap.size + 3 ≤ wr.heap.size) (fun i _ => n - (intOf i).toNat)
  case atStart =>
    refine ⟨0, .slice none 0 0, fun _ => 0, fun _ => 0, Nat.zero_le _, rfl, ?_, by simpa using SpecBlocks.nil _ _ _ _ _ _, ?_, by simp⟩
    · have := Go.Deep.blk_alloc_new ((w.alloc (.cells #[.slice a n c] 26)).alloc (.cells #[.slice none 0 0] 26)) (.cells #[.slice none 0 0] 26)
      simpa using this
    · exact (Below.refl _ _).alloc (by simp) _
  case round =>
    obtain ⟨k, v, Q, C, hk, rfl, hv, hS, hB, hsz⟩ := hrel
    have hW : Below w.heap.size w wr := (((Below.refl _ w).alloc (Nat.le_refl _) _).alloc (by simp) _).trans (hB.mono (by omega))
    have hbox : wr.cell? ⟨w.heap.size, 0, none⟩ = some (.slice a n c) := by
      rw [hB.cell (p := ⟨w.heap.size, 0, none⟩) (by simp; omega), cell_alloc_lt _ _ _ _ (by simp)]
      simp
    have hres : wr.cell? ⟨w.heap.size + 1, 0, none⟩ = some (.slice none 0 0) := by
      rw [hB.cell (p := ⟨w.heap.size + 1, 0, none⟩) (by simp)]
      simp
    have hresf : wr.frozen? ⟨w.heap.size + 1, 0, none⟩ = false := by
      rw [hB.frozen (p := ⟨w.heap.size + 1, 0, none⟩) (by simp)]
      simp
    by_cases hlt : k < n
    · have hcv := cell_of_one hv
      have hfv := free_of_one hv
      have hvl : w.heap.size + 1 + 1 < wr.heap.size := by omega
      have hne : some (w.heap.size + 1 + 1) ≠ v.ownBlock := fun e => by have := (hS.row.lt _ e.symm).1; omega
      obtain ⟨x, hx⟩ := getElem?_ex (l := bs) (k := k) (by have := unhide HL; omega)
      obtain ⟨g0, o0, pa, pc, rfl, hcw, hcp, hpa⟩ := ((unhide HH).below hW (Nat.le_refl _)) k x hx
      have h4 := ((unhide HOK).block x (List.mem_of_getElem? hx)).four
      rw [h4] at hcp
      obtain ⟨p0, hp0⟩ := getElem?_ex (l := x.pages) (k := 0) (by omega)
      obtain ⟨pb, po, rfl, cp0, _⟩ := hpa 0 p0 hp0
      have hpbl : pb < wr.heap.size := World.block_lt_of_cell? _ _ cp0
      have hg0l : g0 < wr.heap.size := World.block_lt_of_cell? _ _ hcw
      have htl : (bs.take k).length = k := by rw [List.length_take]; have := unhide HL; omega
      have hR : wr.ownsRow (w.heap.size + 3) 120 2 v k (bkCells Q C 0 (bs.take k)) := by have := hS.row; rwa [htl] at this
      obtain ⟨X, hX⟩ : ∃ X, X = bkCells Q C 0 (bs.take k) := ⟨_, rfl⟩
      rw [← hX] at hR
      obtain ⟨Y, hY⟩ : ∃ Y, Y = pgCells x.pages := ⟨_, rfl⟩
      have hYl : Y.length = 4 * 4 := by rw [hY, pgCells_length, h4]
      have hY1 : ∀ u ∈ Y, u.oneCell' = true := by rw [hY]; exact pgCells_one _
      have hYn : ∀ j u, Y[j]? = some u → wr.cell? ⟨pb, po + j, none⟩ = some u := by rw [hY]; exact pagesAt_news hpa
      have HYN := hide hYn
      have hvnew : ∀ q, v.ownBlock = some q → q < wr.heap.size := fun q e => (hS.row.lt q e).2
      have HVN := hide hvnew
      have HS := hide hS
      have HX := hide hX
      have HY := hide hY
      have HX4 := hide (And.intro hx h4)
      have hadd : ∀ j : Nat, (⟨pb, po, none⟩ : Addr).add j = ⟨pb, po + j, none⟩ := fun j => Go.WideShapes.add_plain _ _ _
      have HADD := hide hadd
      have hlit : (wr.alloc (.cells #[] 59)).drew.ownsRow (w.heap.size + 3) 59 4 (.slice (some ⟨wr.heap.size, 0, none⟩) 0 0) 0 [] := World.ownsRow_lit (base := w.heap.size + 3) (e := 59) (size := 4) wr #[] 0 hsz (by unfold maxLen; omega) rfl
      have HLIT := hide hlit
      obtain ⟨i0, hi, hz0, hz1, hz2⟩ := info_parts infoBlock
      obtain ⟨j0, hj, hy0, hy1, hy2⟩ := info_parts infoPage
      have hvl0 : w.heap.size < wr.heap.size := by omega
      have hbx1 : w.heap.size < w.heap.size + 1 := by omega
      have hg01 : g0 < w.heap.size + 1 := by
        obtain ⟨g', o', _, _, e', h0', _⟩ := (unhide HH) k x (unhide HX4).1
        cases e'
        have h9 : g0 < w.heap.size := World.block_lt_of_cell? _ _ h0'
        omega
      clear hS hX hY hYn hadd hlit hx h4 hpa hp0 cp0 hvnew
      go_wp2
      have hmix : Tryz.prog.follows .mixedOrders = true := by kernel_rfl
      refine wp_region_held_drew (S := fun W => ∀ b o, b < w.heap.size + 1 → W.cell? ⟨b, o, none⟩ = wr.cell? ⟨b, o, none⟩) hmix (fun b o hb => rfl) (fun hHeld => ?_)
      refine wpAnyH_take (i := 0) (v := .pointer (some ⟨w.heap.size + 1 + 1, 0, none⟩)) rfl (by kernel_rfl) (by kernel_rfl) (by kernel_rfl) (fun _ _ _ h => h) (Or.inl ⟨by rfl, ?_⟩) hHeld ?_
      · (intro W hSW; go_simp)
      simp only [Act.put, List.setIfInBounds_toArray, List.set_cons_zero, List.set_cons_succ]
      refine wpAnyH_take (i := 2) (v := .pointer (some ⟨w.heap.size, 0, none⟩)) rfl (by kernel_rfl) (by kernel_rfl) (by kernel_rfl) (fun _ _ _ h => h) (Or.inl ⟨by rfl, ?_⟩) hHeld ?_
      · (intro W hSW; go_simp)
      simp only [Act.put, List.setIfInBounds_toArray, List.set_cons_zero, List.set_cons_succ]
      refine wpAnyH_take (i := 4) (v := .int .i64 (k : Int)) rfl (by kernel_rfl) (by kernel_rfl) (by kernel_rfl) (fun _ _ _ h => h) (Or.inl ⟨by rfl, ?_⟩) hHeld ?_
      · (intro W hSW; go_simp)
      simp only [Act.put, List.setIfInBounds_toArray, List.set_cons_zero, List.set_cons_succ]
      refine wpAnyH_take (i := 9) (v := .pointer (some ⟨w.heap.size, 0, none⟩)) rfl (by kernel_rfl) (by kernel_rfl) (by kernel_rfl) (fun _ _ _ h => h) (Or.inl ⟨by rfl, ?_⟩) hHeld ?_
      · (intro W hSW; go_simp)
      simp only [Act.put, List.setIfInBounds_toArray, List.set_cons_zero, List.set_cons_succ]
      refine wpAnyH_take (i := 11) (v := .int .i64 (k : Int)) rfl (by kernel_rfl) (by kernel_rfl) (by kernel_rfl) (fun _ _ _ h => h) (Or.inl ⟨by rfl, ?_⟩) hHeld ?_
      · (intro W hSW; go_simp)
      simp only [Act.put, List.setIfInBounds_toArray, List.set_cons_zero, List.set_cons_succ]
      refine wpAnyH_take (i := 3) (v := .slice (some ⟨g0, o0, none⟩) n c) rfl (by kernel_rfl) (by kernel_rfl) (by kernel_rfl) (fun _ _ _ h => h) (Or.inl ⟨by rfl, ?_⟩) hHeld ?_
      · (intro W hSW; go_simp)
      simp only [Act.put, List.setIfInBounds_toArray, List.set_cons_zero, List.set_cons_succ]
      refine wpAnyH_take (i := 5) (v := .pointer (some ⟨g0, o0 + k * 2, none⟩)) rfl (by kernel_rfl) (by kernel_rfl) (by kernel_rfl) (fun _ _ _ h => h) (Or.inl ⟨by rfl, ?_⟩) hHeld ?_
      · (intro W hSW; go_simp)
      simp only [Act.put, List.setIfInBounds_toArray, List.set_cons_zero, List.set_cons_succ]
      refine wpAnyH_take (i := 6) (v := .pointer (some ⟨g0, o0 + k * 2, none⟩)) rfl (by kernel_rfl) (by kernel_rfl) (by kernel_rfl) (fun _ _ _ h => h) (Or.inl ⟨by rfl, ?_⟩) hHeld ?_
      · (intro W hSW; go_simp)
      simp only [Act.put, List.setIfInBounds_toArray, List.set_cons_zero, List.set_cons_succ]
      refine wpAnyH_take (i := 7) (v := .int .i64 x.wear) rfl (by kernel_rfl) (by kernel_rfl) (by kernel_rfl) (fun _ _ _ h => h) (Or.inl ⟨by rfl, ?_⟩) hHeld ?_
      · (intro W hSW; go_simp)
      simp only [Act.put, List.setIfInBounds_toArray, List.set_cons_zero, List.set_cons_succ]
      refine wpAnyH_take (i := 10) (v := .slice (some ⟨g0, o0, none⟩) n c) rfl (by kernel_rfl) (by kernel_rfl) (by kernel_rfl) (fun _ _ _ h => h) (Or.inl ⟨by rfl, ?_⟩) hHeld ?_
      · (intro W hSW; go_simp)
      simp only [Act.put, List.setIfInBounds_toArray, List.set_cons_zero, List.set_cons_succ]
      refine wpAnyH_take (i := 12) (v := .pointer (some ⟨g0, o0 + k * 2, none⟩)) rfl (by kernel_rfl) (by kernel_rfl) (by kernel_rfl) (fun _ _ _ h => h) (Or.inl ⟨by rfl, ?_⟩) hHeld ?_
      · (intro W hSW; go_simp)
      simp only [Act.put, List.setIfInBounds_toArray, List.set_cons_zero, List.set_cons_succ]
      refine wpAnyH_take (i := 13) (v := .pointer (some ⟨g0, o0 + k * 2 + 1, none⟩)) rfl (by kernel_rfl) (by kernel_rfl) (by kernel_rfl) (fun _ _ _ h => h) (Or.inl ⟨by rfl, ?_⟩) hHeld ?_
      · (intro W hSW; go_simp)
      simp only [Act.put, List.setIfInBounds_toArray, List.set_cons_zero, List.set_cons_succ]
      refine wpAnyH_take (i := 14) (v := .slice (some ⟨pb, po, none⟩) 4 pc) rfl (by kernel_rfl) (by kernel_rfl) (by kernel_rfl) (fun _ _ _ h => h) (Or.inl ⟨by rfl, ?_⟩) hHeld ?_
      · (intro W hSW; go_simp)
      simp only [Act.put, List.setIfInBounds_toArray, List.set_cons_zero, List.set_cons_succ]
      refine wpAnyH_ready (rs := [1, 8]) (by kernel_rfl) (by simp) ?_
      refine AllReadyH.cons rfl (fun K hK => ?_) (AllReadyH.cons rfl (fun K hK => ?_) AllReadyH.nil)
      · go_simp
        refine hK.out _ _ ?_ (fun hHeld2 => ?_)
        · (first
            | assumption
            | (intro b o hb; rfl)
            | (intro b o hb; rw [cell_drew, cell_alloc_lt _ _ _ _ (by omega)])
            | (intro b o hb; exact (unhide HF).1 b o (by omega))
            | (intro b o hb; rw [cell_alloc_lt _ _ _ _ (by omega)]; exact (unhide HF).1 b o (by omega))
            | (intro b o hb; exact unhide HF8 b o (by omega) (by omega))
            | (intro b o hb; rw [World.cell?_setCell_other _ _ _ _ (by simp <;> omega)]; exact unhide HF8 b o (by omega) (by omega)))
        clear hK K hHeld
        have hHeld := hHeld2
        clear hHeld2
        try simp only [Act.put, List.setIfInBounds_toArray, List.set_cons_zero, List.set_cons_succ]
        refine wpAnyH_ready (rs := [8]) (by kernel_rfl) (by simp) ?_
        refine AllReadyH.cons rfl (fun K hK => ?_) AllReadyH.nil
        · go_simp
          refine hK.out _ _ ?_ (fun hHeld2 => ?_)
          · (first
              | assumption
              | (intro b o hb; rfl)
              | (intro b o hb; rw [cell_drew, cell_alloc_lt _ _ _ _ (by omega)])
              | (intro b o hb; exact (unhide HF).1 b o (by omega))
              | (intro b o hb; rw [cell_alloc_lt _ _ _ _ (by omega)]; exact (unhide HF).1 b o (by omega))
              | (intro b o hb; exact unhide HF8 b o (by omega) (by omega))
              | (intro b o hb; rw [World.cell?_setCell_other _ _ _ _ (by simp <;> omega)]; exact unhide HF8 b o (by omega) (by omega)))
          clear hK K hHeld
          have hHeld := hHeld2
          clear hHeld2
          try simp only [Act.put, List.setIfInBounds_toArray, List.set_cons_zero, List.set_cons_succ]
          refine wpAnyH_ready (rs := [15]) (by kernel_rfl) (by simp) ?_
          refine AllReadyH.cons rfl (fun K hK => ?_) AllReadyH.nil
          · refine step_append_lies _ rfl (.tmp 21) (.tmp 27) 118 rfl (w.heap.size + 3) 59 j0 _ 4 40 Tryz.underlying118 hj hy0 hy1 hy2 rfl (by decide) (.slice (some ⟨wr.heap.size, 0, none⟩) 0 0) 0 [] (by simp [Act.eval, Act.put]) (by exact unhide HLIT) ⟨pb, po, none⟩ 4 pc Y (by simp [Act.eval, Act.put]) hYl (by intro j u hu; rw [unhide HADD, cell_drew, cell_alloc_lt _ _ _ _ hpbl]; exact unhide HYN j u hu) hY1 (by omega) (by unfold maxLen; omega) (by omega) (by simp; omega) (wr.heap.size + 1) (by simp) ?_
            intro g2 cap2 w7 hown2 hgrow2 hat2 hlt2
            have e04 : 0 + 4 = 4 := rfl
            rw [e04] at hown2 ⊢
            have hsz7 : wr.heap.size + 1 ≤ w7.heap.size := by have := hgrow2.size; simpa using this
            have hfar : ∀ b o, b < wr.heap.size → w7.cell? ⟨b, o, none⟩ = wr.cell? ⟨b, o, none⟩ := fun b o hb => (hgrow2.cell_far ⟨b, o, none⟩ (by simp; omega) (by simp [Value.ownBlock]; omega)).trans (by rw [cell_drew, cell_alloc_lt _ _ _ _ hb])
            have hfarf : ∀ b o, b < wr.heap.size → w7.frozen? ⟨b, o, none⟩ = wr.frozen? ⟨b, o, none⟩ := fun b o hb => (hgrow2.frozen_far ⟨b, o, none⟩ (by simp; omega) (by simp [Value.ownBlock]; omega)).trans (by rw [frozen_drew, frozen_alloc_lt _ _ _ _ hb])
            have hk7 := (hfar _ 0 hvl).trans hcv
            have hf7 := (hfarf _ 0 hvl).trans hfv
            have hvl7 : w.heap.size + 1 + 1 < w7.heap.size := by omega
            have hR7 : w7.ownsRow (w.heap.size + 3) 120 2 v k X := World.ownsRow.kept (w := (wr.alloc (.cells #[] 59)).drew) (by exact hR.alloc _) hgrow2 (Or.inr (fun e => Nat.lt_irrefl _ (unhide HVN wr.heap.size e)))
            have HF := hide (And.intro hfar hfarf)
            clear hfar hfarf
            refine hK.out _ _ ?_ (fun hHeld2 => ?_)
            · (first
                | assumption
                | (intro b o hb; rfl)
                | (intro b o hb; rw [cell_drew, cell_alloc_lt _ _ _ _ (by omega)])
                | (intro b o hb; exact (unhide HF).1 b o (by omega))
                | (intro b o hb; rw [cell_alloc_lt _ _ _ _ (by omega)]; exact (unhide HF).1 b o (by omega))
                | (intro b o hb; exact unhide HF8 b o (by omega) (by omega))
                | (intro b o hb; rw [World.cell?_setCell_other _ _ _ _ (by simp <;> omega)]; exact unhide HF8 b o (by omega) (by omega)))
            clear hK K hHeld
            have hHeld := hHeld2
            clear hHeld2
            try simp only [Act.put, List.setIfInBounds_toArray, List.set_cons_zero, List.set_cons_succ]
            refine wpAnyH_take (i := 16) (v := .agg #[.int .i64 x.wear, .slice (some ⟨g2, 0, none⟩) 4 cap2]) rfl (by kernel_rfl) (by kernel_rfl) (by kernel_rfl) (fun _ _ _ h => h) (Or.inl ⟨by rfl, ?_⟩) hHeld ?_
            · (intro W hSW; go_simp)
            simp only [Act.put, List.setIfInBounds_toArray, List.set_cons_zero, List.set_cons_succ]
            refine wpAnyH_ready (rs := [17]) (by kernel_rfl) (by simp) ?_
            refine AllReadyH.cons rfl (fun K hK => ?_) AllReadyH.nil
            · go_simp
              refine hK.out _ _ ?_ (fun hHeld2 => ?_)
              · (first
                  | assumption
                  | (intro b o hb; rfl)
                  | (intro b o hb; rw [cell_drew, cell_alloc_lt _ _ _ _ (by omega)])
                  | (intro b o hb; exact (unhide HF).1 b o (by omega))
                  | (intro b o hb; rw [cell_alloc_lt _ _ _ _ (by omega)]; exact (unhide HF).1 b o (by omega))
                  | (intro b o hb; exact unhide HF8 b o (by omega) (by omega))
                  | (intro b o hb; rw [World.cell?_setCell_other _ _ _ _ (by simp <;> omega)]; exact unhide HF8 b o (by omega) (by omega)))
              clear hK K hHeld
              have hHeld := hHeld2
              clear hHeld2
              try simp only [Act.put, List.setIfInBounds_toArray, List.set_cons_zero, List.set_cons_succ]
              refine wpAnyH_ready (rs := [18]) (by kernel_rfl) (by simp) ?_
              refine AllReadyH.cons rfl (fun K hK => ?_) AllReadyH.nil
              · refine step_append_lies _ rfl (.tmp 14) (.tmp 30) 24 rfl (w.heap.size + 3) 120 i0 _ 2 32 Tryz.underlying24 hi hz0 hz1 hz2 rfl (by decide) v k X (by simp [Act.eval, Act.put]) (by exact hR7.alloc _) ⟨w7.heap.size, 0, none⟩ 1 1 [.int .i64 x.wear, .slice (some ⟨g2, 0, none⟩) 4 cap2] (by simp [Act.eval, Act.put]) rfl (World.news_of_block (cs := #[.int .i64 x.wear, .slice (some ⟨g2, 0, none⟩) 4 cap2]) (t := 120) (fr := (0, 0)) (by exact Go.Deep.blk_alloc_new _ _)) (by simp [Value.oneCell']) (by omega) (by unfold maxLen; omega) (by omega) (by simp; omega) (w7.heap.size + 1) (by simp) ?_
                intro g3 cap3 w8 hown3 hgrow3 hat3 hlt3
                have hk8 : w8.cell? ⟨w.heap.size + 1 + 1, 0, none⟩ = some v := (hgrow3.cell_far ⟨w.heap.size + 1 + 1, 0, none⟩ (by simp; omega) hne).trans ((cell_alloc_lt _ _ _ _ (by omega)).trans hk7)
                have hf8 : w8.frozen? ⟨w.heap.size + 1 + 1, 0, none⟩ = false := (hgrow3.frozen_far ⟨w.heap.size + 1 + 1, 0, none⟩ (by simp; omega) hne).trans ((frozen_alloc_lt _ _ _ _ (by omega)).trans hf7)
                have HF8 := hide (fun b o (hb : b < wr.heap.size) (hv' : b < w.heap.size + 1) => (hgrow3.cell_far ⟨b, o, none⟩ (by simp; omega) (fun e => by have := (hR7.lt b e.symm).1; omega)).trans ((cell_alloc_lt _ _ _ _ (by omega)).trans ((unhide HF).1 b o hb)))
                refine hK.out _ _ ?_ (fun hHeld2 => ?_)
                · (first
                    | assumption
                    | (intro b o hb; rfl)
                    | (intro b o hb; rw [cell_drew, cell_alloc_lt _ _ _ _ (by omega)])
                    | (intro b o hb; exact (unhide HF).1 b o (by omega))
                    | (intro b o hb; rw [cell_alloc_lt _ _ _ _ (by omega)]; exact (unhide HF).1 b o (by omega))
                    | (intro b o hb; exact unhide HF8 b o (by omega) (by omega))
                    | (intro b o hb; rw [World.cell?_setCell_other _ _ _ _ (by simp <;> omega)]; exact unhide HF8 b o (by omega) (by omega)))
                clear hK K hHeld
                have hHeld := hHeld2
                clear hHeld2
                try simp only [Act.put, List.setIfInBounds_toArray, List.set_cons_zero, List.set_cons_succ]
                refine wpAnyH_take (i := 19) (v := .pointer (some ⟨w.heap.size + 1 + 1, 0, none⟩)) rfl (by kernel_rfl) (by kernel_rfl) (by kernel_rfl) (fun _ _ _ h => h) (Or.inl ⟨by rfl, ?_⟩) hHeld ?_
                · (intro W hSW; go_simp)
                simp only [Act.put, List.setIfInBounds_toArray, List.set_cons_zero, List.set_cons_succ]
                refine wpAnyH_ready (rs := [20]) (by kernel_rfl) (by simp) ?_
                refine AllReadyH.cons rfl (fun K hK => ?_) AllReadyH.nil
                · go_simp
                  refine hK.out _ _ ?_ (fun hHeld2 => ?_)
                  · (first
                      | assumption
                      | (intro b o hb; rfl)
                      | (intro b o hb; rw [cell_drew, cell_alloc_lt _ _ _ _ (by omega)])
                      | (intro b o hb; exact (unhide HF).1 b o (by omega))
                      | (intro b o hb; rw [cell_alloc_lt _ _ _ _ (by omega)]; exact (unhide HF).1 b o (by omega))
                      | (intro b o hb; exact unhide HF8 b o (by omega) (by omega))
                      | (intro b o hb; rw [World.cell?_setCell_other _ _ _ _ (by simp <;> omega)]; exact unhide HF8 b o (by omega) (by omega)))
                  clear hK K hHeld
                  have hHeld := hHeld2
                  clear hHeld2
                  try simp only [Act.put, List.setIfInBounds_toArray, List.set_cons_zero, List.set_cons_succ]
                  refine wpAnyH_done (by kernel_rfl) ?_ _
                  go_wp2
                  go_roundw
                  case rel =>
                    obtain ⟨hx, h4⟩ := unhide HX4
                    rw [unhide HX] at hown3
                    rw [unhide HY] at hown2
                    have hq0 : wr.heap.size ≤ g2 := by
                      rcases hat2 with e | e
                      · simp [Value.ownBlock] at e; omega
                      · omega
                    have hBW : Below wr.heap.size wr w7 := Below.grown ((Below.refl wr.heap.size wr).alloc (Nat.le_refl _) _).drew hgrow2 (by simp) (fun j e => by simp [Value.ownBlock] at e; omega)
                    have hpush := (unhide HS).push (b := x) (q := g2) (c := cap2) (g := g3) (cap := cap3) (w1 := w8) (hBW.alloc hBW.size _) (by rw [h4]; exact hown2.alloc _) hq0 (by rw [htl, h4]; exact hown3) hgrow3 (by
                      rcases hat3 with e | e
                      · exact Or.inl e
                      · exact Or.inr (by simpa using e))
                    rw [htl] at hpush
                    have htk : bs.take k ++ [x] = bs.take (k + 1) := by rw [List.take_add_one, hx]; rfl
                    rw [htk] at hpush
                    have hbl : w8.heap[w.heap.size + 1 + 1]? = some (.cells #[v] 26 (0, 0)) := by
                      rw [hgrow3.block _ (by simp; omega) hne, Go.Deep.blk_alloc_lt _ _ _ (by omega), hBW.block _ (by omega)]
                      exact hv
                    have hsz8 := hgrow3.size
                    simp at hsz8
                    refine ⟨k + 1, _, _, _, by omega, by go_num, one_setCell hbl, hpush.setLow (by show w.heap.size + 1 + 1 < w.heap.size + 3; omega) _, ?_, by simp [World.setCell]; omega⟩
                    refine Below.setCell ?_ (by simp) _
                    refine Below.grown ((hB.trans (hBW.mono (by omega))).alloc (by omega) _) hgrow3 (by simp; omega) (fun j e => ?_)
                    have := ((unhide HS).row.lt j e).1
                    omega
                  case measure => simp [intOf]; omega
      · go_simp
        refine hK.out _ _ ?_ (fun hHeld2 => ?_)
        · (first
            | assumption
            | (intro b o hb; rfl)
            | (intro b o hb; rw [cell_drew, cell_alloc_lt _ _ _ _ (by omega)])
            | (intro b o hb; exact (unhide HF).1 b o (by omega))
            | (intro b o hb; rw [cell_alloc_lt _ _ _ _ (by omega)]; exact (unhide HF).1 b o (by omega))
            | (intro b o hb; exact unhide HF8 b o (by omega) (by omega))
            | (intro b o hb; rw [World.cell?_setCell_other _ _ _ _ (by simp <;> omega)]; exact unhide HF8 b o (by omega) (by omega)))
        clear hK K hHeld
        have hHeld := hHeld2
        clear hHeld2
        try simp only [Act.put, List.setIfInBounds_toArray, List.set_cons_zero, List.set_cons_succ]
        refine wpAnyH_ready (rs := [1, 15]) (by kernel_rfl) (by simp) ?_
        refine AllReadyH.cons rfl (fun K hK => ?_) (AllReadyH.cons rfl (fun K hK => ?_) AllReadyH.nil)
        · go_simp
          refine hK.out _ _ ?_ (fun hHeld2 => ?_)
          · (first
              | assumption
              | (intro b o hb; rfl)
              | (intro b o hb; rw [cell_drew, cell_alloc_lt _ _ _ _ (by omega)])
              | (intro b o hb; exact (unhide HF).1 b o (by omega))
              | (intro b o hb; rw [cell_alloc_lt _ _ _ _ (by omega)]; exact (unhide HF).1 b o (by omega))
              | (intro b o hb; exact unhide HF8 b o (by omega) (by omega))
              | (intro b o hb; rw [World.cell?_setCell_other _ _ _ _ (by simp <;> omega)]; exact unhide HF8 b o (by omega) (by omega)))
          clear hK K hHeld
          have hHeld := hHeld2
          clear hHeld2
          try simp only [Act.put, List.setIfInBounds_toArray, List.set_cons_zero, List.set_cons_succ]
          refine wpAnyH_ready (rs := [15]) (by kernel_rfl) (by simp) ?_
          refine AllReadyH.cons rfl (fun K hK => ?_) AllReadyH.nil
          · refine step_append_lies _ rfl (.tmp 21) (.tmp 27) 118 rfl (w.heap.size + 3) 59 j0 _ 4 40 Tryz.underlying118 hj hy0 hy1 hy2 rfl (by decide) (.slice (some ⟨wr.heap.size, 0, none⟩) 0 0) 0 [] (by simp [Act.eval, Act.put]) (by exact unhide HLIT) ⟨pb, po, none⟩ 4 pc Y (by simp [Act.eval, Act.put]) hYl (by intro j u hu; rw [unhide HADD, cell_drew, cell_alloc_lt _ _ _ _ hpbl]; exact unhide HYN j u hu) hY1 (by omega) (by unfold maxLen; omega) (by omega) (by simp; omega) (wr.heap.size + 1) (by simp) ?_
            intro g2 cap2 w7 hown2 hgrow2 hat2 hlt2
            have e04 : 0 + 4 = 4 := rfl
            rw [e04] at hown2 ⊢
            have hsz7 : wr.heap.size + 1 ≤ w7.heap.size := by have := hgrow2.size; simpa using this
            have hfar : ∀ b o, b < wr.heap.size → w7.cell? ⟨b, o, none⟩ = wr.cell? ⟨b, o, none⟩ := fun b o hb => (hgrow2.cell_far ⟨b, o, none⟩ (by simp; omega) (by simp [Value.ownBlock]; omega)).trans (by rw [cell_drew, cell_alloc_lt _ _ _ _ hb])
            have hfarf : ∀ b o, b < wr.heap.size → w7.frozen? ⟨b, o, none⟩ = wr.frozen? ⟨b, o, none⟩ := fun b o hb => (hgrow2.frozen_far ⟨b, o, none⟩ (by simp; omega) (by simp [Value.ownBlock]; omega)).trans (by rw [frozen_drew, frozen_alloc_lt _ _ _ _ hb])
            have hk7 := (hfar _ 0 hvl).trans hcv
            have hf7 := (hfarf _ 0 hvl).trans hfv
            have hvl7 : w.heap.size + 1 + 1 < w7.heap.size := by omega
            have hR7 : w7.ownsRow (w.heap.size + 3) 120 2 v k X := World.ownsRow.kept (w := (wr.alloc (.cells #[] 59)).drew) (by exact hR.alloc _) hgrow2 (Or.inr (fun e => Nat.lt_irrefl _ (unhide HVN wr.heap.size e)))
            have HF := hide (And.intro hfar hfarf)
            clear hfar hfarf
            refine hK.out _ _ ?_ (fun hHeld2 => ?_)
            · (first
                | assumption
                | (intro b o hb; rfl)
                | (intro b o hb; rw [cell_drew, cell_alloc_lt _ _ _ _ (by omega)])
                | (intro b o hb; exact (unhide HF).1 b o (by omega))
                | (intro b o hb; rw [cell_alloc_lt _ _ _ _ (by omega)]; exact (unhide HF).1 b o (by omega))
                | (intro b o hb; exact unhide HF8 b o (by omega) (by omega))
                | (intro b o hb; rw [World.cell?_setCell_other _ _ _ _ (by simp <;> omega)]; exact unhide HF8 b o (by omega) (by omega)))
            clear hK K hHeld
            have hHeld := hHeld2
            clear hHeld2
            try simp only [Act.put, List.setIfInBounds_toArray, List.set_cons_zero, List.set_cons_succ]
            refine wpAnyH_take (i := 16) (v := .agg #[.int .i64 x.wear, .slice (some ⟨g2, 0, none⟩) 4 cap2]) rfl (by kernel_rfl) (by kernel_rfl) (by kernel_rfl) (fun _ _ _ h => h) (Or.inl ⟨by rfl, ?_⟩) hHeld ?_
            · (intro W hSW; go_simp)
            simp only [Act.put, List.setIfInBounds_toArray, List.set_cons_zero, List.set_cons_succ]
            refine wpAnyH_ready (rs := [17]) (by kernel_rfl) (by simp) ?_
            refine AllReadyH.cons rfl (fun K hK => ?_) AllReadyH.nil
            · go_simp
              refine hK.out _ _ ?_ (fun hHeld2 => ?_)
              · (first
                  | assumption
                  | (intro b o hb; rfl)
                  | (intro b o hb; rw [cell_drew, cell_alloc_lt _ _ _ _ (by omega)])
                  | (intro b o hb; exact (unhide HF).1 b o (by omega))
                  | (intro b o hb; rw [cell_alloc_lt _ _ _ _ (by omega)]; exact (unhide HF).1 b o (by omega))
                  | (intro b o hb; exact unhide HF8 b o (by omega) (by omega))
                  | (intro b o hb; rw [World.cell?_setCell_other _ _ _ _ (by simp <;> omega)]; exact unhide HF8 b o (by omega) (by omega)))
              clear hK K hHeld
              have hHeld := hHeld2
              clear hHeld2
              try simp only [Act.put, List.setIfInBounds_toArray, List.set_cons_zero, List.set_cons_succ]
              refine wpAnyH_ready (rs := [18]) (by kernel_rfl) (by simp) ?_
              refine AllReadyH.cons rfl (fun K hK => ?_) AllReadyH.nil
              · refine step_append_lies _ rfl (.tmp 14) (.tmp 30) 24 rfl (w.heap.size + 3) 120 i0 _ 2 32 Tryz.underlying24 hi hz0 hz1 hz2 rfl (by decide) v k X (by simp [Act.eval, Act.put]) (by exact hR7.alloc _) ⟨w7.heap.size, 0, none⟩ 1 1 [.int .i64 x.wear, .slice (some ⟨g2, 0, none⟩) 4 cap2] (by simp [Act.eval, Act.put]) rfl (World.news_of_block (cs := #[.int .i64 x.wear, .slice (some ⟨g2, 0, none⟩) 4 cap2]) (t := 120) (fr := (0, 0)) (by exact Go.Deep.blk_alloc_new _ _)) (by simp [Value.oneCell']) (by omega) (by unfold maxLen; omega) (by omega) (by simp; omega) (w7.heap.size + 1) (by simp) ?_
                intro g3 cap3 w8 hown3 hgrow3 hat3 hlt3
                have hk8 : w8.cell? ⟨w.heap.size + 1 + 1, 0, none⟩ = some v := (hgrow3.cell_far ⟨w.heap.size + 1 + 1, 0, none⟩ (by simp; omega) hne).trans ((cell_alloc_lt _ _ _ _ (by omega)).trans hk7)
                have hf8 : w8.frozen? ⟨w.heap.size + 1 + 1, 0, none⟩ = false := (hgrow3.frozen_far ⟨w.heap.size + 1 + 1, 0, none⟩ (by simp; omega) hne).trans ((frozen_alloc_lt _ _ _ _ (by omega)).trans hf7)
                have HF8 := hide (fun b o (hb : b < wr.heap.size) (hv' : b < w.heap.size + 1) => (hgrow3.cell_far ⟨b, o, none⟩ (by simp; omega) (fun e => by have := (hR7.lt b e.symm).1; omega)).trans ((cell_alloc_lt _ _ _ _ (by omega)).trans ((unhide HF).1 b o hb)))
                refine hK.out _ _ ?_ (fun hHeld2 => ?_)
                · (first
                    | assumption
                    | (intro b o hb; rfl)
                    | (intro b o hb; rw [cell_drew, cell_alloc_lt _ _ _ _ (by omega)])
                    | (intro b o hb; exact (unhide HF).1 b o (by omega))
                    | (intro b o hb; rw [cell_alloc_lt _ _ _ _ (by omega)]; exact (unhide HF).1 b o (by omega))
                    | (intro b o hb; exact unhide HF8 b o (by omega) (by omega))
                    | (intro b o hb; rw [World.cell?_setCell_other _ _ _ _ (by simp <;> omega)]; exact unhide HF8 b o (by omega) (by omega)))
                clear hK K hHeld
                have hHeld := hHeld2
                clear hHeld2
                try simp only [Act.put, List.setIfInBounds_toArray, List.set_cons_zero, List.set_cons_succ]
                refine wpAnyH_take (i := 19) (v := .pointer (some ⟨w.heap.size + 1 + 1, 0, none⟩)) rfl (by kernel_rfl) (by kernel_rfl) (by kernel_rfl) (fun _ _ _ h => h) (Or.inl ⟨by rfl, ?_⟩) hHeld ?_
                · (intro W hSW; go_simp)
                simp only [Act.put, List.setIfInBounds_toArray, List.set_cons_zero, List.set_cons_succ]
                refine wpAnyH_ready (rs := [20]) (by kernel_rfl) (by simp) ?_
                refine AllReadyH.cons rfl (fun K hK => ?_) AllReadyH.nil
                · go_simp
                  refine hK.out _ _ ?_ (fun hHeld2 => ?_)
                  · (first
                      | assumption
                      | (intro b o hb; rfl)
                      | (intro b o hb; rw [cell_drew, cell_alloc_lt _ _ _ _ (by omega)])
                      | (intro b o hb; exact (unhide HF).1 b o (by omega))
                      | (intro b o hb; rw [cell_alloc_lt _ _ _ _ (by omega)]; exact (unhide HF).1 b o (by omega))
                      | (intro b o hb; exact unhide HF8 b o (by omega) (by omega))
                      | (intro b o hb; rw [World.cell?_setCell_other _ _ _ _ (by simp <;> omega)]; exact unhide HF8 b o (by omega) (by omega)))
                  clear hK K hHeld
                  have hHeld := hHeld2
                  clear hHeld2
                  try simp only [Act.put, List.setIfInBounds_toArray, List.set_cons_zero, List.set_cons_succ]
                  refine wpAnyH_done (by kernel_rfl) ?_ _
                  go_wp2
                  go_roundw
                  case rel =>
                    obtain ⟨hx, h4⟩ := unhide HX4
                    rw [unhide HX] at hown3
                    rw [unhide HY] at hown2
                    have hq0 : wr.heap.size ≤ g2 := by
                      rcases hat2 with e | e
                      · simp [Value.ownBlock] at e; omega
                      · omega
                    have hBW : Below wr.heap.size wr w7 := Below.grown ((Below.refl wr.heap.size wr).alloc (Nat.le_refl _) _).drew hgrow2 (by simp) (fun j e => by simp [Value.ownBlock] at e; omega)
                    have hpush := (unhide HS).push (b := x) (q := g2) (c := cap2) (g := g3) (cap := cap3) (w1 := w8) (hBW.alloc hBW.size _) (by rw [h4]; exact hown2.alloc _) hq0 (by rw [htl, h4]; exact hown3) hgrow3 (by
                      rcases hat3 with e | e
                      · exact Or.inl e
                      · exact Or.inr (by simpa using e))
                    rw [htl] at hpush
                    have htk : bs.take k ++ [x] = bs.take (k + 1) := by rw [List.take_add_one, hx]; rfl
                    rw [htk] at hpush
                    have hbl : w8.heap[w.heap.size + 1 + 1]? = some (.cells #[v] 26 (0, 0)) := by
                      rw [hgrow3.block _ (by simp; omega) hne, Go.Deep.blk_alloc_lt _ _ _ (by omega), hBW.block _ (by omega)]
                      exact hv
                    have hsz8 := hgrow3.size
                    simp at hsz8
                    refine ⟨k + 1, _, _, _, by omega, by go_num, one_setCell hbl, hpush.setLow (by show w.heap.size + 1 + 1 < w.heap.size + 3; omega) _, ?_, by simp [World.setCell]; omega⟩
                    refine Below.setCell ?_ (by simp) _
                    refine Below.grown ((hB.trans (hBW.mono (by omega))).alloc (by omega) _) hgrow3 (by simp; omega) (fun j e => ?_)
                    have := ((unhide HS).row.lt j e).1
                    omega
                  case measure => simp [intOf]; omega
        · refine step_append_lies _ rfl (.tmp 21) (.tmp 27) 118 rfl (w.heap.size + 3) 59 j0 _ 4 40 Tryz.underlying118 hj hy0 hy1 hy2 rfl (by decide) (.slice (some ⟨wr.heap.size, 0, none⟩) 0 0) 0 [] (by simp [Act.eval, Act.put]) (by exact unhide HLIT) ⟨pb, po, none⟩ 4 pc Y (by simp [Act.eval, Act.put]) hYl (by intro j u hu; rw [unhide HADD, cell_drew, cell_alloc_lt _ _ _ _ hpbl]; exact unhide HYN j u hu) hY1 (by omega) (by unfold maxLen; omega) (by omega) (by simp; omega) (wr.heap.size + 1) (by simp) ?_
          intro g2 cap2 w7 hown2 hgrow2 hat2 hlt2
          have e04 : 0 + 4 = 4 := rfl
          rw [e04] at hown2 ⊢
          have hsz7 : wr.heap.size + 1 ≤ w7.heap.size := by have := hgrow2.size; simpa using this
          have hfar : ∀ b o, b < wr.heap.size → w7.cell? ⟨b, o, none⟩ = wr.cell? ⟨b, o, none⟩ := fun b o hb => (hgrow2.cell_far ⟨b, o, none⟩ (by simp; omega) (by simp [Value.ownBlock]; omega)).trans (by rw [cell_drew, cell_alloc_lt _ _ _ _ hb])
          have hfarf : ∀ b o, b < wr.heap.size → w7.frozen? ⟨b, o, none⟩ = wr.frozen? ⟨b, o, none⟩ := fun b o hb => (hgrow2.frozen_far ⟨b, o, none⟩ (by simp; omega) (by simp [Value.ownBlock]; omega)).trans (by rw [frozen_drew, frozen_alloc_lt _ _ _ _ hb])
          have hk7 := (hfar _ 0 hvl).trans hcv
          have hf7 := (hfarf _ 0 hvl).trans hfv
          have hvl7 : w.heap.size + 1 + 1 < w7.heap.size := by omega
          have hR7 : w7.ownsRow (w.heap.size + 3) 120 2 v k X := World.ownsRow.kept (w := (wr.alloc (.cells #[] 59)).drew) (by exact hR.alloc _) hgrow2 (Or.inr (fun e => Nat.lt_irrefl _ (unhide HVN wr.heap.size e)))
          have HF := hide (And.intro hfar hfarf)
          clear hfar hfarf
          refine hK.out _ _ ?_ (fun hHeld2 => ?_)
          · (first
              | assumption
              | (intro b o hb; rfl)
              | (intro b o hb; rw [cell_drew, cell_alloc_lt _ _ _ _ (by omega)])
              | (intro b o hb; exact (unhide HF).1 b o (by omega))
              | (intro b o hb; rw [cell_alloc_lt _ _ _ _ (by omega)]; exact (unhide HF).1 b o (by omega))
              | (intro b o hb; exact unhide HF8 b o (by omega) (by omega))
              | (intro b o hb; rw [World.cell?_setCell_other _ _ _ _ (by simp <;> omega)]; exact unhide HF8 b o (by omega) (by omega)))
          clear hK K hHeld
          have hHeld := hHeld2
          clear hHeld2
          try simp only [Act.put, List.setIfInBounds_toArray, List.set_cons_zero, List.set_cons_succ]
          refine wpAnyH_take (i := 16) (v := .agg #[.int .i64 x.wear, .slice (some ⟨g2, 0, none⟩) 4 cap2]) rfl (by kernel_rfl) (by kernel_rfl) (by kernel_rfl) (fun _ _ _ h => h) (Or.inl ⟨by rfl, ?_⟩) hHeld ?_
          · (intro W hSW; go_simp)
          simp only [Act.put, List.setIfInBounds_toArray, List.set_cons_zero, List.set_cons_succ]
          refine wpAnyH_ready (rs := [1, 17]) (by kernel_rfl) (by simp) ?_
          refine AllReadyH.cons rfl (fun K hK => ?_) (AllReadyH.cons rfl (fun K hK => ?_) AllReadyH.nil)
          · go_simp
            refine hK.out _ _ ?_ (fun hHeld2 => ?_)
            · (first
                | assumption
                | (intro b o hb; rfl)
                | (intro b o hb; rw [cell_drew, cell_alloc_lt _ _ _ _ (by omega)])
                | (intro b o hb; exact (unhide HF).1 b o (by omega))
                | (intro b o hb; rw [cell_alloc_lt _ _ _ _ (by omega)]; exact (unhide HF).1 b o (by omega))
                | (intro b o hb; exact unhide HF8 b o (by omega) (by omega))
                | (intro b o hb; rw [World.cell?_setCell_other _ _ _ _ (by simp <;> omega)]; exact unhide HF8 b o (by omega) (by omega)))
            clear hK K hHeld
            have hHeld := hHeld2
            clear hHeld2
            try simp only [Act.put, List.setIfInBounds_toArray, List.set_cons_zero, List.set_cons_succ]
            refine wpAnyH_ready (rs := [17]) (by kernel_rfl) (by simp) ?_
            refine AllReadyH.cons rfl (fun K hK => ?_) AllReadyH.nil
            · go_simp
              refine hK.out _ _ ?_ (fun hHeld2 => ?_)
              · (first
                  | assumption
                  | (intro b o hb; rfl)
                  | (intro b o hb; rw [cell_drew, cell_alloc_lt _ _ _ _ (by omega)])
                  | (intro b o hb; exact (unhide HF).1 b o (by omega))
                  | (intro b o hb; rw [cell_alloc_lt _ _ _ _ (by omega)]; exact (unhide HF).1 b o (by omega))
                  | (intro b o hb; exact unhide HF8 b o (by omega) (by omega))
                  | (intro b o hb; rw [World.cell?_setCell_other _ _ _ _ (by simp <;> omega)]; exact unhide HF8 b o (by omega) (by omega)))
              clear hK K hHeld
              have hHeld := hHeld2
              clear hHeld2
              try simp only [Act.put, List.setIfInBounds_toArray, List.set_cons_zero, List.set_cons_succ]
              refine wpAnyH_ready (rs := [18]) (by kernel_rfl) (by simp) ?_
              refine AllReadyH.cons rfl (fun K hK => ?_) AllReadyH.nil
              · refine step_append_lies _ rfl (.tmp 14) (.tmp 30) 24 rfl (w.heap.size + 3) 120 i0 _ 2 32 Tryz.underlying24 hi hz0 hz1 hz2 rfl (by decide) v k X (by simp [Act.eval, Act.put]) (by exact hR7.alloc _) ⟨w7.heap.size, 0, none⟩ 1 1 [.int .i64 x.wear, .slice (some ⟨g2, 0, none⟩) 4 cap2] (by simp [Act.eval, Act.put]) rfl (World.news_of_block (cs := #[.int .i64 x.wear, .slice (some ⟨g2, 0, none⟩) 4 cap2]) (t := 120) (fr := (0, 0)) (by exact Go.Deep.blk_alloc_new _ _)) (by simp [Value.oneCell']) (by omega) (by unfold maxLen; omega) (by omega) (by simp; omega) (w7.heap.size + 1) (by simp) ?_
                intro g3 cap3 w8 hown3 hgrow3 hat3 hlt3
                have hk8 : w8.cell? ⟨w.heap.size + 1 + 1, 0, none⟩ = some v := (hgrow3.cell_far ⟨w.heap.size + 1 + 1, 0, none⟩ (by simp; omega) hne).trans ((cell_alloc_lt _ _ _ _ (by omega)).trans hk7)
                have hf8 : w8.frozen? ⟨w.heap.size + 1 + 1, 0, none⟩ = false := (hgrow3.frozen_far ⟨w.heap.size + 1 + 1, 0, none⟩ (by simp; omega) hne).trans ((frozen_alloc_lt _ _ _ _ (by omega)).trans hf7)
                have HF8 := hide (fun b o (hb : b < wr.heap.size) (hv' : b < w.heap.size + 1) => (hgrow3.cell_far ⟨b, o, none⟩ (by simp; omega) (fun e => by have := (hR7.lt b e.symm).1; omega)).trans ((cell_alloc_lt _ _ _ _ (by omega)).trans ((unhide HF).1 b o hb)))
                refine hK.out _ _ ?_ (fun hHeld2 => ?_)
                · (first
                    | assumption
                    | (intro b o hb; rfl)
                    | (intro b o hb; rw [cell_drew, cell_alloc_lt _ _ _ _ (by omega)])
                    | (intro b o hb; exact (unhide HF).1 b o (by omega))
                    | (intro b o hb; rw [cell_alloc_lt _ _ _ _ (by omega)]; exact (unhide HF).1 b o (by omega))
                    | (intro b o hb; exact unhide HF8 b o (by omega) (by omega))
                    | (intro b o hb; rw [World.cell?_setCell_other _ _ _ _ (by simp <;> omega)]; exact unhide HF8 b o (by omega) (by omega)))
                clear hK K hHeld
                have hHeld := hHeld2
                clear hHeld2
                try simp only [Act.put, List.setIfInBounds_toArray, List.set_cons_zero, List.set_cons_succ]
                refine wpAnyH_take (i := 19) (v := .pointer (some ⟨w.heap.size + 1 + 1, 0, none⟩)) rfl (by kernel_rfl) (by kernel_rfl) (by kernel_rfl) (fun _ _ _ h => h) (Or.inl ⟨by rfl, ?_⟩) hHeld ?_
                · (intro W hSW; go_simp)
                simp only [Act.put, List.setIfInBounds_toArray, List.set_cons_zero, List.set_cons_succ]
                refine wpAnyH_ready (rs := [20]) (by kernel_rfl) (by simp) ?_
                refine AllReadyH.cons rfl (fun K hK => ?_) AllReadyH.nil
                · go_simp
                  refine hK.out _ _ ?_ (fun hHeld2 => ?_)
                  · (first
                      | assumption
                      | (intro b o hb; rfl)
                      | (intro b o hb; rw [cell_drew, cell_alloc_lt _ _ _ _ (by omega)])
                      | (intro b o hb; exact (unhide HF).1 b o (by omega))
                      | (intro b o hb; rw [cell_alloc_lt _ _ _ _ (by omega)]; exact (unhide HF).1 b o (by omega))
                      | (intro b o hb; exact unhide HF8 b o (by omega) (by omega))
                      | (intro b o hb; rw [World.cell?_setCell_other _ _ _ _ (by simp <;> omega)]; exact unhide HF8 b o (by omega) (by omega)))
                  clear hK K hHeld
                  have hHeld := hHeld2
                  clear hHeld2
                  try simp only [Act.put, List.setIfInBounds_toArray, List.set_cons_zero, List.set_cons_succ]
                  refine wpAnyH_done (by kernel_rfl) ?_ _
                  go_wp2
                  go_roundw
                  case rel =>
                    obtain ⟨hx, h4⟩ := unhide HX4
                    rw [unhide HX] at hown3
                    rw [unhide HY] at hown2
                    have hq0 : wr.heap.size ≤ g2 := by
                      rcases hat2 with e | e
                      · simp [Value.ownBlock] at e; omega
                      · omega
                    have hBW : Below wr.heap.size wr w7 := Below.grown ((Below.refl wr.heap.size wr).alloc (Nat.le_refl _) _).drew hgrow2 (by simp) (fun j e => by simp [Value.ownBlock] at e; omega)
                    have hpush := (unhide HS).push (b := x) (q := g2) (c := cap2) (g := g3) (cap := cap3) (w1 := w8) (hBW.alloc hBW.size _) (by rw [h4]; exact hown2.alloc _) hq0 (by rw [htl, h4]; exact hown3) hgrow3 (by
                      rcases hat3 with e | e
                      · exact Or.inl e
                      · exact Or.inr (by simpa using e))
                    rw [htl] at hpush
                    have htk : bs.take k ++ [x] = bs.take (k + 1) := by rw [List.take_add_one, hx]; rfl
                    rw [htk] at hpush
                    have hbl : w8.heap[w.heap.size + 1 + 1]? = some (.cells #[v] 26 (0, 0)) := by
                      rw [hgrow3.block _ (by simp; omega) hne, Go.Deep.blk_alloc_lt _ _ _ (by omega), hBW.block _ (by omega)]
                      exact hv
                    have hsz8 := hgrow3.size
                    simp at hsz8
                    refine ⟨k + 1, _, _, _, by omega, by go_num, one_setCell hbl, hpush.setLow (by show w.heap.size + 1 + 1 < w.heap.size + 3; omega) _, ?_, by simp [World.setCell]; omega⟩
                    refine Below.setCell ?_ (by simp) _
                    refine Below.grown ((hB.trans (hBW.mono (by omega))).alloc (by omega) _) hgrow3 (by simp; omega) (fun j e => ?_)
                    have := ((unhide HS).row.lt j e).1
                    omega
                  case measure => simp [intOf]; omega
          · go_simp
            refine hK.out _ _ ?_ (fun hHeld2 => ?_)
            · (first
                | assumption
                | (intro b o hb; rfl)
                | (intro b o hb; rw [cell_drew, cell_alloc_lt _ _ _ _ (by omega)])
                | (intro b o hb; exact (unhide HF).1 b o (by omega))
                | (intro b o hb; rw [cell_alloc_lt _ _ _ _ (by omega)]; exact (unhide HF).1 b o (by omega))
                | (intro b o hb; exact unhide HF8 b o (by omega) (by omega))
                | (intro b o hb; rw [World.cell?_setCell_other _ _ _ _ (by simp <;> omega)]; exact unhide HF8 b o (by omega) (by omega)))
            clear hK K hHeld
            have hHeld := hHeld2
            clear hHeld2
            try simp only [Act.put, List.setIfInBounds_toArray, List.set_cons_zero, List.set_cons_succ]
            refine wpAnyH_ready (rs := [1]) (by kernel_rfl) (by simp) ?_
            refine AllReadyH.cons rfl (fun K hK => ?_) AllReadyH.nil
            · go_simp
              refine hK.out _ _ ?_ (fun hHeld2 => ?_)
              · (first
                  | assumption
                  | (intro b o hb; rfl)
                  | (intro b o hb; rw [cell_drew, cell_alloc_lt _ _ _ _ (by omega)])
                  | (intro b o hb; exact (unhide HF).1 b o (by omega))
                  | (intro b o hb; rw [cell_alloc_lt _ _ _ _ (by omega)]; exact (unhide HF).1 b o (by omega))
                  | (intro b o hb; exact unhide HF8 b o (by omega) (by omega))
                  | (intro b o hb; rw [World.cell?_setCell_other _ _ _ _ (by simp <;> omega)]; exact unhide HF8 b o (by omega) (by omega)))
              clear hK K hHeld
              have hHeld := hHeld2
              clear hHeld2
              try simp only [Act.put, List.setIfInBounds_toArray, List.set_cons_zero, List.set_cons_succ]
              refine wpAnyH_ready (rs := [18]) (by kernel_rfl) (by simp) ?_
              refine AllReadyH.cons rfl (fun K hK => ?_) AllReadyH.nil
              · refine step_append_lies _ rfl (.tmp 14) (.tmp 30) 24 rfl (w.heap.size + 3) 120 i0 _ 2 32 Tryz.underlying24 hi hz0 hz1 hz2 rfl (by decide) v k X (by simp [Act.eval, Act.put]) (by exact hR7.alloc _) ⟨w7.heap.size, 0, none⟩ 1 1 [.int .i64 x.wear, .slice (some ⟨g2, 0, none⟩) 4 cap2] (by simp [Act.eval, Act.put]) rfl (World.news_of_block (cs := #[.int .i64 x.wear, .slice (some ⟨g2, 0, none⟩) 4 cap2]) (t := 120) (fr := (0, 0)) (by exact Go.Deep.blk_alloc_new _ _)) (by simp [Value.oneCell']) (by omega) (by unfold maxLen; omega) (by omega) (by simp; omega) (w7.heap.size + 1) (by simp) ?_
                intro g3 cap3 w8 hown3 hgrow3 hat3 hlt3
                have hk8 : w8.cell? ⟨w.heap.size + 1 + 1, 0, none⟩ = some v := (hgrow3.cell_far ⟨w.heap.size + 1 + 1, 0, none⟩ (by simp; omega) hne).trans ((cell_alloc_lt _ _ _ _ (by omega)).trans hk7)
                have hf8 : w8.frozen? ⟨w.heap.size + 1 + 1, 0, none⟩ = false := (hgrow3.frozen_far ⟨w.heap.size + 1 + 1, 0, none⟩ (by simp; omega) hne).trans ((frozen_alloc_lt _ _ _ _ (by omega)).trans hf7)
                have HF8 := hide (fun b o (hb : b < wr.heap.size) (hv' : b < w.heap.size + 1) => (hgrow3.cell_far ⟨b, o, none⟩ (by simp; omega) (fun e => by have := (hR7.lt b e.symm).1; omega)).trans ((cell_alloc_lt _ _ _ _ (by omega)).trans ((unhide HF).1 b o hb)))
                refine hK.out _ _ ?_ (fun hHeld2 => ?_)
                · (first
                    | assumption
                    | (intro b o hb; rfl)
                    | (intro b o hb; rw [cell_drew, cell_alloc_lt _ _ _ _ (by omega)])
                    | (intro b o hb; exact (unhide HF).1 b o (by omega))
                    | (intro b o hb; rw [cell_alloc_lt _ _ _ _ (by omega)]; exact (unhide HF).1 b o (by omega))
                    | (intro b o hb; exact unhide HF8 b o (by omega) (by omega))
                    | (intro b o hb; rw [World.cell?_setCell_other _ _ _ _ (by simp <;> omega)]; exact unhide HF8 b o (by omega) (by omega)))
                clear hK K hHeld
                have hHeld := hHeld2
                clear hHeld2
                try simp only [Act.put, List.setIfInBounds_toArray, List.set_cons_zero, List.set_cons_succ]
                refine wpAnyH_take (i := 19) (v := .pointer (some ⟨w.heap.size + 1 + 1, 0, none⟩)) rfl (by kernel_rfl) (by kernel_rfl) (by kernel_rfl) (fun _ _ _ h => h) (Or.inl ⟨by rfl, ?_⟩) hHeld ?_
                · (intro W hSW; go_simp)
                simp only [Act.put, List.setIfInBounds_toArray, List.set_cons_zero, List.set_cons_succ]
                refine wpAnyH_ready (rs := [20]) (by kernel_rfl) (by simp) ?_
                refine AllReadyH.cons rfl (fun K hK => ?_) AllReadyH.nil
                · go_simp
                  refine hK.out _ _ ?_ (fun hHeld2 => ?_)
                  · (first
                      | assumption
                      | (intro b o hb; rfl)
                      | (intro b o hb; rw [cell_drew, cell_alloc_lt _ _ _ _ (by omega)])
                      | (intro b o hb; exact (unhide HF).1 b o (by omega))
                      | (intro b o hb; rw [cell_alloc_lt _ _ _ _ (by omega)]; exact (unhide HF).1 b o (by omega))
                      | (intro b o hb; exact unhide HF8 b o (by omega) (by omega))
                      | (intro b o hb; rw [World.cell?_setCell_other _ _ _ _ (by simp <;> omega)]; exact unhide HF8 b o (by omega) (by omega)))
                  clear hK K hHeld
                  have hHeld := hHeld2
                  clear hHeld2
                  try simp only [Act.put, List.setIfInBounds_toArray, List.set_cons_zero, List.set_cons_succ]
                  refine wpAnyH_done (by kernel_rfl) ?_ _
                  go_wp2
                  go_roundw
                  case rel =>
                    obtain ⟨hx, h4⟩ := unhide HX4
                    rw [unhide HX] at hown3
                    rw [unhide HY] at hown2
                    have hq0 : wr.heap.size ≤ g2 := by
                      rcases hat2 with e | e
                      · simp [Value.ownBlock] at e; omega
                      · omega
                    have hBW : Below wr.heap.size wr w7 := Below.grown ((Below.refl wr.heap.size wr).alloc (Nat.le_refl _) _).drew hgrow2 (by simp) (fun j e => by simp [Value.ownBlock] at e; omega)
                    have hpush := (unhide HS).push (b := x) (q := g2) (c := cap2) (g := g3) (cap := cap3) (w1 := w8) (hBW.alloc hBW.size _) (by rw [h4]; exact hown2.alloc _) hq0 (by rw [htl, h4]; exact hown3) hgrow3 (by
                      rcases hat3 with e | e
                      · exact Or.inl e
                      · exact Or.inr (by simpa using e))
                    rw [htl] at hpush
                    have htk : bs.take k ++ [x] = bs.take (k + 1) := by rw [List.take_add_one, hx]; rfl
                    rw [htk] at hpush
                    have hbl : w8.heap[w.heap.size + 1 + 1]? = some (.cells #[v] 26 (0, 0)) := by
                      rw [hgrow3.block _ (by simp; omega) hne, Go.Deep.blk_alloc_lt _ _ _ (by omega), hBW.block _ (by omega)]
                      exact hv
                    have hsz8 := hgrow3.size
                    simp at hsz8
                    refine ⟨k + 1, _, _, _, by omega, by go_num, one_setCell hbl, hpush.setLow (by show w.heap.size + 1 + 1 < w.heap.size + 3; omega) _, ?_, by simp [World.setCell]; omega⟩
                    refine Below.setCell ?_ (by simp) _
                    refine Below.grown ((hB.trans (hBW.mono (by omega))).alloc (by omega) _) hgrow3 (by simp; omega) (fun j e => ?_)
                    have := ((unhide HS).row.lt j e).1
                    omega
                  case measure => simp [intOf]; omega
    · have hk' : k = bs.length := by have := unhide HL; omega
      rw [hk', List.take_length] at hS
      obtain ⟨va, vc, rfl, _⟩ := hS.form
      have hcv := cell_of_one hv
      have hfv := free_of_one hv
      have HSS := hide hS
      obtain ⟨nn, hnn⟩ : ∃ nn, nn = bs.length := ⟨_, rfl⟩
      rw [← hnn] at hcv HSS
      clear hS hv hnn hk'
      go_wp2
      refine bodyPost_ret (v := .agg #[.slice va nn vc]) (by simp [results, Tryz.results80, go_sem, hres]) rfl ⟨.slice va nn vc, Q, C, rfl, ?_, ?_⟩
      · exact (unhide HSS).setLow (a := ⟨w.heap.size + 1, 0, none⟩) (by show w.heap.size + 1 < w.heap.size + 3; omega) _
      · exact hW.setCell (by simp) _

end Go.Proofs.YtalgkmellbamgaaGreat

/- A chip held in arrays: 205 cells in one row. No program is named here. -/
namespace Go.Proofs.YtalgkmellbamgaaGreat
open Go.RowKit
set_option linter.unusedVariables false
set_option linter.unusedSimpArgs false

structure CC where
  count : Int
  wear : Nat → Int
  page : Nat → Nat → Pg

/-- What stands in cell i. -/
def ccF (m : CC) (i : Nat) : Value :=
  if i = 0 then .int .i64 m.count
  else if (i - 1) % 17 = 0 then .int .i64 (m.wear ((i - 1) / 17))
  else pgV (m.page ((i - 1) / 17) (((i - 1) % 17 - 1) / 4)) (((i - 1) % 17 - 1) % 4)
def ccA (m : CC) : Array Value := Array.ofFn (n := 205) fun i => ccF m i.val

theorem ccA_size (m : CC) : (ccA m).size = 205 := by simp [ccA]
theorem ccA_get (m : CC) {i : Nat} (hi : i < 205) : (ccA m)[i]? = some (ccF m i) := by simp [ccA, hi]
theorem ccA_count (m : CC) : (ccA m)[0]? = some (.int .i64 m.count) := by rw [ccA_get m (by omega)]; rfl
theorem ccA_wear (m : CC) {b : Nat} (hb : b < 12) : (ccA m)[1 + b * 17]? = some (.int .i64 (m.wear b)) := by
  rw [ccA_get m (by omega)]
  unfold ccF
  rw [if_neg (by omega), if_pos (by omega), show (1 + b * 17 - 1) / 17 = b by omega]
theorem ccA_page (m : CC) {b k j : Nat} (hb : b < 12) (hk : k < 4) (hj : j < 4) : (ccA m)[1 + b * 17 + 1 + k * 4 + j]? = some (pgV (m.page b k) j) := by
  rw [ccA_get m (by omega)]
  unfold ccF
  have h4 : k = 0 ∨ k = 1 ∨ k = 2 ∨ k = 3 := by omega
  have e1 : (1 + b * 17 + 1 + k * 4 + j - 1) / 17 = b := by rcases h4 with rfl | rfl | rfl | rfl <;> omega
  have e2 : (1 + b * 17 + 1 + k * 4 + j - 1) % 17 = 1 + k * 4 + j := by rcases h4 with rfl | rfl | rfl | rfl <;> omega
  rw [if_neg (by omega), if_neg (by omega), e1, e2, show (1 + k * 4 + j - 1) / 4 = k by omega, show (1 + k * 4 + j - 1) % 4 = j by omega]

theorem pgV_one (p : Pg) (j : Nat) : (pgV p j).oneCell' = true := by
  match j with
  | 0 => rfl
  | 1 => rfl
  | 2 => rfl
  | _ + 3 => rfl
theorem ccF_one (m : CC) (i : Nat) : (ccF m i).oneCell' = true := by
  unfold ccF
  split
  · rfl
  · split
    · rfl
    · exact pgV_one _ _
theorem ccA_one (m : CC) : ∀ v ∈ (ccA m).toList, v.oneCell' = true := by
  intro v hv
  have hv' : v ∈ ccA m := by simpa using hv
  obtain ⟨i, hi, rfl⟩ := Array.mem_iff_getElem.1 hv'
  simp only [ccA, Array.getElem_ofFn]
  exact ccF_one _ _

/-- A new row is written from end to end. -/
theorem storeNew (P : Program) (W : World) (G : Nat) (hG : W.heap.size = G) (cur : Array Value) (t : TypeId) (vs : List Value) (hl : vs.length = cur.size) (h1 : ∀ v ∈ vs, v.oneCell' = true) :
    (storeCells ⟨G, 0, none⟩ vs).run P (W.alloc (.cells cur t)) = .ok () (W.alloc (.cells vs.toArray t)) := by
  subst hG
  have hg : (W.alloc (.cells cur t)).heap[W.heap.size]? = some (.cells cur t (0, 0)) := Go.Deep.blk_alloc_new _ _
  rw [run_storeCells_at P W.heap.size 0 t vs 0 cur _ hg (by omega) h1]
  congr 1
  simp only [Nat.zero_add, List.take_zero, List.nil_append]
  rw [List.drop_eq_nil_of_le (by simp [hl]), List.append_nil]
  unfold World.setRow World.alloc
  congr 1
  apply Array.ext
  · simp
  · intro i h1 h2
    simp only [Array.getElem_modify, Array.getElem_push]
    by_cases e : W.heap.size = i
    · subst e; simp
    · have : i < W.heap.size := by simp at h2; omega
      simp [e, this]

/-- The pages of a block, as a list. -/
def ccPs (m : CC) (b : Nat) : List Pg := [m.page b 0, m.page b 1, m.page b 2, m.page b 3]
/-- The blocks that are there, as a list. -/
def ccBs (m : CC) (n : Nat) : List Bk := (List.range n).map fun b => ⟨m.wear b, ccPs m b⟩
theorem ccBs_length (m : CC) (n : Nat) : (ccBs m n).length = n := by simp [ccBs]
theorem ccBs_at (m : CC) {n b : Nat} (hb : b < n) : (ccBs m n)[b]? = some ⟨m.wear b, ccPs m b⟩ := by simp [ccBs, hb]
theorem ccPs_at (m : CC) (b : Nat) {k : Nat} (hk : k < 4) : (ccPs m b)[k]? = some (m.page b k) := by
  have h4 : k = 0 ∨ k = 1 ∨ k = 2 ∨ k = 3 := by omega
  rcases h4 with rfl | rfl | rfl | rfl <;> rfl

/-- copy of four pages out of the middle of a row into a row that was made for them. -/
theorem copy_pages (P : Program) (w : World) (dT sT ty elem : TypeId) (g b : Nat) (o : Nat) (cur : Array Value) (t : TypeId) (ps : List Pg) (hps : ps.length = 4)
    (hu : P.underlying dT = some (.slice elem)) (hs : (P.info? elem).map (·.size) = some 4)
    (hg : w.heap[g]? = some (.cells cur t (0, 0))) (hcur : cur.size = 16)
    (hsrc : ∀ k p, ps[k]? = some p → ∀ j, j < 4 → w.cell? ⟨b, o + (k * 4 + j), none⟩ = some (pgV p j)) :
    ∃ C : Array Value, C.size = 16 ∧ (∀ i, i < 16 → C[i]? = some (pgsF ps i)) ∧
    (Builtin.copy_ #[dT, sT] ty #[.slice (some ⟨g, 0, none⟩) 4 4, .slice (some ⟨b, o, none⟩) 4 4]).run P w = .ok (goInt 4) (w.setRow g C) := by
  have hsrc' : ∀ j, j < 16 → w.cell? ((⟨b, o, none⟩ : Addr).add j) = some (pgsF ps j) := fun j hj => by
    have hadd : (⟨b, o, none⟩ : Addr).add j = ⟨b, o + j, none⟩ := by unfold Addr.add; split <;> simp_all
    obtain ⟨p, hp⟩ := getElem?_ex (l := ps) (k := j / 4) (by omega)
    have := hsrc (j / 4) p hp (j % 4) (by omega)
    rw [show j / 4 * 4 + j % 4 = j by omega] at this
    rw [hadd, this]
    unfold pgsF
    rw [hp]
    rfl
  have hl := run_loadCells (P := P) w ⟨b, o, none⟩ 16 (pgsF ps) hsrc'
  have hst := run_storeCells_at P g 0 t ((List.range 16).map (pgsF ps)) 0 cur w hg (by simp [hcur]) (fun v hv => by
    obtain ⟨i, _, rfl⟩ := List.mem_map.1 hv
    exact pgV_one _ _)
  refine ⟨((List.range 16).map (pgsF ps)).toArray, by simp, fun i hi => by simp [hi], ?_⟩
  cases hq : P.info? elem with
  | none => simp [hq] at hs
  | some i =>
    have hi : i.size = 4 := by simpa [hq] using hs
    have hst' : (storeCells ⟨g, 0, none⟩ ((List.range 16).map (pgsF ps))).run P w = .ok () (w.setRow g ((List.range 16).map (pgsF ps)).toArray) := by
      rw [hst]
      congr 2
      simp [hcur]
    simp [Builtin.copy_, run_underlying hu, Builtin.lenOf, Builtin.firstCells, sizeOf, typeInfo, hq, hi, hl, hst']

theorem rowIs_setRow {w : World} {g : Nat} {t : TypeId} {cur C : Array Value} {n : Nat} {f : Nat → Value} (hg : w.heap[g]? = some (.cells cur t (0, 0))) (hC : C.size = n) (hf : ∀ i, i < n → C[i]? = some (f i)) : (w.setRow g C).rowIs g t n f :=
  ⟨C, setRow_heap w g cur C t (0, 0) hg, hC, hf⟩

theorem setRow_alloc (W : World) (cur C : Array Value) (t : TypeId) : (W.alloc (.cells cur t)).setRow W.heap.size C = W.alloc (.cells C t) := by
  unfold World.setRow World.alloc
  congr 1
  apply Array.ext
  · simp
  · intro i h1 h2
    simp only [Array.getElem_modify, Array.getElem_push]
    by_cases e : W.heap.size = i
    · subst e; simp
    · have : i < W.heap.size := by simp at h2; omega
      simp [e, this]

/-- copy of four pages into the row that was made last. -/
theorem copy_new (P : Program) (W : World) (dT sT ty elem : TypeId) (b o : Nat) (cur : Array Value) (t : TypeId) (ps : List Pg) (hps : ps.length = 4)
    (hu : P.underlying dT = some (.slice elem)) (hs : (P.info? elem).map (·.size) = some 4) (hcur : cur.size = 16) (hb : b < W.heap.size)
    (hsrc : ∀ k p, ps[k]? = some p → ∀ j, j < 4 → W.cell? ⟨b, o + (k * 4 + j), none⟩ = some (pgV p j)) :
    ∃ C : Array Value, (W.alloc (.cells C t)).rowIs W.heap.size t 16 (pgsF ps) ∧
    (Builtin.copy_ #[dT, sT] ty #[.slice (some ⟨W.heap.size, 0, none⟩) 4 4, .slice (some ⟨b, o, none⟩) 4 4]).run P (W.alloc (.cells cur t)) = .ok (goInt 4) (W.alloc (.cells C t)) := by
  obtain ⟨C, h1, h2, h3⟩ := copy_pages P (W.alloc (.cells cur t)) dT sT ty elem W.heap.size b o cur t ps hps hu hs (Go.Deep.blk_alloc_new _ _) hcur (fun k p hp j hj => by
    rw [cell_alloc_lt _ _ _ _ hb]; exact hsrc k p hp j hj)
  refine ⟨C, ⟨C, Go.Deep.blk_alloc_new _ _, h1, h2⟩, ?_⟩
  rw [h3, setRow_alloc]

/-- Four pages in sixteen cells; a block in seventeen. -/
def paA (f : Nat → Pg) : Array Value := Array.ofFn (n := 16) fun i => pgV (f (i.val / 4)) (i.val % 4)
def bcF (x : Int) (f : Nat → Pg) (i : Nat) : Value := if i = 0 then .int .i64 x else pgV (f ((i - 1) / 4)) ((i - 1) % 4)
def bcA (x : Int) (f : Nat → Pg) : Array Value := Array.ofFn (n := 17) fun i => bcF x f i.val
theorem paA_size (f : Nat → Pg) : (paA f).size = 16 := by simp [paA]
theorem bcA_size (x : Int) (f : Nat → Pg) : (bcA x f).size = 17 := by simp [bcA]
theorem paA_get (f : Nat → Pg) {i : Nat} (h : i < 16) : (paA f)[i]? = some (pgV (f (i / 4)) (i % 4)) := by simp [paA, h]
theorem bcA_get (x : Int) (f : Nat → Pg) {i : Nat} (h : i < 17) : (bcA x f)[i]? = some (bcF x f i) := by simp [bcA, h]
theorem paA_page (f : Nat → Pg) {k j : Nat} (hk : k < 4) (hj : j < 4) : (paA f)[k * 4 + j]? = some (pgV (f k) j) := by
  rw [paA_get f (by omega), show (k * 4 + j) / 4 = k by omega, show (k * 4 + j) % 4 = j by omega]
theorem bcA_page (x : Int) (f : Nat → Pg) {i : Nat} (h : i < 16) : (bcA x f)[1 + i]? = some (pgV (f (i / 4)) (i % 4)) := by
  rw [bcA_get x f (by omega)]
  unfold bcF
  rw [if_neg (by omega), show 1 + i - 1 = i by omega]
theorem ccA_block (m : CC) {b i : Nat} (hb : b < 12) (hi : i < 17) : (ccA m)[1 + b * 17 + i]? = (bcA (m.wear b) (m.page b))[i]? := by
  rw [bcA_get _ _ hi]
  unfold bcF
  by_cases e : i = 0
  · subst e; rw [if_pos rfl]; exact ccA_wear m hb
  · rw [if_neg e]
    have := ccA_page m (b := b) (k := (i - 1) / 4) (j := (i - 1) % 4) hb (by omega) (by omega)
    rw [show 1 + b * 17 + 1 + (i - 1) / 4 * 4 + (i - 1) % 4 = 1 + b * 17 + i by omega] at this
    exact this
theorem ccA_pages (m : CC) {b i : Nat} (hb : b < 12) (hi : i < 16) : (ccA m)[1 + b * 17 + 1 + i]? = (paA (m.page b))[i]? := by
  rw [paA_get _ hi]
  have := ccA_page m (b := b) (k := i / 4) (j := i % 4) hb (by omega) (by omega)
  rw [show 1 + b * 17 + 1 + i / 4 * 4 + i % 4 = 1 + b * 17 + 1 + i by omega] at this
  exact this

/-- A struct or an array is read out of the middle of a row. -/
theorem run_loadVar_mid {P : Program} (w : World) (g off : Nat) (ty : TypeId) (A : Array Value) (s : Nat) (hA : A.size = s) (hc : ∀ j, j < s → w.cell? ⟨g, off + j, none⟩ = A[j]?) (d : TypeDesc)
    (hu : P.underlying ty = some d) (hd : (match d with | .struct _ | .array _ _ => true | _ => false) = true) (hi : (P.info? ty).map (·.size) = some s) :
    (loadVar ty ⟨g, off, none⟩).run P w = .ok (.agg A) w := by
  have hl : (loadCells ⟨g, off, none⟩ A.toList.length).run P w = .ok A.toList.toArray w :=
    run_loadCells_list (P := P) w ⟨g, off, none⟩ A.toList (fun j v hv => by
      have hadd : (⟨g, off, none⟩ : Addr).add j = ⟨g, off + j, none⟩ := by unfold Addr.add; split <;> simp_all
      have hj : j < s := by rw [← hA, ← Array.length_toList]; exact (List.getElem?_eq_some_iff.1 hv).1
      rw [hadd, hc j hj, ← hv, Array.getElem?_toList])
  cases hq : P.info? ty with
  | none => simp [hq] at hi
  | some i =>
    have hs : i.size = A.size := by rw [hA]; simpa [hq] using hi
    have hagg : (isAgg ty).run P w = .ok true w := by
      unfold isAgg
      rw [Sem.run_bind, run_underlying hu w]
      cases d <;> simp_all
    simp only [Array.length_toList, Array.toArray_toList] at hl
    simp [loadVar, Sem.run_bind, hagg, sizeOf, typeInfo, hq, hs, hl]

theorem wp_load_mid {P : Program} {o : Oper} {a : Act} {w : World} {K : Act → World → Prop} {Q : Exit → Act → World → Prop} (ty : TypeId) (x : Operand) (ho : o.op = .load ty x)
    (g off : Nat) (hx : a.eval x = .pointer (some ⟨g, off, none⟩)) (A : Array Value) (s : Nat) (hA : A.size = s) (hc : ∀ j, j < s → w.cell? ⟨g, off + j, none⟩ = A[j]?) (d : TypeDesc)
    (hu : P.underlying ty = some d) (hd : (match d with | .struct _ | .array _ _ => true | _ => false) = true) (hi : (P.info? ty).map (·.size) = some s)
    (h : K (a.put o.dst (.agg A)) w) : o.wp P a w K Q := by
  unfold Oper.wp execOp
  simp only [ho, hx, Instr.loadAt, Instr.sureAddr, Sem.run_bind, Sem.run_pure, Result.andThen_ok, run_loadVar_mid w g off ty A s hA hc d hu hd hi]
  exact h

theorem wpList_load_mid {P : Program} {ops : Array Oper} {rest : List Oper} {o : Oper} {a : Act} {w : World} {Q : Exit → Act → World → Prop} (hgd : o.guard = none) (ty : TypeId) (x : Operand) (ho : o.op = .load ty x)
    (g off : Nat) (hx : a.eval x = .pointer (some ⟨g, off, none⟩)) (A : Array Value) (s : Nat) (hA : A.size = s) (hc : ∀ j, j < s → w.cell? ⟨g, off + j, none⟩ = A[j]?) (d : TypeDesc)
    (hu : P.underlying ty = some d) (hd : (match d with | .struct _ | .array _ _ => true | _ => false) = true) (hi : (P.info? ty).map (·.size) = some s)
    (h : wpList P ops Q rest (a.put o.dst (.agg A)) w) : wpList P ops Q (o :: rest) a w :=
  wpList_plain hgd fun _ hK => wp_load_mid ty x ho g off hx A s hA hc d hu hd hi (hK _ _ h)

/-- A page out of four in an array. -/
theorem run_index_pages {P : Program} (w : World) (ty e : TypeId) (f : Nat → Pg) (k : Nat) (hk : k < 4) (hu : P.underlying ty = some (.array 4 e)) (d : TypeDesc) (hue : P.underlying e = some d) (hd : (match d with | .struct _ | .array _ _ => true | _ => false) = true) (hi : (P.info? e).map (·.size) = some 4) :
    (Instr.index ty (.agg (paA f)) (.int .i64 (k : Int))).run P w = .ok (.agg #[.bool (f k).used, .int .i64 (f k).log, .int .i64 (f k).seq, .string (f k).data]) w := by
  cases hq : P.info? e with
  | none => simp [hq] at hi
  | some i =>
    have hs : i.size = 4 := by simpa [hq] using hi
    have hagg : (isAgg e).run P w = .ok true w := by
      unfold isAgg
      rw [Sem.run_bind, run_underlying hue w]
      cases d <;> simp_all
    have hx : (paA f).extract (k * 4) (k * 4 + 4) = #[.bool (f k).used, .int .i64 (f k).log, .int .i64 (f k).seq, .string (f k).data] := by
      apply Array.ext_getElem?
      intro j
      rw [Array.getElem?_extract, paA_size]
      by_cases hj : j < 4
      · rw [if_pos (by omega), paA_page f hk hj]
        have h4 : j = 0 ∨ j = 1 ∨ j = 2 ∨ j = 3 := by omega
        rcases h4 with rfl | rfl | rfl | rfl <;> rfl
      · rw [if_neg (by omega)]
        simp; omega
    have hlt : (0 : Int) ≤ (k : Int) ∧ (k : Int) < (4 : Nat) := by omega
    simp [Instr.index, asIntOf, run_underlying hu, hlt, part, hagg, sizeOf, typeInfo, hq, hs, hx, hk]

end Go.Proofs.YtalgkmellbamgaaGreat

/- Chips held in arrays: the program's new chip, and the chip that is told out of the arrays. -/
namespace Go.Proofs.YtalgkmellbamgaaGreat
open Go.RowKit
set_option linter.unusedVariables false
set_option linter.unusedSimpArgs false

theorem isBlockCount_any (n : Int) (w : World) : Calls Tryz.prog 83 #[.int .i64 n] w fun e w' => e = .returned (.bool (decide (4 ≤ n ∧ n ≤ 12))) ∧ w' = w := by
  go_enter Tryz.func83, Tryz.ntmps83
  go_wp2_with fail
  refine (within_any _ _ _ _).mono ?_
  rintro e w1 ⟨rfl, rfl⟩
  go_wp2
  go_ret
  exact ⟨by simp, rfl⟩

theorem sizePage : (Tryz.prog.info? 59).map (·.size) = some 4 := by kernel_rfl

set_option maxRecDepth 100000 in
set_option maxHeartbeats 1000000 in
theorem chip_any (m : CC) (n : Nat) (hm : m.count = n) (h1 : n ≤ 12) (w : World) :
    Calls Tryz.prog 67 #[.agg (ccA m)] w fun e w' => ∃ g H, e = .returned (.agg #[.slice (some ⟨g, 0, none⟩) n n]) ∧ w.heap.size ≤ g ∧ OwnBlocks w' 120 59 g H n (ccBs m n) ∧ Below w.heap.size w w' := by
  have hc0 := ccA_count m
  rw [hm] at hc0
  have hmk := make_blocks n (by omega)
  go_enter Tryz.func67, Tryz.ntmps67
  go_wp2
  clear hmk
  go_loopw [11] (fun i wr => ∃ (k : Nat) (H : Nat → Nat), k ≤ n ∧ i = .int .i64 k ∧ OwnBlocks wr 120 59 (w.heap.size + 1 + 1) H n ((ccBs m n).take k) ∧ Below (w.heap.size + 1 + 1) ((w.alloc (.cells (ccA m) 65)).alloc (.cells #[.slice none 0 0] 26)) wr) (fun i _ => n - (intOf i).toNat)
  case atStart =>
    refine ⟨0, fun _ => 0, Nat.zero_le _, rfl, ?_, (Below.refl _ _).alloc (by simp) _⟩
    have := OwnBlocks.made ((w.alloc (.cells (ccA m) 65)).alloc (.cells #[.slice none 0 0] 26)) 120 59 (fun _ => 0) n
    simpa using this
  case round =>
    obtain ⟨k, H, hk, rfl, hO, hB⟩ := hrel
    have hsz := hB.size
    simp at hsz
    by_cases hlt : k < n
    · have hbox : ∀ o, wr.cell? ⟨w.heap.size, o, none⟩ = (ccA m)[o]? := fun o => by
        rw [hB.cell (p := ⟨w.heap.size, o, none⟩) (by simp <;> omega)]
        simp
      have hgs := hO.row.lt
      obtain ⟨C, hC, hcp⟩ := copy_new Tryz.prog wr 118 118 3 59 w.heap.size (1 + k * 17 + 1) (madeCells #[.bool false, .int .i64 0, .int .i64 0, .string ByteArray.empty] 16) 59 (ccPs m k) rfl Tryz.underlying118 sizePage (size_madeCells _ _) (by omega) (fun q p hp j hj => by
        have hq : q < 4 := (List.getElem?_eq_some_iff.1 hp).1
        rw [ccPs_at m k hq] at hp
        cases hp
        rw [hbox, ← Nat.add_assoc]
        exact ccA_page m (by omega) hq hj)
      have hw := ccA_wear m (b := k) (by omega)
      have hmk4 := make_pages4
      have hbk := ccBs_at m hlt
      have c0 := hO.row.cell (i := k * 2) (by omega)
      have c1 := hO.row.cell (i := k * 2 + 1) (by omega)
      have f0 := hO.row.frozen
      have HB := hide hbk
      have HC := hide hC
      clear hbk hC
      have HCP := hide hcp
      obtain ⟨x0, hx0⟩ : ∃ x0, x0 = bksF H (List.take k (ccBs m n)) (k * 2) := ⟨_, rfl⟩
      obtain ⟨x1, hx1⟩ : ∃ x1, x1 = bksF H (List.take k (ccBs m n)) (k * 2 + 1) := ⟨_, rfl⟩
      rw [← hx0] at c0
      rw [← hx1] at c1
      clear hcp hx0 hx1
      go_wp2_with fail
      rw [unhide HCP]
      clear HCP hmk4
      have hcc : ∀ b o, b < wr.heap.size → (wr.alloc (.cells C 59)).cell? ⟨b, o, none⟩ = wr.cell? ⟨b, o, none⟩ := fun b o h => cell_alloc_lt _ _ _ _ h
      have hff : ∀ b o, b < wr.heap.size → (wr.alloc (.cells C 59)).frozen? ⟨b, o, none⟩ = wr.frozen? ⟨b, o, none⟩ := fun b o h => frozen_alloc_lt _ _ _ _ h
      have hgs0 : w.heap.size < wr.heap.size := by omega
      go_wp2
      go_roundw
      case rel =>
        have hO1 : OwnBlocks (wr.alloc (.cells C 59)) _ _ _ _ _ _ := hO.below ((Below.refl _ wr).alloc (Nat.le_refl _) _) (Nat.le_refl _)
        have hp := hO1.put (b := ⟨m.wear k, ccPs m k⟩) (unhide HB) (q := wr.heap.size) (unhide HC) (by omega) (fun i hi => hO.lt (by simp [ccBs_length]; omega))
        rw [World.setCell_alloc_past _ _ _ _ hgs, World.setCell_alloc_past _ _ _ _ (by simpa using hgs)] at hp
        exact ⟨k + 1, _, by omega, by go_num, hp, ((hB.setCell (by simp) _).setCell (by simp) _).alloc (by simp; omega) _⟩
      case measure => simp [intOf]; omega
    · have hk' : k = n := by omega
      subst hk'
      have hO' : OwnBlocks wr 120 59 (w.heap.size + 1 + 1) H k (ccBs m k) := by
        have := hO
        rwa [List.take_of_length_le (by rw [ccBs_length]; exact Nat.le_refl _)] at this
      have hcell : wr.cell? ⟨w.heap.size + 1, 0, none⟩ = some (.slice none 0 0) := by
        rw [hB.cell (p := ⟨w.heap.size + 1, 0, none⟩) (by simp)]
        simp
      have hfro : wr.frozen? ⟨w.heap.size + 1, 0, none⟩ = false := by
        rw [hB.frozen (p := ⟨w.heap.size + 1, 0, none⟩) (by simp)]
        simp
      have HO := hide hO'
      clear hO hO'
      go_wp2
      refine bodyPost_ret (v := .agg #[.slice (some ⟨w.heap.size + 1 + 1, 0, none⟩) k k]) (by simp [results, Tryz.results67, go_sem, hcell]) rfl ⟨_, H, rfl, by omega, (unhide HO).setOther (by simp) _, ?_⟩
      exact ((((Below.refl _ w).alloc (Nat.le_refl _) _).alloc (by simp) _).trans (hB.mono (by omega))).setCell (by simp) _

/-- A chip without pages. -/
def newCC (n : Int) : CC := ⟨n, fun _ => 0, fun _ _ => zeroPg⟩
theorem zeroCC : Tryz.zeroCells65 = ccA (newCC 0) := by kernel_rfl
theorem setCC (n : Int) : (Tryz.zeroCells65.toList.set 0 (.int .i64 n)) = (ccA (newCC n)).toList := by
  rw [zeroCC]
  have hlen : ∀ k, (ccA (newCC k)).toList.length = 205 := fun k => by rw [Array.length_toList, ccA_size]
  apply List.ext_getElem?
  intro i
  have h1 : ∀ k, (ccA (newCC k)).toList[i]? = (ccA (newCC k))[i]? := fun k => by rw [Array.getElem?_toList]
  rw [List.getElem?_set]
  by_cases e : 0 = i
  · subst e
    rw [if_pos rfl, if_pos (by rw [hlen]; omega), h1, ccA_count]
    rfl
  · rw [if_neg e]
    by_cases hi : i < 205
    · rw [h1, h1, ccA_get _ hi, ccA_get _ hi]
      unfold ccF
      simp only [if_neg (show ¬ i = 0 by omega)]
      rfl
    · rw [List.getElem?_eq_none (by rw [hlen]; omega), List.getElem?_eq_none (by rw [hlen]; omega)]

theorem sizeCC' : (Tryz.prog.info? 65).map (·.size) = some 205 := by kernel_rfl

theorem sizeCC (m : CC) : (Tryz.prog.info? 65).map (·.size) = some (ccA m).size := by
  rw [ccA_size]
  kernel_rfl

end Go.Proofs.YtalgkmellbamgaaGreat

/- Lists of int64 as they lie in memory: no program is named here. -/
namespace Go.Proofs.YtalgkmellbamgaaGreat
open Go.RowKit
set_option linter.unusedVariables false
set_option linter.unusedSimpArgs false

/-- The numbers L lie, one behind the other, from the address a on. -/
def IntsAt (w : World) (a : Option Addr) (L : List Int) : Prop :=
  ∀ i x, L[i]? = some x → ∃ b o, a = some ⟨b, o, none⟩ ∧ w.cell? ⟨b, o + i, none⟩ = some (.int .i64 x)

theorem IntsAt.below {w w' : World} {a : Option Addr} {L : List Int} (h : IntsAt w a L) {B : Nat} (hb : Below B w w') (hB : w.heap.size ≤ B) : IntsAt w' a L := by
  intro i x hx
  obtain ⟨b, o, ha, h0⟩ := h i x hx
  exact ⟨b, o, ha, (hb.cell (p := ⟨b, o + i, none⟩) (Nat.lt_of_lt_of_le (World.block_lt_of_cell? _ _ h0) hB)).trans h0⟩

def intF (L : List Int) (i : Nat) : Value := .int .i64 ((L[i]?).getD 0)

/-- A row of its own of n numbers, L ahead and noughts behind. -/
def RowInts (w : World) (t : TypeId) (b n : Nat) (L : List Int) : Prop := w.rowIs b t n (intF L)

theorem RowInts.intsAt {w : World} {t : TypeId} {b n : Nat} {L : List Int} (h : RowInts w t b n L) (hn : L.length ≤ n) : IntsAt w (some ⟨b, 0, none⟩) L := by
  intro i x hx
  have hi := (List.getElem?_eq_some_iff.1 hx).1
  refine ⟨b, 0, rfl, ?_⟩
  have := World.rowIs.cell h (i := i) (by omega)
  simpa [intF, hx] using this

theorem RowInts.below {w w' : World} {t : TypeId} {b n : Nat} {L : List Int} (h : RowInts w t b n L) {B : Nat} (hb : Below B w w') (hB : b < B) : RowInts w' t b n L :=
  World.rowIs.of_block h (hb.block b hB)

theorem RowInts.put {w : World} {t : TypeId} {b n k : Nat} {L : List Int} {x : Int} (h : RowInts w t b n (L.take k)) (hx : L[k]? = some x) :
    RowInts (w.setCell ⟨b, k, none⟩ (.int .i64 x)) t b n (L.take (k + 1)) := by
  have hk := (List.getElem?_eq_some_iff.1 hx).1
  refine World.rowIs.congr (World.rowIs.set h k (.int .i64 x)) fun i hi => ?_
  unfold intF
  by_cases e : i = k
  · subst e; simp [List.getElem?_take, hx]
  · by_cases l : i < k
    · simp [e, List.getElem?_take, l, Nat.lt_succ_of_lt l]
    · have l2 : ¬ i < k + 1 := by omega
      simp [e, List.getElem?_take, l, l2]

theorem RowInts.made (w : World) (t : TypeId) (n : Nat) : RowInts (w.alloc (.cells (madeCells #[.int .i64 0] n) t)) t w.heap.size n [] :=
  (World.rowIs_made w (.int .i64 0) n t).congr fun i hi => by simp [intF]

end Go.Proofs.YtalgkmellbamgaaGreat

/- The program's answer whether a block held in arrays is right; whether a number is in a list. -/
namespace Go.Proofs.YtalgkmellbamgaaGreat
open Go.RowKit
set_option linter.unusedVariables false
set_option linter.unusedSimpArgs false

set_option maxHeartbeats 1000000 in
theorem isRightUsed_any (p : Pg) (w : World) : Calls Tryz.prog 122 #[.agg #[.bool p.used, .int .i64 p.log, .int .i64 p.seq, .string p.data]] w fun e w' => e = .returned (.bool (rightUsed p)) ∧ Below w.heap.size w w' := by
  obtain ⟨u, l, s, d⟩ := p
  have hB : ∀ o, Below w.heap.size w (w.alloc o) := fun o => (Below.refl _ w).alloc (Nat.le_refl _) _
  cases u with
  | false =>
    go_enter Tryz.func122, Tryz.ntmps122
    go_wp2
    go_ret
    exact ⟨ret_bool (by simp [rightUsed]), hB _⟩
  | true =>
    by_cases h1 : 0 ≤ l ∧ l ≤ 39
    · by_cases h2 : 1 ≤ s ∧ s ≤ 1000000000
      · have e1 : decide (0 ≤ l ∧ l ≤ 39) = true := by simpa using h1
        have e2 : decide (1 ≤ s ∧ s ≤ 1000000000) = true := by simpa using h2
        go_enter Tryz.func122, Tryz.ntmps122
        go_wp2_with (go_at_call 43; refine (within_any _ _ _ _).mono ?_; rintro e w1 ⟨rfl, rfl⟩)
        go_ret
        exact ⟨ret_bool (by simp [rightUsed, h1, h2, size_four]), hB _⟩
      · have e1 : decide (0 ≤ l ∧ l ≤ 39) = true := by simpa using h1
        have e2 : decide (1 ≤ s ∧ s ≤ 1000000000) = false := by simpa using h2
        go_enter Tryz.func122, Tryz.ntmps122
        go_wp2_with (go_at_call 43; refine (within_any _ _ _ _).mono ?_; rintro e w1 ⟨rfl, rfl⟩)
        go_ret
        exact ⟨ret_bool (by simp [rightUsed]; omega), hB _⟩
    · have e1 : decide (0 ≤ l ∧ l ≤ 39) = false := by simpa using h1
      go_enter Tryz.func122, Tryz.ntmps122
      go_wp2_with (go_at_call 43; refine (within_any _ _ _ _).mono ?_; rintro e w1 ⟨rfl, rfl⟩)
      go_ret
      exact ⟨ret_bool (by simp [rightUsed]; omega), hB _⟩

/-- The block is right, as its arrays say it. -/
structure BcOk (x : Int) (f : Nat → Pg) : Prop where
  wear : 0 ≤ x ∧ x ≤ 1000000000
  page : ∀ k, k < 4 → pgOk (f k) = true
  order : ∀ k, k + 1 < 4 → (f (k + 1)).used = true → (f k).used = true

theorem sizePages : (Tryz.prog.info? 60).map (·.size) = some 16 := by kernel_rfl

set_option maxRecDepth 100000 in
set_option maxHeartbeats 4000000 in
theorem right_any (x : Int) (f : Nat → Pg) (w : World) : Calls Tryz.prog 94 #[.agg (bcA x f)] w fun e w' => RetIff (BcOk x f) e ∧ Below w.heap.size w w' := by
  go_enter Tryz.func94, Tryz.ntmps94
  go_wp2_with (refine wpList_load_mid rfl 60 _ rfl w.heap.size 1 rfl (paA f) 16 (paA_size f) (fun j hj => by simp; rw [bcA_page x f hj, paA_get f hj]) _ Tryz.underlying60 rfl sizePages ?_)
  go_loopw [3, 8] (fun v i wr => ∃ (k : Nat) (en : Bool), k ≤ 4 ∧ i = .int .i64 k ∧ v = .bool en ∧ (∀ t, t < k → pgOk (f t) = true) ∧ (en = false → ∀ t, t < k → (f t).used = true) ∧ (en = true → ∃ t, t < k ∧ (f t).used = false) ∧ (∀ t, t + 1 < k → (f (t + 1)).used = true → (f t).used = true) ∧ Below (w.heap.size + 1) (w.alloc (.cells (bcA x f) 62)) wr) (fun _ i _ => 4 - (intOf i).toNat)
  case atStart => exact ⟨0, false, by omega, rfl, rfl, fun t ht => absurd ht (Nat.not_lt_zero _), fun _ t ht => absurd ht (Nat.not_lt_zero _), (fun h => by cases h), fun t ht => absurd ht (Nat.not_lt_zero _), Below.refl _ _⟩
  case round =>
    obtain ⟨k, en, hk, rfl, rfl, h1, h2, h3, h4, hB⟩ := hrel
    have hsz := hB.size
    simp at hsz
    have hout : ∀ W, Below wr.heap.size wr W → Below w.heap.size w W := fun W hW => ((((Below.refl _ w).alloc (Nat.le_refl _) _).trans (hB.mono (by omega))).trans (hW.mono (by omega)))
    by_cases hlt : k < 4
    · have hidx := fun W => run_index_pages (P := Tryz.prog) W 60 59 f k hlt Tryz.underlying60 _ Tryz.underlying59 rfl sizePage
      obtain ⟨p, hp⟩ : ∃ p, f k = p := ⟨_, rfl⟩
      rw [hp] at hidx
      obtain ⟨u, l, s, d⟩ := p
      simp only at hidx
      have HP := hide hp
      have H1 := hide h1
      have H2 := hide h2
      have H3 := hide h3
      have H4 := hide h4
      clear h1 h2 h3 h4 hp
      have hup : BcOk x f → ∀ n t, t + n < 4 → (f (t + n)).used = true → (f t).used = true := fun hx n => by
        induction n with
        | zero => intro t _ h; exact h
        | succ n ih => intro t ht h; exact ih t (by omega) (hx.order (t + n) (by omega) h)
      have HUP := hide hup
      clear hup
      cases u with
      | false =>
        by_cases hl : l = 0
        · subst hl
          by_cases hs : s = 0
          · subst hs
            by_cases hd : d = ByteArray.empty
            · subst hd
              go_wp2
              go_roundw
              case rel =>
                refine ⟨k + 1, true, by omega, by go_num, rfl, fun t ht => ?_, (fun h => by cases h), fun _ => ⟨k, by omega, by rw [unhide HP]⟩, fun t ht hu => ?_, (hB.alloc (by omega) _)⟩
                · by_cases e : t = k
                  · subst e; rw [unhide HP]; rfl
                  · exact unhide H1 t (by omega)
                · by_cases e : t + 1 = k
                  · rw [e, unhide HP] at hu; cases hu
                  · exact unhide H4 t (by omega) hu
              case measure => simp [intOf]; omega
            · have hno : pgOk ⟨false, 0, 0, d⟩ = false := by simp [pgOk, isZero, hd]
              have hd' : d.toList.isEmpty = false := by rw [isEmpty_size]; simpa using hd
              go_wp2
              go_ret
              refine ⟨RetIff.no ?_, hout _ ((Below.refl _ _).alloc (Nat.le_refl _) _)⟩
              intro hx
              have := hx.page k hlt
              rw [unhide HP, hno] at this
              cases this
          · have hno : pgOk ⟨false, 0, s, d⟩ = false := by simp [pgOk, isZero, hs]
            have hs' : (s == 0) = false := by simpa using hs
            go_wp2
            go_ret
            refine ⟨RetIff.no ?_, hout _ ((Below.refl _ _).alloc (Nat.le_refl _) _)⟩
            intro hx
            have := hx.page k hlt
            rw [unhide HP, hno] at this
            cases this
        · have hno : pgOk ⟨false, l, s, d⟩ = false := by simp [pgOk, isZero, hl]
          have hl' : (l == 0) = false := by simpa using hl
          go_wp2
          go_ret
          refine ⟨RetIff.no ?_, hout _ ((Below.refl _ _).alloc (Nat.le_refl _) _)⟩
          intro hx
          have := hx.page k hlt
          rw [unhide HP, hno] at this
          cases this
      | true =>
        cases en with
        | true =>
          go_wp2
          go_ret
          refine ⟨RetIff.no ?_, hout _ ((Below.refl _ _).alloc (Nat.le_refl _) _)⟩
          intro hx
          obtain ⟨t, ht, hu⟩ := unhide H3 (by first | rfl | trivial)
          have := unhide HUP hx (k - t) t (by omega) (by rw [show t + (k - t) = k by omega, unhide HP])
          rw [hu] at this
          cases this
        | false =>
          go_wp2_with fail
          refine (isRightUsed_any ⟨true, l, s, d⟩ _).mono ?_
          rintro e w1 ⟨rfl, hB1⟩
          have hB2 : Below wr.heap.size wr w1 := ((Below.refl _ wr).alloc (Nat.le_refl _) _).trans (hB1.mono (by simp))
          have HB2 := hide hB2
          clear hB1 hB2
          have hpk : pgOk ⟨true, l, s, d⟩ = rightUsed ⟨true, l, s, d⟩ := by simp [pgOk]
          have HPK := hide hpk
          clear hpk
          cases hr : rightUsed ⟨true, l, s, d⟩ with
          | false =>
            go_wp2
            go_ret
            refine ⟨RetIff.no ?_, hout _ (unhide HB2)⟩
            intro hx
            have := hx.page k hlt
            rw [unhide HP, unhide HPK, hr] at this
            cases this
          | true =>
            go_wp2
            go_roundw
            case rel =>
              refine ⟨k + 1, false, by omega, by go_num, rfl, fun t ht => ?_, fun _ t ht => ?_, (fun h => by cases h), fun t ht hu => ?_, hB.trans ((unhide HB2).mono (by omega))⟩
              · by_cases e : t = k
                · subst e; rw [unhide HP, unhide HPK]; exact hr
                · exact unhide H1 t (by omega)
              · by_cases e : t = k
                · subst e; rw [unhide HP]
                · exact unhide H2 (by first | rfl | trivial) t (by omega)
              · exact unhide H2 (by first | rfl | trivial) t (by omega)
            case measure => simp [intOf]; omega
    · have hk4 : k = 4 := by omega
      subst hk4
      have hcx : wr.cell? ⟨w.heap.size, 0, none⟩ = some (.int .i64 x) := by
        rw [hB.cell (p := ⟨w.heap.size, 0, none⟩) (by simp)]
        simp
        rw [bcA_get x f (by omega)]
        rfl
      have H1 := hide h1
      have H4 := hide h4
      clear h1 h2 h3 h4
      go_wp2_with fail
      refine (within_any _ _ _ _).mono ?_
      rintro e w1 ⟨rfl, rfl⟩
      go_wp2
      go_ret
      refine ⟨⟨decide (0 ≤ x) && decide (x ≤ 1000000000), rfl, ?_⟩, hout _ (Below.refl _ _)⟩
      simp
      exact ⟨fun h => ⟨h, fun k hk => unhide H1 k hk, fun k hk hu => unhide H4 k hk hu⟩, fun h => h.wear⟩
set_option maxRecDepth 100000 in
set_option maxHeartbeats 1000000 in
theorem index_any (a : Option Addr) (c : Nat) (L : List Int) (s : Int) (w : World) (h : IntsAt w a L) (hn : L.length ≤ 1048576) :
    Calls Tryz.prog 126 #[.slice a L.length c, .int .i64 s] w fun e w' => ∃ r : Int, e = .returned (.int .i64 r) ∧ (0 ≤ r ↔ s ∈ L) ∧ w' = w := by
  go_enter Tryz.func126, Tryz.ntmps126
  go_wp2
  go_loop [8] (fun i => ∃ k : Nat, k ≤ L.length ∧ i = .int .i64 k ∧ ∀ j x, j < k → L[j]? = some x → x ≠ s) (fun i => L.length - (intOf i).toNat)
  case atStart => exact ⟨0, Nat.zero_le _, rfl, fun j x hj => absurd hj (Nat.not_lt_zero _)⟩
  case round =>
    obtain ⟨k, hk, rfl, hno⟩ := hrel
    have HN := hide hno
    clear hno
    by_cases hlt : k < L.length
    · obtain ⟨x, hx⟩ := getElem?_ex hlt
      obtain ⟨b, o, rfl, g⟩ := h k x hx
      have HX := hide hx
      clear hx h
      by_cases e : s = x
      · have e' : (s == x) = true := by simpa using e
        have HE := hide e
        clear e
        go_wp2
        go_ret
        exact ⟨_, rfl, ⟨fun _ => by rw [unhide HE]; exact List.mem_of_getElem? (unhide HX), fun _ => by omega⟩, rfl⟩
      · have e' : (s == x) = false := by simpa using e
        have HE := hide e
        clear e
        go_wp2
        go_round
        case rel =>
          refine ⟨k + 1, by omega, by go_num, fun j y hj hy => ?_⟩
          by_cases ej : j = k
          · subst ej; rw [unhide HX] at hy; cases hy; exact fun h => unhide HE h.symm
          · exact unhide HN j y (by omega) hy
        case measure => simp [intOf]; omega
    · go_wp2
      go_ret
      refine ⟨-1, rfl, ⟨fun h => by omega, fun hm => ?_⟩, rfl⟩
      obtain ⟨j, hj, e⟩ := List.getElem_of_mem hm
      exact absurd e (unhide HN j _ (by omega) (by simp [hj]))

theorem contains_any (a : Option Addr) (c : Nat) (L : List Int) (s : Int) (w : World) (h : IntsAt w a L) (hn : L.length ≤ 1048576) :
    Calls Tryz.prog 105 #[.slice a L.length c, .int .i64 s] w fun e w' => e = .returned (.bool (decide (s ∈ L))) ∧ w' = w := by
  go_enter Tryz.func105, Tryz.ntmps105
  go_wp2_with fail
  refine (index_any a c L s w h hn).mono ?_
  rintro e w1 ⟨r, rfl, hr, rfl⟩
  have HR := hide hr
  clear hr h
  by_cases h0 : 0 ≤ r
  · go_wp2
    go_ret
    exact ⟨ret_bool (by simp [(unhide HR).1 h0]), rfl⟩
  · go_wp2
    go_ret
    have hnm : ¬ s ∈ L := fun hm => by have := (unhide HR).2 hm; omega
    exact ⟨ret_bool (by simp [hnm] <;> omega), rfl⟩
end Go.Proofs.YtalgkmellbamgaaGreat
