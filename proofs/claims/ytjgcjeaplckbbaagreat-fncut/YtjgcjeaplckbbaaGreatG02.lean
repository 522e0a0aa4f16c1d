/- 12 texts in one. -/
import Derived.Test.YtjgcjeaplckbbaaGreatG01
import Derived.WalkKit
import Derived.Outline
import Derived.Deep.RegionLaw
import Derived.Deep.RegionHeld3
import Derived.Laws.Tables
import Derived.Laws.Rows
import Derived.Laws.CopyRow
import Derived.Test.YtjgcjeaplckbbaaGreatChecked
import Derived.RangeFuncNested
import Derived.RangeFuncBound
import Derived.RangeFuncCalls
import Derived.RangeFuncLeaves
import Derived.RangeFuncBox
import Derived.Shelf.Abstract
import Derived.OwnWalkIn
import Derived.TacticsInMore
import Derived.LoopNIn
import Derived.LoopIn
import Derived.Laws.OwnMore
import Derived.Deep.AppendLies

/- The model's copy of a right chip. -/
namespace Go.Proofs.YtjgcjeaplckbbaaGreat
open Go.RowKit
set_option linter.unusedVariables false
set_option linter.unusedSimpArgs false

theorem pgCells_one (ps : List Pg) : ∀ u ∈ pgCells ps, u.oneCell' = true := by
  intro u hu
  unfold pgCells at hu
  obtain ⟨p, _, hp⟩ := List.mem_flatMap.1 hu
  simp at hp
  rcases hp with rfl | rfl | rfl | rfl <;> rfl

theorem pagesAt_news {w : World} {pb po : Nat} {ps : List Pg} (h : PagesAt w (some ⟨pb, po, none⟩) ps) : ∀ j u, (pgCells ps)[j]? = some u → w.cell? ⟨pb, po + j, none⟩ = some u := by
  intro j u hu
  have hj : j < ps.length * 4 := by have := (List.getElem?_eq_some_iff.1 hu).1; rwa [pgCells_length] at this
  obtain ⟨p, hp⟩ := getElem?_ex (l := ps) (k := j / 4) (by omega)
  have h1 := pgCells_at hp (j % 4) (by omega)
  rw [show j / 4 * 4 + j % 4 = j by omega] at h1
  rw [hu] at h1
  cases h1
  obtain ⟨b, o, e, c0, c1, c2, c3⟩ := h (j / 4) p hp
  cases e
  have h4 : j % 4 = 0 ∨ j % 4 = 1 ∨ j % 4 = 2 ∨ j % 4 = 3 := by omega
  rcases h4 with e | e | e | e
  · rw [e, show po + j = po + j / 4 * 4 by omega]; exact c0
  · rw [e, show po + j = po + j / 4 * 4 + 1 by omega]; exact c1
  · rw [e, show po + j = po + j / 4 * 4 + 2 by omega]; exact c2
  · rw [e, show po + j = po + j / 4 * 4 + 3 by omega]; exact c3

set_option maxRecDepth 100000 in
set_option maxHeartbeats 2000000 in
theorem l1Copy_any (a : Option Addr) (c : Nat) (bs : List Bk) (n : Nat) (hl : bs.length = n) (hok : ChipOk bs) (w : World) (h : BlocksAt w a bs) :
    Calls Tryz.prog 94 #[.agg #[.slice a n c]] w fun e w' => ∃ v Q C, e = .returned (.agg #[v]) ∧ SpecBlocks w' 108 51 (w.heap.size + 3) v Q C bs ∧ Below w.heap.size w w' := by
  have hn12 : n ≤ 12 := by have := hok.count; omega
  have HL := hide hl
  have HH := hide h
  have HOK := hide hok
  clear h hok hl
  go_enter Tryz.func94, Tryz.ntmps94
  go_wp2
  go_loopw [4] (fun i wr => ∃ (k : Nat) (v : Value) (Q C : Nat → Nat), k ≤ n ∧ i = .int .i64 k ∧ wr.heap[w.heap.size + 1 + 1]? = some (.cells #[v] 26 (0, 0)) ∧ SpecBlocks wr 108 51 (w.heap.size + 3) v Q C (bs.take k) ∧ Below (w.heap.size + 1 + 1) ((w.alloc (.cells #[.slice a n c] 26)).alloc (.cells #[.slice none 0 0] 26)) wr ∧ w.heap.size + 3 ≤ wr.heap.size) (fun i _ => n - (intOf i).toNat)
  case atStart =>
    refine ⟨0, .slice none 0 0, fun _ => 0, fun _ => 0, Nat.zero_le _, rfl, ?_, by simpa using SpecBlocks.nil _ _ _ _ _ _, ?_, by simp⟩
    · have := Go.Deep.blk_alloc_new ((w.alloc (.cells #[.slice a n c] 26)).alloc (.cells #[.slice none 0 0] 26)) (.cells #[.slice none 0 0] 26)
      simpa using this
    · exact (Below.refl _ _).alloc (by simp) _
  case round =>
    obtain ⟨k, v, Q, C, hk, rfl, hv, hS, hB, hsz⟩ := hrel
    have hW : Below w.heap.size w wr := (((Below.refl _ w).alloc (Nat.le_refl _) _).alloc (by simp) _).trans (hB.mono (by omega))
    have hbox : wr.cell? ⟨w.heap.size, 0, none⟩ = some (.slice a n c) := by
      rw [hB.cell (p := ⟨w.heap.size, 0, none⟩) (by simp; omega), cell_alloc_lt _ _ _ _ (by simp)]
      simp
    have hres : wr.cell? ⟨w.heap.size + 1, 0, none⟩ = some (.slice none 0 0) := by
      rw [hB.cell (p := ⟨w.heap.size + 1, 0, none⟩) (by simp)]
      simp
    have hresf : wr.frozen? ⟨w.heap.size + 1, 0, none⟩ = false := by
      rw [hB.frozen (p := ⟨w.heap.size + 1, 0, none⟩) (by simp)]
      simp
    by_cases hlt : k < n
    · have hcv := cell_of_one hv
      have hfv := free_of_one hv
      have hvl : w.heap.size + 1 + 1 < wr.heap.size := by omega
      have hne : some (w.heap.size + 1 + 1) ≠ v.ownBlock := fun e => by have := (hS.row.lt _ e.symm).1; omega
      obtain ⟨x, hx⟩ := getElem?_ex (l := bs) (k := k) (by have := unhide HL; omega)
      obtain ⟨g0, o0, pa, pc, rfl, hcw, hcp, hpa⟩ := ((unhide HH).below hW (Nat.le_refl _)) k x hx
      have h4 := ((unhide HOK).block x (List.mem_of_getElem? hx)).four
      rw [h4] at hcp
      obtain ⟨p0, hp0⟩ := getElem?_ex (l := x.pages) (k := 0) (by omega)
      obtain ⟨pb, po, rfl, cp0, _⟩ := hpa 0 p0 hp0
      have hpbl : pb < wr.heap.size := World.block_lt_of_cell? _ _ cp0
      have hg0l : g0 < wr.heap.size := World.block_lt_of_cell? _ _ hcw
      have htl : (bs.take k).length = k := by rw [List.length_take]; have := unhide HL; omega
      have hR : wr.ownsRow (w.heap.size + 3) 108 2 v k (bkCells Q C 0 (bs.take k)) := by have := hS.row; rwa [htl] at this
      obtain ⟨X, hX⟩ : ∃ X, X = bkCells Q C 0 (bs.take k) := ⟨_, rfl⟩
      rw [← hX] at hR
      obtain ⟨Y, hY⟩ : ∃ Y, Y = pgCells x.pages := ⟨_, rfl⟩
      have hYl : Y.length = 4 * 4 := by rw [hY, pgCells_length, h4]
      have hY1 : ∀ u ∈ Y, u.oneCell' = true := by rw [hY]; exact pgCells_one _
      have hYn : ∀ j u, Y[j]? = some u → wr.cell? ⟨pb, po + j, none⟩ = some u := by rw [hY]; exact pagesAt_news hpa
      have HYN := hide hYn
      have hvnew : ∀ q, v.ownBlock = some q → q < wr.heap.size := fun q e => (hS.row.lt q e).2
      have HVN := hide hvnew
      have HS := hide hS
      have HX := hide hX
      have HY := hide hY
      have HX4 := hide (And.intro hx h4)
      have hadd : ∀ j : Nat, (⟨pb, po, none⟩ : Addr).add j = ⟨pb, po + j, none⟩ := fun j => Go.WideShapes.add_plain _ _ _
      have HADD := hide hadd
      have hlit : (wr.alloc (.cells #[] 51)).drew.ownsRow (w.heap.size + 3) 51 4 (.slice (some ⟨wr.heap.size, 0, none⟩) 0 0) 0 [] := World.ownsRow_lit (base := w.heap.size + 3) (e := 51) (size := 4) wr #[] 0 hsz (by unfold maxLen; omega) rfl
      have HLIT := hide hlit
      obtain ⟨i0, hi, hz0, hz1, hz2⟩ := info_parts infoBlock
      obtain ⟨j0, hj, hy0, hy1, hy2⟩ := info_parts infoPage
      have hvl0 : w.heap.size < wr.heap.size := by omega
      have hbx1 : w.heap.size < w.heap.size + 1 := by omega
      have hg01 : g0 < w.heap.size + 1 := by
        obtain ⟨g', o', _, _, e', h0', _⟩ := (unhide HH) k x (unhide HX4).1
        cases e'
        have h9 : g0 < w.heap.size := World.block_lt_of_cell? _ _ h0'
        omega
      clear hS hX hY hYn hadd hlit hx h4 hpa hp0 cp0 hvnew
      go_wp2
      have hmix : Tryz.prog.follows .mixedOrders = true := by kernel_rfl
      refine wp_region_held_drew (S := fun W => ∀ b o, b < w.heap.size + 1 → W.cell? ⟨b, o, none⟩ = wr.cell? ⟨b, o, none⟩) hmix (fun b o hb => rfl) (fun hHeld => ?_)
      refine wpAnyH_take (i := 0) (v := .pointer (some ⟨w.heap.size + 1 + 1, 0, none⟩)) rfl (by kernel_rfl) (by kernel_rfl) (by kernel_rfl) (fun _ _ _ h => h) (Or.inl ⟨by rfl, ?_⟩) hHeld ?_
      · (intro W hSW; go_simp)
      simp only [Act.put, List.setIfInBounds_toArray, List.set_cons_zero, List.set_cons_succ]
      refine wpAnyH_take (i := 2) (v := .pointer (some ⟨w.heap.size, 0, none⟩)) rfl (by kernel_rfl) (by kernel_rfl) (by kernel_rfl) (fun _ _ _ h => h) (Or.inl ⟨by rfl, ?_⟩) hHeld ?_
      · (intro W hSW; go_simp)
      simp only [Act.put, List.setIfInBounds_toArray, List.set_cons_zero, List.set_cons_succ]
      refine wpAnyH_take (i := 4) (v := .int .i64 (k : Int)) rfl (by kernel_rfl) (by kernel_rfl) (by kernel_rfl) (fun _ _ _ h => h) (Or.inl ⟨by rfl, ?_⟩) hHeld ?_
      · (intro W hSW; go_simp)
      simp only [Act.put, List.setIfInBounds_toArray, List.set_cons_zero, List.set_cons_succ]
      refine wpAnyH_take (i := 9) (v := .pointer (some ⟨w.heap.size, 0, none⟩)) rfl (by kernel_rfl) (by kernel_rfl) (by kernel_rfl) (fun _ _ _ h => h) (Or.inl ⟨by rfl, ?_⟩) hHeld ?_
      · (intro W hSW; go_simp)
      simp only [Act.put, List.setIfInBounds_toArray, List.set_cons_zero, List.set_cons_succ]
      refine wpAnyH_take (i := 11) (v := .int .i64 (k : Int)) rfl (by kernel_rfl) (by kernel_rfl) (by kernel_rfl) (fun _ _ _ h => h) (Or.inl ⟨by rfl, ?_⟩) hHeld ?_
      · (intro W hSW; go_simp)
      simp only [Act.put, List.setIfInBounds_toArray, List.set_cons_zero, List.set_cons_succ]
      refine wpAnyH_take (i := 3) (v := .slice (some ⟨g0, o0, none⟩) n c) rfl (by kernel_rfl) (by kernel_rfl) (by kernel_rfl) (fun _ _ _ h => h) (Or.inl ⟨by rfl, ?_⟩) hHeld ?_
      · (intro W hSW; go_simp)
      simp only [Act.put, List.setIfInBounds_toArray, List.set_cons_zero, List.set_cons_succ]
      refine wpAnyH_take (i := 5) (v := .pointer (some ⟨g0, o0 + k * 2, none⟩)) rfl (by kernel_rfl) (by kernel_rfl) (by kernel_rfl) (fun _ _ _ h => h) (Or.inl ⟨by rfl, ?_⟩) hHeld ?_
      · (intro W hSW; go_simp)
      simp only [Act.put, List.setIfInBounds_toArray, List.set_cons_zero, List.set_cons_succ]
      refine wpAnyH_take (i := 6) (v := .pointer (some ⟨g0, o0 + k * 2, none⟩)) rfl (by kernel_rfl) (by kernel_rfl) (by kernel_rfl) (fun _ _ _ h => h) (Or.inl ⟨by rfl, ?_⟩) hHeld ?_
      · (intro W hSW; go_simp)
      simp only [Act.put, List.setIfInBounds_toArray, List.set_cons_zero, List.set_cons_succ]
      refine wpAnyH_take (i := 7) (v := .int .i64 x.wear) rfl (by kernel_rfl) (by kernel_rfl) (by kernel_rfl) (fun _ _ _ h => h) (Or.inl ⟨by rfl, ?_⟩) hHeld ?_
      · (intro W hSW; go_simp)
      simp only [Act.put, List.setIfInBounds_toArray, List.set_cons_zero, List.set_cons_succ]
      refine wpAnyH_take (i := 10) (v := .slice (some ⟨g0, o0, none⟩) n c) rfl (by kernel_rfl) (by kernel_rfl) (by kernel_rfl) (fun _ _ _ h => h) (Or.inl ⟨by rfl, ?_⟩) hHeld ?_
      · (intro W hSW; go_simp)
      simp only [Act.put, List.setIfInBounds_toArray, List.set_cons_zero, List.set_cons_succ]
      refine wpAnyH_take (i := 12) (v := .pointer (some ⟨g0, o0 + k * 2, none⟩)) rfl (by kernel_rfl) (by kernel_rfl) (by kernel_rfl) (fun _ _ _ h => h) (Or.inl ⟨by rfl, ?_⟩) hHeld ?_
      · (intro W hSW; go_simp)
      simp only [Act.put, List.setIfInBounds_toArray, List.set_cons_zero, List.set_cons_succ]
      refine wpAnyH_take (i := 13) (v := .pointer (some ⟨g0, o0 + k * 2 + 1, none⟩)) rfl (by kernel_rfl) (by kernel_rfl) (by kernel_rfl) (fun _ _ _ h => h) (Or.inl ⟨by rfl, ?_⟩) hHeld ?_
      · (intro W hSW; go_simp)
      simp only [Act.put, List.setIfInBounds_toArray, List.set_cons_zero, List.set_cons_succ]
      refine wpAnyH_take (i := 14) (v := .slice (some ⟨pb, po, none⟩) 4 pc) rfl (by kernel_rfl) (by kernel_rfl) (by kernel_rfl) (fun _ _ _ h => h) (Or.inl ⟨by rfl, ?_⟩) hHeld ?_
      · (intro W hSW; go_simp)
      simp only [Act.put, List.setIfInBounds_toArray, List.set_cons_zero, List.set_cons_succ]
      refine wpAnyH_ready (rs := [1, 8]) (by kernel_rfl) (by simp) ?_
      refine AllReadyH.cons rfl (fun K hK => ?_) (AllReadyH.cons rfl (fun K hK => ?_) AllReadyH.nil)
      · go_simp
        refine hK.out _ _ ?_ (fun hHeld2 => ?_)
        · (first
            | assumption
            | (intro b o hb; rfl)
            | (intro b o hb; rw [cell_drew, cell_alloc_lt _ _ _ _ (by omega)])
            | (intro b o hb; exact (unhide HF).1 b o (by omega))
            | (intro b o hb; rw [cell_alloc_lt _ _ _ _ (by omega)]; exact (unhide HF).1 b o (by omega))
            | (intro b o hb; exact unhide HF8 b o (by omega) (by omega))
            | (intro b o hb; rw [World.cell?_setCell_other _ _ _ _ (by simp <;> omega)]; exact unhide HF8 b o (by omega) (by omega)))
        clear hK K hHeld
        have hHeld := hHeld2
        clear hHeld2
        try simp only [Act.put, List.setIfInBounds_toArray, List.set_cons_zero, List.set_cons_succ]
        refine wpAnyH_ready (rs := [8]) (by kernel_rfl) (by simp) ?_
        refine AllReadyH.cons rfl (fun K hK => ?_) AllReadyH.nil
        · go_simp
          refine hK.out _ _ ?_ (fun hHeld2 => ?_)
          · (first
              | assumption
              | (intro b o hb; rfl)
              | (intro b o hb; rw [cell_drew, cell_alloc_lt _ _ _ _ (by omega)])
              | (intro b o hb; exact (unhide HF).1 b o (by omega))
              | (intro b o hb; rw [cell_alloc_lt _ _ _ _ (by omega)]; exact (unhide HF).1 b o (by omega))
              | (intro b o hb; exact unhide HF8 b o (by omega) (by omega))
              | (intro b o hb; rw [World.cell?_setCell_other _ _ _ _ (by simp <;> omega)]; exact unhide HF8 b o (by omega) (by omega)))
          clear hK K hHeld
          have hHeld := hHeld2
          clear hHeld2
          try simp only [Act.put, List.setIfInBounds_toArray, List.set_cons_zero, List.set_cons_succ]
          refine wpAnyH_ready (rs := [15]) (by kernel_rfl) (by simp) ?_
          refine AllReadyH.cons rfl (fun K hK => ?_) AllReadyH.nil
          · refine step_append_lies _ rfl (.tmp 21) (.tmp 27) 106 rfl (w.heap.size + 3) 51 j0 _ 4 40 Tryz.underlying106 hj hy0 hy1 hy2 rfl (by decide) (.slice (some ⟨wr.heap.size, 0, none⟩) 0 0) 0 [] (by simp [Act.eval, Act.put]) (by exact unhide HLIT) ⟨pb, po, none⟩ 4 pc Y (by simp [Act.eval, Act.put]) hYl (by intro j u hu; rw [unhide HADD, cell_drew, cell_alloc_lt _ _ _ _ hpbl]; exact unhide HYN j u hu) hY1 (by omega) (by unfold maxLen; omega) (by omega) (by simp; omega) (wr.heap.size + 1) (by simp) ?_
            intro g2 cap2 w7 hown2 hgrow2 hat2 hlt2
            have e04 : 0 + 4 = 4 := rfl
            rw [e04] at hown2 ⊢
            have hsz7 : wr.heap.size + 1 ≤ w7.heap.size := by have := hgrow2.size; simpa using this
            have hfar : ∀ b o, b < wr.heap.size → w7.cell? ⟨b, o, none⟩ = wr.cell? ⟨b, o, none⟩ := fun b o hb => (hgrow2.cell_far ⟨b, o, none⟩ (by simp; omega) (by simp [Value.ownBlock]; omega)).trans (by rw [cell_drew, cell_alloc_lt _ _ _ _ hb])
            have hfarf : ∀ b o, b < wr.heap.size → w7.frozen? ⟨b, o, none⟩ = wr.frozen? ⟨b, o, none⟩ := fun b o hb => (hgrow2.frozen_far ⟨b, o, none⟩ (by simp; omega) (by simp [Value.ownBlock]; omega)).trans (by rw [frozen_drew, frozen_alloc_lt _ _ _ _ hb])
            have hk7 := (hfar _ 0 hvl).trans hcv
            have hf7 := (hfarf _ 0 hvl).trans hfv
            have hvl7 : w.heap.size + 1 + 1 < w7.heap.size := by omega
            have hR7 : w7.ownsRow (w.heap.size + 3) 108 2 v k X := World.ownsRow.kept (w := (wr.alloc (.cells #[] 51)).drew) (by exact hR.alloc _) hgrow2 (Or.inr (fun e => Nat.lt_irrefl _ (unhide HVN wr.heap.size e)))
            have HF := hide (And.intro hfar hfarf)
            clear hfar hfarf
            refine hK.out _ _ ?_ (fun hHeld2 => ?_)
            · (first
                | assumption
                | (intro b o hb; rfl)
                | (intro b o hb; rw [cell_drew, cell_alloc_lt _ _ _ _ (by omega)])
                | (intro b o hb; exact (unhide HF).1 b o (by omega))
                | (intro b o hb; rw [cell_alloc_lt _ _ _ _ (by omega)]; exact (unhide HF).1 b o (by omega))
                | (intro b o hb; exact unhide HF8 b o (by omega) (by omega))
                | (intro b o hb; rw [World.cell?_setCell_other _ _ _ _ (by simp <;> omega)]; exact unhide HF8 b o (by omega) (by omega)))
            clear hK K hHeld
            have hHeld := hHeld2
            clear hHeld2
            try simp only [Act.put, List.setIfInBounds_toArray, List.set_cons_zero, List.set_cons_succ]
            refine wpAnyH_take (i := 16) (v := .agg #[.int .i64 x.wear, .slice (some ⟨g2, 0, none⟩) 4 cap2]) rfl (by kernel_rfl) (by kernel_rfl) (by kernel_rfl) (fun _ _ _ h => h) (Or.inl ⟨by rfl, ?_⟩) hHeld ?_
            · (intro W hSW; go_simp)
            simp only [Act.put, List.setIfInBounds_toArray, List.set_cons_zero, List.set_cons_succ]
            refine wpAnyH_ready (rs := [17]) (by kernel_rfl) (by simp) ?_
            refine AllReadyH.cons rfl (fun K hK => ?_) AllReadyH.nil
            · go_simp
              refine hK.out _ _ ?_ (fun hHeld2 => ?_)
              · (first
                  | assumption
                  | (intro b o hb; rfl)
                  | (intro b o hb; rw [cell_drew, cell_alloc_lt _ _ _ _ (by omega)])
                  | (intro b o hb; exact (unhide HF).1 b o (by omega))
                  | (intro b o hb; rw [cell_alloc_lt _ _ _ _ (by omega)]; exact (unhide HF).1 b o (by omega))
                  | (intro b o hb; exact unhide HF8 b o (by omega) (by omega))
                  | (intro b o hb; rw [World.cell?_setCell_other _ _ _ _ (by simp <;> omega)]; exact unhide HF8 b o (by omega) (by omega)))
              clear hK K hHeld
              have hHeld := hHeld2
              clear hHeld2
              try simp only [Act.put, List.setIfInBounds_toArray, List.set_cons_zero, List.set_cons_succ]
              refine wpAnyH_ready (rs := [18]) (by kernel_rfl) (by simp) ?_
              refine AllReadyH.cons rfl (fun K hK => ?_) AllReadyH.nil
              · refine step_append_lies _ rfl (.tmp 14) (.tmp 30) 24 rfl (w.heap.size + 3) 108 i0 _ 2 32 Tryz.underlying24 hi hz0 hz1 hz2 rfl (by decide) v k X (by simp [Act.eval, Act.put]) (by exact hR7.alloc _) ⟨w7.heap.size, 0, none⟩ 1 1 [.int .i64 x.wear, .slice (some ⟨g2, 0, none⟩) 4 cap2] (by simp [Act.eval, Act.put]) rfl (World.news_of_block (cs := #[.int .i64 x.wear, .slice (some ⟨g2, 0, none⟩) 4 cap2]) (t := 108) (fr := (0, 0)) (by exact Go.Deep.blk_alloc_new _ _)) (by simp [Value.oneCell']) (by omega) (by unfold maxLen; omega) (by omega) (by simp; omega) (w7.heap.size + 1) (by simp) ?_
                intro g3 cap3 w8 hown3 hgrow3 hat3 hlt3
                have hk8 : w8.cell? ⟨w.heap.size + 1 + 1, 0, none⟩ = some v := (hgrow3.cell_far ⟨w.heap.size + 1 + 1, 0, none⟩ (by simp; omega) hne).trans ((cell_alloc_lt _ _ _ _ (by omega)).trans hk7)
                have hf8 : w8.frozen? ⟨w.heap.size + 1 + 1, 0, none⟩ = false := (hgrow3.frozen_far ⟨w.heap.size + 1 + 1, 0, none⟩ (by simp; omega) hne).trans ((frozen_alloc_lt _ _ _ _ (by omega)).trans hf7)
                have HF8 := hide (fun b o (hb : b < wr.heap.size) (hv' : b < w.heap.size + 1) => (hgrow3.cell_far ⟨b, o, none⟩ (by simp; omega) (fun e => by have := (hR7.lt b e.symm).1; omega)).trans ((cell_alloc_lt _ _ _ _ (by omega)).trans ((unhide HF).1 b o hb)))
                refine hK.out _ _ ?_ (fun hHeld2 => ?_)
                · (first
                    | assumption
                    | (intro b o hb; rfl)
                    | (intro b o hb; rw [cell_drew, cell_alloc_lt _ _ _ _ (by omega)])
                    | (intro b o hb; exact (unhide HF).1 b o (by omega))
                    | (intro b o hb; rw [cell_alloc_lt _ _ _ _ (by omega)]; exact (unhide HF).1 b o (by omega))
                    | (intro b o hb; exact unhide HF8 b o (by omega) (by omega))
                    | (intro b o hb; rw [World.cell?_setCell_other _ _ _ _ (by simp <;> omega)]; exact unhide HF8 b o (by omega) (by omega)))
                clear hK K hHeld
                have hHeld := hHeld2
                clear hHeld2
                try simp only [Act.put, List.setIfInBounds_toArray, List.set_cons_zero, List.set_cons_succ]
                refine wpAnyH_take (i := 19) (v := .pointer (some ⟨w.heap.size + 1 + 1, 0, none⟩)) rfl (by kernel_rfl) (by kernel_rfl) (by kernel_rfl) (fun _ _ _ h => h) (Or.inl ⟨by rfl, ?_⟩) hHeld ?_
                · (intro W hSW; go_simp)
                simp only [Act.put, List.setIfInBounds_toArray, List.set_cons_zero, List.set_cons_succ]
                refine wpAnyH_ready (rs := [20]) (by kernel_rfl) (by simp) ?_
                refine AllReadyH.cons rfl (fun K hK => ?_) AllReadyH.nil
                · go_simp
                  refine hK.out _ _ ?_ (fun hHeld2 => ?_)
                  · (first
                      | assumption
                      | (intro b o hb; rfl)
                      | (intro b o hb; rw [cell_drew, cell_alloc_lt _ _ _ _ (by omega)])
                      | (intro b o hb; exact (unhide HF).1 b o (by omega))
                      | (intro b o hb; rw [cell_alloc_lt _ _ _ _ (by omega)]; exact (unhide HF).1 b o (by omega))
                      | (intro b o hb; exact unhide HF8 b o (by omega) (by omega))
                      | (intro b o hb; rw [World.cell?_setCell_other _ _ _ _ (by simp <;> omega)]; exact unhide HF8 b o (by omega) (by omega)))
                  clear hK K hHeld
                  have hHeld := hHeld2
                  clear hHeld2
                  try simp only [Act.put, List.setIfInBounds_toArray, List.set_cons_zero, List.set_cons_succ]
                  refine wpAnyH_done (by kernel_rfl) ?_ _
                  go_wp2
                  go_roundw
                  case rel =>
                    obtain ⟨hx, h4⟩ := unhide HX4
                    rw [unhide HX] at hown3
                    rw [unhide HY] at hown2
                    have hq0 : wr.heap.size ≤ g2 := by
                      rcases hat2 with e | e
                      · simp [Value.ownBlock] at e; omega
                      · omega
                    have hBW : Below wr.heap.size wr w7 := Below.grown ((Below.refl wr.heap.size wr).alloc (Nat.le_refl _) _).drew hgrow2 (by simp) (fun j e => by simp [Value.ownBlock] at e; omega)
                    have hpush := (unhide HS).push (b := x) (q := g2) (c := cap2) (g := g3) (cap := cap3) (w1 := w8) (hBW.alloc hBW.size _) (by rw [h4]; exact hown2.alloc _) hq0 (by rw [htl, h4]; exact hown3) hgrow3 (by
                      rcases hat3 with e | e
                      · exact Or.inl e
                      · exact Or.inr (by simpa using e))
                    rw [htl] at hpush
                    have htk : bs.take k ++ [x] = bs.take (k + 1) := by rw [List.take_add_one, hx]; rfl
                    rw [htk] at hpush
                    have hbl : w8.heap[w.heap.size + 1 + 1]? = some (.cells #[v] 26 (0, 0)) := by
                      rw [hgrow3.block _ (by simp; omega) hne, Go.Deep.blk_alloc_lt _ _ _ (by omega), hBW.block _ (by omega)]
                      exact hv
                    have hsz8 := hgrow3.size
                    simp at hsz8
                    refine ⟨k + 1, _, _, _, by omega, by go_num, one_setCell hbl, hpush.setLow (by show w.heap.size + 1 + 1 < w.heap.size + 3; omega) _, ?_, by simp [World.setCell]; omega⟩
                    refine Below.setCell ?_ (by simp) _
                    refine Below.grown ((hB.trans (hBW.mono (by omega))).alloc (by omega) _) hgrow3 (by simp; omega) (fun j e => ?_)
                    have := ((unhide HS).row.lt j e).1
                    omega
                  case measure => simp [intOf]; omega
      · go_simp
        refine hK.out _ _ ?_ (fun hHeld2 => ?_)
        · (first
            | assumption
            | (intro b o hb; rfl)
            | (intro b o hb; rw [cell_drew, cell_alloc_lt _ _ _ _ (by omega)])
            | (intro b o hb; exact (unhide HF).1 b o (by omega))
            | (intro b o hb; rw [cell_alloc_lt _ _ _ _ (by omega)]; exact (unhide HF).1 b o (by omega))
            | (intro b o hb; exact unhide HF8 b o (by omega) (by omega))
            | (intro b o hb; rw [World.cell?_setCell_other _ _ _ _ (by simp <;> omega)]; exact unhide HF8 b o (by omega) (by omega)))
        clear hK K hHeld
        have hHeld := hHeld2
        clear hHeld2
        try simp only [Act.put, List.setIfInBounds_toArray, List.set_cons_zero, List.set_cons_succ]
        refine wpAnyH_ready (rs := [1, 15]) (by kernel_rfl) (by simp) ?_
        refine AllReadyH.cons rfl (fun K hK => ?_) (AllReadyH.cons rfl (fun K hK => ?_) AllReadyH.nil)
        · go_simp
          refine hK.out _ _ ?_ (fun hHeld2 => ?_)
          · (first
              | assumption
              | (intro b o hb; rfl)
              | (intro b o hb; rw [cell_drew, cell_alloc_lt _ _ _ _ (by omega)])
              | (intro b o hb; exact (unhide HF).1 b o (by omega))
              | (intro b o hb; rw [cell_alloc_lt _ _ _ _ (by omega)]; exact (unhide HF).1 b o (by omega))
              | (intro b o hb; exact unhide HF8 b o (by omega) (by omega))
              | (intro b o hb; rw [World.cell?_setCell_other _ _ _ _ (by simp <;> omega)]; exact unhide HF8 b o (by omega) (by omega)))
          clear hK K hHeld
          have hHeld := hHeld2
          clear hHeld2
          try simp only [Act.put, List.setIfInBounds_toArray, List.set_cons_zero, List.set_cons_succ]
          refine wpAnyH_ready (rs := [15]) (by kernel_rfl) (by simp) ?_
          refine AllReadyH.cons rfl (fun K hK => ?_) AllReadyH.nil
          · refine step_append_lies _ rfl (.tmp 21) (.tmp 27) 106 rfl (w.heap.size + 3) 51 j0 _ 4 40 Tryz.underlying106 hj hy0 hy1 hy2 rfl (by decide) (.slice (some ⟨wr.heap.size, 0, none⟩) 0 0) 0 [] (by simp [Act.eval, Act.put]) (by exact unhide HLIT) ⟨pb, po, none⟩ 4 pc Y (by simp [Act.eval, Act.put]) hYl (by intro j u hu; rw [unhide HADD, cell_drew, cell_alloc_lt _ _ _ _ hpbl]; exact unhide HYN j u hu) hY1 (by omega) (by unfold maxLen; omega) (by omega) (by simp; omega) (wr.heap.size + 1) (by simp) ?_
            intro g2 cap2 w7 hown2 hgrow2 hat2 hlt2
            have e04 : 0 + 4 = 4 := rfl
            rw [e04] at hown2 ⊢
            have hsz7 : wr.heap.size + 1 ≤ w7.heap.size := by have := hgrow2.size; simpa using this
            have hfar : ∀ b o, b < wr.heap.size → w7.cell? ⟨b, o, none⟩ = wr.cell? ⟨b, o, none⟩ := fun b o hb => (hgrow2.cell_far ⟨b, o, none⟩ (by simp; omega) (by simp [Value.ownBlock]; omega)).trans (by rw [cell_drew, cell_alloc_lt _ _ _ _ hb])
            have hfarf : ∀ b o, b < wr.heap.size → w7.frozen? ⟨b, o, none⟩ = wr.frozen? ⟨b, o, none⟩ := fun b o hb => (hgrow2.frozen_far ⟨b, o, none⟩ (by simp; omega) (by simp [Value.ownBlock]; omega)).trans (by rw [frozen_drew, frozen_alloc_lt _ _ _ _ hb])
            have hk7 := (hfar _ 0 hvl).trans hcv
            have hf7 := (hfarf _ 0 hvl).trans hfv
            have hvl7 : w.heap.size + 1 + 1 < w7.heap.size := by omega
            have hR7 : w7.ownsRow (w.heap.size + 3) 108 2 v k X := World.ownsRow.kept (w := (wr.alloc (.cells #[] 51)).drew) (by exact hR.alloc _) hgrow2 (Or.inr (fun e => Nat.lt_irrefl _ (unhide HVN wr.heap.size e)))
            have HF := hide (And.intro hfar hfarf)
            clear hfar hfarf
            refine hK.out _ _ ?_ (fun hHeld2 => ?_)
            · (first
                | assumption
                | (intro b o hb; rfl)
                | (intro b o hb; rw [cell_drew, cell_alloc_lt _ _ _ _ (by omega)])
                | (intro b o hb; exact (unhide HF).1 b o (by omega))
                | (intro b o hb; rw [cell_alloc_lt _ _ _ _ (by omega)]; exact (unhide HF).1 b o (by omega))
                | (intro b o hb; exact unhide HF8 b o (by omega) (by omega))
                | (intro b o hb; rw [World.cell?_setCell_other _ _ _ _ (by simp <;> omega)]; exact unhide HF8 b o (by omega) (by omega)))
            clear hK K hHeld
            have hHeld := hHeld2
            clear hHeld2
            try simp only [Act.put, List.setIfInBounds_toArray, List.set_cons_zero, List.set_cons_succ]
            refine wpAnyH_take (i := 16) (v := .agg #[.int .i64 x.wear, .slice (some ⟨g2, 0, none⟩) 4 cap2]) rfl (by kernel_rfl) (by kernel_rfl) (by kernel_rfl) (fun _ _ _ h => h) (Or.inl ⟨by rfl, ?_⟩) hHeld ?_
            · (intro W hSW; go_simp)
            simp only [Act.put, List.setIfInBounds_toArray, List.set_cons_zero, List.set_cons_succ]
            refine wpAnyH_ready (rs := [17]) (by kernel_rfl) (by simp) ?_
            refine AllReadyH.cons rfl (fun K hK => ?_) AllReadyH.nil
            · go_simp
              refine hK.out _ _ ?_ (fun hHeld2 => ?_)
              · (first
                  | assumption
                  | (intro b o hb; rfl)
                  | (intro b o hb; rw [cell_drew, cell_alloc_lt _ _ _ _ (by omega)])
                  | (intro b o hb; exact (unhide HF).1 b o (by omega))
                  | (intro b o hb; rw [cell_alloc_lt _ _ _ _ (by omega)]; exact (unhide HF).1 b o (by omega))
                  | (intro b o hb; exact unhide HF8 b o (by omega) (by omega))
                  | (intro b o hb; rw [World.cell?_setCell_other _ _ _ _ (by simp <;> omega)]; exact unhide HF8 b o (by omega) (by omega)))
              clear hK K hHeld
              have hHeld := hHeld2
              clear hHeld2
              try simp only [Act.put, List.setIfInBounds_toArray, List.set_cons_zero, List.set_cons_succ]
              refine wpAnyH_ready (rs := [18]) (by kernel_rfl) (by simp) ?_
              refine AllReadyH.cons rfl (fun K hK => ?_) AllReadyH.nil
              · refine step_append_lies _ rfl (.tmp 14) (.tmp 30) 24 rfl (w.heap.size + 3) 108 i0 _ 2 32 Tryz.underlying24 hi hz0 hz1 hz2 rfl (by decide) v k X (by simp [Act.eval, Act.put]) (by exact hR7.alloc _) ⟨w7.heap.size, 0, none⟩ 1 1 [.int .i64 x.wear, .slice (some ⟨g2, 0, none⟩) 4 cap2] (by simp [Act.eval, Act.put]) rfl (World.news_of_block (cs := #[.int .i64 x.wear, .slice (some ⟨g2, 0, none⟩) 4 cap2]) (t := 108) (fr := (0, 0)) (by exact Go.Deep.blk_alloc_new _ _)) (by simp [Value.oneCell']) (by omega) (by unfold maxLen; omega) (by omega) (by simp; omega) (w7.heap.size + 1) (by simp) ?_
                intro g3 cap3 w8 hown3 hgrow3 hat3 hlt3
                have hk8 : w8.cell? ⟨w.heap.size + 1 + 1, 0, none⟩ = some v := (hgrow3.cell_far ⟨w.heap.size + 1 + 1, 0, none⟩ (by simp; omega) hne).trans ((cell_alloc_lt _ _ _ _ (by omega)).trans hk7)
                have hf8 : w8.frozen? ⟨w.heap.size + 1 + 1, 0, none⟩ = false := (hgrow3.frozen_far ⟨w.heap.size + 1 + 1, 0, none⟩ (by simp; omega) hne).trans ((frozen_alloc_lt _ _ _ _ (by omega)).trans hf7)
                have HF8 := hide (fun b o (hb : b < wr.heap.size) (hv' : b < w.heap.size + 1) => (hgrow3.cell_far ⟨b, o, none⟩ (by simp; omega) (fun e => by have := (hR7.lt b e.symm).1; omega)).trans ((cell_alloc_lt _ _ _ _ (by omega)).trans ((unhide HF).1 b o hb)))
                refine hK.out _ _ ?_ (fun hHeld2 => ?_)
                · (first
                    | assumption
                    | (intro b o hb; rfl)
                    | (intro b o hb; rw [cell_drew, cell_alloc_lt _ _ _ _ (by omega)])
                    | (intro b o hb; exact (unhide HF).1 b o (by omega))
                    | (intro b o hb; rw [cell_alloc_lt _ _ _ _ (by omega)]; exact (unhide HF).1 b o (by omega))
                    | (intro b o hb; exact unhide HF8 b o (by omega) (by omega))
                    | (intro b o hb; rw [World.cell?_setCell_other _ _ _ _ (by simp <;> omega)]; exact unhide HF8 b o (by omega) (by omega)))
                clear hK K hHeld
                have hHeld := hHeld2
                clear hHeld2
                try simp only [Act.put, List.setIfInBounds_toArray, List.set_cons_zero, List.set_cons_succ]
                refine wpAnyH_take (i := 19) (v := .pointer (some ⟨w.heap.size + 1 + 1, 0, none⟩)) rfl (by kernel_rfl) (by kernel_rfl) (by kernel_rfl) (fun _ _ _ h => h) (Or.inl ⟨by rfl, ?_⟩) hHeld ?_
                · (intro W hSW; go_simp)
                simp only [Act.put, List.setIfInBounds_toArray, List.set_cons_zero, List.set_cons_succ]
                refine wpAnyH_ready (rs := [20]) (by kernel_rfl) (by simp) ?_
                refine AllReadyH.cons rfl (fun K hK => ?_) AllReadyH.nil
                · go_simp
                  refine hK.out _ _ ?_ (fun hHeld2 => ?_)
                  · (first
                      | assumption
                      | (intro b o hb; rfl)
                      | (intro b o hb; rw [cell_drew, cell_alloc_lt _ _ _ _ (by omega)])
                      | (intro b o hb; exact (unhide HF).1 b o (by omega))
                      | (intro b o hb; rw [cell_alloc_lt _ _ _ _ (by omega)]; exact (unhide HF).1 b o (by omega))
                      | (intro b o hb; exact unhide HF8 b o (by omega) (by omega))
                      | (intro b o hb; rw [World.cell?_setCell_other _ _ _ _ (by simp <;> omega)]; exact unhide HF8 b o (by omega) (by omega)))
                  clear hK K hHeld
                  have hHeld := hHeld2
                  clear hHeld2
                  try simp only [Act.put, List.setIfInBounds_toArray, List.set_cons_zero, List.set_cons_succ]
                  refine wpAnyH_done (by kernel_rfl) ?_ _
                  go_wp2
                  go_roundw
                  case rel =>
                    obtain ⟨hx, h4⟩ := unhide HX4
                    rw [unhide HX] at hown3
                    rw [unhide HY] at hown2
                    have hq0 : wr.heap.size ≤ g2 := by
                      rcases hat2 with e | e
                      · simp [Value.ownBlock] at e; omega
                      · omega
                    have hBW : Below wr.heap.size wr w7 := Below.grown ((Below.refl wr.heap.size wr).alloc (Nat.le_refl _) _).drew hgrow2 (by simp) (fun j e => by simp [Value.ownBlock] at e; omega)
                    have hpush := (unhide HS).push (b := x) (q := g2) (c := cap2) (g := g3) (cap := cap3) (w1 := w8) (hBW.alloc hBW.size _) (by rw [h4]; exact hown2.alloc _) hq0 (by rw [htl, h4]; exact hown3) hgrow3 (by
                      rcases hat3 with e | e
                      · exact Or.inl e
                      · exact Or.inr (by simpa using e))
                    rw [htl] at hpush
                    have htk : bs.take k ++ [x] = bs.take (k + 1) := by rw [List.take_add_one, hx]; rfl
                    rw [htk] at hpush
                    have hbl : w8.heap[w.heap.size + 1 + 1]? = some (.cells #[v] 26 (0, 0)) := by
                      rw [hgrow3.block _ (by simp; omega) hne, Go.Deep.blk_alloc_lt _ _ _ (by omega), hBW.block _ (by omega)]
                      exact hv
                    have hsz8 := hgrow3.size
                    simp at hsz8
                    refine ⟨k + 1, _, _, _, by omega, by go_num, one_setCell hbl, hpush.setLow (by show w.heap.size + 1 + 1 < w.heap.size + 3; omega) _, ?_, by simp [World.setCell]; omega⟩
                    refine Below.setCell ?_ (by simp) _
                    refine Below.grown ((hB.trans (hBW.mono (by omega))).alloc (by omega) _) hgrow3 (by simp; omega) (fun j e => ?_)
                    have := ((unhide HS).row.lt j e).1
                    omega
                  case measure => simp [intOf]; omega
        · refine step_append_lies _ rfl (.tmp 21) (.tmp 27) 106 rfl (w.heap.size + 3) 51 j0 _ 4 40 Tryz.underlying106 hj hy0 hy1 hy2 rfl (by decide) (.slice (some ⟨wr.heap.size, 0, none⟩) 0 0) 0 [] (by simp [Act.eval, Act.put]) (by exact unhide HLIT) ⟨pb, po, none⟩ 4 pc Y (by simp [Act.eval, Act.put]) hYl (by intro j u hu; rw [unhide HADD, cell_drew, cell_alloc_lt _ _ _ _ hpbl]; exact unhide HYN j u hu) hY1 (by omega) (by unfold maxLen; omega) (by omega) (by simp; omega) (wr.heap.size + 1) (by simp) ?_
          intro g2 cap2 w7 hown2 hgrow2 hat2 hlt2
          have e04 : 0 + 4 = 4 := rfl
          rw [e04] at hown2 ⊢
          have hsz7 : wr.heap.size + 1 ≤ w7.heap.size := by have := hgrow2.size; simpa using this
          have hfar : ∀ b o, b < wr.heap.size → w7.cell? ⟨b, o, none⟩ = wr.cell? ⟨b, o, none⟩ := fun b o hb => (hgrow2.cell_far ⟨b, o, none⟩ (by simp; omega) (by simp [Value.ownBlock]; omega)).trans (by rw [cell_drew, cell_alloc_lt _ _ _ _ hb])
          have hfarf : ∀ b o, b < wr.heap.size → w7.frozen? ⟨b, o, none⟩ = wr.frozen? ⟨b, o, none⟩ := fun b o hb => (hgrow2.frozen_far ⟨b, o, none⟩ (by simp; omega) (by simp [Value.ownBlock]; omega)).trans (by rw [frozen_drew, frozen_alloc_lt _ _ _ _ hb])
          have hk7 := (hfar _ 0 hvl).trans hcv
          have hf7 := (hfarf _ 0 hvl).trans hfv
          have hvl7 : w.heap.size + 1 + 1 < w7.heap.size := by omega
          have hR7 : w7.ownsRow (w.heap.size + 3) 108 2 v k X := World.ownsRow.kept (w := (wr.alloc (.cells #[] 51)).drew) (by exact hR.alloc _) hgrow2 (Or.inr (fun e => Nat.lt_irrefl _ (unhide HVN wr.heap.size e)))
          have HF := hide (And.intro hfar hfarf)
          clear hfar hfarf
          refine hK.out _ _ ?_ (fun hHeld2 => ?_)
          · (first
              | assumption
              | (intro b o hb; rfl)
              | (intro b o hb; rw [cell_drew, cell_alloc_lt _ _ _ _ (by omega)])
              | (intro b o hb; exact (unhide HF).1 b o (by omega))
              | (intro b o hb; rw [cell_alloc_lt _ _ _ _ (by omega)]; exact (unhide HF).1 b o (by omega))
              | (intro b o hb; exact unhide HF8 b o (by omega) (by omega))
              | (intro b o hb; rw [World.cell?_setCell_other _ _ _ _ (by simp <;> omega)]; exact unhide HF8 b o (by omega) (by omega)))
          clear hK K hHeld
          have hHeld := hHeld2
          clear hHeld2
          try simp only [Act.put, List.setIfInBounds_toArray, List.set_cons_zero, List.set_cons_succ]
          refine wpAnyH_take (i := 16) (v := .agg #[.int .i64 x.wear, .slice (some ⟨g2, 0, none⟩) 4 cap2]) rfl (by kernel_rfl) (by kernel_rfl) (by kernel_rfl) (fun _ _ _ h => h) (Or.inl ⟨by rfl, ?_⟩) hHeld ?_
          · (intro W hSW; go_simp)
          simp only [Act.put, List.setIfInBounds_toArray, List.set_cons_zero, List.set_cons_succ]
          refine wpAnyH_ready (rs := [1, 17]) (by kernel_rfl) (by simp) ?_
          refine AllReadyH.cons rfl (fun K hK => ?_) (AllReadyH.cons rfl (fun K hK => ?_) AllReadyH.nil)
          · go_simp
            refine hK.out _ _ ?_ (fun hHeld2 => ?_)
            · (first
                | assumption
                | (intro b o hb; rfl)
                | (intro b o hb; rw [cell_drew, cell_alloc_lt _ _ _ _ (by omega)])
                | (intro b o hb; exact (unhide HF).1 b o (by omega))
                | (intro b o hb; rw [cell_alloc_lt _ _ _ _ (by omega)]; exact (unhide HF).1 b o (by omega))
                | (intro b o hb; exact unhide HF8 b o (by omega) (by omega))
                | (intro b o hb; rw [World.cell?_setCell_other _ _ _ _ (by simp <;> omega)]; exact unhide HF8 b o (by omega) (by omega)))
            clear hK K hHeld
            have hHeld := hHeld2
            clear hHeld2
            try simp only [Act.put, List.setIfInBounds_toArray, List.set_cons_zero, List.set_cons_succ]
            refine wpAnyH_ready (rs := [17]) (by kernel_rfl) (by simp) ?_
            refine AllReadyH.cons rfl (fun K hK => ?_) AllReadyH.nil
            · go_simp
              refine hK.out _ _ ?_ (fun hHeld2 => ?_)
              · (first
                  | assumption
                  | (intro b o hb; rfl)
                  | (intro b o hb; rw [cell_drew, cell_alloc_lt _ _ _ _ (by omega)])
                  | (intro b o hb; exact (unhide HF).1 b o (by omega))
                  | (intro b o hb; rw [cell_alloc_lt _ _ _ _ (by omega)]; exact (unhide HF).1 b o (by omega))
                  | (intro b o hb; exact unhide HF8 b o (by omega) (by omega))
                  | (intro b o hb; rw [World.cell?_setCell_other _ _ _ _ (by simp <;> omega)]; exact unhide HF8 b o (by omega) (by omega)))
              clear hK K hHeld
              have hHeld := hHeld2
              clear hHeld2
              try simp only [Act.put, List.setIfInBounds_toArray, List.set_cons_zero, List.set_cons_succ]
              refine wpAnyH_ready (rs := [18]) (by kernel_rfl) (by simp) ?_
              refine AllReadyH.cons rfl (fun K hK => ?_) AllReadyH.nil
              · refine step_append_lies _ rfl (.tmp 14) (.tmp 30) 24 rfl (w.heap.size + 3) 108 i0 _ 2 32 Tryz.underlying24 hi hz0 hz1 hz2 rfl (by decide) v k X (by simp [Act.eval, Act.put]) (by exact hR7.alloc _) ⟨w7.heap.size, 0, none⟩ 1 1 [.int .i64 x.wear, .slice (some ⟨g2, 0, none⟩) 4 cap2] (by simp [Act.eval, Act.put]) rfl (World.news_of_block (cs := #[.int .i64 x.wear, .slice (some ⟨g2, 0, none⟩) 4 cap2]) (t := 108) (fr := (0, 0)) (by exact Go.Deep.blk_alloc_new _ _)) (by simp [Value.oneCell']) (by omega) (by unfold maxLen; omega) (by omega) (by simp; omega) (w7.heap.size + 1) (by simp) ?_
                intro g3 cap3 w8 hown3 hgrow3 hat3 hlt3
                have hk8 : w8.cell? ⟨w.heap.size + 1 + 1, 0, none⟩ = some v := (hgrow3.cell_far ⟨w.heap.size + 1 + 1, 0, none⟩ (by simp; omega) hne).trans ((cell_alloc_lt _ _ _ _ (by omega)).trans hk7)
                have hf8 : w8.frozen? ⟨w.heap.size + 1 + 1, 0, none⟩ = false := (hgrow3.frozen_far ⟨w.heap.size + 1 + 1, 0, none⟩ (by simp; omega) hne).trans ((frozen_alloc_lt _ _ _ _ (by omega)).trans hf7)
                have HF8 := hide (fun b o (hb : b < wr.heap.size) (hv' : b < w.heap.size + 1) => (hgrow3.cell_far ⟨b, o, none⟩ (by simp; omega) (fun e => by have := (hR7.lt b e.symm).1; omega)).trans ((cell_alloc_lt _ _ _ _ (by omega)).trans ((unhide HF).1 b o hb)))
                refine hK.out _ _ ?_ (fun hHeld2 => ?_)
                · (first
                    | assumption
                    | (intro b o hb; rfl)
                    | (intro b o hb; rw [cell_drew, cell_alloc_lt _ _ _ _ (by omega)])
                    | (intro b o hb; exact (unhide HF).1 b o (by omega))
                    | (intro b o hb; rw [cell_alloc_lt _ _ _ _ (by omega)]; exact (unhide HF).1 b o (by omega))
                    | (intro b o hb; exact unhide HF8 b o (by omega) (by omega))
                    | (intro b o hb; rw [World.cell?_setCell_other _ _ _ _ (by simp <;> omega)]; exact unhide HF8 b o (by omega) (by omega)))
                clear hK K hHeld
                have hHeld := hHeld2
                clear hHeld2
                try simp only [Act.put, List.setIfInBounds_toArray, List.set_cons_zero, List.set_cons_succ]
                refine wpAnyH_take (i := 19) (v := .pointer (some ⟨w.heap.size + 1 + 1, 0, none⟩)) rfl (by kernel_rfl) (by kernel_rfl) (by kernel_rfl) (fun _ _ _ h => h) (Or.inl ⟨by rfl, ?_⟩) hHeld ?_
                · (intro W hSW; go_simp)
                simp only [Act.put, List.setIfInBounds_toArray, List.set_cons_zero, List.set_cons_succ]
                refine wpAnyH_ready (rs := [20]) (by kernel_rfl) (by simp) ?_
                refine AllReadyH.cons rfl (fun K hK => ?_) AllReadyH.nil
                · go_simp
                  refine hK.out _ _ ?_ (fun hHeld2 => ?_)
                  · (first
                      | assumption
                      | (intro b o hb; rfl)
                      | (intro b o hb; rw [cell_drew, cell_alloc_lt _ _ _ _ (by omega)])
                      | (intro b o hb; exact (unhide HF).1 b o (by omega))
                      | (intro b o hb; rw [cell_alloc_lt _ _ _ _ (by omega)]; exact (unhide HF).1 b o (by omega))
                      | (intro b o hb; exact unhide HF8 b o (by omega) (by omega))
                      | (intro b o hb; rw [World.cell?_setCell_other _ _ _ _ (by simp <;> omega)]; exact unhide HF8 b o (by omega) (by omega)))
                  clear hK K hHeld
                  have hHeld := hHeld2
                  clear hHeld2
                  try simp only [Act.put, List.setIfInBounds_toArray, List.set_cons_zero, List.set_cons_succ]
                  refine wpAnyH_done (by kernel_rfl) ?_ _
                  go_wp2
                  go_roundw
                  case rel =>
                    obtain ⟨hx, h4⟩ := unhide HX4
                    rw [unhide HX] at hown3
                    rw [unhide HY] at hown2
                    have hq0 : wr.heap.size ≤ g2 := by
                      rcases hat2 with e | e
                      · simp [Value.ownBlock] at e; omega
                      · omega
                    have hBW : Below wr.heap.size wr w7 := Below.grown ((Below.refl wr.heap.size wr).alloc (Nat.le_refl _) _).drew hgrow2 (by simp) (fun j e => by simp [Value.ownBlock] at e; omega)
                    have hpush := (unhide HS).push (b := x) (q := g2) (c := cap2) (g := g3) (cap := cap3) (w1 := w8) (hBW.alloc hBW.size _) (by rw [h4]; exact hown2.alloc _) hq0 (by rw [htl, h4]; exact hown3) hgrow3 (by
                      rcases hat3 with e | e
                      · exact Or.inl e
                      · exact Or.inr (by simpa using e))
                    rw [htl] at hpush
                    have htk : bs.take k ++ [x] = bs.take (k + 1) := by rw [List.take_add_one, hx]; rfl
                    rw [htk] at hpush
                    have hbl : w8.heap[w.heap.size + 1 + 1]? = some (.cells #[v] 26 (0, 0)) := by
                      rw [hgrow3.block _ (by simp; omega) hne, Go.Deep.blk_alloc_lt _ _ _ (by omega), hBW.block _ (by omega)]
                      exact hv
                    have hsz8 := hgrow3.size
                    simp at hsz8
                    refine ⟨k + 1, _, _, _, by omega, by go_num, one_setCell hbl, hpush.setLow (by show w.heap.size + 1 + 1 < w.heap.size + 3; omega) _, ?_, by simp [World.setCell]; omega⟩
                    refine Below.setCell ?_ (by simp) _
                    refine Below.grown ((hB.trans (hBW.mono (by omega))).alloc (by omega) _) hgrow3 (by simp; omega) (fun j e => ?_)
                    have := ((unhide HS).row.lt j e).1
                    omega
                  case measure => simp [intOf]; omega
          · go_simp
            refine hK.out _ _ ?_ (fun hHeld2 => ?_)
            · (first
                | assumption
                | (intro b o hb; rfl)
                | (intro b o hb; rw [cell_drew, cell_alloc_lt _ _ _ _ (by omega)])
                | (intro b o hb; exact (unhide HF).1 b o (by omega))
                | (intro b o hb; rw [cell_alloc_lt _ _ _ _ (by omega)]; exact (unhide HF).1 b o (by omega))
                | (intro b o hb; exact unhide HF8 b o (by omega) (by omega))
                | (intro b o hb; rw [World.cell?_setCell_other _ _ _ _ (by simp <;> omega)]; exact unhide HF8 b o (by omega) (by omega)))
            clear hK K hHeld
            have hHeld := hHeld2
            clear hHeld2
            try simp only [Act.put, List.setIfInBounds_toArray, List.set_cons_zero, List.set_cons_succ]
            refine wpAnyH_ready (rs := [1]) (by kernel_rfl) (by simp) ?_
            refine AllReadyH.cons rfl (fun K hK => ?_) AllReadyH.nil
            · go_simp
              refine hK.out _ _ ?_ (fun hHeld2 => ?_)
              · (first
                  | assumption
                  | (intro b o hb; rfl)
                  | (intro b o hb; rw [cell_drew, cell_alloc_lt _ _ _ _ (by omega)])
                  | (intro b o hb; exact (unhide HF).1 b o (by omega))
                  | (intro b o hb; rw [cell_alloc_lt _ _ _ _ (by omega)]; exact (unhide HF).1 b o (by omega))
                  | (intro b o hb; exact unhide HF8 b o (by omega) (by omega))
                  | (intro b o hb; rw [World.cell?_setCell_other _ _ _ _ (by simp <;> omega)]; exact unhide HF8 b o (by omega) (by omega)))
              clear hK K hHeld
              have hHeld := hHeld2
              clear hHeld2
              try simp only [Act.put, List.setIfInBounds_toArray, List.set_cons_zero, List.set_cons_succ]
              refine wpAnyH_ready (rs := [18]) (by kernel_rfl) (by simp) ?_
              refine AllReadyH.cons rfl (fun K hK => ?_) AllReadyH.nil
              · refine step_append_lies _ rfl (.tmp 14) (.tmp 30) 24 rfl (w.heap.size + 3) 108 i0 _ 2 32 Tryz.underlying24 hi hz0 hz1 hz2 rfl (by decide) v k X (by simp [Act.eval, Act.put]) (by exact hR7.alloc _) ⟨w7.heap.size, 0, none⟩ 1 1 [.int .i64 x.wear, .slice (some ⟨g2, 0, none⟩) 4 cap2] (by simp [Act.eval, Act.put]) rfl (World.news_of_block (cs := #[.int .i64 x.wear, .slice (some ⟨g2, 0, none⟩) 4 cap2]) (t := 108) (fr := (0, 0)) (by exact Go.Deep.blk_alloc_new _ _)) (by simp [Value.oneCell']) (by omega) (by unfold maxLen; omega) (by omega) (by simp; omega) (w7.heap.size + 1) (by simp) ?_
                intro g3 cap3 w8 hown3 hgrow3 hat3 hlt3
                have hk8 : w8.cell? ⟨w.heap.size + 1 + 1, 0, none⟩ = some v := (hgrow3.cell_far ⟨w.heap.size + 1 + 1, 0, none⟩ (by simp; omega) hne).trans ((cell_alloc_lt _ _ _ _ (by omega)).trans hk7)
                have hf8 : w8.frozen? ⟨w.heap.size + 1 + 1, 0, none⟩ = false := (hgrow3.frozen_far ⟨w.heap.size + 1 + 1, 0, none⟩ (by simp; omega) hne).trans ((frozen_alloc_lt _ _ _ _ (by omega)).trans hf7)
                have HF8 := hide (fun b o (hb : b < wr.heap.size) (hv' : b < w.heap.size + 1) => (hgrow3.cell_far ⟨b, o, none⟩ (by simp; omega) (fun e => by have := (hR7.lt b e.symm).1; omega)).trans ((cell_alloc_lt _ _ _ _ (by omega)).trans ((unhide HF).1 b o hb)))
                refine hK.out _ _ ?_ (fun hHeld2 => ?_)
                · (first
                    | assumption
                    | (intro b o hb; rfl)
                    | (intro b o hb; rw [cell_drew, cell_alloc_lt _ _ _ _ (by omega)])
                    | (intro b o hb; exact (unhide HF).1 b o (by omega))
                    | (intro b o hb; rw [cell_alloc_lt _ _ _ _ (by omega)]; exact (unhide HF).1 b o (by omega))
                    | (intro b o hb; exact unhide HF8 b o (by omega) (by omega))
                    | (intro b o hb; rw [World.cell?_setCell_other _ _ _ _ (by simp <;> omega)]; exact unhide HF8 b o (by omega) (by omega)))
                clear hK K hHeld
                have hHeld := hHeld2
                clear hHeld2
                try simp only [Act.put, List.setIfInBounds_toArray, List.set_cons_zero, List.set_cons_succ]
                refine wpAnyH_take (i := 19) (v := .pointer (some ⟨w.heap.size + 1 + 1, 0, none⟩)) rfl (by kernel_rfl) (by kernel_rfl) (by kernel_rfl) (fun _ _ _ h => h) (Or.inl ⟨by rfl, ?_⟩) hHeld ?_
                · (intro W hSW; go_simp)
                simp only [Act.put, List.setIfInBounds_toArray, List.set_cons_zero, List.set_cons_succ]
                refine wpAnyH_ready (rs := [20]) (by kernel_rfl) (by simp) ?_
                refine AllReadyH.cons rfl (fun K hK => ?_) AllReadyH.nil
                · go_simp
                  refine hK.out _ _ ?_ (fun hHeld2 => ?_)
                  · (first
                      | assumption
                      | (intro b o hb; rfl)
                      | (intro b o hb; rw [cell_drew, cell_alloc_lt _ _ _ _ (by omega)])
                      | (intro b o hb; exact (unhide HF).1 b o (by omega))
                      | (intro b o hb; rw [cell_alloc_lt _ _ _ _ (by omega)]; exact (unhide HF).1 b o (by omega))
                      | (intro b o hb; exact unhide HF8 b o (by omega) (by omega))
                      | (intro b o hb; rw [World.cell?_setCell_other _ _ _ _ (by simp <;> omega)]; exact unhide HF8 b o (by omega) (by omega)))
                  clear hK K hHeld
                  have hHeld := hHeld2
                  clear hHeld2
                  try simp only [Act.put, List.setIfInBounds_toArray, List.set_cons_zero, List.set_cons_succ]
                  refine wpAnyH_done (by kernel_rfl) ?_ _
                  go_wp2
                  go_roundw
                  case rel =>
                    obtain ⟨hx, h4⟩ := unhide HX4
                    rw [unhide HX] at hown3
                    rw [unhide HY] at hown2
                    have hq0 : wr.heap.size ≤ g2 := by
                      rcases hat2 with e | e
                      · simp [Value.ownBlock] at e; omega
                      · omega
                    have hBW : Below wr.heap.size wr w7 := Below.grown ((Below.refl wr.heap.size wr).alloc (Nat.le_refl _) _).drew hgrow2 (by simp) (fun j e => by simp [Value.ownBlock] at e; omega)
                    have hpush := (unhide HS).push (b := x) (q := g2) (c := cap2) (g := g3) (cap := cap3) (w1 := w8) (hBW.alloc hBW.size _) (by rw [h4]; exact hown2.alloc _) hq0 (by rw [htl, h4]; exact hown3) hgrow3 (by
                      rcases hat3 with e | e
                      · exact Or.inl e
                      · exact Or.inr (by simpa using e))
                    rw [htl] at hpush
                    have htk : bs.take k ++ [x] = bs.take (k + 1) := by rw [List.take_add_one, hx]; rfl
                    rw [htk] at hpush
                    have hbl : w8.heap[w.heap.size + 1 + 1]? = some (.cells #[v] 26 (0, 0)) := by
                      rw [hgrow3.block _ (by simp; omega) hne, Go.Deep.blk_alloc_lt _ _ _ (by omega), hBW.block _ (by omega)]
                      exact hv
                    have hsz8 := hgrow3.size
                    simp at hsz8
                    refine ⟨k + 1, _, _, _, by omega, by go_num, one_setCell hbl, hpush.setLow (by show w.heap.size + 1 + 1 < w.heap.size + 3; omega) _, ?_, by simp [World.setCell]; omega⟩
                    refine Below.setCell ?_ (by simp) _
                    refine Below.grown ((hB.trans (hBW.mono (by omega))).alloc (by omega) _) hgrow3 (by simp; omega) (fun j e => ?_)
                    have := ((unhide HS).row.lt j e).1
                    omega
                  case measure => simp [intOf]; omega
    · have hk' : k = bs.length := by have := unhide HL; omega
      rw [hk', List.take_length] at hS
      obtain ⟨va, vc, rfl, _⟩ := hS.form
      have hcv := cell_of_one hv
      have hfv := free_of_one hv
      have HSS := hide hS
      obtain ⟨nn, hnn⟩ : ∃ nn, nn = bs.length := ⟨_, rfl⟩
      rw [← hnn] at hcv HSS
      clear hS hv hnn hk'
      go_wp2
      refine bodyPost_ret (v := .agg #[.slice va nn vc]) (by simp [results, Tryz.results94, go_sem, hres]) rfl ⟨.slice va nn vc, Q, C, rfl, ?_, ?_⟩
      · exact (unhide HSS).setLow (a := ⟨w.heap.size + 1, 0, none⟩) (by show w.heap.size + 1 < w.heap.size + 3; omega) _
      · exact hW.setCell (by simp) _

end Go.Proofs.YtjgcjeaplckbbaaGreat

/- A chip held in arrays: 205 cells in one row. No program is named here. -/
namespace Go.Proofs.YtjgcjeaplckbbaaGreat
open Go.RowKit
set_option linter.unusedVariables false
set_option linter.unusedSimpArgs false

structure CC where
  count : Int
  wear : Nat → Int
  page : Nat → Nat → Pg

/-- What stands in cell i. -/
def ccF (m : CC) (i : Nat) : Value :=
  if i = 0 then .int .i64 m.count
  else if (i - 1) % 17 = 0 then .int .i64 (m.wear ((i - 1) / 17))
  else pgV (m.page ((i - 1) / 17) (((i - 1) % 17 - 1) / 4)) (((i - 1) % 17 - 1) % 4)
def ccA (m : CC) : Array Value := Array.ofFn (n := 205) fun i => ccF m i.val

theorem ccA_size (m : CC) : (ccA m).size = 205 := by simp [ccA]
theorem ccA_get (m : CC) {i : Nat} (hi : i < 205) : (ccA m)[i]? = some (ccF m i) := by simp [ccA, hi]
theorem ccA_count (m : CC) : (ccA m)[0]? = some (.int .i64 m.count) := by rw [ccA_get m (by omega)]; rfl
theorem ccA_wear (m : CC) {b : Nat} (hb : b < 12) : (ccA m)[1 + b * 17]? = some (.int .i64 (m.wear b)) := by
  rw [ccA_get m (by omega)]
  unfold ccF
  rw [if_neg (by omega), if_pos (by omega), show (1 + b * 17 - 1) / 17 = b by omega]
theorem ccA_page (m : CC) {b k j : Nat} (hb : b < 12) (hk : k < 4) (hj : j < 4) : (ccA m)[1 + b * 17 + 1 + k * 4 + j]? = some (pgV (m.page b k) j) := by
  rw [ccA_get m (by omega)]
  unfold ccF
  have h4 : k = 0 ∨ k = 1 ∨ k = 2 ∨ k = 3 := by omega
  have e1 : (1 + b * 17 + 1 + k * 4 + j - 1) / 17 = b := by rcases h4 with rfl | rfl | rfl | rfl <;> omega
  have e2 : (1 + b * 17 + 1 + k * 4 + j - 1) % 17 = 1 + k * 4 + j := by rcases h4 with rfl | rfl | rfl | rfl <;> omega
  rw [if_neg (by omega), if_neg (by omega), e1, e2, show (1 + k * 4 + j - 1) / 4 = k by omega, show (1 + k * 4 + j - 1) % 4 = j by omega]

theorem pgV_one (p : Pg) (j : Nat) : (pgV p j).oneCell' = true := by
  match j with
  | 0 => rfl
  | 1 => rfl
  | 2 => rfl
  | _ + 3 => rfl
theorem ccF_one (m : CC) (i : Nat) : (ccF m i).oneCell' = true := by
  unfold ccF
  split
  · rfl
  · split
    · rfl
    · exact pgV_one _ _
theorem ccA_one (m : CC) : ∀ v ∈ (ccA m).toList, v.oneCell' = true := by
  intro v hv
  have hv' : v ∈ ccA m := by simpa using hv
  obtain ⟨i, hi, rfl⟩ := Array.mem_iff_getElem.1 hv'
  simp only [ccA, Array.getElem_ofFn]
  exact ccF_one _ _

/-- A new row is written from end to end. -/
theorem storeNew (P : Program) (W : World) (G : Nat) (hG : W.heap.size = G) (cur : Array Value) (t : TypeId) (vs : List Value) (hl : vs.length = cur.size) (h1 : ∀ v ∈ vs, v.oneCell' = true) :
    (storeCells ⟨G, 0, none⟩ vs).run P (W.alloc (.cells cur t)) = .ok () (W.alloc (.cells vs.toArray t)) := by
  subst hG
  have hg : (W.alloc (.cells cur t)).heap[W.heap.size]? = some (.cells cur t (0, 0)) := Go.Deep.blk_alloc_new _ _
  rw [run_storeCells_at P W.heap.size 0 t vs 0 cur _ hg (by omega) h1]
  congr 1
  simp only [Nat.zero_add, List.take_zero, List.nil_append]
  rw [List.drop_eq_nil_of_le (by simp [hl]), List.append_nil]
  unfold World.setRow World.alloc
  congr 1
  apply Array.ext
  · simp
  · intro i h1 h2
    simp only [Array.getElem_modify, Array.getElem_push]
    by_cases e : W.heap.size = i
    · subst e; simp
    · have : i < W.heap.size := by simp at h2; omega
      simp [e, this]

/-- The pages of a block, as a list. -/
def ccPs (m : CC) (b : Nat) : List Pg := [m.page b 0, m.page b 1, m.page b 2, m.page b 3]
/-- The blocks that are there, as a list. -/
def ccBs (m : CC) (n : Nat) : List Bk := (List.range n).map fun b => ⟨m.wear b, ccPs m b⟩
theorem ccBs_length (m : CC) (n : Nat) : (ccBs m n).length = n := by simp [ccBs]
theorem ccBs_at (m : CC) {n b : Nat} (hb : b < n) : (ccBs m n)[b]? = some ⟨m.wear b, ccPs m b⟩ := by simp [ccBs, hb]
theorem ccPs_at (m : CC) (b : Nat) {k : Nat} (hk : k < 4) : (ccPs m b)[k]? = some (m.page b k) := by
  have h4 : k = 0 ∨ k = 1 ∨ k = 2 ∨ k = 3 := by omega
  rcases h4 with rfl | rfl | rfl | rfl <;> rfl

/-- copy of four pages out of the middle of a row into a row that was made for them. -/
theorem copy_pages (P : Program) (w : World) (dT sT ty elem : TypeId) (g b : Nat) (o : Nat) (cur : Array Value) (t : TypeId) (ps : List Pg) (hps : ps.length = 4)
    (hu : P.underlying dT = some (.slice elem)) (hs : (P.info? elem).map (·.size) = some 4)
    (hg : w.heap[g]? = some (.cells cur t (0, 0))) (hcur : cur.size = 16)
    (hsrc : ∀ k p, ps[k]? = some p → ∀ j, j < 4 → w.cell? ⟨b, o + (k * 4 + j), none⟩ = some (pgV p j)) :
    ∃ C : Array Value, C.size = 16 ∧ (∀ i, i < 16 → C[i]? = some (pgsF ps i)) ∧
    (Builtin.copy_ #[dT, sT] ty #[.slice (some ⟨g, 0, none⟩) 4 4, .slice (some ⟨b, o, none⟩) 4 4]).run P w = .ok (goInt 4) (w.setRow g C) := by
  have hsrc' : ∀ j, j < 16 → w.cell? ((⟨b, o, none⟩ : Addr).add j) = some (pgsF ps j) := fun j hj => by
    have hadd : (⟨b, o, none⟩ : Addr).add j = ⟨b, o + j, none⟩ := by unfold Addr.add; split <;> simp_all
    obtain ⟨p, hp⟩ := getElem?_ex (l := ps) (k := j / 4) (by omega)
    have := hsrc (j / 4) p hp (j % 4) (by omega)
    rw [show j / 4 * 4 + j % 4 = j by omega] at this
    rw [hadd, this]
    unfold pgsF
    rw [hp]
    rfl
  have hl := run_loadCells (P := P) w ⟨b, o, none⟩ 16 (pgsF ps) hsrc'
  have hst := run_storeCells_at P g 0 t ((List.range 16).map (pgsF ps)) 0 cur w hg (by simp [hcur]) (fun v hv => by
    obtain ⟨i, _, rfl⟩ := List.mem_map.1 hv
    exact pgV_one _ _)
  refine ⟨((List.range 16).map (pgsF ps)).toArray, by simp, fun i hi => by simp [hi], ?_⟩
  cases hq : P.info? elem with
  | none => simp [hq] at hs
  | some i =>
    have hi : i.size = 4 := by simpa [hq] using hs
    have hst' : (storeCells ⟨g, 0, none⟩ ((List.range 16).map (pgsF ps))).run P w = .ok () (w.setRow g ((List.range 16).map (pgsF ps)).toArray) := by
      rw [hst]
      congr 2
      simp [hcur]
    simp [Builtin.copy_, run_underlying hu, Builtin.lenOf, Builtin.firstCells, sizeOf, typeInfo, hq, hi, hl, hst']

theorem rowIs_setRow {w : World} {g : Nat} {t : TypeId} {cur C : Array Value} {n : Nat} {f : Nat → Value} (hg : w.heap[g]? = some (.cells cur t (0, 0))) (hC : C.size = n) (hf : ∀ i, i < n → C[i]? = some (f i)) : (w.setRow g C).rowIs g t n f :=
  ⟨C, setRow_heap w g cur C t (0, 0) hg, hC, hf⟩

theorem setRow_alloc (W : World) (cur C : Array Value) (t : TypeId) : (W.alloc (.cells cur t)).setRow W.heap.size C = W.alloc (.cells C t) := by
  unfold World.setRow World.alloc
  congr 1
  apply Array.ext
  · simp
  · intro i h1 h2
    simp only [Array.getElem_modify, Array.getElem_push]
    by_cases e : W.heap.size = i
    · subst e; simp
    · have : i < W.heap.size := by simp at h2; omega
      simp [e, this]

/-- copy of four pages into the row that was made last. -/
theorem copy_new (P : Program) (W : World) (dT sT ty elem : TypeId) (b o : Nat) (cur : Array Value) (t : TypeId) (ps : List Pg) (hps : ps.length = 4)
    (hu : P.underlying dT = some (.slice elem)) (hs : (P.info? elem).map (·.size) = some 4) (hcur : cur.size = 16) (hb : b < W.heap.size)
    (hsrc : ∀ k p, ps[k]? = some p → ∀ j, j < 4 → W.cell? ⟨b, o + (k * 4 + j), none⟩ = some (pgV p j)) :
    ∃ C : Array Value, (W.alloc (.cells C t)).rowIs W.heap.size t 16 (pgsF ps) ∧
    (Builtin.copy_ #[dT, sT] ty #[.slice (some ⟨W.heap.size, 0, none⟩) 4 4, .slice (some ⟨b, o, none⟩) 4 4]).run P (W.alloc (.cells cur t)) = .ok (goInt 4) (W.alloc (.cells C t)) := by
  obtain ⟨C, h1, h2, h3⟩ := copy_pages P (W.alloc (.cells cur t)) dT sT ty elem W.heap.size b o cur t ps hps hu hs (Go.Deep.blk_alloc_new _ _) hcur (fun k p hp j hj => by
    rw [cell_alloc_lt _ _ _ _ hb]; exact hsrc k p hp j hj)
  refine ⟨C, ⟨C, Go.Deep.blk_alloc_new _ _, h1, h2⟩, ?_⟩
  rw [h3, setRow_alloc]

/-- Four pages in sixteen cells; a block in seventeen. -/
def paA (f : Nat → Pg) : Array Value := Array.ofFn (n := 16) fun i => pgV (f (i.val / 4)) (i.val % 4)
def bcF (x : Int) (f : Nat → Pg) (i : Nat) : Value := if i = 0 then .int .i64 x else pgV (f ((i - 1) / 4)) ((i - 1) % 4)
def bcA (x : Int) (f : Nat → Pg) : Array Value := Array.ofFn (n := 17) fun i => bcF x f i.val
theorem paA_size (f : Nat → Pg) : (paA f).size = 16 := by simp [paA]
theorem bcA_size (x : Int) (f : Nat → Pg) : (bcA x f).size = 17 := by simp [bcA]
theorem paA_get (f : Nat → Pg) {i : Nat} (h : i < 16) : (paA f)[i]? = some (pgV (f (i / 4)) (i % 4)) := by simp [paA, h]
theorem bcA_get (x : Int) (f : Nat → Pg) {i : Nat} (h : i < 17) : (bcA x f)[i]? = some (bcF x f i) := by simp [bcA, h]
theorem paA_page (f : Nat → Pg) {k j : Nat} (hk : k < 4) (hj : j < 4) : (paA f)[k * 4 + j]? = some (pgV (f k) j) := by
  rw [paA_get f (by omega), show (k * 4 + j) / 4 = k by omega, show (k * 4 + j) % 4 = j by omega]
theorem bcA_page (x : Int) (f : Nat → Pg) {i : Nat} (h : i < 16) : (bcA x f)[1 + i]? = some (pgV (f (i / 4)) (i % 4)) := by
  rw [bcA_get x f (by omega)]
  unfold bcF
  rw [if_neg (by omega), show 1 + i - 1 = i by omega]
theorem ccA_block (m : CC) {b i : Nat} (hb : b < 12) (hi : i < 17) : (ccA m)[1 + b * 17 + i]? = (bcA (m.wear b) (m.page b))[i]? := by
  rw [bcA_get _ _ hi]
  unfold bcF
  by_cases e : i = 0
  · subst e; rw [if_pos rfl]; exact ccA_wear m hb
  · rw [if_neg e]
    have := ccA_page m (b := b) (k := (i - 1) / 4) (j := (i - 1) % 4) hb (by omega) (by omega)
    rw [show 1 + b * 17 + 1 + (i - 1) / 4 * 4 + (i - 1) % 4 = 1 + b * 17 + i by omega] at this
    exact this
theorem ccA_pages (m : CC) {b i : Nat} (hb : b < 12) (hi : i < 16) : (ccA m)[1 + b * 17 + 1 + i]? = (paA (m.page b))[i]? := by
  rw [paA_get _ hi]
  have := ccA_page m (b := b) (k := i / 4) (j := i % 4) hb (by omega) (by omega)
  rw [show 1 + b * 17 + 1 + i / 4 * 4 + i % 4 = 1 + b * 17 + 1 + i by omega] at this
  exact this

/-- A struct or an array is read out of the middle of a row. -/
theorem run_loadVar_mid {P : Program} (w : World) (g off : Nat) (ty : TypeId) (A : Array Value) (s : Nat) (hA : A.size = s) (hc : ∀ j, j < s → w.cell? ⟨g, off + j, none⟩ = A[j]?) (d : TypeDesc)
    (hu : P.underlying ty = some d) (hd : (match d with | .struct _ | .array _ _ => true | _ => false) = true) (hi : (P.info? ty).map (·.size) = some s) :
    (loadVar ty ⟨g, off, none⟩).run P w = .ok (.agg A) w := by
  have hl : (loadCells ⟨g, off, none⟩ A.toList.length).run P w = .ok A.toList.toArray w :=
    run_loadCells_list (P := P) w ⟨g, off, none⟩ A.toList (fun j v hv => by
      have hadd : (⟨g, off, none⟩ : Addr).add j = ⟨g, off + j, none⟩ := by unfold Addr.add; split <;> simp_all
      have hj : j < s := by rw [← hA, ← Array.length_toList]; exact (List.getElem?_eq_some_iff.1 hv).1
      rw [hadd, hc j hj, ← hv, Array.getElem?_toList])
  cases hq : P.info? ty with
  | none => simp [hq] at hi
  | some i =>
    have hs : i.size = A.size := by rw [hA]; simpa [hq] using hi
    have hagg : (isAgg ty).run P w = .ok true w := by
      unfold isAgg
      rw [Sem.run_bind, run_underlying hu w]
      cases d <;> simp_all
    simp only [Array.length_toList, Array.toArray_toList] at hl
    simp [loadVar, Sem.run_bind, hagg, sizeOf, typeInfo, hq, hs, hl]

theorem wp_load_mid {P : Program} {o : Oper} {a : Act} {w : World} {K : Act → World → Prop} {Q : Exit → Act → World → Prop} (ty : TypeId) (x : Operand) (ho : o.op = .load ty x)
    (g off : Nat) (hx : a.eval x = .pointer (some ⟨g, off, none⟩)) (A : Array Value) (s : Nat) (hA : A.size = s) (hc : ∀ j, j < s → w.cell? ⟨g, off + j, none⟩ = A[j]?) (d : TypeDesc)
    (hu : P.underlying ty = some d) (hd : (match d with | .struct _ | .array _ _ => true | _ => false) = true) (hi : (P.info? ty).map (·.size) = some s)
    (h : K (a.put o.dst (.agg A)) w) : o.wp P a w K Q := by
  unfold Oper.wp execOp
  simp only [ho, hx, Instr.loadAt, Instr.sureAddr, Sem.run_bind, Sem.run_pure, Result.andThen_ok, run_loadVar_mid w g off ty A s hA hc d hu hd hi]
  exact h

theorem wpList_load_mid {P : Program} {ops : Array Oper} {rest : List Oper} {o : Oper} {a : Act} {w : World} {Q : Exit → Act → World → Prop} (hgd : o.guard = none) (ty : TypeId) (x : Operand) (ho : o.op = .load ty x)
    (g off : Nat) (hx : a.eval x = .pointer (some ⟨g, off, none⟩)) (A : Array Value) (s : Nat) (hA : A.size = s) (hc : ∀ j, j < s → w.cell? ⟨g, off + j, none⟩ = A[j]?) (d : TypeDesc)
    (hu : P.underlying ty = some d) (hd : (match d with | .struct _ | .array _ _ => true | _ => false) = true) (hi : (P.info? ty).map (·.size) = some s)
    (h : wpList P ops Q rest (a.put o.dst (.agg A)) w) : wpList P ops Q (o :: rest) a w :=
  wpList_plain hgd fun _ hK => wp_load_mid ty x ho g off hx A s hA hc d hu hd hi (hK _ _ h)

/-- A page out of four in an array. -/
theorem run_index_pages {P : Program} (w : World) (ty e : TypeId) (f : Nat → Pg) (k : Nat) (hk : k < 4) (hu : P.underlying ty = some (.array 4 e)) (d : TypeDesc) (hue : P.underlying e = some d) (hd : (match d with | .struct _ | .array _ _ => true | _ => false) = true) (hi : (P.info? e).map (·.size) = some 4) :
    (Instr.index ty (.agg (paA f)) (.int .i64 (k : Int))).run P w = .ok (.agg #[.bool (f k).used, .int .i64 (f k).log, .int .i64 (f k).seq, .string (f k).data]) w := by
  cases hq : P.info? e with
  | none => simp [hq] at hi
  | some i =>
    have hs : i.size = 4 := by simpa [hq] using hi
    have hagg : (isAgg e).run P w = .ok true w := by
      unfold isAgg
      rw [Sem.run_bind, run_underlying hue w]
      cases d <;> simp_all
    have hx : (paA f).extract (k * 4) (k * 4 + 4) = #[.bool (f k).used, .int .i64 (f k).log, .int .i64 (f k).seq, .string (f k).data] := by
      apply Array.ext_getElem?
      intro j
      rw [Array.getElem?_extract, paA_size]
      by_cases hj : j < 4
      · rw [if_pos (by omega), paA_page f hk hj]
        have h4 : j = 0 ∨ j = 1 ∨ j = 2 ∨ j = 3 := by omega
        rcases h4 with rfl | rfl | rfl | rfl <;> rfl
      · rw [if_neg (by omega)]
        simp; omega
    have hlt : (0 : Int) ≤ (k : Int) ∧ (k : Int) < (4 : Nat) := by omega
    simp [Instr.index, asIntOf, run_underlying hu, hlt, part, hagg, sizeOf, typeInfo, hq, hs, hx, hk]

end Go.Proofs.YtjgcjeaplckbbaaGreat

/- Chips held in arrays: the program's new chip, and the chip that is told out of the arrays. -/
namespace Go.Proofs.YtjgcjeaplckbbaaGreat
open Go.RowKit
set_option linter.unusedVariables false
set_option linter.unusedSimpArgs false

theorem isBlockCount_any (n : Int) (w : World) : Calls Tryz.prog 59 #[.int .i64 n] w fun e w' => e = .returned (.bool (decide (4 ≤ n ∧ n ≤ 12))) ∧ w' = w := by
  go_enter Tryz.func59, Tryz.ntmps59
  go_wp2_with fail
  refine (within_any _ _ _ _).mono ?_
  rintro e w1 ⟨rfl, rfl⟩
  go_wp2
  go_ret
  exact ⟨by simp, rfl⟩

theorem sizePage : (Tryz.prog.info? 51).map (·.size) = some 4 := by kernel_rfl

set_option maxRecDepth 100000 in
set_option maxHeartbeats 1000000 in
theorem chip_any (m : CC) (n : Nat) (hm : m.count = n) (h1 : n ≤ 12) (w : World) :
    Calls Tryz.prog 29 #[.agg (ccA m)] w fun e w' => ∃ g H, e = .returned (.agg #[.slice (some ⟨g, 0, none⟩) n n]) ∧ w.heap.size ≤ g ∧ OwnBlocks w' 108 51 g H n (ccBs m n) ∧ Below w.heap.size w w' := by
  have hc0 := ccA_count m
  rw [hm] at hc0
  have hmk := make_blocks n (by omega)
  go_enter Tryz.func29, Tryz.ntmps29
  go_wp2
  clear hmk
  go_loopw [11] (fun i wr => ∃ (k : Nat) (H : Nat → Nat), k ≤ n ∧ i = .int .i64 k ∧ OwnBlocks wr 108 51 (w.heap.size + 1 + 1) H n ((ccBs m n).take k) ∧ Below (w.heap.size + 1 + 1) ((w.alloc (.cells (ccA m) 57)).alloc (.cells #[.slice none 0 0] 26)) wr) (fun i _ => n - (intOf i).toNat)
  case atStart =>
    refine ⟨0, fun _ => 0, Nat.zero_le _, rfl, ?_, (Below.refl _ _).alloc (by simp) _⟩
    have := OwnBlocks.made ((w.alloc (.cells (ccA m) 57)).alloc (.cells #[.slice none 0 0] 26)) 108 51 (fun _ => 0) n
    simpa using this
  case round =>
    obtain ⟨k, H, hk, rfl, hO, hB⟩ := hrel
    have hsz := hB.size
    simp at hsz
    by_cases hlt : k < n
    · have hbox : ∀ o, wr.cell? ⟨w.heap.size, o, none⟩ = (ccA m)[o]? := fun o => by
        rw [hB.cell (p := ⟨w.heap.size, o, none⟩) (by simp <;> omega)]
        simp
      have hgs := hO.row.lt
      obtain ⟨C, hC, hcp⟩ := copy_new Tryz.prog wr 106 106 3 51 w.heap.size (1 + k * 17 + 1) (madeCells #[.bool false, .int .i64 0, .int .i64 0, .string ByteArray.empty] 16) 51 (ccPs m k) rfl Tryz.underlying106 sizePage (size_madeCells _ _) (by omega) (fun q p hp j hj => by
        have hq : q < 4 := (List.getElem?_eq_some_iff.1 hp).1
        rw [ccPs_at m k hq] at hp
        cases hp
        rw [hbox, ← Nat.add_assoc]
        exact ccA_page m (by omega) hq hj)
      have hw := ccA_wear m (b := k) (by omega)
      have hmk4 := make_pages4
      have hbk := ccBs_at m hlt
      have c0 := hO.row.cell (i := k * 2) (by omega)
      have c1 := hO.row.cell (i := k * 2 + 1) (by omega)
      have f0 := hO.row.frozen
      have HB := hide hbk
      have HC := hide hC
      clear hbk hC
      have HCP := hide hcp
      obtain ⟨x0, hx0⟩ : ∃ x0, x0 = bksF H (List.take k (ccBs m n)) (k * 2) := ⟨_, rfl⟩
      obtain ⟨x1, hx1⟩ : ∃ x1, x1 = bksF H (List.take k (ccBs m n)) (k * 2 + 1) := ⟨_, rfl⟩
      rw [← hx0] at c0
      rw [← hx1] at c1
      clear hcp hx0 hx1
      go_wp2_with fail
      rw [unhide HCP]
      clear HCP hmk4
      have hcc : ∀ b o, b < wr.heap.size → (wr.alloc (.cells C 51)).cell? ⟨b, o, none⟩ = wr.cell? ⟨b, o, none⟩ := fun b o h => cell_alloc_lt _ _ _ _ h
      have hff : ∀ b o, b < wr.heap.size → (wr.alloc (.cells C 51)).frozen? ⟨b, o, none⟩ = wr.frozen? ⟨b, o, none⟩ := fun b o h => frozen_alloc_lt _ _ _ _ h
      have hgs0 : w.heap.size < wr.heap.size := by omega
      go_wp2
      go_roundw
      case rel =>
        have hO1 : OwnBlocks (wr.alloc (.cells C 51)) _ _ _ _ _ _ := hO.below ((Below.refl _ wr).alloc (Nat.le_refl _) _) (Nat.le_refl _)
        have hp := hO1.put (b := ⟨m.wear k, ccPs m k⟩) (unhide HB) (q := wr.heap.size) (unhide HC) (by omega) (fun i hi => hO.lt (by simp [ccBs_length]; omega))
        rw [World.setCell_alloc_past _ _ _ _ hgs, World.setCell_alloc_past _ _ _ _ (by simpa using hgs)] at hp
        exact ⟨k + 1, _, by omega, by go_num, hp, ((hB.setCell (by simp) _).setCell (by simp) _).alloc (by simp; omega) _⟩
      case measure => simp [intOf]; omega
    · have hk' : k = n := by omega
      subst hk'
      have hO' : OwnBlocks wr 108 51 (w.heap.size + 1 + 1) H k (ccBs m k) := by
        have := hO
        rwa [List.take_of_length_le (by rw [ccBs_length]; exact Nat.le_refl _)] at this
      have hcell : wr.cell? ⟨w.heap.size + 1, 0, none⟩ = some (.slice none 0 0) := by
        rw [hB.cell (p := ⟨w.heap.size + 1, 0, none⟩) (by simp)]
        simp
      have hfro : wr.frozen? ⟨w.heap.size + 1, 0, none⟩ = false := by
        rw [hB.frozen (p := ⟨w.heap.size + 1, 0, none⟩) (by simp)]
        simp
      have HO := hide hO'
      clear hO hO'
      go_wp2
      refine bodyPost_ret (v := .agg #[.slice (some ⟨w.heap.size + 1 + 1, 0, none⟩) k k]) (by simp [results, Tryz.results29, go_sem, hcell]) rfl ⟨_, H, rfl, by omega, (unhide HO).setOther (by simp) _, ?_⟩
      exact ((((Below.refl _ w).alloc (Nat.le_refl _) _).alloc (by simp) _).trans (hB.mono (by omega))).setCell (by simp) _

/-- A chip without pages. -/
def newCC (n : Int) : CC := ⟨n, fun _ => 0, fun _ _ => zeroPg⟩
theorem zeroCC : Tryz.zeroCells57 = ccA (newCC 0) := by kernel_rfl
theorem setCC (n : Int) : (Tryz.zeroCells57.toList.set 0 (.int .i64 n)) = (ccA (newCC n)).toList := by
  rw [zeroCC]
  have hlen : ∀ k, (ccA (newCC k)).toList.length = 205 := fun k => by rw [Array.length_toList, ccA_size]
  apply List.ext_getElem?
  intro i
  have h1 : ∀ k, (ccA (newCC k)).toList[i]? = (ccA (newCC k))[i]? := fun k => by rw [Array.getElem?_toList]
  rw [List.getElem?_set]
  by_cases e : 0 = i
  · subst e
    rw [if_pos rfl, if_pos (by rw [hlen]; omega), h1, ccA_count]
    rfl
  · rw [if_neg e]
    by_cases hi : i < 205
    · rw [h1, h1, ccA_get _ hi, ccA_get _ hi]
      unfold ccF
      simp only [if_neg (show ¬ i = 0 by omega)]
      rfl
    · rw [List.getElem?_eq_none (by rw [hlen]; omega), List.getElem?_eq_none (by rw [hlen]; omega)]

theorem sizeCC' : (Tryz.prog.info? 57).map (·.size) = some 205 := by kernel_rfl

theorem sizeCC (m : CC) : (Tryz.prog.info? 57).map (·.size) = some (ccA m).size := by
  rw [ccA_size]
  kernel_rfl

end Go.Proofs.YtjgcjeaplckbbaaGreat

/- Lists of int64 as they lie in memory: no program is named here. -/
namespace Go.Proofs.YtjgcjeaplckbbaaGreat
open Go.RowKit
set_option linter.unusedVariables false
set_option linter.unusedSimpArgs false

/-- The numbers L lie, one behind the other, from the address a on. -/
def IntsAt (w : World) (a : Option Addr) (L : List Int) : Prop :=
  ∀ i x, L[i]? = some x → ∃ b o, a = some ⟨b, o, none⟩ ∧ w.cell? ⟨b, o + i, none⟩ = some (.int .i64 x)

theorem IntsAt.below {w w' : World} {a : Option Addr} {L : List Int} (h : IntsAt w a L) {B : Nat} (hb : Below B w w') (hB : w.heap.size ≤ B) : IntsAt w' a L := by
  intro i x hx
  obtain ⟨b, o, ha, h0⟩ := h i x hx
  exact ⟨b, o, ha, (hb.cell (p := ⟨b, o + i, none⟩) (Nat.lt_of_lt_of_le (World.block_lt_of_cell? _ _ h0) hB)).trans h0⟩

def intF (L : List Int) (i : Nat) : Value := .int .i64 ((L[i]?).getD 0)

/-- A row of its own of n numbers, L ahead and noughts behind. -/
def RowInts (w : World) (t : TypeId) (b n : Nat) (L : List Int) : Prop := w.rowIs b t n (intF L)

theorem RowInts.intsAt {w : World} {t : TypeId} {b n : Nat} {L : List Int} (h : RowInts w t b n L) (hn : L.length ≤ n) : IntsAt w (some ⟨b, 0, none⟩) L := by
  intro i x hx
  have hi := (List.getElem?_eq_some_iff.1 hx).1
  refine ⟨b, 0, rfl, ?_⟩
  have := World.rowIs.cell h (i := i) (by omega)
  simpa [intF, hx] using this

theorem RowInts.below {w w' : World} {t : TypeId} {b n : Nat} {L : List Int} (h : RowInts w t b n L) {B : Nat} (hb : Below B w w') (hB : b < B) : RowInts w' t b n L :=
  World.rowIs.of_block h (hb.block b hB)

theorem RowInts.put {w : World} {t : TypeId} {b n k : Nat} {L : List Int} {x : Int} (h : RowInts w t b n (L.take k)) (hx : L[k]? = some x) :
    RowInts (w.setCell ⟨b, k, none⟩ (.int .i64 x)) t b n (L.take (k + 1)) := by
  have hk := (List.getElem?_eq_some_iff.1 hx).1
  refine World.rowIs.congr (World.rowIs.set h k (.int .i64 x)) fun i hi => ?_
  unfold intF
  by_cases e : i = k
  · subst e; simp [List.getElem?_take, hx]
  · by_cases l : i < k
    · simp [e, List.getElem?_take, l, Nat.lt_succ_of_lt l]
    · have l2 : ¬ i < k + 1 := by omega
      simp [e, List.getElem?_take, l, l2]

theorem RowInts.made (w : World) (t : TypeId) (n : Nat) : RowInts (w.alloc (.cells (madeCells #[.int .i64 0] n) t)) t w.heap.size n [] :=
  (World.rowIs_made w (.int .i64 0) n t).congr fun i hi => by simp [intF]

end Go.Proofs.YtjgcjeaplckbbaaGreat

/- The program's answer whether a block held in arrays is right; whether a number is in a list. -/
namespace Go.Proofs.YtjgcjeaplckbbaaGreat
open Go.RowKit
set_option linter.unusedVariables false
set_option linter.unusedSimpArgs false

set_option maxHeartbeats 1000000 in
theorem isRightUsed_any (p : Pg) (w : World) : Calls Tryz.prog 86 #[.agg #[.bool p.used, .int .i64 p.log, .int .i64 p.seq, .string p.data]] w fun e w' => e = .returned (.bool (rightUsed p)) ∧ Below w.heap.size w w' := by
  obtain ⟨u, l, s, d⟩ := p
  have hB : ∀ o, Below w.heap.size w (w.alloc o) := fun o => (Below.refl _ w).alloc (Nat.le_refl _) _
  cases u with
  | false =>
    go_enter Tryz.func86, Tryz.ntmps86
    go_wp2
    go_ret
    exact ⟨ret_bool (by simp [rightUsed]), hB _⟩
  | true =>
    by_cases h1 : 0 ≤ l ∧ l ≤ 39
    · by_cases h2 : 1 ≤ s ∧ s ≤ 1000000000
      · have e1 : decide (0 ≤ l ∧ l ≤ 39) = true := by simpa using h1
        have e2 : decide (1 ≤ s ∧ s ≤ 1000000000) = true := by simpa using h2
        go_enter Tryz.func86, Tryz.ntmps86
        go_wp2_with (go_at_call 33; refine (within_any _ _ _ _).mono ?_; rintro e w1 ⟨rfl, rfl⟩)
        go_ret
        exact ⟨ret_bool (by simp [rightUsed, h1, h2, size_four]), hB _⟩
      · have e1 : decide (0 ≤ l ∧ l ≤ 39) = true := by simpa using h1
        have e2 : decide (1 ≤ s ∧ s ≤ 1000000000) = false := by simpa using h2
        go_enter Tryz.func86, Tryz.ntmps86
        go_wp2_with (go_at_call 33; refine (within_any _ _ _ _).mono ?_; rintro e w1 ⟨rfl, rfl⟩)
        go_ret
        exact ⟨ret_bool (by simp [rightUsed]; omega), hB _⟩
    · have e1 : decide (0 ≤ l ∧ l ≤ 39) = false := by simpa using h1
      go_enter Tryz.func86, Tryz.ntmps86
      go_wp2_with (go_at_call 33; refine (within_any _ _ _ _).mono ?_; rintro e w1 ⟨rfl, rfl⟩)
      go_ret
      exact ⟨ret_bool (by simp [rightUsed]; omega), hB _⟩

/-- The block is right, as its arrays say it. -/
structure BcOk (x : Int) (f : Nat → Pg) : Prop where
  wear : 0 ≤ x ∧ x ≤ 1000000000
  page : ∀ k, k < 4 → pgOk (f k) = true
  order : ∀ k, k + 1 < 4 → (f (k + 1)).used = true → (f k).used = true

theorem sizePages : (Tryz.prog.info? 52).map (·.size) = some 16 := by kernel_rfl

set_option maxRecDepth 100000 in
set_option maxHeartbeats 4000000 in
theorem right_any (x : Int) (f : Nat → Pg) (w : World) : Calls Tryz.prog 60 #[.agg (bcA x f)] w fun e w' => RetIff (BcOk x f) e ∧ Below w.heap.size w w' := by
  go_enter Tryz.func60, Tryz.ntmps60
  go_wp2_with (refine wpList_load_mid rfl 52 _ rfl w.heap.size 1 rfl (paA f) 16 (paA_size f) (fun j hj => by simp; rw [bcA_page x f hj, paA_get f hj]) _ Tryz.underlying52 rfl sizePages ?_)
  go_loopw [3, 8] (fun v i wr => ∃ (k : Nat) (en : Bool), k ≤ 4 ∧ i = .int .i64 k ∧ v = .bool en ∧ (∀ t, t < k → pgOk (f t) = true) ∧ (en = false → ∀ t, t < k → (f t).used = true) ∧ (en = true → ∃ t, t < k ∧ (f t).used = false) ∧ (∀ t, t + 1 < k → (f (t + 1)).used = true → (f t).used = true) ∧ Below (w.heap.size + 1) (w.alloc (.cells (bcA x f) 54)) wr) (fun _ i _ => 4 - (intOf i).toNat)
  case atStart => exact ⟨0, false, by omega, rfl, rfl, fun t ht => absurd ht (Nat.not_lt_zero _), fun _ t ht => absurd ht (Nat.not_lt_zero _), (fun h => by cases h), fun t ht => absurd ht (Nat.not_lt_zero _), Below.refl _ _⟩
  case round =>
    obtain ⟨k, en, hk, rfl, rfl, h1, h2, h3, h4, hB⟩ := hrel
    have hsz := hB.size
    simp at hsz
    have hout : ∀ W, Below wr.heap.size wr W → Below w.heap.size w W := fun W hW => ((((Below.refl _ w).alloc (Nat.le_refl _) _).trans (hB.mono (by omega))).trans (hW.mono (by omega)))
    by_cases hlt : k < 4
    · have hidx := fun W => run_index_pages (P := Tryz.prog) W 52 51 f k hlt Tryz.underlying52 _ Tryz.underlying51 rfl sizePage
      obtain ⟨p, hp⟩ : ∃ p, f k = p := ⟨_, rfl⟩
      rw [hp] at hidx
      obtain ⟨u, l, s, d⟩ := p
      simp only at hidx
      have HP := hide hp
      have H1 := hide h1
      have H2 := hide h2
      have H3 := hide h3
      have H4 := hide h4
      clear h1 h2 h3 h4 hp
      have hup : BcOk x f → ∀ n t, t + n < 4 → (f (t + n)).used = true → (f t).used = true := fun hx n => by
        induction n with
        | zero => intro t _ h; exact h
        | succ n ih => intro t ht h; exact ih t (by omega) (hx.order (t + n) (by omega) h)
      have HUP := hide hup
      clear hup
      cases u with
      | false =>
        by_cases hl : l = 0
        · subst hl
          by_cases hs : s = 0
          · subst hs
            by_cases hd : d = ByteArray.empty
            · subst hd
              go_wp2
              go_roundw
              case rel =>
                refine ⟨k + 1, true, by omega, by go_num, rfl, fun t ht => ?_, (fun h => by cases h), fun _ => ⟨k, by omega, by rw [unhide HP]⟩, fun t ht hu => ?_, (hB.alloc (by omega) _)⟩
                · by_cases e : t = k
                  · subst e; rw [unhide HP]; rfl
                  · exact unhide H1 t (by omega)
                · by_cases e : t + 1 = k
                  · rw [e, unhide HP] at hu; cases hu
                  · exact unhide H4 t (by omega) hu
              case measure => simp [intOf]; omega
            · have hno : pgOk ⟨false, 0, 0, d⟩ = false := by simp [pgOk, isZero, hd]
              have hd' : d.toList.isEmpty = false := by rw [isEmpty_size]; simpa using hd
              go_wp2
              go_ret
              refine ⟨RetIff.no ?_, hout _ ((Below.refl _ _).alloc (Nat.le_refl _) _)⟩
              intro hx
              have := hx.page k hlt
              rw [unhide HP, hno] at this
              cases this
          · have hno : pgOk ⟨false, 0, s, d⟩ = false := by simp [pgOk, isZero, hs]
            have hs' : (s == 0) = false := by simpa using hs
            go_wp2
            go_ret
            refine ⟨RetIff.no ?_, hout _ ((Below.refl _ _).alloc (Nat.le_refl _) _)⟩
            intro hx
            have := hx.page k hlt
            rw [unhide HP, hno] at this
            cases this
        · have hno : pgOk ⟨false, l, s, d⟩ = false := by simp [pgOk, isZero, hl]
          have hl' : (l == 0) = false := by simpa using hl
          go_wp2
          go_ret
          refine ⟨RetIff.no ?_, hout _ ((Below.refl _ _).alloc (Nat.le_refl _) _)⟩
          intro hx
          have := hx.page k hlt
          rw [unhide HP, hno] at this
          cases this
      | true =>
        cases en with
        | true =>
          go_wp2
          go_ret
          refine ⟨RetIff.no ?_, hout _ ((Below.refl _ _).alloc (Nat.le_refl _) _)⟩
          intro hx
          obtain ⟨t, ht, hu⟩ := unhide H3 (by first | rfl | trivial)
          have := unhide HUP hx (k - t) t (by omega) (by rw [show t + (k - t) = k by omega, unhide HP])
          rw [hu] at this
          cases this
        | false =>
          go_wp2_with fail
          refine (isRightUsed_any ⟨true, l, s, d⟩ _).mono ?_
          rintro e w1 ⟨rfl, hB1⟩
          have hB2 : Below wr.heap.size wr w1 := ((Below.refl _ wr).alloc (Nat.le_refl _) _).trans (hB1.mono (by simp))
          have HB2 := hide hB2
          clear hB1 hB2
          have hpk : pgOk ⟨true, l, s, d⟩ = rightUsed ⟨true, l, s, d⟩ := by simp [pgOk]
          have HPK := hide hpk
          clear hpk
          cases hr : rightUsed ⟨true, l, s, d⟩ with
          | false =>
            go_wp2
            go_ret
            refine ⟨RetIff.no ?_, hout _ (unhide HB2)⟩
            intro hx
            have := hx.page k hlt
            rw [unhide HP, unhide HPK, hr] at this
            cases this
          | true =>
            go_wp2
            go_roundw
            case rel =>
              refine ⟨k + 1, false, by omega, by go_num, rfl, fun t ht => ?_, fun _ t ht => ?_, (fun h => by cases h), fun t ht hu => ?_, hB.trans ((unhide HB2).mono (by omega))⟩
              · by_cases e : t = k
                · subst e; rw [unhide HP, unhide HPK]; exact hr
                · exact unhide H1 t (by omega)
              · by_cases e : t = k
                · subst e; rw [unhide HP]
                · exact unhide H2 (by first | rfl | trivial) t (by omega)
              · exact unhide H2 (by first | rfl | trivial) t (by omega)
            case measure => simp [intOf]; omega
    · have hk4 : k = 4 := by omega
      subst hk4
      have hcx : wr.cell? ⟨w.heap.size, 0, none⟩ = some (.int .i64 x) := by
        rw [hB.cell (p := ⟨w.heap.size, 0, none⟩) (by simp)]
        simp
        rw [bcA_get x f (by omega)]
        rfl
      have H1 := hide h1
      have H4 := hide h4
      clear h1 h2 h3 h4
      go_wp2_with fail
      refine (within_any _ _ _ _).mono ?_
      rintro e w1 ⟨rfl, rfl⟩
      go_wp2
      go_ret
      refine ⟨⟨decide (0 ≤ x) && decide (x ≤ 1000000000), rfl, ?_⟩, hout _ (Below.refl _ _)⟩
      simp
      exact ⟨fun h => ⟨h, fun k hk => unhide H1 k hk, fun k hk hu => unhide H4 k hk hu⟩, fun h => h.wear⟩
set_option maxRecDepth 100000 in
set_option maxHeartbeats 1000000 in
theorem index_any (a : Option Addr) (c : Nat) (L : List Int) (s : Int) (w : World) (h : IntsAt w a L) (hn : L.length ≤ 1048576) :
    Calls Tryz.prog 97 #[.slice a L.length c, .int .i64 s] w fun e w' => ∃ r : Int, e = .returned (.int .i64 r) ∧ (0 ≤ r ↔ s ∈ L) ∧ w' = w := by
  go_enter Tryz.func97, Tryz.ntmps97
  go_wp2
  go_loop [8] (fun i => ∃ k : Nat, k ≤ L.length ∧ i = .int .i64 k ∧ ∀ j x, j < k → L[j]? = some x → x ≠ s) (fun i => L.length - (intOf i).toNat)
  case atStart => exact ⟨0, Nat.zero_le _, rfl, fun j x hj => absurd hj (Nat.not_lt_zero _)⟩
  case round =>
    obtain ⟨k, hk, rfl, hno⟩ := hrel
    have HN := hide hno
    clear hno
    by_cases hlt : k < L.length
    · obtain ⟨x, hx⟩ := getElem?_ex hlt
      obtain ⟨b, o, rfl, g⟩ := h k x hx
      have HX := hide hx
      clear hx h
      by_cases e : s = x
      · have e' : (s == x) = true := by simpa using e
        have HE := hide e
        clear e
        go_wp2
        go_ret
        exact ⟨_, rfl, ⟨fun _ => by rw [unhide HE]; exact List.mem_of_getElem? (unhide HX), fun _ => by omega⟩, rfl⟩
      · have e' : (s == x) = false := by simpa using e
        have HE := hide e
        clear e
        go_wp2
        go_round
        case rel =>
          refine ⟨k + 1, by omega, by go_num, fun j y hj hy => ?_⟩
          by_cases ej : j = k
          · subst ej; rw [unhide HX] at hy; cases hy; exact fun h => unhide HE h.symm
          · exact unhide HN j y (by omega) hy
        case measure => simp [intOf]; omega
    · go_wp2
      go_ret
      refine ⟨-1, rfl, ⟨fun h => by omega, fun hm => ?_⟩, rfl⟩
      obtain ⟨j, hj, e⟩ := List.getElem_of_mem hm
      exact absurd e (unhide HN j _ (by omega) (by simp [hj]))

theorem contains_any (a : Option Addr) (c : Nat) (L : List Int) (s : Int) (w : World) (h : IntsAt w a L) (hn : L.length ≤ 1048576) :
    Calls Tryz.prog 81 #[.slice a L.length c, .int .i64 s] w fun e w' => e = .returned (.bool (decide (s ∈ L))) ∧ w' = w := by
  go_enter Tryz.func81, Tryz.ntmps81
  go_wp2_with fail
  refine (index_any a c L s w h hn).mono ?_
  rintro e w1 ⟨r, rfl, hr, rfl⟩
  have HR := hide hr
  clear hr h
  by_cases h0 : 0 ≤ r
  · go_wp2
    go_ret
    exact ⟨ret_bool (by simp [(unhide HR).1 h0]), rfl⟩
  · go_wp2
    go_ret
    have hnm : ¬ s ∈ L := fun hm => by have := (unhide HR).2 hm; omega
    exact ⟨ret_bool (by simp [hnm] <;> omega), rfl⟩
end Go.Proofs.YtjgcjeaplckbbaaGreat

/- The program's own walk over the pages that are used: an iterator. -/
namespace Go.Proofs.YtjgcjeaplckbbaaGreat
open Go.RowKit Go.Shelf
set_option linter.unusedVariables false
set_option linter.unusedSimpArgs false
attribute [local go_sem] Oper.semAt_some

/-- A struct or an array is read out of the middle of a row, inside a fence. -/
theorem wpIn_load_mid {F : Fence} {n : Nat} {P : Program} {o : Oper} {a : Act} {w : World} {K : Act → World → Prop} {Q : Exit → Act → World → Prop} (ty : TypeId) (x : Operand) (ho : o.op = .load ty x)
    (g off : Nat) (hx : a.eval x = .pointer (some ⟨g, off, none⟩)) (A : Array Value) (s : Nat) (hA : A.size = s) (hc : ∀ j, j < s → w.cell? ⟨g, off + j, none⟩ = A[j]?) (d : TypeDesc)
    (hu : P.underlying ty = some d) (hd : (match d with | .struct _ | .array _ _ => true | _ => false) = true) (hi : (P.info? ty).map (·.size) = some s)
    (h : K (a.put o.dst (.agg A)) w) : o.wpIn F n P a w K Q := by
  unfold Oper.wpIn
  refine ⟨?_, ?_⟩
  · simp [Oper.about, ho]
  · rw [Oper.semAt_plain F _ _ (by rw [ho]; intro c hc'; cases hc')]
    unfold execOp
    simp only [ho, hx, Instr.loadAt, Instr.sureAddr, Sem.run_bind, Sem.run_pure, Result.andThen_ok, run_loadVar_mid w g off ty A s hA hc d hu hd hi]
    exact h
theorem wpListIn_load_mid {F : Fence} {n : Nat} {P : Program} {ops : Array Oper} {rest : List Oper} {o : Oper} {a : Act} {w : World} {Q : Exit → Act → World → Prop} (hgd : o.guard = none) (ty : TypeId) (x : Operand) (ho : o.op = .load ty x)
    (g off : Nat) (hx : a.eval x = .pointer (some ⟨g, off, none⟩)) (A : Array Value) (s : Nat) (hA : A.size = s) (hc : ∀ j, j < s → w.cell? ⟨g, off + j, none⟩ = A[j]?) (d : TypeDesc)
    (hu : P.underlying ty = some d) (hd : (match d with | .struct _ | .array _ _ => true | _ => false) = true) (hi : (P.info? ty).map (·.size) = some s)
    (h : wpListIn F n P ops Q rest (a.put o.dst (.agg A)) w) : wpListIn F n P ops Q (o :: rest) a w :=
  wpListIn_plain hgd fun _ hK => wpIn_load_mid ty x ho g off hx A s hA hc d hu hd hi (hK _ _ h)

/-- The used pages among the first k of block b; of all blocks ahead of b. -/
def usedB (m : CC) (b k : Nat) : List (Int × Pg) := ((List.range k).filter fun j => (m.page b j).used).map fun (j : Nat) => ((b : Int) * 4 + (j : Int), m.page b j)
def usedAll (m : CC) (b : Nat) : List (Int × Pg) := (List.range b).flatMap fun i => usedB m i 4

theorem usedB_succ (m : CC) (b k : Nat) : usedB m b (k + 1) = usedB m b k ++ if (m.page b k).used then [((b : Int) * 4 + k, m.page b k)] else [] := by
  unfold usedB
  rw [List.range_succ, List.filter_append, List.map_append]
  congr 1
  by_cases h : (m.page b k).used <;> simp [h]
theorem usedAll_succ (m : CC) (b : Nat) : usedAll m (b + 1) = usedAll m b ++ usedB m b 4 := by
  unfold usedAll
  rw [List.range_succ, List.flatMap_append]
  simp
theorem usedB_length (m : CC) (b k : Nat) : (usedB m b k).length ≤ k := by
  have := List.length_filter_le (fun j => (m.page b j).used) (List.range k)
  simpa [usedB] using this
theorem usedAll_length (m : CC) (b : Nat) : (usedAll m b).length ≤ 4 * b := by
  induction b with
  | zero => simp [usedAll]
  | succ b ih => rw [usedAll_succ, List.length_append]; have := usedB_length m b 4; omega
theorem usedAll_le (m : CC) {b n : Nat} (h : b ≤ n) : usedAll m b <+: usedAll m n := by
  induction n with
  | zero => obtain rfl : b = 0 := by omega
            exact List.prefix_refl _
  | succ n ih =>
    by_cases e : b = n + 1
    · subst e; exact List.prefix_refl _
    · rw [usedAll_succ]; exact List.IsPrefix.trans (ih (by omega)) (List.prefix_append _ _)
theorem usedB_le (m : CC) (b : Nat) {k n : Nat} (h : k ≤ n) : usedB m b k <+: usedB m b n := by
  induction n with
  | zero => obtain rfl : k = 0 := by omega
            exact List.prefix_refl _
  | succ n ih =>
    by_cases e : k = n + 1
    · subst e; exact List.prefix_refl _
    · rw [usedB_succ]; exact List.IsPrefix.trans (ih (by omega)) (List.prefix_append _ _)
theorem used_le (m : CC) {b k n : Nat} (hb : b < n) (hk : k ≤ 4) : usedAll m b ++ usedB m b k <+: usedAll m n := by
  refine List.IsPrefix.trans ?_ (usedAll_le m (b := b + 1) hb)
  rw [usedAll_succ]
  exact List.prefix_append_right_inj _ |>.2 (usedB_le m b hk)

/-- The row Bx is as it was. -/
def KeepB (Bx : Nat) (W W' : World) : Prop := W.heap.size ≤ W'.heap.size ∧ W'.heap[Bx]? = W.heap[Bx]?
theorem KeepB.refl (Bx : Nat) (W : World) : KeepB Bx W W := ⟨Nat.le_refl _, rfl⟩
theorem KeepB.trans {Bx : Nat} {A B C : World} (h : KeepB Bx A B) (k : KeepB Bx B C) : KeepB Bx A C := ⟨Nat.le_trans h.1 k.1, k.2.trans h.2⟩
theorem KeepB.cell {Bx : Nat} {A B : World} (h : KeepB Bx A B) (i : Nat) : B.cell? ⟨Bx, i, none⟩ = A.cell? ⟨Bx, i, none⟩ := World.cell?_of_block (w := A) h.2
theorem KeepB.alloc {Bx : Nat} (W : World) (o : Obj) (h : Bx < W.heap.size) : KeepB Bx W (W.alloc o) := ⟨by simp, Below.heap_alloc _ _ _ h⟩
theorem KeepB.setCell {Bx : Nat} (W : World) (a : Addr) (v : Value) (h : Bx ≠ a.block) : KeepB Bx W (W.setCell a v) := ⟨by simp [World.setCell], Below.heap_setCell _ _ _ _ h⟩
theorem KeepB.drew {Bx : Nat} (W : World) : KeepB Bx W W.drew := ⟨Nat.le_refl _, rfl⟩
theorem KeepB.of_below {Bx B : Nat} {A C : World} (h : Below B A C) (hB : Bx < B) : KeepB Bx A C := ⟨h.size, h.block Bx hB⟩
theorem keepB_b {Bx : Nat} {w : World} (hn : Bx < w.heap.size) (W : World) (l : Nat) (o o' : Obj) (hl : w.heap.size ≤ l) (_ : W.heap[l]? = some o) (_ : o.isCells = false) (_ : o.isWalk = false) : KeepB Bx W (W.putObj l o') :=
  ⟨by simp, World.putObj_heap_other (by omega)⟩

def encU (x : Int × Pg) : Array Value := #[.int .i64 x.1, .agg #[.bool x.2.used, .int .i64 x.2.log, .int .i64 x.2.seq, .string x.2.data]]

set_option maxRecDepth 100000 in
set_option maxHeartbeats 4000000 in
theorem used1_in (F : Fence) (n : Nat) (h122 : F.fn 92) (hro : F.round = none) (hn : 1 ≤ n) (l Bx c : Nat) (m : CC) (hm : m.count = c) (hc : c ≤ 12) (J Jx : List (Int × Pg) → World → Prop)
    (hY : ∀ pre x W, J pre W → pre.length < 48 → YieldAt F (n - 1) Tryz.prog l (encU x) W fun e W' =>
      (e = .returned (.bool true) ∧ J (pre ++ [x]) W' ∧ KeepB Bx W W') ∨ (e = .returned (.bool false) ∧ Jx (pre ++ [x]) W'))
    (W : World) (hn0 : Bx < W.heap.size) (hJA : AbidesFrom W.heap.size J) (hbox : ∀ i, W.cell? ⟨Bx, i, none⟩ = (ccA m)[i]?) (h0 : J [] W) :
    CallsIn F n Tryz.prog 92 #[.func (.yield l) #[] #[], .pointer (some ⟨Bx, 0, none⟩)] W fun e W' => (∃ v, e = .returned v) ∧
      ((∃ ys, ys = usedAll m c ∧ J ys W') ∨ (∃ pre, pre <+: usedAll m c ∧ Jx pre W')) := by
  have hc0 := ccA_count m
  rw [hm] at hc0
  have HY := hide hY
  have HJAB := hide hJA
  clear hY hJA
  refine callsIn_of_wp Tryz.func92 rfl h122 ?_ hro
  simp only [Tryz.ntmps92, List.size_toArray, List.length_cons, List.length_nil, Nat.reduceAdd, Nat.reduceSub, Array.replicate_succ, Array.replicate_zero, List.push_toArray, List.append_toArray, List.nil_append, List.cons_append]
  gi_wp2
  gi_loopw [8] (fun i wr => ∃ b : Nat, b ≤ c ∧ i = .int .i64 b ∧ J (usedAll m b) wr ∧ KeepB Bx W wr) (fun i _ => c - (intOf i).toNat)
  case atStart => exact ⟨0, Nat.zero_le _, rfl, h0, KeepB.refl _ _⟩
  case round =>
    obtain ⟨b, hb, rfl, hJs, hnx⟩ := hrel
    clear hc0
    by_cases hlt : b < c
    · have hboxr : ∀ i, wr.cell? ⟨Bx, i, none⟩ = (ccA m)[i]? := fun i => (hnx.cell i).trans (hbox i)
      have hpa : ∀ j, j < 16 → wr.cell? ⟨Bx, 1 + b * 17 + 1 + j, none⟩ = (paA (m.page b))[j]? := fun j hj => by rw [hboxr]; exact ccA_pages m (by omega) hj
      have HPA := hide hpa
      have HBR := hide hboxr
      clear hpa hboxr hbox
      gi_wp2_with (refine wpListIn_load_mid rfl 52 _ rfl Bx (1 + b * 17 + 1) rfl (paA (m.page b)) 16 (paA_size _) (unhide HPA) _ Tryz.underlying52 rfl sizePages ?_)
      clear HPA HBR
      gi_loopw [16] (fun i wr => ∃ k : Nat, k ≤ 4 ∧ i = .int .i64 k ∧ J (usedAll m b ++ usedB m b k) wr ∧ KeepB Bx W wr) (fun i _ => 4 - (intOf i).toNat)
      case atStart => exact ⟨0, by omega, rfl, by simpa [usedB] using hJs, hnx⟩
      case round =>
        obtain ⟨k, hk, rfl, hJk, hnk⟩ := hrel
        have hbl : Bx < wr.heap.size := Nat.lt_of_lt_of_le hn0 hnk.1
        have hszk := hnk.1
        have HNK := hide hnk
        clear hnk
        by_cases hlt2 : k < 4
        · have hk4 : (k : Int) < 4 := by omega
          have hidx := fun W => run_index_pages (P := Tryz.prog) W 52 51 (m.page b) k hlt2 Tryz.underlying52 _ Tryz.underlying51 rfl sizePage
          obtain ⟨p, hp⟩ : ∃ p, m.page b k = p := ⟨_, rfl⟩
          have hsu := usedB_succ m b k
          rw [hp] at hidx hsu
          obtain ⟨u, lg, s, d⟩ := p
          simp only at hidx
          have hlen : (usedAll m b ++ usedB m b k).length < 48 := by
            rw [List.length_append]
            have h1 := usedAll_length m b
            have h2 := usedB_length m b k
            omega
          have HSU := hide hsu
          clear hsu hp hm
          have hpre := used_le m (b := b) (k := k + 1) (n := c) hlt (by omega)
          have HPRE := hide hpre
          clear hpre
          have hJa : ∀ o, J (usedAll m b ++ usedB m b k) (wr.alloc o) := fun o => unhide HJAB _ _ _ none hJk (World.grownBy_alloc wr o none) (fun r e => by cases e)
          have HJA := hide hJa
          clear hJa
          cases u with
          | false =>
            clear hJk hJs hnx h0 hlen hszk
            gi_wp2
            refine ⟨fun _ h => (by cases h), ?_⟩
            gi_wp2
            go_roundw
            case rel =>
              refine ⟨k + 1, by omega, by go_num, ?_, (unhide HNK).trans (KeepB.alloc _ _ hbl)⟩
              rw [unhide HSU]
              simp only [Bool.false_eq_true, if_false, List.append_nil]
              exact unhide HJA _
            case measure => simp [intOf]; omega
          | true =>
            obtain ⟨fn, tmps, assign, body, hy, hR⟩ := unhide HY (usedAll m b ++ usedB m b k) ((b : Int) * 4 + (k : Int), ⟨true, lg, s, d⟩) (wr.alloc (.cells #[.bool true, .int .i64 lg, .int .i64 s, .string d] 51)) (unhide HJA _) hlen
            dsimp only [encU] at hy
            have HR := hide hR
            clear hR
            gi_wp2
            refine (unhide HR).mono ?_
            rintro e W3 (⟨rfl, hJ3, hk3⟩ | ⟨rfl, hJx3⟩)
            · have HK3 := hide hk3
              clear hk3
              gi_wp2
              go_roundw
              case rel =>
                refine ⟨k + 1, by omega, by go_num, ?_, ((unhide HNK).trans (KeepB.alloc _ _ hbl)).trans (unhide HK3)⟩
                rw [unhide HSU, ← List.append_assoc]
                exact hJ3
              case measure => simp [intOf]; omega
            · gi_wp2
              refine bodyPost_ret (results_none rfl _ _ _) rfl ?_
              refine ⟨⟨_, rfl⟩, .inr ⟨_, ?_, hJx3⟩⟩
              have := unhide HPRE
              rw [unhide HSU, ← List.append_assoc] at this
              exact this
        · obtain rfl : k = 4 := by omega
          gi_wp2
          go_roundw
          case rel => exact ⟨b + 1, by omega, by go_num, by rw [usedAll_succ]; exact hJk, unhide HNK⟩
          case measure => simp [intOf]; omega
    · obtain rfl : b = c := by omega
      gi_wp2
      go_end0
      exact ⟨⟨_, rfl⟩, .inl ⟨_, rfl, hJs⟩⟩
set_option maxHeartbeats 1000000 in
theorem usedPages_in (F : Fence) (n : Nat) (h109 : F.fn 69) (hro : F.round = none) (m : CC) (w : World) :
    CallsIn F n Tryz.prog 69 #[.agg (ccA m)] w fun e w' => e = .returned (.func (.func 92) #[] #[.pointer (some ⟨w.heap.size, 0, none⟩)]) ∧ w' = w.alloc (.cells (ccA m) 57) := by
  refine callsIn_of_wp Tryz.func69 rfl h109 ?_ hro
  simp only [Tryz.ntmps69, List.size_toArray, List.length_cons, List.length_nil, Nat.reduceAdd, Nat.reduceSub, Array.replicate_succ, Array.replicate_zero, List.push_toArray, List.append_toArray, List.nil_append, List.cons_append]
  gi_wp2
  go_ret
  exact ⟨rfl, rfl⟩

theorem used_stops (F : Fence) (n : Nat) (h122 : F.fn 92) (hro : F.round = none) (hn : 1 ≤ n) (Bx c : Nat) (m : CC) (hm : m.count = c) (hc : c ≤ 12) (w : World) (hBx : Bx < w.heap.size) (hbox : ∀ i, w.cell? ⟨Bx, i, none⟩ = (ccA m)[i]?) :
    SeqStopsK F n Tryz.prog 92 #[.pointer (some ⟨Bx, 0, none⟩)] encU (KeepB Bx) (fun ys => ys = usedAll m c) (fun pre => pre <+: usedAll m c) 48 w := fun l J Jx W hW hJA _ hY h0 =>
  used1_in F n h122 hro hn l Bx c m hm hc J Jx hY W (Nat.lt_of_lt_of_le hBx hW.size) hJA (fun i => (hW.cell (p := ⟨Bx, i, none⟩) hBx).trans (hbox i)) h0
end Go.Proofs.YtjgcjeaplckbbaaGreat

/- A chip held in arrays: what is written into the middle of its row. No program is named here. -/
namespace Go.Proofs.YtjgcjeaplckbbaaGreat
open Go.RowKit
set_option linter.unusedVariables false
set_option linter.unusedSimpArgs false

def CC.setWear (m : CC) (b : Nat) (x : Int) : CC := ⟨m.count, fun j => if j = b then x else m.wear j, m.page⟩
def CC.setPages (m : CC) (b : Nat) (f : Nat → Pg) : CC := ⟨m.count, m.wear, fun j => if j = b then f else m.page j⟩

theorem ccA_setWear (m : CC) (b : Nat) (x : Int) (hb : b < 12) : (ccA m).setIfInBounds (1 + b * 17) (.int .i64 x) = ccA (m.setWear b x) := by
  apply Array.ext_getElem?
  intro i
  by_cases hi : i < 205
  · by_cases e : 1 + b * 17 = i
    · subst e
      rw [Array.getElem?_setIfInBounds_self_of_lt (by rw [ccA_size]; exact hi), ccA_wear _ hb]
      simp [CC.setWear]
    · rw [Array.getElem?_setIfInBounds_ne e, ccA_get _ hi, ccA_get _ hi]
      unfold ccF CC.setWear
      by_cases h0 : i = 0
      · simp [h0]
      · simp only [if_neg h0]
        by_cases h1 : (i - 1) % 17 = 0
        · simp only [if_pos h1]
          rw [if_neg (by omega)]
        · simp only [if_neg h1]
  · rw [Array.getElem?_eq_none (by simp [ccA_size]; omega), Array.getElem?_eq_none (by simp [ccA_size]; omega)]

theorem ccA_setPages (m : CC) (b : Nat) (f : Nat → Pg) (hb : b < 12) :
    ((ccA m).toList.take (1 + b * 17 + 1) ++ (paA f).toList ++ (ccA m).toList.drop (1 + b * 17 + 1 + 16)).toArray = ccA (m.setPages b f) := by
  have hl : (ccA m).toList.length = 205 := by rw [Array.length_toList, ccA_size]
  have hp : (paA f).toList.length = 16 := by rw [Array.length_toList, paA_size]
  have ht : ((ccA m).toList.take (1 + b * 17 + 1)).length = 1 + b * 17 + 1 := by rw [List.length_take, hl]; omega
  apply Array.ext_getElem?
  intro i
  rw [List.getElem?_toArray]
  have hF : ∀ i, i < 205 → ¬ (1 + b * 17 + 1 ≤ i ∧ i < 1 + b * 17 + 1 + 16) → ccF (m.setPages b f) i = ccF m i := by
    intro i hi hn
    unfold ccF CC.setPages
    by_cases h0 : i = 0
    · simp [h0]
    · simp only [if_neg h0]
      by_cases h1 : (i - 1) % 17 = 0
      · simp only [if_pos h1]
      · simp only [if_neg h1]
        rw [if_neg (by omega)]
  by_cases hi : i < 205
  · rw [ccA_get _ hi]
    by_cases h1 : i < 1 + b * 17 + 1
    · rw [List.getElem?_append_left (by rw [List.length_append, ht, hp]; omega), List.getElem?_append_left (by rw [ht]; exact h1), List.getElem?_take_of_lt h1, Array.getElem?_toList, ccA_get _ hi, hF i hi (by omega)]
    · by_cases h2 : i < 1 + b * 17 + 1 + 16
      · rw [List.getElem?_append_left (by rw [List.length_append, ht, hp]; omega), List.getElem?_append_right (by rw [ht]; omega), ht, Array.getElem?_toList, paA_get f (by omega)]
        have := ccA_pages (m.setPages b f) (b := b) (i := i - (1 + b * 17 + 1)) hb (by omega)
        rw [show 1 + b * 17 + 1 + (i - (1 + b * 17 + 1)) = i by omega, ccA_get _ hi, paA_get _ (by omega)] at this
        rw [this]
        simp [CC.setPages]
      · rw [List.getElem?_append_right (by rw [List.length_append, ht, hp]; omega), List.length_append, ht, hp, List.getElem?_drop, show 1 + b * 17 + 1 + 16 + (i - (1 + b * 17 + 1 + 16)) = i by omega, Array.getElem?_toList, ccA_get _ hi, hF i hi (by omega)]
  · rw [List.getElem?_eq_none (by simp only [List.length_append, ht, hp, List.length_drop, hl]; omega), Array.getElem?_eq_none (by simp [ccA_size]; omega)]

theorem paA_one (f : Nat → Pg) : ∀ v ∈ (paA f).toList, v.oneCell' = true := by
  intro v hv
  have hv' : v ∈ paA f := by simpa using hv
  obtain ⟨i, hi, rfl⟩ := Array.mem_iff_getElem.1 hv'
  simp only [paA, Array.getElem_ofFn]
  exact pgV_one _ _

def pagesF (ps : List Pg) (k : Nat) : Pg := ps[k]?.getD zeroPg

theorem PagesAt.cells {W : World} {a : Option Addr} {ps : List Pg} (h : PagesAt W a ps) (hps : ps.length = 4) : ∃ g o, a = some ⟨g, o, none⟩ ∧ ∀ j, j < 16 → W.cell? ⟨g, o + j, none⟩ = (paA (pagesF ps))[j]? := by
  obtain ⟨p0, hp0⟩ := getElem?_ex (l := ps) (k := 0) (by omega)
  obtain ⟨g, o, ha, _⟩ := h 0 p0 hp0
  refine ⟨g, o, ha, fun j hj => ?_⟩
  obtain ⟨p, hp⟩ := getElem?_ex (l := ps) (k := j / 4) (by omega)
  obtain ⟨g', o', ha', h0, h1, h2, h3⟩ := h (j / 4) p hp
  rw [ha] at ha'
  cases ha'
  rw [paA_get _ hj]
  have e : pagesF ps (j / 4) = p := by simp [pagesF, hp]
  rw [e]
  have h4 : j % 4 = 0 ∨ j % 4 = 1 ∨ j % 4 = 2 ∨ j % 4 = 3 := by omega
  rcases h4 with q | q | q | q
  · rw [q, show o + j = o + j / 4 * 4 by omega]; exact h0
  · rw [q, show o + j = o + j / 4 * 4 + 1 by omega]; exact h1
  · rw [q, show o + j = o + j / 4 * 4 + 2 by omega]; exact h2
  · rw [q, show o + j = o + j / 4 * 4 + 3 by omega]; exact h3

/-- copy of four pages into the middle of the row of a chip that is held in arrays. -/
theorem copy_mid (P : Program) (W : World) (dT sT ty elem : TypeId) (g : Nat) (t : TypeId) (m : CC) (b : Nat) (hb : b < 12) (a : Option Addr) (c : Nat) (ps : List Pg) (hps : ps.length = 4) (hpa : PagesAt W a ps)
    (hu : P.underlying dT = some (.slice elem)) (hs : (P.info? elem).map (·.size) = some 4) (hg : W.heap[g]? = some (.cells (ccA m) t (0, 0))) :
    (Builtin.copy_ #[dT, sT] ty #[.slice (some ⟨g, 1 + b * 17 + 1, none⟩) 4 4, .slice a 4 c]).run P W = .ok (goInt 4) (W.setRow g (ccA (m.setPages b (pagesF ps)))) := by
  obtain ⟨q, o, rfl, hc⟩ := hpa.cells hps
  have hl : (loadCells ⟨q, o, none⟩ 16).run P W = .ok (paA (pagesF ps)) W := by
    have := run_loadCells_list (P := P) W ⟨q, o, none⟩ (paA (pagesF ps)).toList (fun j v hv => by
      have hadd : (⟨q, o, none⟩ : Addr).add j = ⟨q, o + j, none⟩ := by unfold Addr.add; split <;> simp_all
      have hj : j < 16 := by rw [← paA_size (pagesF ps), ← Array.length_toList]; exact (List.getElem?_eq_some_iff.1 hv).1
      rw [hadd, hc j hj, ← hv, Array.getElem?_toList])
    simpa only [Array.length_toList, paA_size, Array.toArray_toList] using this
  have hst := run_storeCells_at P g (1 + b * 17 + 1) t (paA (pagesF ps)).toList 0 (ccA m) W hg (by rw [Array.length_toList, paA_size, ccA_size]; omega) (paA_one _)
  rw [Nat.add_zero, Array.length_toList, paA_size, ccA_setPages m b _ hb] at hst
  cases hq : P.info? elem with
  | none => simp [hq] at hs
  | some i =>
    have hi : i.size = 4 := by simpa [hq] using hs
    simp [Builtin.copy_, run_underlying hu, Builtin.lenOf, Builtin.firstCells, sizeOf, typeInfo, hq, hi, hl, hst]

theorem store_row (P : Program) (W : World) (g : Nat) (t : TypeId) (cur vs : Array Value) (hg : W.heap[g]? = some (.cells cur t (0, 0))) (hs : vs.size = cur.size) (h1 : ∀ v ∈ vs.toList, v.oneCell' = true) :
    (storeCells ⟨g, 0, none⟩ vs.toList).run P W = .ok () (W.setRow g vs) := by
  rw [run_storeCells_at P g 0 t vs.toList 0 cur W hg (by simp [hs]) h1]
  congr 2
  simp only [Nat.zero_add, List.take_zero, List.nil_append]
  rw [List.drop_eq_nil_of_le (by simp [hs]), List.append_nil]

theorem store_same (P : Program) (W : World) (g : Nat) (t : TypeId) (cur : Array Value) (hg : W.heap[g]? = some (.cells cur t (0, 0))) (h1 : ∀ v ∈ cur.toList, v.oneCell' = true) :
    (storeCells ⟨g, 0, none⟩ cur.toList).run P W = .ok () W := by
  rw [store_row P W g t cur cur hg rfl h1, setRow_self W g cur t _ hg]

theorem Below.setRow {B : Nat} {a w : World} (h : Below B a w) {g : Nat} (hg : B ≤ g) (cs : Array Value) : Below B a (w.setRow g cs) :=
  ⟨h.os, h.tape, h.output, by simpa using h.size, fun k hk => by rw [setRow_other _ _ _ _ (by omega)]; exact h.block k hk⟩

/-- The numbers of the used pages are those of the blocks. -/
theorem ccPs_filter (m : CC) (b : Nat) : seqsP (ccPs m b) = ((((List.range 4).filter fun j => (m.page b j).used).map fun j => (m.page b j).seq)) := by
  have e : ccPs m b = (List.range 4).map (m.page b) := rfl
  rw [e, seqsP, List.filter_map, List.map_map]
  rfl

theorem BkOk.of_four {x : Int} {ps : List Pg} : BkOk ⟨x, ps⟩ ↔ ps.length = 4 ∧ (0 ≤ x ∧ x ≤ 1000000000) ∧ (∀ k, k < 4 → pgOk (pagesF ps k) = true) ∧ (∀ k, k + 1 < 4 → (pagesF ps (k + 1)).used = true → (pagesF ps k).used = true) := by
  constructor
  · intro h
    have h4 : ps.length = 4 := h.four
    refine ⟨h4, h.wear, fun k hk => ?_, fun k hk hu => ?_⟩
    · obtain ⟨p, hp⟩ := getElem?_ex (l := ps) (k := k) (by simpa [h4] using hk)
      simp only [pagesF, hp, Option.getD_some]
      exact h.page k p hp
    · obtain ⟨p, hp⟩ := getElem?_ex (l := ps) (k := k) (by omega)
      obtain ⟨q, hq⟩ := getElem?_ex (l := ps) (k := k + 1) (by omega)
      simp only [pagesF, hp, hq, Option.getD_some] at hu ⊢
      exact h.order k q p hp hq hu
  · rintro ⟨h4, hw, h1, h2⟩
    refine ⟨hw, h4, fun k p hp => ?_, fun k p q hq hp hu => ?_⟩
    · have hk : k < ps.length := (List.getElem?_eq_some_iff.1 hp).1
      have := h1 k (by omega)
      simpa [pagesF, hp] using this
    · have hk : k + 1 < ps.length := (List.getElem?_eq_some_iff.1 hp).1
      have := h2 k (by omega)
      simp only [pagesF, hp, hq, Option.getD_some] at this
      exact this hu

theorem results_cell_slot {P : Program} {fn : Func} (r ty s : Nat) (hr : fn.results = #[.cell r ty, .tmp s]) (tm : Array Value) (W : World) (g : Addr) (A : Array Value) (v : Value)
    (h1 : tm.getD r undef = .pointer (some g)) (h2 : (loadVar ty g).run P W = .ok (.agg A) W) (h3 : tm.getD s undef = v) : (results fn tm).run P W = .ok (.tuple #[.agg A, v]) W := by
  unfold results
  rw [hr]
  have h1' : tm[r]?.getD undef = .pointer (some g) := by simpa using h1
  have h3' : tm[s]?.getD undef = v := by simpa using h3
  simp [h2, Sem.run_bind, h1', h3', asAddr]

theorem pagesF_list {ps : List Pg} (h : ps.length = 4) : [pagesF ps 0, pagesF ps 1, pagesF ps 2, pagesF ps 3] = ps := by
  match ps, h with
  | [a, b, c, d], _ => rfl
end Go.Proofs.YtjgcjeaplckbbaaGreat

/- The newest page of each log, as plain lists say it. No program is named here. -/
namespace Go.Proofs.YtjgcjeaplckbbaaGreat
open Go.RowKit
set_option linter.unusedVariables false
set_option linter.unusedSimpArgs false

def newer (cur : Option (Int × Pg)) (s : Int) : Bool := match cur with | none => true | some y => decide (y.2.seq < s)
def pick (log : Int) (cur : Option (Int × Pg)) (x : Int × Pg) : Option (Int × Pg) := if x.2.log = log ∧ newer cur x.2.seq = true then some x else cur
/-- The newest page of a log, and its place. -/
def newestAt (xs : List (Int × Pg)) (log : Int) : Option (Int × Pg) := xs.foldl (pick log) none
theorem newestAt_snoc (xs : List (Int × Pg)) (x : Int × Pg) (log : Int) : newestAt (xs ++ [x]) log = pick log (newestAt xs log) x := by simp [newestAt]
theorem newestAt_mem {xs : List (Int × Pg)} {log : Int} {y : Int × Pg} (h : newestAt xs log = some y) : y ∈ xs ∧ y.2.log = log := by
  suffices H : ∀ n (xs : List (Int × Pg)), xs.length = n → ∀ y, newestAt xs log = some y → y ∈ xs ∧ y.2.log = log from H _ xs rfl y h
  intro n
  induction n with
  | zero =>
    intro xs hl y hy
    cases xs with
    | nil => simp [newestAt] at hy
    | cons a t => simp at hl
  | succ n ih =>
    intro xs hl y hy
    obtain ⟨ys, x, rfl⟩ : ∃ ys x, xs = ys ++ [x] := ⟨xs.dropLast, xs.getLast (by intro e; subst e; cases hl), (List.dropLast_concat_getLast _).symm⟩
    rw [newestAt_snoc] at hy
    unfold pick at hy
    split at hy
    · rename_i hc
      cases hy
      exact ⟨by simp, hc.1⟩
    · obtain ⟨h1, h2⟩ := ih ys (by simpa using hl) y hy
      exact ⟨by simp [h1], h2⟩

def placeIn : Option (Int × Pg) → Int
  | none => -1
  | some y => y.1
def placesOf (xs : List (Int × Pg)) (room : Nat) : List Int := (List.range room).map fun (i : Nat) => placeIn (newestAt xs (i : Int))
theorem placesOf_length (xs : List (Int × Pg)) (room : Nat) : (placesOf xs room).length = room := by simp [placesOf]
theorem placesOf_at (xs : List (Int × Pg)) (room : Nat) {i : Nat} (hi : i < room) : (placesOf xs room)[i]? = some (placeIn (newestAt xs (i : Int))) := by simp [placesOf, hi]
theorem placesOf_nil (room : Nat) : placesOf [] room = List.replicate room (-1) := by
  refine List.ext_getElem? (fun i => ?_)
  by_cases hi : i < room
  · rw [placesOf_at _ _ hi]; simp [hi, newestAt, placeIn]
  · rw [List.getElem?_eq_none (by rw [placesOf_length]; omega), List.getElem?_eq_none (by simp; omega)]
theorem placesOf_snoc (xs : List (Int × Pg)) (x : Int × Pg) (room l : Nat) (hx : x.2.log = (l : Int)) :
    placesOf (xs ++ [x]) room = if newer (newestAt xs (l : Int)) x.2.seq = true then (placesOf xs room).set l x.1 else placesOf xs room := by
  refine List.ext_getElem? (fun i => ?_)
  by_cases hi : i < room
  · rw [placesOf_at _ _ hi, newestAt_snoc]
    by_cases e : i = l
    · subst e
      unfold pick
      by_cases hn : newer (newestAt xs (i : Int)) x.2.seq = true
      · rw [if_pos ⟨hx, hn⟩, if_pos hn, List.getElem?_set_self (by rw [placesOf_length]; exact hi)]
        rfl
      · rw [if_neg (fun h => hn h.2), if_neg hn, placesOf_at _ _ hi]
    · have hne : ¬ x.2.log = (i : Int) := by rw [hx]; omega
      unfold pick
      rw [if_neg (fun h => hne h.1)]
      split
      · rw [List.getElem?_set_ne (fun h => e h.symm), placesOf_at _ _ hi]
      · rw [placesOf_at _ _ hi]
  · rw [List.getElem?_eq_none (by rw [placesOf_length]; omega)]
    split
    · rw [List.getElem?_eq_none (by rw [List.length_set, placesOf_length]; omega)]
    · rw [List.getElem?_eq_none (by rw [placesOf_length]; omega)]

theorem mem_usedB {m : CC} {b k : Nat} {x : Int × Pg} (h : x ∈ usedB m b k) : ∃ j, j < k ∧ x = ((b : Int) * 4 + (j : Int), m.page b j) ∧ (m.page b j).used = true := by
  unfold usedB at h
  simp at h
  obtain ⟨j, ⟨hj, hu⟩, rfl⟩ := h
  exact ⟨j, hj, rfl, hu⟩
theorem mem_usedAll {m : CC} {n : Nat} {x : Int × Pg} (h : x ∈ usedAll m n) : ∃ (b k : Nat), b < n ∧ k < 4 ∧ x = ((b : Int) * 4 + (k : Int), m.page b k) ∧ (m.page b k).used = true := by
  unfold usedAll at h
  simp only [List.mem_flatMap, List.mem_range] at h
  obtain ⟨b, hb, hx⟩ := h
  obtain ⟨k, hk, e, hu⟩ := mem_usedB hx
  exact ⟨b, k, hb, hk, e, hu⟩

/-- The chip's pages by their numbers. -/
def mOf (bs : List Bk) : CC := ⟨bs.length, fun b => (bs[b]?.map (·.wear)).getD 0, fun b k => pagesF ((bs[b]?.map (·.pages)).getD []) k⟩
theorem mOf_page {bs : List Bk} {b : Nat} {x : Bk} (hb : bs[b]? = some x) {k : Nat} {p : Pg} (hp : x.pages[k]? = some p) : (mOf bs).page b k = p := by
  simp [mOf, hb, pagesF, hp]
theorem usedB_congr {m m' : CC} {b : Nat} (h : ∀ k, k < 4 → m.page b k = m'.page b k) {k : Nat} (hk : k ≤ 4) : usedB m b k = usedB m' b k := by
  induction k with
  | zero => rfl
  | succ k ih => rw [usedB_succ, usedB_succ, ih (by omega), h k (by omega)]
theorem usedAll_congr {m m' : CC} {n : Nat} (h : ∀ b k, b < n → k < 4 → m.page b k = m'.page b k) : usedAll m n = usedAll m' n := by
  induction n with
  | zero => rfl
  | succ n ih => rw [usedAll_succ, usedAll_succ, ih (fun b k hb hk => h b k (by omega) hk), usedB_congr (fun k hk => h n k (by omega) hk) (Nat.le_refl _)]

/-- The used pages of a chip with their places. -/
def usedOf (bs : List Bk) : List (Int × Pg) := usedAll (mOf bs) bs.length
theorem usedOf_cc {m : CC} {bs : List Bk} (h : ccBs m bs.length = bs) : usedAll m bs.length = usedOf bs := by
  refine usedAll_congr (fun b k hb hk => ?_)
  have e := ccBs_at m hb
  rw [h] at e
  exact (mOf_page e (ccPs_at m b hk)).symm

/-- How many logs have room. -/
def roomOf (bs : List Bk) : Nat := 4 * (bs.length - 3)
def Fits (bs : List Bk) : Prop := ∀ x ∈ usedOf bs, x.2.log < (roomOf bs : Int)
/-- What the map of a right chip is: its newest pages, or none. -/
def MapIs (bs : List Bk) (r : Bool) (L : List Int) : Prop := (r = true ↔ Fits bs) ∧ L = if r then placesOf (usedOf bs) (roomOf bs) else []
theorem MapIs.one {bs : List Bk} {r s : Bool} {L M : List Int} (h : MapIs bs r L) (k : MapIs bs s M) : r = s ∧ L = M := by
  have e : r = s := by
    have := h.1.trans k.1.symm
    cases r <;> cases s <;> simp_all
  subst e
  exact ⟨rfl, h.2.trans k.2.symm⟩
theorem MapIs.length {bs : List Bk} {r : Bool} {L : List Int} (h : MapIs bs r L) (hc : bs.length ≤ 12) : L.length ≤ 36 := by
  rw [h.2]
  split
  · rw [placesOf_length]; unfold roomOf; omega
  · simp

/-- What is known of a used page of a right chip. -/
theorem ChipOk.usedRight {bs : List Bk} (h : ChipOk bs) {x : Int × Pg} (hx : x ∈ usedOf bs) : 0 ≤ x.2.log ∧ x.2.log ≤ 39 ∧ 1 ≤ x.2.seq ∧ x.2.seq ≤ 1000000000 ∧ x.2.data.size = 4 ∧
    ∃ (b k : Nat) (y : Bk), bs[b]? = some y ∧ y.pages[k]? = some x.2 ∧ k < 4 ∧ x.1 = (b : Int) * 4 + (k : Int) ∧ x.2.used = true := by
  obtain ⟨b, k, hb, hk, e, hu⟩ := mem_usedAll hx
  obtain ⟨y, hy⟩ := getElem?_ex (l := bs) (k := b) hb
  have hB := h.block y (List.mem_of_getElem? hy)
  obtain ⟨p, hp⟩ := getElem?_ex (l := y.pages) (k := k) (by have := hB.four; omega)
  rw [mOf_page hy hp] at e hu
  subst e
  have hok := hB.page k p hp
  simp only [pgOk, hu, if_true, rightUsed, Bool.and_eq_true, decide_eq_true_eq, Bool.true_and] at hok
  obtain ⟨⟨⟨h1, h2⟩, h3, h4⟩, h5⟩ := hok
  exact ⟨h1, h2, h3, h4, h5, b, k, y, hy, hp, hk, rfl, hu⟩
end Go.Proofs.YtjgcjeaplckbbaaGreat

/- How many logs have room: the model's and the program's RoomFor. -/
namespace Go.Proofs.YtjgcjeaplckbbaaGreat
open Go.RowKit
set_option linter.unusedVariables false
set_option linter.unusedSimpArgs false

def roomI (n : Int) : Int := if 4 ≤ n ∧ n ≤ 12 then 4 * (n - 3) else 0
theorem roomI_in {n : Int} (h : 4 ≤ n ∧ n ≤ 12) : roomI n = 4 * (n - 3) := if_pos h
theorem roomI_out {n : Int} (h : ¬ (4 ≤ n ∧ n ≤ 12)) : roomI n = 0 := if_neg h

theorem specRoomFor_any (n : Int) (w : World) : Calls Tryz.prog 37 #[.int .i64 n] w fun e w' => e = .returned (.int .i64 (roomI n)) ∧ w' = w := by
  by_cases h : 4 ≤ n ∧ n ≤ 12
  · have hd : decide (4 ≤ n ∧ n ≤ 12) = true := by simpa using h
    go_enter Tryz.func37, Tryz.ntmps37
    go_wp2_with fail
    refine (l1In_any _ _ _ _).mono ?_
    rintro e w1 ⟨rfl, rfl⟩
    rw [hd]
    obtain ⟨h1, h2⟩ := h
    clear hd
    go_wp2
    go_ret
    refine ⟨?_, rfl⟩
    rw [roomI_in ⟨h1, h2⟩]
    show Ending.returned (.int .i64 ((n - 3) * 4)) = _
    rw [Int.mul_comm]
  · have hd : decide (4 ≤ n ∧ n ≤ 12) = false := by simpa using h
    go_enter Tryz.func37, Tryz.ntmps37
    go_wp2_with fail
    refine (l1In_any _ _ _ _).mono ?_
    rintro e w1 ⟨rfl, rfl⟩
    rw [hd]
    clear hd
    go_wp2
    go_ret
    exact ⟨by rw [roomI_out h]; rfl, rfl⟩

theorem isBlockCount_room (n : Int) (w : World) : Calls Tryz.prog 59 #[.int .i64 n] w fun e w' => e = .returned (.bool (decide (4 ≤ n ∧ n ≤ 12))) ∧ w' = w := by
  go_enter Tryz.func59, Tryz.ntmps59
  go_wp2_with fail
  refine (within_any _ _ _ _).mono ?_
  rintro e w1 ⟨rfl, rfl⟩
  go_wp2
  go_ret
  exact ⟨by simp, rfl⟩

theorem implRoomFor_any (n : Int) (w : World) : Calls Tryz.prog 34 #[.int .i64 n] w fun e w' => e = .returned (.int .i64 (roomI n)) ∧ w' = w := by
  by_cases h : 4 ≤ n ∧ n ≤ 12
  · have hd : decide (4 ≤ n ∧ n ≤ 12) = true := by simpa using h
    go_enter Tryz.func34, Tryz.ntmps34
    go_wp2_with fail
    refine (isBlockCount_room _ _).mono ?_
    rintro e w1 ⟨rfl, rfl⟩
    rw [hd]
    obtain ⟨h1, h2⟩ := h
    clear hd
    go_wp2
    go_ret
    refine ⟨?_, rfl⟩
    rw [roomI_in ⟨h1, h2⟩]
    rfl
  · have hd : decide (4 ≤ n ∧ n ≤ 12) = false := by simpa using h
    go_enter Tryz.func34, Tryz.ntmps34
    go_wp2_with fail
    refine (isBlockCount_room _ _).mono ?_
    rintro e w1 ⟨rfl, rfl⟩
    rw [hd]
    clear hd
    go_wp2
    go_ret
    exact ⟨by rw [roomI_out h]; rfl, rfl⟩
end Go.Proofs.YtjgcjeaplckbbaaGreat

/- The first page that is not used: plain words. No program is named here. -/
namespace Go.Proofs.YtjgcjeaplckbbaaGreat
open Go.RowKit
set_option linter.unusedVariables false

/-- r is the first k of n with u k false, or -1. -/
def NextIs (u : Nat → Bool) (n : Nat) (r : Int) : Prop := (∃ k : Nat, k < n ∧ r = k ∧ u k = false ∧ ∀ j, j < k → u j = true) ∨ (r = -1 ∧ ∀ j, j < n → u j = true)
theorem NextIs.one {u : Nat → Bool} {n : Nat} {r s : Int} (h : NextIs u n r) (k : NextIs u n s) : r = s := by
  rcases h with ⟨i, hi, rfl, h1, h2⟩ | ⟨rfl, h1⟩
  · rcases k with ⟨j, hj, rfl, k1, k2⟩ | ⟨rfl, k1⟩
    · by_cases e : i < j
      · have := k2 i e; rw [h1] at this; cases this
      · by_cases e2 : j < i
        · have := h2 j e2; rw [k1] at this; cases this
        · omega
    · have := k1 i hi; rw [h1] at this; cases this
  · rcases k with ⟨j, hj, rfl, k1, k2⟩ | ⟨rfl, k1⟩
    · have := h1 j hj; rw [k1] at this; cases this
    · rfl

theorem NextIs.congr {u v : Nat → Bool} {n : Nat} {r : Int} (h : NextIs u n r) (e : ∀ k, k < n → u k = v k) : NextIs v n r := by
  rcases h with ⟨i, hi, rfl, h1, h2⟩ | ⟨rfl, h1⟩
  · exact .inl ⟨i, hi, rfl, (e i hi) ▸ h1, fun j hj => (e j (by omega)) ▸ h2 j hj⟩
  · exact .inr ⟨rfl, fun j hj => (e j hj) ▸ h1 j hj⟩

def pu (b : Bk) (k : Nat) : Bool := (pagesF b.pages k).used

/-- What NextOf answers. -/
def NextOfIs (bs : List Bk) (blk r : Int) : Prop :=
  (¬ (ChipOk bs ∧ 0 ≤ blk ∧ blk ≤ (bs.length : Int) - 1) ∧ r = -1) ∨ ((ChipOk bs ∧ 0 ≤ blk ∧ blk ≤ (bs.length : Int) - 1) ∧ ∃ b, bs[blk.toNat]? = some b ∧ NextIs (pu b) 4 r)
theorem NextOfIs.one {bs : List Bk} {blk r s : Int} (h : NextOfIs bs blk r) (k : NextOfIs bs blk s) : r = s := by
  rcases h with ⟨h1, rfl⟩ | ⟨h1, b, hb, h2⟩
  · rcases k with ⟨_, rfl⟩ | ⟨k1, _⟩
    · rfl
    · exact absurd k1 h1
  · rcases k with ⟨k1, _⟩ | ⟨_, c, hc, k2⟩
    · exact absurd h1 k1
    · rw [hb] at hc; cases hc; exact h2.one k2
end Go.Proofs.YtjgcjeaplckbbaaGreat

/- Lists of int64 that a call has built itself: no program is named here. -/
namespace Go.Proofs.YtjgcjeaplckbbaaGreat
open Go.RowKit
set_option linter.unusedVariables false
set_option linter.unusedSimpArgs false

def ints (L : List Int) : List Value := L.map (Value.int .i64)
theorem ints_length (L : List Int) : (ints L).length = L.length := by simp [ints]

/-- The slice v holds the numbers L, in a row that was made from block B on and may be written. -/
def OwnInts (w : World) (t : TypeId) (B : Nat) (v : Value) (L : List Int) : Prop := w.ownsRow B t 1 v L.length (ints L)

theorem OwnInts.kept {w w' : World} {t : TypeId} {B : Nat} {v : Value} {L : List Int} (h : OwnInts w t B v L) (hb : Below w.heap.size w w') : OwnInts w' t B v L := by
  have hg : w.grownBy w' none := ⟨hb.os, hb.tape, hb.output, hb.size, fun k hk _ => hb.block k hk⟩
  refine World.ownsRow.kept h hg ?_
  cases hv : v.ownBlock with
  | none => exact Or.inl rfl
  | some k => exact Or.inr (by simp)

/-- The ints from the place on may be written. -/
def IntsMine (w : World) (b o n : Nat) : Prop := ∀ i, i < n → (∃ x : Int, w.cell? ⟨b, o + i, none⟩ = some (.int .i64 x)) ∧ w.frozen? ⟨b, o + i, none⟩ = false

/-- The list may be written, and lies from block B on. -/
def MineFrom (w : World) (a : Option Addr) (n B : Nat) : Prop := (a = none ∧ n = 0) ∨ ∃ g, a = some ⟨g, 0, none⟩ ∧ B ≤ g ∧ g < w.heap.size ∧ IntsMine w g 0 n

theorem OwnInts.form {w : World} {t : TypeId} {B : Nat} {v : Value} {L : List Int} (h : OwnInts w t B v L) : ∃ a c, v = .slice a L.length c ∧ IntsAt w a L ∧ MineFrom w a L.length B := by
  have h0 := h
  rcases h.2 with ⟨hv, hl⟩ | ⟨g, cap, cur, rfl, hb, hg, _⟩
  · exact ⟨none, 0, by rw [hv, hl], fun i x hx => by have := (List.getElem?_eq_some_iff.1 hx).1; omega, .inl ⟨rfl, hl⟩⟩
  · have hcell : ∀ i x, L[i]? = some x → w.cell? ⟨g, 0 + i, none⟩ = some (.int .i64 x) := fun i x hx => by
      have hi := (List.getElem?_eq_some_iff.1 hx).1
      rw [Nat.zero_add, World.ownsRow.cellAt h0 i (by omega)]
      simp [ints, hx]
    refine ⟨_, _, rfl, fun i x hx => ⟨g, 0, rfl, hcell i x hx⟩, .inr ⟨g, rfl, hb, (Array.getElem?_eq_some_iff.1 hg).1, fun i hi => ⟨?_, World.ownsRow.frozenAt h0 _⟩⟩⟩
    obtain ⟨x, hx⟩ := getElem?_ex (l := L) (k := i) hi
    exact ⟨x, hcell i x hx⟩

theorem IntsMine.of_block {w w' : World} {g o n : Nat} (h : IntsMine w g o n) (e : w'.heap[g]? = w.heap[g]?) : IntsMine w' g o n := fun i hi => by
  obtain ⟨⟨x, hx⟩, hf⟩ := h i hi
  refine ⟨⟨x, (World.cell?_of_block (w := w) (a := ⟨g, o + i, none⟩) e).trans hx⟩, ?_⟩
  have : w'.frozen? ⟨g, o + i, none⟩ = w.frozen? ⟨g, o + i, none⟩ := by simp [World.frozen?, e]
  exact this.trans hf

theorem MineFrom.below {w w' : World} {a : Option Addr} {n B : Nat} (h : MineFrom w a n B) (hb : Below w.heap.size w w') : MineFrom w' a n B := by
  rcases h with h | ⟨g, ha, h1, h2, h3⟩
  · exact .inl h
  · exact .inr ⟨g, ha, h1, Nat.lt_of_lt_of_le h2 hb.size, h3.of_block (hb.block g h2)⟩
theorem MineFrom.touch {S : Nat → Prop} {w w' : World} {a : Option Addr} {n B : Nat} (h : MineFrom w a n B) (hT : Touch S w w') (hS : ∀ k, S k → k < B) : MineFrom w' a n B := by
  rcases h with h | ⟨g, ha, h1, h2, h3⟩
  · exact .inl h
  · exact .inr ⟨g, ha, h1, Nat.lt_of_lt_of_le h2 hT.size, h3.of_block (hT.block g h2 (fun hs => by have := hS g hs; omega))⟩
theorem intsAt_touch {S : Nat → Prop} {w w' : World} {a : Option Addr} {L : List Int} {B : Nat} (h : IntsAt w a L) (hM : MineFrom w a L.length B) (hT : Touch S w w') (hS : ∀ k, S k → k < B) : IntsAt w' a L := by
  intro i x hx
  obtain ⟨b, o, ha, hc⟩ := h i x hx
  rcases hM with ⟨hn, _⟩ | ⟨g, ha', h1, h2, _⟩
  · rw [hn] at ha; cases ha
  · rw [ha] at ha'
    cases ha'
    exact ⟨b, 0, ha, (World.cell?_of_block (w := w) (a := ⟨b, 0 + i, none⟩) (hT.block b h2 (fun hs => by have := hS b hs; omega))).trans hc⟩

end Go.Proofs.YtjgcjeaplckbbaaGreat

/- The blocks that are free, as plain lists say it; lists of int64 that append has built. No program is named here. -/
namespace Go.Proofs.YtjgcjeaplckbbaaGreat
open Go.RowKit
set_option linter.unusedVariables false

/-- Block i has a first page that is used. -/
def begun (bs : List Bk) (i : Nat) : Bool := (bs[i]?.map fun b => pu b 0).getD false
def freeTo (bs : List Bk) (k : Nat) : List Int := ((List.range k).filter fun i => !begun bs i).map fun (i : Nat) => (i : Int)
theorem freeTo_succ (bs : List Bk) (k : Nat) : freeTo bs (k + 1) = freeTo bs k ++ if begun bs k then [] else [(k : Int)] := by
  unfold freeTo
  rw [List.range_succ, List.filter_append, List.map_append]
  congr 1
  by_cases h : begun bs k <;> simp [h]
theorem freeTo_length (bs : List Bk) (k : Nat) : (freeTo bs k).length ≤ k := by
  have := List.length_filter_le (fun i => !begun bs i) (List.range k)
  simpa [freeTo] using this

/-- What FreeOf answers. -/
def FreeIs (bs : List Bk) (L : List Int) : Prop := (ChipOk bs ∧ L = freeTo bs bs.length) ∨ (¬ ChipOk bs ∧ L = [])
theorem FreeIs.one {bs : List Bk} {L M : List Int} (h : FreeIs bs L) (k : FreeIs bs M) : L = M := by
  rcases h with ⟨h1, rfl⟩ | ⟨h1, rfl⟩
  · rcases k with ⟨_, rfl⟩ | ⟨k1, _⟩
    · rfl
    · exact absurd h1 k1
  · rcases k with ⟨k1, _⟩ | ⟨_, rfl⟩
    · exact absurd k1 h1
    · rfl
theorem FreeIs.length {bs : List Bk} {L : List Int} (h : FreeIs bs L) : L.length ≤ 12 := by
  rcases h with ⟨h1, rfl⟩ | ⟨h1, rfl⟩
  · have := freeTo_length bs bs.length
    have := h1.count
    omega
  · simp

end Go.Proofs.YtjgcjeaplckbbaaGreat
