/- The model's copy of a right chip. -/
import Derived.Test.YtageolbmplhgaaaNew
import Derived.Test.YtageolbmplhgaaaSpecOk
import Derived.WalkKit
import Derived.Outline
import Derived.Deep.RegionLaw
import Derived.Deep.RegionHeld3
namespace Go.Proofs.Ytageolbmplhgaaa
open Go.RowKit
set_option linter.unusedVariables false
set_option linter.unusedSimpArgs false

theorem pgCells_one (ps : List Pg) : ∀ u ∈ pgCells ps, u.oneCell' = true := by
  intro u hu
  unfold pgCells at hu
  obtain ⟨p, _, hp⟩ := List.mem_flatMap.1 hu
  simp at hp
  rcases hp with rfl | rfl | rfl | rfl <;> rfl

theorem pagesAt_news {w : World} {pb po : Nat} {ps : List Pg} (h : PagesAt w (some ⟨pb, po, none⟩) ps) : ∀ j u, (pgCells ps)[j]? = some u → w.cell? ⟨pb, po + j, none⟩ = some u := by
  intro j u hu
  have hj : j < ps.length * 4 := by have := (List.getElem?_eq_some_iff.1 hu).1; rwa [pgCells_length] at this
  obtain ⟨p, hp⟩ := getElem?_ex (l := ps) (k := j / 4) (by omega)
  have h1 := pgCells_at hp (j % 4) (by omega)
  rw [show j / 4 * 4 + j % 4 = j by omega] at h1
  rw [hu] at h1
  cases h1
  obtain ⟨b, o, e, c0, c1, c2, c3⟩ := h (j / 4) p hp
  cases e
  have h4 : j % 4 = 0 ∨ j % 4 = 1 ∨ j % 4 = 2 ∨ j % 4 = 3 := by omega
  rcases h4 with e | e | e | e
  · rw [e, show po + j = po + j / 4 * 4 by omega]; exact c0
  · rw [e, show po + j = po + j / 4 * 4 + 1 by omega]; exact c1
  · rw [e, show po + j = po + j / 4 * 4 + 2 by omega]; exact c2
  · rw [e, show po + j = po + j / 4 * 4 + 3 by omega]; exact c3

set_option maxRecDepth 100000 in
set_option maxHeartbeats 2000000 in
theorem l1Copy_any (a : Option Addr) (c : Nat) (bs : List Bk) (n : Nat) (hl : bs.length = n) (hok : ChipOk bs) (w : World) (h : BlocksAt w a bs) :
    Calls Try.prog 68 #[.agg #[.slice a n c]] w fun e w' => ∃ v Q C, e = .returned (.agg #[v]) ∧ SpecBlocks w' 75 44 (w.heap.size + 3) v Q C bs ∧ Below w.heap.size w w' := by
  have hn12 : n ≤ 12 := by have := hok.count; omega
  have HL := hide hl
  have HH := hide h
  have HOK := hide hok
  clear h hok hl
  go_enter Try.func68, Try.ntmps68
  go_wp2
  go_loopw [4] (fun i wr => ∃ (k : Nat) (v : Value) (Q C : Nat → Nat), k ≤ n ∧ i = .int .i64 k ∧ wr.heap[w.heap.size + 1 + 1]? = some (.cells #[v] 29 (0, 0)) ∧ SpecBlocks wr 75 44 (w.heap.size + 3) v Q C (bs.take k) ∧ Below (w.heap.size + 1 + 1) ((w.alloc (.cells #[.slice a n c] 29)).alloc (.cells #[.slice none 0 0] 29)) wr ∧ w.heap.size + 3 ≤ wr.heap.size) (fun i _ => n - (intOf i).toNat)
  case atStart =>
    refine ⟨0, .slice none 0 0, fun _ => 0, fun _ => 0, Nat.zero_le _, rfl, ?_, by simpa using SpecBlocks.nil _ _ _ _ _ _, ?_, by simp⟩
    · have := Go.Deep.blk_alloc_new ((w.alloc (.cells #[.slice a n c] 29)).alloc (.cells #[.slice none 0 0] 29)) (.cells #[.slice none 0 0] 29)
      simpa using this
    · exact (Below.refl _ _).alloc (by simp) _
  case round =>
    obtain ⟨k, v, Q, C, hk, rfl, hv, hS, hB, hsz⟩ := hrel
    have hW : Below w.heap.size w wr := (((Below.refl _ w).alloc (Nat.le_refl _) _).alloc (by simp) _).trans (hB.mono (by omega))
    have hbox : wr.cell? ⟨w.heap.size, 0, none⟩ = some (.slice a n c) := by
      rw [hB.cell (p := ⟨w.heap.size, 0, none⟩) (by simp; omega), cell_alloc_lt _ _ _ _ (by simp)]
      simp
    have hres : wr.cell? ⟨w.heap.size + 1, 0, none⟩ = some (.slice none 0 0) := by
      rw [hB.cell (p := ⟨w.heap.size + 1, 0, none⟩) (by simp)]
      simp
    have hresf : wr.frozen? ⟨w.heap.size + 1, 0, none⟩ = false := by
      rw [hB.frozen (p := ⟨w.heap.size + 1, 0, none⟩) (by simp)]
      simp
    by_cases hlt : k < n
    · have hcv := cell_of_one hv
      have hfv := free_of_one hv
      have hvl : w.heap.size + 1 + 1 < wr.heap.size := by omega
      have hne : some (w.heap.size + 1 + 1) ≠ v.ownBlock := fun e => by have := (hS.row.lt _ e.symm).1; omega
      obtain ⟨x, hx⟩ := getElem?_ex (l := bs) (k := k) (by have := unhide HL; omega)
      obtain ⟨g0, o0, pa, pc, rfl, hcw, hcp, hpa⟩ := ((unhide HH).below hW (Nat.le_refl _)) k x hx
      have h4 := ((unhide HOK).block x (List.mem_of_getElem? hx)).four
      rw [h4] at hcp
      obtain ⟨p0, hp0⟩ := getElem?_ex (l := x.pages) (k := 0) (by omega)
      obtain ⟨pb, po, rfl, cp0, _⟩ := hpa 0 p0 hp0
      have hpbl : pb < wr.heap.size := World.block_lt_of_cell? _ _ cp0
      have hg0l : g0 < wr.heap.size := World.block_lt_of_cell? _ _ hcw
      have htl : (bs.take k).length = k := by rw [List.length_take]; have := unhide HL; omega
      have hR : wr.ownsRow (w.heap.size + 3) 75 2 v k (bkCells Q C 0 (bs.take k)) := by have := hS.row; rwa [htl] at this
      obtain ⟨X, hX⟩ : ∃ X, X = bkCells Q C 0 (bs.take k) := ⟨_, rfl⟩
      rw [← hX] at hR
      obtain ⟨Y, hY⟩ : ∃ Y, Y = pgCells x.pages := ⟨_, rfl⟩
      have hYl : Y.length = 4 * 4 := by rw [hY, pgCells_length, h4]
      have hY1 : ∀ u ∈ Y, u.oneCell' = true := by rw [hY]; exact pgCells_one _
      have hYn : ∀ j u, Y[j]? = some u → wr.cell? ⟨pb, po + j, none⟩ = some u := by rw [hY]; exact pagesAt_news hpa
      have HYN := hide hYn
      have hvnew : ∀ q, v.ownBlock = some q → q < wr.heap.size := fun q e => (hS.row.lt q e).2
      have HVN := hide hvnew
      have HS := hide hS
      have HX := hide hX
      have HY := hide hY
      have HX4 := hide (And.intro hx h4)
      have hadd : ∀ j : Nat, (⟨pb, po, none⟩ : Addr).add j = ⟨pb, po + j, none⟩ := fun j => Go.WideShapes.add_plain _ _ _
      have HADD := hide hadd
      have hlit : (wr.alloc (.cells #[] 44)).drew.ownsRow (w.heap.size + 3) 44 4 (.slice (some ⟨wr.heap.size, 0, none⟩) 0 0) 0 [] := World.ownsRow_lit (base := w.heap.size + 3) (e := 44) (size := 4) wr #[] 0 hsz (by unfold maxLen; omega) rfl
      have HLIT := hide hlit
      obtain ⟨i0, hi, hz0, hz1, hz2⟩ := info_parts infoBlock
      obtain ⟨j0, hj, hy0, hy1, hy2⟩ := info_parts infoPage
      have hvl0 : w.heap.size < wr.heap.size := by omega
      have hbx1 : w.heap.size < w.heap.size + 1 := by omega
      have hg01 : g0 < w.heap.size + 1 := by
        obtain ⟨g', o', _, _, e', h0', _⟩ := (unhide HH) k x (unhide HX4).1
        cases e'
        have h9 : g0 < w.heap.size := World.block_lt_of_cell? _ _ h0'
        omega
      clear hS hX hY hYn hadd hlit hx h4 hpa hp0 cp0 hvnew
      go_wp2
      have hmix : Try.prog.follows .mixedOrders = true := by kernel_rfl
      refine wp_region_held_drew (S := fun W => ∀ b o, b < w.heap.size + 1 → W.cell? ⟨b, o, none⟩ = wr.cell? ⟨b, o, none⟩) hmix (fun b o hb => rfl) (fun hHeld => ?_)
      refine wpAnyH_take (i := 0) (v := .pointer (some ⟨w.heap.size + 1 + 1, 0, none⟩)) rfl (by kernel_rfl) (by kernel_rfl) (by kernel_rfl) (fun _ _ _ h => h) (Or.inl ⟨by rfl, ?_⟩) hHeld ?_
      · (intro W hSW; go_simp)
      simp only [Act.put, List.setIfInBounds_toArray, List.set_cons_zero, List.set_cons_succ]
      refine wpAnyH_take (i := 2) (v := .pointer (some ⟨w.heap.size, 0, none⟩)) rfl (by kernel_rfl) (by kernel_rfl) (by kernel_rfl) (fun _ _ _ h => h) (Or.inl ⟨by rfl, ?_⟩) hHeld ?_
      · (intro W hSW; go_simp)
      simp only [Act.put, List.setIfInBounds_toArray, List.set_cons_zero, List.set_cons_succ]
      refine wpAnyH_take (i := 4) (v := .int .i64 (k : Int)) rfl (by kernel_rfl) (by kernel_rfl) (by kernel_rfl) (fun _ _ _ h => h) (Or.inl ⟨by rfl, ?_⟩) hHeld ?_
      · (intro W hSW; go_simp)
      simp only [Act.put, List.setIfInBounds_toArray, List.set_cons_zero, List.set_cons_succ]
      refine wpAnyH_take (i := 9) (v := .pointer (some ⟨w.heap.size, 0, none⟩)) rfl (by kernel_rfl) (by kernel_rfl) (by kernel_rfl) (fun _ _ _ h => h) (Or.inl ⟨by rfl, ?_⟩) hHeld ?_
      · (intro W hSW; go_simp)
      simp only [Act.put, List.setIfInBounds_toArray, List.set_cons_zero, List.set_cons_succ]
      refine wpAnyH_take (i := 11) (v := .int .i64 (k : Int)) rfl (by kernel_rfl) (by kernel_rfl) (by kernel_rfl) (fun _ _ _ h => h) (Or.inl ⟨by rfl, ?_⟩) hHeld ?_
      · (intro W hSW; go_simp)
      simp only [Act.put, List.setIfInBounds_toArray, List.set_cons_zero, List.set_cons_succ]
      refine wpAnyH_take (i := 3) (v := .slice (some ⟨g0, o0, none⟩) n c) rfl (by kernel_rfl) (by kernel_rfl) (by kernel_rfl) (fun _ _ _ h => h) (Or.inl ⟨by rfl, ?_⟩) hHeld ?_
      · (intro W hSW; go_simp)
      simp only [Act.put, List.setIfInBounds_toArray, List.set_cons_zero, List.set_cons_succ]
      refine wpAnyH_take (i := 5) (v := .pointer (some ⟨g0, o0 + k * 2, none⟩)) rfl (by kernel_rfl) (by kernel_rfl) (by kernel_rfl) (fun _ _ _ h => h) (Or.inl ⟨by rfl, ?_⟩) hHeld ?_
      · (intro W hSW; go_simp)
      simp only [Act.put, List.setIfInBounds_toArray, List.set_cons_zero, List.set_cons_succ]
      refine wpAnyH_take (i := 6) (v := .pointer (some ⟨g0, o0 + k * 2, none⟩)) rfl (by kernel_rfl) (by kernel_rfl) (by kernel_rfl) (fun _ _ _ h => h) (Or.inl ⟨by rfl, ?_⟩) hHeld ?_
      · (intro W hSW; go_simp)
      simp only [Act.put, List.setIfInBounds_toArray, List.set_cons_zero, List.set_cons_succ]
      refine wpAnyH_take (i := 7) (v := .int .i64 x.wear) rfl (by kernel_rfl) (by kernel_rfl) (by kernel_rfl) (fun _ _ _ h => h) (Or.inl ⟨by rfl, ?_⟩) hHeld ?_
      · (intro W hSW; go_simp)
      simp only [Act.put, List.setIfInBounds_toArray, List.set_cons_zero, List.set_cons_succ]
      refine wpAnyH_take (i := 10) (v := .slice (some ⟨g0, o0, none⟩) n c) rfl (by kernel_rfl) (by kernel_rfl) (by kernel_rfl) (fun _ _ _ h => h) (Or.inl ⟨by rfl, ?_⟩) hHeld ?_
      · (intro W hSW; go_simp)
      simp only [Act.put, List.setIfInBounds_toArray, List.set_cons_zero, List.set_cons_succ]
      refine wpAnyH_take (i := 12) (v := .pointer (some ⟨g0, o0 + k * 2, none⟩)) rfl (by kernel_rfl) (by kernel_rfl) (by kernel_rfl) (fun _ _ _ h => h) (Or.inl ⟨by rfl, ?_⟩) hHeld ?_
      · (intro W hSW; go_simp)
      simp only [Act.put, List.setIfInBounds_toArray, List.set_cons_zero, List.set_cons_succ]
      refine wpAnyH_take (i := 13) (v := .pointer (some ⟨g0, o0 + k * 2 + 1, none⟩)) rfl (by kernel_rfl) (by kernel_rfl) (by kernel_rfl) (fun _ _ _ h => h) (Or.inl ⟨by rfl, ?_⟩) hHeld ?_
      · (intro W hSW; go_simp)
      simp only [Act.put, List.setIfInBounds_toArray, List.set_cons_zero, List.set_cons_succ]
      refine wpAnyH_take (i := 14) (v := .slice (some ⟨pb, po, none⟩) 4 pc) rfl (by kernel_rfl) (by kernel_rfl) (by kernel_rfl) (fun _ _ _ h => h) (Or.inl ⟨by rfl, ?_⟩) hHeld ?_
      · (intro W hSW; go_simp)
      simp only [Act.put, List.setIfInBounds_toArray, List.set_cons_zero, List.set_cons_succ]
      refine wpAnyH_ready (rs := [1, 8]) (by kernel_rfl) (by simp) ?_
      refine AllReadyH.cons rfl (fun K hK => ?_) (AllReadyH.cons rfl (fun K hK => ?_) AllReadyH.nil)
      · go_simp
        refine hK.out _ _ ?_ (fun hHeld2 => ?_)
        · (first
            | assumption
            | (intro b o hb; rfl)
            | (intro b o hb; rw [cell_drew, cell_alloc_lt _ _ _ _ (by omega)])
            | (intro b o hb; exact (unhide HF).1 b o (by omega))
            | (intro b o hb; rw [cell_alloc_lt _ _ _ _ (by omega)]; exact (unhide HF).1 b o (by omega))
            | (intro b o hb; exact unhide HF8 b o (by omega) (by omega))
            | (intro b o hb; rw [World.cell?_setCell_other _ _ _ _ (by simp <;> omega)]; exact unhide HF8 b o (by omega) (by omega)))
        clear hK K hHeld
        have hHeld := hHeld2
        clear hHeld2
        try simp only [Act.put, List.setIfInBounds_toArray, List.set_cons_zero, List.set_cons_succ]
        refine wpAnyH_ready (rs := [8]) (by kernel_rfl) (by simp) ?_
        refine AllReadyH.cons rfl (fun K hK => ?_) AllReadyH.nil
        · go_simp
          refine hK.out _ _ ?_ (fun hHeld2 => ?_)
          · (first
              | assumption
              | (intro b o hb; rfl)
              | (intro b o hb; rw [cell_drew, cell_alloc_lt _ _ _ _ (by omega)])
              | (intro b o hb; exact (unhide HF).1 b o (by omega))
              | (intro b o hb; rw [cell_alloc_lt _ _ _ _ (by omega)]; exact (unhide HF).1 b o (by omega))
              | (intro b o hb; exact unhide HF8 b o (by omega) (by omega))
              | (intro b o hb; rw [World.cell?_setCell_other _ _ _ _ (by simp <;> omega)]; exact unhide HF8 b o (by omega) (by omega)))
          clear hK K hHeld
          have hHeld := hHeld2
          clear hHeld2
          try simp only [Act.put, List.setIfInBounds_toArray, List.set_cons_zero, List.set_cons_succ]
          refine wpAnyH_ready (rs := [15]) (by kernel_rfl) (by simp) ?_
          refine AllReadyH.cons rfl (fun K hK => ?_) AllReadyH.nil
          · refine step_append_lies _ rfl (.tmp 21) (.tmp 27) 73 rfl (w.heap.size + 3) 44 j0 _ 4 40 Try.underlying73 hj hy0 hy1 hy2 rfl (by decide) (.slice (some ⟨wr.heap.size, 0, none⟩) 0 0) 0 [] (by simp [Act.eval, Act.put]) (by exact unhide HLIT) ⟨pb, po, none⟩ 4 pc Y (by simp [Act.eval, Act.put]) hYl (by intro j u hu; rw [unhide HADD, cell_drew, cell_alloc_lt _ _ _ _ hpbl]; exact unhide HYN j u hu) hY1 (by omega) (by unfold maxLen; omega) (by omega) (by simp; omega) (wr.heap.size + 1) (by simp) ?_
            intro g2 cap2 w7 hown2 hgrow2 hat2 hlt2
            have e04 : 0 + 4 = 4 := rfl
            rw [e04] at hown2 ⊢
            have hsz7 : wr.heap.size + 1 ≤ w7.heap.size := by have := hgrow2.size; simpa using this
            have hfar : ∀ b o, b < wr.heap.size → w7.cell? ⟨b, o, none⟩ = wr.cell? ⟨b, o, none⟩ := fun b o hb => (hgrow2.cell_far ⟨b, o, none⟩ (by simp; omega) (by simp [Value.ownBlock]; omega)).trans (by rw [cell_drew, cell_alloc_lt _ _ _ _ hb])
            have hfarf : ∀ b o, b < wr.heap.size → w7.frozen? ⟨b, o, none⟩ = wr.frozen? ⟨b, o, none⟩ := fun b o hb => (hgrow2.frozen_far ⟨b, o, none⟩ (by simp; omega) (by simp [Value.ownBlock]; omega)).trans (by rw [frozen_drew, frozen_alloc_lt _ _ _ _ hb])
            have hk7 := (hfar _ 0 hvl).trans hcv
            have hf7 := (hfarf _ 0 hvl).trans hfv
            have hvl7 : w.heap.size + 1 + 1 < w7.heap.size := by omega
            have hR7 : w7.ownsRow (w.heap.size + 3) 75 2 v k X := World.ownsRow.kept (w := (wr.alloc (.cells #[] 44)).drew) (by exact hR.alloc _) hgrow2 (Or.inr (fun e => Nat.lt_irrefl _ (unhide HVN wr.heap.size e)))
            have HF := hide (And.intro hfar hfarf)
            clear hfar hfarf
            refine hK.out _ _ ?_ (fun hHeld2 => ?_)
            · (first
                | assumption
                | (intro b o hb; rfl)
                | (intro b o hb; rw [cell_drew, cell_alloc_lt _ _ _ _ (by omega)])
                | (intro b o hb; exact (unhide HF).1 b o (by omega))
                | (intro b o hb; rw [cell_alloc_lt _ _ _ _ (by omega)]; exact (unhide HF).1 b o (by omega))
                | (intro b o hb; exact unhide HF8 b o (by omega) (by omega))
                | (intro b o hb; rw [World.cell?_setCell_other _ _ _ _ (by simp <;> omega)]; exact unhide HF8 b o (by omega) (by omega)))
            clear hK K hHeld
            have hHeld := hHeld2
            clear hHeld2
            try simp only [Act.put, List.setIfInBounds_toArray, List.set_cons_zero, List.set_cons_succ]
            refine wpAnyH_take (i := 16) (v := .agg #[.int .i64 x.wear, .slice (some ⟨g2, 0, none⟩) 4 cap2]) rfl (by kernel_rfl) (by kernel_rfl) (by kernel_rfl) (fun _ _ _ h => h) (Or.inl ⟨by rfl, ?_⟩) hHeld ?_
            · (intro W hSW; go_simp)
            simp only [Act.put, List.setIfInBounds_toArray, List.set_cons_zero, List.set_cons_succ]
            refine wpAnyH_ready (rs := [17]) (by kernel_rfl) (by simp) ?_
            refine AllReadyH.cons rfl (fun K hK => ?_) AllReadyH.nil
            · go_simp
              refine hK.out _ _ ?_ (fun hHeld2 => ?_)
              · (first
                  | assumption
                  | (intro b o hb; rfl)
                  | (intro b o hb; rw [cell_drew, cell_alloc_lt _ _ _ _ (by omega)])
                  | (intro b o hb; exact (unhide HF).1 b o (by omega))
                  | (intro b o hb; rw [cell_alloc_lt _ _ _ _ (by omega)]; exact (unhide HF).1 b o (by omega))
                  | (intro b o hb; exact unhide HF8 b o (by omega) (by omega))
                  | (intro b o hb; rw [World.cell?_setCell_other _ _ _ _ (by simp <;> omega)]; exact unhide HF8 b o (by omega) (by omega)))
              clear hK K hHeld
              have hHeld := hHeld2
              clear hHeld2
              try simp only [Act.put, List.setIfInBounds_toArray, List.set_cons_zero, List.set_cons_succ]
              refine wpAnyH_ready (rs := [18]) (by kernel_rfl) (by simp) ?_
              refine AllReadyH.cons rfl (fun K hK => ?_) AllReadyH.nil
              · refine step_append_lies _ rfl (.tmp 14) (.tmp 30) 27 rfl (w.heap.size + 3) 75 i0 _ 2 32 Try.underlying27 hi hz0 hz1 hz2 rfl (by decide) v k X (by simp [Act.eval, Act.put]) (by exact hR7.alloc _) ⟨w7.heap.size, 0, none⟩ 1 1 [.int .i64 x.wear, .slice (some ⟨g2, 0, none⟩) 4 cap2] (by simp [Act.eval, Act.put]) rfl (World.news_of_block (cs := #[.int .i64 x.wear, .slice (some ⟨g2, 0, none⟩) 4 cap2]) (t := 75) (fr := (0, 0)) (by exact Go.Deep.blk_alloc_new _ _)) (by simp [Value.oneCell']) (by omega) (by unfold maxLen; omega) (by omega) (by simp; omega) (w7.heap.size + 1) (by simp) ?_
                intro g3 cap3 w8 hown3 hgrow3 hat3 hlt3
                have hk8 : w8.cell? ⟨w.heap.size + 1 + 1, 0, none⟩ = some v := (hgrow3.cell_far ⟨w.heap.size + 1 + 1, 0, none⟩ (by simp; omega) hne).trans ((cell_alloc_lt _ _ _ _ (by omega)).trans hk7)
                have hf8 : w8.frozen? ⟨w.heap.size + 1 + 1, 0, none⟩ = false := (hgrow3.frozen_far ⟨w.heap.size + 1 + 1, 0, none⟩ (by simp; omega) hne).trans ((frozen_alloc_lt _ _ _ _ (by omega)).trans hf7)
                have HF8 := hide (fun b o (hb : b < wr.heap.size) (hv' : b < w.heap.size + 1) => (hgrow3.cell_far ⟨b, o, none⟩ (by simp; omega) (fun e => by have := (hR7.lt b e.symm).1; omega)).trans ((cell_alloc_lt _ _ _ _ (by omega)).trans ((unhide HF).1 b o hb)))
                refine hK.out _ _ ?_ (fun hHeld2 => ?_)
                · (first
                    | assumption
                    | (intro b o hb; rfl)
                    | (intro b o hb; rw [cell_drew, cell_alloc_lt _ _ _ _ (by omega)])
                    | (intro b o hb; exact (unhide HF).1 b o (by omega))
                    | (intro b o hb; rw [cell_alloc_lt _ _ _ _ (by omega)]; exact (unhide HF).1 b o (by omega))
                    | (intro b o hb; exact unhide HF8 b o (by omega) (by omega))
                    | (intro b o hb; rw [World.cell?_setCell_other _ _ _ _ (by simp <;> omega)]; exact unhide HF8 b o (by omega) (by omega)))
                clear hK K hHeld
                have hHeld := hHeld2
                clear hHeld2
                try simp only [Act.put, List.setIfInBounds_toArray, List.set_cons_zero, List.set_cons_succ]
                refine wpAnyH_take (i := 19) (v := .pointer (some ⟨w.heap.size + 1 + 1, 0, none⟩)) rfl (by kernel_rfl) (by kernel_rfl) (by kernel_rfl) (fun _ _ _ h => h) (Or.inl ⟨by rfl, ?_⟩) hHeld ?_
                · (intro W hSW; go_simp)
                simp only [Act.put, List.setIfInBounds_toArray, List.set_cons_zero, List.set_cons_succ]
                refine wpAnyH_ready (rs := [20]) (by kernel_rfl) (by simp) ?_
                refine AllReadyH.cons rfl (fun K hK => ?_) AllReadyH.nil
                · go_simp
                  refine hK.out _ _ ?_ (fun hHeld2 => ?_)
                  · (first
                      | assumption
                      | (intro b o hb; rfl)
                      | (intro b o hb; rw [cell_drew, cell_alloc_lt _ _ _ _ (by omega)])
                      | (intro b o hb; exact (unhide HF).1 b o (by omega))
                      | (intro b o hb; rw [cell_alloc_lt _ _ _ _ (by omega)]; exact (unhide HF).1 b o (by omega))
                      | (intro b o hb; exact unhide HF8 b o (by omega) (by omega))
                      | (intro b o hb; rw [World.cell?_setCell_other _ _ _ _ (by simp <;> omega)]; exact unhide HF8 b o (by omega) (by omega)))
                  clear hK K hHeld
                  have hHeld := hHeld2
                  clear hHeld2
                  try simp only [Act.put, List.setIfInBounds_toArray, List.set_cons_zero, List.set_cons_succ]
                  refine wpAnyH_done (by kernel_rfl) ?_ _
                  go_wp2
                  go_roundw
                  case rel =>
                    obtain ⟨hx, h4⟩ := unhide HX4
                    rw [unhide HX] at hown3
                    rw [unhide HY] at hown2
                    have hq0 : wr.heap.size ≤ g2 := by
                      rcases hat2 with e | e
                      · simp [Value.ownBlock] at e; omega
                      · omega
                    have hBW : Below wr.heap.size wr w7 := Below.grown ((Below.refl wr.heap.size wr).alloc (Nat.le_refl _) _).drew hgrow2 (by simp) (fun j e => by simp [Value.ownBlock] at e; omega)
                    have hpush := (unhide HS).push (b := x) (q := g2) (c := cap2) (g := g3) (cap := cap3) (w1 := w8) (hBW.alloc hBW.size _) (by rw [h4]; exact hown2.alloc _) hq0 (by rw [htl, h4]; exact hown3) hgrow3 (by
                      rcases hat3 with e | e
                      · exact Or.inl e
                      · exact Or.inr (by simpa using e))
                    rw [htl] at hpush
                    have htk : bs.take k ++ [x] = bs.take (k + 1) := by rw [List.take_add_one, hx]; rfl
                    rw [htk] at hpush
                    have hbl : w8.heap[w.heap.size + 1 + 1]? = some (.cells #[v] 29 (0, 0)) := by
                      rw [hgrow3.block _ (by simp; omega) hne, Go.Deep.blk_alloc_lt _ _ _ (by omega), hBW.block _ (by omega)]
                      exact hv
                    have hsz8 := hgrow3.size
                    simp at hsz8
                    refine ⟨k + 1, _, _, _, by omega, by go_num, one_setCell hbl, hpush.setLow (by show w.heap.size + 1 + 1 < w.heap.size + 3; omega) _, ?_, by simp [World.setCell]; omega⟩
                    refine Below.setCell ?_ (by simp) _
                    refine Below.grown ((hB.trans (hBW.mono (by omega))).alloc (by omega) _) hgrow3 (by simp; omega) (fun j e => ?_)
                    have := ((unhide HS).row.lt j e).1
                    omega
                  case measure => simp [intOf]; omega
      · go_simp
        refine hK.out _ _ ?_ (fun hHeld2 => ?_)
        · (first
            | assumption
            | (intro b o hb; rfl)
            | (intro b o hb; rw [cell_drew, cell_alloc_lt _ _ _ _ (by omega)])
            | (intro b o hb; exact (unhide HF).1 b o (by omega))
            | (intro b o hb; rw [cell_alloc_lt _ _ _ _ (by omega)]; exact (unhide HF).1 b o (by omega))
            | (intro b o hb; exact unhide HF8 b o (by omega) (by omega))
            | (intro b o hb; rw [World.cell?_setCell_other _ _ _ _ (by simp <;> omega)]; exact unhide HF8 b o (by omega) (by omega)))
        clear hK K hHeld
        have hHeld := hHeld2
        clear hHeld2
        try simp only [Act.put, List.setIfInBounds_toArray, List.set_cons_zero, List.set_cons_succ]
        refine wpAnyH_ready (rs := [1, 15]) (by kernel_rfl) (by simp) ?_
        refine AllReadyH.cons rfl (fun K hK => ?_) (AllReadyH.cons rfl (fun K hK => ?_) AllReadyH.nil)
        · go_simp
          refine hK.out _ _ ?_ (fun hHeld2 => ?_)
          · (first
              | assumption
              | (intro b o hb; rfl)
              | (intro b o hb; rw [cell_drew, cell_alloc_lt _ _ _ _ (by omega)])
              | (intro b o hb; exact (unhide HF).1 b o (by omega))
              | (intro b o hb; rw [cell_alloc_lt _ _ _ _ (by omega)]; exact (unhide HF).1 b o (by omega))
              | (intro b o hb; exact unhide HF8 b o (by omega) (by omega))
              | (intro b o hb; rw [World.cell?_setCell_other _ _ _ _ (by simp <;> omega)]; exact unhide HF8 b o (by omega) (by omega)))
          clear hK K hHeld
          have hHeld := hHeld2
          clear hHeld2
          try simp only [Act.put, List.setIfInBounds_toArray, List.set_cons_zero, List.set_cons_succ]
          refine wpAnyH_ready (rs := [15]) (by kernel_rfl) (by simp) ?_
          refine AllReadyH.cons rfl (fun K hK => ?_) AllReadyH.nil
          · refine step_append_lies _ rfl (.tmp 21) (.tmp 27) 73 rfl (w.heap.size + 3) 44 j0 _ 4 40 Try.underlying73 hj hy0 hy1 hy2 rfl (by decide) (.slice (some ⟨wr.heap.size, 0, none⟩) 0 0) 0 [] (by simp [Act.eval, Act.put]) (by exact unhide HLIT) ⟨pb, po, none⟩ 4 pc Y (by simp [Act.eval, Act.put]) hYl (by intro j u hu; rw [unhide HADD, cell_drew, cell_alloc_lt _ _ _ _ hpbl]; exact unhide HYN j u hu) hY1 (by omega) (by unfold maxLen; omega) (by omega) (by simp; omega) (wr.heap.size + 1) (by simp) ?_
            intro g2 cap2 w7 hown2 hgrow2 hat2 hlt2
            have e04 : 0 + 4 = 4 := rfl
            rw [e04] at hown2 ⊢
            have hsz7 : wr.heap.size + 1 ≤ w7.heap.size := by have := hgrow2.size; simpa using this
            have hfar : ∀ b o, b < wr.heap.size → w7.cell? ⟨b, o, none⟩ = wr.cell? ⟨b, o, none⟩ := fun b o hb => (hgrow2.cell_far ⟨b, o, none⟩ (by simp; omega) (by simp [Value.ownBlock]; omega)).trans (by rw [cell_drew, cell_alloc_lt _ _ _ _ hb])
            have hfarf : ∀ b o, b < wr.heap.size → w7.frozen? ⟨b, o, none⟩ = wr.frozen? ⟨b, o, none⟩ := fun b o hb => (hgrow2.frozen_far ⟨b, o, none⟩ (by simp; omega) (by simp [Value.ownBlock]; omega)).trans (by rw [frozen_drew, frozen_alloc_lt _ _ _ _ hb])
            have hk7 := (hfar _ 0 hvl).trans hcv
            have hf7 := (hfarf _ 0 hvl).trans hfv
            have hvl7 : w.heap.size + 1 + 1 < w7.heap.size := by omega
            have hR7 : w7.ownsRow (w.heap.size + 3) 75 2 v k X := World.ownsRow.kept (w := (wr.alloc (.cells #[] 44)).drew) (by exact hR.alloc _) hgrow2 (Or.inr (fun e => Nat.lt_irrefl _ (unhide HVN wr.heap.size e)))
            have HF := hide (And.intro hfar hfarf)
            clear hfar hfarf
            refine hK.out _ _ ?_ (fun hHeld2 => ?_)
            · (first
                | assumption
                | (intro b o hb; rfl)
                | (intro b o hb; rw [cell_drew, cell_alloc_lt _ _ _ _ (by omega)])
                | (intro b o hb; exact (unhide HF).1 b o (by omega))
                | (intro b o hb; rw [cell_alloc_lt _ _ _ _ (by omega)]; exact (unhide HF).1 b o (by omega))
                | (intro b o hb; exact unhide HF8 b o (by omega) (by omega))
                | (intro b o hb; rw [World.cell?_setCell_other _ _ _ _ (by simp <;> omega)]; exact unhide HF8 b o (by omega) (by omega)))
            clear hK K hHeld
            have hHeld := hHeld2
            clear hHeld2
            try simp only [Act.put, List.setIfInBounds_toArray, List.set_cons_zero, List.set_cons_succ]
            refine wpAnyH_take (i := 16) (v := .agg #[.int .i64 x.wear, .slice (some ⟨g2, 0, none⟩) 4 cap2]) rfl (by kernel_rfl) (by kernel_rfl) (by kernel_rfl) (fun _ _ _ h => h) (Or.inl ⟨by rfl, ?_⟩) hHeld ?_
            · (intro W hSW; go_simp)
            simp only [Act.put, List.setIfInBounds_toArray, List.set_cons_zero, List.set_cons_succ]
            refine wpAnyH_ready (rs := [17]) (by kernel_rfl) (by simp) ?_
            refine AllReadyH.cons rfl (fun K hK => ?_) AllReadyH.nil
            · go_simp
              refine hK.out _ _ ?_ (fun hHeld2 => ?_)
              · (first
                  | assumption
                  | (intro b o hb; rfl)
                  | (intro b o hb; rw [cell_drew, cell_alloc_lt _ _ _ _ (by omega)])
                  | (intro b o hb; exact (unhide HF).1 b o (by omega))
                  | (intro b o hb; rw [cell_alloc_lt _ _ _ _ (by omega)]; exact (unhide HF).1 b o (by omega))
                  | (intro b o hb; exact unhide HF8 b o (by omega) (by omega))
                  | (intro b o hb; rw [World.cell?_setCell_other _ _ _ _ (by simp <;> omega)]; exact unhide HF8 b o (by omega) (by omega)))
              clear hK K hHeld
              have hHeld := hHeld2
              clear hHeld2
              try simp only [Act.put, List.setIfInBounds_toArray, List.set_cons_zero, List.set_cons_succ]
              refine wpAnyH_ready (rs := [18]) (by kernel_rfl) (by simp) ?_
              refine AllReadyH.cons rfl (fun K hK => ?_) AllReadyH.nil
              · refine step_append_lies _ rfl (.tmp 14) (.tmp 30) 27 rfl (w.heap.size + 3) 75 i0 _ 2 32 Try.underlying27 hi hz0 hz1 hz2 rfl (by decide) v k X (by simp [Act.eval, Act.put]) (by exact hR7.alloc _) ⟨w7.heap.size, 0, none⟩ 1 1 [.int .i64 x.wear, .slice (some ⟨g2, 0, none⟩) 4 cap2] (by simp [Act.eval, Act.put]) rfl (World.news_of_block (cs := #[.int .i64 x.wear, .slice (some ⟨g2, 0, none⟩) 4 cap2]) (t := 75) (fr := (0, 0)) (by exact Go.Deep.blk_alloc_new _ _)) (by simp [Value.oneCell']) (by omega) (by unfold maxLen; omega) (by omega) (by simp; omega) (w7.heap.size + 1) (by simp) ?_
                intro g3 cap3 w8 hown3 hgrow3 hat3 hlt3
                have hk8 : w8.cell? ⟨w.heap.size + 1 + 1, 0, none⟩ = some v := (hgrow3.cell_far ⟨w.heap.size + 1 + 1, 0, none⟩ (by simp; omega) hne).trans ((cell_alloc_lt _ _ _ _ (by omega)).trans hk7)
                have hf8 : w8.frozen? ⟨w.heap.size + 1 + 1, 0, none⟩ = false := (hgrow3.frozen_far ⟨w.heap.size + 1 + 1, 0, none⟩ (by simp; omega) hne).trans ((frozen_alloc_lt _ _ _ _ (by omega)).trans hf7)
                have HF8 := hide (fun b o (hb : b < wr.heap.size) (hv' : b < w.heap.size + 1) => (hgrow3.cell_far ⟨b, o, none⟩ (by simp; omega) (fun e => by have := (hR7.lt b e.symm).1; omega)).trans ((cell_alloc_lt _ _ _ _ (by omega)).trans ((unhide HF).1 b o hb)))
                refine hK.out _ _ ?_ (fun hHeld2 => ?_)
                · (first
                    | assumption
                    | (intro b o hb; rfl)
                    | (intro b o hb; rw [cell_drew, cell_alloc_lt _ _ _ _ (by omega)])
                    | (intro b o hb; exact (unhide HF).1 b o (by omega))
                    | (intro b o hb; rw [cell_alloc_lt _ _ _ _ (by omega)]; exact (unhide HF).1 b o (by omega))
                    | (intro b o hb; exact unhide HF8 b o (by omega) (by omega))
                    | (intro b o hb; rw [World.cell?_setCell_other _ _ _ _ (by simp <;> omega)]; exact unhide HF8 b o (by omega) (by omega)))
                clear hK K hHeld
                have hHeld := hHeld2
                clear hHeld2
                try simp only [Act.put, List.setIfInBounds_toArray, List.set_cons_zero, List.set_cons_succ]
                refine wpAnyH_take (i := 19) (v := .pointer (some ⟨w.heap.size + 1 + 1, 0, none⟩)) rfl (by kernel_rfl) (by kernel_rfl) (by kernel_rfl) (fun _ _ _ h => h) (Or.inl ⟨by rfl, ?_⟩) hHeld ?_
                · (intro W hSW; go_simp)
                simp only [Act.put, List.setIfInBounds_toArray, List.set_cons_zero, List.set_cons_succ]
                refine wpAnyH_ready (rs := [20]) (by kernel_rfl) (by simp) ?_
                refine AllReadyH.cons rfl (fun K hK => ?_) AllReadyH.nil
                · go_simp
                  refine hK.out _ _ ?_ (fun hHeld2 => ?_)
                  · (first
                      | assumption
                      | (intro b o hb; rfl)
                      | (intro b o hb; rw [cell_drew, cell_alloc_lt _ _ _ _ (by omega)])
                      | (intro b o hb; exact (unhide HF).1 b o (by omega))
                      | (intro b o hb; rw [cell_alloc_lt _ _ _ _ (by omega)]; exact (unhide HF).1 b o (by omega))
                      | (intro b o hb; exact unhide HF8 b o (by omega) (by omega))
                      | (intro b o hb; rw [World.cell?_setCell_other _ _ _ _ (by simp <;> omega)]; exact unhide HF8 b o (by omega) (by omega)))
                  clear hK K hHeld
                  have hHeld := hHeld2
                  clear hHeld2
                  try simp only [Act.put, List.setIfInBounds_toArray, List.set_cons_zero, List.set_cons_succ]
                  refine wpAnyH_done (by kernel_rfl) ?_ _
                  go_wp2
                  go_roundw
                  case rel =>
                    obtain ⟨hx, h4⟩ := unhide HX4
                    rw [unhide HX] at hown3
                    rw [unhide HY] at hown2
                    have hq0 : wr.heap.size ≤ g2 := by
                      rcases hat2 with e | e
                      · simp [Value.ownBlock] at e; omega
                      · omega
                    have hBW : Below wr.heap.size wr w7 := Below.grown ((Below.refl wr.heap.size wr).alloc (Nat.le_refl _) _).drew hgrow2 (by simp) (fun j e => by simp [Value.ownBlock] at e; omega)
                    have hpush := (unhide HS).push (b := x) (q := g2) (c := cap2) (g := g3) (cap := cap3) (w1 := w8) (hBW.alloc hBW.size _) (by rw [h4]; exact hown2.alloc _) hq0 (by rw [htl, h4]; exact hown3) hgrow3 (by
                      rcases hat3 with e | e
                      · exact Or.inl e
                      · exact Or.inr (by simpa using e))
                    rw [htl] at hpush
                    have htk : bs.take k ++ [x] = bs.take (k + 1) := by rw [List.take_add_one, hx]; rfl
                    rw [htk] at hpush
                    have hbl : w8.heap[w.heap.size + 1 + 1]? = some (.cells #[v] 29 (0, 0)) := by
                      rw [hgrow3.block _ (by simp; omega) hne, Go.Deep.blk_alloc_lt _ _ _ (by omega), hBW.block _ (by omega)]
                      exact hv
                    have hsz8 := hgrow3.size
                    simp at hsz8
                    refine ⟨k + 1, _, _, _, by omega, by go_num, one_setCell hbl, hpush.setLow (by show w.heap.size + 1 + 1 < w.heap.size + 3; omega) _, ?_, by simp [World.setCell]; omega⟩
                    refine Below.setCell ?_ (by simp) _
                    refine Below.grown ((hB.trans (hBW.mono (by omega))).alloc (by omega) _) hgrow3 (by simp; omega) (fun j e => ?_)
                    have := ((unhide HS).row.lt j e).1
                    omega
                  case measure => simp [intOf]; omega
        · refine step_append_lies _ rfl (.tmp 21) (.tmp 27) 73 rfl (w.heap.size + 3) 44 j0 _ 4 40 Try.underlying73 hj hy0 hy1 hy2 rfl (by decide) (.slice (some ⟨wr.heap.size, 0, none⟩) 0 0) 0 [] (by simp [Act.eval, Act.put]) (by exact unhide HLIT) ⟨pb, po, none⟩ 4 pc Y (by simp [Act.eval, Act.put]) hYl (by intro j u hu; rw [unhide HADD, cell_drew, cell_alloc_lt _ _ _ _ hpbl]; exact unhide HYN j u hu) hY1 (by omega) (by unfold maxLen; omega) (by omega) (by simp; omega) (wr.heap.size + 1) (by simp) ?_
          intro g2 cap2 w7 hown2 hgrow2 hat2 hlt2
          have e04 : 0 + 4 = 4 := rfl
          rw [e04] at hown2 ⊢
          have hsz7 : wr.heap.size + 1 ≤ w7.heap.size := by have := hgrow2.size; simpa using this
          have hfar : ∀ b o, b < wr.heap.size → w7.cell? ⟨b, o, none⟩ = wr.cell? ⟨b, o, none⟩ := fun b o hb => (hgrow2.cell_far ⟨b, o, none⟩ (by simp; omega) (by simp [Value.ownBlock]; omega)).trans (by rw [cell_drew, cell_alloc_lt _ _ _ _ hb])
          have hfarf : ∀ b o, b < wr.heap.size → w7.frozen? ⟨b, o, none⟩ = wr.frozen? ⟨b, o, none⟩ := fun b o hb => (hgrow2.frozen_far ⟨b, o, none⟩ (by simp; omega) (by simp [Value.ownBlock]; omega)).trans (by rw [frozen_drew, frozen_alloc_lt _ _ _ _ hb])
          have hk7 := (hfar _ 0 hvl).trans hcv
          have hf7 := (hfarf _ 0 hvl).trans hfv
          have hvl7 : w.heap.size + 1 + 1 < w7.heap.size := by omega
          have hR7 : w7.ownsRow (w.heap.size + 3) 75 2 v k X := World.ownsRow.kept (w := (wr.alloc (.cells #[] 44)).drew) (by exact hR.alloc _) hgrow2 (Or.inr (fun e => Nat.lt_irrefl _ (unhide HVN wr.heap.size e)))
          have HF := hide (And.intro hfar hfarf)
          clear hfar hfarf
          refine hK.out _ _ ?_ (fun hHeld2 => ?_)
          · (first
              | assumption
              | (intro b o hb; rfl)
              | (intro b o hb; rw [cell_drew, cell_alloc_lt _ _ _ _ (by omega)])
              | (intro b o hb; exact (unhide HF).1 b o (by omega))
              | (intro b o hb; rw [cell_alloc_lt _ _ _ _ (by omega)]; exact (unhide HF).1 b o (by omega))
              | (intro b o hb; exact unhide HF8 b o (by omega) (by omega))
              | (intro b o hb; rw [World.cell?_setCell_other _ _ _ _ (by simp <;> omega)]; exact unhide HF8 b o (by omega) (by omega)))
          clear hK K hHeld
          have hHeld := hHeld2
          clear hHeld2
          try simp only [Act.put, List.setIfInBounds_toArray, List.set_cons_zero, List.set_cons_succ]
          refine wpAnyH_take (i := 16) (v := .agg #[.int .i64 x.wear, .slice (some ⟨g2, 0, none⟩) 4 cap2]) rfl (by kernel_rfl) (by kernel_rfl) (by kernel_rfl) (fun _ _ _ h => h) (Or.inl ⟨by rfl, ?_⟩) hHeld ?_
          · (intro W hSW; go_simp)
          simp only [Act.put, List.setIfInBounds_toArray, List.set_cons_zero, List.set_cons_succ]
          refine wpAnyH_ready (rs := [1, 17]) (by kernel_rfl) (by simp) ?_
          refine AllReadyH.cons rfl (fun K hK => ?_) (AllReadyH.cons rfl (fun K hK => ?_) AllReadyH.nil)
          · go_simp
            refine hK.out _ _ ?_ (fun hHeld2 => ?_)
            · (first
                | assumption
                | (intro b o hb; rfl)
                | (intro b o hb; rw [cell_drew, cell_alloc_lt _ _ _ _ (by omega)])
                | (intro b o hb; exact (unhide HF).1 b o (by omega))
                | (intro b o hb; rw [cell_alloc_lt _ _ _ _ (by omega)]; exact (unhide HF).1 b o (by omega))
                | (intro b o hb; exact unhide HF8 b o (by omega) (by omega))
                | (intro b o hb; rw [World.cell?_setCell_other _ _ _ _ (by simp <;> omega)]; exact unhide HF8 b o (by omega) (by omega)))
            clear hK K hHeld
            have hHeld := hHeld2
            clear hHeld2
            try simp only [Act.put, List.setIfInBounds_toArray, List.set_cons_zero, List.set_cons_succ]
            refine wpAnyH_ready (rs := [17]) (by kernel_rfl) (by simp) ?_
            refine AllReadyH.cons rfl (fun K hK => ?_) AllReadyH.nil
            · go_simp
              refine hK.out _ _ ?_ (fun hHeld2 => ?_)
              · (first
                  | assumption
                  | (intro b o hb; rfl)
                  | (intro b o hb; rw [cell_drew, cell_alloc_lt _ _ _ _ (by omega)])
                  | (intro b o hb; exact (unhide HF).1 b o (by omega))
                  | (intro b o hb; rw [cell_alloc_lt _ _ _ _ (by omega)]; exact (unhide HF).1 b o (by omega))
                  | (intro b o hb; exact unhide HF8 b o (by omega) (by omega))
                  | (intro b o hb; rw [World.cell?_setCell_other _ _ _ _ (by simp <;> omega)]; exact unhide HF8 b o (by omega) (by omega)))
              clear hK K hHeld
              have hHeld := hHeld2
              clear hHeld2
              try simp only [Act.put, List.setIfInBounds_toArray, List.set_cons_zero, List.set_cons_succ]
              refine wpAnyH_ready (rs := [18]) (by kernel_rfl) (by simp) ?_
              refine AllReadyH.cons rfl (fun K hK => ?_) AllReadyH.nil
              · refine step_append_lies _ rfl (.tmp 14) (.tmp 30) 27 rfl (w.heap.size + 3) 75 i0 _ 2 32 Try.underlying27 hi hz0 hz1 hz2 rfl (by decide) v k X (by simp [Act.eval, Act.put]) (by exact hR7.alloc _) ⟨w7.heap.size, 0, none⟩ 1 1 [.int .i64 x.wear, .slice (some ⟨g2, 0, none⟩) 4 cap2] (by simp [Act.eval, Act.put]) rfl (World.news_of_block (cs := #[.int .i64 x.wear, .slice (some ⟨g2, 0, none⟩) 4 cap2]) (t := 75) (fr := (0, 0)) (by exact Go.Deep.blk_alloc_new _ _)) (by simp [Value.oneCell']) (by omega) (by unfold maxLen; omega) (by omega) (by simp; omega) (w7.heap.size + 1) (by simp) ?_
                intro g3 cap3 w8 hown3 hgrow3 hat3 hlt3
                have hk8 : w8.cell? ⟨w.heap.size + 1 + 1, 0, none⟩ = some v := (hgrow3.cell_far ⟨w.heap.size + 1 + 1, 0, none⟩ (by simp; omega) hne).trans ((cell_alloc_lt _ _ _ _ (by omega)).trans hk7)
                have hf8 : w8.frozen? ⟨w.heap.size + 1 + 1, 0, none⟩ = false := (hgrow3.frozen_far ⟨w.heap.size + 1 + 1, 0, none⟩ (by simp; omega) hne).trans ((frozen_alloc_lt _ _ _ _ (by omega)).trans hf7)
                have HF8 := hide (fun b o (hb : b < wr.heap.size) (hv' : b < w.heap.size + 1) => (hgrow3.cell_far ⟨b, o, none⟩ (by simp; omega) (fun e => by have := (hR7.lt b e.symm).1; omega)).trans ((cell_alloc_lt _ _ _ _ (by omega)).trans ((unhide HF).1 b o hb)))
                refine hK.out _ _ ?_ (fun hHeld2 => ?_)
                · (first
                    | assumption
                    | (intro b o hb; rfl)
                    | (intro b o hb; rw [cell_drew, cell_alloc_lt _ _ _ _ (by omega)])
                    | (intro b o hb; exact (unhide HF).1 b o (by omega))
                    | (intro b o hb; rw [cell_alloc_lt _ _ _ _ (by omega)]; exact (unhide HF).1 b o (by omega))
                    | (intro b o hb; exact unhide HF8 b o (by omega) (by omega))
                    | (intro b o hb; rw [World.cell?_setCell_other _ _ _ _ (by simp <;> omega)]; exact unhide HF8 b o (by omega) (by omega)))
                clear hK K hHeld
                have hHeld := hHeld2
                clear hHeld2
                try simp only [Act.put, List.setIfInBounds_toArray, List.set_cons_zero, List.set_cons_succ]
                refine wpAnyH_take (i := 19) (v := .pointer (some ⟨w.heap.size + 1 + 1, 0, none⟩)) rfl (by kernel_rfl) (by kernel_rfl) (by kernel_rfl) (fun _ _ _ h => h) (Or.inl ⟨by rfl, ?_⟩) hHeld ?_
                · (intro W hSW; go_simp)
                simp only [Act.put, List.setIfInBounds_toArray, List.set_cons_zero, List.set_cons_succ]
                refine wpAnyH_ready (rs := [20]) (by kernel_rfl) (by simp) ?_
                refine AllReadyH.cons rfl (fun K hK => ?_) AllReadyH.nil
                · go_simp
                  refine hK.out _ _ ?_ (fun hHeld2 => ?_)
                  · (first
                      | assumption
                      | (intro b o hb; rfl)
                      | (intro b o hb; rw [cell_drew, cell_alloc_lt _ _ _ _ (by omega)])
                      | (intro b o hb; exact (unhide HF).1 b o (by omega))
                      | (intro b o hb; rw [cell_alloc_lt _ _ _ _ (by omega)]; exact (unhide HF).1 b o (by omega))
                      | (intro b o hb; exact unhide HF8 b o (by omega) (by omega))
                      | (intro b o hb; rw [World.cell?_setCell_other _ _ _ _ (by simp <;> omega)]; exact unhide HF8 b o (by omega) (by omega)))
                  clear hK K hHeld
                  have hHeld := hHeld2
                  clear hHeld2
                  try simp only [Act.put, List.setIfInBounds_toArray, List.set_cons_zero, List.set_cons_succ]
                  refine wpAnyH_done (by kernel_rfl) ?_ _
                  go_wp2
                  go_roundw
                  case rel =>
                    obtain ⟨hx, h4⟩ := unhide HX4
                    rw [unhide HX] at hown3
                    rw [unhide HY] at hown2
                    have hq0 : wr.heap.size ≤ g2 := by
                      rcases hat2 with e | e
                      · simp [Value.ownBlock] at e; omega
                      · omega
                    have hBW : Below wr.heap.size wr w7 := Below.grown ((Below.refl wr.heap.size wr).alloc (Nat.le_refl _) _).drew hgrow2 (by simp) (fun j e => by simp [Value.ownBlock] at e; omega)
                    have hpush := (unhide HS).push (b := x) (q := g2) (c := cap2) (g := g3) (cap := cap3) (w1 := w8) (hBW.alloc hBW.size _) (by rw [h4]; exact hown2.alloc _) hq0 (by rw [htl, h4]; exact hown3) hgrow3 (by
                      rcases hat3 with e | e
                      · exact Or.inl e
                      · exact Or.inr (by simpa using e))
                    rw [htl] at hpush
                    have htk : bs.take k ++ [x] = bs.take (k + 1) := by rw [List.take_add_one, hx]; rfl
                    rw [htk] at hpush
                    have hbl : w8.heap[w.heap.size + 1 + 1]? = some (.cells #[v] 29 (0, 0)) := by
                      rw [hgrow3.block _ (by simp; omega) hne, Go.Deep.blk_alloc_lt _ _ _ (by omega), hBW.block _ (by omega)]
                      exact hv
                    have hsz8 := hgrow3.size
                    simp at hsz8
                    refine ⟨k + 1, _, _, _, by omega, by go_num, one_setCell hbl, hpush.setLow (by show w.heap.size + 1 + 1 < w.heap.size + 3; omega) _, ?_, by simp [World.setCell]; omega⟩
                    refine Below.setCell ?_ (by simp) _
                    refine Below.grown ((hB.trans (hBW.mono (by omega))).alloc (by omega) _) hgrow3 (by simp; omega) (fun j e => ?_)
                    have := ((unhide HS).row.lt j e).1
                    omega
                  case measure => simp [intOf]; omega
          · go_simp
            refine hK.out _ _ ?_ (fun hHeld2 => ?_)
            · (first
                | assumption
                | (intro b o hb; rfl)
                | (intro b o hb; rw [cell_drew, cell_alloc_lt _ _ _ _ (by omega)])
                | (intro b o hb; exact (unhide HF).1 b o (by omega))
                | (intro b o hb; rw [cell_alloc_lt _ _ _ _ (by omega)]; exact (unhide HF).1 b o (by omega))
                | (intro b o hb; exact unhide HF8 b o (by omega) (by omega))
                | (intro b o hb; rw [World.cell?_setCell_other _ _ _ _ (by simp <;> omega)]; exact unhide HF8 b o (by omega) (by omega)))
            clear hK K hHeld
            have hHeld := hHeld2
            clear hHeld2
            try simp only [Act.put, List.setIfInBounds_toArray, List.set_cons_zero, List.set_cons_succ]
            refine wpAnyH_ready (rs := [1]) (by kernel_rfl) (by simp) ?_
            refine AllReadyH.cons rfl (fun K hK => ?_) AllReadyH.nil
            · go_simp
              refine hK.out _ _ ?_ (fun hHeld2 => ?_)
              · (first
                  | assumption
                  | (intro b o hb; rfl)
                  | (intro b o hb; rw [cell_drew, cell_alloc_lt _ _ _ _ (by omega)])
                  | (intro b o hb; exact (unhide HF).1 b o (by omega))
                  | (intro b o hb; rw [cell_alloc_lt _ _ _ _ (by omega)]; exact (unhide HF).1 b o (by omega))
                  | (intro b o hb; exact unhide HF8 b o (by omega) (by omega))
                  | (intro b o hb; rw [World.cell?_setCell_other _ _ _ _ (by simp <;> omega)]; exact unhide HF8 b o (by omega) (by omega)))
              clear hK K hHeld
              have hHeld := hHeld2
              clear hHeld2
              try simp only [Act.put, List.setIfInBounds_toArray, List.set_cons_zero, List.set_cons_succ]
              refine wpAnyH_ready (rs := [18]) (by kernel_rfl) (by simp) ?_
              refine AllReadyH.cons rfl (fun K hK => ?_) AllReadyH.nil
              · refine step_append_lies _ rfl (.tmp 14) (.tmp 30) 27 rfl (w.heap.size + 3) 75 i0 _ 2 32 Try.underlying27 hi hz0 hz1 hz2 rfl (by decide) v k X (by simp [Act.eval, Act.put]) (by exact hR7.alloc _) ⟨w7.heap.size, 0, none⟩ 1 1 [.int .i64 x.wear, .slice (some ⟨g2, 0, none⟩) 4 cap2] (by simp [Act.eval, Act.put]) rfl (World.news_of_block (cs := #[.int .i64 x.wear, .slice (some ⟨g2, 0, none⟩) 4 cap2]) (t := 75) (fr := (0, 0)) (by exact Go.Deep.blk_alloc_new _ _)) (by simp [Value.oneCell']) (by omega) (by unfold maxLen; omega) (by omega) (by simp; omega) (w7.heap.size + 1) (by simp) ?_
                intro g3 cap3 w8 hown3 hgrow3 hat3 hlt3
                have hk8 : w8.cell? ⟨w.heap.size + 1 + 1, 0, none⟩ = some v := (hgrow3.cell_far ⟨w.heap.size + 1 + 1, 0, none⟩ (by simp; omega) hne).trans ((cell_alloc_lt _ _ _ _ (by omega)).trans hk7)
                have hf8 : w8.frozen? ⟨w.heap.size + 1 + 1, 0, none⟩ = false := (hgrow3.frozen_far ⟨w.heap.size + 1 + 1, 0, none⟩ (by simp; omega) hne).trans ((frozen_alloc_lt _ _ _ _ (by omega)).trans hf7)
                have HF8 := hide (fun b o (hb : b < wr.heap.size) (hv' : b < w.heap.size + 1) => (hgrow3.cell_far ⟨b, o, none⟩ (by simp; omega) (fun e => by have := (hR7.lt b e.symm).1; omega)).trans ((cell_alloc_lt _ _ _ _ (by omega)).trans ((unhide HF).1 b o hb)))
                refine hK.out _ _ ?_ (fun hHeld2 => ?_)
                · (first
                    | assumption
                    | (intro b o hb; rfl)
                    | (intro b o hb; rw [cell_drew, cell_alloc_lt _ _ _ _ (by omega)])
                    | (intro b o hb; exact (unhide HF).1 b o (by omega))
                    | (intro b o hb; rw [cell_alloc_lt _ _ _ _ (by omega)]; exact (unhide HF).1 b o (by omega))
                    | (intro b o hb; exact unhide HF8 b o (by omega) (by omega))
                    | (intro b o hb; rw [World.cell?_setCell_other _ _ _ _ (by simp <;> omega)]; exact unhide HF8 b o (by omega) (by omega)))
                clear hK K hHeld
                have hHeld := hHeld2
                clear hHeld2
                try simp only [Act.put, List.setIfInBounds_toArray, List.set_cons_zero, List.set_cons_succ]
                refine wpAnyH_take (i := 19) (v := .pointer (some ⟨w.heap.size + 1 + 1, 0, none⟩)) rfl (by kernel_rfl) (by kernel_rfl) (by kernel_rfl) (fun _ _ _ h => h) (Or.inl ⟨by rfl, ?_⟩) hHeld ?_
                · (intro W hSW; go_simp)
                simp only [Act.put, List.setIfInBounds_toArray, List.set_cons_zero, List.set_cons_succ]
                refine wpAnyH_ready (rs := [20]) (by kernel_rfl) (by simp) ?_
                refine AllReadyH.cons rfl (fun K hK => ?_) AllReadyH.nil
                · go_simp
                  refine hK.out _ _ ?_ (fun hHeld2 => ?_)
                  · (first
                      | assumption
                      | (intro b o hb; rfl)
                      | (intro b o hb; rw [cell_drew, cell_alloc_lt _ _ _ _ (by omega)])
                      | (intro b o hb; exact (unhide HF).1 b o (by omega))
                      | (intro b o hb; rw [cell_alloc_lt _ _ _ _ (by omega)]; exact (unhide HF).1 b o (by omega))
                      | (intro b o hb; exact unhide HF8 b o (by omega) (by omega))
                      | (intro b o hb; rw [World.cell?_setCell_other _ _ _ _ (by simp <;> omega)]; exact unhide HF8 b o (by omega) (by omega)))
                  clear hK K hHeld
                  have hHeld := hHeld2
                  clear hHeld2
                  try simp only [Act.put, List.setIfInBounds_toArray, List.set_cons_zero, List.set_cons_succ]
                  refine wpAnyH_done (by kernel_rfl) ?_ _
                  go_wp2
                  go_roundw
                  case rel =>
                    obtain ⟨hx, h4⟩ := unhide HX4
                    rw [unhide HX] at hown3
                    rw [unhide HY] at hown2
                    have hq0 : wr.heap.size ≤ g2 := by
                      rcases hat2 with e | e
                      · simp [Value.ownBlock] at e; omega
                      · omega
                    have hBW : Below wr.heap.size wr w7 := Below.grown ((Below.refl wr.heap.size wr).alloc (Nat.le_refl _) _).drew hgrow2 (by simp) (fun j e => by simp [Value.ownBlock] at e; omega)
                    have hpush := (unhide HS).push (b := x) (q := g2) (c := cap2) (g := g3) (cap := cap3) (w1 := w8) (hBW.alloc hBW.size _) (by rw [h4]; exact hown2.alloc _) hq0 (by rw [htl, h4]; exact hown3) hgrow3 (by
                      rcases hat3 with e | e
                      · exact Or.inl e
                      · exact Or.inr (by simpa using e))
                    rw [htl] at hpush
                    have htk : bs.take k ++ [x] = bs.take (k + 1) := by rw [List.take_add_one, hx]; rfl
                    rw [htk] at hpush
                    have hbl : w8.heap[w.heap.size + 1 + 1]? = some (.cells #[v] 29 (0, 0)) := by
                      rw [hgrow3.block _ (by simp; omega) hne, Go.Deep.blk_alloc_lt _ _ _ (by omega), hBW.block _ (by omega)]
                      exact hv
                    have hsz8 := hgrow3.size
                    simp at hsz8
                    refine ⟨k + 1, _, _, _, by omega, by go_num, one_setCell hbl, hpush.setLow (by show w.heap.size + 1 + 1 < w.heap.size + 3; omega) _, ?_, by simp [World.setCell]; omega⟩
                    refine Below.setCell ?_ (by simp) _
                    refine Below.grown ((hB.trans (hBW.mono (by omega))).alloc (by omega) _) hgrow3 (by simp; omega) (fun j e => ?_)
                    have := ((unhide HS).row.lt j e).1
                    omega
                  case measure => simp [intOf]; omega
    · have hk' : k = bs.length := by have := unhide HL; omega
      rw [hk', List.take_length] at hS
      obtain ⟨va, vc, rfl, _⟩ := hS.form
      have hcv := cell_of_one hv
      have hfv := free_of_one hv
      have HSS := hide hS
      obtain ⟨nn, hnn⟩ : ∃ nn, nn = bs.length := ⟨_, rfl⟩
      rw [← hnn] at hcv HSS
      clear hS hv hnn hk'
      go_wp2
      refine bodyPost_ret (v := .agg #[.slice va nn vc]) (by simp [results, Try.results68, go_sem, hres]) rfl ⟨.slice va nn vc, Q, C, rfl, ?_, ?_⟩
      · exact (unhide HSS).setLow (a := ⟨w.heap.size + 1, 0, none⟩) (by show w.heap.size + 1 < w.heap.size + 3; omega) _
      · exact hW.setCell (by simp) _

end Go.Proofs.Ytageolbmplhgaaa
