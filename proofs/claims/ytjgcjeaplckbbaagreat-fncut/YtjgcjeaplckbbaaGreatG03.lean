/- 6 texts in one. -/
import Derived.Test.YtjgcjeaplckbbaaGreatG02
import Derived.Test.YtjgcjeaplckbbaaGreatG01
import Derived.WalkKit
import Derived.Outline
import Derived.BigQuiet
import Derived.Deep.RegionHeld3
import Derived.Deep.AppendLies

/- The model's FreeOf. -/
namespace Go.Proofs.YtjgcjeaplckbbaaGreat
open Go.RowKit
set_option linter.unusedVariables false
set_option linter.unusedSimpArgs false

theorem infoInt64 : (Tryz.prog.info? 2).map (fun i => (i.zero, i.size, i.bytes)) = some (some (.int .i64 0), 1, 8) := by kernel_rfl

set_option maxRecDepth 100000 in
set_option maxHeartbeats 1000000 in
theorem l1Free_any (a : Option Addr) (c : Nat) (bs : List Bk) (n : Nat) (hl : bs.length = n) (hok : ChipOk bs) (w : World) (h : BlocksAt w a bs) :
    Calls Tryz.prog 84 #[.agg #[.slice a n c]] w fun e w' => ∃ v, e = .returned v ∧ OwnInts w' 2 (w.heap.size + 1) v (freeTo bs n) ∧ Below w.heap.size w w' := by
  have hn12 : n ≤ 12 := by have := hok.count; omega
  go_enter Tryz.func84, Tryz.ntmps84
  go_wp2
  go_loopw [3, 4] (fun v i wr => ∃ k : Nat, k ≤ n ∧ i = .int .i64 k ∧ OwnInts wr 2 (w.heap.size + 1) v (freeTo bs k) ∧ Below (w.heap.size + 1) (w.alloc (.cells #[.slice a n c] 26)) wr) (fun _ i _ => n - (intOf i).toNat)
  case atStart =>
    refine ⟨0, Nat.zero_le _, rfl, ?_, ?_⟩
    · have := World.ownsRow_lit (base := w.heap.size + 1) (e := 2) (size := 1) (w.alloc (.cells #[.slice a n c] 26)) #[] 0 (by simp) (by unfold maxLen; omega) rfl
      simpa [OwnInts, ints, freeTo] using this
    · exact (Below.refl _ _).alloc (by simp) _
  case round =>
    obtain ⟨k, hk, rfl, hO, hB⟩ := hrel
    have hsz := hB.size
    simp at hsz
    have hbox : wr.cell? ⟨w.heap.size, 0, none⟩ = some (.slice a n c) := by
      rw [hB.cell (p := ⟨w.heap.size, 0, none⟩) (by simp)]
      simp
    by_cases hlt : k < n
    · obtain ⟨x, hx⟩ := getElem?_ex (l := bs) (k := k) (by omega)
      have hW : Below w.heap.size w wr := ((Below.refl _ w).alloc (Nat.le_refl _) _).trans (hB.mono (by omega))
      obtain ⟨g, o, pa, pc, rfl, hcw, hcp, hpa⟩ := (h.below hW (Nat.le_refl _)) k x hx
      have h4 := (hok.block x (List.mem_of_getElem? hx)).four
      rw [h4] at hcp
      obtain ⟨p, hp⟩ := getElem?_ex (l := x.pages) (k := 0) (by omega)
      obtain ⟨pb, po, rfl, c0, _⟩ := hpa 0 p hp
      have hbg : begun bs k = p.used := by simp [begun, hx, pu, pagesF, hp]
      have hst := freeTo_succ bs k
      have hln := freeTo_length bs k
      rw [hbg] at hst
      obtain ⟨u, lg, s, d⟩ := p
      simp only at c0 hst
      rw [Nat.zero_mul, Nat.add_zero] at c0
      have HO := hide hO
      have HS := hide hst
      clear hO hst hbg hp hpa h hok
      cases u with
      | true =>
        go_wp2
        go_roundw
        case rel =>
          refine ⟨k + 1, by omega, by go_num, ?_, hB⟩
          rw [unhide HS]
          simpa using unhide HO
        case measure => simp [intOf]; omega
      | false =>
        obtain ⟨i0, hi, hz0, hz1, hz2⟩ := info_parts infoInt64
        obtain ⟨X, hX⟩ : ∃ X, X = ints (freeTo bs k) := ⟨_, rfl⟩
        obtain ⟨m, hm⟩ : ∃ m, m = (freeTo bs k).length := ⟨_, rfl⟩
        have hR : wr.ownsRow (w.heap.size + 1) 2 1 u3 m X := by rw [hX, hm]; exact unhide HO
        rw [← hm] at hln
        have HX := hide (And.intro hX hm)
        clear hX hm
        go_wp2_with (refine wpList_append_lies _ rfl (.tmp 23) (.tmp 25) 27 rfl (w.heap.size + 1) 2 i0 _ 1 8 Tryz.underlying27 hi hz0 hz1 hz2 rfl (by decide) u3 m X (by simp [Act.eval]) (by exact hR.alloc _) ⟨wr.heap.size, 0, none⟩ 1 1 [.int .i64 (k : Int)] (by simp [Act.eval]) rfl (World.news_of_block (cs := #[.int .i64 (k : Int)]) (t := 2) (fr := (0, 0)) (by exact Go.Deep.blk_alloc_new _ _)) (by simp [Value.oneCell']) (by omega) (by unfold maxLen; omega) (by omega) (by simp; omega) (wr.heap.size + 1) (by simp) ?_; intro g1 cap w1 hown hgrow hat hlt1)
        go_roundw
        case rel =>
          refine ⟨k + 1, by omega, by go_num, ?_, ?_⟩
          · rw [unhide HS]
            obtain ⟨e1, e2⟩ := unhide HX
            rw [e1, e2] at hown
            rw [e2]
            simpa [OwnInts, ints] using hown
          · refine Below.grown (hB.alloc (by omega) _) hgrow (by simp; omega) (fun j e => ?_)
            exact (hR.lt j e).1
        case measure => simp [intOf]; omega
    · have hk' : k = n := by omega
      subst hk'
      have HO := hide hO
      clear hO h
      go_wp2
      go_ret
      exact ⟨_, rfl, unhide HO, ((Below.refl _ w).alloc (Nat.le_refl _) _).trans (hB.mono (by omega))⟩

end Go.Proofs.YtjgcjeaplckbbaaGreat

/- The model's map of the newest pages. -/
namespace Go.Proofs.YtjgcjeaplckbbaaGreat
open Go.RowKit
set_option linter.unusedVariables false
set_option linter.unusedSimpArgs false

theorem ints_set (L : List Int) (j : Nat) (x : Int) : (ints L).set j (.int .i64 x) = ints (L.set j x) := by simp [ints, List.map_set]
theorem OwnInts.lower {w : World} {t : TypeId} {B B' : Nat} {v : Value} {L : List Int} (h : OwnInts w t B v L) (hB : B' ≤ B) : OwnInts w t B' v L := by
  obtain ⟨q1, q2⟩ := h
  refine ⟨q1, ?_⟩
  rcases q2 with q | ⟨g, cap, cur, e1, e2, e3⟩
  · exact .inl q
  · exact .inr ⟨g, cap, cur, e1, by omega, e3⟩

theorem Below.drewN {B : Nat} {a w : World} (h : Below B a w) (n : Nat) : Below B a (w.drewN n) := ⟨h.os, h.tape, h.output, h.size, h.block⟩

/-- A map and whether there is one have been answered, in a row of its own from block B on. -/
def MapRet (bs : List Bk) (t : TypeId) (B : Nat) (e : Ending) (w' : World) : Prop := ∃ (v : Value) (r : Bool) (L : List Int), e = .returned (.tuple #[v, .bool r]) ∧ MapIs bs r L ∧ OwnInts w' t B v L

set_option maxRecDepth 100000 in
set_option maxHeartbeats 4000000 in
set_option pp.deepTerms true in
set_option pp.maxSteps 100000 in
theorem l2Map_any (a : Option Addr) (c : Nat) (bs : List Bk) (n : Nat) (hl : bs.length = n) (hok : ChipOk bs) (w : World) (h : BlocksAt w a bs) :
    Calls Tryz.prog 54 #[.agg #[.slice a n c]] w fun e w' => MapRet bs 2 (w.heap.size + 1) e w' ∧ Below w.heap.size w w' := by
  have hn12 : 4 ≤ n ∧ n ≤ 12 := by have := hok.count; omega
  obtain ⟨room, hroom⟩ : ∃ room, room = roomOf bs := ⟨_, rfl⟩
  have hroomN : room = 4 * (n - 3) := by rw [hroom]; unfold roomOf; rw [hl]
  have hri : roomI (n : Int) = (room : Int) := by rw [roomI_in (by omega), hroomN]; omega
  have hr36 : room ≤ 36 := by omega
  have hr4 : 4 ≤ room := by omega
  have HRM := hide hroom
  have HRN := hide hroomN
  clear hroom hroomN
  go_enter Tryz.func54, Tryz.ntmps54
  go_wp2_with fail
  refine (specRoomFor_any _ _).mono ?_
  rintro e w1 ⟨rfl, rfl⟩
  rw [hri]
  clear hri
  go_wp2
  go_loopw [5, 6] (fun v i wr => ∃ k : Nat, k ≤ room ∧ i = .int .i64 k ∧ OwnInts wr 2 (w.heap.size + 1) v (List.replicate k (-1)) ∧ Below (w.heap.size + 1) (w.alloc (.cells #[.slice a n c] 26)) wr) (fun _ i _ => room - (intOf i).toNat)
  case atStart =>
    refine ⟨0, Nat.zero_le _, rfl, ?_, ?_⟩
    · have := World.ownsRow_lit (base := w.heap.size + 1) (e := 2) (size := 1) (w.alloc (.cells #[.slice a n c] 26)) #[] 0 (by simp) (by unfold maxLen; omega) rfl
      simpa [OwnInts, ints] using this
    · exact (Below.refl _ _).alloc (by simp) _
  case round =>
    obtain ⟨k, hk, rfl, hO, hB⟩ := hrel
    have hsz := hB.size
    simp at hsz
    by_cases hlt : k < room
    · obtain ⟨i0, hi, hz0, hz1, hz2⟩ := info_parts infoInt64
      obtain ⟨X, hX⟩ : ∃ X, X = ints (List.replicate k (-1)) := ⟨_, rfl⟩
      have hR : wr.ownsRow (w.heap.size + 1) 2 1 u5 k X := by rw [hX]; have := hO; unfold OwnInts at this; rw [List.length_replicate] at this; exact this
      have HX := hide hX
      clear hX hO
      go_wp2_with (refine wpList_append_lies _ rfl (.tmp 21) (.tmp 22) 27 rfl (w.heap.size + 1) 2 i0 _ 1 8 Tryz.underlying27 hi hz0 hz1 hz2 rfl (by decide) u5 k X (by simp [Act.eval]) (by exact hR.alloc _) ⟨wr.heap.size, 0, none⟩ 1 1 [.int .i64 (-1)] (by simp [Act.eval]) rfl (World.news_of_block (cs := #[.int .i64 (-1)]) (t := 2) (fr := (0, 0)) (by exact Go.Deep.blk_alloc_new _ _)) (by simp [Value.oneCell']) (by omega) (by unfold maxLen; omega) (by omega) (by simp; omega) (wr.heap.size + 1) (by simp) ?_; intro g1 cap w2 hown hgrow hat hlt1)
      go_roundw
      case rel =>
        refine ⟨k + 1, by omega, by go_num, ?_, ?_⟩
        · rw [unhide HX] at hown
          unfold OwnInts
          rw [List.length_replicate]
          rw [show ints (List.replicate (k + 1) (-1)) = ints (List.replicate k (-1)) ++ [.int .i64 (-1)] by simp [ints, List.replicate_succ']]
          exact hown
        · refine Below.grown (hB.alloc (by omega) _) hgrow (by simp; omega) (fun j e => ?_)
          exact (hR.lt j e).1
      case measure => simp [intOf]; omega
    · have hk' : k = room := by omega
      subst hk'
      have hform : ∃ g cap, u5 = .slice (some ⟨g, 0, none⟩) k cap := by
        unfold OwnInts at hO
        rw [List.length_replicate] at hO
        rcases hO.2 with ⟨_, h0⟩ | ⟨g, cap, cur, e1, _⟩
        · omega
        · exact ⟨g, cap, e1⟩
      obtain ⟨g, cap, rfl⟩ := hform
      have hg := (hO.lt g rfl).1
      have hO' : wr.ownsRow (w.heap.size + 1) 2 1 (.slice (some ⟨g, 0, none⟩) k cap) k (ints (placesOf [] k)) := by
        rw [placesOf_nil]
        unfold OwnInts at hO
        rw [List.length_replicate] at hO
        exact hO
      have HO := hide hO'
      have HB := hide hB
      clear hO hO' hB
      obtain ⟨room, rfl⟩ : ∃ room, room = k := ⟨_, rfl⟩
      go_wp2
      go_loopw [7] (fun i wr => ∃ b : Nat, b ≤ n ∧ i = .int .i64 b ∧ wr.ownsRow (w.heap.size + 1) 2 1 (.slice (some ⟨g, 0, none⟩) room cap) room (ints (placesOf (usedAll (mOf bs) b) room)) ∧ (∀ x ∈ usedAll (mOf bs) b, x.2.log < (room : Int)) ∧ Below (w.heap.size + 1) (w.alloc (.cells #[.slice a n c] 26)) wr) (fun i _ => n - (intOf i).toNat)
      case atStart => exact ⟨0, Nat.zero_le _, rfl, unhide HO, fun x hx => by simp [usedAll] at hx, unhide HB⟩
      case round =>
        obtain ⟨b, hb, rfl, hR, hF, hB⟩ := hrel
        have hsz := hB.size
        simp at hsz
        have hbox : wr.cell? ⟨w.heap.size, 0, none⟩ = some (.slice a n c) := by
          rw [hB.cell (p := ⟨w.heap.size, 0, none⟩) (by simp)]
          simp
        clear HO HB
        by_cases hlt : b < n
        · have HR := hide hR
          have HF := hide hF
          clear hR hF
          go_wp2
          go_loopw [8] (fun i wr => ∃ k : Nat, k ≤ 4 ∧ i = .int .i64 k ∧ wr.ownsRow (w.heap.size + 1) 2 1 (.slice (some ⟨g, 0, none⟩) room cap) room (ints (placesOf (usedAll (mOf bs) b ++ usedB (mOf bs) b k) room)) ∧ (∀ x ∈ usedAll (mOf bs) b ++ usedB (mOf bs) b k, x.2.log < (room : Int)) ∧ Below (w.heap.size + 1) (w.alloc (.cells #[.slice a n c] 26)) wr) (fun i _ => 4 - (intOf i).toNat)
          case atStart =>
            refine ⟨0, Nat.zero_le _, rfl, ?_, ?_, hB⟩
            · simpa [usedB] using unhide HR
            · simpa [usedB] using unhide HF
          case round =>
            clear hbox HR HF hB
            obtain ⟨k, hk, rfl, hR, hF, hB⟩ := hrel
            have hsz := hB.size
            simp at hsz
            have hbox : wr.cell? ⟨w.heap.size, 0, none⟩ = some (.slice a n c) := by
              rw [hB.cell (p := ⟨w.heap.size, 0, none⟩) (by simp)]
              simp
            have hW : Below w.heap.size w wr := ((Below.refl _ w).alloc (Nat.le_refl _) _).trans (hB.mono (by omega))
            obtain ⟨x, hx⟩ := getElem?_ex (l := bs) (k := b) (by omega)
            obtain ⟨g1, o1, pa, pc, rfl, hcw, hcp, hpa⟩ := (h.below hW (Nat.le_refl _)) b x hx
            have h4 := (hok.block x (List.mem_of_getElem? hx)).four
            rw [h4] at hcp
            have hblt : g1 < wr.heap.size := World.block_lt_of_cell? _ _ hcw
            by_cases hlt2 : k < 4
            · obtain ⟨p, hp⟩ := getElem?_ex (l := x.pages) (k := k) (by omega)
              obtain ⟨g2, o2, rfl, c0, c1, c2, c3⟩ := hpa k p hp
              have hplt : g2 < wr.heap.size := World.block_lt_of_cell? _ _ c0
              have hpg := mOf_page hx hp
              have hsu := usedB_succ (mOf bs) b k
              rw [hpg] at hsu
              have hpok := (hok.block x (List.mem_of_getElem? hx)).page k p hp
              obtain ⟨u, lg, s, d⟩ := p
              simp only at c0 c1 c2 c3 hsu
              have HR := hide hR
              have HF := hide hF
              have HU := hide hsu
              have HM := hide hpg
              clear hR hF hsu hpg hcw
              cases u with
              | false =>
                clear hpok
                go_wp2
                go_roundw
                case rel =>
                  refine ⟨k + 1, by omega, by go_num, ?_, ?_, hB.alloc (by omega) _⟩
                  · rw [unhide HU]; simp only [Bool.false_eq_true, if_false, List.append_nil]; exact (unhide HR).alloc _
                  · rw [unhide HU]; simp only [Bool.false_eq_true, if_false, List.append_nil]; exact unhide HF
                case measure => simp [intOf]; omega
              | true =>
                simp only [pgOk, if_true, rightUsed, Bool.and_eq_true, decide_eq_true_eq, Bool.true_and] at hpok
                obtain ⟨⟨⟨h1, h2⟩, h3, h5⟩, h6⟩ := hpok
                clear h6
                obtain ⟨l, rfl⟩ : ∃ l : Nat, lg = (l : Int) := ⟨lg.toNat, by omega⟩
                by_cases hlog : l < room
                · have hlog' : (l : Int) < (room : Int) := by omega
                  obtain ⟨xs, hxs⟩ : ∃ xs, xs = usedAll (mOf bs) b ++ usedB (mOf bs) b k := ⟨_, rfl⟩
                  have hR := unhide HR
                  have hF := unhide HF
                  have hU := unhide HU
                  rw [← hxs] at hR hF
                  have hU2 : usedAll (mOf bs) b ++ usedB (mOf bs) b (k + 1) = xs ++ [((b : Int) * 4 + (k : Int), (⟨true, (l : Int), s, d⟩ : Pg))] := by rw [hU, hxs, ← List.append_assoc]; rfl
                  have hF2 : ∀ x ∈ usedAll (mOf bs) b ++ usedB (mOf bs) b (k + 1), x.2.log < (room : Int) := by
                    rw [hU2]
                    intro x hx
                    rcases List.mem_append.1 hx with hx | hx
                    · exact hF x hx
                    · simp at hx; subst hx; exact hlog'
                  have hP2 := placesOf_snoc xs ((b : Int) * 4 + (k : Int), (⟨true, (l : Int), s, d⟩ : Pg)) room l rfl
                  rw [← hU2] at hP2
                  have hsub : ∀ y ∈ xs, y ∈ usedOf bs := fun y hy => by
                    have hpre := used_le (mOf bs) (b := b) (k := k) (n := n) hlt (by omega)
                    unfold usedOf
                    rw [hl]
                    exact hpre.subset (by rw [← hxs]; exact hy)
                  have hcell : wr.cell? ⟨g, l, none⟩ = some (.int .i64 (placeIn (newestAt xs (l : Int)))) := by
                    rw [World.ownsRow.cellAt hR l (by omega)]
                    simp only [ints, List.getElem?_map, placesOf_at xs room hlog, Option.map_some]
                  have hfr : wr.frozen? ⟨g, l, none⟩ = false := World.ownsRow.frozenAt hR l
                  have hglt : g < wr.heap.size := (World.ownsRow.lt hR g rfl).2
                  have HR := hide hR
                  have HF2 := hide hF2
                  have HP2 := hide hP2
                  have HXS := hide hxs
                  clear HF HU hR hF hU hU2 hF2 hP2 hxs
                  cases hnw : newestAt xs (l : Int) with
                  | none =>
                    rw [hnw] at hcell
                    simp only [placeIn] at hcell
                    have hne : newer (newestAt xs (l : Int)) s = true := by rw [hnw]; rfl
                    have HNE := hide hne
                    clear hnw hsub h hpa hok hne
                    go_wp2_with fail
                    go_quiet (fail)
                    go_wp2
                    go_roundw
                    case rel =>
                      refine ⟨k + 1, by omega, by go_num, ?_, unhide HF2, ?_⟩
                      · rw [unhide HP2, if_pos (unhide HNE), ← ints_set]
                        exact (World.ownsRow.stored ((unhide HR).alloc _) l (.int .i64 ((b : Int) * 4 + (k : Int)))).1
                      · exact (Below.drewN (hB.alloc (by omega) _) _).setCell (p := ⟨g, l, none⟩) hg _
                    case measure => simp [intOf]; omega
                  | some y =>
                    obtain ⟨hym, hyl⟩ := newestAt_mem hnw
                    obtain ⟨_, _, hys, _, _, b', k', y', hb', hk', hk4, hpl, _⟩ := hok.usedRight (hsub y hym)
                    rw [hnw] at hcell
                    simp only [placeIn] at hcell
                    obtain ⟨g1', o1', pa', pc', ha', hcw', hcp', hpa'⟩ := (h.below hW (Nat.le_refl _)) b' y' hb'
                    simp only [Option.some.injEq, Addr.mk.injEq, and_true] at ha'
                    obtain ⟨rfl, rfl⟩ := ha'
                    have h4' := (hok.block y' (List.mem_of_getElem? hb')).four
                    rw [h4'] at hcp'
                    obtain ⟨g2', o2', rfl, _, _, c2', _⟩ := hpa' k' y.2 hk'
                    have hplt' : g2' < wr.heap.size := World.block_lt_of_cell? _ _ c2'
                    have hbn : b' < n := by have := (List.getElem?_eq_some_iff.1 hb').1; omega
                    obtain ⟨pl, hple⟩ : ∃ pl, pl = y.1 := ⟨_, rfl⟩
                    obtain ⟨sy, hsy⟩ : ∃ sy, sy = y.2.seq := ⟨_, rfl⟩
                    rw [← hple] at hcell hpl
                    rw [← hsy] at c2'
                    have hp0 : ¬ (pl < 0) := by omega
                    have hp1 : 0 ≤ pl := by omega
                    have hq : pl / 4 = (b' : Int) := by omega
                    have hrm : pl % 4 = (k' : Int) := by omega
                    have hqt : pl.tdiv 4 = (b' : Int) := by rw [Int.tdiv_eq_ediv_of_nonneg hp1]; exact hq
                    have hrt : pl.tmod 4 = (k' : Int) := by rw [Int.tmod_eq_emod_of_nonneg hp1]; exact hrm
                    have hwb : IntKind.i64.wrap (b' : Int) = (b' : Int) := by simp [IntKind.wrap, IntKind.bits, IntKind.signed]; omega
                    have hwk : IntKind.i64.wrap (k' : Int) = (k' : Int) := by simp [IntKind.wrap, IntKind.bits, IntKind.signed]; omega
                    have hk4' : (k' : Int) < 4 := by omega
                    have hbn' : (b' : Int) < (n : Int) := by omega
                    have HPL := hide hpl
                    clear hcw' hpa' h4' hk' hpl hple h hpa hok hsub
                    have x0 : ∀ o, (wr.alloc o).cell? ⟨w.heap.size, 0, none⟩ = some (.slice (some ⟨g1, o1, none⟩) n c) := fun o => (cell_alloc_lt _ _ _ _ (by omega)).trans hbox
                    have x1 : ∀ o, (wr.alloc o).cell? ⟨g1, o1 + b' * 2 + 1, none⟩ = some (.slice (some ⟨g2', o2', none⟩) 4 pc') := fun o => (cell_alloc_lt _ _ _ _ hblt).trans hcp'
                    have x2 : ∀ o, (wr.alloc o).cell? ⟨g2', o2' + k' * 4 + 2, none⟩ = some (.int .i64 sy) := fun o => (cell_alloc_lt _ _ _ _ hplt').trans c2'
                    by_cases hlt3 : sy < s
                    · have hne : newer (newestAt xs (l : Int)) s = true := by rw [hnw]; simp [newer, ← hsy, hlt3]
                      have HNE := hide hne
                      have hdd : decide (sy < s) = true := by simpa using hlt3
                      clear hnw hne hsy
                      go_wp2_with fail
                      go_quiet (fail)
                      go_wp2
                      go_roundw
                      case rel =>
                        refine ⟨k + 1, by omega, by go_num, ?_, unhide HF2, ?_⟩
                        · rw [unhide HP2, if_pos (unhide HNE), ← ints_set]
                          exact (World.ownsRow.stored ((unhide HR).alloc _) l (.int .i64 ((b : Int) * 4 + (k : Int)))).1
                        · exact (Below.drewN (hB.alloc (by omega) _) _).setCell (p := ⟨g, l, none⟩) hg _
                      case measure => simp [intOf]; omega
                    · have hne : ¬ newer (newestAt xs (l : Int)) s = true := by rw [hnw]; simp [newer, ← hsy]; omega
                      have HNE := hide hne
                      have hdd : decide (sy < s) = false := by simpa using hlt3
                      clear hnw hne hsy
                      go_wp2_with fail
                      go_quiet (fail)
                      go_wp2
                      go_roundw
                      case rel =>
                        refine ⟨k + 1, by omega, by go_num, ?_, unhide HF2, ?_⟩
                        · rw [unhide HP2, if_neg (unhide HNE)]
                          exact (unhide HR).alloc _
                        · exact Below.drewN (hB.alloc (by omega) _) _
                      case measure => simp [intOf]; omega
                · have hlog' : (room : Int) ≤ (l : Int) := by omega
                  go_wp2
                  go_ret2
                  refine ⟨⟨_, false, [], rfl, ⟨?_, rfl⟩, World.ownsRow_nil _ _ _ _⟩, hW.alloc (by omega) _⟩
                  simp only [Bool.false_eq_true, false_iff]
                  intro hfit
                  have hmem : ((b : Int) * 4 + (k : Int), (⟨true, (l : Int), s, d⟩ : Pg)) ∈ usedOf bs := by
                    have hpre := used_le (mOf bs) (b := b) (k := k + 1) (n := n) hlt (by omega)
                    unfold usedOf
                    rw [hl]
                    refine hpre.subset ?_
                    rw [unhide HU]
                    simp
                  have := hfit _ hmem
                  rw [← unhide HRM] at this
                  simp only at this
                  omega
            · obtain rfl : k = 4 := by omega
              have HR := hide hR
              have HF := hide hF
              clear hR hF
              go_wp2
              go_roundw
              case rel =>
                refine ⟨b + 1, by omega, by go_num, ?_, ?_, hB⟩
                · rw [usedAll_succ]; exact unhide HR
                · rw [usedAll_succ]; exact unhide HF
              case measure => simp [intOf]; omega
        · obtain rfl : b = n := by omega
          have HR := hide hR
          have HF := hide hF
          clear hR hF h
          go_wp2
          go_ret2
          refine ⟨⟨_, true, _, rfl, ⟨?_, rfl⟩, ?_⟩, ((Below.refl _ w).alloc (Nat.le_refl _) _).trans (hB.mono (by omega))⟩
          · simp only [true_iff]
            intro x hx
            rw [← unhide HRM]
            unfold usedOf at hx
            rw [hl] at hx
            exact unhide HF x hx
          · simp only [if_true]
            unfold OwnInts usedOf
            rw [placesOf_length, ← unhide HRM, hl]
            exact unhide HR
end Go.Proofs.YtjgcjeaplckbbaaGreat

/- What a right member is, as plain lists say it. No program is named here. -/
namespace Go.Proofs.YtjgcjeaplckbbaaGreat
open Go.RowKit
set_option linter.unusedVariables false
set_option linter.unusedSimpArgs false

/-- The greatest number so far, and its place. -/
def topStep (cur : Int × Int) (x : Int × Pg) : Int × Int := if cur.1 < x.2.seq then (x.2.seq, x.1) else cur
def topOf (xs : List (Int × Pg)) : Int × Int := xs.foldl topStep (0, 0)
theorem topOf_snoc (xs : List (Int × Pg)) (x : Int × Pg) : topOf (xs ++ [x]) = topStep (topOf xs) x := by simp [topOf]
theorem topOf_bounds (xs : List (Int × Pg)) (h : ∀ x ∈ xs, x.2.seq ≤ 1000000000) : 0 ≤ (topOf xs).1 ∧ (topOf xs).1 ≤ 1000000000 := by
  suffices H : ∀ (xs : List (Int × Pg)) (c : Int × Int), 0 ≤ c.1 → c.1 ≤ 1000000000 → (∀ x ∈ xs, x.2.seq ≤ 1000000000) → 0 ≤ (xs.foldl topStep c).1 ∧ (xs.foldl topStep c).1 ≤ 1000000000 from H xs (0, 0) (Int.le_refl _) (by decide) h
  intro xs
  induction xs with
  | nil => intro c h0 h1 _; exact ⟨h0, h1⟩
  | cons x xs ih =>
    intro c h0 h1 hx
    have h2 := hx x (by simp)
    simp only [List.foldl_cons]
    refine ih _ ?_ ?_ (fun y hy => hx y (by simp [hy]))
    · unfold topStep; split <;> (try simp) <;> omega
    · unfold topStep; split <;> (try simp) <;> omega
def topSeq (bs : List Bk) : Int := (topOf (usedOf bs)).1
theorem ChipOk.top {bs : List Bk} (h : ChipOk bs) : 0 ≤ topSeq bs ∧ topSeq bs ≤ 1000000000 :=
  topOf_bounds _ (fun x hx => (h.usedRight hx).2.2.2.1)

def freeB (b : Bk) : Bool := !pu b 0
def fullB (b : Bk) : Bool := pu b 0 && pu b 1 && pu b 2 && pu b 3
/-- Begun, and not full. -/
def halfB (b : Bk) : Bool := pu b 0 && !fullB b
theorem NextIs.kinds {b : Bk} {r : Int} (h : NextIs (pu b) 4 r) : decide (r = 0) = freeB b ∧ decide (0 < r) = halfB b ∧ decide (r < 0) = fullB b := by
  unfold halfB freeB fullB
  rcases h with ⟨k, hk, rfl, h1, h2⟩ | ⟨rfl, h1⟩
  · have h4 : k = 0 ∨ k = 1 ∨ k = 2 ∨ k = 3 := by omega
    rcases h4 with rfl | rfl | rfl | rfl
    · simp [h1]
    · have := h2 0 (by omega); simp [h1, this]
    · have a0 := h2 0 (by omega); have a1 := h2 1 (by omega); simp [h1, a0, a1]
    · have a0 := h2 0 (by omega); have a1 := h2 1 (by omega); have a2 := h2 2 (by omega); simp [h1, a0, a1, a2]
  · have a0 := h1 0 (by omega); have a1 := h1 1 (by omega); have a2 := h1 2 (by omega); have a3 := h1 3 (by omega)
    simp [a0, a1, a2, a3]

/-- No block of the first k but the open one is begun only; one of them is free. -/
def noHalf (bs : List Bk) (o : Int) (k : Nat) : Prop := ∀ i x, i < k → bs[i]? = some x → (i : Int) ≠ o → halfB x = false
def oneFree (bs : List Bk) (o : Int) (k : Nat) : Prop := ∃ i x, i < k ∧ bs[i]? = some x ∧ (i : Int) ≠ o ∧ freeB x = true
def Settled (bs : List Bk) (o : Int) : Prop := noHalf bs o bs.length ∧ oneFree bs o bs.length
theorem noHalf_succ {bs : List Bk} {o : Int} {k : Nat} {x : Bk} (hx : bs[k]? = some x) : noHalf bs o (k + 1) ↔ noHalf bs o k ∧ ((k : Int) ≠ o → halfB x = false) := by
  constructor
  · intro h
    exact ⟨fun i y hi hy hn => h i y (by omega) hy hn, fun hn => h k x (by omega) hx hn⟩
  · rintro ⟨h1, h2⟩ i y hi hy hn
    by_cases e : i = k
    · subst e; rw [hx] at hy; cases hy; exact h2 hn
    · exact h1 i y (by omega) hy hn
theorem oneFree_succ {bs : List Bk} {o : Int} {k : Nat} {x : Bk} (hx : bs[k]? = some x) : oneFree bs o (k + 1) ↔ oneFree bs o k ∨ ((k : Int) ≠ o ∧ freeB x = true) := by
  constructor
  · rintro ⟨i, y, hi, hy, hn, hf⟩
    by_cases e : i = k
    · subst e; rw [hx] at hy; cases hy; exact .inr ⟨hn, hf⟩
    · exact .inl ⟨i, y, by omega, hy, hn, hf⟩
  · rintro (⟨i, y, hi, hy, hn, hf⟩ | ⟨hn, hf⟩)
    · exact ⟨i, y, by omega, hy, hn, hf⟩
    · exact ⟨k, x, by omega, hx, hn, hf⟩

/-- A right member. -/
structure FtlOk (bs : List Bk) (L : List Int) (seq o : Int) : Prop where
  chip : ChipOk bs
  fits : Fits bs
  map : L = placesOf (usedOf bs) (roomOf bs)
  seq : topSeq bs + 1 ≤ seq ∧ seq ≤ 1000000000
  opn : 0 ≤ o ∧ o ≤ (bs.length : Int) - 1
  settled : Settled bs o
end Go.Proofs.YtjgcjeaplckbbaaGreat

/- How many pages of a block are the newest of their log, as plain lists say it. No program is named here. -/
namespace Go.Proofs.YtjgcjeaplckbbaaGreat
open Go.RowKit
set_option linter.unusedVariables false
set_option linter.unusedSimpArgs false

def hit (blk x : Int) : Bool := decide (0 ≤ x) && decide (x / 4 = blk)
def validIn (L : List Int) (blk : Int) : Nat := (L.filter (hit blk)).length
theorem validIn_nil (blk : Int) : validIn [] blk = 0 := rfl
theorem validIn_snoc (L : List Int) (x blk : Int) : validIn (L ++ [x]) blk = validIn L blk + if hit blk x = true then 1 else 0 := by
  unfold validIn
  rw [List.filter_append, List.length_append]
  cases h : hit blk x <;> simp [h]
theorem take_succ_of {α : Type} {L : List α} {k : Nat} {x : α} (hx : L[k]? = some x) : L.take (k + 1) = L.take k ++ [x] := by rw [List.take_add_one, hx]; rfl
theorem validIn_take {L : List Int} {k : Nat} {x : Int} (hx : L[k]? = some x) (blk : Int) : validIn (L.take (k + 1)) blk = validIn (L.take k) blk + if hit blk x = true then 1 else 0 := by
  rw [take_succ_of hx, validIn_snoc]
theorem validIn_le (L : List Int) (blk : Int) : validIn L blk ≤ L.length := List.length_filter_le _ _
/-- The places that are named. -/
def namedOf (L : List Int) : List Int := L.filter fun x => decide (x ≠ -1)
theorem namedOf_take {L : List Int} {k : Nat} {x : Int} (hx : L[k]? = some x) : namedOf (L.take (k + 1)) = namedOf (L.take k) ++ if x = -1 then [] else [x] := by
  rw [take_succ_of hx]
  unfold namedOf
  rw [List.filter_append]
  by_cases e : x = -1 <;> simp [e]
theorem namedOf_length (L : List Int) : (namedOf L).length ≤ L.length := List.length_filter_le _ _
theorem namedOf_prefix (L : List Int) (k : Nat) : namedOf (L.take k) <+: namedOf L := by
  unfold namedOf
  exact List.IsPrefix.filter _ (List.take_prefix k L)
theorem validIn_named (L : List Int) (blk : Int) : validIn (namedOf L) blk = validIn L blk := by
  unfold validIn namedOf
  rw [List.filter_filter]
  congr 1
  refine List.filter_congr (fun x _ => ?_)
  by_cases e : x = -1
  · subst e; simp [hit]
  · simp [e]

theorem FtlOk.places {bs : List Bk} {L : List Int} {seq o : Int} (h : FtlOk bs L seq o) : ∀ x ∈ L, x = -1 ∨ (0 ≤ x ∧ x < 4 * (bs.length : Int)) := by
  intro x hx
  rw [h.map] at hx
  unfold placesOf at hx
  simp only [List.mem_map, List.mem_range] at hx
  obtain ⟨i, hi, rfl⟩ := hx
  cases e : newestAt (usedOf bs) (i : Int) with
  | none => left; rfl
  | some y =>
    right
    obtain ⟨hm, _⟩ := newestAt_mem e
    obtain ⟨_, _, _, _, _, b, k, z, hb, _, hk, hy, _⟩ := h.chip.usedRight hm
    have hlt := (List.getElem?_eq_some_iff.1 hb).1
    simp only [placeIn]
    rw [hy]
    omega
theorem FtlOk.len {bs : List Bk} {L : List Int} {seq o : Int} (h : FtlOk bs L seq o) : L.length = 4 * (bs.length - 3) := by
  rw [h.map, placesOf_length]; rfl
theorem FtlOk.len36 {bs : List Bk} {L : List Int} {seq o : Int} (h : FtlOk bs L seq o) : L.length ≤ 36 := by
  have := h.len; have := h.chip.count; omega

/-- What ValidOf answers. -/
def ValidIs (bs : List Bk) (L : List Int) (seq o blk r : Int) : Prop :=
  ((FtlOk bs L seq o ∧ 0 ≤ blk ∧ blk ≤ (bs.length : Int) - 1) ∧ r = (validIn L blk : Int)) ∨ (¬ (FtlOk bs L seq o ∧ 0 ≤ blk ∧ blk ≤ (bs.length : Int) - 1) ∧ r = -1)
theorem ValidIs.one {bs : List Bk} {L : List Int} {seq o blk r s : Int} (h : ValidIs bs L seq o blk r) (k : ValidIs bs L seq o blk s) : r = s := by
  rcases h with ⟨h1, rfl⟩ | ⟨h1, rfl⟩
  · rcases k with ⟨_, rfl⟩ | ⟨k1, _⟩
    · rfl
    · exact absurd h1 k1
  · rcases k with ⟨k1, _⟩ | ⟨_, rfl⟩
    · exact absurd k1 h1
    · rfl
end Go.Proofs.YtjgcjeaplckbbaaGreat

/- A member is copied: the model's l3Copy. -/
namespace Go.Proofs.YtjgcjeaplckbbaaGreat
open Go.RowKit
set_option linter.unusedVariables false
set_option linter.unusedSimpArgs false

theorem ownsRow_grown {w w' : World} {base : Nat} {e : TypeId} {size : Nat} {v : Value} {n : Nat} {xs : List Value} (h : w.ownsRow base e size v n xs) {P : Nat} (hg : w.grownBy w' (some P)) (hP : P < base) : w'.ownsRow base e size v n xs := by
  refine World.ownsRow.kept h hg ?_
  cases hv : v.ownBlock with
  | none => exact Or.inl rfl
  | some k => exact Or.inr (by have := (h.lt k hv).1; simp; omega)
theorem SpecBlocks.grown {w w' : World} {tB tP : TypeId} {base : Nat} {v : Value} {Q C : Nat → Nat} {bs : List Bk} (h : SpecBlocks w tB tP base v Q C bs) {P : Nat} (hg : w.grownBy w' (some P)) (hP : P < base) : SpecBlocks w' tB tP base v Q C bs :=
  ⟨ownsRow_grown h.row hg hP, fun i b hb => ownsRow_grown (h.pages i b hb) hg hP, h.ne, h.inj⟩

set_option maxRecDepth 100000 in
set_option maxHeartbeats 4000000 in
theorem l3Copy_any (a : Option Addr) (c : Nat) (bs : List Bk) (n : Nat) (hl : bs.length = n) (ma : Option Addr) (mc : Nat) (L : List Int) (mn : Nat) (hL : L.length = mn) (seq o : Int) (hok : FtlOk bs L seq o) (w : World) (h : BlocksAt w a bs) (hI : IntsAt w ma L) :
    Calls Tryz.prog 72 #[.agg #[.slice a n c, .slice ma mn mc, .int .i64 seq, .int .i64 o]] w fun e w' => ∃ a2 c2 ma2 mc2, e = .returned (.agg #[.slice a2 n c2, .slice ma2 mn mc2, .int .i64 seq, .int .i64 o]) ∧ BlocksAt w' a2 bs ∧ IntsAt w' ma2 L ∧ MineFrom w' ma2 mn w.heap.size ∧ Below w.heap.size w w' := by
  obtain ⟨i0, hi, hz0, hz1, hz2⟩ := info_parts infoInt64
  have hlen := hok.len
  have hc := hok.chip.count
  have hm4 : 4 ≤ mn ∧ mn ≤ 36 := by omega
  obtain ⟨x, hx⟩ := getElem?_ex (l := L) (k := 0) (by omega)
  obtain ⟨b1, o1, rfl, _⟩ := hI 0 x hx
  have HCH := hide hok.chip
  have HA := hide h
  have HI := hide hI
  have HL := hide hL
  have HLB := hide hl
  obtain ⟨X, hX⟩ : ∃ X, X = ints L := ⟨_, rfl⟩
  have hXl : X.length = mn * 1 := by rw [hX, ints_length]; omega
  have hX1 : ∀ u ∈ X, u.oneCell' = true := fun u hu => by rw [hX] at hu; simp [ints] at hu; obtain ⟨y, _, rfl⟩ := hu; rfl
  have HXN : Hid (∀ W, IntsAt W (some ⟨b1, o1, none⟩) L → ∀ j u, X[j]? = some u → W.cell? ((⟨b1, o1, none⟩ : Addr).add j) = some u) := fun W hW j u hu => by
    rw [hX] at hu
    simp only [ints, List.getElem?_map, Option.map_eq_some_iff] at hu
    obtain ⟨y, hy, rfl⟩ := hu
    obtain ⟨b2, o2, e2, hcy⟩ := hW j y hy
    cases e2
    rw [Go.WideShapes.add_plain]
    exact hcy
  have HX := hide hX
  clear hok h hI hx hL hl hX hlen hc
  go_enter Tryz.func72, Tryz.ntmps72
  go_wp2_with fail
  obtain ⟨w0, hw0⟩ : ∃ w0, w0 = (w.alloc (.cells #[.slice a n c, .slice (some ⟨b1, o1, none⟩) mn mc, .int .i64 seq, .int .i64 o] 29)).alloc (.cells #[.slice none 0 0, .slice none 0 0, .int .i64 0, .int .i64 0] 29) := ⟨_, rfl⟩
  have hs0 : w0.heap.size = w.heap.size + 1 + 1 := by rw [hw0]; simp
  have hB0 : Below w.heap.size w w0 := by rw [hw0]; exact ((Below.refl _ w).alloc (Nat.le_refl _) _).alloc (by simp) _
  have hx0 : ∀ i, w0.cell? ⟨w.heap.size, i, none⟩ = (#[Value.slice a n c, .slice (some ⟨b1, o1, none⟩) mn mc, .int .i64 seq, .int .i64 o])[i]? := fun i => by
    rw [hw0, cell_alloc_lt _ _ _ _ (by simp)]
    simp
  have hr0 : w0.heap[w.heap.size + 1]? = some (.cells #[.slice none 0 0, .slice none 0 0, .int .i64 0, .int .i64 0] 29 (0, 0)) := by rw [hw0]; exact heap_alloc2_new _ _ _
  rw [← hw0]
  have c0 := hx0 0
  have c1 := hx0 1
  have c2 := hx0 2
  have c3 := hx0 3
  simp at c0 c1 c2 c3
  have HA0 := hide ((unhide HA).below hB0 (Nat.le_refl _))
  have HI0 := hide ((unhide HI).below hB0 (Nat.le_refl _))
  have HS0 := hide hs0
  have hsl : w.heap.size + 1 < w0.heap.size := by omega
  have HLC : Hid (∀ W, Below w0.heap.size w0 W → Calls Tryz.prog 94 #[.agg #[.slice a n c]] W fun e w' => ∃ a2 c2 Q C, e = .returned (.agg #[.slice a2 n c2]) ∧ SpecBlocks w' 108 51 (W.heap.size + 3) (.slice a2 n c2) Q C bs ∧ Below W.heap.size W w') := fun W hW =>
    (l1Copy_any a c bs n (unhide HLB) (unhide HCH) W ((unhide HA0).below hW (Nat.le_refl _))).mono fun e w' ⟨v, Q, C, he, hS, hB⟩ => by
      obtain ⟨a2, c2, rfl, hA2⟩ := hS.form
      rw [unhide HLB] at he hS
      exact ⟨a2, c2, Q, C, he, hS, hB⟩
  have HBD : Hid (Below w0.heap.size w0 w0.drew) := (Below.refl _ _).drew
  have HBL : Hid (Below w0.heap.size w0 (w0.alloc (.cells #[] 2)).drew) := ((Below.refl w0.heap.size w0).alloc (Nat.le_refl _) _).drew
  have HZL : Hid (∀ W : World, w0.heap.size ≤ W.heap.size → (W.alloc (.cells #[] 2)).ownsRow w0.heap.size 2 1 (.slice (some ⟨W.heap.size, 0, none⟩) 0 0) 0 []) := fun W hW => by
    have := World.ownsRow_lit (base := w0.heap.size) (e := 2) (size := 1) W #[] 0 hW (by unfold maxLen; omega) rfl
    simpa using this
  have HZR : Hid (∀ W, Below w0.heap.size w0 W → (∀ i, W.cell? ⟨w.heap.size + 1, i, none⟩ = (#[Value.slice none 0 0, .slice none 0 0, .int .i64 0, .int .i64 0])[i]?) ∧ ∀ i, W.frozen? ⟨w.heap.size + 1, i, none⟩ = false) := fun W hW => by
    have hr := (hW.block (w.heap.size + 1) hsl).trans hr0
    exact ⟨fun i => cell_of_row _ _ i _ _ _ hr, fun i => frozen_of_row _ _ i _ _ hr⟩
  have HZD : Hid ((w0.alloc (.cells #[] 2)).drew.ownsRow w0.heap.size 2 1 (.slice (some ⟨w0.heap.size, 0, none⟩) 0 0) 0 []) := unhide HZL w0 (Nat.le_refl _)
  clear hw0 hx0 hs0 hr0
  go_region_held3 (fun W => ∀ b o, b < w.heap.size + 1 → W.cell? ⟨b, o, none⟩ = w0.cell? ⟨b, o, none⟩)
    (first
      | (intro b o hb; rw [World.cell?_setCell_other _ _ _ _ (by simp <;> omega), World.cell?_setCell_other _ _ _ _ (by simp <;> omega), World.cell?_setCell_other _ _ _ _ (by simp <;> omega), World.cell?_setCell_other _ _ _ _ (by simp <;> omega)]; exact (unhide HBF).cell (p := ⟨b, o, none⟩) (by show b < _; omega))
      | (intro b o hb; rw [cell_drew]; done)
      | (intro b o hb; rw [cell_drew, cell_alloc_lt _ _ _ _ (by omega)])
      | (intro b o hb; rw [cell_alloc_lt _ _ _ _ (by omega)]; exact (unhide HBC).cell (p := ⟨b, o, none⟩) (by show b < _; omega))
      | (intro b o hb; exact (unhide HBF).cell (p := ⟨b, o, none⟩) (by show b < _; omega))
      | (intro b o hb; exact (unhide HBC).cell (p := ⟨b, o, none⟩) (by show b < _; omega)))
    (first
      | (go_at_call 94
         refine (unhide HLC _ (unhide HBD)).mono ?_
         rintro e wC ⟨a2, c2, Q, C, rfl, hSC, hBC⟩
         have HBC := hide ((unhide HBD).trans hBC)
         have hsC := (unhide HBC).size
         have HRA := hide (unhide HZL wC hsC)
         have HWA := hide ((unhide HBC).alloc (unhide HBC).size (.cells #[] 2))
         have HSE : Hid (∀ wF, (wC.alloc (.cells #[] 2)).grownBy wF (some wC.heap.size) → SpecBlocks wF 108 51 (w0.heap.size + 3) (.slice a2 n c2) Q C bs) := fun wF hg => hSC.kept (Below.grown ((Below.refl wC.heap.size wC).alloc (Nat.le_refl _) _) hg (by simp) (fun j e => by cases e; exact Nat.le_refl _))
         clear hSC hBC)
      | (go_at_call 94
         refine (unhide HLC _ (unhide HBL)).mono ?_
         rintro e wC ⟨a2, c2, Q, C, rfl, hSC, hBC⟩
         have HBC := hide ((unhide HBL).trans (hBC.mono (unhide HBL).size))
         have hsC := (unhide HBC).size
         have HSE : Hid (∀ wF, wC.grownBy wF (some w0.heap.size) → SpecBlocks wF 108 51 ((w0.alloc (.cells #[] 2)).drew.heap.size + 3) (.slice a2 n c2) Q C bs) := fun wF hg => hSC.grown hg (by show w0.heap.size < (w0.alloc (.cells #[] 2)).heap.size + 3; simp; omega)
         have HRA : Hid (wC.ownsRow w0.heap.size 2 1 (.slice (some ⟨w0.heap.size, 0, none⟩) 0 0) 0 []) := OwnInts.kept (L := []) (unhide HZD) hBC
         have HWA := HBC
         clear hSC hBC)
      | (go_at_call 94
         refine (unhide HLC _ (unhide HBA)).mono ?_
         rintro e wF ⟨a2, c2, Q, C, rfl, hSC, hBC⟩
         have HBF := hide ((unhide HBA).trans (hBC.mono (unhide HBA).size))
         have HAF : Hid (∃ base, w.heap.size + 1 < base ∧ SpecBlocks wF 108 51 base (.slice a2 n c2) Q C bs) := ⟨_, by have := (unhide HBA).size; omega, hSC⟩
         have HIF := hide ((unhide HIA).kept hBC)
         obtain ⟨hzc, hzf⟩ := unhide HZR wF (unhide HBF)
         have z0 := hzc 0
         have z1 := hzc 1
         have z2 := hzc 2
         have z3 := hzc 3
         simp at z0 z1 z2 z3
         have f0 := hzf 0
         have f1 := hzf 1
         have f2 := hzf 2
         have f3 := hzf 3
         clear hSC hBC hzc hzf hX1 hXl HXN hi hz0 hz1 hz2 HLC HZL HZR)
      | (refine step_append_lies _ rfl (.tmp 6) (.tmp 8) 27 rfl w0.heap.size 2 i0 _ 1 8 Tryz.underlying27 hi hz0 hz1 hz2 rfl (by decide) _ 0 [] (by simp [Act.eval]) (unhide HZD) ⟨b1, o1, none⟩ mn mc X (by simp [Act.eval]) hXl (unhide HXN _ ((unhide HI0).below (unhide HBL) (Nat.le_refl _))) hX1 (by omega) (by unfold maxLen; omega) (by omega) (unhide HBL).size _ rfl ?_
         intro g1 cap wA hown hgrow hat hlt1
         have HIA : Hid (OwnInts wA 2 w0.heap.size (.slice (some ⟨g1, 0, none⟩) (0 + mn) cap) L) := by refine hide ?_; unfold OwnInts; rw [unhide HL, ← unhide HX]; simpa using hown
         have HBA : Hid (Below w0.heap.size w0 wA) := Below.grown (unhide HBL) hgrow (by simp) (fun j e => by simp [Value.ownBlock] at e; omega)
         have HBC := HBA
         clear hown hgrow hat)
      | (refine step_append_lies _ rfl (.tmp 6) (.tmp 8) 27 rfl w0.heap.size 2 i0 _ 1 8 Tryz.underlying27 hi hz0 hz1 hz2 rfl (by decide) _ 0 [] (by simp [Act.eval]) (unhide HRA) ⟨b1, o1, none⟩ mn mc X (by simp [Act.eval]) hXl (unhide HXN _ ((unhide HI0).below (unhide HWA) (Nat.le_refl _))) hX1 (by omega) (by unfold maxLen; omega) (by omega) (unhide HWA).size _ rfl ?_
         intro g1 cap wF hown hgrow hat hlt1
         have HIF : Hid (OwnInts wF 2 w0.heap.size (.slice (some ⟨g1, 0, none⟩) (0 + mn) cap) L) := by refine hide ?_; unfold OwnInts; rw [unhide HL, ← unhide HX]; simpa using hown
         have HBF : Hid (Below w0.heap.size w0 wF) := Below.grown (unhide HWA) hgrow (by have := (unhide HWA).size; omega) (fun j e => ((unhide HRA).lt j e).1)
         have HAF : Hid (∃ base, w.heap.size + 1 < base ∧ SpecBlocks wF 108 51 base (.slice a2 n c2) Q C bs) := ⟨_, by first | omega | (show _ < (w0.alloc (.cells #[] 2)).heap.size + 3; simp; omega), unhide HSE wF hgrow⟩
         obtain ⟨hzc, hzf⟩ := unhide HZR wF (unhide HBF)
         have z0 := hzc 0
         have z1 := hzc 1
         have z2 := hzc 2
         have z3 := hzc 3
         simp at z0 z1 z2 z3
         have f0 := hzf 0
         have f1 := hzf 1
         have f2 := hzf 2
         have f3 := hzf 3
         clear hown hgrow hat hzc hzf hX1 hXl HXN hi hz0 hz1 hz2 HLC HZL HZR))
  all_goals (
    obtain ⟨base, hbase, hSF⟩ := unhide HAF
    have hB5 := (((((unhide HBF).mono (show w.heap.size + 1 ≤ w0.heap.size by omega)).setCell (show w.heap.size + 1 ≤ (⟨w.heap.size + 1, 0, none⟩ : Addr).block from Nat.le_refl _) (.slice a2 n c2)).setCell (show w.heap.size + 1 ≤ (⟨w.heap.size + 1, 1, none⟩ : Addr).block from Nat.le_refl _) (.slice (some ⟨g1, 0, none⟩) mn cap)).setCell (show w.heap.size + 1 ≤ (⟨w.heap.size + 1, 2, none⟩ : Addr).block from Nat.le_refl _) (.int .i64 seq)).setCell (show w.heap.size + 1 ≤ (⟨w.heap.size + 1, 3, none⟩ : Addr).block from Nat.le_refl _) (.int .i64 o)
    have hS5 := (((hSF.setLow (a := ⟨w.heap.size + 1, 0, none⟩) hbase (.slice a2 n c2)).setLow (a := ⟨w.heap.size + 1, 1, none⟩) hbase (.slice (some ⟨g1, 0, none⟩) mn cap)).setLow (a := ⟨w.heap.size + 1, 2, none⟩) hbase (.int .i64 seq)).setLow (a := ⟨w.heap.size + 1, 3, none⟩) hbase (.int .i64 o)
    have hI5 := ownsRow_setCell_below (ownsRow_setCell_below (ownsRow_setCell_below (ownsRow_setCell_below (unhide HIF) (a := ⟨w.heap.size + 1, 0, none⟩) hsl (.slice a2 n c2)) (a := ⟨w.heap.size + 1, 1, none⟩) hsl (.slice (some ⟨g1, 0, none⟩) mn cap)) (a := ⟨w.heap.size + 1, 2, none⟩) hsl (.int .i64 seq)) (a := ⟨w.heap.size + 1, 3, none⟩) hsl (.int .i64 o)
    obtain ⟨W5, hW5⟩ : ∃ W5, W5 = (((wF.setCell ⟨w.heap.size + 1, 0, none⟩ (.slice a2 n c2)).setCell ⟨w.heap.size + 1, 1, none⟩ (.slice (some ⟨g1, 0, none⟩) mn cap)).setCell ⟨w.heap.size + 1, 2, none⟩ (.int .i64 seq)).setCell ⟨w.heap.size + 1, 3, none⟩ (.int .i64 o) := ⟨_, rfl⟩
    have y0 : W5.cell? ⟨w.heap.size + 1, 0, none⟩ = some (.slice a2 n c2) := by rw [hW5, World.cell?_setCell_other _ _ _ _ (by simp), World.cell?_setCell_other _ _ _ _ (by simp), World.cell?_setCell_other _ _ _ _ (by simp), World.cell?_setCell_same' _ _ _ (by rw [z0]; rfl)]
    have y1 : W5.cell? ⟨w.heap.size + 1, 1, none⟩ = some (.slice (some ⟨g1, 0, none⟩) mn cap) := by rw [hW5, World.cell?_setCell_other _ _ _ _ (by simp), World.cell?_setCell_other _ _ _ _ (by simp), World.cell?_setCell_same' _ _ _ (by rw [World.cell?_setCell_other _ _ _ _ (by simp), z1]; rfl)]
    have y2 : W5.cell? ⟨w.heap.size + 1, 2, none⟩ = some (.int .i64 seq) := by rw [hW5, World.cell?_setCell_other _ _ _ _ (by simp), World.cell?_setCell_same' _ _ _ (by rw [World.cell?_setCell_other _ _ _ _ (by simp), World.cell?_setCell_other _ _ _ _ (by simp), z2]; rfl)]
    have y3 : W5.cell? ⟨w.heap.size + 1, 3, none⟩ = some (.int .i64 o) := by rw [hW5, World.cell?_setCell_same' _ _ _ (by rw [World.cell?_setCell_other _ _ _ _ (by simp), World.cell?_setCell_other _ _ _ _ (by simp), World.cell?_setCell_other _ _ _ _ (by simp), z3]; rfl)]
    rw [← hW5] at hB5 hS5 hI5 ⊢
    have hA5 : BlocksAt W5 a2 bs := by
      obtain ⟨a9, c9, e9, h9⟩ := hS5.form
      injection e9 with e1 _ _
      rw [e1]
      exact h9
    have hI6 : IntsAt W5 (some ⟨g1, 0, none⟩) L ∧ MineFrom W5 (some ⟨g1, 0, none⟩) mn w.heap.size := by
      obtain ⟨a9, c9, e9, h9, h8⟩ := OwnInts.form (L := L) hI5
      injection e9 with e1 _ _
      rw [unhide HL] at h8
      rw [e1]
      refine ⟨h9, ?_⟩
      rcases h8 with h8 | ⟨g, q1, q2, q3⟩
      · exact .inl h8
      · exact .inr ⟨g, q1, by omega, q3⟩
    have hWW : Below w.heap.size w W5 := hB0.trans (hB5.mono (by omega))
    have HA5 := hide hA5
    have HI6 := hide hI6
    clear hA5 hI6 hI5 hS5 hB5 hSF hW5 z0 z1 z2 z3 f0 f1 f2 f3
    go_wp2
    exact bodyPost_ret (v := .agg #[.slice a2 n c2, .slice (some ⟨g1, 0, none⟩) mn cap, .int .i64 seq, .int .i64 o]) (by simp [results, Tryz.results72, go_sem, y0, y1, y2, y3]) rfl ⟨a2, c2, _, cap, rfl, unhide HA5, (unhide HI6).1, (unhide HI6).2, hWW⟩)
end Go.Proofs.YtjgcjeaplckbbaaGreat

/- The block that is emptied, as plain lists say it. No program is named here. -/
namespace Go.Proofs.YtjgcjeaplckbbaaGreat
open Go.RowKit
set_option linter.unusedVariables false
set_option linter.unusedSimpArgs false

def wearAt (bs : List Bk) (i : Int) : Int := (bs[i.toNat]?.map (·.wear)).getD 0
theorem wearAt_of {bs : List Bk} {k : Nat} {x : Bk} (hx : bs[k]? = some x) : wearAt bs (k : Int) = x.wear := by simp [wearAt, hx]
/-- Is block i, of the wear x, to be emptied rather than best? -/
def beats (bs : List Bk) (L : List Int) (best : Int) (i : Int) (x : Int) : Bool :=
  decide (best < 0) || decide (validIn L i < validIn L best) || (decide (validIn L i = validIn L best) && decide (x < wearAt bs best))
theorem beats_neg {bs : List Bk} {L : List Int} {best i x : Int} (h : best < 0) : beats bs L best i x = true := by simp [beats, h]
theorem beats_few {bs : List Bk} {L : List Int} {best i x : Int} (h : validIn L i < validIn L best) : beats bs L best i x = true := by simp [beats, h]
theorem beats_wear {bs : List Bk} {L : List Int} {best i x y : Int} (h : validIn L i = validIn L best) (hy : wearAt bs best = y) (hw : x < y) : beats bs L best i x = true := by simp [beats, h, hy, hw]
theorem beats_worn {bs : List Bk} {L : List Int} {best i x y : Int} (h0 : 0 ≤ best) (h : validIn L i = validIn L best) (hy : wearAt bs best = y) (hw : y ≤ x) : beats bs L best i x = false := by
  have h1 : ¬ best < 0 := by omega
  have h2 : ¬ x < y := by omega
  simp [beats, h, hy, h1, h2]
theorem beats_more {bs : List Bk} {L : List Int} {best i x : Int} (h0 : 0 ≤ best) (h : validIn L best < validIn L i) : beats bs L best i x = false := by
  have h1 : ¬ best < 0 := by omega
  have h2 : ¬ validIn L i < validIn L best := by omega
  have h3 : ¬ validIn L i = validIn L best := by omega
  simp [beats, h1, h2, h3]
def vicStep (bs : List Bk) (L : List Int) (o : Int) (best : Int) (i : Nat) : Int :=
  match bs[i]? with
  | none => best
  | some x => if (i : Int) = o ∨ fullB x = false then best else if beats bs L best (i : Int) x.wear = true then (i : Int) else best
def vicTo (bs : List Bk) (L : List Int) (o : Int) (k : Nat) : Int := (List.range k).foldl (vicStep bs L o) (-1)
theorem vicTo_succ (bs : List Bk) (L : List Int) (o : Int) (k : Nat) : vicTo bs L o (k + 1) = vicStep bs L o (vicTo bs L o k) k := by simp [vicTo, List.range_succ]
theorem vicTo_bounds (bs : List Bk) (L : List Int) (o : Int) (k : Nat) : -1 ≤ vicTo bs L o k ∧ vicTo bs L o k < (k : Int) := by
  induction k with
  | zero => exact ⟨Int.le_refl _, by show (-1 : Int) < 0; decide⟩
  | succ k ih =>
    rw [vicTo_succ]
    unfold vicStep
    split
    · omega
    · split
      · omega
      · split <;> omega
theorem vicTo_skip {bs : List Bk} {L : List Int} {o : Int} {k : Nat} {x : Bk} (hx : bs[k]? = some x) (h : (k : Int) = o ∨ fullB x = false) : vicTo bs L o (k + 1) = vicTo bs L o k := by
  rw [vicTo_succ]; unfold vicStep; rw [hx]; simp only; rw [if_pos h]
theorem vicTo_take {bs : List Bk} {L : List Int} {o : Int} {k : Nat} {x : Bk} (hx : bs[k]? = some x) (h1 : (k : Int) ≠ o) (h2 : fullB x = true) (hb : beats bs L (vicTo bs L o k) (k : Int) x.wear = true) : vicTo bs L o (k + 1) = (k : Int) := by
  rw [vicTo_succ]; unfold vicStep; rw [hx]; simp only; rw [if_neg (by rw [h2]; simp [h1]), if_pos hb]
theorem vicTo_keep {bs : List Bk} {L : List Int} {o : Int} {k : Nat} {x : Bk} (hx : bs[k]? = some x) (h1 : (k : Int) ≠ o) (h2 : fullB x = true) (hb : beats bs L (vicTo bs L o k) (k : Int) x.wear = false) : vicTo bs L o (k + 1) = vicTo bs L o k := by
  rw [vicTo_succ]; unfold vicStep; rw [hx]; simp only; rw [if_neg (by rw [h2]; simp [h1]), if_neg (by rw [hb]; simp)]
/-- The victim of a member. -/
def vicOf (bs : List Bk) (L : List Int) (o : Int) : Int := vicTo bs L o bs.length

/-- What VictimOf answers. -/
def VictimIs (bs : List Bk) (L : List Int) (seq o r : Int) : Prop := (FtlOk bs L seq o ∧ r = vicOf bs L o) ∨ (¬ FtlOk bs L seq o ∧ r = -1)
theorem VictimIs.one {bs : List Bk} {L : List Int} {seq o r s : Int} (h : VictimIs bs L seq o r) (k : VictimIs bs L seq o s) : r = s := by
  rcases h with ⟨h1, rfl⟩ | ⟨h1, rfl⟩
  · rcases k with ⟨_, rfl⟩ | ⟨k1, _⟩
    · rfl
    · exact absurd h1 k1
  · rcases k with ⟨k1, _⟩ | ⟨_, rfl⟩
    · exact absurd k1 h1
    · rfl
end Go.Proofs.YtjgcjeaplckbbaaGreat
