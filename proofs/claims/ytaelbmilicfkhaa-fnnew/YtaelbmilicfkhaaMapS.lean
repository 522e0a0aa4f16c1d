/- The model's map of the newest pages. -/
import Derived.Test.YtaelbmilicfkhaaMapP
import Derived.Test.YtaelbmilicfkhaaRoomF
import Derived.Test.YtaelbmilicfkhaaFreeS
import Derived.BigQuiet
namespace Go.Proofs.Ytaelbmilicfkhaa
open Go.RowKit
set_option linter.unusedVariables false
set_option linter.unusedSimpArgs false

theorem ints_set (L : List Int) (j : Nat) (x : Int) : (ints L).set j (.int .i64 x) = ints (L.set j x) := by simp [ints, List.map_set]
theorem OwnInts.lower {w : World} {t : TypeId} {B B' : Nat} {v : Value} {L : List Int} (h : OwnInts w t B v L) (hB : B' ≤ B) : OwnInts w t B' v L := by
  obtain ⟨q1, q2⟩ := h
  refine ⟨q1, ?_⟩
  rcases q2 with q | ⟨g, cap, cur, e1, e2, e3⟩
  · exact .inl q
  · exact .inr ⟨g, cap, cur, e1, by omega, e3⟩

theorem Below.drewN {B : Nat} {a w : World} (h : Below B a w) (n : Nat) : Below B a (w.drewN n) := ⟨h.os, h.tape, h.output, h.size, h.block⟩

/-- A map and whether there is one have been answered, in a row of its own from block B on. -/
def MapRet (bs : List Bk) (t : TypeId) (B : Nat) (e : Ending) (w' : World) : Prop := ∃ (v : Value) (r : Bool) (L : List Int), e = .returned (.tuple #[v, .bool r]) ∧ MapIs bs r L ∧ OwnInts w' t B v L

set_option maxRecDepth 100000 in
set_option maxHeartbeats 4000000 in
set_option pp.deepTerms true in
set_option pp.maxSteps 100000 in
theorem l2Map_any (a : Option Addr) (c : Nat) (bs : List Bk) (n : Nat) (hl : bs.length = n) (hok : ChipOk bs) (w : World) (h : BlocksAt w a bs) :
    Calls Try.prog 52 #[.agg #[.slice a n c]] w fun e w' => MapRet bs 2 (w.heap.size + 1) e w' ∧ Below w.heap.size w w' := by
  have hn12 : 4 ≤ n ∧ n ≤ 12 := by have := hok.count; omega
  obtain ⟨room, hroom⟩ : ∃ room, room = roomOf bs := ⟨_, rfl⟩
  have hroomN : room = 4 * (n - 3) := by rw [hroom]; unfold roomOf; rw [hl]
  have hri : roomI (n : Int) = (room : Int) := by rw [roomI_in (by omega), hroomN]; omega
  have hr36 : room ≤ 36 := by omega
  have hr4 : 4 ≤ room := by omega
  have HRM := hide hroom
  have HRN := hide hroomN
  clear hroom hroomN
  go_enter Try.func52, Try.ntmps52
  go_wp2_with fail
  refine (specRoomFor_any _ _).mono ?_
  rintro e w1 ⟨rfl, rfl⟩
  rw [hri]
  clear hri
  go_wp2
  go_loopw [5, 6] (fun v i wr => ∃ k : Nat, k ≤ room ∧ i = .int .i64 k ∧ OwnInts wr 2 (w.heap.size + 1) v (List.replicate k (-1)) ∧ Below (w.heap.size + 1) (w.alloc (.cells #[.slice a n c] 27)) wr) (fun _ i _ => room - (intOf i).toNat)
  case atStart =>
    refine ⟨0, Nat.zero_le _, rfl, ?_, ?_⟩
    · have := World.ownsRow_lit (base := w.heap.size + 1) (e := 2) (size := 1) (w.alloc (.cells #[.slice a n c] 27)) #[] 0 (by simp) (by unfold maxLen; omega) rfl
      simpa [OwnInts, ints] using this
    · exact (Below.refl _ _).alloc (by simp) _
  case round =>
    obtain ⟨k, hk, rfl, hO, hB⟩ := hrel
    have hsz := hB.size
    simp at hsz
    by_cases hlt : k < room
    · obtain ⟨i0, hi, hz0, hz1, hz2⟩ := info_parts infoInt64
      obtain ⟨X, hX⟩ : ∃ X, X = ints (List.replicate k (-1)) := ⟨_, rfl⟩
      have hR : wr.ownsRow (w.heap.size + 1) 2 1 u5 k X := by rw [hX]; have := hO; unfold OwnInts at this; rw [List.length_replicate] at this; exact this
      have HX := hide hX
      clear hX hO
      go_wp2_with (refine wpList_append_lies _ rfl (.tmp 21) (.tmp 22) 30 rfl (w.heap.size + 1) 2 i0 _ 1 8 Try.underlying30 hi hz0 hz1 hz2 rfl (by decide) u5 k X (by simp [Act.eval]) (by exact hR.alloc _) ⟨wr.heap.size, 0, none⟩ 1 1 [.int .i64 (-1)] (by simp [Act.eval]) rfl (World.news_of_block (cs := #[.int .i64 (-1)]) (t := 2) (fr := (0, 0)) (by exact Go.Deep.blk_alloc_new _ _)) (by simp [Value.oneCell']) (by omega) (by unfold maxLen; omega) (by omega) (by simp; omega) (wr.heap.size + 1) (by simp) ?_; intro g1 cap w2 hown hgrow hat hlt1)
      go_roundw
      case rel =>
        refine ⟨k + 1, by omega, by go_num, ?_, ?_⟩
        · rw [unhide HX] at hown
          unfold OwnInts
          rw [List.length_replicate]
          rw [show ints (List.replicate (k + 1) (-1)) = ints (List.replicate k (-1)) ++ [.int .i64 (-1)] by simp [ints, List.replicate_succ']]
          exact hown
        · refine Below.grown (hB.alloc (by omega) _) hgrow (by simp; omega) (fun j e => ?_)
          exact (hR.lt j e).1
      case measure => simp [intOf]; omega
    · have hk' : k = room := by omega
      subst hk'
      have hform : ∃ g cap, u5 = .slice (some ⟨g, 0, none⟩) k cap := by
        unfold OwnInts at hO
        rw [List.length_replicate] at hO
        rcases hO.2 with ⟨_, h0⟩ | ⟨g, cap, cur, e1, _⟩
        · omega
        · exact ⟨g, cap, e1⟩
      obtain ⟨g, cap, rfl⟩ := hform
      have hg := (hO.lt g rfl).1
      have hO' : wr.ownsRow (w.heap.size + 1) 2 1 (.slice (some ⟨g, 0, none⟩) k cap) k (ints (placesOf [] k)) := by
        rw [placesOf_nil]
        unfold OwnInts at hO
        rw [List.length_replicate] at hO
        exact hO
      have HO := hide hO'
      have HB := hide hB
      clear hO hO' hB
      obtain ⟨room, rfl⟩ : ∃ room, room = k := ⟨_, rfl⟩
      go_wp2
      go_loopw [7] (fun i wr => ∃ b : Nat, b ≤ n ∧ i = .int .i64 b ∧ wr.ownsRow (w.heap.size + 1) 2 1 (.slice (some ⟨g, 0, none⟩) room cap) room (ints (placesOf (usedAll (mOf bs) b) room)) ∧ (∀ x ∈ usedAll (mOf bs) b, x.2.log < (room : Int)) ∧ Below (w.heap.size + 1) (w.alloc (.cells #[.slice a n c] 27)) wr) (fun i _ => n - (intOf i).toNat)
      case atStart => exact ⟨0, Nat.zero_le _, rfl, unhide HO, fun x hx => by simp [usedAll] at hx, unhide HB⟩
      case round =>
        obtain ⟨b, hb, rfl, hR, hF, hB⟩ := hrel
        have hsz := hB.size
        simp at hsz
        have hbox : wr.cell? ⟨w.heap.size, 0, none⟩ = some (.slice a n c) := by
          rw [hB.cell (p := ⟨w.heap.size, 0, none⟩) (by simp)]
          simp
        clear HO HB
        by_cases hlt : b < n
        · have HR := hide hR
          have HF := hide hF
          clear hR hF
          go_wp2
          go_loopw [8] (fun i wr => ∃ k : Nat, k ≤ 4 ∧ i = .int .i64 k ∧ wr.ownsRow (w.heap.size + 1) 2 1 (.slice (some ⟨g, 0, none⟩) room cap) room (ints (placesOf (usedAll (mOf bs) b ++ usedB (mOf bs) b k) room)) ∧ (∀ x ∈ usedAll (mOf bs) b ++ usedB (mOf bs) b k, x.2.log < (room : Int)) ∧ Below (w.heap.size + 1) (w.alloc (.cells #[.slice a n c] 27)) wr) (fun i _ => 4 - (intOf i).toNat)
          case atStart =>
            refine ⟨0, Nat.zero_le _, rfl, ?_, ?_, hB⟩
            · simpa [usedB] using unhide HR
            · simpa [usedB] using unhide HF
          case round =>
            clear hbox HR HF hB
            obtain ⟨k, hk, rfl, hR, hF, hB⟩ := hrel
            have hsz := hB.size
            simp at hsz
            have hbox : wr.cell? ⟨w.heap.size, 0, none⟩ = some (.slice a n c) := by
              rw [hB.cell (p := ⟨w.heap.size, 0, none⟩) (by simp)]
              simp
            have hW : Below w.heap.size w wr := ((Below.refl _ w).alloc (Nat.le_refl _) _).trans (hB.mono (by omega))
            obtain ⟨x, hx⟩ := getElem?_ex (l := bs) (k := b) (by omega)
            obtain ⟨g1, o1, pa, pc, rfl, hcw, hcp, hpa⟩ := (h.below hW (Nat.le_refl _)) b x hx
            have h4 := (hok.block x (List.mem_of_getElem? hx)).four
            rw [h4] at hcp
            have hblt : g1 < wr.heap.size := World.block_lt_of_cell? _ _ hcw
            by_cases hlt2 : k < 4
            · obtain ⟨p, hp⟩ := getElem?_ex (l := x.pages) (k := k) (by omega)
              obtain ⟨g2, o2, rfl, c0, c1, c2, c3⟩ := hpa k p hp
              have hplt : g2 < wr.heap.size := World.block_lt_of_cell? _ _ c0
              have hpg := mOf_page hx hp
              have hsu := usedB_succ (mOf bs) b k
              rw [hpg] at hsu
              have hpok := (hok.block x (List.mem_of_getElem? hx)).page k p hp
              obtain ⟨u, lg, s, d⟩ := p
              simp only at c0 c1 c2 c3 hsu
              have HR := hide hR
              have HF := hide hF
              have HU := hide hsu
              have HM := hide hpg
              clear hR hF hsu hpg hcw
              cases u with
              | false =>
                clear hpok
                go_wp2
                go_roundw
                case rel =>
                  refine ⟨k + 1, by omega, by go_num, ?_, ?_, hB.alloc (by omega) _⟩
                  · rw [unhide HU]; simp only [Bool.false_eq_true, if_false, List.append_nil]; exact (unhide HR).alloc _
                  · rw [unhide HU]; simp only [Bool.false_eq_true, if_false, List.append_nil]; exact unhide HF
                case measure => simp [intOf]; omega
              | true =>
                simp only [pgOk, if_true, rightUsed, Bool.and_eq_true, decide_eq_true_eq, Bool.true_and] at hpok
                obtain ⟨⟨⟨h1, h2⟩, h3, h5⟩, h6⟩ := hpok
                clear h6
                obtain ⟨l, rfl⟩ : ∃ l : Nat, lg = (l : Int) := ⟨lg.toNat, by omega⟩
                by_cases hlog : l < room
                · have hlog' : (l : Int) < (room : Int) := by omega
                  obtain ⟨xs, hxs⟩ : ∃ xs, xs = usedAll (mOf bs) b ++ usedB (mOf bs) b k := ⟨_, rfl⟩
                  have hR := unhide HR
                  have hF := unhide HF
                  have hU := unhide HU
                  rw [← hxs] at hR hF
                  have hU2 : usedAll (mOf bs) b ++ usedB (mOf bs) b (k + 1) = xs ++ [((b : Int) * 4 + (k : Int), (⟨true, (l : Int), s, d⟩ : Pg))] := by rw [hU, hxs, ← List.append_assoc]; rfl
                  have hF2 : ∀ x ∈ usedAll (mOf bs) b ++ usedB (mOf bs) b (k + 1), x.2.log < (room : Int) := by
                    rw [hU2]
                    intro x hx
                    rcases List.mem_append.1 hx with hx | hx
                    · exact hF x hx
                    · simp at hx; subst hx; exact hlog'
                  have hP2 := placesOf_snoc xs ((b : Int) * 4 + (k : Int), (⟨true, (l : Int), s, d⟩ : Pg)) room l rfl
                  rw [← hU2] at hP2
                  have hsub : ∀ y ∈ xs, y ∈ usedOf bs := fun y hy => by
                    have hpre := used_le (mOf bs) (b := b) (k := k) (n := n) hlt (by omega)
                    unfold usedOf
                    rw [hl]
                    exact hpre.subset (by rw [← hxs]; exact hy)
                  have hcell : wr.cell? ⟨g, l, none⟩ = some (.int .i64 (placeIn (newestAt xs (l : Int)))) := by
                    rw [World.ownsRow.cellAt hR l (by omega)]
                    simp only [ints, List.getElem?_map, placesOf_at xs room hlog, Option.map_some]
                  have hfr : wr.frozen? ⟨g, l, none⟩ = false := World.ownsRow.frozenAt hR l
                  have hglt : g < wr.heap.size := (World.ownsRow.lt hR g rfl).2
                  have HR := hide hR
                  have HF2 := hide hF2
                  have HP2 := hide hP2
                  have HXS := hide hxs
                  clear HF HU hR hF hU hU2 hF2 hP2 hxs
                  cases hnw : newestAt xs (l : Int) with
                  | none =>
                    rw [hnw] at hcell
                    simp only [placeIn] at hcell
                    have hne : newer (newestAt xs (l : Int)) s = true := by rw [hnw]; rfl
                    have HNE := hide hne
                    clear hnw hsub h hpa hok hne
                    go_wp2_with fail
                    go_quiet (fail)
                    go_wp2
                    go_roundw
                    case rel =>
                      refine ⟨k + 1, by omega, by go_num, ?_, unhide HF2, ?_⟩
                      · rw [unhide HP2, if_pos (unhide HNE), ← ints_set]
                        exact (World.ownsRow.stored ((unhide HR).alloc _) l (.int .i64 ((b : Int) * 4 + (k : Int)))).1
                      · exact (Below.drewN (hB.alloc (by omega) _) _).setCell (p := ⟨g, l, none⟩) hg _
                    case measure => simp [intOf]; omega
                  | some y =>
                    obtain ⟨hym, hyl⟩ := newestAt_mem hnw
                    obtain ⟨_, _, hys, _, _, b', k', y', hb', hk', hk4, hpl, _⟩ := hok.usedRight (hsub y hym)
                    rw [hnw] at hcell
                    simp only [placeIn] at hcell
                    obtain ⟨g1', o1', pa', pc', ha', hcw', hcp', hpa'⟩ := (h.below hW (Nat.le_refl _)) b' y' hb'
                    simp only [Option.some.injEq, Addr.mk.injEq, and_true] at ha'
                    obtain ⟨rfl, rfl⟩ := ha'
                    have h4' := (hok.block y' (List.mem_of_getElem? hb')).four
                    rw [h4'] at hcp'
                    obtain ⟨g2', o2', rfl, _, _, c2', _⟩ := hpa' k' y.2 hk'
                    have hplt' : g2' < wr.heap.size := World.block_lt_of_cell? _ _ c2'
                    have hbn : b' < n := by have := (List.getElem?_eq_some_iff.1 hb').1; omega
                    obtain ⟨pl, hple⟩ : ∃ pl, pl = y.1 := ⟨_, rfl⟩
                    obtain ⟨sy, hsy⟩ : ∃ sy, sy = y.2.seq := ⟨_, rfl⟩
                    rw [← hple] at hcell hpl
                    rw [← hsy] at c2'
                    have hp0 : ¬ (pl < 0) := by omega
                    have hp1 : 0 ≤ pl := by omega
                    have hq : pl / 4 = (b' : Int) := by omega
                    have hrm : pl % 4 = (k' : Int) := by omega
                    have hqt : pl.tdiv 4 = (b' : Int) := by rw [Int.tdiv_eq_ediv_of_nonneg hp1]; exact hq
                    have hrt : pl.tmod 4 = (k' : Int) := by rw [Int.tmod_eq_emod_of_nonneg hp1]; exact hrm
                    have hwb : IntKind.i64.wrap (b' : Int) = (b' : Int) := by simp [IntKind.wrap, IntKind.bits, IntKind.signed]; omega
                    have hwk : IntKind.i64.wrap (k' : Int) = (k' : Int) := by simp [IntKind.wrap, IntKind.bits, IntKind.signed]; omega
                    have hk4' : (k' : Int) < 4 := by omega
                    have hbn' : (b' : Int) < (n : Int) := by omega
                    have HPL := hide hpl
                    clear hcw' hpa' h4' hk' hpl hple h hpa hok hsub
                    have x0 : ∀ o, (wr.alloc o).cell? ⟨w.heap.size, 0, none⟩ = some (.slice (some ⟨g1, o1, none⟩) n c) := fun o => (cell_alloc_lt _ _ _ _ (by omega)).trans hbox
                    have x1 : ∀ o, (wr.alloc o).cell? ⟨g1, o1 + b' * 2 + 1, none⟩ = some (.slice (some ⟨g2', o2', none⟩) 4 pc') := fun o => (cell_alloc_lt _ _ _ _ hblt).trans hcp'
                    have x2 : ∀ o, (wr.alloc o).cell? ⟨g2', o2' + k' * 4 + 2, none⟩ = some (.int .i64 sy) := fun o => (cell_alloc_lt _ _ _ _ hplt').trans c2'
                    by_cases hlt3 : sy < s
                    · have hne : newer (newestAt xs (l : Int)) s = true := by rw [hnw]; simp [newer, ← hsy, hlt3]
                      have HNE := hide hne
                      have hdd : decide (sy < s) = true := by simpa using hlt3
                      clear hnw hne hsy
                      go_wp2_with fail
                      go_quiet (fail)
                      go_wp2
                      go_roundw
                      case rel =>
                        refine ⟨k + 1, by omega, by go_num, ?_, unhide HF2, ?_⟩
                        · rw [unhide HP2, if_pos (unhide HNE), ← ints_set]
                          exact (World.ownsRow.stored ((unhide HR).alloc _) l (.int .i64 ((b : Int) * 4 + (k : Int)))).1
                        · exact (Below.drewN (hB.alloc (by omega) _) _).setCell (p := ⟨g, l, none⟩) hg _
                      case measure => simp [intOf]; omega
                    · have hne : ¬ newer (newestAt xs (l : Int)) s = true := by rw [hnw]; simp [newer, ← hsy]; omega
                      have HNE := hide hne
                      have hdd : decide (sy < s) = false := by simpa using hlt3
                      clear hnw hne hsy
                      go_wp2_with fail
                      go_quiet (fail)
                      go_wp2
                      go_roundw
                      case rel =>
                        refine ⟨k + 1, by omega, by go_num, ?_, unhide HF2, ?_⟩
                        · rw [unhide HP2, if_neg (unhide HNE)]
                          exact (unhide HR).alloc _
                        · exact Below.drewN (hB.alloc (by omega) _) _
                      case measure => simp [intOf]; omega
                · have hlog' : (room : Int) ≤ (l : Int) := by omega
                  go_wp2
                  go_ret2
                  refine ⟨⟨_, false, [], rfl, ⟨?_, rfl⟩, World.ownsRow_nil _ _ _ _⟩, hW.alloc (by omega) _⟩
                  simp only [Bool.false_eq_true, false_iff]
                  intro hfit
                  have hmem : ((b : Int) * 4 + (k : Int), (⟨true, (l : Int), s, d⟩ : Pg)) ∈ usedOf bs := by
                    have hpre := used_le (mOf bs) (b := b) (k := k + 1) (n := n) hlt (by omega)
                    unfold usedOf
                    rw [hl]
                    refine hpre.subset ?_
                    rw [unhide HU]
                    simp
                  have := hfit _ hmem
                  rw [← unhide HRM] at this
                  simp only at this
                  omega
            · obtain rfl : k = 4 := by omega
              have HR := hide hR
              have HF := hide hF
              clear hR hF
              go_wp2
              go_roundw
              case rel =>
                refine ⟨b + 1, by omega, by go_num, ?_, ?_, hB⟩
                · rw [usedAll_succ]; exact unhide HR
                · rw [usedAll_succ]; exact unhide HF
              case measure => simp [intOf]; omega
        · obtain rfl : b = n := by omega
          have HR := hide hR
          have HF := hide hF
          clear hR hF h
          go_wp2
          go_ret2
          refine ⟨⟨_, true, _, rfl, ⟨?_, rfl⟩, ?_⟩, ((Below.refl _ w).alloc (Nat.le_refl _) _).trans (hB.mono (by omega))⟩
          · simp only [true_iff]
            intro x hx
            rw [← unhide HRM]
            unfold usedOf at hx
            rw [hl] at hx
            exact unhide HF x hx
          · simp only [if_true]
            unfold OwnInts usedOf
            rw [placesOf_length, ← unhide HRM, hl]
            exact unhide HR
end Go.Proofs.Ytaelbmilicfkhaa
