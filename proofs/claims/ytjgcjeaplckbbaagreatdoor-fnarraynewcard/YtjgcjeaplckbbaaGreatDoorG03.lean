/- 6 texts in one. -/
import Derived.Test.YtjgcjeaplckbbaaGreatDoorG02
import Derived.BigQuiet
import Derived.Test.YtjgcjeaplckbbaaGreatDoorChecked
import Derived.Test.YtjgcjeaplckbbaaGreatDoorG01
import Derived.WalkKit
import Derived.Outline

/- The model's map of the newest pages. -/
namespace Go.Proofs.YtjgcjeaplckbbaaGreatDoor
open Go.RowKit
set_option linter.unusedVariables false
set_option linter.unusedSimpArgs false

theorem ints_set (L : List Int) (j : Nat) (x : Int) : (ints L).set j (.int .i64 x) = ints (L.set j x) := by simp [ints, List.map_set]
theorem OwnInts.lower {w : World} {t : TypeId} {B B' : Nat} {v : Value} {L : List Int} (h : OwnInts w t B v L) (hB : B' ≤ B) : OwnInts w t B' v L := by
  obtain ⟨q1, q2⟩ := h
  refine ⟨q1, ?_⟩
  rcases q2 with q | ⟨g, cap, cur, e1, e2, e3⟩
  · exact .inl q
  · exact .inr ⟨g, cap, cur, e1, by omega, e3⟩

theorem Below.drewN {B : Nat} {a w : World} (h : Below B a w) (n : Nat) : Below B a (w.drewN n) := ⟨h.os, h.tape, h.output, h.size, h.block⟩

/-- A map and whether there is one have been answered, in a row of its own from block B on. -/
def MapRet (bs : List Bk) (t : TypeId) (B : Nat) (e : Ending) (w' : World) : Prop := ∃ (v : Value) (r : Bool) (L : List Int), e = .returned (.tuple #[v, .bool r]) ∧ MapIs bs r L ∧ OwnInts w' t B v L

set_option maxRecDepth 100000 in
set_option maxHeartbeats 4000000 in
set_option pp.deepTerms true in
set_option pp.maxSteps 100000 in
theorem l2Map_any (a : Option Addr) (c : Nat) (bs : List Bk) (n : Nat) (hl : bs.length = n) (hok : ChipOk bs) (w : World) (h : BlocksAt w a bs) :
    Calls Tryz.prog 106 #[.agg #[.slice a n c]] w fun e w' => MapRet bs 2 (w.heap.size + 1) e w' ∧ Below w.heap.size w w' := by
  have hn12 : 4 ≤ n ∧ n ≤ 12 := by have := hok.count; omega
  obtain ⟨room, hroom⟩ : ∃ room, room = roomOf bs := ⟨_, rfl⟩
  have hroomN : room = 4 * (n - 3) := by rw [hroom]; unfold roomOf; rw [hl]
  have hri : roomI (n : Int) = (room : Int) := by rw [roomI_in (by omega), hroomN]; omega
  have hr36 : room ≤ 36 := by omega
  have hr4 : 4 ≤ room := by omega
  have HRM := hide hroom
  have HRN := hide hroomN
  clear hroom hroomN
  go_enter Tryz.func106, Tryz.ntmps106
  go_wp2_with fail
  refine (specRoomFor_any _ _).mono ?_
  rintro e w1 ⟨rfl, rfl⟩
  rw [hri]
  clear hri
  go_wp2
  go_loopw [5, 6] (fun v i wr => ∃ k : Nat, k ≤ room ∧ i = .int .i64 k ∧ OwnInts wr 2 (w.heap.size + 1) v (List.replicate k (-1)) ∧ Below (w.heap.size + 1) (w.alloc (.cells #[.slice a n c] 51)) wr) (fun _ i _ => room - (intOf i).toNat)
  case atStart =>
    refine ⟨0, Nat.zero_le _, rfl, ?_, ?_⟩
    · have := World.ownsRow_lit (base := w.heap.size + 1) (e := 2) (size := 1) (w.alloc (.cells #[.slice a n c] 51)) #[] 0 (by simp) (by unfold maxLen; omega) rfl
      simpa [OwnInts, ints] using this
    · exact (Below.refl _ _).alloc (by simp) _
  case round =>
    obtain ⟨k, hk, rfl, hO, hB⟩ := hrel
    have hsz := hB.size
    simp at hsz
    by_cases hlt : k < room
    · obtain ⟨i0, hi, hz0, hz1, hz2⟩ := info_parts infoInt64
      obtain ⟨X, hX⟩ : ∃ X, X = ints (List.replicate k (-1)) := ⟨_, rfl⟩
      have hR : wr.ownsRow (w.heap.size + 1) 2 1 u5 k X := by rw [hX]; have := hO; unfold OwnInts at this; rw [List.length_replicate] at this; exact this
      have HX := hide hX
      clear hX hO
      go_wp2_with (refine wpList_append_lies _ rfl (.tmp 21) (.tmp 22) 24 rfl (w.heap.size + 1) 2 i0 _ 1 8 Tryz.underlying24 hi hz0 hz1 hz2 rfl (by decide) u5 k X (by simp [Act.eval]) (by exact hR.alloc _) ⟨wr.heap.size, 0, none⟩ 1 1 [.int .i64 (-1)] (by simp [Act.eval]) rfl (World.news_of_block (cs := #[.int .i64 (-1)]) (t := 2) (fr := (0, 0)) (by exact Go.Deep.blk_alloc_new _ _)) (by simp [Value.oneCell']) (by omega) (by unfold maxLen; omega) (by omega) (by simp; omega) (wr.heap.size + 1) (by simp) ?_; intro g1 cap w2 hown hgrow hat hlt1)
      go_roundw
      case rel =>
        refine ⟨k + 1, by omega, by go_num, ?_, ?_⟩
        · rw [unhide HX] at hown
          unfold OwnInts
          rw [List.length_replicate]
          rw [show ints (List.replicate (k + 1) (-1)) = ints (List.replicate k (-1)) ++ [.int .i64 (-1)] by simp [ints, List.replicate_succ']]
          exact hown
        · refine Below.grown (hB.alloc (by omega) _) hgrow (by simp; omega) (fun j e => ?_)
          exact (hR.lt j e).1
      case measure => simp [intOf]; omega
    · have hk' : k = room := by omega
      subst hk'
      have hform : ∃ g cap, u5 = .slice (some ⟨g, 0, none⟩) k cap := by
        unfold OwnInts at hO
        rw [List.length_replicate] at hO
        rcases hO.2 with ⟨_, h0⟩ | ⟨g, cap, cur, e1, _⟩
        · omega
        · exact ⟨g, cap, e1⟩
      obtain ⟨g, cap, rfl⟩ := hform
      have hg := (hO.lt g rfl).1
      have hO' : wr.ownsRow (w.heap.size + 1) 2 1 (.slice (some ⟨g, 0, none⟩) k cap) k (ints (placesOf [] k)) := by
        rw [placesOf_nil]
        unfold OwnInts at hO
        rw [List.length_replicate] at hO
        exact hO
      have HO := hide hO'
      have HB := hide hB
      clear hO hO' hB
      obtain ⟨room, rfl⟩ : ∃ room, room = k := ⟨_, rfl⟩
      go_wp2
      go_loopw [7] (fun i wr => ∃ b : Nat, b ≤ n ∧ i = .int .i64 b ∧ wr.ownsRow (w.heap.size + 1) 2 1 (.slice (some ⟨g, 0, none⟩) room cap) room (ints (placesOf (usedAll (mOf bs) b) room)) ∧ (∀ x ∈ usedAll (mOf bs) b, x.2.log < (room : Int)) ∧ Below (w.heap.size + 1) (w.alloc (.cells #[.slice a n c] 51)) wr) (fun i _ => n - (intOf i).toNat)
      case atStart => exact ⟨0, Nat.zero_le _, rfl, unhide HO, fun x hx => by simp [usedAll] at hx, unhide HB⟩
      case round =>
        obtain ⟨b, hb, rfl, hR, hF, hB⟩ := hrel
        have hsz := hB.size
        simp at hsz
        have hbox : wr.cell? ⟨w.heap.size, 0, none⟩ = some (.slice a n c) := by
          rw [hB.cell (p := ⟨w.heap.size, 0, none⟩) (by simp)]
          simp
        clear HO HB
        by_cases hlt : b < n
        · have HR := hide hR
          have HF := hide hF
          clear hR hF
          go_wp2
          go_loopw [8] (fun i wr => ∃ k : Nat, k ≤ 4 ∧ i = .int .i64 k ∧ wr.ownsRow (w.heap.size + 1) 2 1 (.slice (some ⟨g, 0, none⟩) room cap) room (ints (placesOf (usedAll (mOf bs) b ++ usedB (mOf bs) b k) room)) ∧ (∀ x ∈ usedAll (mOf bs) b ++ usedB (mOf bs) b k, x.2.log < (room : Int)) ∧ Below (w.heap.size + 1) (w.alloc (.cells #[.slice a n c] 51)) wr) (fun i _ => 4 - (intOf i).toNat)
          case atStart =>
            refine ⟨0, Nat.zero_le _, rfl, ?_, ?_, hB⟩
            · simpa [usedB] using unhide HR
            · simpa [usedB] using unhide HF
          case round =>
            clear hbox HR HF hB
            obtain ⟨k, hk, rfl, hR, hF, hB⟩ := hrel
            have hsz := hB.size
            simp at hsz
            have hbox : wr.cell? ⟨w.heap.size, 0, none⟩ = some (.slice a n c) := by
              rw [hB.cell (p := ⟨w.heap.size, 0, none⟩) (by simp)]
              simp
            have hW : Below w.heap.size w wr := ((Below.refl _ w).alloc (Nat.le_refl _) _).trans (hB.mono (by omega))
            obtain ⟨x, hx⟩ := getElem?_ex (l := bs) (k := b) (by omega)
            obtain ⟨g1, o1, pa, pc, rfl, hcw, hcp, hpa⟩ := (h.below hW (Nat.le_refl _)) b x hx
            have h4 := (hok.block x (List.mem_of_getElem? hx)).four
            rw [h4] at hcp
            have hblt : g1 < wr.heap.size := World.block_lt_of_cell? _ _ hcw
            by_cases hlt2 : k < 4
            · obtain ⟨p, hp⟩ := getElem?_ex (l := x.pages) (k := k) (by omega)
              obtain ⟨g2, o2, rfl, c0, c1, c2, c3⟩ := hpa k p hp
              have hplt : g2 < wr.heap.size := World.block_lt_of_cell? _ _ c0
              have hpg := mOf_page hx hp
              have hsu := usedB_succ (mOf bs) b k
              rw [hpg] at hsu
              have hpok := (hok.block x (List.mem_of_getElem? hx)).page k p hp
              obtain ⟨u, lg, s, d⟩ := p
              simp only at c0 c1 c2 c3 hsu
              have HR := hide hR
              have HF := hide hF
              have HU := hide hsu
              have HM := hide hpg
              clear hR hF hsu hpg hcw
              cases u with
              | false =>
                clear hpok
                go_wp2
                go_roundw
                case rel =>
                  refine ⟨k + 1, by omega, by go_num, ?_, ?_, hB.alloc (by omega) _⟩
                  · rw [unhide HU]; simp only [Bool.false_eq_true, if_false, List.append_nil]; exact (unhide HR).alloc _
                  · rw [unhide HU]; simp only [Bool.false_eq_true, if_false, List.append_nil]; exact unhide HF
                case measure => simp [intOf]; omega
              | true =>
                simp only [pgOk, if_true, rightUsed, Bool.and_eq_true, decide_eq_true_eq, Bool.true_and] at hpok
                obtain ⟨⟨⟨h1, h2⟩, h3, h5⟩, h6⟩ := hpok
                clear h6
                obtain ⟨l, rfl⟩ : ∃ l : Nat, lg = (l : Int) := ⟨lg.toNat, by omega⟩
                by_cases hlog : l < room
                · have hlog' : (l : Int) < (room : Int) := by omega
                  obtain ⟨xs, hxs⟩ : ∃ xs, xs = usedAll (mOf bs) b ++ usedB (mOf bs) b k := ⟨_, rfl⟩
                  have hR := unhide HR
                  have hF := unhide HF
                  have hU := unhide HU
                  rw [← hxs] at hR hF
                  have hU2 : usedAll (mOf bs) b ++ usedB (mOf bs) b (k + 1) = xs ++ [((b : Int) * 4 + (k : Int), (⟨true, (l : Int), s, d⟩ : Pg))] := by rw [hU, hxs, ← List.append_assoc]; rfl
                  have hF2 : ∀ x ∈ usedAll (mOf bs) b ++ usedB (mOf bs) b (k + 1), x.2.log < (room : Int) := by
                    rw [hU2]
                    intro x hx
                    rcases List.mem_append.1 hx with hx | hx
                    · exact hF x hx
                    · simp at hx; subst hx; exact hlog'
                  have hP2 := placesOf_snoc xs ((b : Int) * 4 + (k : Int), (⟨true, (l : Int), s, d⟩ : Pg)) room l rfl
                  rw [← hU2] at hP2
                  have hsub : ∀ y ∈ xs, y ∈ usedOf bs := fun y hy => by
                    have hpre := used_le (mOf bs) (b := b) (k := k) (n := n) hlt (by omega)
                    unfold usedOf
                    rw [hl]
                    exact hpre.subset (by rw [← hxs]; exact hy)
                  have hcell : wr.cell? ⟨g, l, none⟩ = some (.int .i64 (placeIn (newestAt xs (l : Int)))) := by
                    rw [World.ownsRow.cellAt hR l (by omega)]
                    simp only [ints, List.getElem?_map, placesOf_at xs room hlog, Option.map_some]
                  have hfr : wr.frozen? ⟨g, l, none⟩ = false := World.ownsRow.frozenAt hR l
                  have hglt : g < wr.heap.size := (World.ownsRow.lt hR g rfl).2
                  have HR := hide hR
                  have HF2 := hide hF2
                  have HP2 := hide hP2
                  have HXS := hide hxs
                  clear HF HU hR hF hU hU2 hF2 hP2 hxs
                  cases hnw : newestAt xs (l : Int) with
                  | none =>
                    rw [hnw] at hcell
                    simp only [placeIn] at hcell
                    have hne : newer (newestAt xs (l : Int)) s = true := by rw [hnw]; rfl
                    have HNE := hide hne
                    clear hnw hsub h hpa hok hne
                    go_wp2_with fail
                    go_quiet (fail)
                    go_wp2
                    go_roundw
                    case rel =>
                      refine ⟨k + 1, by omega, by go_num, ?_, unhide HF2, ?_⟩
                      · rw [unhide HP2, if_pos (unhide HNE), ← ints_set]
                        exact (World.ownsRow.stored ((unhide HR).alloc _) l (.int .i64 ((b : Int) * 4 + (k : Int)))).1
                      · exact (Below.drewN (hB.alloc (by omega) _) _).setCell (p := ⟨g, l, none⟩) hg _
                    case measure => simp [intOf]; omega
                  | some y =>
                    obtain ⟨hym, hyl⟩ := newestAt_mem hnw
                    obtain ⟨_, _, hys, _, _, b', k', y', hb', hk', hk4, hpl, _⟩ := hok.usedRight (hsub y hym)
                    rw [hnw] at hcell
                    simp only [placeIn] at hcell
                    obtain ⟨g1', o1', pa', pc', ha', hcw', hcp', hpa'⟩ := (h.below hW (Nat.le_refl _)) b' y' hb'
                    simp only [Option.some.injEq, Addr.mk.injEq, and_true] at ha'
                    obtain ⟨rfl, rfl⟩ := ha'
                    have h4' := (hok.block y' (List.mem_of_getElem? hb')).four
                    rw [h4'] at hcp'
                    obtain ⟨g2', o2', rfl, _, _, c2', _⟩ := hpa' k' y.2 hk'
                    have hplt' : g2' < wr.heap.size := World.block_lt_of_cell? _ _ c2'
                    have hbn : b' < n := by have := (List.getElem?_eq_some_iff.1 hb').1; omega
                    obtain ⟨pl, hple⟩ : ∃ pl, pl = y.1 := ⟨_, rfl⟩
                    obtain ⟨sy, hsy⟩ : ∃ sy, sy = y.2.seq := ⟨_, rfl⟩
                    rw [← hple] at hcell hpl
                    rw [← hsy] at c2'
                    have hp0 : ¬ (pl < 0) := by omega
                    have hp1 : 0 ≤ pl := by omega
                    have hq : pl / 4 = (b' : Int) := by omega
                    have hrm : pl % 4 = (k' : Int) := by omega
                    have hqt : pl.tdiv 4 = (b' : Int) := by rw [Int.tdiv_eq_ediv_of_nonneg hp1]; exact hq
                    have hrt : pl.tmod 4 = (k' : Int) := by rw [Int.tmod_eq_emod_of_nonneg hp1]; exact hrm
                    have hwb : IntKind.i64.wrap (b' : Int) = (b' : Int) := by simp [IntKind.wrap, IntKind.bits, IntKind.signed]; omega
                    have hwk : IntKind.i64.wrap (k' : Int) = (k' : Int) := by simp [IntKind.wrap, IntKind.bits, IntKind.signed]; omega
                    have hk4' : (k' : Int) < 4 := by omega
                    have hbn' : (b' : Int) < (n : Int) := by omega
                    have HPL := hide hpl
                    clear hcw' hpa' h4' hk' hpl hple h hpa hok hsub
                    have x0 : ∀ o, (wr.alloc o).cell? ⟨w.heap.size, 0, none⟩ = some (.slice (some ⟨g1, o1, none⟩) n c) := fun o => (cell_alloc_lt _ _ _ _ (by omega)).trans hbox
                    have x1 : ∀ o, (wr.alloc o).cell? ⟨g1, o1 + b' * 2 + 1, none⟩ = some (.slice (some ⟨g2', o2', none⟩) 4 pc') := fun o => (cell_alloc_lt _ _ _ _ hblt).trans hcp'
                    have x2 : ∀ o, (wr.alloc o).cell? ⟨g2', o2' + k' * 4 + 2, none⟩ = some (.int .i64 sy) := fun o => (cell_alloc_lt _ _ _ _ hplt').trans c2'
                    by_cases hlt3 : sy < s
                    · have hne : newer (newestAt xs (l : Int)) s = true := by rw [hnw]; simp [newer, ← hsy, hlt3]
                      have HNE := hide hne
                      have hdd : decide (sy < s) = true := by simpa using hlt3
                      clear hnw hne hsy
                      go_wp2_with fail
                      go_quiet (fail)
                      go_wp2
                      go_roundw
                      case rel =>
                        refine ⟨k + 1, by omega, by go_num, ?_, unhide HF2, ?_⟩
                        · rw [unhide HP2, if_pos (unhide HNE), ← ints_set]
                          exact (World.ownsRow.stored ((unhide HR).alloc _) l (.int .i64 ((b : Int) * 4 + (k : Int)))).1
                        · exact (Below.drewN (hB.alloc (by omega) _) _).setCell (p := ⟨g, l, none⟩) hg _
                      case measure => simp [intOf]; omega
                    · have hne : ¬ newer (newestAt xs (l : Int)) s = true := by rw [hnw]; simp [newer, ← hsy]; omega
                      have HNE := hide hne
                      have hdd : decide (sy < s) = false := by simpa using hlt3
                      clear hnw hne hsy
                      go_wp2_with fail
                      go_quiet (fail)
                      go_wp2
                      go_roundw
                      case rel =>
                        refine ⟨k + 1, by omega, by go_num, ?_, unhide HF2, ?_⟩
                        · rw [unhide HP2, if_neg (unhide HNE)]
                          exact (unhide HR).alloc _
                        · exact Below.drewN (hB.alloc (by omega) _) _
                      case measure => simp [intOf]; omega
                · have hlog' : (room : Int) ≤ (l : Int) := by omega
                  go_wp2
                  go_ret2
                  refine ⟨⟨_, false, [], rfl, ⟨?_, rfl⟩, World.ownsRow_nil _ _ _ _⟩, hW.alloc (by omega) _⟩
                  simp only [Bool.false_eq_true, false_iff]
                  intro hfit
                  have hmem : ((b : Int) * 4 + (k : Int), (⟨true, (l : Int), s, d⟩ : Pg)) ∈ usedOf bs := by
                    have hpre := used_le (mOf bs) (b := b) (k := k + 1) (n := n) hlt (by omega)
                    unfold usedOf
                    rw [hl]
                    refine hpre.subset ?_
                    rw [unhide HU]
                    simp
                  have := hfit _ hmem
                  rw [← unhide HRM] at this
                  simp only at this
                  omega
            · obtain rfl : k = 4 := by omega
              have HR := hide hR
              have HF := hide hF
              clear hR hF
              go_wp2
              go_roundw
              case rel =>
                refine ⟨b + 1, by omega, by go_num, ?_, ?_, hB⟩
                · rw [usedAll_succ]; exact unhide HR
                · rw [usedAll_succ]; exact unhide HF
              case measure => simp [intOf]; omega
        · obtain rfl : b = n := by omega
          have HR := hide hR
          have HF := hide hF
          clear hR hF h
          go_wp2
          go_ret2
          refine ⟨⟨_, true, _, rfl, ⟨?_, rfl⟩, ?_⟩, ((Below.refl _ w).alloc (Nat.le_refl _) _).trans (hB.mono (by omega))⟩
          · simp only [true_iff]
            intro x hx
            rw [← unhide HRM]
            unfold usedOf at hx
            rw [hl] at hx
            exact unhide HF x hx
          · simp only [if_true]
            unfold OwnInts usedOf
            rw [placesOf_length, ← unhide HRM, hl]
            exact unhide HR
end Go.Proofs.YtjgcjeaplckbbaaGreatDoor

/- Lists of int64: the laws' own copy and comparison. -/
namespace Go.Proofs.YtjgcjeaplckbbaaGreatDoor
open Go.RowKit
set_option linter.unusedVariables false
set_option linter.unusedSimpArgs false

set_option maxHeartbeats 1000000 in
theorem eqInt64S_same (a1 a2 : Option Addr) (c1 c2 : Nat) (L : List Int) (n : Nat) (hl : L.length = n) (w : World) (h1 : IntsAt w a1 L) (h2 : IntsAt w a2 L) (hn : n ≤ 1048576) :
    Calls Tryz.prog 94 #[.slice a1 n c1, .slice a2 n c2] w fun e w' => e = .returned (.bool true) ∧ Below w.heap.size w w' := by
  go_enter Tryz.func94, Tryz.ntmps94
  go_wp2
  go_loopw [5] (fun i wr => ∃ k : Nat, k ≤ n ∧ i = .int .i64 k ∧ Below w.heap.size w wr) (fun i _ => n - (intOf i).toNat)
  case atStart => exact ⟨0, Nat.zero_le _, rfl, Below.refl _ _⟩
  case round =>
    obtain ⟨k, hk, rfl, hB⟩ := hrel
    by_cases hlt : k < n
    · obtain ⟨x, hx⟩ := getElem?_ex (l := L) (k := k) (by omega)
      obtain ⟨b1, o1, rfl, g1⟩ := (h1.below hB (Nat.le_refl _)) k x hx
      obtain ⟨b2, o2, rfl, g2⟩ := (h2.below hB (Nat.le_refl _)) k x hx
      have hne : (x != x) = false := by simp
      clear hx h1 h2 hl
      go_wp2
      go_region
      all_goals (
        go_wp2
        go_roundw
        case rel => exact ⟨k + 1, by omega, by go_num, hB.drew⟩
        case measure => simp [intOf]; omega)
    · go_wp2
      go_ret
      exact ⟨rfl, hB⟩

theorem infoInt : (Tryz.prog.info? 2).map (fun i => (i.zero, i.size, i.bytes)) = some (some (.int .i64 0), 1, 8) := by kernel_rfl

theorem make_ints (n : Nat) (hn : n ≤ 1048576) (w : World) :
    (Instr.makeSlice 24 (.int .i64 (n : Int)) (.int .i64 (n : Int))).run Tryz.prog w = .ok (.slice (some ⟨w.heap.size, 0, none⟩) n n) (w.alloc (.cells (madeCells #[.int .i64 0] n) 2)) := by
  obtain ⟨i, hi, hz⟩ := Option.map_eq_some_iff.1 infoInt
  simp only [Prod.mk.injEq] at hz
  obtain ⟨hz0, hz1, hz2⟩ := hz
  have h := run_make (P := Tryz.prog) w 24 2 i _ Tryz.underlying24 hi hz0 .i64 .i64 (n : Int) (n : Int) (by omega) (Int.le_refl _) (by rw [hz2]; omega) (by omega)
  rw [hz1] at h
  simpa [Value.cells] using h

set_option maxHeartbeats 1000000 in
theorem toInt64S_any (a : Option Addr) (c : Nat) (L : List Int) (n : Nat) (hl : L.length = n) (w : World) (h : IntsAt w a L) (hn : n ≤ 1048576) :
    Calls Tryz.prog 91 #[.slice a n c] w fun e w' => e = .returned (.slice (some ⟨w.heap.size, 0, none⟩) n n) ∧ RowInts w' 2 w.heap.size n L ∧ Below w.heap.size w w' := by
  have hmk := make_ints n hn
  go_enter Tryz.func91, Tryz.ntmps91
  go_wp2
  clear hmk
  go_loopw [4] (fun i wr => ∃ k : Nat, k ≤ n ∧ i = .int .i64 k ∧ RowInts wr 2 w.heap.size n (L.take k) ∧ Below w.heap.size w wr) (fun i _ => n - (intOf i).toNat)
  case atStart => exact ⟨0, Nat.zero_le _, rfl, by simpa using RowInts.made w _ _, (Below.refl _ _).alloc (Nat.le_refl _) _⟩
  case round =>
    obtain ⟨k, hk, rfl, hO, hB⟩ := hrel
    by_cases hlt : k < n
    · obtain ⟨x, hx⟩ := getElem?_ex (l := L) (k := k) (by omega)
      obtain ⟨b1, o1, rfl, g1⟩ := (h.below hB (Nat.le_refl _)) k x hx
      have c0 := World.rowIs.cell hO (i := k) hlt
      have f0 := World.rowIs.frozen hO
      have HX := hide hx
      have HO := hide hO
      clear hx h hO hl
      go_wp2
      go_roundw
      case rel => exact ⟨k + 1, by omega, by go_num, (unhide HO).put (unhide HX), hB.setCell (Nat.le_refl _) _⟩
      case measure => simp [intOf]; omega
    · have hk' : k = L.length := by omega
      subst hk'
      rw [List.take_length] at hO
      have HO := hide hO
      clear hO h
      go_wp2
      go_ret
      exact ⟨rfl, unhide HO, hB⟩

end Go.Proofs.YtjgcjeaplckbbaaGreatDoor

/- The program's map of the newest pages. -/
namespace Go.Proofs.YtjgcjeaplckbbaaGreatDoor
open Go.RowKit Go.Shelf
set_option linter.unusedVariables false
set_option linter.unusedSimpArgs false
attribute [local go_sem] Oper.semAt_some

def RightU (x : Int × Pg) : Prop := 0 ≤ x.2.log ∧ x.2.log ≤ 39 ∧ 1 ≤ x.2.seq ∧ x.2.seq ≤ 1000000000
abbrev RU := {x : Int × Pg // RightU x}

/-- Between two rounds: the function's own variables, those that came being pre. -/
def NewI (w : World) (room : Nat) (pre : List RU) (W : World) : Prop :=
  W.heap[w.heap.size + 1]? = some (.cells #[Value.slice none 0 0] 24 (0, 0)) ∧ W.heap[w.heap.size + 1 + 1]? = some (.cells #[Value.bool false] 4 (0, 0)) ∧
  W.heap[w.heap.size + 1 + 1 + 1]? = some (.cells #[Value.int .i64 (room : Int)] 2 (0, 0)) ∧ W.heap[w.heap.size + 1 + 1 + 1 + 1 + 1]? = some (.cells #[Value.map (some (w.heap.size + 1 + 1 + 1 + 1))] 277 (0, 0)) ∧
  NpIs W (w.heap.size + 1 + 1 + 1 + 1) pre.length (pre.map (·.val)) ∧ (∀ x ∈ pre, x.val.2.log < (room : Int)) ∧ w.heap.size + 1 + 1 + 1 + 1 + 1 + 1 < W.heap.size
def NewX (w : World) (room : Nat) (c : Code) (pre : List RU) (W : World) : Prop :=
  c = .ret ∧ (∃ x ∈ pre, (room : Int) ≤ x.val.2.log) ∧ W.heap[w.heap.size + 1]? = some (.cells #[Value.slice none 0 0] 24 (0, 0)) ∧ W.heap[w.heap.size + 1 + 1]? = some (.cells #[Value.bool false] 4 (0, 0))
theorem NewI.own (w : World) (room : Nat) {B : Nat} (hB : w.heap.size + 1 + 1 + 1 + 1 < B) : OwnFrom B (NewI w room) := fun p W W' row ⟨h1, h2, h3, h4, h5, h6, h7⟩ hg hr =>
  have hr' : ∀ r, row = some r → ∃ o : Obj, W.heap[r]? = some o ∧ o.isCells = false := fun r e => (hr r e).2
  ⟨blk_kept h1 hg hr', blk_kept h2 hg hr', blk_kept h3 hg hr', blk_kept h4 hg hr', h5.kept hg (fun e => by have := (hr _ e.symm).1; omega), h6, Nat.lt_of_lt_of_le h7 hg.size⟩
theorem NewX.own (w : World) (room : Nat) (c : Code) : Own (NewX w room c) := fun p W W' row ⟨h1, h2, h3, h4⟩ hg hr => ⟨h1, h2, blk_kept h3 hg hr, blk_kept h4 hg hr⟩

theorem keepsFrom_grown {B b : Nat} {W W' : World} (h : W.grownBy W' (some b)) (hb : b < B) : KeepsFrom B W W' :=
  ⟨h.size, fun k o hk ho _ => by rw [h.block k (Array.getElem?_eq_some_iff.1 ho).1 (fun e => by cases e; omega)]; exact ho⟩
theorem keepB_grown {Bx b : Nat} {W W' : World} (h : W.grownBy W' (some b)) (hB : Bx < W.heap.size) (hb : Bx ≠ b) : KeepB Bx W W' :=
  ⟨h.size, h.block Bx hB (fun e => by cases e; exact hb rfl)⟩
theorem newer_iff {cur : Option (Int × Pg)} {s : Int} (hs : 1 ≤ s) : newer cur s = true ↔ (npOf cur).1 < s := by
  cases cur with
  | none => simp [newer, npOf]; omega
  | some y => simp [newer, npOf]

theorem run_field_np (a b : Int) (W : World) : (Instr.field 205 (.agg #[.int .i64 a, .int .i64 b]) 0).run Tryz.prog W = .ok (.int .i64 a) W := by kernel_rfl

theorem wpListIn_lookup_ok_cur {F : Fence} {nF : Nat} (w : World) {ops : Array Oper} {rest : List Oper} {o : Oper} {a : Act} {Q : Exit → Act → World → Prop} (hg : o.guard = none) (m x : Operand) (hop : o.op = Op.lookup 277 m x true) (b n : Nat) (xs : List (Int × Pg)) (hm : a.eval m = .map (some b)) (hN : NpIs w b n xs)
    (k : Int) (h0 : 0 ≤ k) (h1 : k ≤ 39) (hx : a.eval x = .int .i64 k) (s p : Int) (r : Bool) (hs : (npOf (newestAt xs k)).1 = s) (hp : (npOf (newestAt xs k)).2 = p) (hr : (newestAt xs k).isSome = r)
    (hK : wpListIn F nF Tryz.prog ops Q rest (a.put o.dst (.tuple #[.agg #[.int .i64 s, .int .i64 p], .bool r])) w) : wpListIn F nF Tryz.prog ops Q (o :: rest) a w := by
  refine wpListIn_lookup_ok_np w hg m x hop b n xs hm hN k h0 h1 hx ?_
  rw [hs, hp, hr]
  exact hK
theorem RowInts.put2 {w : World} {t : TypeId} {b n k : Nat} {L : List Int} {x : Int} (h : RowInts w t b n (L.take k)) (hx : L[k]? = some x) (v0 : Value) (o : Obj) :
    RowInts (((w.setCell ⟨b, k, none⟩ v0).setCell ⟨b, k, none⟩ (.int .i64 x)).alloc o) t b n (L.take (k + 1)) := by
  refine World.rowIs.congr (World.rowIs.alloc (World.rowIs.set (World.rowIs.set h k v0) k (.int .i64 x)) o) fun i hi => ?_
  unfold intF
  by_cases e : i = k
  · subst e; simp [List.getElem?_take, hx]
  · by_cases l : i < k
    · simp [e, List.getElem?_take, l, Nat.lt_succ_of_lt l]
    · have l2 : ¬ i < k + 1 := by omega
      simp [e, List.getElem?_take, l, l2]

theorem RowInts.own {w : World} {t : TypeId} {b n B : Nat} {L : List Int} (h : RowInts w t b n L) (hl : L.length = n) (hB : B ≤ b) (hn : n ≤ 1048576) : OwnInts w t B (.slice (some ⟨b, 0, none⟩) n n) L := by
  obtain ⟨c, hb, hc, hf⟩ := h
  refine ⟨by simp [ints], .inr ⟨b, n, c, by rw [hl], hB, hb, by omega, by unfold maxLen; omega, by omega, ?_⟩⟩
  rw [List.take_of_length_le (by simp; omega)]
  refine List.ext_getElem? (fun i => ?_)
  by_cases hi : i < n
  · have h1 := hf i hi
    rw [← Array.getElem?_toList] at h1
    rw [h1]
    obtain ⟨x, hx⟩ := getElem?_ex (l := L) (k := i) (by omega)
    simp [ints, intF, hx]
  · rw [List.getElem?_eq_none (by simp; omega), List.getElem?_eq_none (by rw [ints_length]; omega)]

theorem heap6 (w : World) (o1 o2 o3 o4 o5 o6 : Obj) :
    ((((((w.alloc o1).alloc o2).alloc o3).alloc o4).alloc o5).alloc o6).heap[w.heap.size]? = some o1 ∧ ((((((w.alloc o1).alloc o2).alloc o3).alloc o4).alloc o5).alloc o6).heap[w.heap.size + 1]? = some o2 ∧
    ((((((w.alloc o1).alloc o2).alloc o3).alloc o4).alloc o5).alloc o6).heap[w.heap.size + 1 + 1]? = some o3 ∧ ((((((w.alloc o1).alloc o2).alloc o3).alloc o4).alloc o5).alloc o6).heap[w.heap.size + 1 + 1 + 1]? = some o4 ∧
    ((((((w.alloc o1).alloc o2).alloc o3).alloc o4).alloc o5).alloc o6).heap[w.heap.size + 1 + 1 + 1 + 1]? = some o5 ∧ ((((((w.alloc o1).alloc o2).alloc o3).alloc o4).alloc o5).alloc o6).heap[w.heap.size + 1 + 1 + 1 + 1 + 1]? = some o6 := by
  have e : ((((((w.alloc o1).alloc o2).alloc o3).alloc o4).alloc o5).alloc o6).heap = (((((w.heap.push o1).push o2).push o3).push o4).push o5).push o6 := rfl
  rw [e]
  simp only [Array.getElem?_push, Array.size_push]
  refine ⟨?_, ?_, ?_, ?_, ?_, ?_⟩
  · rw [if_neg (by omega), if_neg (by omega), if_neg (by omega), if_neg (by omega), if_neg (by omega), if_pos trivial]
  · rw [if_neg (by omega), if_neg (by omega), if_neg (by omega), if_neg (by omega), if_pos trivial]
  · rw [if_neg (by omega), if_neg (by omega), if_neg (by omega), if_pos trivial]
  · rw [if_neg (by omega), if_neg (by omega), if_pos trivial]
  · rw [if_neg (by omega), if_pos trivial]
  · rw [if_pos trivial]

set_option maxRecDepth 100000 in
set_option maxHeartbeats 2000000 in
theorem newestPlaces_any (m : CC) (c : Nat) (hm : m.count = c) (h4 : 4 ≤ c) (hc : c ≤ 12) (bs : List Bk) (hl : bs.length = c) (hbs : ccBs m c = bs) (hok : ChipOk bs) (w : World) :
    Calls Tryz.prog 137 #[.agg (ccA m)] w fun e w' => MapRet bs 2 w.heap.size e w' ∧ Below w.heap.size w w' := by
  obtain ⟨room, hroom⟩ : ∃ room, room = roomOf bs := ⟨_, rfl⟩
  have hroomN : room = 4 * (c - 3) := by rw [hroom]; unfold roomOf; rw [hl]
  have hri : roomI (c : Int) = (room : Int) := by rw [roomI_in (by omega), hroomN]; omega
  have hr36 : room ≤ 36 := by omega
  have hua : usedAll m c = usedOf bs := by subst hl; exact usedOf_cc hbs
  have hRx : ∀ b k : Nat, b < c → k < 4 → (m.page b k).used = true → RightU ((b : Int) * 4 + (k : Int), m.page b k) := fun b k hb hk hu => by
    have hmem : ((b : Int) * 4 + (k : Int), m.page b k) ∈ usedOf bs := by
      rw [← hua]
      unfold usedAll
      simp only [List.mem_flatMap, List.mem_range]
      refine ⟨b, hb, ?_⟩
      unfold usedB
      simp only [List.mem_map, List.mem_filter, List.mem_range]
      exact ⟨k, ⟨hk, hu⟩, rfl⟩
    obtain ⟨q1, q2, q3, q4, _⟩ := hok.usedRight hmem
    exact ⟨q1, q2, q3, q4⟩
  have hc0 := ccA_count m
  rw [hm] at hc0
  have HRM := hide hroom
  have HUA := hide hua
  have HRX := hide hRx
  clear hroom hua hRx hroomN
  refine (callsIn_wide (n := 8)).1 ?_
  refine callsIn_of_wp_marks Tryz.func137 rfl trivial ?_ rfl
  simp only [Tryz.ntmps137, List.size_toArray, List.length_cons, List.length_nil, Nat.reduceAdd, Nat.reduceSub, Array.replicate_succ, Array.replicate_zero, List.push_toArray, List.append_toArray, List.nil_append, List.cons_append]
  gi_wp2_with fail
  refine ⟨trivial, ?_⟩
  gi_at_call 20
  refine (callsIn_wide.2 (implRoomFor_any _ _)).mono ?_
  rintro e w' ⟨rfl, rfl⟩
  rw [hri]
  clear hc0 hri
  have hmm := @run_makeMap Tryz.prog
  have h6 := heap6 w (.cells (ccA m) 128) (.cells #[.slice none 0 0] 24) (.cells #[.bool false] 4) (.cells #[.int .i64 (room : Int)] 2) (.map #[] 0) (.cells #[.map (some (w.heap.size + 1 + 1 + 1 + 1))] 277)
  have H6 := hide h6
  have HLD := hide (fun j (hj : j < 205) => (by rw [Nat.zero_add]; exact cell_of_row _ _ j _ _ _ h6.1 : World.cell? _ ⟨w.heap.size, 0 + j, none⟩ = (ccA m)[j]?))
  clear h6
  gi_wp2_with (first | (refine wpListIn_load_mid rfl 128 _ rfl w.heap.size 0 rfl (ccA m) 205 (ccA_size m) (unhide HLD) _ Tryz.underlying128 rfl sizeCC' ?_) | (refine ⟨trivial, ?_⟩; gi_at_call 194; refine (usedPages_in Fence.wide _ trivial rfl m _).mono ?_; rintro e w' ⟨rfl, rfl⟩))
  clear HLD hmm
  obtain ⟨W4, hW4⟩ : ∃ W4, W4 = (((((w.alloc (.cells (ccA m) 128)).alloc (.cells #[.slice none 0 0] 24)).alloc (.cells #[.bool false] 4)).alloc (.cells #[.int .i64 (room : Int)] 2)).alloc (.map #[] 0)).alloc (.cells #[.map (some (w.heap.size + 1 + 1 + 1 + 1))] 277) := ⟨_, rfl⟩
  have h6 := unhide H6
  clear H6
  have hs4 : W4.heap.size = w.heap.size + 1 + 1 + 1 + 1 + 1 + 1 := by rw [hW4]; simp
  have hB4 : Below w.heap.size w W4 := by
    rw [hW4]
    exact ((((((Below.refl _ w).alloc (Nat.le_refl _) _).alloc (by simp) _).alloc (by simp; omega) _).alloc (by simp; omega) _).alloc (by simp; omega) _).alloc (by simp; omega) _
  have hNp0 : NpIs W4 (w.heap.size + 1 + 1 + 1 + 1) 0 [] := by
    have h0 := NpIs.made ((((w.alloc (.cells (ccA m) 128)).alloc (.cells #[.slice none 0 0] 24)).alloc (.cells #[.bool false] 4)).alloc (.cells #[.int .i64 (room : Int)] 2))
    have e : ((((w.alloc (.cells (ccA m) 128)).alloc (.cells #[.slice none 0 0] 24)).alloc (.cells #[.bool false] 4)).alloc (.cells #[.int .i64 (room : Int)] 2)).heap.size = w.heap.size + 1 + 1 + 1 + 1 := by simp
    rw [e] at h0
    rw [hW4]
    exact h0.kept (World.grownBy_alloc _ _ none) (by simp)
  rw [← hW4] at h6 ⊢
  clear hW4
  obtain ⟨_, h61, h62, h63, _, h65⟩ := h6
  have hbel : Below w.heap.size w (W4.alloc (.cells (ccA m) 128)) := hB4.alloc hB4.size _
  have hbox : ∀ i, (W4.alloc (.cells (ccA m) 128)).cell? ⟨w.heap.size + 1 + 1 + 1 + 1 + 1 + 1, i, none⟩ = (ccA m)[i]? := fun i => by rw [← hs4]; simp
  refine wpIn_rangeFunc_ownH rfl (by omega) (gf := 254) (lb := #[.pointer (some ⟨w.heap.size + 1 + 1 + 1 + 1 + 1 + 1, 0, none⟩)]) rfl trivial (enters_of Tryz.func254 (by kernel_rfl) rfl)
    (usedR_stops RightU Fence.wide _ trivial rfl (by omega) (w.heap.size + 1 + 1 + 1 + 1 + 1 + 1) c m hm hc (unhide HRX) _ (by simp; omega) hbox) KeepB.trans (keepB_b (by simp; omega)) (Below.refl _ _) (fun _ => rfl)
    (fun pre W => NewI w room pre W ∧ Below w.heap.size w W) (fun c pre W => NewX w room c pre W ∧ Below w.heap.size w W)
    (OwnFrom.and (NewI.own w room (by simp; omega)) (ownFrom_below (Nat.le_refl _) (by simp; omega)))
    (fun c => OwnFrom.and (Own.from (NewX.own w room c) _) (ownFrom_below (Nat.le_refl _) (by simp; omega)))
    ⟨⟨by rw [Below.heap_alloc _ _ _ (by rw [hs4]; omega)]; exact h61, by rw [Below.heap_alloc _ _ _ (by rw [hs4]; omega)]; exact h62, by rw [Below.heap_alloc _ _ _ (by rw [hs4]; omega)]; exact h63, by rw [Below.heap_alloc _ _ _ (by rw [hs4]; omega)]; exact h65, hNp0.kept (World.grownBy_alloc _ _ none) (by simp), fun x hx => by simp at hx, by simp; omega⟩, hbel⟩
    (fun x a' W => ∃ Bp, w.heap.size + 1 + 1 + 1 + 1 + 1 + 1 < Bp ∧ W.heap[Bp]? = some (.cells #[Value.bool x.val.2.used, Value.int .i64 x.val.2.log, Value.int .i64 x.val.2.seq, Value.string x.val.2.data] 122 (0, 0)) ∧
      a' = { tmps := #[.agg (ccA m), .pointer (some ⟨w.heap.size, 0, none⟩), .pointer (some ⟨w.heap.size + 1, 0, none⟩), .pointer (some ⟨w.heap.size + 1 + 1, 0, none⟩), .pointer (some ⟨w.heap.size + 1 + 1 + 1, 0, none⟩), .pointer (some ⟨w.heap.size + 1 + 1 + 1 + 1 + 1, 0, none⟩), .int .i64 x.val.1, .pointer (some ⟨Bp, 0, none⟩), undef, undef, undef, undef, .pointer (some ⟨w.heap.size, 0, none⟩), .int .i64 (c : Int), .int .i64 (room : Int), .map (some (w.heap.size + 1 + 1 + 1 + 1)), .agg (ccA m), .func (.func 254) #[] #[.pointer (some ⟨w.heap.size + 1 + 1 + 1 + 1 + 1 + 1, 0, none⟩)], .int .i64 x.val.1, .agg #[Value.bool x.val.2.used, Value.int .i64 x.val.2.log, Value.int .i64 x.val.2.seq, Value.string x.val.2.data], undef, undef, undef, undef, undef, undef, undef, undef, undef, undef, undef, undef, undef, undef, undef, undef, undef, undef, undef, undef, undef, undef, undef, undef, undef, undef, undef, undef, undef, undef, undef, undef, undef, undef, undef, undef, undef, undef, undef, undef, undef, undef, undef], defers := [] })
    (fun x a' => Own.from (fun _ W W' row ⟨Bp, h1, h2, h3⟩ hg hr => ⟨Bp, h1, blk_kept h2 hg hr, h3⟩) _) ?assign ?body ?done ?stop
  case assign =>
    rintro l pre x W K ⟨hi, hb⟩ hK
    obtain ⟨⟨xi, xp⟩, hx⟩ := x
    simp only [encU]
    gi_wp2
    have hWs : w.heap.size + 1 + 1 + 1 + 1 + 1 + 1 < W.heap.size := hi.2.2.2.2.2.2
    exact hK _ _ ((KeepsOthers.alloc _ _).from _) (KeepB.alloc _ _ hWs) ⟨NewI.own w room (B := w.heap.size + 1 + 1 + 1 + 1 + 1) (by omega) pre W _ none hi (World.grownBy_alloc W _ none) (fun r e => by cases e), hb.alloc hb.size _⟩ ⟨W.heap.size, hWs, World.alloc_heap_new _ _, rfl⟩
  case body =>
    rintro l pre ⟨⟨xi, u, lg, s, d⟩, hx⟩ a' W hlb hlr ⟨⟨h1, h2, h3, h5, hNp, hF, hWs⟩, hb⟩ ⟨Bp, hBp, hpb, rfl⟩ hlen
    obtain ⟨q0, q1, q2, q3⟩ := hx
    simp only at q0 q1 q2 q3 hpb ⊢
    have hcL := cell_of_row _ _ 1 _ _ _ hpb
    have hcS := cell_of_row _ _ 2 _ _ _ hpb
    have hcR := cell_of_row _ _ 0 _ _ _ h3
    have hcM := cell_of_row _ _ 0 _ _ _ h5
    have hcF := cell_of_row _ _ 0 _ _ _ h1
    have hfF := frozen_of_row _ _ 0 _ _ h1
    have hcG := cell_of_row _ _ 0 _ _ _ h2
    have hfG := frozen_of_row _ _ 0 _ _ h2
    simp only [List.getElem?_toArray, List.getElem?_cons_succ, List.getElem?_cons_zero] at hcL hcS hcR hcM hcF hcG
    have H1 := hide h1
    have H2 := hide h2
    have H3 := hide h3
    have H5 := hide h5
    have HNP := hide hNp
    have HF := hide hF
    clear h1 h2 h3 h5 hNp hF hpb
    have hfld := run_field_np
    by_cases hlog : lg < (room : Int)
    · by_cases hnw : newer (newestAt (pre.map (·.val)) lg) s = true
      · have hv : (npOf (newestAt (pre.map (·.val)) lg)).1 < s := (newer_iff q2).1 hnw
        have HNW := hide hnw
        clear hnw
        gi_wp2_with (first | (gi_at_lookup; refine wpListIn_lookup_np _ rfl _ _ rfl (w.heap.size + 1 + 1 + 1 + 1) pre.length (pre.map (·.val)) rfl (unhide HNP) lg q0 q1 rfl ?_) | (gi_at_mapUpdate; refine wpListIn_update_np _ rfl _ _ _ rfl (w.heap.size + 1 + 1 + 1 + 1) pre.length (pre.map (·.val)) rfl (unhide HNP) (by unfold maxLen; omega) (xi, ⟨u, lg, s, d⟩) q0 q1 rfl rfl (unhide HNW) ?_; intro w2 hnp2 hg2))
        refine ⟨keepsFrom_grown hg2 (by simp; omega), keepB_grown hg2 hWs (by omega), ⟨?_, ?_, ?_, ?_, ?_, ?_, Nat.lt_of_lt_of_le hWs hg2.size⟩, hb.grown hg2 hb.size (fun j e => by cases e; omega)⟩
        · rw [hg2.block _ (by omega) (fun e => by simp at e)]; exact unhide H1
        · rw [hg2.block _ (by omega) (fun e => by simp at e)]; exact unhide H2
        · rw [hg2.block _ (by omega) (fun e => by simp at e)]; exact unhide H3
        · rw [hg2.block _ (by omega) (fun e => by simp at e)]; exact unhide H5
        · simpa using hnp2
        · intro x hx
          rcases List.mem_append.1 hx with hx | hx
          · exact unhide HF x hx
          · rw [List.mem_singleton.1 hx]; exact hlog
      · have hv : ¬ (npOf (newestAt (pre.map (·.val)) lg)).1 < s := fun hc => hnw ((newer_iff q2).2 hc)
        have HNW := hide hnw
        clear hnw
        gi_wp2_with (first | (gi_at_lookup; refine wpListIn_lookup_np _ rfl _ _ rfl (w.heap.size + 1 + 1 + 1 + 1) pre.length (pre.map (·.val)) rfl (unhide HNP) lg q0 q1 rfl ?_))
        refine ⟨KeepsFrom.refl _ _, KeepB.refl _ _, ⟨unhide H1, unhide H2, unhide H3, unhide H5, ?_, ?_, hWs⟩, hb⟩
        · have h0 := NpIs.same (unhide HNP) (x := (xi, ⟨u, lg, s, d⟩)) rfl (unhide HNW)
          rw [List.map_append, List.length_append]
          exact h0.mono (by simp)
        · intro x hx
          rcases List.mem_append.1 hx with hx | hx
          · exact unhide HF x hx
          · rw [List.mem_singleton.1 hx]; exact hlog
    · have hlog' : (room : Int) ≤ lg := by omega
      gi_wp2
      refine ⟨((KeepsOthers.setCell _ _ _).from _).trans ((KeepsOthers.setCell _ _ _).from _), ⟨rfl, ⟨_, List.mem_append_right _ (List.mem_singleton.2 rfl), hlog'⟩, ?_, ?_⟩, ?_⟩
      · rw [Below.heap_setCell _ _ _ _ (by simp)]
        exact blk_setCell_same 0 (.slice none 0 0) (unhide H1)
      · exact blk_setCell_same 0 (.bool false) ((Below.heap_setCell _ _ _ _ (by simp)).trans (unhide H2))
      · exact (hb.setCell (p := ⟨w.heap.size + 1, 0, none⟩) (by simp) _).setCell (p := ⟨w.heap.size + 1 + 1, 0, none⟩) (by simp; omega) _
  case done =>
    rintro D ys W hD hys ⟨⟨h1, h2, h3, h5, hNp, hF, hWs⟩, hb⟩ hK
    have hcR := cell_of_row _ _ 0 _ _ _ h3
    have hcM := cell_of_row _ _ 0 _ _ _ h5
    have hcF := cell_of_row _ _ 0 _ _ _ h1
    have hfF := frozen_of_row _ _ 0 _ _ h1
    have hcG := cell_of_row _ _ 0 _ _ _ h2
    have hfG := frozen_of_row _ _ 0 _ _ h2
    simp only [List.getElem?_toArray, List.getElem?_cons_succ, List.getElem?_cons_zero] at hcR hcM hcF hcG
    have H1 := hide h1
    have H2 := hide h2
    rw [hys, unhide HUA] at hNp
    have hF' : Fits bs := fun x hx => by
      rw [← unhide HUA, ← hys] at hx
      obtain ⟨y, hy, rfl⟩ := List.mem_map.1 hx
      rw [← unhide HRM]
      exact hF y hy
    have HNP := hide hNp
    have HF := hide hF'
    have HK := hide hK
    clear h1 h2 h3 h5 hNp hF hF' hys hK
    have hmk := make_ints room (by omega)
    gi_wp2
    clear hmk hcR
    have hDlt : D < W.heap.size := (Array.getElem?_eq_some_iff.1 (unhide HK)).1
    gi_loopw [43] (fun i wr => ∃ k : Nat, k ≤ room ∧ i = .int .i64 k ∧ RowInts wr 2 W.heap.size room ((placesOf (usedOf bs) room).take k) ∧ Below W.heap.size W wr ∧ W.heap.size < wr.heap.size) (fun i _ => room - (intOf i).toNat)
    case atStart => exact ⟨0, Nat.zero_le _, rfl, by simpa using RowInts.made W _ _, (Below.refl _ _).alloc (Nat.le_refl _) _, by simp⟩
    case round =>
      obtain ⟨k, hk, rfl, hR, hBr, hsr⟩ := hrel
      by_cases hlt : k < room
      · have hat := placesOf_at (usedOf bs) room hlt
        have hcM' := (hBr.cell (p := ⟨w.heap.size + 1 + 1 + 1 + 1 + 1, 0, none⟩) (by show w.heap.size + 1 + 1 + 1 + 1 + 1 < W.heap.size; omega)).trans hcM
        have hNp' : NpIs (wr.setCell ⟨W.heap.size, k, none⟩ (.int .i64 (-1))) (w.heap.size + 1 + 1 + 1 + 1) ys.length (usedOf bs) := by
          refine NpIs.kept (W := wr) (row := some W.heap.size) ((unhide HNP).kept (row := none) ⟨hBr.os, hBr.tape, hBr.output, hBr.size, fun j hj _ => hBr.block j hj⟩ (by simp)) ⟨rfl, rfl, rfl, by simp [World.setCell], fun j _ hj => Below.heap_setCell _ _ _ _ (fun e => hj (by rw [e]))⟩ (by simp; omega)
        have c0 := World.rowIs.cell hR (i := k) hlt
        have f0 := World.rowIs.frozen hR
        have HR := hide hR
        have HNP' := hide hNp'
        have HAT := hide hat
        have hk40 : (k : Int) ≤ 39 := by omega
        have hk00 : 0 ≤ (k : Int) := by omega
        have hne1 : W.heap.size ≠ w.heap.size + 1 + 1 + 1 + 1 + 1 := by omega
        clear hR hNp' hat hcM hcF hfF hcG hfG
        cases hnw : newestAt (usedOf bs) (k : Int) with
        | none =>
          have e1 : (npOf (newestAt (usedOf bs) (k : Int))).1 = 0 := by rw [hnw]; rfl
          have e2 : (npOf (newestAt (usedOf bs) (k : Int))).2 = 0 := by rw [hnw]; rfl
          have e3 : (newestAt (usedOf bs) (k : Int)).isSome = false := by rw [hnw]; rfl
          have hat := unhide HAT
          rw [hnw] at hat
          have HAT2 := hide hat
          have E1 := hide e1
          have E2 := hide e2
          have E3 := hide e3
          clear HAT hat e1 e2 e3 hnw
          gi_wp2_with (gi_at_lookup; refine wpListIn_lookup_ok_cur _ rfl _ _ rfl (w.heap.size + 1 + 1 + 1 + 1) ys.length (usedOf bs) rfl (unhide HNP') (k : Int) hk00 hk40 rfl 0 0 false (unhide E1) (unhide E2) (unhide E3) ?_)
          go_roundw
          case rel =>
            refine ⟨k + 1, by omega, by go_num, ?_, ?_, ?_⟩
            · exact World.rowIs.alloc (RowInts.put (unhide HR) (unhide HAT2)) _
            · exact (hBr.setCell (p := ⟨W.heap.size, k, none⟩) (Nat.le_refl _) _).alloc (by simp [World.setCell]; omega) _
            · simp [World.setCell]; omega
          case measure => simp [intOf]; omega
        | some y =>
          have e1 : (npOf (newestAt (usedOf bs) (k : Int))).1 = y.2.seq := by rw [hnw]; rfl
          have e2 : (npOf (newestAt (usedOf bs) (k : Int))).2 = y.1 := by rw [hnw]; rfl
          have e3 : (newestAt (usedOf bs) (k : Int)).isSome = true := by rw [hnw]; rfl
          have hat := unhide HAT
          rw [hnw] at hat
          have HAT2 := hide hat
          have E1 := hide e1
          have E2 := hide e2
          have E3 := hide e3
          clear HAT hat e1 e2 e3 hnw
          gi_wp2_with (gi_at_lookup; refine wpListIn_lookup_ok_cur _ rfl _ _ rfl (w.heap.size + 1 + 1 + 1 + 1) ys.length (usedOf bs) rfl (unhide HNP') (k : Int) hk00 hk40 rfl y.2.seq y.1 true (unhide E1) (unhide E2) (unhide E3) ?_)
          go_roundw
          case rel =>
            refine ⟨k + 1, by omega, by go_num, ?_, ?_, ?_⟩
            · exact RowInts.put2 (unhide HR) (unhide HAT2) _ _
            · exact ((hBr.setCell (p := ⟨W.heap.size, k, none⟩) (Nat.le_refl _) _).setCell (p := ⟨W.heap.size, k, none⟩) (Nat.le_refl _) _).alloc (by simp [World.setCell]; omega) _
            · simp [World.setCell]; omega
          case measure => simp [intOf]; omega
      · obtain rfl : k = room := by omega
        have hcF' := (hBr.cell (p := ⟨w.heap.size + 1, 0, none⟩) (by show w.heap.size + 1 < W.heap.size; omega)).trans hcF
        have hfF' := (hBr.frozen (p := ⟨w.heap.size + 1, 0, none⟩) (by show w.heap.size + 1 < W.heap.size; omega)).trans hfF
        have hcG' := (hBr.cell (p := ⟨w.heap.size + 1 + 1, 0, none⟩) (by show w.heap.size + 1 + 1 < W.heap.size; omega)).trans hcG
        have hfG' := (hBr.frozen (p := ⟨w.heap.size + 1 + 1, 0, none⟩) (by show w.heap.size + 1 + 1 < W.heap.size; omega)).trans hfG
        have hKr := (hBr.block D hDlt).trans (unhide HK)
        have HKR := hide hKr
        have HR := hide hR
        clear hKr hR hcF hfF hcG hfG hcM
        gi_wp2
        have hK' := ((KeepsOthers.setCell wr ⟨w.heap.size + 1, 0, none⟩ (.slice (some ⟨W.heap.size, 0, none⟩) k k)).trans (KeepsOthers.setCell _ ⟨w.heap.size + 1 + 1, 0, none⟩ (.bool true))).same D _ (unhide HKR) rfl
        refine ⟨by simp, .inl ⟨_, _, rfl, run_takeDeferred hK', ?_⟩⟩
        have hc4 : ((wr.setCell ⟨w.heap.size + 1, 0, none⟩ (.slice (some ⟨W.heap.size, 0, none⟩) k k)).setCell ⟨w.heap.size + 1 + 1, 0, none⟩ (.bool true)).cell? ⟨w.heap.size + 1, 0, none⟩ = some (.slice (some ⟨W.heap.size, 0, none⟩) k k) := by
          refine (World.cell?_of_block (a := ⟨w.heap.size + 1, 0, none⟩) (Below.heap_setCell _ _ _ _ (by show w.heap.size + 1 ≠ w.heap.size + 1 + 1; omega))).trans ?_
          exact World.cell?_setCell_same' wr ⟨w.heap.size + 1, 0, none⟩ _ (by rw [hcF']; rfl)
        have hc5 := cell_kept hc4 (grownBy_putObj' _ D (.deferred none)) (fun r e => by cases e; exact ⟨_, hK', rfl⟩)
        have hc6 := cell_kept (World.cell?_setCell_same' (wr.setCell ⟨w.heap.size + 1, 0, none⟩ (.slice (some ⟨W.heap.size, 0, none⟩) k k)) ⟨w.heap.size + 1 + 1, 0, none⟩ (.bool true) (by rw [World.cell?_of_block (a := ⟨w.heap.size + 1 + 1, 0, none⟩) (Below.heap_setCell wr _ _ _ (by show w.heap.size + 1 + 1 ≠ w.heap.size + 1; omega)), hcG']; rfl)) (grownBy_putObj' _ D (.deferred none)) (fun r e => by cases e; exact ⟨_, hK', rfl⟩)
        have hBw : Below w.heap.size w ((wr.setCell ⟨w.heap.size + 1, 0, none⟩ (.slice (some ⟨W.heap.size, 0, none⟩) k k)).setCell ⟨w.heap.size + 1 + 1, 0, none⟩ (.bool true)) := ((hb.trans (hBr.mono hb.size)).setCell (p := ⟨w.heap.size + 1, 0, none⟩) (by simp) _).setCell (p := ⟨w.heap.size + 1 + 1, 0, none⟩) (by simp; omega) _
        refine ⟨.tuple #[.slice (some ⟨W.heap.size, 0, none⟩) k k, .bool true], ?_, ⟨_, true, _, rfl, ⟨?_, rfl⟩, ?_⟩, hBw.trans (belowK_b (w := w) (Nat.le_refl _) _ D _ _ (by simp at hD; omega) hK' rfl rfl)⟩
        · simp [results, Tryz.f137, go_sem, hc5, hc6]
        · simp only [true_iff]
          exact unhide HF
        · simp only [if_true]
          have hr := unhide HR
          rw [List.take_of_length_le (by rw [placesOf_length]; exact Nat.le_refl _)] at hr
          rw [← unhide HRM]
          refine RowInts.own (World.rowIs.of_block hr ?_) (placesOf_length _ _) hb.size (by omega)
          rw [World.putObj_heap_other (by omega), Below.heap_setCell _ _ _ _ (by show W.heap.size ≠ w.heap.size + 1 + 1; omega), Below.heap_setCell _ _ _ _ (by show W.heap.size ≠ w.heap.size + 1; omega)]
  case stop =>
    rintro D c' pre W hD hpre ⟨⟨rfl, hin, h1, h2⟩, hb⟩ hK
    have hcF := cell_of_row _ _ 0 _ _ _ h1
    have hcG := cell_of_row _ _ 0 _ _ _ h2
    have HA := hide hin
    clear hin
    gi_wp2
    refine ⟨by simp, .inl ⟨_, _, rfl, run_takeDeferred hK, ?_⟩⟩
    have hc5 := cell_kept hcF (grownBy_putObj' _ D (.deferred none)) (fun r e => by cases e; exact ⟨_, hK, rfl⟩)
    have hc6 := cell_kept hcG (grownBy_putObj' _ D (.deferred none)) (fun r e => by cases e; exact ⟨_, hK, rfl⟩)
    refine ⟨.tuple #[.slice none 0 0, .bool false], ?_, ⟨_, false, [], rfl, ⟨?_, rfl⟩, World.ownsRow_nil _ _ _ _⟩, hb.trans (belowK_b (w := w) (Nat.le_refl _) W D _ _ (by simp at hD; omega) hK rfl rfl)⟩
    · simp [results, Tryz.f137, go_sem, hc5, hc6]
    · simp only [Bool.false_eq_true, false_iff]
      intro hfit
      obtain ⟨x, hx, hge⟩ := unhide HA
      have := hfit x.val (by rw [← unhide HUA]; exact hpre.subset (List.mem_map.2 ⟨x, hx, rfl⟩))
      rw [← unhide HRM] at this
      omega
end Go.Proofs.YtjgcjeaplckbbaaGreatDoor

/- The program's ChipNew. -/
namespace Go.Proofs.YtjgcjeaplckbbaaGreatDoor
open Go.RowKit
set_option linter.unusedVariables false
set_option linter.unusedSimpArgs false


end Go.Proofs.YtjgcjeaplckbbaaGreatDoor

/- Lists of int64: the laws' own comparison, marks, and whether they are held. -/
namespace Go.Proofs.YtjgcjeaplckbbaaGreatDoor
open Go.RowKit
set_option linter.unusedVariables false
set_option linter.unusedSimpArgs false

def marksI (k : Int) (n : Nat) : List Int := (List.range n).map fun (i : Nat) => k + (i : Int)

end Go.Proofs.YtjgcjeaplckbbaaGreatDoor

/- Lists of int64: the laws' own heldInt64S. -/
namespace Go.Proofs.YtjgcjeaplckbbaaGreatDoor
open Go.RowKit
set_option linter.unusedVariables false
set_option linter.unusedSimpArgs false

end Go.Proofs.YtjgcjeaplckbbaaGreatDoor
