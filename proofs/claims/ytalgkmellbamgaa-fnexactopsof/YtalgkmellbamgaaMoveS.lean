/- A block is emptied: the model's l3Move. -/
import Derived.Test.YtalgkmellbamgaaOpsP
import Derived.Test.YtalgkmellbamgaaOpO
import Derived.Test.YtalgkmellbamgaaMapS
import Derived.WalkKit
import Derived.Outline
import Derived.BigQuiet
import Derived.Deep.DeepCutAuto
namespace Go.Proofs.Ytalgkmellbamgaa
open Go.RowKit
set_option linter.unusedVariables false
set_option linter.unusedSimpArgs false

theorem movedTo_not {bs : List Bk} {L : List Int} {v into seq : Int} {k : Nat} (h : movesAt bs L v k = false) : movedTo bs L v into seq (k + 1) = movedTo bs L v into seq k := by simp [movedTo, h]
theorem movedTo_yes {bs : List Bk} {L : List Int} {v into seq : Int} {k : Nat} (h : movesAt bs L v k = true) : movedTo bs L v into seq (k + 1) = movedTo bs L v into seq k ++ [⟨1, into, { pageIn bs v k with seq := seq + ((movedTo bs L v into seq k).length : Int) }⟩] := by simp [movedTo, h]
theorem movesAt_of {bs : List Bk} {L : List Int} {v : Int} {k lg : Nat} {s y : Int} {d : ByteArray} (hp : pageIn bs v k = ⟨true, (lg : Int), s, d⟩) (hy : L[lg]? = some y) : movesAt bs L v k = true ↔ y = v * 4 + (k : Int) := by
  have e : L[(pageIn bs v k).log.toNat]? = some y := by rw [hp]; simpa using hy
  have e2 : (pageIn bs v k).used = true := by rw [hp]
  unfold movesAt
  rw [Bool.and_eq_true, decide_eq_true_eq, e, e2]
  simp

set_option maxRecDepth 100000 in
set_option maxHeartbeats 4000000 in
theorem l3Move_any (a : Option Addr) (c : Nat) (bs : List Bk) (n : Nat) (hl : bs.length = n) (ma : Option Addr) (mc : Nat) (L : List Int) (mn : Nat) (hL : L.length = mn) (hok : ChipOk bs) (hfit : ∀ (b k : Nat) (x : Bk) (p : Pg), bs[b]? = some x → x.pages[k]? = some p → p.used = true → ∃ lg : Nat, p.log = (lg : Int) ∧ lg < mn) (hmn : mn ≤ 36)
    (v : Nat) (hv : v < n) (into seq : Int) (h0 : 0 ≤ seq) (h1 : seq ≤ 1000000000) (w : World) (h : BlocksAt w a bs) (hI : IntsAt w ma L) :
    Calls Try.prog 133 #[.agg #[.slice a n c], .slice ma mn mc, .int .i64 (v : Int), .int .i64 into, .int .i64 seq] w fun e w' => ∃ r, e = .returned r ∧ OwnsOps w' (w.heap.size + 1) r (moveOps bs L (v : Int) into seq) ∧ Below w.heap.size w w' := by
  have hn12 : n ≤ 12 := by have := hok.count; omega
  obtain ⟨i0, hi, hz0, hz1, hz2⟩ := info_parts infoCOp
  obtain ⟨x, hx⟩ := getElem?_ex (l := bs) (k := v) (by omega)
  have h4 := (hok.block x (List.mem_of_getElem? hx)).four
  have HX := hide hx
  have HL := hide hL
  have HF := hide (hfit v)
  have HA := hide h
  have HI := hide hI
  clear hfit hok hx h hI hL
  go_enter Try.func133, Try.ntmps133
  go_wp2_with fail
  obtain ⟨w0, hw0⟩ : ∃ w0, w0 = w.alloc (.cells #[.slice a n c] 26) := ⟨_, rfl⟩
  have hs0 : w.heap.size < w0.heap.size := by rw [hw0]; simp
  have hs0' : w0.heap.size = w.heap.size + 1 := by rw [hw0]; simp
  have hx0 : w0.cell? ⟨w.heap.size, 0, none⟩ = some (.slice a n c) := by rw [hw0]; simp
  have hW0 : Below w.heap.size w w0 := by rw [hw0]; exact (Below.refl _ w).alloc (Nat.le_refl _) _
  have HO0 : Hid (OwnsOps (w0.alloc (.cells #[] 63)) (w.heap.size + 1) (.slice (some ⟨w.heap.size + 1, 0, none⟩) 0 0) []) := by rw [← hs0']; exact OwnsOps.nil w0 w0.heap.size (Nat.le_refl _)
  have HS0 := hide hs0'
  rw [← hw0]
  clear hw0 hs0'
  go_wp2
  go_loopw [4, 11, 12] (fun sq out i wr => ∃ k : Nat, k ≤ 4 ∧ i = .int .i64 k ∧ sq = .int .i64 (seq + ((movedTo bs L (v : Int) into seq k).length : Int)) ∧ OwnsOps wr (w.heap.size + 1) out (movedTo bs L (v : Int) into seq k) ∧ Below w0.heap.size w0 wr) (fun _ _ i _ => 4 - (intOf i).toNat)
  case atStart => exact ⟨0, Nat.zero_le _, rfl, by simp [movedTo], unhide HO0, (Below.refl _ w0).alloc (Nat.le_refl _) _⟩
  case round =>
    obtain ⟨k, hk, rfl, rfl, hO, hB⟩ := hrel
    have hsr := hB.size
    have hxr := (hB.cell (p := ⟨w.heap.size, 0, none⟩) hs0).trans hx0
    have hml := movedTo_length bs L (v : Int) into seq k
    obtain ⟨m, hm⟩ : ∃ m, m = (movedTo bs L (v : Int) into seq k).length := ⟨_, rfl⟩
    rw [← hm] at hml ⊢
    have HM := hide hm
    have HO := hide hO
    have hW := hW0.trans (hB.mono hW0.size)
    clear hm hO hx0 HO0
    by_cases hlt : k < 4
    · obtain ⟨p, hp⟩ := getElem?_ex (l := x.pages) (k := k) (by omega)
      obtain ⟨g, og, pa, pc, rfl, hcw, hcp, hpa⟩ := ((unhide HA).below hW (Nat.le_refl _)) v x (unhide HX)
      rw [h4] at hcp
      obtain ⟨g2, o2, rfl, q0, q1, q2, q3⟩ := hpa k p hp
      have hg2 : g2 < wr.heap.size := World.block_lt_of_cell? _ _ q0
      have hpi := pageIn_of (unhide HX) hp
      have hfl := unhide HF k x p (unhide HX) hp
      have HPI := hide hpi
      clear hcw hpa hp hpi
      obtain ⟨u, lg0, s, d⟩ := p
      simp only at q0 q1 q2 q3 hfl
      cases u with
      | false =>
        have HNO : Hid (movesAt bs L (v : Int) k = false) := by unfold movesAt; rw [unhide HPI]; rfl
        clear hfl
        go_wp2
        go_roundw
        case rel => exact ⟨k + 1, by omega, by go_num, by rw [movedTo_not (unhide HNO), ← unhide HM], by rw [movedTo_not (unhide HNO)]; exact (unhide HO).kept ((Below.refl _ wr).alloc (Nat.le_refl _) _), hB.alloc hB.size _⟩
        case measure => simp [intOf]; omega
      | true =>
        obtain ⟨lg, rfl, hlg⟩ := hfl rfl
        obtain ⟨y, hy⟩ := getElem?_ex (l := L) (k := lg) (by have := unhide HL; omega)
        obtain ⟨b1, o1, rfl, hcy⟩ := ((unhide HI).below hW (Nat.le_refl _)) lg y hy
        have hb1 : b1 < wr.heap.size := World.block_lt_of_cell? _ _ hcy
        have hlgi : (lg : Int) < (mn : Int) := by omega
        have HY := hide hy
        clear hy
        by_cases hmv : y = (v : Int) * 4 + (k : Int)
        · have HYES : Hid (movesAt bs L (v : Int) k = true) := (movesAt_of (unhide HPI) (unhide HY)).2 hmv
          have heq : (y == (v : Int) * 4 + (k : Int)) = true := by simpa using hmv
          obtain ⟨w5, hw5⟩ : ∃ w5, w5 = wr.alloc (.cells #[.bool true, .int .i64 (lg : Int), .int .i64 (seq + (m : Int)), .string d] 28) := ⟨_, rfl⟩
          have hB5 : Below wr.heap.size wr w5 := by rw [hw5]; exact (Below.refl _ wr).alloc (Nat.le_refl _) _
          have hs5 : w5.heap.size = wr.heap.size + 1 := by rw [hw5]; simp
          have k0 : w5.cell? ⟨wr.heap.size, 0, none⟩ = some (.bool true) := by rw [hw5]; simp
          have k1 : w5.cell? ⟨wr.heap.size, 1, none⟩ = some (.int .i64 (lg : Int)) := by rw [hw5]; simp
          have k2 : w5.cell? ⟨wr.heap.size, 2, none⟩ = some (.int .i64 (seq + (m : Int))) := by rw [hw5]; simp
          have k3 : w5.cell? ⟨wr.heap.size, 3, none⟩ = some (.string d) := by rw [hw5]; simp
          go_upto_region 9 with fail
          rw [← hw5]
          clear hw5
          obtain ⟨X, hX⟩ : ∃ X, X = opCells (movedTo bs L (v : Int) into seq k) := ⟨_, rfl⟩
          have hRw : w5.ownsRow (w.heap.size + 1) 63 6 u11 m X := by have := (unhide HO).kept hB5; rw [hX, unhide HM]; exact this
          have HXX := hide hX
          clear hX q0 q1 q2 q3 hcp hcy
          go_wp2_with (refine wpList_append_lies _ rfl (.tmp 46) (.tmp 50) 55 rfl (w.heap.size + 1) 63 i0 _ 6 56 Try.underlying55 hi hz0 hz1 hz2 rfl (by decide) u11 m X (by simp [Act.eval]) (by exact hRw.alloc _) ⟨w5.heap.size, 0, none⟩ 1 1 [.int .i64 1, .int .i64 into, .bool true, .int .i64 (lg : Int), .int .i64 (seq + (m : Int)), .string d] (by simp [Act.eval]) rfl (World.news_of_block (cs := #[.int .i64 1, .int .i64 into, .bool true, .int .i64 (lg : Int), .int .i64 (seq + (m : Int)), .string d]) (t := 63) (fr := (0, 0)) (by exact Go.Deep.blk_alloc_new _ _)) (by simp [Value.oneCell']) (by omega) (by unfold maxLen; omega) (by omega) (by simp; omega) (w5.heap.size + 1) (by simp) ?_; intro g1 cap wE hown hgrow hat hlt1)
          go_roundw
          case rel =>
            have hBE : Below (w.heap.size + 1) w5 wE := Below.grown ((Below.refl _ w5).alloc (by omega) _) hgrow (by simp; omega) (fun j e => (hRw.lt j e).1)
            have hBB : Below w0.heap.size w0 wE := by
              have h2 := (hB.trans (hB5.mono hB.size))
              have h3 := hBE.mono (Nat.le_of_eq (unhide HS0))
              exact h2.trans h3
            refine ⟨k + 1, by omega, by go_num, ?_, ?_, hBB⟩
            · rw [movedTo_yes (unhide HYES), List.length_append, ← unhide HM]
              simp
              omega
            · rw [movedTo_yes (unhide HYES), ← unhide HM, unhide HPI]
              unfold OwnsOps
              rw [List.length_append, opCells_snoc, ← unhide HXX, ← unhide HM]
              simpa using hown
          case measure => simp [intOf]; omega
        · have HNO : Hid (movesAt bs L (v : Int) k = false) := Bool.eq_false_iff.2 (fun h => hmv ((movesAt_of (unhide HPI) (unhide HY)).1 h))
          have heq : (y == (v : Int) * 4 + (k : Int)) = false := by simpa using hmv
          go_wp2
          go_roundw
          case rel => exact ⟨k + 1, by omega, by go_num, by rw [movedTo_not (unhide HNO), ← unhide HM], by rw [movedTo_not (unhide HNO)]; exact (unhide HO).kept ((Below.refl _ wr).alloc (Nat.le_refl _) _), hB.alloc hB.size _⟩
          case measure => simp [intOf]; omega
    · obtain rfl : k = 4 := by omega
      obtain ⟨X, hX⟩ : ∃ X, X = opCells (movedTo bs L (v : Int) into seq 4) := ⟨_, rfl⟩
      have hRw : wr.ownsRow (w.heap.size + 1) 63 6 u11 m X := by rw [hX, unhide HM]; exact unhide HO
      have HXX := hide hX
      have hsr' : w.heap.size + 1 ≤ wr.heap.size := by have := unhide HS0; omega
      clear hX hxr
      go_wp2_with (refine wpList_append_lies _ rfl (.tmp 52) (.tmp 55) 55 rfl (w.heap.size + 1) 63 i0 _ 6 56 Try.underlying55 hi hz0 hz1 hz2 rfl (by decide) u11 m X (by simp [Act.eval]) (by exact hRw.alloc _) ⟨wr.heap.size, 0, none⟩ 1 1 [.int .i64 2, .int .i64 (v : Int), .bool false, .int .i64 0, .int .i64 0, .string ⟨#[]⟩] (by simp [Act.eval]) rfl (World.news_of_block (cs := #[.int .i64 2, .int .i64 (v : Int), .bool false, .int .i64 0, .int .i64 0, .string ⟨#[]⟩]) (t := 63) (fr := (0, 0)) (by exact Go.Deep.blk_alloc_new _ _)) (by simp [Value.oneCell']) (by omega) (by unfold maxLen; omega) (by omega) (by simp; omega) (wr.heap.size + 1) (by simp) ?_; intro g1 cap wE hown hgrow hat hlt1)
      go_ret
      refine ⟨_, rfl, ?_, ?_⟩
      · unfold moveOps OwnsOps
        rw [List.length_append, opCells_snoc, ← unhide HXX, ← unhide HM]
        simp at hown ⊢
        exact hown
      · have hBE : Below (w.heap.size + 1) wr wE := Below.grown ((Below.refl _ wr).alloc (by omega) _) hgrow (by simp; omega) (fun j e => (hRw.lt j e).1)
        exact hW.trans (hBE.mono (by omega))
end Go.Proofs.Ytalgkmellbamgaa
