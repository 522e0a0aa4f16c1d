/- 3 texts in one. -/
import Derived.Test.YtalgkmellbamgaaGreatG06
import Derived.Test.YtalgkmellbamgaaGreatG04
import Derived.Test.YtalgkmellbamgaaGreatG05
import Derived.WalkKit
import Derived.Outline
import Derived.BigQuiet
import Derived.Test.YtalgkmellbamgaaGreatG01
import Derived.Test.YtalgkmellbamgaaGreatChecked
import Derived.Deep.DeepCutAuto

/- The free block that is worn the least: the model's l3Fresh. -/
namespace Go.Proofs.YtalgkmellbamgaaGreat
open Go.RowKit
set_option linter.unusedVariables false
set_option linter.unusedSimpArgs false

theorem fresher_but {bs : List Bk} {best f : Int} : fresher bs f best f = false := by simp [fresher]
theorem fresher_first {bs : List Bk} {but best f : Int} (h : f ≠ but) (hb : best < 0) : fresher bs but best f = true := by simp [fresher, h, hb]
theorem fresher_less {bs : List Bk} {but best f x y : Int} (h : f ≠ but) (hx : wearAt bs f = x) (hy : wearAt bs best = y) (hw : x < y) : fresher bs but best f = true := by simp [fresher, h, hx, hy, hw]
theorem fresher_not {bs : List Bk} {but best f x y : Int} (hb : 0 ≤ best) (hx : wearAt bs f = x) (hy : wearAt bs best = y) (hw : y ≤ x) : fresher bs but best f = false := by
  have h1 : ¬ best < 0 := by omega
  have h2 : ¬ x < y := by omega
  simp [fresher, h1, h2, hx, hy]
theorem freshTo_bounds {bs : List Bk} {but : Int} (k : Nat) : freshIn bs but ((freeTo bs bs.length).take k) = -1 ∨ ∃ i x, freshIn bs but ((freeTo bs bs.length).take k) = ((i : Nat) : Int) ∧ bs[i]? = some x := by
  rcases freshIn_some bs but ((freeTo bs bs.length).take k) (-1) with h | ⟨h, _⟩
  · exact .inl h
  · obtain ⟨i, hi, he, _⟩ := mem_freeTo (List.mem_of_mem_take h)
    obtain ⟨x, hx⟩ := getElem?_ex (l := bs) (k := i) hi
    exact .inr ⟨i, x, he, hx⟩

set_option maxRecDepth 100000 in
set_option maxHeartbeats 4000000 in
theorem l3Fresh_any (a : Option Addr) (c : Nat) (bs : List Bk) (n : Nat) (hl : bs.length = n) (hok : ChipOk bs) (but : Int) (w : World) (h : BlocksAt w a bs) :
    Calls Tryz.prog 110 #[.agg #[.slice a n c], .int .i64 but] w fun e w' => e = .returned (.int .i64 (freshOf bs but)) ∧ Below w.heap.size w w' := by
  have hb0 : ∀ o, Below w.heap.size w (w.alloc o) := fun o => (Below.refl _ w).alloc (Nat.le_refl _) _
  have hn12 : n ≤ 12 := by have := hok.count; omega
  go_enter Tryz.func110, Tryz.ntmps110
  go_wp2_with fail
  refine (l1Free_any a c bs n hl hok _ (h.below (hb0 _) (Nat.le_refl _))).mono ?_
  rintro e w1 ⟨v, rfl, hv, hB1⟩
  obtain ⟨fa, fc, rfl, hI, _⟩ := hv.form
  have hs1 := hB1.size
  simp at hs1
  have hx1 : w1.cell? ⟨w.heap.size, 0, none⟩ = some (.slice a n c) := by
    rw [hB1.cell (p := ⟨w.heap.size, 0, none⟩) (by simp)]
    simp
  have hW1 : Below w.heap.size w w1 := (hb0 _).trans (hB1.mono (by simp))
  have hA := h.below hW1 (Nat.le_refl _)
  have hq := freeTo_length bs n
  obtain ⟨q, hqq⟩ : ∃ q, q = (freeTo bs n).length := ⟨_, rfl⟩
  rw [← hqq] at hq ⊢
  subst hl
  have HI := hide hI
  have HA := hide hA
  have HQ := hide hqq
  clear hv hI hA h hb0 hB1 hok hqq
  go_wp2
  go_loopw [5, 7] (fun v i wr => ∃ k : Nat, k ≤ q ∧ i = .int .i64 k ∧ v = .int .i64 (freshIn bs but ((freeTo bs bs.length).take k)) ∧ Below w1.heap.size w1 wr) (fun _ i _ => q - (intOf i).toNat)
  case atStart => exact ⟨0, Nat.zero_le _, rfl, by simp [freshIn], Below.refl _ _⟩
  case round =>
    obtain ⟨k, hk, rfl, rfl, hB⟩ := hrel
    have hsr := hB.size
    have hxr := (hB.cell (p := ⟨w.heap.size, 0, none⟩) (by show w.heap.size < _; omega)).trans hx1
    by_cases hlt : k < q
    · obtain ⟨f, hf⟩ := getElem?_ex (l := freeTo bs bs.length) (k := k) (by have := unhide HQ; omega)
      obtain ⟨j, hj, rfl, _⟩ := mem_freeTo (List.mem_of_getElem? hf)
      obtain ⟨x, hx⟩ := getElem?_ex (l := bs) (k := j) hj
      obtain ⟨b1, o1, rfl, hcf⟩ := ((unhide HI).below hB (Nat.le_refl _)) k _ hf
      obtain ⟨g, og, pa, pc, ha, hcw, _, _⟩ := ((unhide HA).below hB (Nat.le_refl _)) j x hx
      have HST := hide (freshIn_take (bs := bs) (but := but) hf)
      have HW := hide (wearAt_of hx)
      have hbb := freshTo_bounds (bs := bs) (but := but) k
      obtain ⟨best, hbest⟩ : ∃ best, best = freshIn bs but ((freeTo bs bs.length).take k) := ⟨_, rfl⟩
      rw [← hbest] at HST hbb ⊢
      clear hf hx hbest hx1
      by_cases hfb : (j : Int) = but
      · have heq : ((j : Int) != but) = false := by simpa using hfb
        go_wp2_with fail
        go_quiet (fail)
        go_wp2
        go_roundw
        case rel => exact ⟨k + 1, by omega, by go_num, by rw [unhide HST, ← hfb, freshStep_no fresher_but], Below.drewN hB _⟩
        case measure => simp [intOf]; omega
      · have heq : ((j : Int) != but) = true := by simpa using hfb
        rcases hbb with rfl | ⟨i, y, rfl, hy⟩
        · go_wp2_with fail
          go_quiet (fail)
          go_wp2
          go_roundw
          case rel => exact ⟨k + 1, by omega, by go_num, by rw [unhide HST, freshStep_yes (fresher_first hfb (by omega))], Below.drewN hB _⟩
          case measure => simp [intOf]; omega
        · obtain ⟨g2, og2, _, _, ha2, hcw2, _, _⟩ := ((unhide HA).below hB (Nat.le_refl _)) i y hy
          have hil : i < bs.length := (List.getElem?_eq_some_iff.1 hy).1
          rw [ha] at ha2
          cases ha2
          subst ha
          have HY := hide (wearAt_of hy)
          clear hy
          by_cases hw : x.wear < y.wear
          · go_wp2_with fail
            go_quiet (fail)
            go_wp2
            go_roundw
            case rel => exact ⟨k + 1, by omega, by go_num, by rw [unhide HST, freshStep_yes (fresher_less hfb (unhide HW) (unhide HY) hw)], Below.drewN hB _⟩
            case measure => simp [intOf]; omega
          · have hw' : y.wear ≤ x.wear := by omega
            go_wp2_with fail
            go_quiet (fail)
            go_wp2
            go_roundw
            case rel => exact ⟨k + 1, by omega, by go_num, by rw [unhide HST, freshStep_no (fresher_not (by omega) (unhide HW) (unhide HY) hw')], Below.drewN hB _⟩
            case measure => simp [intOf]; omega
    · obtain rfl : k = q := by omega
      have HE : Hid ((freeTo bs bs.length).take k = freeTo bs bs.length) := by have := unhide HQ; rw [this]; exact List.take_length
      rw [unhide HE]
      have hW := hW1.trans (hB.mono hW1.size)
      clear hx1 hxr
      go_wp2
      go_ret
      exact ⟨rfl, hW⟩
end Go.Proofs.YtalgkmellbamgaaGreat

/- Lists of ops that append has built. -/
namespace Go.Proofs.YtalgkmellbamgaaGreat
open Go.RowKit
set_option linter.unusedVariables false
set_option linter.unusedSimpArgs false

def opCells (xs : List Opn) : List Value := xs.flatMap fun x => [.int .i64 x.kind, .int .i64 x.block, .bool x.page.used, .int .i64 x.page.log, .int .i64 x.page.seq, .string x.page.data]
theorem opCells_at {xs : List Opn} : ∀ {i : Nat} {x : Opn}, xs[i]? = some x → ∀ j, j < 6 → (opCells xs)[i * 6 + j]? = some (opV x j) := by
  induction xs with
  | nil => intro i x h; simp at h
  | cons y xs ih =>
    intro i x h j hj
    have e : opCells (y :: xs) = [.int .i64 y.kind, .int .i64 y.block, .bool y.page.used, .int .i64 y.page.log, .int .i64 y.page.seq, .string y.page.data] ++ opCells xs := rfl
    cases i with
    | zero =>
      simp at h; subst h
      rw [e, List.getElem?_append_left (by simp; omega)]
      have h6 : j = 0 ∨ j = 1 ∨ j = 2 ∨ j = 3 ∨ j = 4 ∨ j = 5 := by omega
      rcases h6 with rfl | rfl | rfl | rfl | rfl | rfl <;> rfl
    | succ i =>
      rw [e, List.getElem?_append_right (by simp; omega)]
      rw [show (i + 1) * 6 + j - [Value.int .i64 y.kind, .int .i64 y.block, .bool y.page.used, .int .i64 y.page.log, .int .i64 y.page.seq, .string y.page.data].length = i * 6 + j by simp; omega]
      exact ih (by simpa using h) j hj

/-- The slice v holds the ops xs, in a row that was made from block B on and may be written. -/
def OwnsOps (w : World) (B : Nat) (v : Value) (xs : List Opn) : Prop := w.ownsRow B 73 6 v xs.length (opCells xs)
theorem OwnsOps.touch {w w' : World} {B r : Nat} {v : Value} {xs : List Opn} (h : OwnsOps w B v xs) (hr : r < B) (hT : Touch (· = r) w w') : OwnsOps w' B v xs := by
  refine ⟨h.1, ?_⟩
  rcases h.2 with ⟨hv, hl⟩ | ⟨g, cap, cur, rfl, hb, hg, hrest⟩
  · exact .inl ⟨hv, hl⟩
  · refine .inr ⟨g, cap, cur, rfl, hb, ?_, hrest⟩
    rw [hT.block g (Array.getElem?_eq_some_iff.1 hg).1 (by show ¬ g = r; omega)]
    exact hg
theorem OwnsOps.nil (w : World) (B : Nat) (hB : B ≤ w.heap.size) : OwnsOps (w.alloc (.cells #[] 73)) B (.slice (some ⟨w.heap.size, 0, none⟩) 0 0) [] := by
  have := World.ownsRow_lit (base := B) (e := 73) (size := 6) w #[] 0 hB (by unfold maxLen; omega) rfl
  simpa [OwnsOps, opCells] using this
theorem OwnsOps.form {w : World} {B : Nat} {v : Value} {xs : List Opn} (h : OwnsOps w B v xs) : ∃ a c, v = .slice a xs.length c ∧ OpsAt w a xs ∧ xs.length ≤ c := by
  have h0 := h
  rcases h.2 with ⟨hv, hl⟩ | ⟨g, cap, cur, rfl, hb, hg, hn, _⟩
  · exact ⟨none, 0, by rw [hv, hl], fun i x hx => by have := (List.getElem?_eq_some_iff.1 hx).1; omega, by omega⟩
  · refine ⟨_, _, rfl, fun i x hx => ?_, hn⟩
    have c : ∀ j, j < 6 → w.cell? ⟨g, 0 + i * 6 + j, none⟩ = some (opV x j) := fun j hj => by
      rw [Nat.zero_add]
      exact ownsRow_cell h0 (opCells_at hx j hj)
    exact ⟨g, 0, rfl, c 0 (by omega), c 1 (by omega), c 2 (by omega), c 3 (by omega), c 4 (by omega), c 5 (by omega)⟩
theorem infoCOp : (Tryz.prog.info? 73).map (fun i => (i.zero, i.size, i.bytes)) = some (some (.agg #[.int .i64 0, .int .i64 0, .bool false, .int .i64 0, .int .i64 0, .string ByteArray.empty]), 6, 56) := by kernel_rfl
theorem OwnsOps.kept {w w' : World} {B : Nat} {v : Value} {xs : List Opn} (h : OwnsOps w B v xs) (hb : Below w.heap.size w w') : OwnsOps w' B v xs := by
  have hg : w.grownBy w' none := ⟨hb.os, hb.tape, hb.output, hb.size, fun k hk _ => hb.block k hk⟩
  refine World.ownsRow.kept h hg ?_
  cases hv : v.ownBlock with
  | none => exact Or.inl rfl
  | some k => exact Or.inr (by simp)
theorem OwnsOps.lower {w : World} {B B' : Nat} {v : Value} {xs : List Opn} (h : OwnsOps w B v xs) (hB : B' ≤ B) : OwnsOps w B' v xs := by
  refine ⟨h.1, ?_⟩
  rcases h.2 with h0 | ⟨g, cap, cur, e1, e2, e3⟩
  · exact .inl h0
  · exact .inr ⟨g, cap, cur, e1, by omega, e3⟩
theorem opCells_snoc (xs : List Opn) (x : Opn) : opCells (xs ++ [x]) = opCells xs ++ [.int .i64 x.kind, .int .i64 x.block, .bool x.page.used, .int .i64 x.page.log, .int .i64 x.page.seq, .string x.page.data] := by simp [opCells]
end Go.Proofs.YtalgkmellbamgaaGreat

/- A block is emptied: the model's l3Move. -/
namespace Go.Proofs.YtalgkmellbamgaaGreat
open Go.RowKit
set_option linter.unusedVariables false
set_option linter.unusedSimpArgs false

theorem movedTo_not {bs : List Bk} {L : List Int} {v into seq : Int} {k : Nat} (h : movesAt bs L v k = false) : movedTo bs L v into seq (k + 1) = movedTo bs L v into seq k := by simp [movedTo, h]
theorem movedTo_yes {bs : List Bk} {L : List Int} {v into seq : Int} {k : Nat} (h : movesAt bs L v k = true) : movedTo bs L v into seq (k + 1) = movedTo bs L v into seq k ++ [⟨1, into, { pageIn bs v k with seq := seq + ((movedTo bs L v into seq k).length : Int) }⟩] := by simp [movedTo, h]
theorem movesAt_of {bs : List Bk} {L : List Int} {v : Int} {k lg : Nat} {s y : Int} {d : ByteArray} (hp : pageIn bs v k = ⟨true, (lg : Int), s, d⟩) (hy : L[lg]? = some y) : movesAt bs L v k = true ↔ y = v * 4 + (k : Int) := by
  have e : L[(pageIn bs v k).log.toNat]? = some y := by rw [hp]; simpa using hy
  have e2 : (pageIn bs v k).used = true := by rw [hp]
  unfold movesAt
  rw [Bool.and_eq_true, decide_eq_true_eq, e, e2]
  simp

set_option maxRecDepth 100000 in
set_option maxHeartbeats 4000000 in
theorem l3Move_any (a : Option Addr) (c : Nat) (bs : List Bk) (n : Nat) (hl : bs.length = n) (ma : Option Addr) (mc : Nat) (L : List Int) (mn : Nat) (hL : L.length = mn) (hok : ChipOk bs) (hfit : ∀ (b k : Nat) (x : Bk) (p : Pg), bs[b]? = some x → x.pages[k]? = some p → p.used = true → ∃ lg : Nat, p.log = (lg : Int) ∧ lg < mn) (hmn : mn ≤ 36)
    (v : Nat) (hv : v < n) (into seq : Int) (h0 : 0 ≤ seq) (h1 : seq ≤ 1000000000) (w : World) (h : BlocksAt w a bs) (hI : IntsAt w ma L) :
    Calls Tryz.prog 111 #[.agg #[.slice a n c], .slice ma mn mc, .int .i64 (v : Int), .int .i64 into, .int .i64 seq] w fun e w' => ∃ r, e = .returned r ∧ OwnsOps w' (w.heap.size + 1) r (moveOps bs L (v : Int) into seq) ∧ Below w.heap.size w w' := by
  have hn12 : n ≤ 12 := by have := hok.count; omega
  obtain ⟨i0, hi, hz0, hz1, hz2⟩ := info_parts infoCOp
  obtain ⟨x, hx⟩ := getElem?_ex (l := bs) (k := v) (by omega)
  have h4 := (hok.block x (List.mem_of_getElem? hx)).four
  have HX := hide hx
  have HL := hide hL
  have HF := hide (hfit v)
  have HA := hide h
  have HI := hide hI
  clear hfit hok hx h hI hL
  go_enter Tryz.func111, Tryz.ntmps111
  go_wp2_with fail
  obtain ⟨w0, hw0⟩ : ∃ w0, w0 = w.alloc (.cells #[.slice a n c] 26) := ⟨_, rfl⟩
  have hs0 : w.heap.size < w0.heap.size := by rw [hw0]; simp
  have hs0' : w0.heap.size = w.heap.size + 1 := by rw [hw0]; simp
  have hx0 : w0.cell? ⟨w.heap.size, 0, none⟩ = some (.slice a n c) := by rw [hw0]; simp
  have hW0 : Below w.heap.size w w0 := by rw [hw0]; exact (Below.refl _ w).alloc (Nat.le_refl _) _
  have HO0 : Hid (OwnsOps (w0.alloc (.cells #[] 73)) (w.heap.size + 1) (.slice (some ⟨w.heap.size + 1, 0, none⟩) 0 0) []) := by rw [← hs0']; exact OwnsOps.nil w0 w0.heap.size (Nat.le_refl _)
  have HS0 := hide hs0'
  rw [← hw0]
  clear hw0 hs0'
  go_wp2
  go_loopw [4, 11, 12] (fun sq out i wr => ∃ k : Nat, k ≤ 4 ∧ i = .int .i64 k ∧ sq = .int .i64 (seq + ((movedTo bs L (v : Int) into seq k).length : Int)) ∧ OwnsOps wr (w.heap.size + 1) out (movedTo bs L (v : Int) into seq k) ∧ Below w0.heap.size w0 wr) (fun _ _ i _ => 4 - (intOf i).toNat)
  case atStart => exact ⟨0, Nat.zero_le _, rfl, by simp [movedTo], unhide HO0, (Below.refl _ w0).alloc (Nat.le_refl _) _⟩
  case round =>
    obtain ⟨k, hk, rfl, rfl, hO, hB⟩ := hrel
    have hsr := hB.size
    have hxr := (hB.cell (p := ⟨w.heap.size, 0, none⟩) hs0).trans hx0
    have hml := movedTo_length bs L (v : Int) into seq k
    obtain ⟨m, hm⟩ : ∃ m, m = (movedTo bs L (v : Int) into seq k).length := ⟨_, rfl⟩
    rw [← hm] at hml ⊢
    have HM := hide hm
    have HO := hide hO
    have hW := hW0.trans (hB.mono hW0.size)
    clear hm hO hx0 HO0
    by_cases hlt : k < 4
    · obtain ⟨p, hp⟩ := getElem?_ex (l := x.pages) (k := k) (by omega)
      obtain ⟨g, og, pa, pc, rfl, hcw, hcp, hpa⟩ := ((unhide HA).below hW (Nat.le_refl _)) v x (unhide HX)
      rw [h4] at hcp
      obtain ⟨g2, o2, rfl, q0, q1, q2, q3⟩ := hpa k p hp
      have hg2 : g2 < wr.heap.size := World.block_lt_of_cell? _ _ q0
      have hpi := pageIn_of (unhide HX) hp
      have hfl := unhide HF k x p (unhide HX) hp
      have HPI := hide hpi
      clear hcw hpa hp hpi
      obtain ⟨u, lg0, s, d⟩ := p
      simp only at q0 q1 q2 q3 hfl
      cases u with
      | false =>
        have HNO : Hid (movesAt bs L (v : Int) k = false) := by unfold movesAt; rw [unhide HPI]; rfl
        clear hfl
        go_wp2
        go_roundw
        case rel => exact ⟨k + 1, by omega, by go_num, by rw [movedTo_not (unhide HNO), ← unhide HM], by rw [movedTo_not (unhide HNO)]; exact (unhide HO).kept ((Below.refl _ wr).alloc (Nat.le_refl _) _), hB.alloc hB.size _⟩
        case measure => simp [intOf]; omega
      | true =>
        obtain ⟨lg, rfl, hlg⟩ := hfl rfl
        obtain ⟨y, hy⟩ := getElem?_ex (l := L) (k := lg) (by have := unhide HL; omega)
        obtain ⟨b1, o1, rfl, hcy⟩ := ((unhide HI).below hW (Nat.le_refl _)) lg y hy
        have hb1 : b1 < wr.heap.size := World.block_lt_of_cell? _ _ hcy
        have hlgi : (lg : Int) < (mn : Int) := by omega
        have HY := hide hy
        clear hy
        by_cases hmv : y = (v : Int) * 4 + (k : Int)
        · have HYES : Hid (movesAt bs L (v : Int) k = true) := (movesAt_of (unhide HPI) (unhide HY)).2 hmv
          have heq : (y == (v : Int) * 4 + (k : Int)) = true := by simpa using hmv
          obtain ⟨w5, hw5⟩ : ∃ w5, w5 = wr.alloc (.cells #[.bool true, .int .i64 (lg : Int), .int .i64 (seq + (m : Int)), .string d] 59) := ⟨_, rfl⟩
          have hB5 : Below wr.heap.size wr w5 := by rw [hw5]; exact (Below.refl _ wr).alloc (Nat.le_refl _) _
          have hs5 : w5.heap.size = wr.heap.size + 1 := by rw [hw5]; simp
          have k0 : w5.cell? ⟨wr.heap.size, 0, none⟩ = some (.bool true) := by rw [hw5]; simp
          have k1 : w5.cell? ⟨wr.heap.size, 1, none⟩ = some (.int .i64 (lg : Int)) := by rw [hw5]; simp
          have k2 : w5.cell? ⟨wr.heap.size, 2, none⟩ = some (.int .i64 (seq + (m : Int))) := by rw [hw5]; simp
          have k3 : w5.cell? ⟨wr.heap.size, 3, none⟩ = some (.string d) := by rw [hw5]; simp
          go_upto_region 9 with fail
          rw [← hw5]
          clear hw5
          obtain ⟨X, hX⟩ : ∃ X, X = opCells (movedTo bs L (v : Int) into seq k) := ⟨_, rfl⟩
          have hRw : w5.ownsRow (w.heap.size + 1) 73 6 u11 m X := by have := (unhide HO).kept hB5; rw [hX, unhide HM]; exact this
          have HXX := hide hX
          clear hX q0 q1 q2 q3 hcp hcy
          go_wp2_with (refine wpList_append_lies _ rfl (.tmp 46) (.tmp 50) 122 rfl (w.heap.size + 1) 73 i0 _ 6 56 Tryz.underlying122 hi hz0 hz1 hz2 rfl (by decide) u11 m X (by simp [Act.eval]) (by exact hRw.alloc _) ⟨w5.heap.size, 0, none⟩ 1 1 [.int .i64 1, .int .i64 into, .bool true, .int .i64 (lg : Int), .int .i64 (seq + (m : Int)), .string d] (by simp [Act.eval]) rfl (World.news_of_block (cs := #[.int .i64 1, .int .i64 into, .bool true, .int .i64 (lg : Int), .int .i64 (seq + (m : Int)), .string d]) (t := 73) (fr := (0, 0)) (by exact Go.Deep.blk_alloc_new _ _)) (by simp [Value.oneCell']) (by omega) (by unfold maxLen; omega) (by omega) (by simp; omega) (w5.heap.size + 1) (by simp) ?_; intro g1 cap wE hown hgrow hat hlt1)
          go_roundw
          case rel =>
            have hBE : Below (w.heap.size + 1) w5 wE := Below.grown ((Below.refl _ w5).alloc (by omega) _) hgrow (by simp; omega) (fun j e => (hRw.lt j e).1)
            have hBB : Below w0.heap.size w0 wE := by
              have h2 := (hB.trans (hB5.mono hB.size))
              have h3 := hBE.mono (Nat.le_of_eq (unhide HS0))
              exact h2.trans h3
            refine ⟨k + 1, by omega, by go_num, ?_, ?_, hBB⟩
            · rw [movedTo_yes (unhide HYES), List.length_append, ← unhide HM]
              simp
              omega
            · rw [movedTo_yes (unhide HYES), ← unhide HM, unhide HPI]
              unfold OwnsOps
              rw [List.length_append, opCells_snoc, ← unhide HXX, ← unhide HM]
              simpa using hown
          case measure => simp [intOf]; omega
        · have HNO : Hid (movesAt bs L (v : Int) k = false) := Bool.eq_false_iff.2 (fun h => hmv ((movesAt_of (unhide HPI) (unhide HY)).1 h))
          have heq : (y == (v : Int) * 4 + (k : Int)) = false := by simpa using hmv
          go_wp2
          go_roundw
          case rel => exact ⟨k + 1, by omega, by go_num, by rw [movedTo_not (unhide HNO), ← unhide HM], by rw [movedTo_not (unhide HNO)]; exact (unhide HO).kept ((Below.refl _ wr).alloc (Nat.le_refl _) _), hB.alloc hB.size _⟩
          case measure => simp [intOf]; omega
    · obtain rfl : k = 4 := by omega
      obtain ⟨X, hX⟩ : ∃ X, X = opCells (movedTo bs L (v : Int) into seq 4) := ⟨_, rfl⟩
      have hRw : wr.ownsRow (w.heap.size + 1) 73 6 u11 m X := by rw [hX, unhide HM]; exact unhide HO
      have HXX := hide hX
      have hsr' : w.heap.size + 1 ≤ wr.heap.size := by have := unhide HS0; omega
      clear hX hxr
      go_wp2_with (refine wpList_append_lies _ rfl (.tmp 52) (.tmp 55) 122 rfl (w.heap.size + 1) 73 i0 _ 6 56 Tryz.underlying122 hi hz0 hz1 hz2 rfl (by decide) u11 m X (by simp [Act.eval]) (by exact hRw.alloc _) ⟨wr.heap.size, 0, none⟩ 1 1 [.int .i64 2, .int .i64 (v : Int), .bool false, .int .i64 0, .int .i64 0, .string ⟨#[]⟩] (by simp [Act.eval]) rfl (World.news_of_block (cs := #[.int .i64 2, .int .i64 (v : Int), .bool false, .int .i64 0, .int .i64 0, .string ⟨#[]⟩]) (t := 73) (fr := (0, 0)) (by exact Go.Deep.blk_alloc_new _ _)) (by simp [Value.oneCell']) (by omega) (by unfold maxLen; omega) (by omega) (by simp; omega) (wr.heap.size + 1) (by simp) ?_; intro g1 cap wE hown hgrow hat hlt1)
      go_ret
      refine ⟨_, rfl, ?_, ?_⟩
      · unfold moveOps OwnsOps
        rw [List.length_append, opCells_snoc, ← unhide HXX, ← unhide HM]
        simp at hown ⊢
        exact hown
      · have hBE : Below (w.heap.size + 1) wr wE := Below.grown ((Below.refl _ wr).alloc (by omega) _) hgrow (by simp; omega) (fun j e => (hRw.lt j e).1)
        exact hW.trans (hBE.mono (by omega))
end Go.Proofs.YtalgkmellbamgaaGreat
