/- Ops done one by one: the model's l3Did and Did. -/
import Derived.Test.YtalgkmellbamgaaDidS
import Derived.Test.YtalgkmellbamgaaCopy
import Derived.Deep.RegionHeld3
import Derived.Deep.DeepCutAuto
namespace Go.Proofs.Ytalgkmellbamgaa
open Go.RowKit
set_option linter.unusedVariables false
set_option linter.unusedSimpArgs false

/-- A row of one cell that holds a slice holds no number and no page: so what is read as blocks or as ops lies elsewhere. -/
theorem blocksAt_apartS {w w' : World} {B : Nat} {ty : TypeId} {x : Option Addr} {y z : Nat} {a : Option Addr} {bs : List Bk} (hr : w.heap[B]? = some (.cells #[.slice x y z] ty (0, 0))) (h : BlocksAt w a bs) (hT : Touch (· = B) w w') : BlocksAt w' a bs := by
  have hz : ∀ {i : Nat} {v : Value}, w.cell? ⟨B, i, none⟩ = some v → v = .slice x y z := by
    intro i v hv
    rw [cell_of_row _ _ i _ _ _ hr] at hv
    match i with
    | 0 => simp at hv; exact hv.symm
    | i + 1 => simp at hv
  intro i b hb
  obtain ⟨g, o, pa, pc, ha, c0, c1, hp⟩ := h i b hb
  have hg : g ≠ B := by
    rintro rfl
    have e := hz c0
    cases e
  have hc : ∀ j, w'.cell? ⟨g, j, none⟩ = w.cell? ⟨g, j, none⟩ := fun j => World.cell?_of_block (w := w) (a := ⟨g, j, none⟩) (hT.block g (World.block_lt_of_cell? _ _ c0) hg)
  refine ⟨g, o, pa, pc, ha, (hc _).trans c0, (hc _).trans c1, fun k p hk => ?_⟩
  obtain ⟨g2, o2, ha2, d0, d1, d2, d3⟩ := hp k p hk
  have hg2 : g2 ≠ B := by
    rintro rfl
    have e := hz d0
    cases e
  have hc2 : ∀ j, w'.cell? ⟨g2, j, none⟩ = w.cell? ⟨g2, j, none⟩ := fun j => World.cell?_of_block (w := w) (a := ⟨g2, j, none⟩) (hT.block g2 (World.block_lt_of_cell? _ _ d0) hg2)
  exact ⟨g2, o2, ha2, (hc2 _).trans d0, (hc2 _).trans d1, (hc2 _).trans d2, (hc2 _).trans d3⟩

/-- What the statement 'next, ok := l3Op(now, l[i])' leaves: the variable made, and whether the op was done. -/
def MadeOp (wz : World) (bs : List Bk) (x : Opn) (v8 v9 : Value) (wx : World) : Prop :=
  ∃ (P8 : Nat) (a0 : Option Addr) (n0 c0 : Nat) (out : List Bk) (r : Bool) (ty : TypeId), v8 = .pointer (some ⟨P8, 0, none⟩) ∧ v9 = .bool r ∧ wz.heap.size ≤ P8 ∧ wx.heap[P8]? = some (.cells #[.slice a0 n0 c0] ty (0, 0)) ∧ out.length = n0 ∧ BlocksAt wx a0 out ∧ (r = true → OpStep bs x out) ∧ (r = false → ¬ ∃ o, OpStep bs x o) ∧ Below wz.heap.size wz wx

theorem MadeOp.after {wz w3 : World} {bs : List Bk} {x : Opn} {a0 : Option Addr} {n0 c0 : Nat} {out : List Bk} {r : Bool} (t : TypeId) (hB : Below wz.heap.size wz w3) (hl : out.length = n0) (hA : BlocksAt w3 a0 out) (h1 : r = true → OpStep bs x out) (h2 : r = false → ¬ ∃ o, OpStep bs x o) :
    MadeOp wz bs x (.pointer (some ⟨w3.heap.size, 0, none⟩)) (.bool r) (w3.alloc (.cells #[.slice a0 n0 c0] t)) :=
  ⟨w3.heap.size, a0, n0, c0, out, r, t, rfl, rfl, hB.size, World.alloc_heap_new _ _, hl, hA.below ((Below.refl _ w3).alloc (Nat.le_refl _) _) (Nat.le_refl _), h1, h2, hB.alloc hB.size _⟩
theorem MadeOp.ahead {wz w3 : World} {bs : List Bk} {x : Opn} {a0 : Option Addr} {n0 c0 P : Nat} {out : List Bk} {r : Bool} (t : TypeId) (hB : Below wz.heap.size wz w3) (hP : wz.heap.size ≤ P) (hr : w3.heap[P]? = some (.cells #[.slice none 0 0] t (0, 0))) (hl : out.length = n0) (hA : BlocksAt w3 a0 out) (h1 : r = true → OpStep bs x out) (h2 : r = false → ¬ ∃ o, OpStep bs x o) :
    MadeOp wz bs x (.pointer (some ⟨P, 0, none⟩)) (.bool r) (w3.setCell ⟨P, 0, none⟩ (.slice a0 n0 c0)) :=
  ⟨P, a0, n0, c0, out, r, t, rfl, rfl, hP, by have := blk_setCell_same 0 (.slice a0 n0 c0) hr; simpa using this, hl, blocksAt_apartS hr hA (touch1 _ _ _), h1, h2, hB.setCell hP _⟩

theorem OpStep.length {bs : List Bk} {x : Opn} {out : List Bk} (h : OpStep bs x out) : out.length = bs.length := by
  rcases h with ⟨_, h2⟩ | ⟨_, h2, _⟩
  · rcases h2 with ⟨_, _, h⟩ | ⟨_, _, rfl, _⟩ | ⟨_, _, b, r, _, _, ⟨_, rfl, _⟩ | ⟨_, rfl, _⟩⟩
    · omega
    · rfl
    · rfl
    · simp
  · rcases h2 with ⟨_, _, h⟩ | ⟨_, _, rfl, _⟩ | ⟨_, _, b, _, ⟨_, rfl, _⟩ | ⟨_, rfl, _⟩⟩
    · omega
    · rfl
    · rfl
    · simp
theorem runs_stop {bs now : List Bk} {xs : List Opn} {k : Nat} {x : Opn} (hx : xs[k]? = some x) (hR : Runs bs (xs.take k) now) (h : ¬ ∃ o, OpStep now x o) : ¬ ∃ o, Runs bs xs o := by
  rintro ⟨o, ho⟩
  have e : xs = (xs.take k ++ [x]) ++ xs.drop (k + 1) := by
    obtain ⟨hi, rfl⟩ := List.getElem?_eq_some_iff.1 hx
    simp
  rw [e] at ho
  obtain ⟨m1, h1, _⟩ := ho.split
  obtain ⟨m2, h2, h3⟩ := runs_snoc.1 h1
  obtain rfl := h2.one hR
  exact h ⟨_, h3⟩
theorem runs_next {bs now out : List Bk} {xs : List Opn} {k : Nat} {x : Opn} (hx : xs[k]? = some x) (hR : Runs bs (xs.take k) now) (h : OpStep now x out) : Runs bs (xs.take (k + 1)) out := by
  have e : xs.take (k + 1) = xs.take k ++ [x] := by rw [List.take_add_one, hx]; rfl
  rw [e]
  exact runs_snoc.2 ⟨now, hR, h⟩

/-- What l3Did answers. -/
def DidRet (bs : List Bk) (xs : List Opn) (e : Ending) (w' : World) : Prop :=
  ∃ (a : Option Addr) (n c : Nat) (out : List Bk) (r : Bool), e = .returned (.tuple #[.agg #[.slice a n c], .bool r]) ∧ out.length = n ∧ BlocksAt w' a out ∧ ((r = true ∧ Runs bs xs out) ∨ (r = false ∧ out = [] ∧ ¬ ∃ o, Runs bs xs o))

set_option maxRecDepth 100000 in
set_option maxHeartbeats 4000000 in
theorem l3Did_any (a : Option Addr) (c : Nat) (bs : List Bk) (n : Nat) (hl : bs.length = n) (hok : ChipOk bs) (la : Option Addr) (lc : Nat) (xs : List Opn) (m : Nat) (hm : xs.length = m) (hm20 : m ≤ 1048576) (w : World) (h : BlocksAt w a bs) (hx : OpsAt w la xs) :
    Calls Try.prog 96 #[.agg #[.slice a n c], .slice la m lc] w fun e w' => DidRet bs xs e w' ∧ Below w.heap.size w w' := by
  have hb0 : ∀ o1 o2, Below w.heap.size w ((w.alloc o1).alloc o2) := fun o1 o2 => ((Below.refl _ w).alloc (Nat.le_refl _) _).alloc (by simp) _
  have HM := hide hm
  have HX := hide hx
  clear hm hx
  go_enter Try.func96, Try.ntmps96
  go_wp2_with fail
  refine (l1Copy_any a c bs n hl hok _ (h.below (hb0 _ _) (Nat.le_refl _))).mono ?_
  rintro e w1 ⟨v, Q, C, rfl, hS, hB1⟩
  obtain ⟨a1, c1, rfl, hA1⟩ := hS.form
  have hs1 := hB1.size
  simp at hs1
  have hz1 : w1.heap[w.heap.size + 1]? = some (.cells #[.slice none 0 0] 26 (0, 0)) := (hB1.block _ (by simp)).trans (heap_alloc2_new _ _ _)
  have hW1 : Below w.heap.size w w1 := (hb0 _ _).trans (hB1.mono (by simp; omega))
  rw [hl]
  have HA1 := hide hA1
  have HZ1 := hide hz1
  have HOK := hide hok
  have HL := hide hl
  clear hS hA1 hz1 hB1 hb0 h hok hl
  go_wp2
  go_loopw [7] (fun i wr => ∃ (k : Nat) (a6 : Option Addr) (c6 : Nat) (now : List Bk), k ≤ m ∧ i = .int .i64 k ∧ wr.heap[w1.heap.size]? = some (.cells #[.slice a6 n c6] 26 (0, 0)) ∧ wr.heap[w.heap.size + 1]? = some (.cells #[.slice none 0 0] 26 (0, 0)) ∧ BlocksAt wr a6 now ∧ now.length = n ∧ ChipOk now ∧ Runs bs (xs.take k) now ∧ Below w.heap.size w wr ∧ w1.heap.size < wr.heap.size) (fun i _ => m - (intOf i).toNat)
  case atStart =>
    refine ⟨0, a1, c1, bs, Nat.zero_le _, rfl, World.alloc_heap_new _ _, (Below.heap_alloc _ _ _ (by omega)).trans (unhide HZ1), (unhide HA1).below ((Below.refl _ w1).alloc (Nat.le_refl _) _) (Nat.le_refl _), unhide HL, unhide HOK, rfl, hW1.alloc hW1.size _, by simp⟩
  case round =>
    obtain ⟨k, a6, c6, now, hk, rfl, r6, rz, hAn, hln, hokn, hR, hWr, hsr⟩ := hrel
    obtain ⟨wz, rfl⟩ : ∃ wz, wz = wr := ⟨_, rfl⟩
    have c60 := cell_of_row _ _ 0 _ _ _ r6
    have f60 := frozen_of_row _ _ 0 _ _ r6
    simp at c60
    have HR6 := hide r6
    have HRZ := hide rz
    have HAN := hide hAn
    have HLN := hide hln
    have HOKN := hide hokn
    have HRUN := hide hR
    clear r6 rz hAn hln hokn hR
    by_cases hlt : k < m
    · obtain ⟨x, hx⟩ := getElem?_ex (l := xs) (k := k) (by have := unhide HM; omega)
      obtain ⟨b1, o1, rfl, g0, g1, g2, g3, g4, g5⟩ := ((unhide HX).below hWr (Nat.le_refl _)) k x hx
      have hb1 : b1 < wz.heap.size := World.block_lt_of_cell? _ _ g0
      have HXK := hide hx
      clear hx
      go_upto_region 5 with fail
      go_cut [8, 9] from 12 to 30 (fun v8 v9 wx => MadeOp wz now x v8 v9 wx)
      case first =>
        go_region_held3 (fun W => ∀ b o, b < wz.heap.size → W.cell? ⟨b, o, none⟩ = wz.cell? ⟨b, o, none⟩)
          (first
            | (intro b o hb; rfl)
            | (intro b o hb; exact (unhide HZ3).cell (p := ⟨b, o, none⟩) hb)
            | (intro b o hb; rw [cell_drew, cell_alloc_lt _ _ _ _ (by omega)])
            | (intro b o hb; rw [cell_alloc_lt _ _ _ _ (by omega)]; exact (unhide HZ3).cell (p := ⟨b, o, none⟩) hb)
            | (intro b o hb; rw [World.cell?_setCell_other _ _ _ _ (by simp <;> omega)]; exact (unhide HZ3).cell (p := ⟨b, o, none⟩) hb)
            | (intro b o hb; rw [cell_alloc_lt _ _ _ _ (by simp [World.setCell] <;> omega), World.cell?_setCell_other _ _ _ _ (by simp <;> omega)]; exact (unhide HZ3).cell (p := ⟨b, o, none⟩) hb))
          (first
            | (go_at_call 138
               refine (l3Op_any a6 c6 now n (unhide HLN) (unhide HOKN) x _ (by first | exact (unhide HAN).below (Below.refl wz.heap.size wz).drew (Nat.le_refl _) | exact (unhide HAN).below ((Below.refl wz.heap.size wz).alloc (Nat.le_refl _) _).drew (Nat.le_refl _) | exact (unhide HAN).below ((Below.refl wz.heap.size wz).drew.alloc (Nat.le_refl _) _) (Nat.le_refl _))).mono ?_
               rintro e w3 ⟨⟨a0, n0, c0, out, r, rfl, hl0, hA0, h1, h2⟩, hB3⟩
               have HZ3 : Hid (Below wz.heap.size wz w3) := by
                 first
                   | exact (Below.refl wz.heap.size wz).drew.trans hB3
                   | exact ((Below.refl wz.heap.size wz).alloc (Nat.le_refl _) _).drew.trans (hB3.mono (by simp))
                   | exact ((Below.refl wz.heap.size wz).drew.alloc (Nat.le_refl _) _).trans (hB3.mono (by simp))
               have hs3 := (unhide HZ3).size
               have hxs3 := hB3.size
               try simp at hxs3
               try have HRW : Hid (w3.heap[wz.heap.size]? = some (.cells #[.slice none 0 0] 26 (0, 0))) := by first | exact (hB3.block _ (by simp)).trans (World.alloc_heap_new wz _) | exact (hB3.block _ (by simp)).trans (World.alloc_heap_new wz.drew _)
               try have hcw3 : w3.cell? ⟨wz.heap.size, 0, none⟩ = some (.slice none 0 0) := cell_of_row _ _ 0 _ _ _ (unhide HRW)
               try have hfw3 : w3.frozen? ⟨wz.heap.size, 0, none⟩ = false := frozen_of_row _ _ 0 _ _ (unhide HRW)
               have HL0 := hide hl0
               have HA0 := hide hA0
               have H1 := hide h1
               have H2 := hide h2
               clear hl0 hA0 h1 h2 hB3))
        all_goals (
          go_wp2_with fail
          go_meet
          first
            | exact MadeOp.after _ (unhide HZ3) (unhide HL0) (unhide HA0) (unhide H1) (unhide H2)
            | exact MadeOp.ahead _ (unhide HZ3) (Nat.le_refl _) (unhide HRW) (unhide HL0) (unhide HA0) (unhide H1) (unhide H2))
      case rest =>
        obtain ⟨P8, a0, n0, c0, out, r, ty, rfl, rfl, hP1, hr8, hl0, hA0, h1, h2, hZ3⟩ := hcut
        rename World => w3
        have hs3 := hZ3.size
        have hW3 := hWr.trans (hZ3.mono hWr.size)
        have hr6 := (hZ3.block w1.heap.size (by omega)).trans (unhide HR6)
        have hrz := (hZ3.block (w.heap.size + 1) (by omega)).trans (unhide HRZ)
        have z0 := cell_of_row _ _ 0 _ _ _ hrz
        have zf := frozen_of_row _ _ 0 _ _ hrz
        have y0 := cell_of_row _ _ 0 _ _ _ hr6
        have yf := frozen_of_row _ _ 0 _ _ hr6
        have x0 := cell_of_row _ _ 0 _ _ _ hr8
        simp at z0 y0 x0
        have H6 := hide hr6
        have HZ := hide hrz
        have HA0 := hide hA0
        have HL0 := hide hl0
        have H1 := hide h1
        have H2 := hide h2
        clear hr6 hrz hr8 hA0 hl0 h1 h2 hZ3 HR6 HRZ HAN c60 f60 g0 g1 g2 g3 g4 g5
        cases r with
        | false =>
          go_wp2
          refine bodyPost_ret (v := .tuple #[.agg #[.slice none 0 0], .bool false]) (by simp [results, Try.results96, go_sem, z0]) rfl ⟨⟨none, 0, 0, [], false, rfl, rfl, (fun i b hb => by simp at hb), .inr ⟨rfl, rfl, runs_stop (unhide HXK) (unhide HRUN) (unhide H2 (by trivial))⟩⟩, ?_⟩
          exact hW3.setCell (by show w.heap.size ≤ w.heap.size + 1; omega) _
        | true =>
          have hst := unhide H1 (by trivial)
          have hn0 : n0 = n := by have := hst.length; have := unhide HL0; have := unhide HLN; omega
          subst hn0
          have HST := hide hst
          clear hst
          go_wp2
          go_roundw
          case rel =>
            refine ⟨k + 1, a0, c0, out, by omega, by go_num, ?_, ?_, blocksAt_apartS (unhide H6) (unhide HA0) (touch1 _ _ _), unhide HL0, (unhide HST).ok.2, runs_next (unhide HXK) (unhide HRUN) (unhide HST), hW3.setCell (by show w.heap.size ≤ w1.heap.size; omega) _, by simp [World.setCell]; omega⟩
            · have := blk_setCell_same 0 (.slice a0 n0 c0) (unhide H6)
              simpa using this
            · rw [Below.heap_setCell _ _ _ _ (by show w.heap.size + 1 ≠ w1.heap.size; omega)]
              exact unhide HZ
          case measure => simp [intOf]; omega
    · obtain rfl : k = m := by omega
      have hrz := unhide HRZ
      have z0 := cell_of_row _ _ 0 _ _ _ hrz
      have zf := frozen_of_row _ _ 0 _ _ hrz
      simp at z0
      have hall : Runs bs xs now := by
        have h1 := unhide HRUN
        rw [← unhide HM, List.take_length] at h1
        exact h1
      have HALL := hide hall
      clear hrz hall
      go_wp2
      refine bodyPost_ret (v := .tuple #[.agg #[.slice a6 n c6], .bool true]) (by simp [results, Try.results96, go_sem, z0]) rfl ⟨⟨a6, n, c6, now, true, rfl, unhide HLN, blocksAt_apartS (unhide HRZ) (unhide HAN) (touch1 _ _ _), .inl ⟨rfl, unhide HALL⟩⟩, ?_⟩
      exact hWr.setCell (by show w.heap.size ≤ w.heap.size + 1; omega) _

set_option maxRecDepth 100000 in
set_option maxHeartbeats 2000000 in
theorem specDid_any (a : Option Addr) (c : Nat) (bs : List Bk) (n : Nat) (hl : bs.length = n) (la : Option Addr) (lc : Nat) (xs : List Opn) (m : Nat) (hm : xs.length = m) (hm20 : m ≤ 1048576) (w : World) (h : BlocksAt w a bs) (hn : Lens 1048576 bs) (hx : OpsAt w la xs) :
    Calls Try.prog 40 #[.agg #[.slice a n c], .slice la m lc] w fun e w' => ∃ (a2 : Option Addr) (n2 c2 : Nat) (out : List Bk) (r : Bool), e = .returned (.tuple #[.agg #[.slice a2 n2 c2], .bool r]) ∧ DidIs bs xs out r ∧ out.length = n2 ∧ BlocksAt w' a2 out ∧ Below w.heap.size w w' := by
  have hb0 : ∀ o1 o2, Below w.heap.size w ((w.alloc o1).alloc o2) := fun o1 o2 => ((Below.refl _ w).alloc (Nat.le_refl _) _).alloc (by simp) _
  have HM := hide hm
  clear hm
  subst hl
  go_enter Try.func40, Try.ntmps40
  go_wp2_with fail
  refine (specChipOk_any a c bs _ (h.below (hb0 _ _) (Nat.le_refl _)) hn).mono ?_
  rintro e w1 ⟨r, rfl, hr, hB1⟩
  have hs1 := hB1.size
  simp at hs1
  have hx1 : w1.cell? ⟨w.heap.size, 0, none⟩ = some (.slice a bs.length c) := by
    rw [hB1.cell (p := ⟨w.heap.size, 0, none⟩) (by simp; omega), cell_alloc_lt _ _ _ _ (by simp)]
    simp
  have hz1 : w1.heap[w.heap.size + 1]? = some (.cells #[.slice none 0 0] 26 (0, 0)) := (hB1.block _ (by simp)).trans (heap_alloc2_new _ _ _)
  have hW1 : Below w.heap.size w w1 := (hb0 _ _).trans (hB1.mono (by simp; omega))
  have z0 := cell_of_row _ _ 0 _ _ _ hz1
  have zf := frozen_of_row _ _ 0 _ _ hz1
  simp at z0
  have HZ1 := hide hz1
  have HR := hide hr
  have HA := hide (h.below hW1 (Nat.le_refl _))
  have HX := hide (hx.below hW1 (Nat.le_refl _))
  obtain ⟨n, hnn⟩ : ∃ n, bs.length = n := ⟨_, rfl⟩
  rw [hnn] at hx1 ⊢
  have HNN := hide hnn
  clear hr hz1 hB1 hb0 h hx hn hnn
  cases r with
  | false =>
    go_wp2
    refine bodyPost_ret (v := .tuple #[.agg #[.slice none 0 0], .bool false]) (by simp [results, Try.results40, go_sem, z0]) rfl ⟨none, 0, 0, [], false, rfl, .inr ⟨rfl, rfl, fun hc => by have := (unhide HR).2 hc.1; cases this⟩, rfl, (fun i b hb => by simp at hb), ?_⟩
    exact hW1.setCell (by show w.heap.size ≤ w.heap.size + 1; omega) _
  | true =>
    have HOK : Hid (ChipOk bs) := (unhide HR).1 (by trivial)
    by_cases hgt : (20 : Int) < (m : Int)
    · go_wp2
      refine bodyPost_ret (v := .tuple #[.agg #[.slice none 0 0], .bool false]) (by simp [results, Try.results40, go_sem, z0]) rfl ⟨none, 0, 0, [], false, rfl, .inr ⟨rfl, rfl, fun hc => by have h1 := hc.2.1; have := unhide HM; omega⟩, rfl, (fun i b hb => by simp at hb), ?_⟩
      exact hW1.setCell (by show w.heap.size ≤ w.heap.size + 1; omega) _
    · go_wp2_with fail
      refine (l3Did_any a c bs n (unhide HNN) (unhide HOK) la lc xs m (unhide HM) hm20 _ (unhide HA) (unhide HX)).mono ?_
      rintro e w2 ⟨⟨a2, n2, c2, out, r, rfl, hl2, hA2, hD⟩, hB2⟩
      have hs2 := hB2.size
      have hz2 := (hB2.block (w.heap.size + 1) (by omega)).trans (unhide HZ1)
      have z2 := cell_of_row _ _ 0 _ _ _ hz2
      have zf2 := frozen_of_row _ _ 0 _ _ hz2
      simp at z2
      have hW2 := hW1.trans (hB2.mono hW1.size)
      have HZ2 := hide hz2
      have HA2 := hide hA2
      have HD := hide hD
      clear hz2 hA2 hD hB2 z0 zf hx1 hW1
      go_wp2
      refine bodyPost_ret (v := .tuple #[.agg #[.slice a2 n2 c2], .bool r]) (by simp [results, Try.results40, go_sem, z2]) rfl ⟨a2, n2, c2, out, r, rfl, ?_, hl2, blocksAt_apartS (unhide HZ2) (unhide HA2) (touch1 _ _ _), ?_⟩
      · rcases unhide HD with ⟨hr, h1⟩ | ⟨hr, h1, h2⟩
        · exact .inl ⟨hr, unhide HOK, by have := unhide HM; omega, h1⟩
        · exact .inr ⟨hr, h1, fun hc => h2 hc.2.2⟩
      · exact hW2.setCell (by show w.heap.size ≤ w.heap.size + 1; omega) _
end Go.Proofs.Ytalgkmellbamgaa
