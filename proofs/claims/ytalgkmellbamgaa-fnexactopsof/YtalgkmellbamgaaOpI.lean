/- Ops as the program takes them: opOf. -/
import Derived.Test.YtalgkmellbamgaaDidP
import Derived.Test.YtalgkmellbamgaaSpecOk
import Derived.BigQuiet
namespace Go.Proofs.Ytalgkmellbamgaa
open Go.RowKit
set_option linter.unusedVariables false
set_option linter.unusedSimpArgs false

/-- An op that is right in itself, and the program's value for it. -/
def goodOp (x : Opn) : Prop := x.kind = 1 ∨ (x.kind = 2 ∧ isZero x.page = true)
def progV (b : Int) (p : Pg) : Value := .iface 169 (.agg #[.int .i64 b, .bool p.used, .int .i64 p.log, .int .i64 p.seq, .string p.data])
def eraV (b : Int) : Value := .iface 201 (.agg #[.int .i64 b])
/-- The program's value v stands for the op x. -/
def StandsFor (v : Value) (x : Opn) : Prop := (x.kind = 1 ∧ v = progV x.block x.page) ∨ (x.kind = 2 ∧ isZero x.page = true ∧ v = eraV x.block)
theorem StandsFor.good {v : Value} {x : Opn} (h : StandsFor v x) : goodOp x := by
  rcases h with ⟨h, _⟩ | ⟨h, h2, _⟩
  · exact .inl h
  · exact .inr ⟨h, h2⟩

set_option maxRecDepth 100000 in
set_option maxHeartbeats 2000000 in
theorem opOf_any (x : Opn) (w : World) :
    Calls Try.prog 136 #[.agg #[.int .i64 x.kind, .int .i64 x.block, .bool x.page.used, .int .i64 x.page.log, .int .i64 x.page.seq, .string x.page.data]] w fun e w' => ∃ (v : Value) (r : Bool), e = .returned (.tuple #[v, .bool r]) ∧ (r = true → StandsFor v x) ∧ (r = false → ¬ goodOp x) ∧ Below w.heap.size w w' := by
  have hb0 : ∀ o, Below w.heap.size w (w.alloc o) := fun o => (Below.refl _ w).alloc (Nat.le_refl _) _
  obtain ⟨xk, xb, xu, xl, xs, xd⟩ := x
  by_cases hk1 : xk = 1
  · subst hk1
    go_enter Try.func136, Try.ntmps136
    go_wp2
    refine bodyPost_ret (v := .tuple #[progV xb ⟨xu, xl, xs, xd⟩, .bool true]) (by simp [results, Try.results136, go_sem, progV]) rfl ⟨_, true, rfl, (fun _ => .inl ⟨rfl, rfl⟩), (fun h => by cases h), hb0 _⟩
  · have e1 : (xk == 1) = false := by simpa using hk1
    by_cases hk2 : xk = 2
    · subst hk2
      cases hz : isZero ⟨xu, xl, xs, xd⟩ with
      | true =>
        have hz' := hz
        unfold isZero at hz'
        simp only [Bool.and_eq_true, Bool.not_eq_true', decide_eq_true_eq] at hz'
        obtain ⟨⟨⟨rfl, rfl⟩, rfl⟩, hd0⟩ := hz'
        have hd1 : xd.toList = [] := by have := isEmpty_size xd; rw [hd0] at this; simpa using this
        have HZ := hide hz
        clear hz hd0
        go_enter Try.func136, Try.ntmps136
        go_wp2_with fail
        go_region
        all_goals (
          go_wp2
          exact bodyPost_ret (v := .tuple #[eraV xb, .bool true]) (by simp [results, Try.results136, go_sem, eraV]) rfl ⟨_, true, rfl, (fun _ => .inr ⟨rfl, unhide HZ, rfl⟩), (fun h => by cases h), (hb0 _).drew⟩)
      | false =>
        have HNZ : Hid (¬ goodOp ⟨2, xb, ⟨xu, xl, xs, xd⟩⟩) := fun h => by
          rcases h with h | ⟨_, h⟩
          · simp at h
          · rw [hz] at h; cases h
        cases xu with
        | true =>
          clear hz
          go_enter Try.func136, Try.ntmps136
          go_wp2_with fail
          go_region
          all_goals (
            go_wp2
            exact bodyPost_ret (v := .tuple #[eraV xb, .bool false]) (by simp [results, Try.results136, go_sem, eraV]) rfl ⟨_, false, rfl, (fun h => by cases h), (fun _ => unhide HNZ), (hb0 _).drew⟩)
        | false =>
          by_cases h1 : xl = 0
          · by_cases h2 : xs = 0
            · have h3 : ¬ xd.toList = [] := fun h => by
                have e := isEmpty_size xd
                rw [h] at e
                have e0 : xd.size = 0 := by simpa using e.symm
                unfold isZero at hz
                simp [h1, h2, e0] at hz
              subst h1
              subst h2
              clear hz
              go_enter Try.func136, Try.ntmps136
              go_wp2_with fail
              go_region
              all_goals (
                go_wp2
                exact bodyPost_ret (v := .tuple #[eraV xb, .bool false]) (by simp [results, Try.results136, go_sem, eraV]) rfl ⟨_, false, rfl, (fun h => by cases h), (fun _ => unhide HNZ), (hb0 _).drew⟩)
            · clear hz
              subst h1
              go_enter Try.func136, Try.ntmps136
              go_wp2_with fail
              go_region
              all_goals (
                go_wp2
                exact bodyPost_ret (v := .tuple #[eraV xb, .bool false]) (by simp [results, Try.results136, go_sem, eraV]) rfl ⟨_, false, rfl, (fun h => by cases h), (fun _ => unhide HNZ), (hb0 _).drew⟩)
          · clear hz
            go_enter Try.func136, Try.ntmps136
            go_wp2_with fail
            go_region
            all_goals (
              go_wp2
              exact bodyPost_ret (v := .tuple #[eraV xb, .bool false]) (by simp [results, Try.results136, go_sem, eraV]) rfl ⟨_, false, rfl, (fun h => by cases h), (fun _ => unhide HNZ), (hb0 _).drew⟩)
    · have e2 : (xk == 2) = false := by simpa using hk2
      go_enter Try.func136, Try.ntmps136
      go_wp2
      refine bodyPost_ret (v := .tuple #[.nilIface, .bool false]) (by simp [results, Try.results136, go_sem]) rfl ⟨_, false, rfl, (fun h => by cases h), ?_, hb0 _⟩
      rintro _ (h | h)
      · exact hk1 h
      · exact hk2 h.1

/-- The program's values of the ops xs lie, one behind the other, from the address a on. -/
def CoAt (w : World) (a : Option Addr) (xs : List Opn) : Prop := ∀ i x, xs[i]? = some x → ∃ b o v, a = some ⟨b, o, none⟩ ∧ w.cell? ⟨b, o + i, none⟩ = some v ∧ StandsFor v x
theorem CoAt.below {w w' : World} {a : Option Addr} {xs : List Opn} (h : CoAt w a xs) {B : Nat} (hb : Below B w w') (hB : w.heap.size ≤ B) : CoAt w' a xs := by
  intro i x hx
  obtain ⟨b, o, v, ha, hc, hv⟩ := h i x hx
  exact ⟨b, o, v, ha, (hb.cell (p := ⟨b, o + i, none⟩) (Nat.lt_of_lt_of_le (World.block_lt_of_cell? _ _ hc) hB)).trans hc, hv⟩

theorem infoCo : (Try.prog.info? 131).map (fun i => (i.zero, i.size, i.bytes)) = some (some .nilIface, 1, 16) := by kernel_rfl
theorem make_co (n : Nat) (hn : n ≤ 1048576) (w : World) :
    (Instr.makeSlice 125 (.int .i64 (n : Int)) (.int .i64 (n : Int))).run Try.prog w = .ok (.slice (some ⟨w.heap.size, 0, none⟩) n n) (w.alloc (.cells (madeCells #[.nilIface] n) 131)) := by
  obtain ⟨i, hi, hz⟩ := Option.map_eq_some_iff.1 infoCo
  simp only [Prod.mk.injEq] at hz
  obtain ⟨hz0, hz1, hz2⟩ := hz
  have h := run_make (P := Try.prog) w 125 131 i _ Try.underlying125 hi hz0 .i64 .i64 (n : Int) (n : Int) (by omega) (Int.le_refl _) (by rw [hz2]; omega) (by omega)
  rw [hz1] at h
  simpa [Value.cells] using h

set_option maxRecDepth 100000 in
set_option maxHeartbeats 2000000 in
theorem opsOf_any (a : Option Addr) (c : Nat) (xs : List Opn) (m : Nat) (hm : xs.length = m) (hm20 : m ≤ 1048576) (w : World) (h : OpsAt w a xs) :
    Calls Try.prog 94 #[.slice a m c] w fun e w' => ∃ (v : Value) (r : Bool), e = .returned (.tuple #[v, .bool r]) ∧ (r = true → ∃ g, v = .slice (some ⟨g, 0, none⟩) m m ∧ CoAt w' (some ⟨g, 0, none⟩) xs) ∧ (r = false → ∃ x ∈ xs, ¬ goodOp x) ∧ Below w.heap.size w w' := by
  have hmk := make_co m hm20
  have HM := hide hm
  clear hm
  go_enter Try.func94, Try.ntmps94
  go_wp2
  clear hmk
  go_loopw [14] (fun i wr => ∃ (k : Nat) (f : Nat → Value), k ≤ m ∧ i = .int .i64 k ∧ wr.rowIs w.heap.size 131 m f ∧ (∀ i x, i < k → xs[i]? = some x → StandsFor (f i) x) ∧ Below w.heap.size w wr) (fun i _ => m - (intOf i).toNat)
  case atStart =>
    exact ⟨0, fun _ => .nilIface, Nat.zero_le _, rfl, World.rowIs_made w .nilIface m 131, fun i x hi => absurd hi (Nat.not_lt_zero _), (Below.refl _ _).alloc (Nat.le_refl _) _⟩
  case round =>
    obtain ⟨k, f, hk, rfl, hO, hall, hB⟩ := hrel
    have HO := hide hO
    have HALL := hide hall
    have hsr := World.rowIs.lt hO
    clear hO hall
    by_cases hlt : k < m
    · obtain ⟨x, hx⟩ := getElem?_ex (l := xs) (k := k) (by have := unhide HM; omega)
      obtain ⟨b1, o1, rfl, g0, g1, g2, g3, g4, g5⟩ := (h.below hB (Nat.le_refl _)) k x hx
      have HX := hide hx
      have hb9 : ∀ o, Below wr.heap.size wr (wr.alloc o) := fun o => (Below.refl _ wr).alloc (Nat.le_refl _) _
      clear hx h
      go_wp2_with fail
      refine (opOf_any x _).mono ?_
      rintro e w1 ⟨v, r, rfl, h1, h2, hB1⟩
      have hs1 := hB1.size
      simp at hs1
      have hBr : Below wr.heap.size wr w1 := (hb9 _).trans (hB1.mono (by simp))
      have hO1 : w1.rowIs w.heap.size 131 m f := World.rowIs.of_block (unhide HO) (hBr.block _ hsr)
      have c0 := hO1.cell (i := k) hlt
      have f0 := hO1.frozen
      have hW1 := hB.trans (hBr.mono hB.size)
      have HO1 := hide hO1
      have H1 := hide h1
      have H2 := hide h2
      clear hO1 h1 h2 hB1 hBr hb9 g0 g1 g2 g3 g4 g5 HO
      cases r with
      | false =>
        go_wp2
        exact bodyPost_ret (v := .tuple #[.slice none 0 0, .bool false]) (by simp [results, Try.results94, go_sem]) rfl ⟨_, false, rfl, (fun h => by cases h), (fun _ => ⟨x, List.mem_of_getElem? (unhide HX), unhide H2 (by trivial)⟩), hW1⟩
      | true =>
        have hst := unhide H1 (by trivial)
        have HST := hide hst
        obtain ⟨ty, u, hv⟩ : ∃ ty u, v = .iface ty u := by
          rcases hst with ⟨_, rfl⟩ | ⟨_, _, rfl⟩
          · exact ⟨_, _, rfl⟩
          · exact ⟨_, _, rfl⟩
        subst hv
        clear hst
        go_wp2
        go_roundw
        case rel =>
          refine ⟨k + 1, fun i => if i = k then .iface ty u else f i, by omega, by go_num, (unhide HO1).set k _, fun i y hi hy => ?_, hW1.setCell (Nat.le_refl _) _⟩
          by_cases e : i = k
          · subst e
            rw [unhide HX] at hy
            cases hy
            simp only [if_true]
            exact unhide HST
          · simp only [if_neg e]
            exact unhide HALL i y (by omega) hy
        case measure => simp [intOf]; omega
    · obtain rfl : k = m := by omega
      have HCO : Hid (CoAt wr (some ⟨w.heap.size, 0, none⟩) xs) := fun i y hy => by
        have hi := (List.getElem?_eq_some_iff.1 hy).1
        have hik : i < k := by have := unhide HM; omega
        exact ⟨w.heap.size, 0, f i, rfl, by rw [Nat.zero_add]; exact (unhide HO).cell hik, unhide HALL i y hik hy⟩
      clear h
      go_wp2
      exact bodyPost_ret (v := .tuple #[.slice (some ⟨w.heap.size, 0, none⟩) k k, .bool true]) (by simp [results, Try.results94, go_sem]) rfl ⟨_, true, rfl, (fun _ => ⟨w.heap.size, rfl, unhide HCO⟩), (fun h => by cases h), hB⟩
end Go.Proofs.Ytalgkmellbamgaa
