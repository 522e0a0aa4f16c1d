/- 6 texts in one. -/
import Derived.Test.YtjgcjeaplckbbaaGreatG20
import Derived.Test.YtjgcjeaplckbbaaGreatG03
import Derived.WalkKit
import Derived.Outline
import Derived.Deep.RegionHeld3
import Derived.Test.YtjgcjeaplckbbaaGreatG09
import Derived.Test.YtjgcjeaplckbbaaGreatG01
import Derived.BigQuiet
import Derived.Test.YtjgcjeaplckbbaaGreatG04
import Derived.Deep.DeepCutAuto
import Derived.Test.YtjgcjeaplckbbaaGreatG15
import Derived.Deep.MidRow

/- The free block that is worn the least: the program's leastWorn. -/
namespace Go.Proofs.YtjgcjeaplckbbaaGreat
open Go.RowKit
set_option linter.unusedVariables false
set_option linter.unusedSimpArgs false

theorem isNaN_any (x : Int) (w : World) : Calls Tryz.prog 96 #[.int .i64 x] w fun e w' => e = .returned (.bool false) ∧ w' = w := by
  have hne : (x != x) = false := by simp
  go_enter Tryz.func96, Tryz.ntmps96
  go_wp2
  go_ret
  exact ⟨rfl, rfl⟩

theorem compare_any (x y : Int) (w : World) : Calls Tryz.prog 80 #[.int .i64 x, .int .i64 y] w fun e w' => ∃ r : Int, e = .returned (.int .i64 r) ∧ (r < 0 ↔ x < y) ∧ w' = w := by
  go_enter Tryz.func80, Tryz.ntmps80
  go_wp2_with fail
  refine (isNaN_any _ _).mono ?_
  rintro e w1 ⟨rfl, rfl⟩
  go_wp2_with fail
  refine (isNaN_any _ _).mono ?_
  rintro e w2 ⟨rfl, rfl⟩
  by_cases h : x < y
  · go_wp2
    go_ret
    exact ⟨_, rfl, by simp [h], rfl⟩
  · by_cases h2 : y < x
    · go_wp2
      go_ret
      exact ⟨_, rfl, by simp; omega, rfl⟩
    · go_wp2
      go_ret
      exact ⟨_, rfl, by simp; omega, rfl⟩

set_option maxRecDepth 100000 in
set_option maxHeartbeats 1000000 in
theorem lessWorn_any (A : Array Value) (m : CC) (bs : List Bk) (n : Nat) (hC : CellsIs A m bs n) (B : Nat) (i j : Nat) (hi : i < n) (hj : j < n) (w : World) (hw : w.heap[B]? = some (.cells A 57 (0, 0))) :
    Calls Tryz.prog 79 #[.int .i64 (i : Int), .int .i64 (j : Int), .pointer (some ⟨B, 0, none⟩)] w fun e w' => ∃ r : Int, e = .returned (.int .i64 r) ∧ (r < 0 ↔ wearAt bs (i : Int) < wearAt bs (j : Int)) ∧ Below w.heap.size w w' := by
  have hn := hC.most
  obtain ⟨x, hx⟩ := getElem?_ex (l := bs) (k := i) (by have := hC.len; omega)
  obtain ⟨y, hy⟩ := getElem?_ex (l := bs) (k := j) (by have := hC.len; omega)
  have c1 : w.cell? ⟨B, 1 + i * 17, none⟩ = some (.int .i64 x.wear) := (cell_of_row _ _ _ _ _ _ hw).trans (hC.wear hx)
  have c2 : w.cell? ⟨B, 1 + j * 17, none⟩ = some (.int .i64 y.wear) := (cell_of_row _ _ _ _ _ _ hw).trans (hC.wear hy)
  have hBl : B < w.heap.size := World.block_lt_of_cell? _ _ c1
  rw [wearAt_of hx, wearAt_of hy]
  have hii : (i : Int) < 12 := by omega
  have hjj : (j : Int) < 12 := by omega
  clear hC hx hy hw
  go_enter Tryz.func79, Tryz.ntmps79
  go_wp2_with fail
  go_region_held3 (fun W => ∀ b o, b < w.heap.size → W.cell? ⟨b, o, none⟩ = w.cell? ⟨b, o, none⟩) (first | (intro b o hb; rfl))
    (first | (go_at_call 80; refine (compare_any _ _ _).mono ?_; rintro e w1 ⟨r, rfl, hr, rfl⟩))
  go_wp2
  go_ret
  exact ⟨_, rfl, hr, (Below.refl _ w).drew⟩

set_option maxRecDepth 100000 in
set_option maxHeartbeats 1000000 in
theorem minFunc_any (A : Array Value) (m : CC) (bs : List Bk) (n : Nat) (hC : CellsIs A m bs n) (B : Nat) (fa : Option Addr) (fc : Nat) (F : List Int) (q : Nat) (hq : F.length = q) (hq12 : q ≤ 12) (hq0 : 0 < q) (hF : ∀ x ∈ F, 0 ≤ x ∧ x < (n : Int)) (w : World) (hw : w.heap[B]? = some (.cells A 57 (0, 0))) (hI : IntsAt w fa F) :
    Calls Tryz.prog 78 #[.slice fa q fc, .func (.func 79) #[] #[.pointer (some ⟨B, 0, none⟩)]] w fun e w' => e = .returned (.int .i64 (leastIn bs F)) ∧ Below w.heap.size w w' := by
  obtain ⟨x, hx⟩ := getElem?_ex (l := F) (k := 0) (by omega)
  obtain ⟨b1, o1, rfl, hc⟩ := hI 0 x hx
  have HST := hide (leastIn_one (bs := bs) hx)
  have HI := hide hI
  have HC := hide hC
  have HF := hide hF
  have HW := hide hw
  have HQ := hide hq
  have hBl : B < w.heap.size := (Array.getElem?_eq_some_iff.1 hw).1
  rw [Nat.add_zero] at hc
  clear hI hC hF hw hq hx
  go_enter Tryz.func78, Tryz.ntmps78
  go_wp2
  go_loopw [5, 6] (fun v i wr => ∃ k : Nat, 1 ≤ k ∧ k ≤ q ∧ i = .int .i64 k ∧ v = .int .i64 (leastIn bs (F.take k)) ∧ Below w.heap.size w wr) (fun _ i _ => q - (intOf i).toNat)
  case atStart => exact ⟨1, Nat.le_refl _, by omega, rfl, by rw [unhide HST], Below.refl _ _⟩
  case round =>
    obtain ⟨k, hk1, hk, rfl, rfl, hB⟩ := hrel
    clear hc HST
    by_cases hlt : k < q
    · obtain ⟨y, hy⟩ := getElem?_ex (l := F) (k := k) (by have := unhide HQ; omega)
      obtain ⟨b2, o2, e2, hcy⟩ := ((unhide HI).below hB (Nat.le_refl _)) k y hy
      cases e2
      have hne : F.take k ≠ [] := fun e => by
        have h1 : (F.take k).length = 0 := by rw [e]; rfl
        rw [List.length_take] at h1
        have := unhide HQ
        omega
      have hmem := List.mem_of_mem_take (leastIn_mem (bs := bs) hne)
      have hbm := unhide HF _ hmem
      have hby := unhide HF y (List.mem_of_getElem? hy)
      have HTK := hide (leastIn_take (bs := bs) hk1 hy)
      obtain ⟨mm, hmm⟩ : ∃ mm, mm = leastIn bs (F.take k) := ⟨_, rfl⟩
      rw [← hmm] at hbm HTK ⊢
      obtain ⟨mi, rfl⟩ := Int.eq_ofNat_of_zero_le hbm.1
      obtain ⟨yi, rfl⟩ := Int.eq_ofNat_of_zero_le hby.1
      have hsr := hB.size
      have HWr := hide ((hB.block B hBl).trans (unhide HW))
      have hyn : yi < n := by omega
      have hmn : mi < n := by omega
      clear hy hne hmem hmm hbm hby
      go_wp2_with fail
      refine (lessWorn_any A m bs n (unhide HC) B yi mi hyn hmn _ (unhide HWr)).mono ?_
      rintro e w2 ⟨r, rfl, hr, hB2⟩
      have hs2 := hB2.size
      have hcy2 := (hB2.cell (p := ⟨b1, o1 + k, none⟩) (World.block_lt_of_cell? _ _ hcy)).trans hcy
      have hBB := hB.trans (hB2.mono hB.size)
      have HR := hide hr
      clear hr hB2 hcy HWr
      by_cases hneg : r < 0
      · go_wp2
        go_roundw
        case rel => exact ⟨k + 1, by omega, by omega, by go_num, by rw [unhide HTK]; unfold leastStep; rw [if_pos ((unhide HR).1 hneg)], hBB⟩
        case measure => simp [intOf]; omega
      · go_wp2
        go_roundw
        case rel => exact ⟨k + 1, by omega, by omega, by go_num, by rw [unhide HTK]; unfold leastStep; rw [if_neg (fun h => by have := (unhide HR).2 h; omega)], hBB⟩
        case measure => simp [intOf]; omega
    · obtain rfl : k = q := by omega
      have HE : Hid (F.take k = F) := by have := unhide HQ; rw [← this]; exact List.take_length
      rw [unhide HE]
      go_wp2
      go_ret
      exact ⟨rfl, hB⟩

set_option maxRecDepth 100000 in
set_option maxHeartbeats 1000000 in
theorem leastWorn_any (A : Array Value) (m : CC) (bs : List Bk) (n : Nat) (hC : CellsIs A m bs n) (fa : Option Addr) (fc : Nat) (F : List Int) (q : Nat) (hq : F.length = q) (hq12 : q ≤ 12) (hq0 : 0 < q) (hF : ∀ x ∈ F, 0 ≤ x ∧ x < (n : Int)) (w : World) (hI : IntsAt w fa F) :
    Calls Tryz.prog 48 #[.agg A, .slice fa q fc] w fun e w' => e = .returned (.int .i64 (leastIn bs F)) ∧ Below w.heap.size w w' := by
  have hb0 : ∀ o, Below w.heap.size w (w.alloc o) := fun o => (Below.refl _ w).alloc (Nat.le_refl _) _
  have HI := hide hI
  have HC := hide hC
  have HF := hide hF
  clear hI hC hF
  go_enter Tryz.func48, Tryz.ntmps48
  go_wp2_with fail
  refine (minFunc_any A m bs n (unhide HC) w.heap.size fa fc F q hq hq12 hq0 (unhide HF) _ (Go.Deep.blk_alloc_new _ _) ((unhide HI).below (hb0 _) (Nat.le_refl _))).mono ?_
  rintro e w1 ⟨rfl, hB1⟩
  have hW1 : Below w.heap.size w w1 := (hb0 _).trans (hB1.mono (by simp))
  clear hB1
  go_wp2
  go_ret
  exact ⟨rfl, hW1⟩
end Go.Proofs.YtjgcjeaplckbbaaGreat

/- Ops as the program takes them: opOf. -/
namespace Go.Proofs.YtjgcjeaplckbbaaGreat
open Go.RowKit
set_option linter.unusedVariables false
set_option linter.unusedSimpArgs false

/-- An op that is right in itself, and the program's value for it. -/
def goodOp (x : Opn) : Prop := x.kind = 1 ∨ (x.kind = 2 ∧ isZero x.page = true)
def progV (b : Int) (p : Pg) : Value := .iface 101 (.agg #[.int .i64 b, .bool p.used, .int .i64 p.log, .int .i64 p.seq, .string p.data])
def eraV (b : Int) : Value := .iface 136 (.agg #[.int .i64 b])
/-- The program's value v stands for the op x. -/
def StandsFor (v : Value) (x : Opn) : Prop := (x.kind = 1 ∧ v = progV x.block x.page) ∨ (x.kind = 2 ∧ isZero x.page = true ∧ v = eraV x.block)
theorem StandsFor.good {v : Value} {x : Opn} (h : StandsFor v x) : goodOp x := by
  rcases h with ⟨h, _⟩ | ⟨h, h2, _⟩
  · exact .inl h
  · exact .inr ⟨h, h2⟩

set_option maxRecDepth 100000 in
set_option maxHeartbeats 2000000 in
theorem opOf_any (x : Opn) (w : World) :
    Calls Tryz.prog 62 #[.agg #[.int .i64 x.kind, .int .i64 x.block, .bool x.page.used, .int .i64 x.page.log, .int .i64 x.page.seq, .string x.page.data]] w fun e w' => ∃ (v : Value) (r : Bool), e = .returned (.tuple #[v, .bool r]) ∧ (r = true → StandsFor v x) ∧ (r = false → ¬ goodOp x) ∧ Below w.heap.size w w' := by
  have hb0 : ∀ o, Below w.heap.size w (w.alloc o) := fun o => (Below.refl _ w).alloc (Nat.le_refl _) _
  obtain ⟨xk, xb, xu, xl, xs, xd⟩ := x
  by_cases hk1 : xk = 1
  · subst hk1
    go_enter Tryz.func62, Tryz.ntmps62
    go_wp2
    refine bodyPost_ret (v := .tuple #[progV xb ⟨xu, xl, xs, xd⟩, .bool true]) (by simp [results, Tryz.results62, go_sem, progV]) rfl ⟨_, true, rfl, (fun _ => .inl ⟨rfl, rfl⟩), (fun h => by cases h), hb0 _⟩
  · have e1 : (xk == 1) = false := by simpa using hk1
    by_cases hk2 : xk = 2
    · subst hk2
      cases hz : isZero ⟨xu, xl, xs, xd⟩ with
      | true =>
        have hz' := hz
        unfold isZero at hz'
        simp only [Bool.and_eq_true, Bool.not_eq_true', decide_eq_true_eq] at hz'
        obtain ⟨⟨⟨rfl, rfl⟩, rfl⟩, hd0⟩ := hz'
        have hd1 : xd.toList = [] := by have := isEmpty_size xd; rw [hd0] at this; simpa using this
        have HZ := hide hz
        clear hz hd0
        go_enter Tryz.func62, Tryz.ntmps62
        go_wp2_with fail
        go_region
        all_goals (
          go_wp2
          exact bodyPost_ret (v := .tuple #[eraV xb, .bool true]) (by simp [results, Tryz.results62, go_sem, eraV]) rfl ⟨_, true, rfl, (fun _ => .inr ⟨rfl, unhide HZ, rfl⟩), (fun h => by cases h), (hb0 _).drew⟩)
      | false =>
        have HNZ : Hid (¬ goodOp ⟨2, xb, ⟨xu, xl, xs, xd⟩⟩) := fun h => by
          rcases h with h | ⟨_, h⟩
          · simp at h
          · rw [hz] at h; cases h
        cases xu with
        | true =>
          clear hz
          go_enter Tryz.func62, Tryz.ntmps62
          go_wp2_with fail
          go_region
          all_goals (
            go_wp2
            exact bodyPost_ret (v := .tuple #[eraV xb, .bool false]) (by simp [results, Tryz.results62, go_sem, eraV]) rfl ⟨_, false, rfl, (fun h => by cases h), (fun _ => unhide HNZ), (hb0 _).drew⟩)
        | false =>
          by_cases h1 : xl = 0
          · by_cases h2 : xs = 0
            · have h3 : ¬ xd.toList = [] := fun h => by
                have e := isEmpty_size xd
                rw [h] at e
                have e0 : xd.size = 0 := by simpa using e.symm
                unfold isZero at hz
                simp [h1, h2, e0] at hz
              subst h1
              subst h2
              clear hz
              go_enter Tryz.func62, Tryz.ntmps62
              go_wp2_with fail
              go_region
              all_goals (
                go_wp2
                exact bodyPost_ret (v := .tuple #[eraV xb, .bool false]) (by simp [results, Tryz.results62, go_sem, eraV]) rfl ⟨_, false, rfl, (fun h => by cases h), (fun _ => unhide HNZ), (hb0 _).drew⟩)
            · clear hz
              subst h1
              go_enter Tryz.func62, Tryz.ntmps62
              go_wp2_with fail
              go_region
              all_goals (
                go_wp2
                exact bodyPost_ret (v := .tuple #[eraV xb, .bool false]) (by simp [results, Tryz.results62, go_sem, eraV]) rfl ⟨_, false, rfl, (fun h => by cases h), (fun _ => unhide HNZ), (hb0 _).drew⟩)
          · clear hz
            go_enter Tryz.func62, Tryz.ntmps62
            go_wp2_with fail
            go_region
            all_goals (
              go_wp2
              exact bodyPost_ret (v := .tuple #[eraV xb, .bool false]) (by simp [results, Tryz.results62, go_sem, eraV]) rfl ⟨_, false, rfl, (fun h => by cases h), (fun _ => unhide HNZ), (hb0 _).drew⟩)
    · have e2 : (xk == 2) = false := by simpa using hk2
      go_enter Tryz.func62, Tryz.ntmps62
      go_wp2
      refine bodyPost_ret (v := .tuple #[.nilIface, .bool false]) (by simp [results, Tryz.results62, go_sem]) rfl ⟨_, false, rfl, (fun h => by cases h), ?_, hb0 _⟩
      rintro _ (h | h)
      · exact hk1 h
      · exact hk2 h.1

/-- The program's values of the ops xs lie, one behind the other, from the address a on. -/
def CoAt (w : World) (a : Option Addr) (xs : List Opn) : Prop := ∀ i x, xs[i]? = some x → ∃ b o v, a = some ⟨b, o, none⟩ ∧ w.cell? ⟨b, o + i, none⟩ = some v ∧ StandsFor v x
theorem CoAt.below {w w' : World} {a : Option Addr} {xs : List Opn} (h : CoAt w a xs) {B : Nat} (hb : Below B w w') (hB : w.heap.size ≤ B) : CoAt w' a xs := by
  intro i x hx
  obtain ⟨b, o, v, ha, hc, hv⟩ := h i x hx
  exact ⟨b, o, v, ha, (hb.cell (p := ⟨b, o + i, none⟩) (Nat.lt_of_lt_of_le (World.block_lt_of_cell? _ _ hc) hB)).trans hc, hv⟩

theorem infoCo : (Tryz.prog.info? 91).map (fun i => (i.zero, i.size, i.bytes)) = some (some .nilIface, 1, 16) := by kernel_rfl
theorem make_co (n : Nat) (hn : n ≤ 1048576) (w : World) :
    (Instr.makeSlice 62 (.int .i64 (n : Int)) (.int .i64 (n : Int))).run Tryz.prog w = .ok (.slice (some ⟨w.heap.size, 0, none⟩) n n) (w.alloc (.cells (madeCells #[.nilIface] n) 91)) := by
  obtain ⟨i, hi, hz⟩ := Option.map_eq_some_iff.1 infoCo
  simp only [Prod.mk.injEq] at hz
  obtain ⟨hz0, hz1, hz2⟩ := hz
  have h := run_make (P := Tryz.prog) w 62 91 i _ Tryz.underlying62 hi hz0 .i64 .i64 (n : Int) (n : Int) (by omega) (Int.le_refl _) (by rw [hz2]; omega) (by omega)
  rw [hz1] at h
  simpa [Value.cells] using h

set_option maxRecDepth 100000 in
set_option maxHeartbeats 2000000 in
theorem opsOf_any (a : Option Addr) (c : Nat) (xs : List Opn) (m : Nat) (hm : xs.length = m) (hm20 : m ≤ 1048576) (w : World) (h : OpsAt w a xs) :
    Calls Tryz.prog 27 #[.slice a m c] w fun e w' => ∃ (v : Value) (r : Bool), e = .returned (.tuple #[v, .bool r]) ∧ (r = true → ∃ g, v = .slice (some ⟨g, 0, none⟩) m m ∧ CoAt w' (some ⟨g, 0, none⟩) xs) ∧ (r = false → ∃ x ∈ xs, ¬ goodOp x) ∧ Below w.heap.size w w' := by
  have hmk := make_co m hm20
  have HM := hide hm
  clear hm
  go_enter Tryz.func27, Tryz.ntmps27
  go_wp2
  clear hmk
  go_loopw [14] (fun i wr => ∃ (k : Nat) (f : Nat → Value), k ≤ m ∧ i = .int .i64 k ∧ wr.rowIs w.heap.size 91 m f ∧ (∀ i x, i < k → xs[i]? = some x → StandsFor (f i) x) ∧ Below w.heap.size w wr) (fun i _ => m - (intOf i).toNat)
  case atStart =>
    exact ⟨0, fun _ => .nilIface, Nat.zero_le _, rfl, World.rowIs_made w .nilIface m 91, fun i x hi => absurd hi (Nat.not_lt_zero _), (Below.refl _ _).alloc (Nat.le_refl _) _⟩
  case round =>
    obtain ⟨k, f, hk, rfl, hO, hall, hB⟩ := hrel
    have HO := hide hO
    have HALL := hide hall
    have hsr := World.rowIs.lt hO
    clear hO hall
    by_cases hlt : k < m
    · obtain ⟨x, hx⟩ := getElem?_ex (l := xs) (k := k) (by have := unhide HM; omega)
      obtain ⟨b1, o1, rfl, g0, g1, g2, g3, g4, g5⟩ := (h.below hB (Nat.le_refl _)) k x hx
      have HX := hide hx
      have hb9 : ∀ o, Below wr.heap.size wr (wr.alloc o) := fun o => (Below.refl _ wr).alloc (Nat.le_refl _) _
      clear hx h
      go_wp2_with fail
      refine (opOf_any x _).mono ?_
      rintro e w1 ⟨v, r, rfl, h1, h2, hB1⟩
      have hs1 := hB1.size
      simp at hs1
      have hBr : Below wr.heap.size wr w1 := (hb9 _).trans (hB1.mono (by simp))
      have hO1 : w1.rowIs w.heap.size 91 m f := World.rowIs.of_block (unhide HO) (hBr.block _ hsr)
      have c0 := hO1.cell (i := k) hlt
      have f0 := hO1.frozen
      have hW1 := hB.trans (hBr.mono hB.size)
      have HO1 := hide hO1
      have H1 := hide h1
      have H2 := hide h2
      clear hO1 h1 h2 hB1 hBr hb9 g0 g1 g2 g3 g4 g5 HO
      cases r with
      | false =>
        go_wp2
        exact bodyPost_ret (v := .tuple #[.slice none 0 0, .bool false]) (by simp [results, Tryz.results27, go_sem]) rfl ⟨_, false, rfl, (fun h => by cases h), (fun _ => ⟨x, List.mem_of_getElem? (unhide HX), unhide H2 (by trivial)⟩), hW1⟩
      | true =>
        have hst := unhide H1 (by trivial)
        have HST := hide hst
        obtain ⟨ty, u, hv⟩ : ∃ ty u, v = .iface ty u := by
          rcases hst with ⟨_, rfl⟩ | ⟨_, _, rfl⟩
          · exact ⟨_, _, rfl⟩
          · exact ⟨_, _, rfl⟩
        subst hv
        clear hst
        go_wp2
        go_roundw
        case rel =>
          refine ⟨k + 1, fun i => if i = k then .iface ty u else f i, by omega, by go_num, (unhide HO1).set k _, fun i y hi hy => ?_, hW1.setCell (Nat.le_refl _) _⟩
          by_cases e : i = k
          · subst e
            rw [unhide HX] at hy
            cases hy
            simp only [if_true]
            exact unhide HST
          · simp only [if_neg e]
            exact unhide HALL i y (by omega) hy
        case measure => simp [intOf]; omega
    · obtain rfl : k = m := by omega
      have HCO : Hid (CoAt wr (some ⟨w.heap.size, 0, none⟩) xs) := fun i y hy => by
        have hi := (List.getElem?_eq_some_iff.1 hy).1
        have hik : i < k := by have := unhide HM; omega
        exact ⟨w.heap.size, 0, f i, rfl, by rw [Nat.zero_add]; exact (unhide HO).cell hik, unhide HALL i y hik hy⟩
      clear h
      go_wp2
      exact bodyPost_ret (v := .tuple #[.slice (some ⟨w.heap.size, 0, none⟩) k k, .bool true]) (by simp [results, Tryz.results27, go_sem]) rfl ⟨_, true, rfl, (fun _ => ⟨w.heap.size, rfl, unhide HCO⟩), (fun h => by cases h), hB⟩
end Go.Proofs.YtjgcjeaplckbbaaGreat

/- A block is emptied: the program's emptying; ops as the program holds them. -/
namespace Go.Proofs.YtjgcjeaplckbbaaGreat
open Go.RowKit
set_option linter.unusedVariables false
set_option linter.unusedSimpArgs false

/-- The program's value for an op. -/
def coV (x : Opn) : Value := if x.kind = 1 then progV x.block x.page else eraV x.block
theorem coV_prog (b : Int) (p : Pg) : coV ⟨1, b, p⟩ = progV b p := rfl
theorem coV_era (b : Int) (p : Pg) : coV ⟨2, b, p⟩ = eraV b := rfl
theorem coV_stands {x : Opn} (h : goodOp x) : StandsFor (coV x) x := by
  rcases h with h | ⟨h, h2⟩
  · exact .inl ⟨h, by unfold coV; rw [if_pos h]⟩
  · exact .inr ⟨h, h2, by unfold coV; rw [if_neg (by omega)]⟩
/-- The slice v holds the program's values of the ops xs, in a row that was made from block B on and may be written. -/
def OwnsCo (w : World) (B : Nat) (v : Value) (xs : List Opn) : Prop := w.ownsRow B 91 1 v xs.length (xs.map coV)
theorem OwnsCo.kept {w w' : World} {B : Nat} {v : Value} {xs : List Opn} (h : OwnsCo w B v xs) (hb : Below w.heap.size w w') : OwnsCo w' B v xs := by
  have hg : w.grownBy w' none := ⟨hb.os, hb.tape, hb.output, hb.size, fun k hk _ => hb.block k hk⟩
  refine World.ownsRow.kept h hg ?_
  cases hv : v.ownBlock with
  | none => exact Or.inl rfl
  | some k => exact Or.inr (by simp)
theorem OwnsCo.lower {w : World} {B B' : Nat} {v : Value} {xs : List Opn} (h : OwnsCo w B v xs) (hB : B' ≤ B) : OwnsCo w B' v xs := by
  refine ⟨h.1, ?_⟩
  rcases h.2 with h0 | ⟨g, cap, cur, e1, e2, e3⟩
  · exact .inl h0
  · exact .inr ⟨g, cap, cur, e1, by omega, e3⟩
theorem OwnsCo.form {w : World} {B : Nat} {v : Value} {xs : List Opn} (h : OwnsCo w B v xs) (hg : ∀ x ∈ xs, goodOp x) : ∃ a c, v = .slice a xs.length c ∧ CoAt w a xs := by
  have h0 := h
  rcases h.2 with ⟨hv, hl⟩ | ⟨g, cap, cur, rfl, hb, hgg, hn, _⟩
  · exact ⟨none, 0, by rw [hv, hl], fun i x hx => by have := (List.getElem?_eq_some_iff.1 hx).1; omega⟩
  · refine ⟨_, _, rfl, fun i x hx => ⟨g, 0, coV x, rfl, ?_, coV_stands (hg x (List.mem_of_getElem? hx))⟩⟩
    rw [Nat.zero_add]
    exact ownsRow_cell h0 (by simp [hx])
theorem infoChipOp : (Tryz.prog.info? 91).map (fun i => (i.zero, i.size, i.bytes)) = some (some .nilIface, 1, 16) := by kernel_rfl
theorem goodOps_moved (bs : List Bk) (L : List Int) (v into seq : Int) (k : Nat) : ∀ x ∈ movedTo bs L v into seq k, x.kind = 1 := by
  induction k with
  | zero => intro x hx; simp [movedTo] at hx
  | succ k ih =>
    intro x hx
    simp only [movedTo, List.mem_append] at hx
    rcases hx with hx | hx
    · exact ih x hx
    · split at hx
      · simp at hx; rw [hx]
      · simp at hx
theorem goodOps_move (bs : List Bk) (L : List Int) (v into seq : Int) : ∀ x ∈ moveOps bs L v into seq, goodOp x := by
  intro x hx
  simp only [moveOps, List.mem_append, List.mem_singleton] at hx
  rcases hx with hx | rfl
  · exact .inl (goodOps_moved _ _ _ _ _ _ x hx)
  · exact .inr ⟨rfl, rfl⟩
theorem goodOps_write (bs : List Bk) (L : List Int) (seq o log : Int) (data : ByteArray) : ∀ x ∈ writeOps bs L seq o log data, goodOp x := by
  intro x hx
  unfold writeOps at hx
  split at hx
  · split at hx
    · simp only [List.mem_append, List.mem_singleton] at hx
      rcases hx with hx | rfl
      · exact goodOps_move _ _ _ _ _ x hx
      · exact .inl rfl
    · simp at hx; rw [hx]; exact .inl rfl
  · simp at hx; rw [hx]; exact .inl rfl

set_option maxRecDepth 100000 in
set_option maxHeartbeats 4000000 in
theorem emptying_any (A : Array Value) (m : CC) (bs : List Bk) (n : Nat) (hC : CellsIs A m bs n) (hAp : ∀ b i, b < 12 → i < 16 → A[1 + b * 17 + 1 + i]? = (paA (m.page b))[i]?) (ma : Option Addr) (mc : Nat) (L : List Int) (mn : Nat) (hL : L.length = mn) (seq o : Int) (hok : FtlOk bs L seq o) (v : Nat) (hv : v < n) (into : Int) (w : World) (hI : IntsAt w ma L) :
    Calls Tryz.prog 50 #[.agg A, .slice ma mn mc, .int .i64 (v : Int), .int .i64 into, .int .i64 seq] w fun e w' => ∃ r, e = .returned r ∧ OwnsCo w' (w.heap.size + 1) r (moveOps bs L (v : Int) into seq) ∧ Below w.heap.size w w' := by
  obtain ⟨i0, hi, hz0, hz1, hz2⟩ := info_parts infoChipOp
  have hn12 := hC.most
  have hmn : mn ≤ 36 := by have := hok.len36; omega
  have hsq := hok.seq
  have htp := hok.chip.top
  have h0 : 0 ≤ seq := by omega
  have h1 : seq ≤ 1000000000 := hsq.2
  obtain ⟨x, hx⟩ := getElem?_ex (l := bs) (k := v) (by have := hC.len; omega)
  have h4 := (hok.chip.block x (List.mem_of_getElem? hx)).four
  have hpg : ∀ k, k < 4 → pageIn bs (v : Int) k = m.page v k := fun k hk => by
    have e := ccBs_at m hv
    rw [hC.blocks, hx] at e
    cases e
    exact pageIn_of hx (ccPs_at m v hk)
  have hmv : ∀ k, k < 4 → movesAt bs L (v : Int) k = decide (((v : Int) * 4 + (k : Int)) ∈ L) := fun k hk => hok.moves (by omega) hk
  have HLD : Hid (∀ ty, ∀ j, j < 16 → (w.alloc (.cells A ty)).cell? ⟨w.heap.size, 1 + v * 17 + 1 + j, none⟩ = (paA (m.page v))[j]?) := fun ty j hj => (cell_of_row _ _ _ _ _ _ (Go.Deep.blk_alloc_new _ _)).trans (hAp v j (by omega) hj)
  have hvi : (v : Int) < 12 := by omega
  have HPG := hide hpg
  have HMV := hide hmv
  have HI := hide hI
  have HL := hide hL
  clear hok hC hAp hI hx hpg hmv hL hsq htp h4
  go_enter Tryz.func50, Tryz.ntmps50
  go_wp2_with (refine wpList_load_mid rfl 52 _ rfl w.heap.size (1 + v * 17 + 1) rfl (paA (m.page v)) 16 (paA_size _) (unhide HLD _) _ Tryz.underlying52 rfl sizePages ?_)
  obtain ⟨w0, hw0⟩ : ∃ w0, w0 = w.alloc (.cells A 57) := ⟨_, rfl⟩
  have hs0 : w0.heap.size = w.heap.size + 1 := by rw [hw0]; simp
  have hW0 : Below w.heap.size w w0 := by rw [hw0]; exact (Below.refl _ w).alloc (Nat.le_refl _) _
  rw [← hw0]
  have HS0 := hide hs0
  clear hw0 HLD hs0
  go_loopw [11, 19] (fun out i wr => ∃ k : Nat, k ≤ 4 ∧ i = .int .i64 k ∧ OwnsCo wr (w.heap.size + 1) out (movedTo bs L (v : Int) into seq k) ∧ Below w0.heap.size w0 wr) (fun _ i _ => 4 - (intOf i).toNat)
  case atStart => exact ⟨0, Nat.zero_le _, rfl, World.ownsRow_nil _ _ _ _, Below.refl _ _⟩
  case round =>
    obtain ⟨k, hk, rfl, hO, hB⟩ := hrel
    have hsr := hB.size
    have hml := movedTo_length bs L (v : Int) into seq k
    obtain ⟨q, hq⟩ : ∃ q, q = (movedTo bs L (v : Int) into seq k).length := ⟨_, rfl⟩
    rw [← hq] at hml
    obtain ⟨X, hX⟩ : ∃ X, X = (movedTo bs L (v : Int) into seq k).map coV := ⟨_, rfl⟩
    have hRr : wr.ownsRow (w.heap.size + 1) 91 1 u11 q X := by rw [hX, hq]; exact hO
    have HQ := hide (And.intro hX hq)
    have HO := hide hO
    have hW := hW0.trans (hB.mono hW0.size)
    have hsr' : w.heap.size + 1 ≤ wr.heap.size := by have := unhide HS0; omega
    obtain ⟨qa, qc, hu⟩ : ∃ qa qc, u11 = .slice qa q qc := by
      rcases hRr.2 with ⟨e1, e2⟩ | ⟨g, cap, cur, e1, _⟩
      · exact ⟨none, 0, by rw [e1, e2]⟩
      · exact ⟨_, _, e1⟩
    subst hu
    clear hq hX hO
    by_cases hlt : k < 4
    · have hidx := fun W => run_index_pages (P := Tryz.prog) W 52 51 (m.page v) k hlt Tryz.underlying52 _ Tryz.underlying51 rfl sizePage
      obtain ⟨p, hp⟩ : ∃ p, m.page v k = p := ⟨_, rfl⟩
      have HP := hide ((unhide HPG k hlt).trans hp)
      rw [hp] at hidx
      have HM := hide (unhide HMV k hlt)
      clear hp
      obtain ⟨u, lg, s, d⟩ := p
      simp only at hidx
      have hk4 : (k : Int) < 4 := by omega
      generalize paA (m.page v) = PA at hidx ⊢
      obtain ⟨w4, hw4⟩ : ∃ w4, w4 = wr.alloc (.cells #[.bool u, .int .i64 lg, .int .i64 s, .string d] 51) := ⟨_, rfl⟩
      have hB4 : Below wr.heap.size wr w4 := by rw [hw4]; exact (Below.refl _ wr).alloc (Nat.le_refl _) _
      have hs4 : w4.heap.size = wr.heap.size + 1 := by rw [hw4]; simp
      have hr4 : w4.heap[wr.heap.size]? = some (.cells #[.bool u, .int .i64 lg, .int .i64 s, .string d] 51 (0, 0)) := by rw [hw4]; exact Go.Deep.blk_alloc_new _ _
      have k0 := cell_of_row _ _ 0 _ _ _ hr4
      have k1 := cell_of_row _ _ 1 _ _ _ hr4
      have k2 := cell_of_row _ _ 2 _ _ _ hr4
      have k3 := cell_of_row _ _ 3 _ _ _ hr4
      have f2 := frozen_of_row _ _ 2 _ _ hr4
      simp at k0 k1 k2 k3
      have HI4 := hide ((unhide HI).below (hW.trans (hB4.mono hW.size)) (Nat.le_refl _))
      have HCT : Hid (Calls Tryz.prog 81 #[.slice ma mn mc, .int .i64 ((v : Int) * 4 + (k : Int))] w4 fun e w' => e = .returned (.bool (decide (((v : Int) * 4 + (k : Int)) ∈ L))) ∧ w' = w4) := by
        have := contains_any ma mc L ((v : Int) * 4 + (k : Int)) w4 (unhide HI4) (by have := unhide HL; omega)
        rw [unhide HL] at this
        exact this
      clear hr4
      go_wp2_with fail
      rw [← hw4]
      clear hw4
      refine (unhide HCT).mono ?_
      rintro e w5 ⟨rfl, rfl⟩
      rw [← unhide HM]
      cases hmo : movesAt bs L (v : Int) k with
      | false =>
        go_wp2
        go_roundw
        case rel => exact ⟨k + 1, by omega, by go_num, by rw [movedTo_not hmo]; exact (unhide HO).kept hB4, hB.trans (hB4.mono hB.size)⟩
        case measure => simp [intOf]; omega
      | true =>
        obtain ⟨w6, hw6⟩ : ∃ w6, w6 = w5.setCell ⟨wr.heap.size, 2, none⟩ (.int .i64 (seq + (q : Int))) := ⟨_, rfl⟩
        have hB6 : Below wr.heap.size wr w6 := by rw [hw6]; exact hB4.setCell (Nat.le_refl _) _
        have hs6 : w6.heap.size = wr.heap.size + 1 := by rw [hw6]; simpa [World.setCell] using hs4
        have j0 : w6.cell? ⟨wr.heap.size, 0, none⟩ = some (.bool u) := by rw [hw6, World.cell?_setCell_other _ _ _ _ (by simp)]; exact k0
        have j1 : w6.cell? ⟨wr.heap.size, 1, none⟩ = some (.int .i64 lg) := by rw [hw6, World.cell?_setCell_other _ _ _ _ (by simp)]; exact k1
        have j2 : w6.cell? ⟨wr.heap.size, 2, none⟩ = some (.int .i64 (seq + (q : Int))) := by rw [hw6]; exact World.cell?_setCell_same' _ _ _ (by rw [k2]; rfl)
        have j3 : w6.cell? ⟨wr.heap.size, 3, none⟩ = some (.string d) := by rw [hw6, World.cell?_setCell_other _ _ _ _ (by simp)]; exact k3
        go_upto_region 7 with fail
        rw [← hw6]
        clear hw6
        have hRw : w6.ownsRow (w.heap.size + 1) 91 1 (.slice qa q qc) q X := by have := (unhide HO).kept hB6; obtain ⟨e1, e2⟩ := unhide HQ; rw [e1, e2]; rw [e2] at this; exact this
        clear k0 k1 k2 k3 f2 HCT HI4 hidx
        go_wp2_with (refine wpList_append_lies _ rfl (.tmp 34) (.tmp 39) 62 rfl (w.heap.size + 1) 91 i0 _ 1 16 Tryz.underlying62 hi hz0 hz1 hz2 rfl (by decide) (.slice qa q qc) q X (by simp [Act.eval]) (by exact hRw.alloc _) ⟨w6.heap.size, 0, none⟩ 1 1 [progV into ⟨u, lg, seq + (q : Int), d⟩] (by simp [Act.eval]) rfl (World.news_of_block (cs := #[progV into ⟨u, lg, seq + (q : Int), d⟩]) (t := 91) (fr := (0, 0)) (by exact Go.Deep.blk_alloc_new _ _)) (by simp [Value.oneCell', progV]) (by omega) (by unfold maxLen; omega) (by omega) (by simp; omega) (w6.heap.size + 1) (by simp) ?_; intro g1 cap wE hown hgrow hat hlt1)
        go_roundw
        case rel =>
          have hBE : Below (w.heap.size + 1) w6 wE := Below.grown ((Below.refl _ w6).alloc (by omega) _) hgrow (by simp; omega) (fun j e => (hRw.lt j e).1)
          refine ⟨k + 1, by omega, by go_num, ?_, (hB.trans (hB6.mono hB.size)).trans (hBE.mono (Nat.le_of_eq (unhide HS0)))⟩
          obtain ⟨e1, e2⟩ := unhide HQ
          rw [movedTo_yes hmo, ← e2, unhide HP]
          unfold OwnsCo
          rw [List.length_append, List.map_append, ← e1, ← e2]
          simpa [coV] using hown
        case measure => simp [intOf]; omega
    · obtain rfl : k = 4 := by omega
      generalize paA (m.page v) = PA
      go_wp2_with (refine wpList_append_lies _ rfl (.tmp 42) (.tmp 46) 62 rfl (w.heap.size + 1) 91 i0 _ 1 16 Tryz.underlying62 hi hz0 hz1 hz2 rfl (by decide) (.slice qa q qc) q X (by simp [Act.eval]) (by exact hRr.alloc _) ⟨wr.heap.size, 0, none⟩ 1 1 [eraV (v : Int)] (by simp [Act.eval]) rfl (World.news_of_block (cs := #[eraV (v : Int)]) (t := 91) (fr := (0, 0)) (by exact Go.Deep.blk_alloc_new _ _)) (by simp [Value.oneCell', eraV]) (by omega) (by unfold maxLen; omega) (by omega) (by simp; omega) (wr.heap.size + 1) (by simp) ?_; intro g1 cap wE hown hgrow hat hlt1)
      go_ret
      refine ⟨_, rfl, ?_, ?_⟩
      · obtain ⟨e1, e2⟩ := unhide HQ
        unfold moveOps OwnsCo
        rw [List.length_append, List.map_append, ← e1, ← e2]
        simpa [coV] using hown
      · have hBE : Below (w.heap.size + 1) wr wE := Below.grown ((Below.refl _ wr).alloc (by omega) _) hgrow (by simp; omega) (fun j e => (hRr.lt j e).1)
        exact hW.trans (hBE.mono (by omega))
end Go.Proofs.YtjgcjeaplckbbaaGreat

/- Ops: the laws' own copy, comparison and measure of them. -/
namespace Go.Proofs.YtjgcjeaplckbbaaGreat
open Go.RowKit
set_option linter.unusedVariables false
set_option linter.unusedSimpArgs false

theorem infoOp : (Tryz.prog.info? 93).map (fun i => (i.zero, i.size, i.bytes)) = some (some (.agg #[.int .i64 0, .int .i64 0, .bool false, .int .i64 0, .int .i64 0, .string ByteArray.empty]), 6, 56) := by kernel_rfl

theorem sizeOp : (Tryz.prog.info? 93).map (·.size) = some 6 := by kernel_rfl

theorem make_ops (n : Nat) (hn : n ≤ 1048576) (w : World) :
    (Instr.makeSlice 32 (.int .i64 (n : Int)) (.int .i64 (n : Int))).run Tryz.prog w = .ok (.slice (some ⟨w.heap.size, 0, none⟩) n n) (w.alloc (.cells (madeCells #[.int .i64 0, .int .i64 0, .bool false, .int .i64 0, .int .i64 0, .string ByteArray.empty] (n * 6)) 93)) := by
  obtain ⟨i, hi, hz⟩ := Option.map_eq_some_iff.1 infoOp
  simp only [Prod.mk.injEq] at hz
  obtain ⟨hz0, hz1, hz2⟩ := hz
  have h := run_make (P := Tryz.prog) w 32 93 i _ Tryz.underlying32 hi hz0 .i64 .i64 (n : Int) (n : Int) (by omega) (Int.le_refl _) (by rw [hz2]; omega) (by omega)
  rw [hz1] at h
  simpa [Value.cells] using h






end Go.Proofs.YtjgcjeaplckbbaaGreat

/- Ops as the program tells them: told and toldOps. -/
namespace Go.Proofs.YtjgcjeaplckbbaaGreat
open Go.RowKit
set_option linter.unusedVariables false
set_option linter.unusedSimpArgs false

theorem isZero_eq {p : Pg} (h : isZero p = true) : p = zeroPg := by
  obtain ⟨u, l, s, d⟩ := p
  unfold isZero at h
  simp only [Bool.and_eq_true, Bool.not_eq_true', decide_eq_true_eq] at h
  obtain ⟨⟨⟨rfl, rfl⟩, rfl⟩, hd⟩ := h
  have : d = ByteArray.empty := by
    obtain ⟨a⟩ := d
    have e : a = #[] := Array.eq_empty_of_size_eq_zero hd
    rw [e]; rfl
  rw [this]
  rfl

set_option maxHeartbeats 1000000 in
theorem toldProg_any (b : Int) (u : Bool) (l s : Int) (d : ByteArray) (w : World) :
    Calls Tryz.prog 132 #[.agg #[.int .i64 b, .bool u, .int .i64 l, .int .i64 s, .string d]] w fun e w' => e = .returned (.agg #[.int .i64 1, .int .i64 b, .bool u, .int .i64 l, .int .i64 s, .string d]) ∧ Below w.heap.size w w' := by
  go_enter Tryz.func132, Tryz.ntmps132
  go_wp2
  refine bodyPost_ret (v := .agg #[.int .i64 1, .int .i64 b, .bool u, .int .i64 l, .int .i64 s, .string d]) (by simp [results, Tryz.results132, go_sem]) rfl ⟨rfl, ?_⟩
  exact ((Below.refl _ w).alloc (Nat.le_refl _) _).alloc (by simp) _

set_option maxHeartbeats 1000000 in
theorem toldEra_any (b : Int) (w : World) :
    Calls Tryz.prog 133 #[.agg #[.int .i64 b]] w fun e w' => e = .returned (.agg #[.int .i64 2, .int .i64 b, .bool false, .int .i64 0, .int .i64 0, .string ⟨#[]⟩]) ∧ Below w.heap.size w w' := by
  go_enter Tryz.func133, Tryz.ntmps133
  go_wp2
  refine bodyPost_ret (v := .agg #[.int .i64 2, .int .i64 b, .bool false, .int .i64 0, .int .i64 0, .string ⟨#[]⟩]) (by simp [results, Tryz.results133, go_sem]) rfl ⟨rfl, ?_⟩
  exact ((Below.refl _ w).alloc (Nat.le_refl _) _).alloc (by simp) _

set_option maxRecDepth 100000 in
set_option maxHeartbeats 1000000 in
theorem toldOps_any (a : Option Addr) (c : Nat) (xs : List Opn) (n : Nat) (hl : xs.length = n) (w : World) (h : CoAt w a xs) (hn : n ≤ 1048576) :
    Calls Tryz.prog 20 #[.slice a n c] w fun e w' => e = .returned (.slice (some ⟨w.heap.size, 0, none⟩) n n) ∧ OwnOps w' 93 w.heap.size n xs ∧ Below w.heap.size w w' := by
  have hmk := make_ops n hn
  have HL := hide hl
  clear hl
  go_enter Tryz.func20, Tryz.ntmps20
  go_wp2
  clear hmk
  go_loopw [11] (fun i wr => ∃ k : Nat, k ≤ n ∧ i = .int .i64 k ∧ OwnOps wr 93 w.heap.size n (xs.take k) ∧ Below w.heap.size w wr) (fun i _ => n - (intOf i).toNat)
  case atStart => exact ⟨0, Nat.zero_le _, rfl, by simpa using OwnOps.made w _ _, (Below.refl _ _).alloc (Nat.le_refl _) _⟩
  case round =>
    obtain ⟨k, hk, rfl, hO, hB⟩ := hrel
    by_cases hlt : k < n
    · obtain ⟨x, hx⟩ := getElem?_ex (l := xs) (k := k) (by have := unhide HL; omega)
      obtain ⟨b1, o1, v, rfl, g0, hv⟩ := (h.below hB (Nat.le_refl _)) k x hx
      have HX := hide hx
      have HO := hide hO
      obtain ⟨V, hV⟩ : ∃ V : Array Value, V = #[.int .i64 x.kind, .int .i64 x.block, .bool x.page.used, .int .i64 x.page.log, .int .i64 x.page.seq, .string x.page.data] := ⟨_, rfl⟩
      have hV6 : V.size = 6 := by rw [hV]; rfl
      have HTH : Hid (∀ w1, OwnOps w1 93 w.heap.size n (xs.take k) → w1.there w.heap.size (k * 6) V.size) := fun w1 hO1 j hj => ⟨by obtain ⟨v, hv⟩ := hO1.cells hlt j (by omega); rw [hv]; rfl, World.rowIs.frozen hO1 _⟩
      have HSZ : Hid ((Tryz.prog.info? 93).map (·.size) = some V.size) := by rw [hV6]; exact sizeOp
      have HON : Hid (V.all (·.oneCell') = true) := by rw [hV]; exact all_oneCell_toArray (fun v hv => by simp at hv; rcases hv with rfl | rfl | rfl | rfl | rfl | rfl <;> rfl)
      have hkn : (k : Int) < (n : Int) := by omega
      clear hx h hO hV6
      rcases hv with ⟨hk1, hv⟩ | ⟨hk2, hz, hv⟩
      · subst hv
        have HV : Hid (V = #[.int .i64 1, .int .i64 x.block, .bool x.page.used, .int .i64 x.page.log, .int .i64 x.page.seq, .string x.page.data]) := by rw [hV, hk1]; rfl
        have HV0 := hide hV
        clear hV hk1
        unfold progV at g0
        go_wp2_with fail
        refine (toldProg_any _ _ _ _ _ _).mono ?_
        rintro e w1 ⟨rfl, hc⟩
        have hO1 : OwnOps w1 93 w.heap.size n (xs.take k) := (unhide HO).below hc (World.rowIs.lt (unhide HO))
        have HTH1 := hide (unhide HTH w1 hO1)
        have HO1 := hide hO1
        clear hO1 HO HTH g0
        go_wp2_with (refine wpList_store_mid rfl 93 _ _ rfl w.heap.size (k * 6) V rfl (by rw [unhide HV]; rfl) (unhide HTH1) (unhide HSZ) (unhide HON) ?_)
        rw [unhide HV0]
        simp only [World.setCells]
        go_roundw
        case rel =>
          refine ⟨k + 1, by omega, by go_num, (unhide HO1).put (take_put (unhide HX)).1 (take_put (unhide HX)).2, ?_⟩
          exact ((((((hB.trans (hc.mono hB.size)).setCell (Nat.le_refl _) _).setCell (Nat.le_refl _) _).setCell (Nat.le_refl _) _).setCell (Nat.le_refl _) _).setCell (Nat.le_refl _) _).setCell (Nat.le_refl _) _
        case measure => simp [intOf]; omega
      · subst hv
        have HV : Hid (V = #[.int .i64 2, .int .i64 x.block, .bool false, .int .i64 0, .int .i64 0, .string ⟨#[]⟩]) := by rw [hV, hk2, isZero_eq hz]; rfl
        have HV0 := hide hV
        clear hV hk2 hz
        unfold eraV at g0
        go_wp2_with fail
        refine (toldEra_any _ _).mono ?_
        rintro e w1 ⟨rfl, hc⟩
        have hO1 : OwnOps w1 93 w.heap.size n (xs.take k) := (unhide HO).below hc (World.rowIs.lt (unhide HO))
        have HTH1 := hide (unhide HTH w1 hO1)
        have HO1 := hide hO1
        clear hO1 HO HTH g0
        go_wp2_with (refine wpList_store_mid rfl 93 _ _ rfl w.heap.size (k * 6) V rfl (by rw [unhide HV]; rfl) (unhide HTH1) (unhide HSZ) (unhide HON) ?_)
        rw [unhide HV0]
        simp only [World.setCells]
        go_roundw
        case rel =>
          refine ⟨k + 1, by omega, by go_num, (unhide HO1).put (take_put (unhide HX)).1 (take_put (unhide HX)).2, ?_⟩
          exact ((((((hB.trans (hc.mono hB.size)).setCell (Nat.le_refl _) _).setCell (Nat.le_refl _) _).setCell (Nat.le_refl _) _).setCell (Nat.le_refl _) _).setCell (Nat.le_refl _) _).setCell (Nat.le_refl _) _
        case measure => simp [intOf]; omega
    · have hk' : k = xs.length := by have := unhide HL; omega
      subst hk'
      rw [List.take_length] at hO
      have HO := hide hO
      clear hO h
      go_wp2
      go_ret
      exact ⟨rfl, unhide HO, hB⟩
end Go.Proofs.YtjgcjeaplckbbaaGreat

/- The walk over the places that a map names: the program's namedPlaces, for whom asks something of each of them. -/
namespace Go.Proofs.YtjgcjeaplckbbaaGreat
open Go.RowKit Go.Shelf
set_option linter.unusedVariables false
set_option linter.unusedSimpArgs false
attribute [local go_sem] Oper.semAt_some

/-- The rows of S are as they were. -/
def KeepS (S : Nat → Prop) (W W' : World) : Prop := W.heap.size ≤ W'.heap.size ∧ ∀ k, S k → W'.heap[k]? = W.heap[k]?
theorem KeepS.refl (S : Nat → Prop) (W : World) : KeepS S W W := ⟨Nat.le_refl _, fun _ _ => rfl⟩
theorem KeepS.trans {S : Nat → Prop} {A B C : World} (h : KeepS S A B) (k : KeepS S B C) : KeepS S A C := ⟨Nat.le_trans h.1 k.1, fun i hi => (k.2 i hi).trans (h.2 i hi)⟩
theorem KeepS.cell {S : Nat → Prop} {A B : World} (h : KeepS S A B) {b : Nat} (hb : S b) (i : Nat) : B.cell? ⟨b, i, none⟩ = A.cell? ⟨b, i, none⟩ := World.cell?_of_block (w := A) (h.2 b hb)
theorem KeepS.alloc {S : Nat → Prop} (W : World) (o : Obj) (h : ∀ k, S k → k < W.heap.size) : KeepS S W (W.alloc o) := ⟨by simp, fun k hk => Below.heap_alloc _ _ _ (h k hk)⟩
theorem KeepS.setCell {S : Nat → Prop} (W : World) (a : Addr) (v : Value) (h : ¬ S a.block) : KeepS S W (W.setCell a v) := ⟨by simp [World.setCell], fun k hk => Below.heap_setCell _ _ _ _ (fun e => h (by rw [← e]; exact hk))⟩
theorem keepS_b {S : Nat → Prop} {w : World} (hn : ∀ k, S k → k < w.heap.size) (W : World) (l : Nat) (o o' : Obj) (hl : w.heap.size ≤ l) (_ : W.heap[l]? = some o) (_ : o.isCells = false) (_ : o.isWalk = false) : KeepS S W (W.putObj l o') :=
  ⟨by simp, fun k hk => World.putObj_heap_other (by have := hn k hk; omega)⟩
theorem IntsAt.keepS {S : Nat → Prop} {W W' : World} {a : Option Addr} {L : List Int} (h : IntsAt W a L) (hk : KeepS S W W') (hS : ∀ b o, a = some ⟨b, o, none⟩ → 0 < L.length → S b) : IntsAt W' a L := by
  intro i x hx
  obtain ⟨b, o, ha, hc⟩ := h i x hx
  exact ⟨b, o, ha, (hk.cell (hS b o ha (by have := (List.getElem?_eq_some_iff.1 hx).1; omega)) _).trans hc⟩

def encI (x : Int) : Array Value := #[.int .i64 x]

set_option maxRecDepth 100000 in
set_option maxHeartbeats 4000000 in
theorem named1_in (Rx : Int → Prop) (S : Nat → Prop) (F : Fence) (n : Nat) (hF : F.fn 100) (hro : F.round = none) (hn : 1 ≤ n) (l Bx : Nat) (hSx : S Bx) (a : Option Addr) (c : Nat) (L : List Int) (nn : Nat) (hnn : L.length = nn) (hsm : nn ≤ 1048576) (J Jx : List Int → World → Prop)
    (hRx : ∀ x ∈ L, x ≠ -1 → Rx x) (hY : ∀ pre x W, Rx x → J pre W → pre.length < nn → YieldAt F (n - 1) Tryz.prog l (encI x) W fun e W' =>
      (e = .returned (.bool true) ∧ J (pre ++ [x]) W' ∧ KeepS S W W') ∨ (e = .returned (.bool false) ∧ Jx (pre ++ [x]) W'))
    (W : World) (hbox : W.cell? ⟨Bx, 0, none⟩ = some (.slice a nn c)) (hI : IntsAt W a L) (hSa : ∀ b o, a = some ⟨b, o, none⟩ → 0 < L.length → S b) (h0 : J [] W) :
    CallsIn F n Tryz.prog 100 #[.func (.yield l) #[] #[], .pointer (some ⟨Bx, 0, none⟩)] W fun e W' => (∃ v, e = .returned v) ∧
      ((∃ ys, ys = namedOf L ∧ J ys W') ∨ (∃ pre, pre <+: namedOf L ∧ Jx pre W')) := by
  have HY := hide hY
  have HRX := hide hRx
  have HI := hide hI
  have HN := hide hnn
  have HSA := hide hSa
  clear hY hRx hI hnn hSa
  refine callsIn_of_wp Tryz.func100 rfl hF ?_ hro
  simp only [Tryz.ntmps100, List.size_toArray, List.length_cons, List.length_nil, Nat.reduceAdd, Nat.reduceSub, Array.replicate_succ, Array.replicate_zero, List.push_toArray, List.append_toArray, List.nil_append, List.cons_append]
  gi_wp2
  clear hbox
  gi_loopw [7] (fun i wr => ∃ k : Nat, k ≤ nn ∧ i = .int .i64 k ∧ J (namedOf (L.take k)) wr ∧ KeepS S W wr) (fun i _ => nn - (intOf i).toNat)
  case atStart => exact ⟨0, Nat.zero_le _, rfl, h0, KeepS.refl _ _⟩
  case round =>
    obtain ⟨k, hk, rfl, hJs, hnx⟩ := hrel
    by_cases hlt : k < nn
    · obtain ⟨x, hx⟩ := getElem?_ex (l := L) (k := k) (by have := unhide HN; omega)
      obtain ⟨b1, o1, rfl, c1⟩ := ((unhide HI).keepS hnx (unhide HSA)) k x hx
      have hst := namedOf_take hx
      have hlen : (namedOf (L.take k)).length < nn := by
        have := namedOf_length (L.take k)
        rw [List.length_take] at this
        omega
      have hpre := namedOf_prefix L (k + 1)
      have hrx := unhide HRX x (List.mem_of_getElem? hx)
      have HST := hide hst
      have HPRE := hide hpre
      have HRXP := hide hrx
      have HNX := hide hnx
      clear hst hpre hrx hx hnx
      by_cases hxm : x = -1
      · have hne : (x != -1) = false := by simpa using hxm
        clear hlen
        gi_wp2
        refine ⟨fun _ h => (by cases h), ?_⟩
        gi_wp2
        go_roundw
        case rel =>
          refine ⟨k + 1, by omega, by go_num, ?_, unhide HNX⟩
          rw [unhide HST, if_pos hxm, List.append_nil]
          exact hJs
        case measure => simp [intOf]; omega
      · have hne : (x != -1) = true := by simpa using hxm
        obtain ⟨fn, tmps, assign, body, hy, hR⟩ := unhide HY (namedOf (L.take k)) x wr (unhide HRXP hxm) hJs hlen
        dsimp only [encI] at hy
        have HR := hide hR
        clear hR
        gi_wp2
        refine (unhide HR).mono ?_
        rintro e W3 (⟨rfl, hJ3, hk3⟩ | ⟨rfl, hJx3⟩)
        · have HK3 := hide hk3
          clear hk3
          gi_wp2
          go_roundw
          case rel =>
            refine ⟨k + 1, by omega, by go_num, ?_, (unhide HNX).trans (unhide HK3)⟩
            rw [unhide HST, if_neg hxm]
            exact hJ3
          case measure => simp [intOf]; omega
        · gi_wp2
          refine bodyPost_ret (results_none rfl _ _ _) rfl ?_
          refine ⟨⟨_, rfl⟩, .inr ⟨_, ?_, hJx3⟩⟩
          have := unhide HPRE
          rw [unhide HST, if_neg hxm] at this
          exact this
    · obtain rfl : k = nn := by omega
      have e : L.take k = L := by rw [← unhide HN]; exact List.take_length
      rw [e] at hJs
      gi_wp2
      go_end0
      exact ⟨⟨_, rfl⟩, .inl ⟨_, rfl, hJs⟩⟩

set_option maxHeartbeats 1000000 in
theorem namedPlaces_in (F : Fence) (n : Nat) (hF : F.fn 91) (hro : F.round = none) (a : Option Addr) (nn c : Nat) (w : World) :
    CallsIn F n Tryz.prog 91 #[.slice a nn c] w fun e w' => e = .returned (.func (.func 100) #[] #[.pointer (some ⟨w.heap.size, 0, none⟩)]) ∧ w' = w.alloc (.cells #[.slice a nn c] 27) := by
  refine callsIn_of_wp Tryz.func91 rfl hF ?_ hro
  simp only [Tryz.ntmps91, List.size_toArray, List.length_cons, List.length_nil, Nat.reduceAdd, Nat.reduceSub, Array.replicate_succ, Array.replicate_zero, List.push_toArray, List.append_toArray, List.nil_append, List.cons_append]
  gi_wp2
  go_ret
  exact ⟨rfl, rfl⟩

theorem named_stops (Rx : Int → Prop) (S : Nat → Prop) (F : Fence) (n : Nat) (hF : F.fn 100) (hro : F.round = none) (hn : 1 ≤ n) (Bx : Nat) (hSx : S Bx) (a : Option Addr) (c : Nat) (L : List Int) (nn : Nat) (hnn : L.length = nn) (hsm : nn ≤ 1048576) (hRx : ∀ x ∈ L, x ≠ -1 → Rx x)
    (w : World) (hS : ∀ k, S k → k < w.heap.size) (hbox : w.cell? ⟨Bx, 0, none⟩ = some (.slice a nn c)) (hI : IntsAt w a L) (hSa : ∀ b o, a = some ⟨b, o, none⟩ → 0 < L.length → S b) :
    SeqStopsK F n Tryz.prog 100 #[.pointer (some ⟨Bx, 0, none⟩)] (fun x : {x : Int // Rx x} => encI x.val) (KeepS S) (fun ys => ys.map (·.val) = namedOf L) (fun pre => pre.map (·.val) <+: namedOf L) nn w := by
  intro l J Jx W hW hJA _ hY h0
  refine (named1_in Rx S F n hF hro hn l Bx hSx a c L nn hnn hsm (fun p W => ∃ q : List {x : Int // Rx x}, q.map (·.val) = p ∧ J q W) (fun p W => ∃ q : List {x : Int // Rx x}, q.map (·.val) = p ∧ Jx q W) hRx ?_ W ((hW.cell (p := ⟨Bx, 0, none⟩) (hS Bx hSx)).trans hbox) (hI.below hW (Nat.le_refl _)) hSa ⟨[], rfl, h0⟩).mono ?_
  · rintro pre x W1 hx ⟨q, rfl, hq⟩ hl
    obtain ⟨fn, tmps, assign, body, hy, hR⟩ := hY q ⟨x, hx⟩ W1 hq (by simpa using hl)
    refine ⟨fn, tmps, assign, body, hy, hR.mono ?_⟩
    rintro e W' (⟨rfl, h1, h2⟩ | ⟨rfl, h1⟩)
    · exact .inl ⟨rfl, ⟨_, by simp, h1⟩, h2⟩
    · exact .inr ⟨rfl, ⟨_, by simp, h1⟩⟩
  · rintro e W' ⟨hv, h⟩
    refine ⟨hv, ?_⟩
    rcases h with ⟨ys, rfl, q, hq, hJ⟩ | ⟨pre, hp, q, rfl, hJ⟩
    · exact .inl ⟨q, hq, hJ⟩
    · exact .inr ⟨q, hp, hJ⟩
end Go.Proofs.YtjgcjeaplckbbaaGreat
