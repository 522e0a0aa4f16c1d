/- 7 texts in one. -/
import Derived.Test.YtalgkmellbamgaaG33
import Derived.Test.YtalgkmellbamgaaG05
import Derived.WalkKit
import Derived.Outline
import Derived.Deep.RegionHeld3
import Derived.Test.YtalgkmellbamgaaG14
import Derived.Test.YtalgkmellbamgaaG02
import Derived.BigQuiet
import Derived.Test.YtalgkmellbamgaaG07
import Derived.Deep.DeepCutAuto
import Derived.Test.YtalgkmellbamgaaG06
import Derived.Test.YtalgkmellbamgaaG01
import Derived.Test.YtalgkmellbamgaaG20
import Derived.Deep.MidRow
import Derived.Test.YtalgkmellbamgaaG21

/- The free block that is worn the least: the program's leastWorn. -/
namespace Go.Proofs.Ytalgkmellbamgaa
open Go.RowKit
set_option linter.unusedVariables false
set_option linter.unusedSimpArgs false

theorem isNaN_any (x : Int) (w : World) : Calls Try.prog 170 #[.int .i64 x] w fun e w' => e = .returned (.bool false) ∧ w' = w := by
  have hne : (x != x) = false := by simp
  go_enter Try.func170, Try.ntmps170
  go_wp2
  go_ret
  exact ⟨rfl, rfl⟩

theorem compare_any (x y : Int) (w : World) : Calls Try.prog 157 #[.int .i64 x, .int .i64 y] w fun e w' => ∃ r : Int, e = .returned (.int .i64 r) ∧ (r < 0 ↔ x < y) ∧ w' = w := by
  go_enter Try.func157, Try.ntmps157
  go_wp2_with fail
  refine (isNaN_any _ _).mono ?_
  rintro e w1 ⟨rfl, rfl⟩
  go_wp2_with fail
  refine (isNaN_any _ _).mono ?_
  rintro e w2 ⟨rfl, rfl⟩
  by_cases h : x < y
  · go_wp2
    go_ret
    exact ⟨_, rfl, by simp [h], rfl⟩
  · by_cases h2 : y < x
    · go_wp2
      go_ret
      exact ⟨_, rfl, by simp; omega, rfl⟩
    · go_wp2
      go_ret
      exact ⟨_, rfl, by simp; omega, rfl⟩

set_option maxRecDepth 100000 in
set_option maxHeartbeats 1000000 in
theorem lessWorn_any (A : Array Value) (m : CC) (bs : List Bk) (n : Nat) (hC : CellsIs A m bs n) (B : Nat) (i j : Nat) (hi : i < n) (hj : j < n) (w : World) (hw : w.heap[B]? = some (.cells A 97 (0, 0))) :
    Calls Try.prog 156 #[.int .i64 (i : Int), .int .i64 (j : Int), .pointer (some ⟨B, 0, none⟩)] w fun e w' => ∃ r : Int, e = .returned (.int .i64 r) ∧ (r < 0 ↔ wearAt bs (i : Int) < wearAt bs (j : Int)) ∧ Below w.heap.size w w' := by
  have hn := hC.most
  obtain ⟨x, hx⟩ := getElem?_ex (l := bs) (k := i) (by have := hC.len; omega)
  obtain ⟨y, hy⟩ := getElem?_ex (l := bs) (k := j) (by have := hC.len; omega)
  have c1 : w.cell? ⟨B, 1 + i * 17, none⟩ = some (.int .i64 x.wear) := (cell_of_row _ _ _ _ _ _ hw).trans (hC.wear hx)
  have c2 : w.cell? ⟨B, 1 + j * 17, none⟩ = some (.int .i64 y.wear) := (cell_of_row _ _ _ _ _ _ hw).trans (hC.wear hy)
  have hBl : B < w.heap.size := World.block_lt_of_cell? _ _ c1
  rw [wearAt_of hx, wearAt_of hy]
  have hii : (i : Int) < 12 := by omega
  have hjj : (j : Int) < 12 := by omega
  clear hC hx hy hw
  go_enter Try.func156, Try.ntmps156
  go_wp2_with fail
  go_region_held3 (fun W => ∀ b o, b < w.heap.size → W.cell? ⟨b, o, none⟩ = w.cell? ⟨b, o, none⟩) (first | (intro b o hb; rfl))
    (first | (go_at_call 157; refine (compare_any _ _ _).mono ?_; rintro e w1 ⟨r, rfl, hr, rfl⟩))
  go_wp2
  go_ret
  exact ⟨_, rfl, hr, (Below.refl _ w).drew⟩

set_option maxRecDepth 100000 in
set_option maxHeartbeats 1000000 in
theorem minFunc_any (A : Array Value) (m : CC) (bs : List Bk) (n : Nat) (hC : CellsIs A m bs n) (B : Nat) (fa : Option Addr) (fc : Nat) (F : List Int) (q : Nat) (hq : F.length = q) (hq12 : q ≤ 12) (hq0 : 0 < q) (hF : ∀ x ∈ F, 0 ≤ x ∧ x < (n : Int)) (w : World) (hw : w.heap[B]? = some (.cells A 97 (0, 0))) (hI : IntsAt w fa F) :
    Calls Try.prog 155 #[.slice fa q fc, .func (.func 156) #[] #[.pointer (some ⟨B, 0, none⟩)]] w fun e w' => e = .returned (.int .i64 (leastIn bs F)) ∧ Below w.heap.size w w' := by
  obtain ⟨x, hx⟩ := getElem?_ex (l := F) (k := 0) (by omega)
  obtain ⟨b1, o1, rfl, hc⟩ := hI 0 x hx
  have HST := hide (leastIn_one (bs := bs) hx)
  have HI := hide hI
  have HC := hide hC
  have HF := hide hF
  have HW := hide hw
  have HQ := hide hq
  have hBl : B < w.heap.size := (Array.getElem?_eq_some_iff.1 hw).1
  rw [Nat.add_zero] at hc
  clear hI hC hF hw hq hx
  go_enter Try.func155, Try.ntmps155
  go_wp2
  go_loopw [5, 6] (fun v i wr => ∃ k : Nat, 1 ≤ k ∧ k ≤ q ∧ i = .int .i64 k ∧ v = .int .i64 (leastIn bs (F.take k)) ∧ Below w.heap.size w wr) (fun _ i _ => q - (intOf i).toNat)
  case atStart => exact ⟨1, Nat.le_refl _, by omega, rfl, by rw [unhide HST], Below.refl _ _⟩
  case round =>
    obtain ⟨k, hk1, hk, rfl, rfl, hB⟩ := hrel
    clear hc HST
    by_cases hlt : k < q
    · obtain ⟨y, hy⟩ := getElem?_ex (l := F) (k := k) (by have := unhide HQ; omega)
      obtain ⟨b2, o2, e2, hcy⟩ := ((unhide HI).below hB (Nat.le_refl _)) k y hy
      cases e2
      have hne : F.take k ≠ [] := fun e => by
        have h1 : (F.take k).length = 0 := by rw [e]; rfl
        rw [List.length_take] at h1
        have := unhide HQ
        omega
      have hmem := List.mem_of_mem_take (leastIn_mem (bs := bs) hne)
      have hbm := unhide HF _ hmem
      have hby := unhide HF y (List.mem_of_getElem? hy)
      have HTK := hide (leastIn_take (bs := bs) hk1 hy)
      obtain ⟨mm, hmm⟩ : ∃ mm, mm = leastIn bs (F.take k) := ⟨_, rfl⟩
      rw [← hmm] at hbm HTK ⊢
      obtain ⟨mi, rfl⟩ := Int.eq_ofNat_of_zero_le hbm.1
      obtain ⟨yi, rfl⟩ := Int.eq_ofNat_of_zero_le hby.1
      have hsr := hB.size
      have HWr := hide ((hB.block B hBl).trans (unhide HW))
      have hyn : yi < n := by omega
      have hmn : mi < n := by omega
      clear hy hne hmem hmm hbm hby
      go_wp2_with fail
      refine (lessWorn_any A m bs n (unhide HC) B yi mi hyn hmn _ (unhide HWr)).mono ?_
      rintro e w2 ⟨r, rfl, hr, hB2⟩
      have hs2 := hB2.size
      have hcy2 := (hB2.cell (p := ⟨b1, o1 + k, none⟩) (World.block_lt_of_cell? _ _ hcy)).trans hcy
      have hBB := hB.trans (hB2.mono hB.size)
      have HR := hide hr
      clear hr hB2 hcy HWr
      by_cases hneg : r < 0
      · go_wp2
        go_roundw
        case rel => exact ⟨k + 1, by omega, by omega, by go_num, by rw [unhide HTK]; unfold leastStep; rw [if_pos ((unhide HR).1 hneg)], hBB⟩
        case measure => simp [intOf]; omega
      · go_wp2
        go_roundw
        case rel => exact ⟨k + 1, by omega, by omega, by go_num, by rw [unhide HTK]; unfold leastStep; rw [if_neg (fun h => by have := (unhide HR).2 h; omega)], hBB⟩
        case measure => simp [intOf]; omega
    · obtain rfl : k = q := by omega
      have HE : Hid (F.take k = F) := by have := unhide HQ; rw [← this]; exact List.take_length
      rw [unhide HE]
      go_wp2
      go_ret
      exact ⟨rfl, hB⟩

set_option maxRecDepth 100000 in
set_option maxHeartbeats 1000000 in
theorem leastWorn_any (A : Array Value) (m : CC) (bs : List Bk) (n : Nat) (hC : CellsIs A m bs n) (fa : Option Addr) (fc : Nat) (F : List Int) (q : Nat) (hq : F.length = q) (hq12 : q ≤ 12) (hq0 : 0 < q) (hF : ∀ x ∈ F, 0 ≤ x ∧ x < (n : Int)) (w : World) (hI : IntsAt w fa F) :
    Calls Try.prog 130 #[.agg A, .slice fa q fc] w fun e w' => e = .returned (.int .i64 (leastIn bs F)) ∧ Below w.heap.size w w' := by
  have hb0 : ∀ o, Below w.heap.size w (w.alloc o) := fun o => (Below.refl _ w).alloc (Nat.le_refl _) _
  have HI := hide hI
  have HC := hide hC
  have HF := hide hF
  clear hI hC hF
  go_enter Try.func130, Try.ntmps130
  go_wp2_with fail
  refine (minFunc_any A m bs n (unhide HC) w.heap.size fa fc F q hq hq12 hq0 (unhide HF) _ (Go.Deep.blk_alloc_new _ _) ((unhide HI).below (hb0 _) (Nat.le_refl _))).mono ?_
  rintro e w1 ⟨rfl, hB1⟩
  have hW1 : Below w.heap.size w w1 := (hb0 _).trans (hB1.mono (by simp))
  clear hB1
  go_wp2
  go_ret
  exact ⟨rfl, hW1⟩
end Go.Proofs.Ytalgkmellbamgaa

/- Ops as the program takes them: opOf. -/
namespace Go.Proofs.Ytalgkmellbamgaa
open Go.RowKit
set_option linter.unusedVariables false
set_option linter.unusedSimpArgs false

/-- An op that is right in itself, and the program's value for it. -/
def goodOp (x : Opn) : Prop := x.kind = 1 ∨ (x.kind = 2 ∧ isZero x.page = true)
def progV (b : Int) (p : Pg) : Value := .iface 169 (.agg #[.int .i64 b, .bool p.used, .int .i64 p.log, .int .i64 p.seq, .string p.data])
def eraV (b : Int) : Value := .iface 201 (.agg #[.int .i64 b])
/-- The program's value v stands for the op x. -/
def StandsFor (v : Value) (x : Opn) : Prop := (x.kind = 1 ∧ v = progV x.block x.page) ∨ (x.kind = 2 ∧ isZero x.page = true ∧ v = eraV x.block)
theorem StandsFor.good {v : Value} {x : Opn} (h : StandsFor v x) : goodOp x := by
  rcases h with ⟨h, _⟩ | ⟨h, h2, _⟩
  · exact .inl h
  · exact .inr ⟨h, h2⟩

set_option maxRecDepth 100000 in
set_option maxHeartbeats 2000000 in
theorem opOf_any (x : Opn) (w : World) :
    Calls Try.prog 136 #[.agg #[.int .i64 x.kind, .int .i64 x.block, .bool x.page.used, .int .i64 x.page.log, .int .i64 x.page.seq, .string x.page.data]] w fun e w' => ∃ (v : Value) (r : Bool), e = .returned (.tuple #[v, .bool r]) ∧ (r = true → StandsFor v x) ∧ (r = false → ¬ goodOp x) ∧ Below w.heap.size w w' := by
  have hb0 : ∀ o, Below w.heap.size w (w.alloc o) := fun o => (Below.refl _ w).alloc (Nat.le_refl _) _
  obtain ⟨xk, xb, xu, xl, xs, xd⟩ := x
  by_cases hk1 : xk = 1
  · subst hk1
    go_enter Try.func136, Try.ntmps136
    go_wp2
    refine bodyPost_ret (v := .tuple #[progV xb ⟨xu, xl, xs, xd⟩, .bool true]) (by simp [results, Try.results136, go_sem, progV]) rfl ⟨_, true, rfl, (fun _ => .inl ⟨rfl, rfl⟩), (fun h => by cases h), hb0 _⟩
  · have e1 : (xk == 1) = false := by simpa using hk1
    by_cases hk2 : xk = 2
    · subst hk2
      cases hz : isZero ⟨xu, xl, xs, xd⟩ with
      | true =>
        have hz' := hz
        unfold isZero at hz'
        simp only [Bool.and_eq_true, Bool.not_eq_true', decide_eq_true_eq] at hz'
        obtain ⟨⟨⟨rfl, rfl⟩, rfl⟩, hd0⟩ := hz'
        have hd1 : xd.toList = [] := by have := isEmpty_size xd; rw [hd0] at this; simpa using this
        have HZ := hide hz
        clear hz hd0
        go_enter Try.func136, Try.ntmps136
        go_wp2_with fail
        go_region
        all_goals (
          go_wp2
          exact bodyPost_ret (v := .tuple #[eraV xb, .bool true]) (by simp [results, Try.results136, go_sem, eraV]) rfl ⟨_, true, rfl, (fun _ => .inr ⟨rfl, unhide HZ, rfl⟩), (fun h => by cases h), (hb0 _).drew⟩)
      | false =>
        have HNZ : Hid (¬ goodOp ⟨2, xb, ⟨xu, xl, xs, xd⟩⟩) := fun h => by
          rcases h with h | ⟨_, h⟩
          · simp at h
          · rw [hz] at h; cases h
        cases xu with
        | true =>
          clear hz
          go_enter Try.func136, Try.ntmps136
          go_wp2_with fail
          go_region
          all_goals (
            go_wp2
            exact bodyPost_ret (v := .tuple #[eraV xb, .bool false]) (by simp [results, Try.results136, go_sem, eraV]) rfl ⟨_, false, rfl, (fun h => by cases h), (fun _ => unhide HNZ), (hb0 _).drew⟩)
        | false =>
          by_cases h1 : xl = 0
          · by_cases h2 : xs = 0
            · have h3 : ¬ xd.toList = [] := fun h => by
                have e := isEmpty_size xd
                rw [h] at e
                have e0 : xd.size = 0 := by simpa using e.symm
                unfold isZero at hz
                simp [h1, h2, e0] at hz
              subst h1
              subst h2
              clear hz
              go_enter Try.func136, Try.ntmps136
              go_wp2_with fail
              go_region
              all_goals (
                go_wp2
                exact bodyPost_ret (v := .tuple #[eraV xb, .bool false]) (by simp [results, Try.results136, go_sem, eraV]) rfl ⟨_, false, rfl, (fun h => by cases h), (fun _ => unhide HNZ), (hb0 _).drew⟩)
            · clear hz
              subst h1
              go_enter Try.func136, Try.ntmps136
              go_wp2_with fail
              go_region
              all_goals (
                go_wp2
                exact bodyPost_ret (v := .tuple #[eraV xb, .bool false]) (by simp [results, Try.results136, go_sem, eraV]) rfl ⟨_, false, rfl, (fun h => by cases h), (fun _ => unhide HNZ), (hb0 _).drew⟩)
          · clear hz
            go_enter Try.func136, Try.ntmps136
            go_wp2_with fail
            go_region
            all_goals (
              go_wp2
              exact bodyPost_ret (v := .tuple #[eraV xb, .bool false]) (by simp [results, Try.results136, go_sem, eraV]) rfl ⟨_, false, rfl, (fun h => by cases h), (fun _ => unhide HNZ), (hb0 _).drew⟩)
    · have e2 : (xk == 2) = false := by simpa using hk2
      go_enter Try.func136, Try.ntmps136
      go_wp2
      refine bodyPost_ret (v := .tuple #[.nilIface, .bool false]) (by simp [results, Try.results136, go_sem]) rfl ⟨_, false, rfl, (fun h => by cases h), ?_, hb0 _⟩
      rintro _ (h | h)
      · exact hk1 h
      · exact hk2 h.1

/-- The program's values of the ops xs lie, one behind the other, from the address a on. -/
def CoAt (w : World) (a : Option Addr) (xs : List Opn) : Prop := ∀ i x, xs[i]? = some x → ∃ b o v, a = some ⟨b, o, none⟩ ∧ w.cell? ⟨b, o + i, none⟩ = some v ∧ StandsFor v x
theorem CoAt.below {w w' : World} {a : Option Addr} {xs : List Opn} (h : CoAt w a xs) {B : Nat} (hb : Below B w w') (hB : w.heap.size ≤ B) : CoAt w' a xs := by
  intro i x hx
  obtain ⟨b, o, v, ha, hc, hv⟩ := h i x hx
  exact ⟨b, o, v, ha, (hb.cell (p := ⟨b, o + i, none⟩) (Nat.lt_of_lt_of_le (World.block_lt_of_cell? _ _ hc) hB)).trans hc, hv⟩

theorem infoCo : (Try.prog.info? 131).map (fun i => (i.zero, i.size, i.bytes)) = some (some .nilIface, 1, 16) := by kernel_rfl
theorem make_co (n : Nat) (hn : n ≤ 1048576) (w : World) :
    (Instr.makeSlice 125 (.int .i64 (n : Int)) (.int .i64 (n : Int))).run Try.prog w = .ok (.slice (some ⟨w.heap.size, 0, none⟩) n n) (w.alloc (.cells (madeCells #[.nilIface] n) 131)) := by
  obtain ⟨i, hi, hz⟩ := Option.map_eq_some_iff.1 infoCo
  simp only [Prod.mk.injEq] at hz
  obtain ⟨hz0, hz1, hz2⟩ := hz
  have h := run_make (P := Try.prog) w 125 131 i _ Try.underlying125 hi hz0 .i64 .i64 (n : Int) (n : Int) (by omega) (Int.le_refl _) (by rw [hz2]; omega) (by omega)
  rw [hz1] at h
  simpa [Value.cells] using h

set_option maxRecDepth 100000 in
set_option maxHeartbeats 2000000 in
theorem opsOf_any (a : Option Addr) (c : Nat) (xs : List Opn) (m : Nat) (hm : xs.length = m) (hm20 : m ≤ 1048576) (w : World) (h : OpsAt w a xs) :
    Calls Try.prog 94 #[.slice a m c] w fun e w' => ∃ (v : Value) (r : Bool), e = .returned (.tuple #[v, .bool r]) ∧ (r = true → ∃ g, v = .slice (some ⟨g, 0, none⟩) m m ∧ CoAt w' (some ⟨g, 0, none⟩) xs) ∧ (r = false → ∃ x ∈ xs, ¬ goodOp x) ∧ Below w.heap.size w w' := by
  have hmk := make_co m hm20
  have HM := hide hm
  clear hm
  go_enter Try.func94, Try.ntmps94
  go_wp2
  clear hmk
  go_loopw [14] (fun i wr => ∃ (k : Nat) (f : Nat → Value), k ≤ m ∧ i = .int .i64 k ∧ wr.rowIs w.heap.size 131 m f ∧ (∀ i x, i < k → xs[i]? = some x → StandsFor (f i) x) ∧ Below w.heap.size w wr) (fun i _ => m - (intOf i).toNat)
  case atStart =>
    exact ⟨0, fun _ => .nilIface, Nat.zero_le _, rfl, World.rowIs_made w .nilIface m 131, fun i x hi => absurd hi (Nat.not_lt_zero _), (Below.refl _ _).alloc (Nat.le_refl _) _⟩
  case round =>
    obtain ⟨k, f, hk, rfl, hO, hall, hB⟩ := hrel
    have HO := hide hO
    have HALL := hide hall
    have hsr := World.rowIs.lt hO
    clear hO hall
    by_cases hlt : k < m
    · obtain ⟨x, hx⟩ := getElem?_ex (l := xs) (k := k) (by have := unhide HM; omega)
      obtain ⟨b1, o1, rfl, g0, g1, g2, g3, g4, g5⟩ := (h.below hB (Nat.le_refl _)) k x hx
      have HX := hide hx
      have hb9 : ∀ o, Below wr.heap.size wr (wr.alloc o) := fun o => (Below.refl _ wr).alloc (Nat.le_refl _) _
      clear hx h
      go_wp2_with fail
      refine (opOf_any x _).mono ?_
      rintro e w1 ⟨v, r, rfl, h1, h2, hB1⟩
      have hs1 := hB1.size
      simp at hs1
      have hBr : Below wr.heap.size wr w1 := (hb9 _).trans (hB1.mono (by simp))
      have hO1 : w1.rowIs w.heap.size 131 m f := World.rowIs.of_block (unhide HO) (hBr.block _ hsr)
      have c0 := hO1.cell (i := k) hlt
      have f0 := hO1.frozen
      have hW1 := hB.trans (hBr.mono hB.size)
      have HO1 := hide hO1
      have H1 := hide h1
      have H2 := hide h2
      clear hO1 h1 h2 hB1 hBr hb9 g0 g1 g2 g3 g4 g5 HO
      cases r with
      | false =>
        go_wp2
        exact bodyPost_ret (v := .tuple #[.slice none 0 0, .bool false]) (by simp [results, Try.results94, go_sem]) rfl ⟨_, false, rfl, (fun h => by cases h), (fun _ => ⟨x, List.mem_of_getElem? (unhide HX), unhide H2 (by trivial)⟩), hW1⟩
      | true =>
        have hst := unhide H1 (by trivial)
        have HST := hide hst
        obtain ⟨ty, u, hv⟩ : ∃ ty u, v = .iface ty u := by
          rcases hst with ⟨_, rfl⟩ | ⟨_, _, rfl⟩
          · exact ⟨_, _, rfl⟩
          · exact ⟨_, _, rfl⟩
        subst hv
        clear hst
        go_wp2
        go_roundw
        case rel =>
          refine ⟨k + 1, fun i => if i = k then .iface ty u else f i, by omega, by go_num, (unhide HO1).set k _, fun i y hi hy => ?_, hW1.setCell (Nat.le_refl _) _⟩
          by_cases e : i = k
          · subst e
            rw [unhide HX] at hy
            cases hy
            simp only [if_true]
            exact unhide HST
          · simp only [if_neg e]
            exact unhide HALL i y (by omega) hy
        case measure => simp [intOf]; omega
    · obtain rfl : k = m := by omega
      have HCO : Hid (CoAt wr (some ⟨w.heap.size, 0, none⟩) xs) := fun i y hy => by
        have hi := (List.getElem?_eq_some_iff.1 hy).1
        have hik : i < k := by have := unhide HM; omega
        exact ⟨w.heap.size, 0, f i, rfl, by rw [Nat.zero_add]; exact (unhide HO).cell hik, unhide HALL i y hik hy⟩
      clear h
      go_wp2
      exact bodyPost_ret (v := .tuple #[.slice (some ⟨w.heap.size, 0, none⟩) k k, .bool true]) (by simp [results, Try.results94, go_sem]) rfl ⟨_, true, rfl, (fun _ => ⟨w.heap.size, rfl, unhide HCO⟩), (fun h => by cases h), hB⟩
end Go.Proofs.Ytalgkmellbamgaa

/- A block is emptied: the program's emptying; ops as the program holds them. -/
namespace Go.Proofs.Ytalgkmellbamgaa
open Go.RowKit
set_option linter.unusedVariables false
set_option linter.unusedSimpArgs false

/-- The program's value for an op. -/
def coV (x : Opn) : Value := if x.kind = 1 then progV x.block x.page else eraV x.block
theorem coV_prog (b : Int) (p : Pg) : coV ⟨1, b, p⟩ = progV b p := rfl
theorem coV_era (b : Int) (p : Pg) : coV ⟨2, b, p⟩ = eraV b := rfl
theorem coV_stands {x : Opn} (h : goodOp x) : StandsFor (coV x) x := by
  rcases h with h | ⟨h, h2⟩
  · exact .inl ⟨h, by unfold coV; rw [if_pos h]⟩
  · exact .inr ⟨h, h2, by unfold coV; rw [if_neg (by omega)]⟩
/-- The slice v holds the program's values of the ops xs, in a row that was made from block B on and may be written. -/
def OwnsCo (w : World) (B : Nat) (v : Value) (xs : List Opn) : Prop := w.ownsRow B 131 1 v xs.length (xs.map coV)
theorem OwnsCo.kept {w w' : World} {B : Nat} {v : Value} {xs : List Opn} (h : OwnsCo w B v xs) (hb : Below w.heap.size w w') : OwnsCo w' B v xs := by
  have hg : w.grownBy w' none := ⟨hb.os, hb.tape, hb.output, hb.size, fun k hk _ => hb.block k hk⟩
  refine World.ownsRow.kept h hg ?_
  cases hv : v.ownBlock with
  | none => exact Or.inl rfl
  | some k => exact Or.inr (by simp)
theorem OwnsCo.lower {w : World} {B B' : Nat} {v : Value} {xs : List Opn} (h : OwnsCo w B v xs) (hB : B' ≤ B) : OwnsCo w B' v xs := by
  refine ⟨h.1, ?_⟩
  rcases h.2 with h0 | ⟨g, cap, cur, e1, e2, e3⟩
  · exact .inl h0
  · exact .inr ⟨g, cap, cur, e1, by omega, e3⟩
theorem OwnsCo.form {w : World} {B : Nat} {v : Value} {xs : List Opn} (h : OwnsCo w B v xs) (hg : ∀ x ∈ xs, goodOp x) : ∃ a c, v = .slice a xs.length c ∧ CoAt w a xs := by
  have h0 := h
  rcases h.2 with ⟨hv, hl⟩ | ⟨g, cap, cur, rfl, hb, hgg, hn, _⟩
  · exact ⟨none, 0, by rw [hv, hl], fun i x hx => by have := (List.getElem?_eq_some_iff.1 hx).1; omega⟩
  · refine ⟨_, _, rfl, fun i x hx => ⟨g, 0, coV x, rfl, ?_, coV_stands (hg x (List.mem_of_getElem? hx))⟩⟩
    rw [Nat.zero_add]
    exact ownsRow_cell h0 (by simp [hx])
theorem infoChipOp : (Try.prog.info? 131).map (fun i => (i.zero, i.size, i.bytes)) = some (some .nilIface, 1, 16) := by kernel_rfl
theorem goodOps_moved (bs : List Bk) (L : List Int) (v into seq : Int) (k : Nat) : ∀ x ∈ movedTo bs L v into seq k, x.kind = 1 := by
  induction k with
  | zero => intro x hx; simp [movedTo] at hx
  | succ k ih =>
    intro x hx
    simp only [movedTo, List.mem_append] at hx
    rcases hx with hx | hx
    · exact ih x hx
    · split at hx
      · simp at hx; rw [hx]
      · simp at hx
theorem goodOps_move (bs : List Bk) (L : List Int) (v into seq : Int) : ∀ x ∈ moveOps bs L v into seq, goodOp x := by
  intro x hx
  simp only [moveOps, List.mem_append, List.mem_singleton] at hx
  rcases hx with hx | rfl
  · exact .inl (goodOps_moved _ _ _ _ _ _ x hx)
  · exact .inr ⟨rfl, rfl⟩
theorem goodOps_write (bs : List Bk) (L : List Int) (seq o log : Int) (data : ByteArray) : ∀ x ∈ writeOps bs L seq o log data, goodOp x := by
  intro x hx
  unfold writeOps at hx
  split at hx
  · split at hx
    · simp only [List.mem_append, List.mem_singleton] at hx
      rcases hx with hx | rfl
      · exact goodOps_move _ _ _ _ _ x hx
      · exact .inl rfl
    · simp at hx; rw [hx]; exact .inl rfl
  · simp at hx; rw [hx]; exact .inl rfl

set_option maxRecDepth 100000 in
set_option maxHeartbeats 4000000 in
theorem emptying_any (A : Array Value) (m : CC) (bs : List Bk) (n : Nat) (hC : CellsIs A m bs n) (hAp : ∀ b i, b < 12 → i < 16 → A[1 + b * 17 + 1 + i]? = (paA (m.page b))[i]?) (ma : Option Addr) (mc : Nat) (L : List Int) (mn : Nat) (hL : L.length = mn) (seq o : Int) (hok : FtlOk bs L seq o) (v : Nat) (hv : v < n) (into : Int) (w : World) (hI : IntsAt w ma L) :
    Calls Try.prog 131 #[.agg A, .slice ma mn mc, .int .i64 (v : Int), .int .i64 into, .int .i64 seq] w fun e w' => ∃ r, e = .returned r ∧ OwnsCo w' (w.heap.size + 1) r (moveOps bs L (v : Int) into seq) ∧ Below w.heap.size w w' := by
  obtain ⟨i0, hi, hz0, hz1, hz2⟩ := info_parts infoChipOp
  have hn12 := hC.most
  have hmn : mn ≤ 36 := by have := hok.len36; omega
  have hsq := hok.seq
  have htp := hok.chip.top
  have h0 : 0 ≤ seq := by omega
  have h1 : seq ≤ 1000000000 := hsq.2
  obtain ⟨x, hx⟩ := getElem?_ex (l := bs) (k := v) (by have := hC.len; omega)
  have h4 := (hok.chip.block x (List.mem_of_getElem? hx)).four
  have hpg : ∀ k, k < 4 → pageIn bs (v : Int) k = m.page v k := fun k hk => by
    have e := ccBs_at m hv
    rw [hC.blocks, hx] at e
    cases e
    exact pageIn_of hx (ccPs_at m v hk)
  have hmv : ∀ k, k < 4 → movesAt bs L (v : Int) k = decide (((v : Int) * 4 + (k : Int)) ∈ L) := fun k hk => hok.moves (by omega) hk
  have HLD : Hid (∀ ty, ∀ j, j < 16 → (w.alloc (.cells A ty)).cell? ⟨w.heap.size, 1 + v * 17 + 1 + j, none⟩ = (paA (m.page v))[j]?) := fun ty j hj => (cell_of_row _ _ _ _ _ _ (Go.Deep.blk_alloc_new _ _)).trans (hAp v j (by omega) hj)
  have hvi : (v : Int) < 12 := by omega
  have HPG := hide hpg
  have HMV := hide hmv
  have HI := hide hI
  have HL := hide hL
  clear hok hC hAp hI hx hpg hmv hL hsq htp h4
  go_enter Try.func131, Try.ntmps131
  go_wp2_with (refine wpList_load_mid rfl 92 _ rfl w.heap.size (1 + v * 17 + 1) rfl (paA (m.page v)) 16 (paA_size _) (unhide HLD _) _ Try.underlying92 rfl sizePages ?_)
  obtain ⟨w0, hw0⟩ : ∃ w0, w0 = w.alloc (.cells A 97) := ⟨_, rfl⟩
  have hs0 : w0.heap.size = w.heap.size + 1 := by rw [hw0]; simp
  have hW0 : Below w.heap.size w w0 := by rw [hw0]; exact (Below.refl _ w).alloc (Nat.le_refl _) _
  rw [← hw0]
  have HS0 := hide hs0
  clear hw0 HLD hs0
  go_loopw [11, 19] (fun out i wr => ∃ k : Nat, k ≤ 4 ∧ i = .int .i64 k ∧ OwnsCo wr (w.heap.size + 1) out (movedTo bs L (v : Int) into seq k) ∧ Below w0.heap.size w0 wr) (fun _ i _ => 4 - (intOf i).toNat)
  case atStart => exact ⟨0, Nat.zero_le _, rfl, World.ownsRow_nil _ _ _ _, Below.refl _ _⟩
  case round =>
    obtain ⟨k, hk, rfl, hO, hB⟩ := hrel
    have hsr := hB.size
    have hml := movedTo_length bs L (v : Int) into seq k
    obtain ⟨q, hq⟩ : ∃ q, q = (movedTo bs L (v : Int) into seq k).length := ⟨_, rfl⟩
    rw [← hq] at hml
    obtain ⟨X, hX⟩ : ∃ X, X = (movedTo bs L (v : Int) into seq k).map coV := ⟨_, rfl⟩
    have hRr : wr.ownsRow (w.heap.size + 1) 131 1 u11 q X := by rw [hX, hq]; exact hO
    have HQ := hide (And.intro hX hq)
    have HO := hide hO
    have hW := hW0.trans (hB.mono hW0.size)
    have hsr' : w.heap.size + 1 ≤ wr.heap.size := by have := unhide HS0; omega
    obtain ⟨qa, qc, hu⟩ : ∃ qa qc, u11 = .slice qa q qc := by
      rcases hRr.2 with ⟨e1, e2⟩ | ⟨g, cap, cur, e1, _⟩
      · exact ⟨none, 0, by rw [e1, e2]⟩
      · exact ⟨_, _, e1⟩
    subst hu
    clear hq hX hO
    by_cases hlt : k < 4
    · have hidx := fun W => run_index_pages (P := Try.prog) W 92 28 (m.page v) k hlt Try.underlying92 _ Try.underlying28 rfl sizePage
      obtain ⟨p, hp⟩ : ∃ p, m.page v k = p := ⟨_, rfl⟩
      have HP := hide ((unhide HPG k hlt).trans hp)
      rw [hp] at hidx
      have HM := hide (unhide HMV k hlt)
      clear hp
      obtain ⟨u, lg, s, d⟩ := p
      simp only at hidx
      have hk4 : (k : Int) < 4 := by omega
      generalize paA (m.page v) = PA at hidx ⊢
      obtain ⟨w4, hw4⟩ : ∃ w4, w4 = wr.alloc (.cells #[.bool u, .int .i64 lg, .int .i64 s, .string d] 28) := ⟨_, rfl⟩
      have hB4 : Below wr.heap.size wr w4 := by rw [hw4]; exact (Below.refl _ wr).alloc (Nat.le_refl _) _
      have hs4 : w4.heap.size = wr.heap.size + 1 := by rw [hw4]; simp
      have hr4 : w4.heap[wr.heap.size]? = some (.cells #[.bool u, .int .i64 lg, .int .i64 s, .string d] 28 (0, 0)) := by rw [hw4]; exact Go.Deep.blk_alloc_new _ _
      have k0 := cell_of_row _ _ 0 _ _ _ hr4
      have k1 := cell_of_row _ _ 1 _ _ _ hr4
      have k2 := cell_of_row _ _ 2 _ _ _ hr4
      have k3 := cell_of_row _ _ 3 _ _ _ hr4
      have f2 := frozen_of_row _ _ 2 _ _ hr4
      simp at k0 k1 k2 k3
      have HI4 := hide ((unhide HI).below (hW.trans (hB4.mono hW.size)) (Nat.le_refl _))
      have HCT : Hid (Calls Try.prog 148 #[.slice ma mn mc, .int .i64 ((v : Int) * 4 + (k : Int))] w4 fun e w' => e = .returned (.bool (decide (((v : Int) * 4 + (k : Int)) ∈ L))) ∧ w' = w4) := by
        have := contains_any ma mc L ((v : Int) * 4 + (k : Int)) w4 (unhide HI4) (by have := unhide HL; omega)
        rw [unhide HL] at this
        exact this
      clear hr4
      go_wp2_with fail
      rw [← hw4]
      clear hw4
      refine (unhide HCT).mono ?_
      rintro e w5 ⟨rfl, rfl⟩
      rw [← unhide HM]
      cases hmo : movesAt bs L (v : Int) k with
      | false =>
        go_wp2
        go_roundw
        case rel => exact ⟨k + 1, by omega, by go_num, by rw [movedTo_not hmo]; exact (unhide HO).kept hB4, hB.trans (hB4.mono hB.size)⟩
        case measure => simp [intOf]; omega
      | true =>
        obtain ⟨w6, hw6⟩ : ∃ w6, w6 = w5.setCell ⟨wr.heap.size, 2, none⟩ (.int .i64 (seq + (q : Int))) := ⟨_, rfl⟩
        have hB6 : Below wr.heap.size wr w6 := by rw [hw6]; exact hB4.setCell (Nat.le_refl _) _
        have hs6 : w6.heap.size = wr.heap.size + 1 := by rw [hw6]; simpa [World.setCell] using hs4
        have j0 : w6.cell? ⟨wr.heap.size, 0, none⟩ = some (.bool u) := by rw [hw6, World.cell?_setCell_other _ _ _ _ (by simp)]; exact k0
        have j1 : w6.cell? ⟨wr.heap.size, 1, none⟩ = some (.int .i64 lg) := by rw [hw6, World.cell?_setCell_other _ _ _ _ (by simp)]; exact k1
        have j2 : w6.cell? ⟨wr.heap.size, 2, none⟩ = some (.int .i64 (seq + (q : Int))) := by rw [hw6]; exact World.cell?_setCell_same' _ _ _ (by rw [k2]; rfl)
        have j3 : w6.cell? ⟨wr.heap.size, 3, none⟩ = some (.string d) := by rw [hw6, World.cell?_setCell_other _ _ _ _ (by simp)]; exact k3
        go_upto_region 7 with fail
        rw [← hw6]
        clear hw6
        have hRw : w6.ownsRow (w.heap.size + 1) 131 1 (.slice qa q qc) q X := by have := (unhide HO).kept hB6; obtain ⟨e1, e2⟩ := unhide HQ; rw [e1, e2]; rw [e2] at this; exact this
        clear k0 k1 k2 k3 f2 HCT HI4 hidx
        go_wp2_with (refine wpList_append_lies _ rfl (.tmp 34) (.tmp 39) 125 rfl (w.heap.size + 1) 131 i0 _ 1 16 Try.underlying125 hi hz0 hz1 hz2 rfl (by decide) (.slice qa q qc) q X (by simp [Act.eval]) (by exact hRw.alloc _) ⟨w6.heap.size, 0, none⟩ 1 1 [progV into ⟨u, lg, seq + (q : Int), d⟩] (by simp [Act.eval]) rfl (World.news_of_block (cs := #[progV into ⟨u, lg, seq + (q : Int), d⟩]) (t := 131) (fr := (0, 0)) (by exact Go.Deep.blk_alloc_new _ _)) (by simp [Value.oneCell', progV]) (by omega) (by unfold maxLen; omega) (by omega) (by simp; omega) (w6.heap.size + 1) (by simp) ?_; intro g1 cap wE hown hgrow hat hlt1)
        go_roundw
        case rel =>
          have hBE : Below (w.heap.size + 1) w6 wE := Below.grown ((Below.refl _ w6).alloc (by omega) _) hgrow (by simp; omega) (fun j e => (hRw.lt j e).1)
          refine ⟨k + 1, by omega, by go_num, ?_, (hB.trans (hB6.mono hB.size)).trans (hBE.mono (Nat.le_of_eq (unhide HS0)))⟩
          obtain ⟨e1, e2⟩ := unhide HQ
          rw [movedTo_yes hmo, ← e2, unhide HP]
          unfold OwnsCo
          rw [List.length_append, List.map_append, ← e1, ← e2]
          simpa [coV] using hown
        case measure => simp [intOf]; omega
    · obtain rfl : k = 4 := by omega
      generalize paA (m.page v) = PA
      go_wp2_with (refine wpList_append_lies _ rfl (.tmp 42) (.tmp 46) 125 rfl (w.heap.size + 1) 131 i0 _ 1 16 Try.underlying125 hi hz0 hz1 hz2 rfl (by decide) (.slice qa q qc) q X (by simp [Act.eval]) (by exact hRr.alloc _) ⟨wr.heap.size, 0, none⟩ 1 1 [eraV (v : Int)] (by simp [Act.eval]) rfl (World.news_of_block (cs := #[eraV (v : Int)]) (t := 131) (fr := (0, 0)) (by exact Go.Deep.blk_alloc_new _ _)) (by simp [Value.oneCell', eraV]) (by omega) (by unfold maxLen; omega) (by omega) (by simp; omega) (wr.heap.size + 1) (by simp) ?_; intro g1 cap wE hown hgrow hat hlt1)
      go_ret
      refine ⟨_, rfl, ?_, ?_⟩
      · obtain ⟨e1, e2⟩ := unhide HQ
        unfold moveOps OwnsCo
        rw [List.length_append, List.map_append, ← e1, ← e2]
        simpa [coV] using hown
      · have hBE : Below (w.heap.size + 1) wr wE := Below.grown ((Below.refl _ wr).alloc (by omega) _) hgrow (by simp; omega) (fun j e => (hRr.lt j e).1)
        exact hW.trans (hBE.mono (by omega))
end Go.Proofs.Ytalgkmellbamgaa

/- Ops: the laws' own copy, comparison and measure of them. -/
namespace Go.Proofs.Ytalgkmellbamgaa
open Go.RowKit
set_option linter.unusedVariables false
set_option linter.unusedSimpArgs false

theorem infoOp : (Try.prog.info? 63).map (fun i => (i.zero, i.size, i.bytes)) = some (some (.agg #[.int .i64 0, .int .i64 0, .bool false, .int .i64 0, .int .i64 0, .string ByteArray.empty]), 6, 56) := by kernel_rfl

theorem sizeOp : (Try.prog.info? 63).map (·.size) = some 6 := by kernel_rfl

theorem make_ops (n : Nat) (hn : n ≤ 1048576) (w : World) :
    (Instr.makeSlice 55 (.int .i64 (n : Int)) (.int .i64 (n : Int))).run Try.prog w = .ok (.slice (some ⟨w.heap.size, 0, none⟩) n n) (w.alloc (.cells (madeCells #[.int .i64 0, .int .i64 0, .bool false, .int .i64 0, .int .i64 0, .string ByteArray.empty] (n * 6)) 63)) := by
  obtain ⟨i, hi, hz⟩ := Option.map_eq_some_iff.1 infoOp
  simp only [Prod.mk.injEq] at hz
  obtain ⟨hz0, hz1, hz2⟩ := hz
  have h := run_make (P := Try.prog) w 55 63 i _ Try.underlying55 hi hz0 .i64 .i64 (n : Int) (n : Int) (by omega) (Int.le_refl _) (by rw [hz2]; omega) (by omega)
  rw [hz1] at h
  simpa [Value.cells] using h

set_option maxHeartbeats 1000000 in
theorem toCOp_any (k b : Int) (u : Bool) (l s : Int) (d : ByteArray) (w : World) :
    Calls Try.prog 106 #[.agg #[.int .i64 k, .int .i64 b, .bool u, .int .i64 l, .int .i64 s, .string d]] w fun e w' => e = .returned (.agg #[.int .i64 k, .int .i64 b, .bool u, .int .i64 l, .int .i64 s, .string d]) ∧ Below w.heap.size w w' := by
  go_enter Try.func106, Try.ntmps106
  go_wp2_with fail
  have hb0 : ∀ o1 o2 o3, Below w.heap.size w (((w.alloc o1).alloc o2).alloc o3) := fun o1 o2 o3 => (((Below.refl _ w).alloc (Nat.le_refl _) _).alloc (by simp) _).alloc (by simp; omega) _
  refine (toPage_any u l s d _).mono ?_
  rintro e w1 ⟨rfl, hB1⟩
  obtain ⟨_, r1, r2⟩ := heap3 w (.cells #[.int .i64 k, .int .i64 b, .bool u, .int .i64 l, .int .i64 s, .string d] 147) (.cells #[.int .i64 0, .int .i64 0, .bool false, .int .i64 0, .int .i64 0, .string ⟨#[]⟩] 63) (.cells #[.int .i64 k, .int .i64 b, .bool false, .int .i64 0, .int .i64 0, .string ⟨#[]⟩] 63)
  have r1 := (hB1.block _ (by simp)).trans r1
  have r2 := (hB1.block _ (by simp)).trans r2
  have q0 := cell_of_row _ _ 0 _ _ _ r1
  have g0 := frozen_of_row _ _ 0 _ _ r1
  have s0 := cell_of_row _ _ 0 _ _ _ r2
  have t0 := frozen_of_row _ _ 0 _ _ r2
  have q1 := cell_of_row _ _ 1 _ _ _ r1
  have g1 := frozen_of_row _ _ 1 _ _ r1
  have s1 := cell_of_row _ _ 1 _ _ _ r2
  have t1 := frozen_of_row _ _ 1 _ _ r2
  have q2 := cell_of_row _ _ 2 _ _ _ r1
  have g2 := frozen_of_row _ _ 2 _ _ r1
  have s2 := cell_of_row _ _ 2 _ _ _ r2
  have t2 := frozen_of_row _ _ 2 _ _ r2
  have q3 := cell_of_row _ _ 3 _ _ _ r1
  have g3 := frozen_of_row _ _ 3 _ _ r1
  have s3 := cell_of_row _ _ 3 _ _ _ r2
  have t3 := frozen_of_row _ _ 3 _ _ r2
  have q4 := cell_of_row _ _ 4 _ _ _ r1
  have g4 := frozen_of_row _ _ 4 _ _ r1
  have s4 := cell_of_row _ _ 4 _ _ _ r2
  have t4 := frozen_of_row _ _ 4 _ _ r2
  have q5 := cell_of_row _ _ 5 _ _ _ r1
  have g5 := frozen_of_row _ _ 5 _ _ r1
  have s5 := cell_of_row _ _ 5 _ _ _ r2
  have t5 := frozen_of_row _ _ 5 _ _ r2
  simp at q0 q1 q2 q3 q4 q5 s0 s1 s2 s3 s4 s5
  have hW1 : Below w.heap.size w w1 := (hb0 _ _ _).trans (hB1.mono (by simp; omega))
  clear r1 r2 hB1 hb0
  go_wp2
  refine bodyPost_ret (v := .agg #[.int .i64 k, .int .i64 b, .bool u, .int .i64 l, .int .i64 s, .string d]) (by simp [results, Try.results106, go_sem, q0, q1, q2, q3, q4, q5]) rfl ⟨rfl, ?_⟩
  exact ((((((((((hW1).setCell (by show w.heap.size ≤ w.heap.size + 1 + 1; omega) _).setCell (by show w.heap.size ≤ w.heap.size + 1 + 1; omega) _).setCell (by show w.heap.size ≤ w.heap.size + 1 + 1; omega) _).setCell (by show w.heap.size ≤ w.heap.size + 1 + 1; omega) _).setCell (by show w.heap.size ≤ w.heap.size + 1; omega) _).setCell (by show w.heap.size ≤ w.heap.size + 1; omega) _).setCell (by show w.heap.size ≤ w.heap.size + 1; omega) _).setCell (by show w.heap.size ≤ w.heap.size + 1; omega) _).setCell (by show w.heap.size ≤ w.heap.size + 1; omega) _).setCell (by show w.heap.size ≤ w.heap.size + 1; omega) _

set_option maxRecDepth 100000 in
set_option maxHeartbeats 1000000 in
theorem toCOpS_any (a : Option Addr) (c : Nat) (xs : List Opn) (n : Nat) (hl : xs.length = n) (w : World) (h : OpsAt w a xs) (hn : n ≤ 1048576) :
    Calls Try.prog 51 #[.slice a n c] w fun e w' => e = .returned (.slice (some ⟨w.heap.size, 0, none⟩) n n) ∧ OwnOps w' 63 w.heap.size n xs ∧ Below w.heap.size w w' := by
  have hmk := make_ops n hn
  have HL := hide hl
  clear hl
  go_enter Try.func51, Try.ntmps51
  go_wp2
  clear hmk
  go_loopw [4] (fun i wr => ∃ k : Nat, k ≤ n ∧ i = .int .i64 k ∧ OwnOps wr 63 w.heap.size n (xs.take k) ∧ Below w.heap.size w wr) (fun i _ => n - (intOf i).toNat)
  case atStart => exact ⟨0, Nat.zero_le _, rfl, by simpa using OwnOps.made w _ _, (Below.refl _ _).alloc (Nat.le_refl _) _⟩
  case round =>
    obtain ⟨k, hk, rfl, hO, hB⟩ := hrel
    by_cases hlt : k < n
    · obtain ⟨x, hx⟩ := getElem?_ex (l := xs) (k := k) (by have := unhide HL; omega)
      obtain ⟨b1, o1, rfl, g0, g1, g2, g3, g4, g5⟩ := (h.below hB (Nat.le_refl _)) k x hx
      have HX := hide hx
      have HO := hide hO
      clear hx h hO
      go_wp2_with fail
      refine (toCOp_any _ _ _ _ _ _ _).mono ?_
      rintro e w1 ⟨rfl, hc⟩
      clear g0 g1 g2 g3 g4 g5
      have hO1 : OwnOps w1 63 w.heap.size n (xs.take k) := (unhide HO).below hc (World.rowIs.lt (unhide HO))
      obtain ⟨V, hV⟩ : ∃ V : Array Value, V = #[.int .i64 x.kind, .int .i64 x.block, .bool x.page.used, .int .i64 x.page.log, .int .i64 x.page.seq, .string x.page.data] := ⟨_, rfl⟩
      have hV6 : V.size = 6 := by rw [hV]; rfl
      have HTH : Hid (w1.there w.heap.size (k * 6) V.size) := fun j hj => ⟨by obtain ⟨v, hv⟩ := hO1.cells hlt j (by omega); rw [hv]; rfl, World.rowIs.frozen hO1 _⟩
      have HSZ : Hid ((Try.prog.info? 63).map (·.size) = some V.size) := by rw [hV6]; exact sizeOp
      have HON : Hid (V.all (·.oneCell') = true) := by rw [hV]; exact all_oneCell_toArray (fun v hv => by simp at hv; rcases hv with rfl | rfl | rfl | rfl | rfl | rfl <;> rfl)
      have HV := hide hV
      have HO1 := hide hO1
      clear hO1 HO hV hV6
      go_wp2_with (refine wpList_store_mid rfl 63 _ _ rfl w.heap.size (k * 6) V rfl (by rw [unhide HV]; rfl) (unhide HTH) (unhide HSZ) (unhide HON) ?_)
      rw [unhide HV]
      simp only [World.setCells]
      go_roundw
      case rel =>
        refine ⟨k + 1, by omega, by go_num, (unhide HO1).put (take_put (unhide HX)).1 (take_put (unhide HX)).2, ?_⟩
        exact ((((((hB.trans (hc.mono hB.size)).setCell (Nat.le_refl _) _).setCell (Nat.le_refl _) _).setCell (Nat.le_refl _) _).setCell (Nat.le_refl _) _).setCell (Nat.le_refl _) _).setCell (Nat.le_refl _) _
      case measure => simp [intOf]; omega
    · have hk' : k = xs.length := by have := unhide HL; omega
      subst hk'
      rw [List.take_length] at hO
      have HO := hide hO
      clear hO h
      go_wp2
      go_ret
      exact ⟨rfl, unhide HO, hB⟩

set_option maxHeartbeats 1000000 in
theorem eqCOp_same (k b : Int) (u : Bool) (l s : Int) (d : ByteArray) (w : World) :
    Calls Try.prog 99 #[.agg #[.int .i64 k, .int .i64 b, .bool u, .int .i64 l, .int .i64 s, .string d], .agg #[.int .i64 k, .int .i64 b, .bool u, .int .i64 l, .int .i64 s, .string d]] w fun e w' => e = .returned (.bool true) ∧ Below w.heap.size w w' := by
  have hne1 : (k != k) = false := by simp
  have hne2 : (b != b) = false := by simp
  have hb0 : ∀ o1 o2, Below w.heap.size w ((w.alloc o1).alloc o2) := fun o1 o2 => ((Below.refl _ w).alloc (Nat.le_refl _) _).alloc (by simp) _
  go_enter Try.func99, Try.ntmps99
  go_wp2_with fail
  refine (eqPage_same u l s d _).mono ?_
  rintro e w1 ⟨rfl, hB⟩
  go_wp2
  go_ret
  exact ⟨rfl, (hb0 _ _).trans (hB.mono (by simp; omega))⟩

set_option maxRecDepth 100000 in
set_option maxHeartbeats 1000000 in
theorem eqCOpS_same (a1 a2 : Option Addr) (c1 c2 : Nat) (xs : List Opn) (n : Nat) (hl : xs.length = n) (w : World) (h1 : OpsAt w a1 xs) (h2 : OpsAt w a2 xs) (hn : n ≤ 1048576) :
    Calls Try.prog 43 #[.slice a1 n c1, .slice a2 n c2] w fun e w' => e = .returned (.bool true) ∧ Below w.heap.size w w' := by
  have HL := hide hl
  clear hl
  go_enter Try.func43, Try.ntmps43
  go_wp2
  go_loopw [5] (fun i wr => ∃ k : Nat, k ≤ n ∧ i = .int .i64 k ∧ Below w.heap.size w wr) (fun i _ => n - (intOf i).toNat)
  case atStart => exact ⟨0, Nat.zero_le _, rfl, Below.refl _ _⟩
  case round =>
    obtain ⟨k, hk, rfl, hB⟩ := hrel
    by_cases hlt : k < n
    · obtain ⟨x, hx⟩ := getElem?_ex (l := xs) (k := k) (by have := unhide HL; omega)
      obtain ⟨b1, o1, rfl, g10, g11, g12, g13, g14, g15⟩ := (h1.below hB (Nat.le_refl _)) k x hx
      obtain ⟨b2, o2, rfl, g20, g21, g22, g23, g24, g25⟩ := (h2.below hB (Nat.le_refl _)) k x hx
      have hb1 : b1 < wr.heap.size := World.block_lt_of_cell? _ _ g10
      have hb2 : b2 < wr.heap.size := World.block_lt_of_cell? _ _ g20
      clear hx h1 h2
      go_wp2
      go_region_held3 (fun W => ∀ b o, b < wr.heap.size → W.cell? ⟨b, o, none⟩ = wr.cell? ⟨b, o, none⟩) (first | (intro b o hb; simp; done) | (intro b o hb; rw [hc.cell (p := ⟨b, o, none⟩) hb]; rfl))
        (first | (go_at_call 99; refine (eqCOp_same _ _ _ _ _ _ _).mono ?_; rintro e w1 ⟨rfl, hc⟩))
      go_wp2
      go_roundw
      case rel => exact ⟨k + 1, by omega, by go_num, hB.drew.trans (hc.mono hB.size)⟩
      case measure => simp [intOf]; omega
    · go_wp2
      go_ret
      exact ⟨rfl, hB⟩

set_option maxHeartbeats 1000000 in
theorem szCOp_any (k b : Int) (u : Bool) (l s left : Int) (d : ByteArray) (w : World) (h0 : 0 ≤ left) (h1 : left ≤ 1048576) (hd : d.size ≤ 9223372036854775807) :
    Calls Try.prog 104 #[.agg #[.int .i64 k, .int .i64 b, .bool u, .int .i64 l, .int .i64 s, .string d], .int .i64 left] w fun e w' => ∃ n : Int, e = .returned (.int .i64 n) ∧ n ≤ left ∧ Below w.heap.size w w' := by
  have hb0 : ∀ o, Below w.heap.size w (w.alloc o) := fun o => (Below.refl _ w).alloc (Nat.le_refl _) _
  go_enter Try.func104, Try.ntmps104
  go_wp2_with fail
  refine (szPage_any u l s left d _ h0 h1 hd).mono ?_
  rintro e w1 ⟨n, rfl, hn, hB⟩
  by_cases hneg : n < 0
  · go_wp2
    go_ret
    exact ⟨_, rfl, by omega, (hb0 _).trans (hB.mono (by simp))⟩
  · go_wp2
    go_ret
    exact ⟨_, rfl, by omega, (hb0 _).trans (hB.mono (by simp))⟩

set_option maxRecDepth 100000 in
set_option maxHeartbeats 1000000 in
theorem szCOpS_any (a : Option Addr) (c : Nat) (xs : List Opn) (n : Nat) (hl : xs.length = n) (left : Int) (w : World) (h : OpsAt w a xs) (hn : n ≤ 9223372036854775807) (ht : OpTexts xs) (h0 : 0 ≤ left) (h1 : left ≤ 1048576) :
    Calls Try.prog 49 #[.slice a n c, .int .i64 left] w fun e w' => ∃ r : Int, e = .returned (.int .i64 r) ∧ r ≤ left ∧ (0 ≤ r → n ≤ 1048576) ∧ Below w.heap.size w w' := by
  have HL := hide hl
  clear hl
  by_cases hc : left - n < 0
  · go_enter Try.func49, Try.ntmps49
    go_wp2
    go_ret
    exact ⟨_, rfl, by omega, by omega, Below.refl _ _⟩
  · have hl : n ≤ 1048576 := by omega
    go_enter Try.func49, Try.ntmps49
    go_wp2
    go_loopw [1, 5] (fun v i wr => ∃ (k : Nat) (m : Int), k ≤ n ∧ i = .int .i64 k ∧ v = .int .i64 m ∧ 0 ≤ m ∧ m ≤ left ∧ Below w.heap.size w wr) (fun _ i _ => n - (intOf i).toNat)
    case atStart => exact ⟨0, _, Nat.zero_le _, rfl, rfl, by omega, by omega, Below.refl _ _⟩
    case round =>
      obtain ⟨k, m, hk, rfl, rfl, hm0, hm1, hB⟩ := hrel
      by_cases hlt : k < n
      · obtain ⟨x, hx⟩ := getElem?_ex (l := xs) (k := k) (by have := unhide HL; omega)
        obtain ⟨b1, o1, rfl, g0, g1, g2, g3, g4, g5⟩ := (h.below hB (Nat.le_refl _)) k x hx
        have hd := ht x (List.mem_of_getElem? hx)
        clear hx h
        go_wp2_with fail
        refine (szCOp_any _ _ _ _ _ _ _ _ hm0 (by omega) hd).mono ?_
        rintro e w1 ⟨r, rfl, hn1, hb⟩
        by_cases hneg : r < 0
        · go_wp2
          go_ret
          exact ⟨_, rfl, by omega, by omega, hB.trans (hb.mono hB.size)⟩
        · go_wp2
          go_roundw
          case rel => exact ⟨k + 1, r, by omega, by go_num, rfl, by omega, by omega, hB.trans (hb.mono hB.size)⟩
          case measure => simp [intOf]; omega
      · go_wp2
        go_ret
        exact ⟨_, rfl, hm1, fun _ => hl, hB⟩
end Go.Proofs.Ytalgkmellbamgaa

/- Ops as the program tells them: told and toldOps. -/
namespace Go.Proofs.Ytalgkmellbamgaa
open Go.RowKit
set_option linter.unusedVariables false
set_option linter.unusedSimpArgs false

theorem isZero_eq {p : Pg} (h : isZero p = true) : p = zeroPg := by
  obtain ⟨u, l, s, d⟩ := p
  unfold isZero at h
  simp only [Bool.and_eq_true, Bool.not_eq_true', decide_eq_true_eq] at h
  obtain ⟨⟨⟨rfl, rfl⟩, rfl⟩, hd⟩ := h
  have : d = ByteArray.empty := by
    obtain ⟨a⟩ := d
    have e : a = #[] := Array.eq_empty_of_size_eq_zero hd
    rw [e]; rfl
  rw [this]
  rfl

set_option maxHeartbeats 1000000 in
theorem toldProg_any (b : Int) (u : Bool) (l s : Int) (d : ByteArray) (w : World) :
    Calls Try.prog 193 #[.agg #[.int .i64 b, .bool u, .int .i64 l, .int .i64 s, .string d]] w fun e w' => e = .returned (.agg #[.int .i64 1, .int .i64 b, .bool u, .int .i64 l, .int .i64 s, .string d]) ∧ Below w.heap.size w w' := by
  go_enter Try.func193, Try.ntmps193
  go_wp2
  refine bodyPost_ret (v := .agg #[.int .i64 1, .int .i64 b, .bool u, .int .i64 l, .int .i64 s, .string d]) (by simp [results, Try.results193, go_sem]) rfl ⟨rfl, ?_⟩
  exact ((Below.refl _ w).alloc (Nat.le_refl _) _).alloc (by simp) _

set_option maxHeartbeats 1000000 in
theorem toldEra_any (b : Int) (w : World) :
    Calls Try.prog 194 #[.agg #[.int .i64 b]] w fun e w' => e = .returned (.agg #[.int .i64 2, .int .i64 b, .bool false, .int .i64 0, .int .i64 0, .string ⟨#[]⟩]) ∧ Below w.heap.size w w' := by
  go_enter Try.func194, Try.ntmps194
  go_wp2
  refine bodyPost_ret (v := .agg #[.int .i64 2, .int .i64 b, .bool false, .int .i64 0, .int .i64 0, .string ⟨#[]⟩]) (by simp [results, Try.results194, go_sem]) rfl ⟨rfl, ?_⟩
  exact ((Below.refl _ w).alloc (Nat.le_refl _) _).alloc (by simp) _

set_option maxRecDepth 100000 in
set_option maxHeartbeats 1000000 in
theorem toldOps_any (a : Option Addr) (c : Nat) (xs : List Opn) (n : Nat) (hl : xs.length = n) (w : World) (h : CoAt w a xs) (hn : n ≤ 1048576) :
    Calls Try.prog 86 #[.slice a n c] w fun e w' => e = .returned (.slice (some ⟨w.heap.size, 0, none⟩) n n) ∧ OwnOps w' 63 w.heap.size n xs ∧ Below w.heap.size w w' := by
  have hmk := make_ops n hn
  have HL := hide hl
  clear hl
  go_enter Try.func86, Try.ntmps86
  go_wp2
  clear hmk
  go_loopw [11] (fun i wr => ∃ k : Nat, k ≤ n ∧ i = .int .i64 k ∧ OwnOps wr 63 w.heap.size n (xs.take k) ∧ Below w.heap.size w wr) (fun i _ => n - (intOf i).toNat)
  case atStart => exact ⟨0, Nat.zero_le _, rfl, by simpa using OwnOps.made w _ _, (Below.refl _ _).alloc (Nat.le_refl _) _⟩
  case round =>
    obtain ⟨k, hk, rfl, hO, hB⟩ := hrel
    by_cases hlt : k < n
    · obtain ⟨x, hx⟩ := getElem?_ex (l := xs) (k := k) (by have := unhide HL; omega)
      obtain ⟨b1, o1, v, rfl, g0, hv⟩ := (h.below hB (Nat.le_refl _)) k x hx
      have HX := hide hx
      have HO := hide hO
      obtain ⟨V, hV⟩ : ∃ V : Array Value, V = #[.int .i64 x.kind, .int .i64 x.block, .bool x.page.used, .int .i64 x.page.log, .int .i64 x.page.seq, .string x.page.data] := ⟨_, rfl⟩
      have hV6 : V.size = 6 := by rw [hV]; rfl
      have HTH : Hid (∀ w1, OwnOps w1 63 w.heap.size n (xs.take k) → w1.there w.heap.size (k * 6) V.size) := fun w1 hO1 j hj => ⟨by obtain ⟨v, hv⟩ := hO1.cells hlt j (by omega); rw [hv]; rfl, World.rowIs.frozen hO1 _⟩
      have HSZ : Hid ((Try.prog.info? 63).map (·.size) = some V.size) := by rw [hV6]; exact sizeOp
      have HON : Hid (V.all (·.oneCell') = true) := by rw [hV]; exact all_oneCell_toArray (fun v hv => by simp at hv; rcases hv with rfl | rfl | rfl | rfl | rfl | rfl <;> rfl)
      have hkn : (k : Int) < (n : Int) := by omega
      clear hx h hO hV6
      rcases hv with ⟨hk1, hv⟩ | ⟨hk2, hz, hv⟩
      · subst hv
        have HV : Hid (V = #[.int .i64 1, .int .i64 x.block, .bool x.page.used, .int .i64 x.page.log, .int .i64 x.page.seq, .string x.page.data]) := by rw [hV, hk1]; rfl
        have HV0 := hide hV
        clear hV hk1
        unfold progV at g0
        go_wp2_with fail
        refine (toldProg_any _ _ _ _ _ _).mono ?_
        rintro e w1 ⟨rfl, hc⟩
        have hO1 : OwnOps w1 63 w.heap.size n (xs.take k) := (unhide HO).below hc (World.rowIs.lt (unhide HO))
        have HTH1 := hide (unhide HTH w1 hO1)
        have HO1 := hide hO1
        clear hO1 HO HTH g0
        go_wp2_with (refine wpList_store_mid rfl 63 _ _ rfl w.heap.size (k * 6) V rfl (by rw [unhide HV]; rfl) (unhide HTH1) (unhide HSZ) (unhide HON) ?_)
        rw [unhide HV0]
        simp only [World.setCells]
        go_roundw
        case rel =>
          refine ⟨k + 1, by omega, by go_num, (unhide HO1).put (take_put (unhide HX)).1 (take_put (unhide HX)).2, ?_⟩
          exact ((((((hB.trans (hc.mono hB.size)).setCell (Nat.le_refl _) _).setCell (Nat.le_refl _) _).setCell (Nat.le_refl _) _).setCell (Nat.le_refl _) _).setCell (Nat.le_refl _) _).setCell (Nat.le_refl _) _
        case measure => simp [intOf]; omega
      · subst hv
        have HV : Hid (V = #[.int .i64 2, .int .i64 x.block, .bool false, .int .i64 0, .int .i64 0, .string ⟨#[]⟩]) := by rw [hV, hk2, isZero_eq hz]; rfl
        have HV0 := hide hV
        clear hV hk2 hz
        unfold eraV at g0
        go_wp2_with fail
        refine (toldEra_any _ _).mono ?_
        rintro e w1 ⟨rfl, hc⟩
        have hO1 : OwnOps w1 63 w.heap.size n (xs.take k) := (unhide HO).below hc (World.rowIs.lt (unhide HO))
        have HTH1 := hide (unhide HTH w1 hO1)
        have HO1 := hide hO1
        clear hO1 HO HTH g0
        go_wp2_with (refine wpList_store_mid rfl 63 _ _ rfl w.heap.size (k * 6) V rfl (by rw [unhide HV]; rfl) (unhide HTH1) (unhide HSZ) (unhide HON) ?_)
        rw [unhide HV0]
        simp only [World.setCells]
        go_roundw
        case rel =>
          refine ⟨k + 1, by omega, by go_num, (unhide HO1).put (take_put (unhide HX)).1 (take_put (unhide HX)).2, ?_⟩
          exact ((((((hB.trans (hc.mono hB.size)).setCell (Nat.le_refl _) _).setCell (Nat.le_refl _) _).setCell (Nat.le_refl _) _).setCell (Nat.le_refl _) _).setCell (Nat.le_refl _) _).setCell (Nat.le_refl _) _
        case measure => simp [intOf]; omega
    · have hk' : k = xs.length := by have := unhide HL; omega
      subst hk'
      rw [List.take_length] at hO
      have HO := hide hO
      clear hO h
      go_wp2
      go_ret
      exact ⟨rfl, unhide HO, hB⟩
end Go.Proofs.Ytalgkmellbamgaa

/- Ops: the laws' own marks of them. -/
namespace Go.Proofs.Ytalgkmellbamgaa
open Go.RowKit
set_option linter.unusedVariables false
set_option linter.unusedSimpArgs false

def mkOp (k : Int) : Opn := ⟨k, k + 1, ⟨(k + 1 + 1) % 3 == 0, k + 1 + 1 + 1, k + 1 + 1 + 1 + 1, mt (k + 1 + 1 + 1 + 1 + 1).toNat⟩⟩
def markOs (k : Int) (n : Nat) : List Opn := (List.range n).map fun (i : Nat) => mkOp (k + 6 * (i : Int))
def markOTo (k : Int) (xs : List Opn) (j : Nat) : List Opn := markOs k j ++ xs.drop j
theorem markOs_length (k : Int) (n : Nat) : (markOs k n).length = n := by simp [markOs]
theorem markOs_at (k : Int) {n i : Nat} (hi : i < n) : (markOs k n)[i]? = some (mkOp (k + 6 * (i : Int))) := by simp [markOs, hi]
theorem markOTo_zero (k : Int) (xs : List Opn) : markOTo k xs 0 = xs := by simp [markOTo, markOs]
theorem markOTo_full (k : Int) (xs : List Opn) : markOTo k xs xs.length = markOs k xs.length := by simp [markOTo]
theorem markOTo_step (k : Int) (xs : List Opn) {j : Nat} (hj : j < xs.length) : (markOTo k xs (j + 1))[j]? = some (mkOp (k + 6 * (j : Int))) ∧ ∀ i, i ≠ j → (markOTo k xs (j + 1))[i]? = (markOTo k xs j)[i]? := by
  have h1 := markOs_length k (j + 1)
  have h0 := markOs_length k j
  unfold markOTo
  refine ⟨by rw [List.getElem?_append_left (by omega), markOs_at k (by omega)], fun i hi => ?_⟩
  by_cases hlt : i < j
  · rw [List.getElem?_append_left (by omega), List.getElem?_append_left (by omega), markOs_at k (by omega), markOs_at k hlt]
  · rw [List.getElem?_append_right (by omega), List.getElem?_append_right (by omega), h1, h0, List.getElem?_drop, List.getElem?_drop]
    congr 1
    omega

set_option maxRecDepth 100000 in
set_option maxHeartbeats 2000000 in
theorem markCOpS_any (b c : Nat) (xs : List Opn) (n : Nat) (hl : xs.length = n) (k : Int) (w : World) (h : OwnOps w 63 b n xs) (hn : n ≤ 1048576) (h0 : 0 < k) (h1 : k + 6 * n ≤ 1125899906842624) :
    Calls Try.prog 46 #[.slice (some ⟨b, 0, none⟩) n c, .int .i64 k] w fun e w' => e = .returned (.int .i64 (k + 6 * n)) ∧ OwnOps w' 63 b n (markOs k n) ∧ Touch (· = b) w w' := by
  have HL := hide hl
  clear hl
  go_enter Try.func46, Try.ntmps46
  go_wp2
  go_loopw [1, 5] (fun v i wr => ∃ j : Nat, j ≤ n ∧ i = .int .i64 j ∧ v = .int .i64 (k + 6 * (j : Int)) ∧ OwnOps wr 63 b n (markOTo k xs j) ∧ Touch (· = b) w wr) (fun _ i _ => n - (intOf i).toNat)
  case atStart => exact ⟨0, Nat.zero_le _, rfl, by simp, by rw [markOTo_zero]; exact h, Touch.refl _ _⟩
  case round =>
    obtain ⟨j, hj, rfl, rfl, hO, hT⟩ := hrel
    by_cases hlt : j < n
    · obtain ⟨v0, c0⟩ := hO.cells hlt 0 (by omega)
      obtain ⟨v1, c1⟩ := hO.cells hlt 1 (by omega)
      obtain ⟨v2, c2⟩ := hO.cells hlt 2 (by omega)
      obtain ⟨v3, c3⟩ := hO.cells hlt 3 (by omega)
      obtain ⟨v4, c4⟩ := hO.cells hlt 4 (by omega)
      rw [Nat.add_zero] at c0
      have f0 := World.rowIs.frozen hO
      have hlb := World.rowIs.lt hO
      have HO := hide hO
      clear h hO
      go_wp2_with fail
      refine (markText_any _ _ (by omega) (by omega)).mono ?_
      rintro e w1 ⟨rfl, hc⟩
      have h5 := World.rowIs.set (World.rowIs.set (World.rowIs.set (World.rowIs.set (World.rowIs.set (unhide HO) (j * 6) (Value.int .i64 (k + 6 * (j : Int)))) (j * 6 + 1) (Value.int .i64 (k + 6 * (j : Int) + 1))) (j * 6 + 2) (Value.bool ((k + 6 * (j : Int) + 1 + 1) % 3 == 0))) (j * 6 + 3) (Value.int .i64 (k + 6 * (j : Int) + 1 + 1 + 1))) (j * 6 + 4) (Value.int .i64 (k + 6 * (j : Int) + 1 + 1 + 1 + 1))
      have h6 := h5.of_block (hc.block b (by simpa using hlb))
      have c5' := h6.cell (i := j * 6 + 5) (by omega)
      have f5' := h6.frozen
      have H6 := hide h6
      have HC := hide hc
      clear h5 h6 hc c0 c1 c2 c3 c4 f0 HO
      go_wp2
      go_roundw
      case rel =>
        refine ⟨j + 1, by omega, by go_num, by go_num, ?_, ?_⟩
        · refine ((unhide H6).set (j * 6 + 5) _).congr (fun x _ => ?_)
          exact opsF_put (x := mkOp (k + 6 * (j : Int))) _ (markOTo_step k xs (by have := unhide HL; omega)).1 (markOTo_step k xs (by have := unhide HL; omega)).2 x
        · exact ((((((hT.setCell rfl _).setCell rfl _).setCell rfl _).setCell rfl _).setCell rfl _).trans (Touch.of_below (unhide HC))).setCell rfl _
      case measure => simp [intOf]; omega
    · have hk' : j = xs.length := by have := unhide HL; omega
      have hjn : j = n := by omega
      rw [hk', markOTo_full, unhide HL] at hO
      have HO := hide hO
      subst hjn
      clear hO h
      go_wp2
      go_ret
      exact ⟨rfl, unhide HO, hT⟩
end Go.Proofs.Ytalgkmellbamgaa

/- An answer that is a list of ops: its marks; a member that the laws have copied, as one of their own. -/
namespace Go.Proofs.Ytalgkmellbamgaa
open Go.RowKit
set_option linter.unusedVariables false
set_option linter.unusedSimpArgs false

set_option maxRecDepth 100000 in
set_option maxHeartbeats 1000000 in
theorem heldCOpS_any (a : Option Addr) (c n : Nat) (k : Int) (w : World) (h : OpsAt w a (markOs k n)) (hn : n ≤ 1048576) (h0 : 0 < k) (h1 : k + 6 * n ≤ 1125899906842624) :
    Calls Try.prog 47 #[.slice a n c, .int .i64 k] w fun e w' => e = .returned (.int .i64 (k + 6 * n)) ∧ Below w.heap.size w w' := by
  go_enter Try.func47, Try.ntmps47
  go_wp2
  go_loopw [1, 5] (fun v i wr => ∃ j : Nat, j ≤ n ∧ i = .int .i64 j ∧ v = .int .i64 (k + 6 * (j : Int)) ∧ Below w.heap.size w wr) (fun _ i _ => n - (intOf i).toNat)
  case atStart => exact ⟨0, Nat.zero_le _, rfl, by simp, Below.refl _ _⟩
  case round =>
    obtain ⟨j, hj, rfl, rfl, hB⟩ := hrel
    by_cases hlt : j < n
    · obtain ⟨b1, o1, rfl, g10, g11, g12, g13, g14, g15⟩ := (h.below hB (Nat.le_refl _)) j _ (markOs_at k hlt)
      have hb1 : b1 < wr.heap.size := World.block_lt_of_cell? _ _ g10
      simp only [mkOp] at g10 g11 g12 g13 g14 g15
      clear h
      go_wp2
      go_region_held3 (fun W => ∀ b o, b < wr.heap.size → W.cell? ⟨b, o, none⟩ = wr.cell? ⟨b, o, none⟩) (first | (intro b o hb; simp; done) | (intro b o hb; rw [hc.cell (p := ⟨b, o, none⟩) hb]; rfl))
        (first | (go_at_call 102; refine (markText_any _ _ (by omega) (by omega)).mono ?_; rintro e w1 ⟨rfl, hc⟩))
      go_wp2
      go_roundw
      case rel => exact ⟨j + 1, by omega, by go_num, by go_num, hB.drew.trans (hc.mono hB.size)⟩
      case measure => simp [intOf]; omega
    · have hk' : j = n := by omega
      subst hk'
      go_wp2
      go_ret
      exact ⟨rfl, hB⟩

/-- What the program's OpsOf hands back: ops in a row of its own, which lies from B on and ahead of T. -/
def OpsMine (w : World) (B T : Nat) (a : Option Addr) (c : Nat) (xs : List Opn) : Prop := (a = none ∧ xs = []) ∨ ∃ g, a = some ⟨g, 0, none⟩ ∧ B ≤ g ∧ g < T ∧ OwnOps w 63 g xs.length xs
theorem OpsMine.opsAt {w : World} {B T : Nat} {a : Option Addr} {c : Nat} {xs : List Opn} (h : OpsMine w B T a c xs) : OpsAt w a xs := by
  rcases h with ⟨_, rfl⟩ | ⟨g, rfl, _, _, h⟩
  · intro i x hx; simp at hx
  · exact h.opsAt (Nat.le_refl _)
theorem OpsMine.below {w w' : World} {B T : Nat} {a : Option Addr} {c : Nat} {xs : List Opn} (h : OpsMine w B T a c xs) (hb : Below w.heap.size w w') : OpsMine w' B T a c xs := by
  rcases h with h | ⟨g, rfl, h1, h2, h⟩
  · exact .inl h
  · exact .inr ⟨g, rfl, h1, h2, h.below hb (World.rowIs.lt h)⟩
theorem OpsMine.touch {S : Nat → Prop} {w w' : World} {B T : Nat} {a : Option Addr} {c : Nat} {xs : List Opn} (h : OpsMine w B T a c xs) (hT : Touch S w w') (hS : ∀ k, S k → k < B) : OpsMine w' B T a c xs := by
  rcases h with h | ⟨g, rfl, h1, h2, h⟩
  · exact .inl h
  · exact .inr ⟨g, rfl, h1, h2, World.rowIs.of_block h (hT.block g (World.rowIs.lt h) (fun hs => by have := hS g hs; omega))⟩

set_option maxHeartbeats 1000000 in
theorem markMine_any (B T : Nat) (a : Option Addr) (c : Nat) (xs : List Opn) (n : Nat) (hl : xs.length = n) (w : World) (h : OpsMine w B T a c xs) (hn : n ≤ 1048576) :
    Calls Try.prog 46 #[.slice a n c, .int .i64 1] w fun e w' => e = .returned (.int .i64 (1 + 6 * (n : Int))) ∧ OpsAt w' a (markOs 1 n) ∧ Touch (fun k => B ≤ k ∧ k < T) w w' := by
  rcases h with ⟨rfl, rfl⟩ | ⟨g, rfl, h1, h2, h3⟩
  · obtain rfl : n = 0 := by simpa using hl.symm
    go_enter Try.func46, Try.ntmps46
    go_wp2
    go_loop [1, 5] (fun v i => i = .int .i64 0 ∧ v = .int .i64 1) (fun _ i => 0)
    case atStart => exact ⟨rfl, rfl⟩
    case round =>
      obtain ⟨rfl, rfl⟩ := hrel
      go_wp2
      go_ret
      exact ⟨by simp [Act.eval], fun i x hx => by simp [markOs] at hx, Touch.refl _ _⟩
  · subst hl
    refine (markCOpS_any g c xs _ rfl 1 w h3 hn (by omega) (by omega)).mono ?_
    rintro e w' ⟨rfl, hO, hT⟩
    exact ⟨rfl, hO.opsAt (by rw [markOs_length]; exact Nat.le_refl _), hT.mono (fun k hk => by subst hk; exact ⟨h1, h2⟩)⟩

set_option maxRecDepth 100000 in
theorem toFtl_own (a : Option Addr) (c : Nat) (bs : List Bk) (n : Nat) (hl : bs.length = n) (ma : Option Addr) (mc : Nat) (L : List Int) (mn : Nat) (hL : L.length = mn) (seq o : Int) (w : World) (h : BlocksAt w a bs) (hn : Lens 1048576 bs) (hI : IntsAt w ma L) (hmn : mn ≤ 1048576) :
    Calls Try.prog 42 #[.agg #[.slice a n c, .slice ma mn mc, .int .i64 seq, .int .i64 o]] w fun e w' => ∃ g m, e = .returned (.agg #[.slice (some ⟨g, 0, none⟩) n n, .slice (some ⟨m, 0, none⟩) mn mn, .int .i64 seq, .int .i64 o]) ∧ FtlOwn w' w.heap.size w'.heap.size (some ⟨g, 0, none⟩) n n bs (some ⟨m, 0, none⟩) mn L ∧ Below w.heap.size w w' := by
  refine (toFtl_any a c bs n hl ma mc L mn hL seq o w h hn hI hmn).mono ?_
  rintro e w' ⟨g, H, m, rfl, hg, hgm, hH, hO, hR, hB⟩
  have hml := World.rowIs.lt hR
  refine ⟨g, m, rfl, ⟨hL, RowInts.intsAt hR (by omega), .inr ⟨m, rfl, by omega, hml, fun i hi => ⟨?_, World.rowIs.frozen hR _⟩⟩, fun k hk => by cases hk; exact hml, w.heap.size, m, Nat.le_refl _, ⟨hl, .inr ⟨g, H, rfl, hg, hgm, fun i hi => ⟨hO.ahead i (by omega), hH i hi⟩, hO⟩⟩, by omega, fun k hk => by cases hk; omega⟩, hB⟩
  have := World.rowIs.cell hR (i := i) hi
  exact ⟨_, by rw [Nat.zero_add, this]; rfl⟩
end Go.Proofs.Ytalgkmellbamgaa
