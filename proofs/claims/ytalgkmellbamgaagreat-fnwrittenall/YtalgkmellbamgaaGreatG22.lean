/- 2 texts in one. -/
import Derived.Test.YtalgkmellbamgaaGreatG21
import Derived.Test.YtalgkmellbamgaaGreatG05
import Derived.WalkKit
import Derived.Outline
import Derived.Deep.RegionHeld3
import Derived.Test.YtalgkmellbamgaaGreatG14
import Derived.Test.YtalgkmellbamgaaGreatG02
import Derived.BigQuiet

/- The free block that is worn the least: the program's leastWorn. -/
namespace Go.Proofs.YtalgkmellbamgaaGreat
open Go.RowKit
set_option linter.unusedVariables false
set_option linter.unusedSimpArgs false

theorem isNaN_any (x : Int) (w : World) : Calls Tryz.prog 124 #[.int .i64 x] w fun e w' => e = .returned (.bool false) ∧ w' = w := by
  have hne : (x != x) = false := by simp
  go_enter Tryz.func124, Tryz.ntmps124
  go_wp2
  go_ret
  exact ⟨rfl, rfl⟩

theorem compare_any (x y : Int) (w : World) : Calls Tryz.prog 103 #[.int .i64 x, .int .i64 y] w fun e w' => ∃ r : Int, e = .returned (.int .i64 r) ∧ (r < 0 ↔ x < y) ∧ w' = w := by
  go_enter Tryz.func103, Tryz.ntmps103
  go_wp2_with fail
  refine (isNaN_any _ _).mono ?_
  rintro e w1 ⟨rfl, rfl⟩
  go_wp2_with fail
  refine (isNaN_any _ _).mono ?_
  rintro e w2 ⟨rfl, rfl⟩
  by_cases h : x < y
  · go_wp2
    go_ret
    exact ⟨_, rfl, by simp [h], rfl⟩
  · by_cases h2 : y < x
    · go_wp2
      go_ret
      exact ⟨_, rfl, by simp; omega, rfl⟩
    · go_wp2
      go_ret
      exact ⟨_, rfl, by simp; omega, rfl⟩

set_option maxRecDepth 100000 in
set_option maxHeartbeats 1000000 in
theorem lessWorn_any (A : Array Value) (m : CC) (bs : List Bk) (n : Nat) (hC : CellsIs A m bs n) (B : Nat) (i j : Nat) (hi : i < n) (hj : j < n) (w : World) (hw : w.heap[B]? = some (.cells A 65 (0, 0))) :
    Calls Tryz.prog 102 #[.int .i64 (i : Int), .int .i64 (j : Int), .pointer (some ⟨B, 0, none⟩)] w fun e w' => ∃ r : Int, e = .returned (.int .i64 r) ∧ (r < 0 ↔ wearAt bs (i : Int) < wearAt bs (j : Int)) ∧ Below w.heap.size w w' := by
  have hn := hC.most
  obtain ⟨x, hx⟩ := getElem?_ex (l := bs) (k := i) (by have := hC.len; omega)
  obtain ⟨y, hy⟩ := getElem?_ex (l := bs) (k := j) (by have := hC.len; omega)
  have c1 : w.cell? ⟨B, 1 + i * 17, none⟩ = some (.int .i64 x.wear) := (cell_of_row _ _ _ _ _ _ hw).trans (hC.wear hx)
  have c2 : w.cell? ⟨B, 1 + j * 17, none⟩ = some (.int .i64 y.wear) := (cell_of_row _ _ _ _ _ _ hw).trans (hC.wear hy)
  have hBl : B < w.heap.size := World.block_lt_of_cell? _ _ c1
  rw [wearAt_of hx, wearAt_of hy]
  have hii : (i : Int) < 12 := by omega
  have hjj : (j : Int) < 12 := by omega
  clear hC hx hy hw
  go_enter Tryz.func102, Tryz.ntmps102
  go_wp2_with fail
  go_region_held3 (fun W => ∀ b o, b < w.heap.size → W.cell? ⟨b, o, none⟩ = w.cell? ⟨b, o, none⟩) (first | (intro b o hb; rfl))
    (first | (go_at_call 103; refine (compare_any _ _ _).mono ?_; rintro e w1 ⟨r, rfl, hr, rfl⟩))
  go_wp2
  go_ret
  exact ⟨_, rfl, hr, (Below.refl _ w).drew⟩

set_option maxRecDepth 100000 in
set_option maxHeartbeats 1000000 in
theorem minFunc_any (A : Array Value) (m : CC) (bs : List Bk) (n : Nat) (hC : CellsIs A m bs n) (B : Nat) (fa : Option Addr) (fc : Nat) (F : List Int) (q : Nat) (hq : F.length = q) (hq12 : q ≤ 12) (hq0 : 0 < q) (hF : ∀ x ∈ F, 0 ≤ x ∧ x < (n : Int)) (w : World) (hw : w.heap[B]? = some (.cells A 65 (0, 0))) (hI : IntsAt w fa F) :
    Calls Tryz.prog 101 #[.slice fa q fc, .func (.func 102) #[] #[.pointer (some ⟨B, 0, none⟩)]] w fun e w' => e = .returned (.int .i64 (leastIn bs F)) ∧ Below w.heap.size w w' := by
  obtain ⟨x, hx⟩ := getElem?_ex (l := F) (k := 0) (by omega)
  obtain ⟨b1, o1, rfl, hc⟩ := hI 0 x hx
  have HST := hide (leastIn_one (bs := bs) hx)
  have HI := hide hI
  have HC := hide hC
  have HF := hide hF
  have HW := hide hw
  have HQ := hide hq
  have hBl : B < w.heap.size := (Array.getElem?_eq_some_iff.1 hw).1
  rw [Nat.add_zero] at hc
  clear hI hC hF hw hq hx
  go_enter Tryz.func101, Tryz.ntmps101
  go_wp2
  go_loopw [5, 6] (fun v i wr => ∃ k : Nat, 1 ≤ k ∧ k ≤ q ∧ i = .int .i64 k ∧ v = .int .i64 (leastIn bs (F.take k)) ∧ Below w.heap.size w wr) (fun _ i _ => q - (intOf i).toNat)
  case atStart => exact ⟨1, Nat.le_refl _, by omega, rfl, by rw [unhide HST], Below.refl _ _⟩
  case round =>
    obtain ⟨k, hk1, hk, rfl, rfl, hB⟩ := hrel
    clear hc HST
    by_cases hlt : k < q
    · obtain ⟨y, hy⟩ := getElem?_ex (l := F) (k := k) (by have := unhide HQ; omega)
      obtain ⟨b2, o2, e2, hcy⟩ := ((unhide HI).below hB (Nat.le_refl _)) k y hy
      cases e2
      have hne : F.take k ≠ [] := fun e => by
        have h1 : (F.take k).length = 0 := by rw [e]; rfl
        rw [List.length_take] at h1
        have := unhide HQ
        omega
      have hmem := List.mem_of_mem_take (leastIn_mem (bs := bs) hne)
      have hbm := unhide HF _ hmem
      have hby := unhide HF y (List.mem_of_getElem? hy)
      have HTK := hide (leastIn_take (bs := bs) hk1 hy)
      obtain ⟨mm, hmm⟩ : ∃ mm, mm = leastIn bs (F.take k) := ⟨_, rfl⟩
      rw [← hmm] at hbm HTK ⊢
      obtain ⟨mi, rfl⟩ := Int.eq_ofNat_of_zero_le hbm.1
      obtain ⟨yi, rfl⟩ := Int.eq_ofNat_of_zero_le hby.1
      have hsr := hB.size
      have HWr := hide ((hB.block B hBl).trans (unhide HW))
      have hyn : yi < n := by omega
      have hmn : mi < n := by omega
      clear hy hne hmem hmm hbm hby
      go_wp2_with fail
      refine (lessWorn_any A m bs n (unhide HC) B yi mi hyn hmn _ (unhide HWr)).mono ?_
      rintro e w2 ⟨r, rfl, hr, hB2⟩
      have hs2 := hB2.size
      have hcy2 := (hB2.cell (p := ⟨b1, o1 + k, none⟩) (World.block_lt_of_cell? _ _ hcy)).trans hcy
      have hBB := hB.trans (hB2.mono hB.size)
      have HR := hide hr
      clear hr hB2 hcy HWr
      by_cases hneg : r < 0
      · go_wp2
        go_roundw
        case rel => exact ⟨k + 1, by omega, by omega, by go_num, by rw [unhide HTK]; unfold leastStep; rw [if_pos ((unhide HR).1 hneg)], hBB⟩
        case measure => simp [intOf]; omega
      · go_wp2
        go_roundw
        case rel => exact ⟨k + 1, by omega, by omega, by go_num, by rw [unhide HTK]; unfold leastStep; rw [if_neg (fun h => by have := (unhide HR).2 h; omega)], hBB⟩
        case measure => simp [intOf]; omega
    · obtain rfl : k = q := by omega
      have HE : Hid (F.take k = F) := by have := unhide HQ; rw [← this]; exact List.take_length
      rw [unhide HE]
      go_wp2
      go_ret
      exact ⟨rfl, hB⟩

set_option maxRecDepth 100000 in
set_option maxHeartbeats 1000000 in
theorem leastWorn_any (A : Array Value) (m : CC) (bs : List Bk) (n : Nat) (hC : CellsIs A m bs n) (fa : Option Addr) (fc : Nat) (F : List Int) (q : Nat) (hq : F.length = q) (hq12 : q ≤ 12) (hq0 : 0 < q) (hF : ∀ x ∈ F, 0 ≤ x ∧ x < (n : Int)) (w : World) (hI : IntsAt w fa F) :
    Calls Tryz.prog 71 #[.agg A, .slice fa q fc] w fun e w' => e = .returned (.int .i64 (leastIn bs F)) ∧ Below w.heap.size w w' := by
  have hb0 : ∀ o, Below w.heap.size w (w.alloc o) := fun o => (Below.refl _ w).alloc (Nat.le_refl _) _
  have HI := hide hI
  have HC := hide hC
  have HF := hide hF
  clear hI hC hF
  go_enter Tryz.func71, Tryz.ntmps71
  go_wp2_with fail
  refine (minFunc_any A m bs n (unhide HC) w.heap.size fa fc F q hq hq12 hq0 (unhide HF) _ (Go.Deep.blk_alloc_new _ _) ((unhide HI).below (hb0 _) (Nat.le_refl _))).mono ?_
  rintro e w1 ⟨rfl, hB1⟩
  have hW1 : Below w.heap.size w w1 := (hb0 _).trans (hB1.mono (by simp))
  clear hB1
  go_wp2
  go_ret
  exact ⟨rfl, hW1⟩
end Go.Proofs.YtalgkmellbamgaaGreat

/- Ops as the program takes them: opOf. -/
namespace Go.Proofs.YtalgkmellbamgaaGreat
open Go.RowKit
set_option linter.unusedVariables false
set_option linter.unusedSimpArgs false

/-- An op that is right in itself, and the program's value for it. -/
def goodOp (x : Opn) : Prop := x.kind = 1 ∨ (x.kind = 2 ∧ isZero x.page = true)
def progV (b : Int) (p : Pg) : Value := .iface 111 (.agg #[.int .i64 b, .bool p.used, .int .i64 p.log, .int .i64 p.seq, .string p.data])
def eraV (b : Int) : Value := .iface 147 (.agg #[.int .i64 b])
/-- The program's value v stands for the op x. -/
def StandsFor (v : Value) (x : Opn) : Prop := (x.kind = 1 ∧ v = progV x.block x.page) ∨ (x.kind = 2 ∧ isZero x.page = true ∧ v = eraV x.block)
theorem StandsFor.good {v : Value} {x : Opn} (h : StandsFor v x) : goodOp x := by
  rcases h with ⟨h, _⟩ | ⟨h, h2, _⟩
  · exact .inl h
  · exact .inr ⟨h, h2⟩


/-- The program's values of the ops xs lie, one behind the other, from the address a on. -/
def CoAt (w : World) (a : Option Addr) (xs : List Opn) : Prop := ∀ i x, xs[i]? = some x → ∃ b o v, a = some ⟨b, o, none⟩ ∧ w.cell? ⟨b, o + i, none⟩ = some v ∧ StandsFor v x
theorem CoAt.below {w w' : World} {a : Option Addr} {xs : List Opn} (h : CoAt w a xs) {B : Nat} (hb : Below B w w') (hB : w.heap.size ≤ B) : CoAt w' a xs := by
  intro i x hx
  obtain ⟨b, o, v, ha, hc, hv⟩ := h i x hx
  exact ⟨b, o, v, ha, (hb.cell (p := ⟨b, o + i, none⟩) (Nat.lt_of_lt_of_le (World.block_lt_of_cell? _ _ hc) hB)).trans hc, hv⟩

theorem infoCo : (Tryz.prog.info? 75).map (fun i => (i.zero, i.size, i.bytes)) = some (some .nilIface, 1, 16) := by kernel_rfl
theorem make_co (n : Nat) (hn : n ≤ 1048576) (w : World) :
    (Instr.makeSlice 70 (.int .i64 (n : Int)) (.int .i64 (n : Int))).run Tryz.prog w = .ok (.slice (some ⟨w.heap.size, 0, none⟩) n n) (w.alloc (.cells (madeCells #[.nilIface] n) 75)) := by
  obtain ⟨i, hi, hz⟩ := Option.map_eq_some_iff.1 infoCo
  simp only [Prod.mk.injEq] at hz
  obtain ⟨hz0, hz1, hz2⟩ := hz
  have h := run_make (P := Tryz.prog) w 70 75 i _ Tryz.underlying70 hi hz0 .i64 .i64 (n : Int) (n : Int) (by omega) (Int.le_refl _) (by rw [hz2]; omega) (by omega)
  rw [hz1] at h
  simpa [Value.cells] using h

end Go.Proofs.YtalgkmellbamgaaGreat
