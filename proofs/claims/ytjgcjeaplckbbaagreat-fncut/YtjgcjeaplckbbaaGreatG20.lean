/- 1 texts in one. -/
import Derived.Test.YtjgcjeaplckbbaaGreatG04
import Derived.Test.YtjgcjeaplckbbaaGreatG19
import Derived.Test.YtjgcjeaplckbbaaGreatG02
import Derived.Test.YtjgcjeaplckbbaaGreatG08
import Derived.WalkKit
import Derived.Outline

/- May a log be written? The program's worn, spent and writeRefusal. -/
namespace Go.Proofs.YtjgcjeaplckbbaaGreat
open Go.RowKit
set_option linter.unusedVariables false
set_option linter.unusedSimpArgs false

/-- The cells A are the chip bs. -/
structure CellsIs (A : Array Value) (m : CC) (bs : List Bk) (n : Nat) : Prop where
  len : bs.length = n
  blocks : ccBs m n = bs
  count : A[0]? = some (.int .i64 (n : Int))
  cells : ∀ b i, b < 12 → i < 17 → A[1 + b * 17 + i]? = (bcA (m.wear b) (m.page b))[i]?
  most : n ≤ 12
  size : A.size = 205
theorem CellsIs.wear {A : Array Value} {m : CC} {bs : List Bk} {n : Nat} (h : CellsIs A m bs n) {k : Nat} {x : Bk} (hx : bs[k]? = some x) : A[1 + k * 17]? = some (.int .i64 x.wear) := by
  have hk : k < n := by have := (List.getElem?_eq_some_iff.1 hx).1; have := h.len; omega
  have e := ccBs_at m hk
  rw [h.blocks, hx] at e
  cases e
  exact (h.cells k 0 (by have := h.most; omega) (by omega)).trans ((bcA_get _ _ (i := 0) (by omega)).trans rfl)
theorem CellsIs.pu {A : Array Value} {m : CC} {bs : List Bk} {n : Nat} (h : CellsIs A m bs n) {k : Nat} {x : Bk} (hx : bs[k]? = some x) : ∀ t, t < 4 → pu x t = (m.page k t).used := fun t ht => by
  have hk : k < n := by have := (List.getElem?_eq_some_iff.1 hx).1; have := h.len; omega
  exact pu_cc m (n := n) hk ht (by rw [h.blocks]; exact hx)
theorem CellsIs.of {m : CC} {bs : List Bk} {n : Nat} (hl : bs.length = n) (hn : n ≤ 12) (hc : m.count = bs.length) (hb : ccBs m bs.length = bs) : CellsIs (ccA m) m bs n := by
  refine ⟨hl, by rw [← hl]; exact hb, by rw [ccA_count, hc, hl], fun b i h1 h2 => ccA_block m h1 h2, hn, ccA_size m⟩

set_option maxRecDepth 100000 in
set_option maxHeartbeats 1000000 in
theorem implWorn_any (A : Array Value) (m : CC) (bs : List Bk) (n : Nat) (hC : CellsIs A m bs n) (w : World) :
    Calls Tryz.prog 65 #[.agg A] w fun e w' => RetIff (worn bs) e ∧ Below w.heap.size w w' := by
  have hb0 : ∀ o, Below w.heap.size w (w.alloc o) := fun o => (Below.refl _ w).alloc (Nat.le_refl _) _
  have hA0 := hC.count
  have hn := hC.most
  have HC := hide hC
  clear hC
  go_enter Tryz.func65, Tryz.ntmps65
  go_wp2
  go_loop [6] (fun i => ∃ k : Nat, k ≤ n ∧ i = .int .i64 k ∧ ¬ wornTo bs k) (fun i => n - (intOf i).toNat)
  case atStart => exact ⟨0, Nat.zero_le _, rfl, fun ⟨i, _, hi, _⟩ => absurd hi (Nat.not_lt_zero _)⟩
  case round =>
    obtain ⟨k, hk, rfl, hall⟩ := hrel
    have HA := hide hall
    clear hall hA0
    by_cases hlt : k < n
    · obtain ⟨x, hx⟩ := getElem?_ex (l := bs) (k := k) (by have := (unhide HC).len; omega)
      have hwk : ∀ ty, (w.alloc (.cells A ty)).cell? ⟨w.heap.size, 1 + k * 17, none⟩ = some (.int .i64 x.wear) := fun ty => (cell_of_row _ _ _ _ _ _ (Go.Deep.blk_alloc_new _ _)).trans ((unhide HC).wear hx)
      have hki : (k : Int) < 12 := by omega
      have HX := hide hx
      clear hx
      by_cases hw : x.wear = 1000000000
      · have ew : (x.wear == 1000000000) = true := by simpa using hw
        go_wp2
        go_ret
        exact ⟨RetIff.yes ⟨k, x, by have := (unhide HC).len; omega, unhide HX, hw⟩, hb0 _⟩
      · have ew : (x.wear == 1000000000) = false := by simpa using hw
        go_wp2
        go_round
        case rel =>
          refine ⟨k + 1, by omega, by go_num, fun h => ?_⟩
          rcases (wornTo_succ (unhide HX)).1 h with h | h
          · exact unhide HA h
          · exact hw h
        case measure => simp [intOf]; omega
    · obtain rfl : k = n := by omega
      have HW : Hid (¬ worn bs) := fun h => unhide HA (by have := (unhide HC).len; unfold worn at h; rwa [this] at h)
      go_wp2
      go_ret
      exact ⟨RetIff.no (unhide HW), hb0 _⟩

set_option maxRecDepth 100000 in
set_option maxHeartbeats 1000000 in
theorem spent_any (A : Array Value) (m : CC) (bs : List Bk) (n : Nat) (hC : CellsIs A m bs n) (seq : Int) (w : World) :
    Calls Tryz.prog 45 #[.agg A, .int .i64 seq] w fun e w' => RetIff (¬ roomy bs seq) e ∧ Below w.heap.size w w' := by
  have hb0 : ∀ o, Below w.heap.size w (w.alloc o) := fun o => (Below.refl _ w).alloc (Nat.le_refl _) _
  have HAS := hide hC.size
  by_cases hs : seq ≤ 999999990
  · have HLD : Hid (∀ ty, ∀ j, j < 205 → (w.alloc (.cells A ty)).cell? ⟨w.heap.size, 0 + j, none⟩ = A[j]?) := fun ty j hj => by rw [Nat.zero_add]; exact cell_of_row _ _ j _ _ _ (Go.Deep.blk_alloc_new _ _)
    go_enter Tryz.func45, Tryz.ntmps45
    go_wp2_with fail
    rw [show decide ((999999990 : Int) < seq) = false by simp; omega]
    refine wpList_load_mid_g rfl 57 _ rfl w.heap.size 0 rfl A 205 (unhide HAS) (unhide HLD _) _ Tryz.underlying57 rfl sizeCC' ?_
    go_wp2_with fail
    refine (implWorn_any A m bs n hC _).mono ?_
    rintro e w1 ⟨⟨r, rfl, hr⟩, hB1⟩
    have HR := hide hr
    have hW1 : Below w.heap.size w w1 := (hb0 _).trans (hB1.mono (by simp))
    clear hr hB1
    cases r with
    | true =>
      go_wp2
      go_ret
      exact ⟨RetIff.yes (fun h => h.1 ((unhide HR).1 (by trivial))), hW1⟩
    | false =>
      go_wp2
      go_ret
      exact ⟨RetIff.no (fun h => h ⟨(fun hw => by have := (unhide HR).2 hw; cases this), hs⟩), hW1⟩
  · have hs' : 999999990 < seq := by omega
    go_enter Tryz.func45, Tryz.ntmps45
    go_wp2
    go_ret
    exact ⟨RetIff.yes (fun h => by have := h.2; omega), hb0 _⟩

/-- What writeRefusal answers. -/
def RefIs (bs : List Bk) (seq lg : Int) (data : ByteArray) (code : Int) : Prop := (code = 2 ∧ ¬ formOk bs lg data) ∨ (code = 4 ∧ formOk bs lg data ∧ ¬ roomy bs seq) ∨ (code = 0 ∧ formOk bs lg data ∧ roomy bs seq)
set_option maxRecDepth 100000 in
set_option maxHeartbeats 1000000 in
theorem writeRefusal_any (A : Array Value) (m : CC) (bs : List Bk) (n : Nat) (hC : CellsIs A m bs n) (h4 : 4 ≤ n) (seq lg : Int) (data : ByteArray) (hd : data.size ≤ 1048576) (w : World) :
    Calls Tryz.prog 19 #[.agg A, .int .i64 seq, .int .i64 lg, .string data] w fun e w' => ∃ code : Int, e = .returned (.int .i64 code) ∧ RefIs bs seq lg data code ∧ Below w.heap.size w w' := by
  have hb0 : ∀ o, Below w.heap.size w (w.alloc o) := fun o => (Below.refl _ w).alloc (Nat.le_refl _) _
  have hA0 := hC.count
  have hn := hC.most
  have HAS := hide hC.size
  have hc0 : ∀ ty, (w.alloc (.cells A ty)).cell? ⟨w.heap.size, 0, none⟩ = some (.int .i64 (n : Int)) := fun ty => (cell_of_row _ _ 0 _ _ _ (Go.Deep.blk_alloc_new _ _)).trans hA0
  have hrm : (roomOf bs : Int) = 4 * ((n : Int) - 3) := by have := hC.len; unfold roomOf; omega
  have HRM := hide hrm
  have HC := hide hC
  clear hC hrm hA0
  go_enter Tryz.func19, Tryz.ntmps19
  go_wp2_with fail
  refine (implRoomFor_any (n : Int) _).mono ?_
  rintro e w1 ⟨rfl, rfl⟩
  rw [roomI_in (by omega)]
  go_wp2_with fail
  refine (within_any _ _ _ _).mono ?_
  rintro e w2 ⟨rfl, rfl⟩
  by_cases hin : 0 ≤ lg ∧ lg ≤ 4 * ((n : Int) - 3) - 1
  · have hdd : decide (0 ≤ lg ∧ lg ≤ 4 * ((n : Int) - 3) - 1) = true := by simpa using hin
    rw [hdd]
    have HIN := hide hin
    clear hdd hin
    by_cases hd4 : data.size = 4
    · have e4 : ((data.size : Int) != 4) = false := by simp; omega
      have HFO : Hid (formOk bs lg data) := ⟨(unhide HIN).1, by have := (unhide HIN).2; have := unhide HRM; omega, hd4⟩
      clear hd4
      go_wp2_with fail
      refine wp_load_row 57 _ rfl w.heap.size rfl 57 A (0, 0) _ (Go.Deep.blk_alloc_new _ _) Tryz.underlying57 rfl (by rw [unhide HAS]; exact sizeCC') ?_
      go_wp2_with fail
      refine (spent_any A m bs n (unhide HC) seq _).mono ?_
      rintro e w3 ⟨⟨r, rfl, hr⟩, hB3⟩
      have HR := hide hr
      have hW3 : Below w.heap.size w w3 := (hb0 _).trans (hB3.mono (by simp))
      clear hr hB3
      cases r with
      | true =>
        go_wp2
        go_ret
        exact ⟨4, rfl, .inr (.inl ⟨rfl, unhide HFO, (unhide HR).1 (by trivial)⟩), hW3⟩
      | false =>
        go_wp2
        go_ret
        exact ⟨0, rfl, .inr (.inr ⟨rfl, unhide HFO, Classical.byContradiction fun h => by have := (unhide HR).2 h; cases this⟩), hW3⟩
    · have e4 : ((data.size : Int) != 4) = true := by simp; omega
      go_wp2
      go_ret
      exact ⟨2, rfl, .inl ⟨rfl, fun h => hd4 h.2.2⟩, hb0 _⟩
  · have hdd : decide (0 ≤ lg ∧ lg ≤ 4 * ((n : Int) - 3) - 1) = false := by simpa using hin
    rw [hdd]
    go_wp2
    go_ret
    exact ⟨2, rfl, .inl ⟨rfl, fun h => hin ⟨h.1, by have := h.2.1; have := unhide HRM; omega⟩⟩, hb0 _⟩
end Go.Proofs.YtjgcjeaplckbbaaGreat
