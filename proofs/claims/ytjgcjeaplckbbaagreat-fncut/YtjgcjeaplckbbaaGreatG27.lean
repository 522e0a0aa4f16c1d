/- 3 texts in one. -/
import Derived.Test.YtjgcjeaplckbbaaGreatG26
import Derived.Test.YtjgcjeaplckbbaaGreatG20
import Derived.Test.YtjgcjeaplckbbaaGreatG22
import Derived.Test.YtjgcjeaplckbbaaGreatG16
import Derived.Test.YtjgcjeaplckbbaaGreatG15
import Derived.WalkKit
import Derived.Outline
import Derived.Test.YtjgcjeaplckbbaaGreatG21
import Derived.Deep.DeepCutAuto
import Derived.Test.YtjgcjeaplckbbaaGreatG24
import Derived.BigQuiet
import Derived.Deep.MidRow
import Derived.Deep.RegionHeld3

/- The program's room, openBlock and freeBut. -/
namespace Go.Proofs.YtjgcjeaplckbbaaGreat
open Go.RowKit
set_option linter.unusedVariables false
set_option linter.unusedSimpArgs false

set_option maxRecDepth 100000 in
set_option maxHeartbeats 1000000 in
theorem room_any (x : Int) (f : Nat → Pg) (b : Bk) (hb : ∀ t, t < 4 → pu b t = (f t).used) (w : World) :
    Calls Tryz.prog 67 #[.agg (bcA x f)] w fun e w' => e = .returned (.int .i64 (roomB b)) ∧ Below w.heap.size w w' := by
  have hb0 : ∀ o, Below w.heap.size w (w.alloc o) := fun o => (Below.refl _ w).alloc (Nat.le_refl _) _
  go_enter Tryz.func67, Tryz.ntmps67
  go_wp2_with (refine wpList_load_row rfl 54 _ rfl w.heap.size rfl 54 (bcA x f) (0, 0) _ (Go.Deep.blk_alloc_new _ _) Tryz.underlying54 rfl (by rw [bcA_size]; exact sizeBC) ?_)
  refine (full_any x f b hb _).mono ?_
  rintro e w1 ⟨rfl, hB1⟩
  have hW1 : Below w.heap.size w w1 := (hb0 _).trans (hB1.mono (by simp))
  have hrow : w1.heap[w.heap.size]? = some (.cells (bcA x f) 54 (0, 0)) := (hB1.block w.heap.size (by simp)).trans (Go.Deep.blk_alloc_new _ _)
  have HR := hide hrow
  clear hB1 hrow
  cases hf : fullB b with
  | true =>
    have hrm : roomB b = 0 := by
      unfold fullB at hf
      simp only [Bool.and_eq_true] at hf
      obtain ⟨⟨⟨e0, e1⟩, e2⟩, e3⟩ := hf
      unfold roomB
      simp [e0, e1, e2, e3]
    have HRM := hide hrm
    clear hrm
    generalize bcA x f = A at *
    go_wp2
    go_ret
    exact ⟨by rw [unhide HRM]; simp, hW1⟩
  | false =>
    go_wp2_with (refine wpList_load_row rfl 54 _ rfl w.heap.size rfl 54 (bcA x f) (0, 0) _ (unhide HR) Tryz.underlying54 rfl (by rw [bcA_size]; exact sizeBC) ?_)
    refine (next_any x f _).mono ?_
    rintro e w2 ⟨r, rfl, hr, hB2⟩
    have hk := roomB_next (hr.congr (fun k hk => (hb k hk).symm))
    obtain ⟨h0, h4, hrm⟩ : 0 ≤ r ∧ r < 4 ∧ roomB b = 4 - r := by
      rcases hk with ⟨_, _, h⟩ | ⟨h1, h2, h3, _⟩
      · rw [hf] at h; cases h
      · exact ⟨h1, h2, h3⟩
    have HRM := hide hrm
    have hW2 := hW1.trans (hB2.mono hW1.size)
    clear hr hk hrm hB2
    generalize bcA x f = A at *
    go_wp2
    go_ret
    exact ⟨by rw [unhide HRM]; simp, hW2⟩

theorem run_field_np1 (a b : Int) (W : World) : (Instr.field 75 (.agg #[.int .i64 a, .int .i64 b]) 1).run Tryz.prog W = .ok (.int .i64 b) W := by kernel_rfl

set_option maxRecDepth 100000 in
set_option maxHeartbeats 2000000 in
theorem openBlock_any (m : CC) (bs : List Bk) (n : Nat) (hC : CellsIs (ccA m) m bs n) (hct : m.count = n) (hok : ChipOk bs) (w : World) :
    Calls Tryz.prog 64 #[.agg (ccA m)] w fun e w' => e = .returned (.tuple #[.int .i64 (openOf bs), .bool (decide (halves bs ≤ 1))]) ∧ Below w.heap.size w w' := by
  have hb0 : ∀ o, Below w.heap.size w (w.alloc o) := fun o => (Below.refl _ w).alloc (Nat.le_refl _) _
  have hn := hC.most
  have hlen := hC.len
  have htb := topBlock hok
  have HTOP := hide (fun W => top_any m n hct hn W)
  have HU : Hid (usedAll m n = usedOf bs) := by
    have := usedOf_cc (m := m) (bs := bs) (by rw [hlen]; exact hC.blocks)
    rw [hlen] at this
    exact this
  have HC := hide hC
  have HAS := hide hC.size
  have hA0 := hC.count
  obtain ⟨T, hT⟩ : ∃ T, T = topOf (usedOf bs) := ⟨_, rfl⟩
  rw [← hT] at htb
  have HT := hide hT
  have HOK := hide hok
  have hT2 : T.2 / 4 ≤ 12 := by omega
  generalize ccA m = A at HTOP HC HAS hA0 ⊢
  have hc0 : ∀ ty, (w.alloc (.cells A ty)).cell? ⟨w.heap.size, 0, none⟩ = some (.int .i64 (n : Int)) := fun ty => (cell_of_row _ _ 0 _ _ _ (Go.Deep.blk_alloc_new _ _)).trans hA0
  have hfld := run_field_np1
  clear hC hok hT hA0
  go_enter Tryz.func64, Tryz.ntmps64
  go_wp2_with (refine wpList_load_row rfl 57 _ rfl w.heap.size rfl 57 A (0, 0) _ (Go.Deep.blk_alloc_new _ _) Tryz.underlying57 rfl (by rw [unhide HAS]; exact sizeCC') ?_)
  refine (unhide HTOP _).mono ?_
  rintro e w1 ⟨rfl, hB1⟩
  rw [unhide HU, ← unhide HT]
  have hs1 := hB1.size
  simp at hs1
  have hW1 : Below w.heap.size w w1 := (hb0 _).trans (hB1.mono (by simp))
  have hrow : w1.heap[w.heap.size]? = some (.cells A 57 (0, 0)) := (hB1.block w.heap.size (by simp)).trans (Go.Deep.blk_alloc_new _ _)
  have hn1 : w1.cell? ⟨w.heap.size, 0, none⟩ = some (.int .i64 (n : Int)) := (cell_of_row _ _ 0 _ _ _ hrow).trans (unhide HC).count
  have HR := hide hrow
  clear hB1 hrow hc0 HTOP
  go_wp2
  go_loopw [4, 5, 13] (fun v4 v5 v13 wr => ∃ k : Nat, k ≤ n ∧ v13 = .int .i64 k ∧ v4 = .int .i64 (openTo bs k).1 ∧ v5 = .int .i64 (openTo bs k).2 ∧ Below w1.heap.size w1 wr) (fun _ _ v13 _ => n - (intOf v13).toNat)
  case atStart => exact ⟨0, Nat.zero_le _, rfl, by rw [unhide HT]; rfl, rfl, Below.refl _ _⟩
  case round =>
    obtain ⟨k, hk, rfl, rfl, rfl, hB⟩ := hrel
    have hsr := hB.size
    have hfew := openTo_few bs k
    by_cases hlt : k < n
    · have HB : Hid (∀ j, j < 17 → wr.cell? ⟨w.heap.size, 1 + k * 17 + j, none⟩ = (bcA (m.wear k) (m.page k))[j]?) := fun j hj => by
        rw [hB.cell (p := ⟨w.heap.size, 1 + k * 17 + j, none⟩) (by show w.heap.size < _; omega), cell_of_row _ _ _ _ _ _ (unhide HR)]
        exact (unhide HC).cells k j (by omega) hj
      have hki : (k : Int) < 12 := by omega
      have hkn : (k : Int) < (n : Int) := by omega
      obtain ⟨x, hx⟩ := getElem?_ex (l := bs) (k := k) (by omega)
      have HPU := hide ((unhide HC).pu hx)
      have HS := hide (openTo_succ bs k)
      have HX := hide (halfAt_of hx)
      obtain ⟨s, hs⟩ : ∃ s, s = openTo bs k := ⟨_, rfl⟩
      rw [← hs] at hfew HS ⊢
      clear hx hs hn1
      go_wp2_with (refine wpList_load_mid rfl 54 _ rfl w.heap.size (1 + k * 17) rfl (bcA (m.wear k) (m.page k)) 17 (bcA_size _ _) (unhide HB) _ Tryz.underlying54 rfl sizeBC ?_)
      refine (begun_any _ _ x (unhide HPU) _).mono ?_
      rintro e w2 ⟨rfl, hB2⟩
      have hBB := hB.trans (hB2.mono (by omega))
      clear HB hB2 hB HPU
      generalize bcA (m.wear k) (m.page k) = A2
      cases hh : halfB x with
      | true =>
        go_wp2
        go_roundw
        case rel => exact ⟨k + 1, by omega, by go_num, by rw [unhide HS, unhide HX, hh]; rfl, by rw [unhide HS, unhide HX, hh]; simp, hBB⟩
        case measure => simp [intOf]; omega
      | false =>
        go_wp2
        go_roundw
        case rel => exact ⟨k + 1, by omega, by go_num, by rw [unhide HS, unhide HX, hh]; rfl, by rw [unhide HS, unhide HX, hh]; rfl, hBB⟩
        case measure => simp [intOf]; omega
    · obtain rfl : k = n := by omega
      have HE : Hid ((openTo bs k).1 = openOf bs ∧ (openTo bs k).2 = halves bs) := by
        unfold openOf halves
        rw [hlen]
        exact ⟨rfl, rfl⟩
      rw [(unhide HE).1, (unhide HE).2]
      have hW := hW1.trans (hB.mono hW1.size)
      rw [(unhide HE).2] at hfew
      clear hB
      go_wp2
      go_ret2
      exact ⟨by simp; omega, hW⟩

set_option maxRecDepth 100000 in
set_option maxHeartbeats 1000000 in
theorem notOpen_any (x o : Int) (B : Nat) (w : World) (h : w.cell? ⟨B, 0, none⟩ = some (.int .i64 o)) :
    Calls Tryz.prog 90 #[.int .i64 x, .pointer (some ⟨B, 0, none⟩)] w fun e w' => e = .returned (.bool (x != o)) ∧ w' = w := by
  go_enter Tryz.func90, Tryz.ntmps90
  go_wp2
  go_ret
  exact ⟨rfl, rfl⟩

set_option maxRecDepth 100000 in
set_option maxHeartbeats 1000000 in
theorem indexFunc_any (o : Int) (B : Nat) (fa : Option Addr) (fc : Nat) (F : List Int) (q : Nat) (hq : F.length = q) (hq12 : q ≤ 12) (w : World) (h : w.cell? ⟨B, 0, none⟩ = some (.int .i64 o)) (hI : IntsAt w fa F) :
    Calls Tryz.prog 99 #[.slice fa q fc, .func (.func 90) #[] #[.pointer (some ⟨B, 0, none⟩)]] w fun e w' => ∃ r : Int, e = .returned (.int .i64 r) ∧ (0 ≤ r ↔ ∃ x ∈ F, x ≠ o) ∧ w' = w := by
  have HI := hide hI
  have HQ := hide hq
  clear hI hq
  go_enter Tryz.func99, Tryz.ntmps99
  go_wp2
  go_loop [8] (fun i => ∃ k : Nat, k ≤ q ∧ i = .int .i64 k ∧ ∀ x ∈ F.take k, x = o) (fun i => q - (intOf i).toNat)
  case atStart => exact ⟨0, Nat.zero_le _, rfl, fun x hx => by simp at hx⟩
  case round =>
    obtain ⟨k, hk, rfl, hall⟩ := hrel
    have HA := hide hall
    clear hall
    by_cases hlt : k < q
    · obtain ⟨y, hy⟩ := getElem?_ex (l := F) (k := k) (by have := unhide HQ; omega)
      obtain ⟨b1, o1, rfl, hc⟩ := (unhide HI) k y hy
      have hkq : (k : Int) < (q : Int) := by omega
      have HY := hide hy
      clear hy
      go_wp2_with fail
      refine (notOpen_any y o B _ h).mono ?_
      rintro e w1 ⟨rfl, rfl⟩
      by_cases hyo : y = o
      · have hb : (y != o) = false := by simpa using hyo
        rw [hb]
        go_wp2
        go_round
        case rel =>
          refine ⟨k + 1, by omega, by go_num, fun x hx => ?_⟩
          rw [take_succ_of (unhide HY)] at hx
          rcases List.mem_append.1 hx with hx | hx
          · exact unhide HA x hx
          · simp at hx; rw [hx]; exact hyo
        case measure => simp [intOf]; omega
      · have hb : (y != o) = true := by simpa using hyo
        rw [hb]
        go_wp2
        go_ret
        exact ⟨_, rfl, ⟨fun _ => ⟨y, List.mem_of_getElem? (unhide HY), hyo⟩, fun _ => by omega⟩, rfl⟩
    · obtain rfl : k = q := by omega
      have HE : Hid (F.take k = F) := by have := unhide HQ; rw [← this]; exact List.take_length
      go_wp2
      go_ret
      refine ⟨_, rfl, ⟨fun h => by omega, fun ⟨x, hx, hn⟩ => absurd (unhide HA x (by rw [unhide HE]; exact hx)) hn⟩, rfl⟩

set_option maxRecDepth 100000 in
set_option maxHeartbeats 1000000 in
theorem containsFunc_any (o : Int) (B : Nat) (fa : Option Addr) (fc : Nat) (F : List Int) (q : Nat) (hq : F.length = q) (hq12 : q ≤ 12) (w : World) (h : w.cell? ⟨B, 0, none⟩ = some (.int .i64 o)) (hI : IntsAt w fa F) :
    Calls Tryz.prog 89 #[.slice fa q fc, .func (.func 90) #[] #[.pointer (some ⟨B, 0, none⟩)]] w fun e w' => ∃ r : Bool, e = .returned (.bool r) ∧ (r = true ↔ ∃ x ∈ F, x ≠ o) ∧ w' = w := by
  go_enter Tryz.func89, Tryz.ntmps89
  go_wp2_with fail
  refine (indexFunc_any o B fa fc F q hq hq12 _ h hI).mono ?_
  rintro e w1 ⟨r, rfl, hr, rfl⟩
  have HR := hide hr
  clear hr
  go_wp2
  go_ret
  exact ⟨_, rfl, by rw [← unhide HR]; simp, rfl⟩

set_option maxRecDepth 100000 in
set_option maxHeartbeats 1000000 in
theorem freeBut_any (A : Array Value) (m : CC) (bs : List Bk) (n : Nat) (hC : CellsIs A m bs n) (o : Int) (w : World) :
    Calls Tryz.prog 66 #[.agg A, .int .i64 o] w fun e w' => e = .returned (.bool (decide (0 ≤ freshOf bs o))) ∧ Below w.heap.size w w' := by
  have hn := hC.most
  have hlen := hC.len
  have HC := hide hC
  obtain ⟨w0, hw0⟩ : ∃ w0, w0 = (w.alloc (.cells A 57)).alloc (.cells #[.int .i64 o] 2) := ⟨_, rfl⟩
  have hB0 : Below w.heap.size w w0 := by rw [hw0]; exact ((Below.refl _ w).alloc (Nat.le_refl _) _).alloc (by simp) _
  have hs0 : w0.heap.size = w.heap.size + 1 + 1 := by rw [hw0]; simp
  have HR0 : Hid (w0.heap[w.heap.size]? = some (.cells A 57 (0, 0))) := by rw [hw0]; exact (Below.heap_alloc _ _ _ (by simp)).trans (World.alloc_heap_new _ _)
  have HO0 : Hid (w0.cell? ⟨w.heap.size + 1, 0, none⟩ = some (.int .i64 o)) := by
    rw [hw0]
    have := cell_of_row ((w.alloc (.cells A 57)).alloc (.cells #[.int .i64 o] 2)) (w.heap.size + 1) 0 _ _ _ (heap_alloc2_new _ _ _)
    exact this
  have HSZ : Hid ((Tryz.prog.info? 57).map (·.size) = some A.size) := by rw [hC.size]; exact sizeCC'
  clear hC
  go_enter Tryz.func66, Tryz.ntmps66
  go_wp2_with fail
  rw [← hw0]
  clear hw0
  refine wp_load_row 57 _ rfl w.heap.size rfl 57 A (0, 0) _ (unhide HR0) Tryz.underlying57 rfl (unhide HSZ) ?_
  go_wp2_with fail
  refine (freeBlocks_any A m n (unhide HC).count (unhide HC).cells hn _).mono ?_
  rintro e w1 ⟨fv, rfl, hv, hB1⟩
  rw [(unhide HC).blocks] at hv
  obtain ⟨fa, fc, rfl, hFI, _⟩ := hv.form
  have hs1 := hB1.size
  have HO1 := hide ((hB1.cell (p := ⟨w.heap.size + 1, 0, none⟩) (by show w.heap.size + 1 < _; omega)).trans (unhide HO0))
  have hW1 := hB0.trans (hB1.mono hB0.size)
  have hq12 := freeTo_length bs n
  have hneg := freshIn_neg (bs := bs) (but := o) (L := freeTo bs n) (fun y hy => by obtain ⟨i, _, rfl, _⟩ := mem_freeTo hy; omega)
  have HN : Hid (freshOf bs o < 0 ↔ ∀ x ∈ freeTo bs n, x = o) := by
    show freshOf bs o < 0 ↔ _
    unfold freshOf
    rw [hlen]
    exact hneg
  obtain ⟨F, hF⟩ : ∃ F, F = freeTo bs n := ⟨_, rfl⟩
  rw [← hF] at hFI hq12 HN ⊢
  obtain ⟨q, hq⟩ : ∃ q, q = F.length := ⟨_, rfl⟩
  rw [← hq] at hq12 ⊢
  have HQ := hide hq.symm
  have HFI := hide hFI
  clear hv hB1 hFI hneg hF hq HR0 HO0
  go_wp2_with fail
  refine (containsFunc_any o (w.heap.size + 1) fa fc F q (unhide HQ) (by omega) _ (unhide HO1) (unhide HFI)).mono ?_
  rintro e w2 ⟨r, rfl, hr, rfl⟩
  have HR : Hid (r = decide (0 ≤ freshOf bs o)) := by
    show r = _
    rw [Bool.eq_iff_iff, hr, decide_eq_true_eq]
    constructor
    · rintro ⟨x, hx, hn⟩
      apply Classical.byContradiction
      intro h
      exact hn ((unhide HN).1 (by omega) x hx)
    · intro h
      apply Classical.byContradiction
      intro hno
      have : freshOf bs o < 0 := (unhide HN).2 (fun x hx => Classical.byContradiction fun hn => hno ⟨x, hx, hn⟩)
      omega
  clear hr
  go_wp2
  go_ret
  exact ⟨by rw [unhide HR]; simp, hW1⟩
end Go.Proofs.YtjgcjeaplckbbaaGreat

/- The program's emptying, over a chip that no member has. -/
namespace Go.Proofs.YtjgcjeaplckbbaaGreat
open Go.RowKit
set_option linter.unusedVariables false
set_option linter.unusedSimpArgs false

set_option maxRecDepth 100000 in
set_option maxHeartbeats 4000000 in
theorem emptying_anyG (A : Array Value) (m : CC) (bs : List Bk) (n : Nat) (hC : CellsIs A m bs n) (hAp : ∀ b i, b < 12 → i < 16 → A[1 + b * 17 + 1 + i]? = (paA (m.page b))[i]?) (ma : Option Addr) (mc : Nat) (L : List Int) (mn : Nat) (hL : L.length = mn) (seq : Int) (hok : MidOk bs L seq) (hsq9 : seq ≤ 1000000000) (v : Nat) (hv : v < n) (into : Int) (w : World) (hI : IntsAt w ma L) :
    Calls Tryz.prog 50 #[.agg A, .slice ma mn mc, .int .i64 (v : Int), .int .i64 into, .int .i64 seq] w fun e w' => ∃ r, e = .returned r ∧ OwnsCo w' (w.heap.size + 1) r (moveOps bs L (v : Int) into seq) ∧ Below w.heap.size w w' := by
  obtain ⟨i0, hi, hz0, hz1, hz2⟩ := info_parts infoChipOp
  have hn12 := hC.most
  have hmn : mn ≤ 36 := by have h2 := hok.chip.count; have h3 : L.length = roomOf bs := (by rw [hok.map, placesOf_length]); unfold roomOf at h3; omega
  have hsq := hok.seq
  have htp := hok.chip.top
  have h0 : 0 ≤ seq := by omega
  have h1 : seq ≤ 1000000000 := hsq9
  obtain ⟨x, hx⟩ := getElem?_ex (l := bs) (k := v) (by have := hC.len; omega)
  have h4 := (hok.chip.block x (List.mem_of_getElem? hx)).four
  have hpg : ∀ k, k < 4 → pageIn bs (v : Int) k = m.page v k := fun k hk => by
    have e := ccBs_at m hv
    rw [hC.blocks, hx] at e
    cases e
    exact pageIn_of hx (ccPs_at m v hk)
  have hmv : ∀ k, k < 4 → movesAt bs L (v : Int) k = decide (((v : Int) * 4 + (k : Int)) ∈ L) := fun k hk => hok.moves (by omega) hk
  have HLD : Hid (∀ ty, ∀ j, j < 16 → (w.alloc (.cells A ty)).cell? ⟨w.heap.size, 1 + v * 17 + 1 + j, none⟩ = (paA (m.page v))[j]?) := fun ty j hj => (cell_of_row _ _ _ _ _ _ (Go.Deep.blk_alloc_new _ _)).trans (hAp v j (by omega) hj)
  have hvi : (v : Int) < 12 := by omega
  have HPG := hide hpg
  have HMV := hide hmv
  have HI := hide hI
  have HL := hide hL
  clear hok hC hAp hI hx hpg hmv hL hsq htp h4
  go_enter Tryz.func50, Tryz.ntmps50
  go_wp2_with (refine wpList_load_mid rfl 52 _ rfl w.heap.size (1 + v * 17 + 1) rfl (paA (m.page v)) 16 (paA_size _) (unhide HLD _) _ Tryz.underlying52 rfl sizePages ?_)
  obtain ⟨w0, hw0⟩ : ∃ w0, w0 = w.alloc (.cells A 57) := ⟨_, rfl⟩
  have hs0 : w0.heap.size = w.heap.size + 1 := by rw [hw0]; simp
  have hW0 : Below w.heap.size w w0 := by rw [hw0]; exact (Below.refl _ w).alloc (Nat.le_refl _) _
  rw [← hw0]
  have HS0 := hide hs0
  clear hw0 HLD hs0
  go_loopw [11, 19] (fun out i wr => ∃ k : Nat, k ≤ 4 ∧ i = .int .i64 k ∧ OwnsCo wr (w.heap.size + 1) out (movedTo bs L (v : Int) into seq k) ∧ Below w0.heap.size w0 wr) (fun _ i _ => 4 - (intOf i).toNat)
  case atStart => exact ⟨0, Nat.zero_le _, rfl, World.ownsRow_nil _ _ _ _, Below.refl _ _⟩
  case round =>
    obtain ⟨k, hk, rfl, hO, hB⟩ := hrel
    have hsr := hB.size
    have hml := movedTo_length bs L (v : Int) into seq k
    obtain ⟨q, hq⟩ : ∃ q, q = (movedTo bs L (v : Int) into seq k).length := ⟨_, rfl⟩
    rw [← hq] at hml
    obtain ⟨X, hX⟩ : ∃ X, X = (movedTo bs L (v : Int) into seq k).map coV := ⟨_, rfl⟩
    have hRr : wr.ownsRow (w.heap.size + 1) 91 1 u11 q X := by rw [hX, hq]; exact hO
    have HQ := hide (And.intro hX hq)
    have HO := hide hO
    have hW := hW0.trans (hB.mono hW0.size)
    have hsr' : w.heap.size + 1 ≤ wr.heap.size := by have := unhide HS0; omega
    obtain ⟨qa, qc, hu⟩ : ∃ qa qc, u11 = .slice qa q qc := by
      rcases hRr.2 with ⟨e1, e2⟩ | ⟨g, cap, cur, e1, _⟩
      · exact ⟨none, 0, by rw [e1, e2]⟩
      · exact ⟨_, _, e1⟩
    subst hu
    clear hq hX hO
    by_cases hlt : k < 4
    · have hidx := fun W => run_index_pages (P := Tryz.prog) W 52 51 (m.page v) k hlt Tryz.underlying52 _ Tryz.underlying51 rfl sizePage
      obtain ⟨p, hp⟩ : ∃ p, m.page v k = p := ⟨_, rfl⟩
      have HP := hide ((unhide HPG k hlt).trans hp)
      rw [hp] at hidx
      have HM := hide (unhide HMV k hlt)
      clear hp
      obtain ⟨u, lg, s, d⟩ := p
      simp only at hidx
      have hk4 : (k : Int) < 4 := by omega
      generalize paA (m.page v) = PA at hidx ⊢
      obtain ⟨w4, hw4⟩ : ∃ w4, w4 = wr.alloc (.cells #[.bool u, .int .i64 lg, .int .i64 s, .string d] 51) := ⟨_, rfl⟩
      have hB4 : Below wr.heap.size wr w4 := by rw [hw4]; exact (Below.refl _ wr).alloc (Nat.le_refl _) _
      have hs4 : w4.heap.size = wr.heap.size + 1 := by rw [hw4]; simp
      have hr4 : w4.heap[wr.heap.size]? = some (.cells #[.bool u, .int .i64 lg, .int .i64 s, .string d] 51 (0, 0)) := by rw [hw4]; exact Go.Deep.blk_alloc_new _ _
      have k0 := cell_of_row _ _ 0 _ _ _ hr4
      have k1 := cell_of_row _ _ 1 _ _ _ hr4
      have k2 := cell_of_row _ _ 2 _ _ _ hr4
      have k3 := cell_of_row _ _ 3 _ _ _ hr4
      have f2 := frozen_of_row _ _ 2 _ _ hr4
      simp at k0 k1 k2 k3
      have HI4 := hide ((unhide HI).below (hW.trans (hB4.mono hW.size)) (Nat.le_refl _))
      have HCT : Hid (Calls Tryz.prog 81 #[.slice ma mn mc, .int .i64 ((v : Int) * 4 + (k : Int))] w4 fun e w' => e = .returned (.bool (decide (((v : Int) * 4 + (k : Int)) ∈ L))) ∧ w' = w4) := by
        have := contains_any ma mc L ((v : Int) * 4 + (k : Int)) w4 (unhide HI4) (by have := unhide HL; omega)
        rw [unhide HL] at this
        exact this
      clear hr4
      go_wp2_with fail
      rw [← hw4]
      clear hw4
      refine (unhide HCT).mono ?_
      rintro e w5 ⟨rfl, rfl⟩
      rw [← unhide HM]
      cases hmo : movesAt bs L (v : Int) k with
      | false =>
        go_wp2
        go_roundw
        case rel => exact ⟨k + 1, by omega, by go_num, by rw [movedTo_not hmo]; exact (unhide HO).kept hB4, hB.trans (hB4.mono hB.size)⟩
        case measure => simp [intOf]; omega
      | true =>
        obtain ⟨w6, hw6⟩ : ∃ w6, w6 = w5.setCell ⟨wr.heap.size, 2, none⟩ (.int .i64 (seq + (q : Int))) := ⟨_, rfl⟩
        have hB6 : Below wr.heap.size wr w6 := by rw [hw6]; exact hB4.setCell (Nat.le_refl _) _
        have hs6 : w6.heap.size = wr.heap.size + 1 := by rw [hw6]; simpa [World.setCell] using hs4
        have j0 : w6.cell? ⟨wr.heap.size, 0, none⟩ = some (.bool u) := by rw [hw6, World.cell?_setCell_other _ _ _ _ (by simp)]; exact k0
        have j1 : w6.cell? ⟨wr.heap.size, 1, none⟩ = some (.int .i64 lg) := by rw [hw6, World.cell?_setCell_other _ _ _ _ (by simp)]; exact k1
        have j2 : w6.cell? ⟨wr.heap.size, 2, none⟩ = some (.int .i64 (seq + (q : Int))) := by rw [hw6]; exact World.cell?_setCell_same' _ _ _ (by rw [k2]; rfl)
        have j3 : w6.cell? ⟨wr.heap.size, 3, none⟩ = some (.string d) := by rw [hw6, World.cell?_setCell_other _ _ _ _ (by simp)]; exact k3
        go_upto_region 7 with fail
        rw [← hw6]
        clear hw6
        have hRw : w6.ownsRow (w.heap.size + 1) 91 1 (.slice qa q qc) q X := by have := (unhide HO).kept hB6; obtain ⟨e1, e2⟩ := unhide HQ; rw [e1, e2]; rw [e2] at this; exact this
        clear k0 k1 k2 k3 f2 HCT HI4 hidx
        go_wp2_with (refine wpList_append_lies _ rfl (.tmp 34) (.tmp 39) 62 rfl (w.heap.size + 1) 91 i0 _ 1 16 Tryz.underlying62 hi hz0 hz1 hz2 rfl (by decide) (.slice qa q qc) q X (by simp [Act.eval]) (by exact hRw.alloc _) ⟨w6.heap.size, 0, none⟩ 1 1 [progV into ⟨u, lg, seq + (q : Int), d⟩] (by simp [Act.eval]) rfl (World.news_of_block (cs := #[progV into ⟨u, lg, seq + (q : Int), d⟩]) (t := 91) (fr := (0, 0)) (by exact Go.Deep.blk_alloc_new _ _)) (by simp [Value.oneCell', progV]) (by omega) (by unfold maxLen; omega) (by omega) (by simp; omega) (w6.heap.size + 1) (by simp) ?_; intro g1 cap wE hown hgrow hat hlt1)
        go_roundw
        case rel =>
          have hBE : Below (w.heap.size + 1) w6 wE := Below.grown ((Below.refl _ w6).alloc (by omega) _) hgrow (by simp; omega) (fun j e => (hRw.lt j e).1)
          refine ⟨k + 1, by omega, by go_num, ?_, (hB.trans (hB6.mono hB.size)).trans (hBE.mono (Nat.le_of_eq (unhide HS0)))⟩
          obtain ⟨e1, e2⟩ := unhide HQ
          rw [movedTo_yes hmo, ← e2, unhide HP]
          unfold OwnsCo
          rw [List.length_append, List.map_append, ← e1, ← e2]
          simpa [coV] using hown
        case measure => simp [intOf]; omega
    · obtain rfl : k = 4 := by omega
      generalize paA (m.page v) = PA
      go_wp2_with (refine wpList_append_lies _ rfl (.tmp 42) (.tmp 46) 62 rfl (w.heap.size + 1) 91 i0 _ 1 16 Tryz.underlying62 hi hz0 hz1 hz2 rfl (by decide) (.slice qa q qc) q X (by simp [Act.eval]) (by exact hRr.alloc _) ⟨wr.heap.size, 0, none⟩ 1 1 [eraV (v : Int)] (by simp [Act.eval]) rfl (World.news_of_block (cs := #[eraV (v : Int)]) (t := 91) (fr := (0, 0)) (by exact Go.Deep.blk_alloc_new _ _)) (by simp [Value.oneCell', eraV]) (by omega) (by unfold maxLen; omega) (by omega) (by simp; omega) (wr.heap.size + 1) (by simp) ?_; intro g1 cap wE hown hgrow hat hlt1)
      go_ret
      refine ⟨_, rfl, ?_, ?_⟩
      · obtain ⟨e1, e2⟩ := unhide HQ
        unfold moveOps OwnsCo
        rw [List.length_append, List.map_append, ← e1, ← e2]
        simpa [coV] using hown
      · have hBE : Below (w.heap.size + 1) wr wE := Below.grown ((Below.refl _ wr).alloc (by omega) _) hgrow (by simp; omega) (fun j e => (hRr.lt j e).1)
        exact hW.trans (hBE.mono (by omega))
end Go.Proofs.YtjgcjeaplckbbaaGreat

/- What is left to do of a write: the program's tidying. -/
namespace Go.Proofs.YtjgcjeaplckbbaaGreat
open Go.RowKit
set_option linter.unusedVariables false
set_option linter.unusedSimpArgs false

theorem mapO_place {bs : List Bk} (hok : ChipOk bs) : ∀ x ∈ mapO bs, x = -1 ∨ (0 ≤ x ∧ x < 48) := by
  intro x hx
  unfold mapO placesOf at hx
  simp only [List.mem_map, List.mem_range] at hx
  obtain ⟨i, hi, rfl⟩ := hx
  cases e : newestAt (usedOf bs) (i : Int) with
  | none => left; rfl
  | some y =>
    right
    obtain ⟨hm, _⟩ := newestAt_mem e
    obtain ⟨b, k, y', hy', _, h4, ez, _⟩ := (usedOf_iff hok).1 hm
    have hlt := (List.getElem?_eq_some_iff.1 hy').1
    have h12 := hok.count.2
    simp only [placeIn]
    rw [ez]
    omega

def TidyRet (bs : List Bk) (B : Nat) (e : Ending) (w' : World) : Prop := ∃ v o xs r, e = .returned (.tuple #[.int .i64 o, v, .bool r]) ∧ TidyIs bs o xs r ∧ OwnsCo w' B v xs

set_option maxRecDepth 100000 in
set_option maxHeartbeats 4000000 in
theorem tidying_any (m : CC) (bs : List Bk) (n : Nat) (hC : CellsIs (ccA m) m bs n) (hct : m.count = n) (hok : ChipOk bs) (w : World) :
    Calls Tryz.prog 30 #[.agg (ccA m)] w fun e w' => TidyRet bs (w.heap.size + 1) e w' ∧ Below w.heap.size w w' := by
  have hn := hC.most
  have hlen := hC.len
  have hc := hok.count
  have hn4 : 4 ≤ n := by omega
  have htp := hok.top
  have HNP := hide (fun W => newestPlaces_any m n hct hn4 hn bs hlen hC.blocks hok W)
  have HOB := hide (fun W => openBlock_any m bs n hC hct hok W)
  have HTOP0 := hide (fun W => top_any m n hct hn W)
  have HU : Hid (usedAll m n = usedOf bs) := by
    have := usedOf_cc (m := m) (bs := bs) (by rw [hlen]; exact hC.blocks)
    rw [hlen] at this
    exact this
  have HWO := hide (fun W => implWorn_any (ccA m) m bs n hC W)
  have HFB := hide (fun W => freeBut_any (ccA m) m bs n hC (openOf bs) W)
  have HAP := hide (fun b i hb hi => ccA_pages m (b := b) (i := i) hb hi)
  have hob := openOf_bounds hok
  obtain ⟨T, hT⟩ : ∃ T, T = topOf (usedOf bs) := ⟨_, rfl⟩
  have HTS : Hid (topSeq bs = T.1) := by rw [hT]; rfl
  have HTOP : Hid (∀ W, Calls Tryz.prog 32 #[.agg (ccA m)] W fun e w' => e = .returned (.agg #[.int .i64 T.1, .int .i64 T.2]) ∧ Below W.heap.size W w') := fun W => by
    have := unhide HTOP0 W
    rw [unhide HU, ← hT] at this
    exact this
  have hT0 : 0 ≤ T.1 := by have := unhide HTS; omega
  have hT9 : T.1 ≤ 1000000000 := by have := unhide HTS; omega
  obtain ⟨f, hf⟩ := Int.eq_ofNat_of_zero_le hob.1
  have HF := hide hf
  have hfn : f < n := by omega
  obtain ⟨x, hx⟩ := getElem?_ex (l := bs) (k := f) (by omega)
  have HPU := hide (hC.pu hx)
  have HRM : Hid (roomAt bs (openOf bs) = roomB x) := roomAt_of (by rw [hf]; simpa using hx)
  have HPL := hide (mapO_place hok)
  have HML : Hid ((mapO bs).length ≤ 36) := by
    show (mapO bs).length ≤ 36
    unfold mapO
    rw [placesOf_length]
    unfold roomOf
    omega
  have HOK := hide hok
  have HC := hide hC
  have HAS := hide hC.size
  rw [hf] at HFB
  obtain ⟨cs, hcs⟩ : ∃ cs : List Value, ccA m = cs.toArray := ⟨(ccA m).toList, by simp⟩
  rw [hcs] at HNP HOB HTOP HWO HFB HC HAS HAP ⊢
  have HSZ : Hid ((Tryz.prog.info? 57).map (·.size) = some cs.toArray.size) := by rw [unhide HAS]; exact sizeCC'
  have hfld := run_field_np
  obtain ⟨w0, hw0⟩ : ∃ w0, w0 = w.alloc (.cells cs.toArray 57) := ⟨_, rfl⟩
  have hB0 : Below w.heap.size w w0 := by rw [hw0]; exact (Below.refl _ w).alloc (Nat.le_refl _) _
  have hs0 : w0.heap.size = w.heap.size + 1 := by rw [hw0]; simp
  have HR0 : Hid (w0.heap[w.heap.size]? = some (.cells cs.toArray 57 (0, 0))) := by rw [hw0]; exact Go.Deep.blk_alloc_new _ _
  have HNO : Hid (∀ W, Below w.heap.size w W → ¬ TidyOk bs → TidyRet bs (w.heap.size + 1) (.returned (.tuple #[.int .i64 0, .slice none 0 0, .bool false])) W ∧ Below w.heap.size w W) := fun W hW hno =>
    ⟨⟨_, _, [], false, rfl, .inr ⟨rfl, hno, rfl, rfl⟩, World.ownsRow_nil _ _ _ _⟩, hW⟩
  have hoi : (openOf bs) < 12 := by omega
  clear hC hok hct htp hob hf hx hcs hT hc HTOP0 HU
  go_enter Tryz.func30, Tryz.ntmps30
  go_upto_region 1 with fail
  rw [← hw0]
  clear hw0
  go_wp2_with (refine wpList_load_row rfl 57 _ rfl w.heap.size rfl 57 cs.toArray (0, 0) _ (unhide HR0) Tryz.underlying57 rfl (unhide HSZ) ?_)
  refine (unhide HNP _).mono ?_
  rintro e w1 ⟨⟨v, r, L, rfl, hMI, hv⟩, hB1⟩
  have hs1 := hB1.size
  have HR1 := hide ((hB1.block w.heap.size (by omega)).trans (unhide HR0))
  have hW1 := hB0.trans (hB1.mono hB0.size)
  obtain ⟨va, vc, rfl, hIv, _⟩ := hv.form
  have HMI := hide hMI
  have HI1 := hide hIv
  obtain ⟨mn, hmn⟩ : ∃ mn, mn = L.length := ⟨_, rfl⟩
  rw [← hmn]
  have HMN := hide hmn.symm
  clear hv hMI hB1 HNP HR0 hIv hmn
  cases r with
  | false =>
    go_wp2
    exact bodyPost_ret (v := .tuple #[.int .i64 0, .slice none 0 0, .bool false]) (by simp [results, Tryz.results30, go_sem]) rfl (unhide HNO _ hW1 (fun h => by have := (unhide HMI).1.2 h.1; cases this))
  | true =>
    have hfit : Fits bs := (unhide HMI).1.1 rfl
    obtain rfl : L = mapO bs := by have := (unhide HMI).2; rw [if_pos rfl] at this; exact this
    have HFT := hide hfit
    have hm36 : mn ≤ 36 := by have := unhide HML; have := unhide HMN; omega
    clear hfit HMI
    go_wp2_with (refine wpList_load_row rfl 57 _ rfl w.heap.size rfl 57 cs.toArray (0, 0) _ (unhide HR1) Tryz.underlying57 rfl (unhide HSZ) ?_)
    refine (unhide HOB _).mono ?_
    rintro e w2 ⟨rfl, hB2⟩
    have hs2 := hB2.size
    have HR2 := hide ((hB2.block w.heap.size (by omega)).trans (unhide HR1))
    have HI2 := hide ((unhide HI1).below hB2 (Nat.le_refl _))
    have hW2 := hW1.trans (hB2.mono hW1.size)
    rw [unhide HF] at hoi ⊢
    clear hB2 HOB HR1 HI1
    by_cases hh : halves bs ≤ 1
    case neg =>
      rw [show decide (halves bs ≤ 1) = false by simpa using hh]
      go_wp2
      exact bodyPost_ret (v := .tuple #[.int .i64 0, .slice none 0 0, .bool false]) (by simp [results, Tryz.results30, go_sem]) rfl (unhide HNO _ hW2 (fun h => hh h.2.1))
    case pos =>
      rw [show decide (halves bs ≤ 1) = true by simpa using hh]
      have HH := hide hh
      have HLD2 : Hid (∀ j, j < 205 → w2.cell? ⟨w.heap.size, 0 + j, none⟩ = cs.toArray[j]?) := fun j hj => by rw [Nat.zero_add]; exact cell_of_row _ _ j _ _ _ (unhide HR2)
      clear hh
      go_wp2_with (refine wpList_load_mid_g rfl 57 _ rfl w.heap.size 0 rfl cs.toArray 205 (unhide HAS) (unhide HLD2) _ Tryz.underlying57 rfl sizeCC' ?_)
      refine (unhide HTOP _).mono ?_
      rintro e w3 ⟨rfl, hB3⟩
      have hs3 := hB3.size
      have HR3 := hide ((hB3.block w.heap.size (by omega)).trans (unhide HR2))
      have HI3 := hide ((unhide HI2).below hB3 (Nat.le_refl _))
      have hW3 := hW2.trans (hB3.mono hW2.size)
      clear hB3 HR2 HI2 HLD2
      by_cases hgt : 999999989 < T.1
      · have hd : decide ((999999989 : Int) < T.1) = true := by simpa using hgt
        go_wp2
        exact bodyPost_ret (v := .tuple #[.int .i64 0, .slice none 0 0, .bool false]) (by simp [results, Tryz.results30, go_sem]) rfl (unhide HNO _ hW3 (fun h => by have := h.2.2.1; have := unhide HTS; omega))
      have hd : decide ((999999989 : Int) < T.1) = false := by simpa using hgt
      have hle : T.1 ≤ 999999989 := by omega
      have HLD3 : Hid (∀ j, j < 205 → w3.cell? ⟨w.heap.size, 0 + j, none⟩ = cs.toArray[j]?) := fun j hj => by rw [Nat.zero_add]; exact cell_of_row _ _ j _ _ _ (unhide HR3)
      clear hgt
      go_wp2_with (refine wpList_load_mid_g rfl 57 _ rfl w.heap.size 0 rfl cs.toArray 205 (unhide HAS) (unhide HLD3) _ Tryz.underlying57 rfl sizeCC' ?_)
      refine (unhide HWO _).mono ?_
      rintro e w4 ⟨⟨rw4, rfl, hrw⟩, hB4⟩
      have hs4 := hB4.size
      have HR4 := hide ((hB4.block w.heap.size (by omega)).trans (unhide HR3))
      have HI4 := hide ((unhide HI3).below hB4 (Nat.le_refl _))
      have hW4 := hW3.trans (hB4.mono hW3.size)
      have HRW := hide hrw
      clear hB4 HR3 HI3 HLD3 hrw hd
      cases rw4 with
      | true =>
        go_wp2
        exact bodyPost_ret (v := .tuple #[.int .i64 0, .slice none 0 0, .bool false]) (by simp [results, Tryz.results30, go_sem]) rfl (unhide HNO _ hW4 (fun h => h.2.2.2.1 ((unhide HRW).1 (by trivial))))
      | false =>
        have HNW : Hid (¬ worn bs) := fun h => by have := (unhide HRW).2 h; cases this
        clear HRW
        go_wp2_with (refine wpList_load_row rfl 57 _ rfl w.heap.size rfl 57 cs.toArray (0, 0) _ (unhide HR4) Tryz.underlying57 rfl (unhide HSZ) ?_)
        refine (unhide HFB _).mono ?_
        rintro e w5 ⟨rfl, hB5⟩
        have hs5 := hB5.size
        have HR5 := hide ((hB5.block w.heap.size (by omega)).trans (unhide HR4))
        have HI5 := hide ((unhide HI4).below hB5 (Nat.le_refl _))
        have hW5 := hW4.trans (hB5.mono hW4.size)
        clear hB5 HR4 HI4
        by_cases hfr : 0 ≤ freshOf bs (f : Int)
        · rw [show decide (0 ≤ freshOf bs (f : Int)) = true by simpa using hfr]
          have HFR := hide hfr
          clear hfr
          go_wp2
          refine bodyPost_ret (v := .tuple #[.int .i64 (f : Int), .slice none 0 0, .bool true]) (by simp [results, Tryz.results30, go_sem]) rfl ⟨⟨_, _, [], true, rfl, .inl ⟨rfl, ⟨unhide HFT, unhide HH, by have := unhide HTS; omega, unhide HNW, .inl (by rw [unhide HF]; exact unhide HFR)⟩, (unhide HF).symm, ?_⟩, World.ownsRow_nil _ _ _ _⟩, hW5⟩
          unfold tidyOps
          rw [unhide HF, if_neg (by have := unhide HFR; omega)]
        · rw [show decide (0 ≤ freshOf bs (f : Int)) = false by simpa using hfr]
          have HFR : Hid (freshOf bs (f : Int) < 0) := by show _ < _; omega
          clear hfr
          have hmix : Tryz.prog.follows .mixedOrders = true := by kernel_rfl
          have hi97 : (Tryz.prog.info? 57).map (·.size) = some cs.length := by simpa using unhide HSZ
          obtain ⟨bcs, hbcs⟩ : ∃ bcs : List Value, bcA (m.wear f) (m.page f) = bcs.toArray := ⟨(bcA (m.wear f) (m.page f)).toList, by simp⟩
          have hbl : bcs.length = 17 := by have := bcA_size (m.wear f) (m.page f); rw [hbcs] at this; simpa using this
          have hi54 : (Tryz.prog.info? 54).map (·.size) = some bcs.length := by rw [hbl]; exact sizeBC
          have HRO := hide (fun W => room_any (m.wear f) (m.page f) x (unhide HPU) W)
          rw [hbcs] at HRO
          have HSW : Hid (∀ W, Below w5.heap.size w5 W → W.rangeAt w.heap.size 0 cs ∧ W.rangeAt w.heap.size (1 + f * 17) bcs) := by
            intro W hW
            have hr := (hW.block w.heap.size (by omega)).trans (unhide HR5)
            refine ⟨fun j v hv => ?_, fun j v hv => ?_⟩
            · rw [Nat.zero_add, cell_of_row _ _ j _ _ _ hr]
              simpa using hv
            · have hj : j < 17 := by rw [← hbl]; exact (List.getElem?_eq_some_iff.1 hv).1
              rw [cell_of_row _ _ _ _ _ _ hr, (unhide HC).cells f j (by omega) hj, hbcs]
              simpa using hv
          have HBD : Hid (Below w5.heap.size w5 w5.drew) := (Below.refl _ _).drew
          obtain ⟨vic, hvic⟩ : ∃ vic, vic = vicO bs := ⟨_, rfl⟩
          have HVB : Hid (∀ W, Below w5.heap.size w5 W → Calls Tryz.prog 49 #[.agg cs.toArray, .slice va mn vc, .int .i64 (f : Int)] W fun e w' => e = .returned (.int .i64 vic) ∧ Below W.heap.size W w') := fun W hW => by
            have := victimBut_any cs.toArray m bs n hlen (unhide HC).blocks (unhide HC).count (unhide HC).cells hn va vc (mapO bs) mn (unhide HMN) hm36 (unhide HPL) (f : Int) W ((unhide HI5).below hW (Nat.le_refl _))
            rw [hvic]
            unfold vicO
            rw [unhide HF]
            exact this
          have HVIC := hide hvic
          have hvb : vic < (n : Int) := by rw [hvic, ← hlen]; exact (vicTo_bounds bs _ _ bs.length).2
          have hf12 : (f : Int) < 12 := by omega
          clear hbcs hvic
          go_upto_region 9 with fail
          refine wp_region_held_drew (S := fun W => W.rangeAt w.heap.size 0 cs ∧ W.rangeAt w.heap.size (1 + f * 17) bcs) hmix (unhide HSW _ (unhide HBD)) (fun hHeld => ?_)
          refine wpAnyH_take (i := 0) (v := .agg cs.toArray) rfl (by kernel_rfl) (by kernel_rfl) (by kernel_rfl) (fun _ _ _ h => h) (yieldsIf_load_mid (by rfl) _ _ rfl _ _ rfl cs _ (fun W hS => hS.1) Tryz.underlying57 rfl hi97) hHeld ?_
          simp only [Act.put, List.setIfInBounds_toArray, List.set_cons_zero, List.set_cons_succ]
          refine wpAnyH_take (i := 1) (v := .slice va mn vc) rfl (by kernel_rfl) (by kernel_rfl) (by kernel_rfl) (fun _ _ _ h => h) (Or.inl ⟨by rfl, ?_⟩) hHeld ?_
          · (intro W hSW; clear hSW; go_simp)
          simp only [Act.put, List.setIfInBounds_toArray, List.set_cons_zero, List.set_cons_succ]
          refine wpAnyH_take (i := 2) (v := .int .i64 (f : Int)) rfl (by kernel_rfl) (by kernel_rfl) (by kernel_rfl) (fun _ _ _ h => h) (Or.inl ⟨by rfl, ?_⟩) hHeld ?_
          · (intro W hSW; clear hSW; go_simp)
          simp only [Act.put, List.setIfInBounds_toArray, List.set_cons_zero, List.set_cons_succ]
          refine wpAnyH_take (i := 4) (v := .int .i64 (f : Int)) rfl (by kernel_rfl) (by kernel_rfl) (by kernel_rfl) (fun _ _ _ h => h) (Or.inl ⟨by rfl, ?_⟩) hHeld ?_
          · (intro W hSW; clear hSW; go_simp)
          simp only [Act.put, List.setIfInBounds_toArray, List.set_cons_zero, List.set_cons_succ]
          refine wpAnyH_take (i := 5) (v := .pointer (some ⟨w.heap.size, 1, none⟩)) rfl (by kernel_rfl) (by kernel_rfl) (by kernel_rfl) (fun _ _ _ h => h) (Or.inl ⟨by rfl, ?_⟩) hHeld ?_
          · (intro W hSW; clear hSW; go_simp)
          simp only [Act.put, List.setIfInBounds_toArray, List.set_cons_zero, List.set_cons_succ]
          refine wpAnyH_take (i := 6) (v := .pointer (some ⟨w.heap.size, 1 + f * 17, none⟩)) rfl (by kernel_rfl) (by kernel_rfl) (by kernel_rfl) (fun _ _ _ h => h) (Or.inl ⟨by rfl, ?_⟩) hHeld ?_
          · (intro W hSW; clear hSW; go_simp)
          simp only [Act.put, List.setIfInBounds_toArray, List.set_cons_zero, List.set_cons_succ]
          refine wpAnyH_take (i := 7) (v := .agg bcs.toArray) rfl (by kernel_rfl) (by kernel_rfl) (by kernel_rfl) (fun _ _ _ h => h) (yieldsIf_load_mid (by rfl) _ _ rfl _ _ rfl bcs _ (fun W hS => hS.2) Tryz.underlying54 rfl hi54) hHeld ?_
          simp only [Act.put, List.setIfInBounds_toArray, List.set_cons_zero, List.set_cons_succ]
          refine wpAnyH_ready (rs := [3]) (by kernel_rfl) (by simp) ?_
          refine AllReadyH.cons rfl (fun K hK => ?_) AllReadyH.nil
          go_simp
          refine (unhide HVB w5.drew (unhide HBD)).mono ?_
          rintro e w6 ⟨rfl, hB6⟩
          have hs6 := hB6.size
          have HB6 := hide ((unhide HBD).trans hB6)
          clear hB6
          refine hK.out _ _ ?_ (fun hHeld2 => ?_)
          · exact unhide HSW _ (unhide HB6)
          clear hK K hHeld
          have hHeld := hHeld2
          clear hHeld2
          try simp only [Act.put, List.setIfInBounds_toArray, List.set_cons_zero, List.set_cons_succ]
          refine wpAnyH_ready (rs := [8]) (by kernel_rfl) (by simp) ?_
          refine AllReadyH.cons rfl (fun K hK => ?_) AllReadyH.nil
          go_simp
          refine (unhide HRO w6).mono ?_
          rintro e w7 ⟨rfl, hB7⟩
          have HB7 := hide ((unhide HB6).trans (hB7.mono (unhide HB6).size))
          clear hB7
          refine hK.out _ _ ?_ (fun hHeld2 => ?_)
          · exact unhide HSW _ (unhide HB7)
          clear hK K hHeld
          have hHeld := hHeld2
          clear hHeld2
          try simp only [Act.put, List.setIfInBounds_toArray, List.set_cons_zero, List.set_cons_succ]
          refine wpAnyH_take (i := 9) (v := .int .i64 vic) rfl (by kernel_rfl) (by kernel_rfl) (by kernel_rfl) (fun _ _ _ h => h) (Or.inl ⟨by rfl, ?_⟩) hHeld ?_
          · (intro W hSW; clear hSW; go_simp)
          simp only [Act.put, List.setIfInBounds_toArray, List.set_cons_zero, List.set_cons_succ]
          refine wpAnyH_take (i := 10) (v := .int .i64 (roomB x)) rfl (by kernel_rfl) (by kernel_rfl) (by kernel_rfl) (fun _ _ _ h => h) (Or.inl ⟨by rfl, ?_⟩) hHeld ?_
          · (intro W hSW; clear hSW; go_simp)
          simp only [Act.put, List.setIfInBounds_toArray, List.set_cons_zero, List.set_cons_succ]
          refine wpAnyH_done (by kernel_rfl) ?_ _
          have hs7 := (unhide HB7).size
          have hW7 := hW5.trans ((unhide HB7).mono hW5.size)
          have HR7 := hide (((unhide HB7).block w.heap.size (by omega)).trans (unhide HR5))
          have HI7 := hide ((unhide HI5).below (unhide HB7) (Nat.le_refl _))
          have HRM2 : Hid (roomAt bs (openOf bs) = roomB x) := unhide HRM
          have hrb : 0 ≤ roomB x ∧ roomB x ≤ 4 := by
            unfold roomB
            split
            · omega
            · split
              · omega
              · split
                · omega
                · split <;> omega
          obtain ⟨rm, hrm⟩ : ∃ rm, rm = roomB x := ⟨_, rfl⟩
          rw [← hrm] at HRM2 hrb ⊢
          have HFX : Hid (freshOf bs (openOf bs) < 0) := by show _ < _; rw [unhide HF]; exact unhide HFR
          clear hHeld HVB HRO HSW HB6 HBD hrm HR5 HI5 HB7 hs6
          by_cases hv0 : vic < 0
          · have hd : decide (vic < 0) = true := by simpa using hv0
            go_wp2
            exact bodyPost_ret (v := .tuple #[.int .i64 0, .slice none 0 0, .bool false]) (by simp [results, Tryz.results30, go_sem]) rfl (unhide HNO _ hW7 (fun h => by
              have h1 := (h.2.2.2.2.resolve_left (fun h => by have := unhide HFX; omega)).1
              rw [← unhide HVIC] at h1
              omega))
          have hd : decide (vic < 0) = false := by simpa using hv0
          by_cases hr0 : rm = 0
          · have he : (rm == 0) = true := by simpa using hr0
            go_wp2
            exact bodyPost_ret (v := .tuple #[.int .i64 0, .slice none 0 0, .bool false]) (by simp [results, Tryz.results30, go_sem]) rfl (unhide HNO _ hW7 (fun h => by
              have h1 := (h.2.2.2.2.resolve_left (fun h => by have := unhide HFX; omega)).2.1
              rw [unhide HRM2] at h1
              exact h1 hr0))
          have he : (rm == 0) = false := by simpa using hr0
          obtain ⟨v, rfl⟩ := Int.eq_ofNat_of_zero_le (show 0 ≤ vic by omega)
          have hvn : v < n := by omega
          have hv12 : v < 12 := by omega
          have hvi : (v : Int) < 12 := by omega
          go_wp2_with fail
          refine (validCounts_any va vc (mapO bs) mn (unhide HMN) hm36 (unhide HPL) _ (unhide HI7)).mono ?_
          rintro e w8 ⟨C, rfl, hCn, hB8⟩
          have hs8 := hB8.size
          have hW8 := hW7.trans (hB8.mono hW7.size)
          have HR8 := hide ((hB8.block w.heap.size (by omega)).trans (unhide HR7))
          have HI8 := hide ((unhide HI7).below hB8 (Nat.le_refl _))
          have hC1 := hCn.1
          have hC2 := hCn.2 v hv12
          have hix := fun W => run_index_one (P := Tryz.prog) W 119 2 12 C hC1 v hv12 _ hC2 Tryz.underlying119 Tryz.underlying2 (by kernel_rfl)
          obtain ⟨vl, hvl⟩ : ∃ vl, vl = validIn (mapO bs) (v : Int) := ⟨_, rfl⟩
          rw [← hvl] at hix
          have HVL := hide hvl
          clear hCn hB8 hC1 hC2 hvl HR7 HI7
          by_cases hgt : rm < (vl : Int)
          · have hdg : decide (rm < (vl : Int)) = true := by simpa using hgt
            go_wp2
            exact bodyPost_ret (v := .tuple #[.int .i64 0, .slice none 0 0, .bool false]) (by simp [results, Tryz.results30, go_sem]) rfl (unhide HNO _ hW8 (fun h => by
              have h1 := (h.2.2.2.2.resolve_left (fun h => by have := unhide HFX; omega)).2.2
              rw [unhide HRM2, ← unhide HVIC, ← unhide HVL] at h1
              omega))
          have hdg : decide (rm < (vl : Int)) = false := by simpa using hgt
          have HTY : Hid (TidyOk bs) := ⟨unhide HFT, unhide HH, by have := unhide HTS; omega, unhide HNW, .inr ⟨by rw [← unhide HVIC]; omega, by rw [unhide HRM2]; exact hr0, by rw [unhide HRM2, ← unhide HVIC, ← unhide HVL]; omega⟩⟩
          have HEM : Hid (∀ W, Below w8.heap.size w8 W → Calls Tryz.prog 50 #[.agg cs.toArray, .slice va mn vc, .int .i64 (v : Int), .int .i64 (f : Int), .int .i64 (T.1 + 1)] W fun e w' => ∃ r, e = .returned r ∧ OwnsCo w' (W.heap.size + 1) r (moveOps bs (mapO bs) (v : Int) (f : Int) (T.1 + 1)) ∧ Below W.heap.size W w') := fun W hW =>
            emptying_anyG cs.toArray m bs n (unhide HC) (unhide HAP) va vc (mapO bs) mn (unhide HMN) (T.1 + 1) ⟨unhide HOK, unhide HFT, rfl, by rw [unhide HTS]; exact Int.le_refl _⟩ (by omega) v hvn (f : Int) W ((unhide HI8).below hW (Nat.le_refl _))
          have HSW : Hid (∀ W, Below w8.heap.size w8 W → W.rangeAt w.heap.size 0 cs) := by
            intro W hW j v hv
            have hr := (hW.block w.heap.size (by omega)).trans (unhide HR8)
            rw [Nat.zero_add, cell_of_row _ _ j _ _ _ hr]
            simpa using hv
          have HBD : Hid (Below w8.heap.size w8 w8.drew) := (Below.refl _ _).drew
          have HWR : Hid (IntKind.i64.wrap (T.1 + 1) = T.1 + 1) := by
            unfold Hid
            simp [IntKind.wrap, IntKind.bits, IntKind.signed]
            omega
          go_upto_region 12 with fail
          clear hd he hdg hix
          refine wp_region_held_drew (S := fun W => W.rangeAt w.heap.size 0 cs) hmix (unhide HSW _ (unhide HBD)) (fun hHeld => ?_)
          refine wpAnyH_take (i := 0) (v := .int .i64 (f : Int)) rfl (by kernel_rfl) (by kernel_rfl) (by kernel_rfl) (fun _ _ _ h => h) (Or.inl ⟨by rfl, ?_⟩) hHeld ?_
          · (intro W hSW; clear hSW; go_simp)
          simp only [Act.put, List.setIfInBounds_toArray, List.set_cons_zero, List.set_cons_succ]
          refine wpAnyH_take (i := 1) (v := .agg cs.toArray) rfl (by kernel_rfl) (by kernel_rfl) (by kernel_rfl) (fun _ _ _ h => h) (yieldsIf_load_mid (by rfl) _ _ rfl _ _ rfl cs _ (fun W hS => hS) Tryz.underlying57 rfl hi97) hHeld ?_
          simp only [Act.put, List.setIfInBounds_toArray, List.set_cons_zero, List.set_cons_succ]
          refine wpAnyH_take (i := 2) (v := .slice va mn vc) rfl (by kernel_rfl) (by kernel_rfl) (by kernel_rfl) (fun _ _ _ h => h) (Or.inl ⟨by rfl, ?_⟩) hHeld ?_
          · (intro W hSW; clear hSW; go_simp)
          simp only [Act.put, List.setIfInBounds_toArray, List.set_cons_zero, List.set_cons_succ]
          refine wpAnyH_take (i := 3) (v := .int .i64 (v : Int)) rfl (by kernel_rfl) (by kernel_rfl) (by kernel_rfl) (fun _ _ _ h => h) (Or.inl ⟨by rfl, ?_⟩) hHeld ?_
          · (intro W hSW; clear hSW; go_simp)
          simp only [Act.put, List.setIfInBounds_toArray, List.set_cons_zero, List.set_cons_succ]
          refine wpAnyH_take (i := 4) (v := .int .i64 (f : Int)) rfl (by kernel_rfl) (by kernel_rfl) (by kernel_rfl) (fun _ _ _ h => h) (Or.inl ⟨by rfl, ?_⟩) hHeld ?_
          · (intro W hSW; clear hSW; go_simp)
          simp only [Act.put, List.setIfInBounds_toArray, List.set_cons_zero, List.set_cons_succ]
          refine wpAnyH_take (i := 5) (v := .agg cs.toArray) rfl (by kernel_rfl) (by kernel_rfl) (by kernel_rfl) (fun _ _ _ h => h) (yieldsIf_load_mid (by rfl) _ _ rfl _ _ rfl cs _ (fun W hS => hS) Tryz.underlying57 rfl hi97) hHeld ?_
          simp only [Act.put, List.setIfInBounds_toArray, List.set_cons_zero, List.set_cons_succ]
          refine wpAnyH_ready (rs := [6]) (by kernel_rfl) (by simp) ?_
          refine AllReadyH.cons rfl (fun K hK => ?_) AllReadyH.nil
          go_simp
          refine (unhide HTOP w8.drew).mono ?_
          rintro e w9 ⟨rfl, hB9⟩
          have HB9 := hide ((unhide HBD).trans hB9)
          clear hB9
          refine hK.out _ _ ?_ (fun hHeld2 => ?_)
          · exact unhide HSW _ (unhide HB9)
          clear hK K hHeld
          have hHeld := hHeld2
          clear hHeld2
          try simp only [Act.put, List.setIfInBounds_toArray, List.set_cons_zero, List.set_cons_succ]
          refine wpAnyH_take (i := 7) (v := .int .i64 T.1) rfl (by kernel_rfl) (by kernel_rfl) (by kernel_rfl) (fun _ _ _ h => h) (Or.inl ⟨by rfl, ?_⟩) hHeld ?_
          · (intro W hSW; clear hSW; go_simp)
          simp only [Act.put, List.setIfInBounds_toArray, List.set_cons_zero, List.set_cons_succ]
          refine wpAnyH_take (i := 8) (v := .int .i64 (T.1 + 1)) rfl (by kernel_rfl) (by kernel_rfl) (by kernel_rfl) (fun _ _ _ h => h) (Or.inl ⟨by rfl, ?_⟩) hHeld ?_
          · (intro W hSW; clear hSW; go_simp; exact unhide HWR)
          simp only [Act.put, List.setIfInBounds_toArray, List.set_cons_zero, List.set_cons_succ]
          refine wpAnyH_ready (rs := [9]) (by kernel_rfl) (by simp) ?_
          refine AllReadyH.cons rfl (fun K hK => ?_) AllReadyH.nil
          go_simp
          refine (unhide HEM w9 (unhide HB9)).mono ?_
          rintro e wA ⟨rv, rfl, hrv, hBA⟩
          have HBA := hide ((unhide HB9).trans (hBA.mono (unhide HB9).size))
          have HRV : Hid (OwnsCo wA (w.heap.size + 1) rv (moveOps bs (mapO bs) (v : Int) (f : Int) (T.1 + 1))) := hrv.lower (by have := (unhide HB9).size; omega)
          clear hBA hrv
          refine hK.out _ _ ?_ (fun hHeld2 => ?_)
          · exact unhide HSW _ (unhide HBA)
          clear hK K hHeld
          have hHeld := hHeld2
          clear hHeld2
          try simp only [Act.put, List.setIfInBounds_toArray, List.set_cons_zero, List.set_cons_succ]
          refine wpAnyH_take (i := 10) (v := .int .i64 (f : Int)) rfl (by kernel_rfl) (by kernel_rfl) (by kernel_rfl) (fun _ _ _ h => h) (Or.inl ⟨by rfl, ?_⟩) hHeld ?_
          · (intro W hSW; clear hSW; go_simp)
          simp only [Act.put, List.setIfInBounds_toArray, List.set_cons_zero, List.set_cons_succ]
          refine wpAnyH_ready (rs := [11]) (by kernel_rfl) (by simp) ?_
          refine AllReadyH.cons rfl (fun K hK => ?_) AllReadyH.nil
          go_simp
          refine hK.out _ _ ?_ (fun hHeld2 => ?_)
          · exact unhide HSW _ (unhide HBA)
          clear hK K hHeld
          have hHeld := hHeld2
          clear hHeld2
          try simp only [Act.put, List.setIfInBounds_toArray, List.set_cons_zero, List.set_cons_succ]
          refine wpAnyH_ready (rs := [12]) (by kernel_rfl) (by simp) ?_
          refine AllReadyH.cons rfl (fun K hK => ?_) AllReadyH.nil
          go_simp
          refine hK.out _ _ ?_ (fun hHeld2 => ?_)
          · exact unhide HSW _ (unhide HBA)
          clear hK K hHeld
          have hHeld := hHeld2
          clear hHeld2
          try simp only [Act.put, List.setIfInBounds_toArray, List.set_cons_zero, List.set_cons_succ]
          refine wpAnyH_done (by kernel_rfl) ?_ _
          have hWA := hW8.trans ((unhide HBA).mono hW8.size)
          clear hHeld
          go_wp2
          refine bodyPost_ret (v := .tuple #[.int .i64 (f : Int), rv, .bool true]) (by simp [results, Tryz.results30, go_sem]) rfl ⟨⟨rv, _, _, true, rfl, .inl ⟨rfl, unhide HTY, (unhide HF).symm, rfl⟩, ?_⟩, hWA⟩
          have e : tidyOps bs = moveOps bs (mapO bs) (v : Int) (f : Int) (T.1 + 1) := by
            unfold tidyOps
            rw [if_pos (by have := unhide HFX; omega), ← unhide HVIC, unhide HF, unhide HTS]
          rw [e]
          exact unhide HRV
end Go.Proofs.YtjgcjeaplckbbaaGreat
