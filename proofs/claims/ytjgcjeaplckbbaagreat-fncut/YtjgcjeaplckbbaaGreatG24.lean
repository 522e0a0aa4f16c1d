/- 4 texts in one. -/
import Derived.Test.YtjgcjeaplckbbaaGreatG21
import Derived.Test.YtjgcjeaplckbbaaGreatG23
import Derived.Test.YtjgcjeaplckbbaaGreatG03
import Derived.BigQuiet
import Derived.Test.YtjgcjeaplckbbaaGreatG15
import Derived.Deep.RegionHeld3

/- How many pages of each block are the newest of their log: the program's validCounts and ValidOf. -/
namespace Go.Proofs.YtjgcjeaplckbbaaGreat
open Go.RowKit Go.Shelf
set_option linter.unusedVariables false
set_option linter.unusedSimpArgs false
attribute [local go_sem] Oper.semAt_some

/-- The row A of twelve numbers tells, of each block, how many places of L lie in it. -/
def IsCnt (A : Array Value) (L : List Int) : Prop := A.size = 12 ∧ ∀ i : Nat, i < 12 → A[i]? = some (.int .i64 (validIn L (i : Int)))
theorem IsCnt.nil : IsCnt #[.int .i64 0, .int .i64 0, .int .i64 0, .int .i64 0, .int .i64 0, .int .i64 0, .int .i64 0, .int .i64 0, .int .i64 0, .int .i64 0, .int .i64 0, .int .i64 0] [] := by
  refine ⟨rfl, fun i hi => ?_⟩
  rw [validIn_nil]
  match i, hi with
  | 0, _ | 1, _ | 2, _ | 3, _ | 4, _ | 5, _ | 6, _ | 7, _ | 8, _ | 9, _ | 10, _ | 11, _ => rfl
  | i + 12, h => omega
theorem IsCnt.one {A : Array Value} {L : List Int} (h : IsCnt A L) : ∀ v ∈ A.toList, v.oneCell' = true := by
  intro v hv
  have hv' : v ∈ A := by simpa using hv
  obtain ⟨i, hi, rfl⟩ := Array.mem_iff_getElem.1 hv'
  have e := h.2 i (by rw [← h.1]; exact hi)
  rw [Array.getElem?_eq_getElem hi] at e
  rw [Option.some.inj e]
  rfl
theorem IsCnt.named {A : Array Value} {L : List Int} (h : IsCnt A (namedOf L)) : IsCnt A L := ⟨h.1, fun i hi => by rw [h.2 i hi, validIn_named]⟩
theorem IsCnt.snoc {A : Array Value} {L : List Int} (h : IsCnt A L) (x : Int) (q : Nat) (hq : x / 4 = (q : Int)) (h0 : 0 ≤ x) (h12 : q < 12) : IsCnt (A.setIfInBounds q (.int .i64 ((validIn L (q : Int) : Int) + 1))) (L ++ [x]) := by
  refine ⟨by simp [h.1], fun i hi => ?_⟩
  rw [validIn_snoc, Array.getElem?_setIfInBounds]
  by_cases e : q = i
  · subst e
    have hh : hit (q : Int) x = true := by simp [hit, h0, hq]
    simp [hh, h.1, h12]
  · have hh : hit (i : Int) x = false := by
      have : ¬ (x / 4 = (i : Int)) := by rw [hq]; omega
      simp [hit, this]
    rw [if_neg e, h.2 i hi, hh]
    simp
theorem sizeCnt : (Tryz.prog.info? 119).map (·.size) = some 12 := by kernel_rfl

def CntI (w : World) (pre : List Int) (W : World) : Prop :=
  ∃ Z A : Array Value, Z.size = 12 ∧ IsCnt A pre ∧ W.heap[w.heap.size]? = some (.cells Z 119 (0, 0)) ∧ W.heap[w.heap.size + 1]? = some (.cells A 119 (0, 0)) ∧ w.heap.size + 1 + 1 < W.heap.size
theorem CntI.own (w : World) (p : List Int) {W W' : World} {row : Option Nat} (h : CntI w p W) (hg : W.grownBy W' row) (hr : ∀ r, row = some r → ∃ o : Obj, W.heap[r]? = some o ∧ o.isCells = false) : CntI w p W' := by
  obtain ⟨Z, A, hz, ha, h1, h2, h4⟩ := h
  exact ⟨Z, A, hz, ha, blk_kept h1 hg hr, blk_kept h2 hg hr, Nat.lt_of_lt_of_le h4 hg.size⟩

/-- One of the elements of an array, each of one cell. -/
theorem run_index_one {P : Program} (w : World) (ty e : TypeId) (N : Nat) (C : Array Value) (hC : C.size = N) (k : Nat) (hk : k < N) (v : Value) (hv : C[k]? = some v) (hu : P.underlying ty = some (.array N e)) (hue : P.underlying e = some (.int .i64)) (hi : (P.info? e).map (·.size) = some 1) :
    (Instr.index ty (.agg C) (.int .i64 (k : Int))).run P w = .ok v w := by
  cases hq : P.info? e with
  | none => simp [hq] at hi
  | some i =>
    have hs : i.size = 1 := by simpa [hq] using hi
    have hagg : (isAgg e).run P w = .ok false w := by
      unfold isAgg
      rw [Sem.run_bind, run_underlying hue w]
      rfl
    have hlt : (0 : Int) ≤ (k : Int) ∧ (k : Int) < (N : Int) := by omega
    simp [Instr.index, asIntOf, run_underlying hu, hlt, part, hagg, sizeOf, typeInfo, hq, hs, hk, hv]

theorem CntI.ownS (w : World) (B : Nat) : OwnFrom B (fun (pre : List {x : Int // 0 ≤ x ∧ x < 48}) W => CntI w (pre.map (fun y => y.val)) W) := fun p W W' row h hg hr => CntI.own w _ h hg (fun r e => (hr r e).2)
theorem results_cell1 {P : Program} {fn : Func} (r ty : Nat) (hr : fn.results = #[.cell r ty]) (tm : Array Value) (W : World) (g : Addr) (A : Array Value)
    (h1 : tm.getD r undef = .pointer (some g)) (h2 : (loadVar ty g).run P W = .ok (.agg A) W) : (results fn tm).run P W = .ok (.agg A) W := by
  unfold results
  rw [hr]
  have h1' : tm[r]?.getD undef = .pointer (some g) := by simpa using h1
  simp [h2, Sem.run_bind, h1', asAddr]

set_option maxRecDepth 100000 in
set_option maxHeartbeats 2000000 in
theorem validCounts_any (a : Option Addr) (c : Nat) (L : List Int) (nn : Nat) (hnn : L.length = nn) (hsm : nn ≤ 36) (hP : ∀ x ∈ L, x = -1 ∨ (0 ≤ x ∧ x < 48)) (w : World) (hI : IntsAt w a L) :
    Calls Tryz.prog 68 #[.slice a nn c] w fun e w' => ∃ A, e = .returned (.agg A) ∧ IsCnt A L ∧ Below w.heap.size w w' := by
  refine (callsIn_wide (n := 8)).1 ?_
  refine callsIn_of_wp_marks Tryz.func68 rfl trivial ?_ rfl
  simp only [Tryz.ntmps68, List.size_toArray, List.length_cons, List.length_nil, Nat.reduceAdd, Nat.reduceSub, Array.replicate_succ, Array.replicate_zero, List.push_toArray, List.append_toArray, List.nil_append, List.cons_append]
  gi_wp2_with (refine ⟨trivial, ?_⟩; gi_at_call 91; refine (namedPlaces_in Fence.wide _ trivial rfl a nn c _).mono ?_; rintro e w' ⟨rfl, rfl⟩)
  obtain ⟨Z, hZ⟩ : ∃ Z : Array Value, Z = #[.int .i64 0, .int .i64 0, .int .i64 0, .int .i64 0, .int .i64 0, .int .i64 0, .int .i64 0, .int .i64 0, .int .i64 0, .int .i64 0, .int .i64 0, .int .i64 0] := ⟨_, rfl⟩
  rw [← hZ]
  have hZ0 : IsCnt Z [] := by rw [hZ]; exact IsCnt.nil
  clear hZ
  obtain ⟨W3, hW3⟩ : ∃ W3, W3 = (w.alloc (.cells Z 119)).alloc (.cells Z 119) := ⟨_, rfl⟩
  have h31 : W3.heap[w.heap.size]? = some (.cells Z 119 (0, 0)) := by rw [hW3]; exact (Below.heap_alloc _ _ _ (by simp)).trans (World.alloc_heap_new _ _)
  have h32 : W3.heap[w.heap.size + 1]? = some (.cells Z 119 (0, 0)) := by rw [hW3]; exact heap_alloc2_new _ _ _
  have hs3 : W3.heap.size = w.heap.size + 1 + 1 := by rw [hW3]; simp
  have hB3 : Below w.heap.size w W3 := by
    rw [hW3]
    exact ((Below.refl _ w).alloc (Nat.le_refl _) _).alloc (by simp) _
  rw [← hW3]
  clear hW3
  have hbel : Below w.heap.size w (W3.alloc (.cells #[.slice a nn c] 27)) := hB3.alloc hB3.size _
  have hbox : (W3.alloc (.cells #[.slice a nn c] 27)).cell? ⟨w.heap.size + 1 + 1, 0, none⟩ = some (.slice a nn c) := by rw [← hs3]; simp
  have hSz : ∀ k, (k = w.heap.size + 1 + 1 ∨ k < w.heap.size) → k < (W3.alloc (.cells #[.slice a nn c] 27)).heap.size := fun k hk => by simp; omega
  refine wpIn_rangeFunc_ownH rfl (by omega) (gf := 100) (lb := #[.pointer (some ⟨w.heap.size + 1 + 1, 0, none⟩)]) rfl trivial (enters_of Tryz.func100 (by kernel_rfl) rfl)
    (named_stops (fun x => 0 ≤ x ∧ x < 48) (fun k => k = w.heap.size + 1 + 1 ∨ k < w.heap.size) Fence.wide _ trivial rfl (by omega) (w.heap.size + 1 + 1) (.inl rfl) a c L nn hnn (by omega) (fun x hx hne => by have := hP x hx; omega) _ hSz hbox (hI.below hbel (Nat.le_refl _)) ?hSa) KeepS.trans (keepS_b hSz) (Below.refl _ _) (fun _ => rfl)
    (fun pre W => CntI w (pre.map (·.val)) W ∧ Below w.heap.size w W) (fun c pre W => False)
    (OwnFrom.and (CntI.ownS w _) (ownFrom_below (Nat.le_refl _) (by simp; omega)))
    (fun c => fun s W W' row h hg hr => h)
    ⟨⟨Z, Z, hZ0.1, hZ0, by rw [Below.heap_alloc _ _ _ (by rw [hs3]; omega)]; exact h31, by rw [Below.heap_alloc _ _ _ (by rw [hs3]; omega)]; exact h32, by simp; omega⟩, hbel⟩
    (fun x a' W => a' = { tmps := #[.slice a nn c, undef, .pointer (some ⟨w.heap.size, 0, none⟩), .pointer (some ⟨w.heap.size + 1, 0, none⟩), .int .i64 x.val, .slice a nn c, .func (.func 100) #[] #[.pointer (some ⟨w.heap.size + 1 + 1, 0, none⟩)], .int .i64 x.val, undef, undef, undef, undef, undef, undef, undef], defers := [] })
    (fun x a' => Own.from (fun _ W W' row h hg hr => h) _) ?assign ?body ?done ?stop
  case hSa =>
    intro b o ha hpos
    obtain ⟨x, hx⟩ := getElem?_ex (l := L) (k := 0) hpos
    obtain ⟨b', o', ha', hc⟩ := hI 0 x hx
    rw [ha] at ha'
    cases ha'
    exact .inr (World.block_lt_of_cell? _ _ hc)
  case assign =>
    rintro l pre x W K ⟨hi, hb⟩ hK
    simp only [encI]
    gi_wp2
    exact hK _ _ ((KeepsOthers.refl _).from _) (KeepS.refl _ _) ⟨hi, hb⟩ rfl
  case body =>
    rintro l pre ⟨x, hx0, hx48⟩ a' W hl hlr ⟨⟨Z, A, hz, hA, hA1, hA2, hWs⟩, hb⟩ rfl hlen
    obtain ⟨q, hq⟩ : ∃ q : Nat, x / 4 = (q : Int) := ⟨(x / 4).toNat, by omega⟩
    have hq12 : q < 12 := by omega
    have hcq := (cell_of_row _ _ q _ _ _ hA2).trans (hA.2 q hq12)
    have hfq := frozen_of_row _ _ q _ _ hA2
    have hle := validIn_le (pre.map (·.val)) (q : Int)
    rw [List.length_map] at hle
    have hsn := hA.snoc x q hq hx0 hq12
    have hm : (pre ++ [(⟨x, hx0, hx48⟩ : {x : Int // 0 ≤ x ∧ x < 48})]).map (fun y => y.val) = pre.map (fun y => y.val) ++ [x] := by simp
    obtain ⟨V, hV⟩ : ∃ V, V = validIn (pre.map (·.val)) (q : Int) := ⟨_, rfl⟩
    rw [← hV] at hcq hle hsn
    have HSN := hide hsn
    have H1 := hide hA1
    have H2 := hide hA2
    have HM := hide hm
    have hq' : ((q : Nat) : Int) < 12 := by omega
    clear hsn hA1 hA2 hA hV hP hI hm
    gi_wp2
    refine ⟨(KeepsOthers.setCell _ _ _).from _, KeepS.setCell _ _ _ (fun hs => by simp at hs; omega), ⟨Z, _, hz, by rw [unhide HM]; exact unhide HSN, ?_, blk_setCell_same q _ (unhide H2), by simpa [World.setCell] using hWs⟩, hb.setCell (by simp) _⟩
    rw [Below.heap_setCell _ _ _ _ (by simp)]
    exact unhide H1
  case done =>
    rintro D ys W hD hys ⟨⟨Z, A, hz, hA, hA1, hA2, hWs⟩, hb⟩ hK
    have hA' : IsCnt A L := by rw [hys] at hA; exact hA.named
    have hst := store_row Tryz.prog W w.heap.size 119 Z A hA1 (by rw [hz, hA.1]) hA.one
    have hld := setRow_heap W _ _ A _ _ hA1
    have hDn : D ≠ w.heap.size := by simp at hD; omega
    have hK' : (W.setRow w.heap.size A).heap[D]? = some (.deferred (some [])) := by rw [setRow_other _ _ _ _ hDn]; exact hK
    have hB5 : Below w.heap.size w (W.setRow w.heap.size A) := Below.setRow hb (Nat.le_refl _) _
    obtain ⟨W5, hW5⟩ : ∃ W5, W5 = W.setRow w.heap.size A := ⟨_, rfl⟩
    rw [← hW5] at hst hld hK' hB5
    clear hW5
    have HA := hide hA'
    have HA1 := hide hA.1
    have H2 := hide hA2
    have HLD := hide hld
    clear hA hA' hA1 hA2 hld hP hI hZ0 hb hK
    gi_wp2_with (refine wpListIn_load_mid rfl 119 _ rfl (w.heap.size + 1) 0 rfl A 12 (unhide HA1) (fun j hj => by rw [Nat.zero_add]; exact cell_of_row _ _ _ _ _ _ (unhide H2)) _ Tryz.underlying119 rfl sizeCnt ?_)
    refine ⟨by simp, .inl ⟨_, _, rfl, run_takeDeferred hK', ?_⟩⟩
    have hrow : (W5.putObj D (.deferred none)).heap[w.heap.size]? = _ := (World.putObj_heap_other (fun e => hDn e.symm)).trans (unhide HLD)
    exact ⟨.agg A, results_cell1 2 119 Tryz.results68 _ _ _ _ rfl (run_loadVar_row (P := Tryz.prog) _ w.heap.size 119 119 A (0, 0) _ hrow Tryz.underlying119 rfl (by rw [unhide HA1]; exact sizeCnt)), A, rfl, unhide HA, hB5.trans (belowK_b (w := w) (Nat.le_refl _) _ D _ _ (by simp at hD; omega) hK' rfl rfl)⟩
  case stop =>
    rintro D c' pre W hD hpre h hK
    exact h.elim

end Go.Proofs.YtjgcjeaplckbbaaGreat

/- The block that is emptied: the program's victimBut and VictimOf. -/
namespace Go.Proofs.YtjgcjeaplckbbaaGreat
open Go.RowKit
set_option linter.unusedVariables false
set_option linter.unusedSimpArgs false

set_option maxRecDepth 100000 in
set_option maxHeartbeats 4000000 in
theorem victimBut_any (A : Array Value) (m : CC) (bs : List Bk) (n : Nat) (hl : bs.length = n) (hbs : ccBs m n = bs) (hA0 : A[0]? = some (.int .i64 (n : Int))) (hAb : ∀ b i, b < 12 → i < 17 → A[1 + b * 17 + i]? = (bcA (m.wear b) (m.page b))[i]?) (hn : n ≤ 12)
    (ma : Option Addr) (mc : Nat) (L : List Int) (mn : Nat) (hL : L.length = mn) (hmn : mn ≤ 36) (hP : ∀ x ∈ L, x = -1 ∨ (0 ≤ x ∧ x < 48)) (o : Int) (w : World) (hI : IntsAt w ma L) :
    Calls Tryz.prog 49 #[.agg A, .slice ma mn mc, .int .i64 o] w fun e w' => e = .returned (.int .i64 (vicOf bs L o)) ∧ Below w.heap.size w w' := by
  have HAB := hide hAb
  have HBS := hide hbs
  have HL := hide hl
  have hb0 : ∀ o, Below w.heap.size w (w.alloc o) := fun o => (Below.refl _ w).alloc (Nat.le_refl _) _
  clear hAb hbs hl
  go_enter Tryz.func49, Tryz.ntmps49
  go_wp2_with fail
  refine (validCounts_any ma mc L mn hL hmn hP _ (hI.below (hb0 _) (Nat.le_refl _))).mono ?_
  rintro e w1 ⟨C, rfl, hC, hB1⟩
  have hs1 := hB1.size
  simp at hs1
  have hr1 : w1.heap[w.heap.size]? = some (.cells A 57 (0, 0)) := (hB1.block _ (by simp)).trans (World.alloc_heap_new _ _)
  have hW1 : Below w.heap.size w w1 := (hb0 _).trans (hB1.mono (by simp))
  have hc1 := (cell_of_row _ _ 0 _ _ _ hr1).trans hA0
  have HR1 := hide hr1
  have HC := hide hC
  have hCs := hC.1
  have hst : (storeCells ⟨w1.heap.size, 0, none⟩ C.toList).run Tryz.prog (w1.alloc (.cells #[.int .i64 0, .int .i64 0, .int .i64 0, .int .i64 0, .int .i64 0, .int .i64 0, .int .i64 0, .int .i64 0, .int .i64 0, .int .i64 0, .int .i64 0, .int .i64 0] 119)) = .ok () (w1.alloc (.cells C 119)) := by
    have := storeNew Tryz.prog w1 w1.heap.size rfl #[.int .i64 0, .int .i64 0, .int .i64 0, .int .i64 0, .int .i64 0, .int .i64 0, .int .i64 0, .int .i64 0, .int .i64 0, .int .i64 0, .int .i64 0, .int .i64 0] 119 C.toList (by simp [hC.1]) hC.one
    simpa only [Array.toArray_toList] using this
  have hc1' : ∀ o', (w1.alloc o').cell? ⟨w.heap.size, 0, none⟩ = some (.int .i64 (n : Int)) := fun o' => (cell_alloc_lt _ _ _ _ (by omega)).trans hc1
  clear hB1 hr1 hC hP hI hA0 hb0 hc1
  go_wp2
  clear hst hc1'
  obtain ⟨w2, hw2⟩ : ∃ w2, w2 = w1.alloc (.cells C 119) := ⟨_, rfl⟩
  have hs2 : w1.heap.size < w2.heap.size := by rw [hw2]; simp
  have HR2 : Hid (w2.heap[w.heap.size]? = some (.cells A 57 (0, 0))) := by rw [hw2]; exact (Below.heap_alloc _ _ _ (by omega)).trans (unhide HR1)
  have HC2 : Hid (w2.heap[w1.heap.size]? = some (.cells C 119 (0, 0))) := by rw [hw2]; exact World.alloc_heap_new _ _
  have hW2 : Below w.heap.size w w2 := by rw [hw2]; exact hW1.alloc hW1.size _
  rw [← hw2]
  clear hw2 HR1 hW1
  go_loopw [8, 14] (fun v i wr => ∃ k : Nat, k ≤ n ∧ i = .int .i64 k ∧ v = .int .i64 (vicTo bs L o k) ∧ Below w2.heap.size w2 wr) (fun _ i _ => n - (intOf i).toNat)
  case atStart => exact ⟨0, Nat.zero_le _, rfl, rfl, Below.refl _ _⟩
  case round =>
    obtain ⟨k, hk, rfl, rfl, hB⟩ := hrel
    have hsr := hB.size
    obtain ⟨hb1, hb2⟩ := vicTo_bounds bs L o k
    obtain ⟨best, hbest⟩ : ∃ best, best = vicTo bs L o k := ⟨_, rfl⟩
    rw [← hbest] at hb1 hb2 ⊢
    have HBE := hide hbest
    clear hbest
    by_cases hlt : k < n
    · have hki : (k : Int) < 12 := by omega
      obtain ⟨x, hx⟩ := getElem?_ex (l := bs) (k := k) (by have := unhide HL; omega)
      have hpu : ∀ t, t < 4 → pu x t = (m.page k t).used := fun t ht => pu_cc m (n := n) hlt ht (by rw [unhide HBS]; exact hx)
      have hxw : x.wear = m.wear k := by
        have e := ccBs_at m (n := n) hlt
        rw [unhide HBS, hx] at e
        cases e
        rfl
      have hblk : ∀ j, j < 17 → wr.cell? ⟨w.heap.size, 1 + k * 17 + j, none⟩ = (bcA (m.wear k) (m.page k))[j]? := fun j hj => by
        rw [hB.cell (p := ⟨w.heap.size, 1 + k * 17 + j, none⟩) (by show w.heap.size < _; omega), cell_of_row _ _ _ _ _ _ (unhide HR2)]
        exact unhide HAB k j (by omega) hj
      have HB := hide hblk
      have HPU := hide hpu
      have HX := hide hx
      have HXW := hide hxw
      clear hblk hpu hx hxw
      by_cases hko : (k : Int) = o
      · have heq : ((k : Int) == o) = true := by simpa using hko
        go_wp2
        go_roundw
        case rel => exact ⟨k + 1, by omega, by go_num, by rw [vicTo_skip (unhide HX) (.inl hko), ← unhide HBE], hB⟩
        case measure => simp [intOf]; omega
      · have heq : ((k : Int) == o) = false := by simpa using hko
        go_wp2_with (refine wpList_load_mid_g rfl 54 _ rfl w.heap.size (1 + k * 17) rfl (bcA (m.wear k) (m.page k)) 17 (bcA_size _ _) (unhide HB) _ Tryz.underlying54 rfl sizeBC ?_)
        refine (full_any _ _ x (unhide HPU) _).mono ?_
        rintro e w3 ⟨rfl, hB3⟩
        have hs3 := hB3.size
        have hBB : Below w2.heap.size w2 w3 := hB.trans (hB3.mono hB.size)
        clear HB HPU hB3 hB
        generalize bcA (m.wear k) (m.page k) = A2
        cases hfu : fullB x with
        | false =>
          go_wp2
          go_roundw
          case rel => exact ⟨k + 1, by omega, by go_num, by rw [vicTo_skip (unhide HX) (.inr hfu), ← unhide HBE], hBB⟩
          case measure => simp [intOf]; omega
        | true =>
          obtain ⟨V1, hV1⟩ : ∃ V1 : Int, V1 = (validIn L (k : Int) : Int) := ⟨_, rfl⟩
          have hck : w3.cell? ⟨w1.heap.size, k, none⟩ = some (.int .i64 V1) := by
            rw [hBB.cell (p := ⟨w1.heap.size, k, none⟩) hs2, cell_of_row _ _ _ _ _ _ (unhide HC2), hV1]
            exact (unhide HC).2 k (by omega)
          have hwk : w3.cell? ⟨w.heap.size, 1 + k * 17, none⟩ = some (.int .i64 x.wear) := by
            rw [hBB.cell (p := ⟨w.heap.size, 1 + k * 17, none⟩) (by show w.heap.size < _; omega), cell_of_row _ _ _ _ _ _ (unhide HR2), unhide HXW]
            exact (unhide HAB k 0 (by omega) (by omega)).trans ((bcA_get _ _ (i := 0) (by omega)).trans rfl)
          have HVK := hide hV1
          clear hV1
          by_cases hbn : best < 0
          · go_wp2_with fail
            go_quiet (fail)
            go_wp2
            go_roundw
            case rel => exact ⟨k + 1, by omega, by go_num, by rw [vicTo_take (unhide HX) hko hfu (by rw [← unhide HBE]; exact beats_neg hbn)], Below.drewN hBB _⟩
            case measure => simp [intOf]; omega
          · obtain ⟨kb, hkb⟩ : ∃ kb : Nat, best = (kb : Int) := ⟨best.toNat, by omega⟩
            subst hkb
            have hkbi : (kb : Int) < 12 := by omega
            obtain ⟨xb, hxb⟩ := getElem?_ex (l := bs) (k := kb) (by have := unhide HL; omega)
            have hwa := wearAt_of hxb
            have hxbw : xb.wear = m.wear kb := by
              have e := ccBs_at m (n := n) (b := kb) (by omega)
              rw [unhide HBS, hxb] at e
              cases e
              rfl
            obtain ⟨V2, hV2⟩ : ∃ V2 : Int, V2 = (validIn L (kb : Int) : Int) := ⟨_, rfl⟩
            have hcb : w3.cell? ⟨w1.heap.size, kb, none⟩ = some (.int .i64 V2) := by
              rw [hBB.cell (p := ⟨w1.heap.size, kb, none⟩) hs2, cell_of_row _ _ _ _ _ _ (unhide HC2), hV2]
              exact (unhide HC).2 kb (by omega)
            have hwb : w3.cell? ⟨w.heap.size, 1 + kb * 17, none⟩ = some (.int .i64 xb.wear) := by
              rw [hBB.cell (p := ⟨w.heap.size, 1 + kb * 17, none⟩) (by show w.heap.size < _; omega), cell_of_row _ _ _ _ _ _ (unhide HR2), hxbw]
              exact (unhide HAB kb 0 (by omega) (by omega)).trans ((bcA_get _ _ (i := 0) (by omega)).trans rfl)
            have HVB := hide hV2
            have HWA := hide hwa
            clear hV2 hwa hxbw hxb
            by_cases hv1 : V1 < V2
            · go_wp2_with fail
              go_quiet (fail)
              go_wp2
              go_roundw
              case rel => exact ⟨k + 1, by omega, by go_num, by rw [vicTo_take (unhide HX) hko hfu (by rw [← unhide HBE]; exact beats_few (by have := unhide HVK; have := unhide HVB; omega))], Below.drewN hBB _⟩
              case measure => simp [intOf]; omega
            · have hv1' : V2 ≤ V1 := by omega
              by_cases hv2 : V1 = V2
              · have hv2' : (V1 == V2) = true := by simpa using hv2
                have HE := hide hv2
                clear hv2
                by_cases hw : x.wear < xb.wear
                · go_wp2_with fail
                  go_quiet (fail)
                  go_wp2_with fail
                  go_quiet (fail)
                  go_wp2
                  go_roundw
                  case rel => exact ⟨k + 1, by omega, by go_num, by rw [vicTo_take (unhide HX) hko hfu (by rw [← unhide HBE]; exact beats_wear (by have := unhide HVK; have := unhide HVB; have := unhide HE; omega) (unhide HWA) hw)], Below.drewN hBB _⟩
                  case measure => simp [intOf]; omega
                · have hw' : xb.wear ≤ x.wear := by omega
                  go_wp2_with fail
                  go_quiet (fail)
                  go_wp2_with fail
                  go_quiet (fail)
                  go_wp2
                  go_roundw
                  case rel => exact ⟨k + 1, by omega, by go_num, by rw [vicTo_keep (unhide HX) hko hfu (by rw [← unhide HBE]; exact beats_worn (by omega) (by have := unhide HVK; have := unhide HVB; have := unhide HE; omega) (unhide HWA) hw'), ← unhide HBE], Below.drewN hBB _⟩
                  case measure => simp [intOf]; omega
              · have hv2' : (V1 == V2) = false := by simpa using hv2
                go_wp2_with fail
                go_quiet (fail)
                go_wp2_with fail
                go_quiet (fail)
                go_wp2
                go_roundw
                case rel => exact ⟨k + 1, by omega, by go_num, by rw [vicTo_keep (unhide HX) hko hfu (by rw [← unhide HBE]; exact beats_more (by omega) (by have := unhide HVK; have := unhide HVB; omega)), ← unhide HBE], Below.drewN hBB _⟩
                case measure => simp [intOf]; omega
    · obtain rfl : k = n := by omega
      have hW := hW2.trans (hB.mono hW2.size)
      have e : vicOf bs L o = best := by rw [unhide HBE]; unfold vicOf; rw [unhide HL]
      have HEND := hide e
      clear e
      go_wp2
      go_ret
      exact ⟨by rw [unhide HEND]; rfl, hW⟩

end Go.Proofs.YtjgcjeaplckbbaaGreat

/- Ops: the laws' own marks of them. -/
namespace Go.Proofs.YtjgcjeaplckbbaaGreat
open Go.RowKit
set_option linter.unusedVariables false
set_option linter.unusedSimpArgs false

def mkOp (k : Int) : Opn := ⟨k, k + 1, ⟨(k + 1 + 1) % 3 == 0, k + 1 + 1 + 1, k + 1 + 1 + 1 + 1, mt (k + 1 + 1 + 1 + 1 + 1).toNat⟩⟩
def markOs (k : Int) (n : Nat) : List Opn := (List.range n).map fun (i : Nat) => mkOp (k + 6 * (i : Int))
def markOTo (k : Int) (xs : List Opn) (j : Nat) : List Opn := markOs k j ++ xs.drop j
theorem markOs_length (k : Int) (n : Nat) : (markOs k n).length = n := by simp [markOs]
theorem markOs_at (k : Int) {n i : Nat} (hi : i < n) : (markOs k n)[i]? = some (mkOp (k + 6 * (i : Int))) := by simp [markOs, hi]
theorem markOTo_zero (k : Int) (xs : List Opn) : markOTo k xs 0 = xs := by simp [markOTo, markOs]
theorem markOTo_full (k : Int) (xs : List Opn) : markOTo k xs xs.length = markOs k xs.length := by simp [markOTo]
theorem markOTo_step (k : Int) (xs : List Opn) {j : Nat} (hj : j < xs.length) : (markOTo k xs (j + 1))[j]? = some (mkOp (k + 6 * (j : Int))) ∧ ∀ i, i ≠ j → (markOTo k xs (j + 1))[i]? = (markOTo k xs j)[i]? := by
  have h1 := markOs_length k (j + 1)
  have h0 := markOs_length k j
  unfold markOTo
  refine ⟨by rw [List.getElem?_append_left (by omega), markOs_at k (by omega)], fun i hi => ?_⟩
  by_cases hlt : i < j
  · rw [List.getElem?_append_left (by omega), List.getElem?_append_left (by omega), markOs_at k (by omega), markOs_at k hlt]
  · rw [List.getElem?_append_right (by omega), List.getElem?_append_right (by omega), h1, h0, List.getElem?_drop, List.getElem?_drop]
    congr 1
    omega

end Go.Proofs.YtjgcjeaplckbbaaGreat

/- An answer that is a list of ops: its marks; a member that the laws have copied, as one of their own. -/
namespace Go.Proofs.YtjgcjeaplckbbaaGreat
open Go.RowKit
set_option linter.unusedVariables false
set_option linter.unusedSimpArgs false


/-- What the program's OpsOf hands back: ops in a row of its own, which lies from B on and ahead of T. -/
def OpsMine (w : World) (B T : Nat) (a : Option Addr) (c : Nat) (xs : List Opn) : Prop := (a = none ∧ xs = []) ∨ ∃ g, a = some ⟨g, 0, none⟩ ∧ B ≤ g ∧ g < T ∧ OwnOps w 93 g xs.length xs
theorem OpsMine.opsAt {w : World} {B T : Nat} {a : Option Addr} {c : Nat} {xs : List Opn} (h : OpsMine w B T a c xs) : OpsAt w a xs := by
  rcases h with ⟨_, rfl⟩ | ⟨g, rfl, _, _, h⟩
  · intro i x hx; simp at hx
  · exact h.opsAt (Nat.le_refl _)
theorem OpsMine.below {w w' : World} {B T : Nat} {a : Option Addr} {c : Nat} {xs : List Opn} (h : OpsMine w B T a c xs) (hb : Below w.heap.size w w') : OpsMine w' B T a c xs := by
  rcases h with h | ⟨g, rfl, h1, h2, h⟩
  · exact .inl h
  · exact .inr ⟨g, rfl, h1, h2, h.below hb (World.rowIs.lt h)⟩
theorem OpsMine.touch {S : Nat → Prop} {w w' : World} {B T : Nat} {a : Option Addr} {c : Nat} {xs : List Opn} (h : OpsMine w B T a c xs) (hT : Touch S w w') (hS : ∀ k, S k → k < B) : OpsMine w' B T a c xs := by
  rcases h with h | ⟨g, rfl, h1, h2, h⟩
  · exact .inl h
  · exact .inr ⟨g, rfl, h1, h2, World.rowIs.of_block h (hT.block g (World.rowIs.lt h) (fun hs => by have := hS g hs; omega))⟩


end Go.Proofs.YtjgcjeaplckbbaaGreat
