/- 3 texts in one. -/
import Derived.Test.YtalgkmellbamgaaGreatG24
import Derived.Test.YtalgkmellbamgaaGreatG26
import Derived.Test.YtalgkmellbamgaaGreatG06
import Derived.BigQuiet
import Derived.Test.YtalgkmellbamgaaGreatChecked
import Derived.Test.YtalgkmellbamgaaGreatG01
import Derived.WalkKit
import Derived.Outline
import Derived.Deep.RegionHeld3
import Derived.Laws.BytesArg

/- How many pages of each block are the newest of their log: the program's validCounts and ValidOf. -/
namespace Go.Proofs.YtalgkmellbamgaaGreat
open Go.RowKit Go.Shelf
set_option linter.unusedVariables false
set_option linter.unusedSimpArgs false
attribute [local go_sem] Oper.semAt_some

/-- The row A of twelve numbers tells, of each block, how many places of L lie in it. -/
def IsCnt (A : Array Value) (L : List Int) : Prop := A.size = 12 ∧ ∀ i : Nat, i < 12 → A[i]? = some (.int .i64 (validIn L (i : Int)))
theorem IsCnt.nil : IsCnt #[.int .i64 0, .int .i64 0, .int .i64 0, .int .i64 0, .int .i64 0, .int .i64 0, .int .i64 0, .int .i64 0, .int .i64 0, .int .i64 0, .int .i64 0, .int .i64 0] [] := by
  refine ⟨rfl, fun i hi => ?_⟩
  rw [validIn_nil]
  match i, hi with
  | 0, _ | 1, _ | 2, _ | 3, _ | 4, _ | 5, _ | 6, _ | 7, _ | 8, _ | 9, _ | 10, _ | 11, _ => rfl
  | i + 12, h => omega
theorem IsCnt.one {A : Array Value} {L : List Int} (h : IsCnt A L) : ∀ v ∈ A.toList, v.oneCell' = true := by
  intro v hv
  have hv' : v ∈ A := by simpa using hv
  obtain ⟨i, hi, rfl⟩ := Array.mem_iff_getElem.1 hv'
  have e := h.2 i (by rw [← h.1]; exact hi)
  rw [Array.getElem?_eq_getElem hi] at e
  rw [Option.some.inj e]
  rfl
theorem IsCnt.named {A : Array Value} {L : List Int} (h : IsCnt A (namedOf L)) : IsCnt A L := ⟨h.1, fun i hi => by rw [h.2 i hi, validIn_named]⟩
theorem IsCnt.snoc {A : Array Value} {L : List Int} (h : IsCnt A L) (x : Int) (q : Nat) (hq : x / 4 = (q : Int)) (h0 : 0 ≤ x) (h12 : q < 12) : IsCnt (A.setIfInBounds q (.int .i64 ((validIn L (q : Int) : Int) + 1))) (L ++ [x]) := by
  refine ⟨by simp [h.1], fun i hi => ?_⟩
  rw [validIn_snoc, Array.getElem?_setIfInBounds]
  by_cases e : q = i
  · subst e
    have hh : hit (q : Int) x = true := by simp [hit, h0, hq]
    simp [hh, h.1, h12]
  · have hh : hit (i : Int) x = false := by
      have : ¬ (x / 4 = (i : Int)) := by rw [hq]; omega
      simp [hit, this]
    rw [if_neg e, h.2 i hi, hh]
    simp
theorem sizeCnt : (Tryz.prog.info? 143).map (·.size) = some 12 := by kernel_rfl

def CntI (w : World) (pre : List Int) (W : World) : Prop :=
  ∃ Z A : Array Value, Z.size = 12 ∧ IsCnt A pre ∧ W.heap[w.heap.size]? = some (.cells Z 143 (0, 0)) ∧ W.heap[w.heap.size + 1]? = some (.cells A 143 (0, 0)) ∧ w.heap.size + 1 + 1 < W.heap.size
theorem CntI.own (w : World) (p : List Int) {W W' : World} {row : Option Nat} (h : CntI w p W) (hg : W.grownBy W' row) (hr : ∀ r, row = some r → ∃ o : Obj, W.heap[r]? = some o ∧ o.isCells = false) : CntI w p W' := by
  obtain ⟨Z, A, hz, ha, h1, h2, h4⟩ := h
  exact ⟨Z, A, hz, ha, blk_kept h1 hg hr, blk_kept h2 hg hr, Nat.lt_of_lt_of_le h4 hg.size⟩

/-- One of the elements of an array, each of one cell. -/
theorem run_index_one {P : Program} (w : World) (ty e : TypeId) (N : Nat) (C : Array Value) (hC : C.size = N) (k : Nat) (hk : k < N) (v : Value) (hv : C[k]? = some v) (hu : P.underlying ty = some (.array N e)) (hue : P.underlying e = some (.int .i64)) (hi : (P.info? e).map (·.size) = some 1) :
    (Instr.index ty (.agg C) (.int .i64 (k : Int))).run P w = .ok v w := by
  cases hq : P.info? e with
  | none => simp [hq] at hi
  | some i =>
    have hs : i.size = 1 := by simpa [hq] using hi
    have hagg : (isAgg e).run P w = .ok false w := by
      unfold isAgg
      rw [Sem.run_bind, run_underlying hue w]
      rfl
    have hlt : (0 : Int) ≤ (k : Int) ∧ (k : Int) < (N : Int) := by omega
    simp [Instr.index, asIntOf, run_underlying hu, hlt, part, hagg, sizeOf, typeInfo, hq, hs, hk, hv]

theorem CntI.ownS (w : World) (B : Nat) : OwnFrom B (fun (pre : List {x : Int // 0 ≤ x ∧ x < 48}) W => CntI w (pre.map (fun y => y.val)) W) := fun p W W' row h hg hr => CntI.own w _ h hg (fun r e => (hr r e).2)
theorem results_cell1 {P : Program} {fn : Func} (r ty : Nat) (hr : fn.results = #[.cell r ty]) (tm : Array Value) (W : World) (g : Addr) (A : Array Value)
    (h1 : tm.getD r undef = .pointer (some g)) (h2 : (loadVar ty g).run P W = .ok (.agg A) W) : (results fn tm).run P W = .ok (.agg A) W := by
  unfold results
  rw [hr]
  have h1' : tm[r]?.getD undef = .pointer (some g) := by simpa using h1
  simp [h2, Sem.run_bind, h1', asAddr]

set_option maxRecDepth 100000 in
set_option maxHeartbeats 2000000 in
theorem validCounts_any (a : Option Addr) (c : Nat) (L : List Int) (nn : Nat) (hnn : L.length = nn) (hsm : nn ≤ 36) (hP : ∀ x ∈ L, x = -1 ∨ (0 ≤ x ∧ x < 48)) (w : World) (hI : IntsAt w a L) :
    Calls Tryz.prog 104 #[.slice a nn c] w fun e w' => ∃ A, e = .returned (.agg A) ∧ IsCnt A L ∧ Below w.heap.size w w' := by
  refine (callsIn_wide (n := 8)).1 ?_
  refine callsIn_of_wp_marks Tryz.func104 rfl trivial ?_ rfl
  simp only [Tryz.ntmps104, List.size_toArray, List.length_cons, List.length_nil, Nat.reduceAdd, Nat.reduceSub, Array.replicate_succ, Array.replicate_zero, List.push_toArray, List.append_toArray, List.nil_append, List.cons_append]
  gi_wp2_with (refine ⟨trivial, ?_⟩; gi_at_call 125; refine (namedPlaces_in Fence.wide _ trivial rfl a nn c _).mono ?_; rintro e w' ⟨rfl, rfl⟩)
  obtain ⟨Z, hZ⟩ : ∃ Z : Array Value, Z = #[.int .i64 0, .int .i64 0, .int .i64 0, .int .i64 0, .int .i64 0, .int .i64 0, .int .i64 0, .int .i64 0, .int .i64 0, .int .i64 0, .int .i64 0, .int .i64 0] := ⟨_, rfl⟩
  rw [← hZ]
  have hZ0 : IsCnt Z [] := by rw [hZ]; exact IsCnt.nil
  clear hZ
  obtain ⟨W3, hW3⟩ : ∃ W3, W3 = (w.alloc (.cells Z 143)).alloc (.cells Z 143) := ⟨_, rfl⟩
  have h31 : W3.heap[w.heap.size]? = some (.cells Z 143 (0, 0)) := by rw [hW3]; exact (Below.heap_alloc _ _ _ (by simp)).trans (World.alloc_heap_new _ _)
  have h32 : W3.heap[w.heap.size + 1]? = some (.cells Z 143 (0, 0)) := by rw [hW3]; exact heap_alloc2_new _ _ _
  have hs3 : W3.heap.size = w.heap.size + 1 + 1 := by rw [hW3]; simp
  have hB3 : Below w.heap.size w W3 := by
    rw [hW3]
    exact ((Below.refl _ w).alloc (Nat.le_refl _) _).alloc (by simp) _
  rw [← hW3]
  clear hW3
  have hbel : Below w.heap.size w (W3.alloc (.cells #[.slice a nn c] 27)) := hB3.alloc hB3.size _
  have hbox : (W3.alloc (.cells #[.slice a nn c] 27)).cell? ⟨w.heap.size + 1 + 1, 0, none⟩ = some (.slice a nn c) := by rw [← hs3]; simp
  have hSz : ∀ k, (k = w.heap.size + 1 + 1 ∨ k < w.heap.size) → k < (W3.alloc (.cells #[.slice a nn c] 27)).heap.size := fun k hk => by simp; omega
  refine wpIn_rangeFunc_ownH rfl (by omega) (gf := 141) (lb := #[.pointer (some ⟨w.heap.size + 1 + 1, 0, none⟩)]) rfl trivial (enters_of Tryz.func141 (by kernel_rfl) rfl)
    (named_stops (fun x => 0 ≤ x ∧ x < 48) (fun k => k = w.heap.size + 1 + 1 ∨ k < w.heap.size) Fence.wide _ trivial rfl (by omega) (w.heap.size + 1 + 1) (.inl rfl) a c L nn hnn (by omega) (fun x hx hne => by have := hP x hx; omega) _ hSz hbox (hI.below hbel (Nat.le_refl _)) ?hSa) KeepS.trans (keepS_b hSz) (Below.refl _ _) (fun _ => rfl)
    (fun pre W => CntI w (pre.map (·.val)) W ∧ Below w.heap.size w W) (fun c pre W => False)
    (OwnFrom.and (CntI.ownS w _) (ownFrom_below (Nat.le_refl _) (by simp; omega)))
    (fun c => fun s W W' row h hg hr => h)
    ⟨⟨Z, Z, hZ0.1, hZ0, by rw [Below.heap_alloc _ _ _ (by rw [hs3]; omega)]; exact h31, by rw [Below.heap_alloc _ _ _ (by rw [hs3]; omega)]; exact h32, by simp; omega⟩, hbel⟩
    (fun x a' W => a' = { tmps := #[.slice a nn c, undef, .pointer (some ⟨w.heap.size, 0, none⟩), .pointer (some ⟨w.heap.size + 1, 0, none⟩), .int .i64 x.val, .slice a nn c, .func (.func 141) #[] #[.pointer (some ⟨w.heap.size + 1 + 1, 0, none⟩)], .int .i64 x.val, undef, undef, undef, undef, undef, undef, undef], defers := [] })
    (fun x a' => Own.from (fun _ W W' row h hg hr => h) _) ?assign ?body ?done ?stop
  case hSa =>
    intro b o ha hpos
    obtain ⟨x, hx⟩ := getElem?_ex (l := L) (k := 0) hpos
    obtain ⟨b', o', ha', hc⟩ := hI 0 x hx
    rw [ha] at ha'
    cases ha'
    exact .inr (World.block_lt_of_cell? _ _ hc)
  case assign =>
    rintro l pre x W K ⟨hi, hb⟩ hK
    simp only [encI]
    gi_wp2
    exact hK _ _ ((KeepsOthers.refl _).from _) (KeepS.refl _ _) ⟨hi, hb⟩ rfl
  case body =>
    rintro l pre ⟨x, hx0, hx48⟩ a' W hl hlr ⟨⟨Z, A, hz, hA, hA1, hA2, hWs⟩, hb⟩ rfl hlen
    obtain ⟨q, hq⟩ : ∃ q : Nat, x / 4 = (q : Int) := ⟨(x / 4).toNat, by omega⟩
    have hq12 : q < 12 := by omega
    have hcq := (cell_of_row _ _ q _ _ _ hA2).trans (hA.2 q hq12)
    have hfq := frozen_of_row _ _ q _ _ hA2
    have hle := validIn_le (pre.map (·.val)) (q : Int)
    rw [List.length_map] at hle
    have hsn := hA.snoc x q hq hx0 hq12
    have hm : (pre ++ [(⟨x, hx0, hx48⟩ : {x : Int // 0 ≤ x ∧ x < 48})]).map (fun y => y.val) = pre.map (fun y => y.val) ++ [x] := by simp
    obtain ⟨V, hV⟩ : ∃ V, V = validIn (pre.map (·.val)) (q : Int) := ⟨_, rfl⟩
    rw [← hV] at hcq hle hsn
    have HSN := hide hsn
    have H1 := hide hA1
    have H2 := hide hA2
    have HM := hide hm
    have hq' : ((q : Nat) : Int) < 12 := by omega
    clear hsn hA1 hA2 hA hV hP hI hm
    gi_wp2
    refine ⟨(KeepsOthers.setCell _ _ _).from _, KeepS.setCell _ _ _ (fun hs => by simp at hs; omega), ⟨Z, _, hz, by rw [unhide HM]; exact unhide HSN, ?_, blk_setCell_same q _ (unhide H2), by simpa [World.setCell] using hWs⟩, hb.setCell (by simp) _⟩
    rw [Below.heap_setCell _ _ _ _ (by simp)]
    exact unhide H1
  case done =>
    rintro D ys W hD hys ⟨⟨Z, A, hz, hA, hA1, hA2, hWs⟩, hb⟩ hK
    have hA' : IsCnt A L := by rw [hys] at hA; exact hA.named
    have hst := store_row Tryz.prog W w.heap.size 143 Z A hA1 (by rw [hz, hA.1]) hA.one
    have hld := setRow_heap W _ _ A _ _ hA1
    have hDn : D ≠ w.heap.size := by simp at hD; omega
    have hK' : (W.setRow w.heap.size A).heap[D]? = some (.deferred (some [])) := by rw [setRow_other _ _ _ _ hDn]; exact hK
    have hB5 : Below w.heap.size w (W.setRow w.heap.size A) := Below.setRow hb (Nat.le_refl _) _
    obtain ⟨W5, hW5⟩ : ∃ W5, W5 = W.setRow w.heap.size A := ⟨_, rfl⟩
    rw [← hW5] at hst hld hK' hB5
    clear hW5
    have HA := hide hA'
    have HA1 := hide hA.1
    have H2 := hide hA2
    have HLD := hide hld
    clear hA hA' hA1 hA2 hld hP hI hZ0 hb hK
    gi_wp2_with (refine wpListIn_load_mid rfl 143 _ rfl (w.heap.size + 1) 0 rfl A 12 (unhide HA1) (fun j hj => by rw [Nat.zero_add]; exact cell_of_row _ _ _ _ _ _ (unhide H2)) _ Tryz.underlying143 rfl sizeCnt ?_)
    refine ⟨by simp, .inl ⟨_, _, rfl, run_takeDeferred hK', ?_⟩⟩
    have hrow : (W5.putObj D (.deferred none)).heap[w.heap.size]? = _ := (World.putObj_heap_other (fun e => hDn e.symm)).trans (unhide HLD)
    exact ⟨.agg A, results_cell1 2 143 Tryz.results104 _ _ _ _ rfl (run_loadVar_row (P := Tryz.prog) _ w.heap.size 143 143 A (0, 0) _ hrow Tryz.underlying143 rfl (by rw [unhide HA1]; exact sizeCnt)), A, rfl, unhide HA, hB5.trans (belowK_b (w := w) (Nat.le_refl _) _ D _ _ (by simp at hD; omega) hK' rfl rfl)⟩
  case stop =>
    rintro D c' pre W hD hpre h hK
    exact h.elim

end Go.Proofs.YtalgkmellbamgaaGreat

/- The block that is emptied: the program's victimBut and VictimOf. -/
namespace Go.Proofs.YtalgkmellbamgaaGreat
open Go.RowKit
set_option linter.unusedVariables false
set_option linter.unusedSimpArgs false

set_option maxRecDepth 100000 in
set_option maxHeartbeats 4000000 in
theorem victimBut_any (A : Array Value) (m : CC) (bs : List Bk) (n : Nat) (hl : bs.length = n) (hbs : ccBs m n = bs) (hA0 : A[0]? = some (.int .i64 (n : Int))) (hAb : ∀ b i, b < 12 → i < 17 → A[1 + b * 17 + i]? = (bcA (m.wear b) (m.page b))[i]?) (hn : n ≤ 12)
    (ma : Option Addr) (mc : Nat) (L : List Int) (mn : Nat) (hL : L.length = mn) (hmn : mn ≤ 36) (hP : ∀ x ∈ L, x = -1 ∨ (0 ≤ x ∧ x < 48)) (o : Int) (w : World) (hI : IntsAt w ma L) :
    Calls Tryz.prog 72 #[.agg A, .slice ma mn mc, .int .i64 o] w fun e w' => e = .returned (.int .i64 (vicOf bs L o)) ∧ Below w.heap.size w w' := by
  have HAB := hide hAb
  have HBS := hide hbs
  have HL := hide hl
  have hb0 : ∀ o, Below w.heap.size w (w.alloc o) := fun o => (Below.refl _ w).alloc (Nat.le_refl _) _
  clear hAb hbs hl
  go_enter Tryz.func72, Tryz.ntmps72
  go_wp2_with fail
  refine (validCounts_any ma mc L mn hL hmn hP _ (hI.below (hb0 _) (Nat.le_refl _))).mono ?_
  rintro e w1 ⟨C, rfl, hC, hB1⟩
  have hs1 := hB1.size
  simp at hs1
  have hr1 : w1.heap[w.heap.size]? = some (.cells A 65 (0, 0)) := (hB1.block _ (by simp)).trans (World.alloc_heap_new _ _)
  have hW1 : Below w.heap.size w w1 := (hb0 _).trans (hB1.mono (by simp))
  have hc1 := (cell_of_row _ _ 0 _ _ _ hr1).trans hA0
  have HR1 := hide hr1
  have HC := hide hC
  have hCs := hC.1
  have hst : (storeCells ⟨w1.heap.size, 0, none⟩ C.toList).run Tryz.prog (w1.alloc (.cells #[.int .i64 0, .int .i64 0, .int .i64 0, .int .i64 0, .int .i64 0, .int .i64 0, .int .i64 0, .int .i64 0, .int .i64 0, .int .i64 0, .int .i64 0, .int .i64 0] 143)) = .ok () (w1.alloc (.cells C 143)) := by
    have := storeNew Tryz.prog w1 w1.heap.size rfl #[.int .i64 0, .int .i64 0, .int .i64 0, .int .i64 0, .int .i64 0, .int .i64 0, .int .i64 0, .int .i64 0, .int .i64 0, .int .i64 0, .int .i64 0, .int .i64 0] 143 C.toList (by simp [hC.1]) hC.one
    simpa only [Array.toArray_toList] using this
  have hc1' : ∀ o', (w1.alloc o').cell? ⟨w.heap.size, 0, none⟩ = some (.int .i64 (n : Int)) := fun o' => (cell_alloc_lt _ _ _ _ (by omega)).trans hc1
  clear hB1 hr1 hC hP hI hA0 hb0 hc1
  go_wp2
  clear hst hc1'
  obtain ⟨w2, hw2⟩ : ∃ w2, w2 = w1.alloc (.cells C 143) := ⟨_, rfl⟩
  have hs2 : w1.heap.size < w2.heap.size := by rw [hw2]; simp
  have HR2 : Hid (w2.heap[w.heap.size]? = some (.cells A 65 (0, 0))) := by rw [hw2]; exact (Below.heap_alloc _ _ _ (by omega)).trans (unhide HR1)
  have HC2 : Hid (w2.heap[w1.heap.size]? = some (.cells C 143 (0, 0))) := by rw [hw2]; exact World.alloc_heap_new _ _
  have hW2 : Below w.heap.size w w2 := by rw [hw2]; exact hW1.alloc hW1.size _
  rw [← hw2]
  clear hw2 HR1 hW1
  go_loopw [8, 14] (fun v i wr => ∃ k : Nat, k ≤ n ∧ i = .int .i64 k ∧ v = .int .i64 (vicTo bs L o k) ∧ Below w2.heap.size w2 wr) (fun _ i _ => n - (intOf i).toNat)
  case atStart => exact ⟨0, Nat.zero_le _, rfl, rfl, Below.refl _ _⟩
  case round =>
    obtain ⟨k, hk, rfl, rfl, hB⟩ := hrel
    have hsr := hB.size
    obtain ⟨hb1, hb2⟩ := vicTo_bounds bs L o k
    obtain ⟨best, hbest⟩ : ∃ best, best = vicTo bs L o k := ⟨_, rfl⟩
    rw [← hbest] at hb1 hb2 ⊢
    have HBE := hide hbest
    clear hbest
    by_cases hlt : k < n
    · have hki : (k : Int) < 12 := by omega
      obtain ⟨x, hx⟩ := getElem?_ex (l := bs) (k := k) (by have := unhide HL; omega)
      have hpu : ∀ t, t < 4 → pu x t = (m.page k t).used := fun t ht => pu_cc m (n := n) hlt ht (by rw [unhide HBS]; exact hx)
      have hxw : x.wear = m.wear k := by
        have e := ccBs_at m (n := n) hlt
        rw [unhide HBS, hx] at e
        cases e
        rfl
      have hblk : ∀ j, j < 17 → wr.cell? ⟨w.heap.size, 1 + k * 17 + j, none⟩ = (bcA (m.wear k) (m.page k))[j]? := fun j hj => by
        rw [hB.cell (p := ⟨w.heap.size, 1 + k * 17 + j, none⟩) (by show w.heap.size < _; omega), cell_of_row _ _ _ _ _ _ (unhide HR2)]
        exact unhide HAB k j (by omega) hj
      have HB := hide hblk
      have HPU := hide hpu
      have HX := hide hx
      have HXW := hide hxw
      clear hblk hpu hx hxw
      by_cases hko : (k : Int) = o
      · have heq : ((k : Int) == o) = true := by simpa using hko
        go_wp2
        go_roundw
        case rel => exact ⟨k + 1, by omega, by go_num, by rw [vicTo_skip (unhide HX) (.inl hko), ← unhide HBE], hB⟩
        case measure => simp [intOf]; omega
      · have heq : ((k : Int) == o) = false := by simpa using hko
        go_wp2_with (refine wpList_load_mid_g rfl 62 _ rfl w.heap.size (1 + k * 17) rfl (bcA (m.wear k) (m.page k)) 17 (bcA_size _ _) (unhide HB) _ Tryz.underlying62 rfl sizeBC ?_)
        refine (full_any _ _ x (unhide HPU) _).mono ?_
        rintro e w3 ⟨rfl, hB3⟩
        have hs3 := hB3.size
        have hBB : Below w2.heap.size w2 w3 := hB.trans (hB3.mono hB.size)
        clear HB HPU hB3 hB
        generalize bcA (m.wear k) (m.page k) = A2
        cases hfu : fullB x with
        | false =>
          go_wp2
          go_roundw
          case rel => exact ⟨k + 1, by omega, by go_num, by rw [vicTo_skip (unhide HX) (.inr hfu), ← unhide HBE], hBB⟩
          case measure => simp [intOf]; omega
        | true =>
          obtain ⟨V1, hV1⟩ : ∃ V1 : Int, V1 = (validIn L (k : Int) : Int) := ⟨_, rfl⟩
          have hck : w3.cell? ⟨w1.heap.size, k, none⟩ = some (.int .i64 V1) := by
            rw [hBB.cell (p := ⟨w1.heap.size, k, none⟩) hs2, cell_of_row _ _ _ _ _ _ (unhide HC2), hV1]
            exact (unhide HC).2 k (by omega)
          have hwk : w3.cell? ⟨w.heap.size, 1 + k * 17, none⟩ = some (.int .i64 x.wear) := by
            rw [hBB.cell (p := ⟨w.heap.size, 1 + k * 17, none⟩) (by show w.heap.size < _; omega), cell_of_row _ _ _ _ _ _ (unhide HR2), unhide HXW]
            exact (unhide HAB k 0 (by omega) (by omega)).trans ((bcA_get _ _ (i := 0) (by omega)).trans rfl)
          have HVK := hide hV1
          clear hV1
          by_cases hbn : best < 0
          · go_wp2_with fail
            go_quiet (fail)
            go_wp2
            go_roundw
            case rel => exact ⟨k + 1, by omega, by go_num, by rw [vicTo_take (unhide HX) hko hfu (by rw [← unhide HBE]; exact beats_neg hbn)], Below.drewN hBB _⟩
            case measure => simp [intOf]; omega
          · obtain ⟨kb, hkb⟩ : ∃ kb : Nat, best = (kb : Int) := ⟨best.toNat, by omega⟩
            subst hkb
            have hkbi : (kb : Int) < 12 := by omega
            obtain ⟨xb, hxb⟩ := getElem?_ex (l := bs) (k := kb) (by have := unhide HL; omega)
            have hwa := wearAt_of hxb
            have hxbw : xb.wear = m.wear kb := by
              have e := ccBs_at m (n := n) (b := kb) (by omega)
              rw [unhide HBS, hxb] at e
              cases e
              rfl
            obtain ⟨V2, hV2⟩ : ∃ V2 : Int, V2 = (validIn L (kb : Int) : Int) := ⟨_, rfl⟩
            have hcb : w3.cell? ⟨w1.heap.size, kb, none⟩ = some (.int .i64 V2) := by
              rw [hBB.cell (p := ⟨w1.heap.size, kb, none⟩) hs2, cell_of_row _ _ _ _ _ _ (unhide HC2), hV2]
              exact (unhide HC).2 kb (by omega)
            have hwb : w3.cell? ⟨w.heap.size, 1 + kb * 17, none⟩ = some (.int .i64 xb.wear) := by
              rw [hBB.cell (p := ⟨w.heap.size, 1 + kb * 17, none⟩) (by show w.heap.size < _; omega), cell_of_row _ _ _ _ _ _ (unhide HR2), hxbw]
              exact (unhide HAB kb 0 (by omega) (by omega)).trans ((bcA_get _ _ (i := 0) (by omega)).trans rfl)
            have HVB := hide hV2
            have HWA := hide hwa
            clear hV2 hwa hxbw hxb
            by_cases hv1 : V1 < V2
            · go_wp2_with fail
              go_quiet (fail)
              go_wp2
              go_roundw
              case rel => exact ⟨k + 1, by omega, by go_num, by rw [vicTo_take (unhide HX) hko hfu (by rw [← unhide HBE]; exact beats_few (by have := unhide HVK; have := unhide HVB; omega))], Below.drewN hBB _⟩
              case measure => simp [intOf]; omega
            · have hv1' : V2 ≤ V1 := by omega
              by_cases hv2 : V1 = V2
              · have hv2' : (V1 == V2) = true := by simpa using hv2
                have HE := hide hv2
                clear hv2
                by_cases hw : x.wear < xb.wear
                · go_wp2_with fail
                  go_quiet (fail)
                  go_wp2_with fail
                  go_quiet (fail)
                  go_wp2
                  go_roundw
                  case rel => exact ⟨k + 1, by omega, by go_num, by rw [vicTo_take (unhide HX) hko hfu (by rw [← unhide HBE]; exact beats_wear (by have := unhide HVK; have := unhide HVB; have := unhide HE; omega) (unhide HWA) hw)], Below.drewN hBB _⟩
                  case measure => simp [intOf]; omega
                · have hw' : xb.wear ≤ x.wear := by omega
                  go_wp2_with fail
                  go_quiet (fail)
                  go_wp2_with fail
                  go_quiet (fail)
                  go_wp2
                  go_roundw
                  case rel => exact ⟨k + 1, by omega, by go_num, by rw [vicTo_keep (unhide HX) hko hfu (by rw [← unhide HBE]; exact beats_worn (by omega) (by have := unhide HVK; have := unhide HVB; have := unhide HE; omega) (unhide HWA) hw'), ← unhide HBE], Below.drewN hBB _⟩
                  case measure => simp [intOf]; omega
              · have hv2' : (V1 == V2) = false := by simpa using hv2
                go_wp2_with fail
                go_quiet (fail)
                go_wp2_with fail
                go_quiet (fail)
                go_wp2
                go_roundw
                case rel => exact ⟨k + 1, by omega, by go_num, by rw [vicTo_keep (unhide HX) hko hfu (by rw [← unhide HBE]; exact beats_more (by omega) (by have := unhide HVK; have := unhide HVB; omega)), ← unhide HBE], Below.drewN hBB _⟩
                case measure => simp [intOf]; omega
    · obtain rfl : k = n := by omega
      have hW := hW2.trans (hB.mono hW2.size)
      have e : vicOf bs L o = best := by rw [unhide HBE]; unfold vicOf; rw [unhide HL]
      have HEND := hide e
      clear e
      go_wp2
      go_ret
      exact ⟨by rw [unhide HEND]; rfl, hW⟩

end Go.Proofs.YtalgkmellbamgaaGreat

/- The laws' own marks: each field of each page and block is written with a number of its own, and found there again. -/
namespace Go.Proofs.YtalgkmellbamgaaGreat
open Go.RowKit
set_option linter.unusedVariables false

/-- The digits of m ahead of s. -/
def mtF : Nat → Nat → ByteArray → ByteArray
  | 0, _, s => s
  | f + 1, m, s => if 0 < m then mtF f (m / 10) (strOfNums [48 + (m : Int) % 10] ++ s) else s
/-- The text of a mark. -/
def mt (k : Nat) : ByteArray := ⟨#[109]⟩ ++ mtF k k ⟨#[]⟩

theorem mtF_zero (f : Nat) (s : ByteArray) : mtF f 0 s = s := by cases f <;> simp [mtF]
theorem mtF_step (f m : Nat) (s : ByteArray) (hm : 0 < m) (hf : m ≤ f) : ∃ g, m / 10 ≤ g ∧ mtF f m s = mtF g (m / 10) (strOfNums [48 + (m : Int) % 10] ++ s) := by
  cases f with
  | zero => omega
  | succ g => exact ⟨g, by omega, by simp [mtF, hm]⟩

theorem conv1 (x : Int) (w : World) : (convert 22 9 (.slice (some ⟨w.heap.size, 0, none⟩) 1 1)).run Tryz.prog (w.alloc (.cells #[.int .u8 x] 5)) = .ok (.string (strOfNums [x])) (w.alloc (.cells #[.int .u8 x] 5)) :=
  run_convert_bytes_arg _ 22 5 Tryz.underlying22 Tryz.underlying5 w.heap.size 0 1 1 [x] rfl (fun i hi => by
    obtain rfl : i = 0 := by omega
    simp) 9 Tryz.underlying9

set_option maxRecDepth 100000 in
set_option maxHeartbeats 1000000 in
theorem markText_any (k : Int) (w : World) (h0 : 0 < k) (h1 : k ≤ 1125899906842624) :
    Calls Tryz.prog 59 #[.int .i64 k] w fun e w' => e = .returned (.string (mt k.toNat)) ∧ Below w.heap.size w w' := by
  go_enter Tryz.func59, Tryz.ntmps59
  go_wp2
  go_loopw [0, 3] (fun i v wr => ∃ (m f : Nat) (s : ByteArray), i = .int .i64 m ∧ v = .string s ∧ s.size + m ≤ k ∧ m ≤ f ∧ mtF f m s = mtF k.toNat k.toNat ⟨#[]⟩ ∧ Below w.heap.size w wr) (fun i _ _ => (intOf i).toNat)
  case atStart => exact ⟨k.toNat, k.toNat, _, by simp; omega, rfl, by simp [ByteArray.size]; omega, Nat.le_refl _, rfl, Below.refl _ _⟩
  case round =>
    obtain ⟨m, f, s, rfl, rfl, hs, hf, he, hB⟩ := hrel
    have HE := hide he
    clear he
    by_cases hm : 0 < m
    · have hcv := conv1 (48 + (m : Int) % 10) wr
      have hz := strOfNums_size [48 + (m : Int) % 10]
      generalize hx : strOfNums [48 + (m : Int) % 10] = x at hcv hz
      have HX := hide hx
      have hz1 : x.size ≤ 1 := by simp at hz; omega
      clear hz hx
      go_wp2
      obtain ⟨g, hg, hge⟩ := mtF_step f m s hm hf
      rw [unhide HX] at hge
      refine ⟨⟨m / 10, g, x ++ s, by go_num, rfl, by rw [ByteArray.size_append]; omega, hg, by rw [← hge]; exact unhide HE, hB.alloc hB.size _⟩, by simp [intOf]; omega⟩
    · obtain rfl : m = 0 := by omega
      go_wp2
      go_ret
      refine ⟨?_, hB⟩
      have := unhide HE
      rw [mtF_zero] at this
      rw [this]
      rfl

/-- A page that bears the marks from k on. -/
def mkPg (k : Int) : Pg := ⟨k % 3 == 0, k + 1, k + 1 + 1, mt (k + 1 + 1 + 1).toNat⟩
def markPs (k : Int) (n : Nat) : List Pg := (List.range n).map fun (i : Nat) => mkPg (k + 4 * (i : Int))
def markTo (k : Int) (ps : List Pg) (j : Nat) : List Pg := markPs k j ++ ps.drop j

theorem markPs_length (k : Int) (n : Nat) : (markPs k n).length = n := by simp [markPs]
theorem markPs_at (k : Int) {n i : Nat} (hi : i < n) : (markPs k n)[i]? = some (mkPg (k + 4 * (i : Int))) := by simp [markPs, hi]
theorem markTo_length (k : Int) (ps : List Pg) {j : Nat} (hj : j ≤ ps.length) : (markTo k ps j).length = ps.length := by simp [markTo, markPs_length]; omega
theorem markTo_zero (k : Int) (ps : List Pg) : markTo k ps 0 = ps := by simp [markTo, markPs]
theorem markTo_full (k : Int) (ps : List Pg) : markTo k ps ps.length = markPs k ps.length := by simp [markTo]
theorem markTo_step (k : Int) (ps : List Pg) {j : Nat} (hj : j < ps.length) : (markTo k ps j).set j (mkPg (k + 4 * (j : Int))) = markTo k ps (j + 1) := by
  have h1 : markPs k (j + 1) = markPs k j ++ [mkPg (k + 4 * (j : Int))] := by simp [markPs, List.range_succ]
  unfold markTo
  rw [h1, List.set_append_right _ _ (by simp [markPs_length]), markPs_length, Nat.sub_self, List.append_assoc]
  congr 1
  rw [List.drop_eq_getElem_cons hj]
  rfl

set_option maxRecDepth 100000 in
set_option maxHeartbeats 1000000 in
theorem markPageS_any (b c : Nat) (ps : List Pg) (k : Int) (w : World) (h : OwnPages w 59 b ps.length ps) (hn : ps.length ≤ 1048576) (h0 : 0 < k) (h1 : k + 4 * ps.length ≤ 1125899906842624) :
    Calls Tryz.prog 120 #[.slice (some ⟨b, 0, none⟩) ps.length c, .int .i64 k] w fun e w' => e = .returned (.int .i64 (k + 4 * ps.length)) ∧ OwnPages w' 59 b ps.length (markPs k ps.length) ∧ Touch (· = b) w w' := by
  go_enter Tryz.func120, Tryz.ntmps120
  go_wp2
  go_loopw [1, 5] (fun v i wr => ∃ j : Nat, j ≤ ps.length ∧ i = .int .i64 j ∧ v = .int .i64 (k + 4 * (j : Int)) ∧ OwnPages wr 59 b ps.length (markTo k ps j) ∧ Touch (· = b) w wr) (fun _ i _ => ps.length - (intOf i).toNat)
  case atStart => exact ⟨0, Nat.zero_le _, rfl, by simp, by rw [markTo_zero]; exact h, Touch.refl _ _⟩
  case round =>
    obtain ⟨j, hj, rfl, rfl, hO, hT⟩ := hrel
    by_cases hlt : j < ps.length
    · obtain ⟨⟨v0, c0⟩, ⟨v1, c1⟩, ⟨v2, c2⟩, ⟨v3, c3⟩⟩ := hO.cells hlt
      have f0 := World.rowIs.frozen hO
      have hlb := World.rowIs.lt hO
      clear h
      go_wp2_with fail
      refine (markText_any _ _ (by omega) (by omega)).mono ?_
      rintro e w1 ⟨rfl, hc⟩
      have h3 := World.rowIs.set (World.rowIs.set (World.rowIs.set hO (j * 4) (Value.bool ((k + 4 * (j : Int)) % 3 == 0))) (j * 4 + 1) (Value.int .i64 (k + 4 * (j : Int) + 1))) (j * 4 + 2) (Value.int .i64 (k + 4 * (j : Int) + 1 + 1))
      have h4 := h3.of_block (hc.block b (by simpa using hlb))
      have c3' := h4.cell (i := j * 4 + 3) (by omega)
      have f3' := h4.frozen
      have H4 := hide h4
      have HC := hide hc
      clear h3 h4 hc c0 c1 c2 c3 f0
      go_wp2
      go_roundw
      case rel =>
        refine ⟨j + 1, by omega, by go_num, by go_num, ?_, ?_⟩
        · refine ((unhide H4).set (j * 4 + 3) _).congr (fun x _ => ?_)
          rw [← markTo_step k ps hlt]
          exact pgsF_set (p := mkPg (k + 4 * (j : Int))) (by rw [markTo_length k ps hj]; exact hlt) x
        · exact ((((hT.setCell rfl _).setCell rfl _).setCell rfl _).trans (Touch.of_below (unhide HC))).setCell rfl _
      case measure => simp [intOf]; omega
    · have hk' : j = ps.length := by omega
      subst hk'
      rw [markTo_full] at hO
      go_wp2
      go_ret
      exact ⟨rfl, hO, hT⟩

set_option maxRecDepth 100000 in
set_option maxHeartbeats 1000000 in
theorem heldPageS_any (a : Option Addr) (c n : Nat) (k : Int) (w : World) (h : PagesAt w a (markPs k n)) (hn : n ≤ 1048576) (h0 : 0 < k) (h1 : k + 4 * n ≤ 1125899906842624) :
    Calls Tryz.prog 121 #[.slice a n c, .int .i64 k] w fun e w' => e = .returned (.int .i64 (k + 4 * n)) ∧ Below w.heap.size w w' := by
  go_enter Tryz.func121, Tryz.ntmps121
  go_wp2
  go_loopw [1, 5] (fun v i wr => ∃ j : Nat, j ≤ n ∧ i = .int .i64 j ∧ v = .int .i64 (k + 4 * (j : Int)) ∧ Below w.heap.size w wr) (fun _ i _ => n - (intOf i).toNat)
  case atStart => exact ⟨0, Nat.zero_le _, rfl, by simp, Below.refl _ _⟩
  case round =>
    obtain ⟨j, hj, rfl, rfl, hB⟩ := hrel
    by_cases hlt : j < n
    · obtain ⟨b1, o1, rfl, g10, g11, g12, g13⟩ := (h.below hB (Nat.le_refl _)) j _ (markPs_at k hlt)
      have hb1 : b1 < wr.heap.size := World.block_lt_of_cell? _ _ g10
      simp only [mkPg] at g10 g11 g12 g13
      clear h
      go_wp2
      go_region_held3 (fun W => ∀ b o, b < wr.heap.size → W.cell? ⟨b, o, none⟩ = wr.cell? ⟨b, o, none⟩) (first | (intro b o hb; simp; done) | (intro b o hb; rw [hc.cell (p := ⟨b, o, none⟩) hb]; rfl))
        (first | (go_at_call 59; refine (markText_any _ _ (by omega) (by omega)).mono ?_; rintro e w1 ⟨rfl, hc⟩))
      go_wp2
      go_roundw
      case rel => exact ⟨j + 1, by omega, by go_num, by go_num, hB.drew.trans (hc.mono hB.size)⟩
      case measure => simp [intOf]; omega
    · have hk' : j = n := by omega
      subst hk'
      go_wp2
      go_ret
      exact ⟨rfl, hB⟩

/-- The number behind all marks of the blocks. -/
def kAfter (k : Int) : List Bk → Int
  | [] => k
  | b :: r => kAfter (k + 1 + 4 * (b.pages.length : Int)) r
def markBs (k : Int) : List Bk → List Bk
  | [] => []
  | b :: r => ⟨k, markPs (k + 1) b.pages.length⟩ :: markBs (k + 1 + 4 * (b.pages.length : Int)) r

theorem kAfter_snoc (l : List Bk) (b : Bk) : ∀ k, kAfter k (l ++ [b]) = kAfter k l + 1 + 4 * (b.pages.length : Int) := by
  induction l with
  | nil => intro k; rfl
  | cons c l ih => intro k; exact ih _
theorem markBs_snoc (l : List Bk) (b : Bk) : ∀ k, markBs k (l ++ [b]) = markBs k l ++ [⟨kAfter k l, markPs (kAfter k l + 1) b.pages.length⟩] := by
  induction l with
  | nil => intro k; rfl
  | cons c l ih => intro k; show _ :: markBs _ (l ++ [b]) = _; rw [ih]; rfl
theorem markBs_length (l : List Bk) : ∀ k, (markBs k l).length = l.length := by
  induction l with
  | nil => intro k; rfl
  | cons c l ih => intro k; show (markBs _ l).length + 1 = l.length + 1; rw [ih]
theorem kAfter_le (l : List Bk) : ∀ k, k ≤ kAfter k l := by
  induction l with
  | nil => intro k; exact Int.le_refl _
  | cons c l ih => intro k; have := ih (k + 1 + 4 * (c.pages.length : Int)); show k ≤ kAfter _ l; omega
theorem kAfter_append (l m : List Bk) : ∀ k, kAfter k (l ++ m) = kAfter (kAfter k l) m := by
  induction l with
  | nil => intro k; rfl
  | cons c l ih => intro k; exact ih _
theorem take_snoc {l : List Bk} {i : Nat} {b : Bk} (h : l[i]? = some b) : l.take (i + 1) = l.take i ++ [b] := by
  obtain ⟨hi, rfl⟩ := List.getElem?_eq_some_iff.1 h
  rw [List.take_succ_eq_append_getElem hi]
theorem kAfter_take {l : List Bk} {i : Nat} {b : Bk} (h : l[i]? = some b) (k : Int) : kAfter k (l.take i) + 1 + 4 * (b.pages.length : Int) ≤ kAfter k l := by
  have e : l = l.take (i + 1) ++ l.drop (i + 1) := (List.take_append_drop _ _).symm
  have h1 : kAfter k l = kAfter (kAfter k (l.take (i + 1))) (l.drop (i + 1)) := by rw [← kAfter_append, ← e]
  rw [h1, take_snoc h, kAfter_snoc]
  exact kAfter_le _ _

def markBTo (k : Int) (bs : List Bk) (i : Nat) : List Bk := markBs k (bs.take i) ++ bs.drop i
theorem markBTo_zero (k : Int) (bs : List Bk) : markBTo k bs 0 = bs := by simp [markBTo, markBs]
theorem markBTo_full (k : Int) (bs : List Bk) : markBTo k bs bs.length = markBs k bs := by simp [markBTo]
theorem markBTo_at (k : Int) {bs : List Bk} {i : Nat} {b : Bk} (h : bs[i]? = some b) : (markBTo k bs i)[i]? = some b := by
  obtain ⟨hi, rfl⟩ := List.getElem?_eq_some_iff.1 h
  unfold markBTo
  rw [List.getElem?_append_right (by rw [markBs_length]; simp; omega), markBs_length]
  simp [Nat.min_eq_left (Nat.le_of_lt hi), hi]
theorem markBTo_step (k : Int) {bs : List Bk} {i : Nat} {b : Bk} (h : bs[i]? = some b) : (markBTo k bs i).set i ⟨kAfter k (bs.take i), markPs (kAfter k (bs.take i) + 1) b.pages.length⟩ = markBTo k bs (i + 1) := by
  obtain ⟨hi, hb⟩ := List.getElem?_eq_some_iff.1 h
  have hl : (markBs k (bs.take i)).length = i := by rw [markBs_length]; simp; omega
  unfold markBTo
  rw [take_snoc h, markBs_snoc, List.set_append_right _ _ (by omega), hl, Nat.sub_self, List.append_assoc]
  congr 1
  rw [List.drop_eq_getElem_cons hi]
  rfl
theorem markBs_at (k : Int) {bs : List Bk} {i : Nat} {b : Bk} (h : bs[i]? = some b) : (markBs k bs)[i]? = some ⟨kAfter k (bs.take i), markPs (kAfter k (bs.take i) + 1) b.pages.length⟩ := by
  have hi : i < bs.length := (List.getElem?_eq_some_iff.1 h).1
  have e : markBs k bs = markBs k (bs.take (i + 1) ++ bs.drop (i + 1)) := by rw [List.take_append_drop]
  have ap : ∀ (l m : List Bk) k, markBs k (l ++ m) = markBs k l ++ markBs (kAfter k l) m := by
    intro l
    induction l with
    | nil => intro m k; rfl
    | cons c l ih => intro m k; show _ :: markBs _ (l ++ m) = _; rw [ih]; rfl
  rw [e, ap, take_snoc h, markBs_snoc, List.getElem?_append_left (by simp [markBs_length]; omega), List.getElem?_append_right (by rw [markBs_length]; simp; omega), markBs_length]
  simp [Nat.min_eq_left (Nat.le_of_lt hi)]

set_option maxRecDepth 100000 in
set_option maxHeartbeats 1000000 in
theorem markBlockS_any (g : Nat) (H : Nat → Nat) (c : Nat) (bs : List Bk) (k : Int) (w : World) (h : OwnBlocks w 120 59 g H bs.length bs) (hn : Lens 1048576 bs) (h0 : 0 < k) (h1 : kAfter k bs ≤ 1125899906842624) :
    Calls Tryz.prog 92 #[.slice (some ⟨g, 0, none⟩) bs.length c, .int .i64 k] w fun e w' => e = .returned (.int .i64 (kAfter k bs)) ∧ OwnBlocks w' 120 59 g H bs.length (markBs k bs) ∧ Touch (fun j => j = g ∨ ∃ i, i < bs.length ∧ j = H i) w w' := by
  have hn1 := hn.1
  go_enter Tryz.func92, Tryz.ntmps92
  go_wp2
  go_loopw [1, 5] (fun v i wr => ∃ j : Nat, j ≤ bs.length ∧ i = .int .i64 j ∧ v = .int .i64 (kAfter k (bs.take j)) ∧ OwnBlocks wr 120 59 g H bs.length (markBTo k bs j) ∧ Touch (fun j => j = g ∨ ∃ i, i < bs.length ∧ j = H i) w wr) (fun _ i _ => bs.length - (intOf i).toNat)
  case atStart => exact ⟨0, Nat.zero_le _, rfl, rfl, by rw [markBTo_zero]; exact h, Touch.refl _ _⟩
  case round =>
    obtain ⟨j, hj, rfl, rfl, hO, hT⟩ := hrel
    by_cases hlt : j < bs.length
    · obtain ⟨b, hb⟩ := getElem?_ex hlt
      have hbt := markBTo_at k hb
      have c0 := hO.row.cell (i := j * 2 + 0) (by omega)
      have c1 := hO.row.cell (i := j * 2 + 1) (by omega)
      rw [bksF_at H hbt 0 (by omega)] at c0
      rw [bksF_at H hbt 1 (by omega)] at c1
      simp only [bkV, Nat.add_zero] at c0 c1
      have f0 := hO.row.frozen
      have hlb := hO.row.lt
      have hpl := hn.at hb
      have hka := kAfter_take hb k
      have hkb := kAfter_le (bs.take j) k
      have hW := hO.setWear hbt (kAfter k (bs.take j))
      have hset : ((markBTo k bs j).set j ⟨kAfter k (bs.take j), b.pages⟩)[j]? = some ⟨kAfter k (bs.take j), b.pages⟩ := by
        have : j < (markBTo k bs j).length := (List.getElem?_eq_some_iff.1 hbt).1
        simp [this]
      have HS := hide hset
      have HB := hide hb
      have HBT := hide hbt
      generalize hkk : kAfter k (bs.take j) = kk at *
      have HK := hide hkk
      clear h hset hb hbt hkk
      go_wp2_with fail
      refine (markPageS_any _ _ b.pages _ _ (hW.pages j ⟨kk, b.pages⟩ (unhide HS)) hpl (by omega) (by omega)).mono ?_
      rintro e w1 ⟨rfl, hP, hT1⟩
      have h2 := hW.setPages (unhide HS) (ps := markPs (kk + 1) b.pages.length) (markPs_length _ _) hP hT1
      clear hW c0 c1 f0 hP
      have H2 := hide h2
      have HT1 := hide hT1
      clear h2 hT1 hO
      go_wp2
      go_roundw
      case rel =>
        refine ⟨j + 1, by omega, by go_num, ?_, ?_, ?_⟩
        · rw [take_snoc (unhide HB), kAfter_snoc, unhide HK]
        · have h3 := unhide H2
          rw [List.set_set] at h3
          have h4 := markBTo_step k (unhide HB)
          rw [unhide HK] at h4
          rw [← h4]
          exact h3
        · exact (hT.setCell (Or.inl rfl) _).trans ((unhide HT1).mono (fun x hx => Or.inr ⟨j, hlt, hx⟩))
      case measure => simp [intOf]; omega
    · have hk' : j = bs.length := by omega
      subst hk'
      rw [markBTo_full] at hO
      rw [List.take_length]
      go_wp2
      go_ret
      exact ⟨rfl, hO, hT⟩

set_option maxRecDepth 100000 in
set_option maxHeartbeats 1000000 in
theorem heldBlockS_any (a : Option Addr) (c : Nat) (bs : List Bk) (k : Int) (w : World) (h : BlocksAt w a (markBs k bs)) (hn : Lens 1048576 bs) (h0 : 0 < k) (h1 : kAfter k bs ≤ 1125899906842624) :
    Calls Tryz.prog 93 #[.slice a bs.length c, .int .i64 k] w fun e w' => e = .returned (.int .i64 (kAfter k bs)) ∧ Below w.heap.size w w' := by
  have hn1 := hn.1
  go_enter Tryz.func93, Tryz.ntmps93
  go_wp2
  go_loopw [1, 5] (fun v i wr => ∃ j : Nat, j ≤ bs.length ∧ i = .int .i64 j ∧ v = .int .i64 (kAfter k (bs.take j)) ∧ Below w.heap.size w wr) (fun _ i _ => bs.length - (intOf i).toNat)
  case atStart => exact ⟨0, Nat.zero_le _, rfl, rfl, Below.refl _ _⟩
  case round =>
    obtain ⟨j, hj, rfl, rfl, hB⟩ := hrel
    by_cases hlt : j < bs.length
    · obtain ⟨b, hb⟩ := getElem?_ex hlt
      obtain ⟨b1, o1, pa, pc, rfl, g10, g11, q⟩ := (h.below hB (Nat.le_refl _)) j _ (markBs_at k hb)
      have hpl := hn.at hb
      have hka := kAfter_take hb k
      have hkb := kAfter_le (bs.take j) k
      simp only [markPs_length] at g10 g11
      have HB := hide hb
      generalize hkk : kAfter k (bs.take j) = kk at *
      have HK := hide hkk
      clear h hb hkk
      go_wp2_with fail
      refine (heldPageS_any _ _ b.pages.length _ _ q hpl (by omega) (by omega)).mono ?_
      rintro e w1 ⟨rfl, hc⟩
      clear g10 g11 q
      go_wp2
      go_roundw
      case rel =>
        refine ⟨j + 1, by omega, by go_num, ?_, hB.trans (hc.mono hB.size)⟩
        rw [take_snoc (unhide HB), kAfter_snoc, unhide HK]
      case measure => simp [intOf]; omega
    · have hk' : j = bs.length := by omega
      subst hk'
      rw [List.take_length]
      go_wp2
      go_ret
      exact ⟨rfl, hB⟩

theorem markChip_any (g : Nat) (H : Nat → Nat) (c : Nat) (bs : List Bk) (k : Int) (w : World) (h : OwnBlocks w 120 59 g H bs.length bs) (hn : Lens 1048576 bs) (h0 : 0 < k) (h1 : kAfter k bs ≤ 1125899906842624) :
    Calls Tryz.prog 56 #[.agg #[.slice (some ⟨g, 0, none⟩) bs.length c], .int .i64 k] w fun e w' => e = .returned (.int .i64 (kAfter k bs)) ∧ OwnBlocks w' 120 59 g H bs.length (markBs k bs) ∧ Touch (fun j => j = g ∨ ∃ i, i < bs.length ∧ j = H i) w w' := by
  go_enter Tryz.func56, Tryz.ntmps56
  go_wp2_with fail
  have hb0 : ∀ o1, Below w.heap.size w (w.alloc o1) := fun o1 => (Below.refl _ w).alloc (Nat.le_refl _) _
  refine (markBlockS_any g H c bs k _ (h.below (hb0 _) (Nat.le_refl _)) hn h0 h1).mono ?_
  rintro e w1 ⟨rfl, hO, hT⟩
  have HO := hide hO
  have HT := hide hT
  clear h hO hT
  go_wp2
  go_ret
  exact ⟨rfl, unhide HO, (Touch.of_below (hb0 _)).trans (unhide HT)⟩

theorem heldChip_any (a : Option Addr) (c : Nat) (bs : List Bk) (k : Int) (w : World) (h : BlocksAt w a (markBs k bs)) (hn : Lens 1048576 bs) (h0 : 0 < k) (h1 : kAfter k bs ≤ 1125899906842624) :
    Calls Tryz.prog 57 #[.agg #[.slice a bs.length c], .int .i64 k] w fun e w' => e = .returned (.int .i64 (kAfter k bs)) ∧ Below w.heap.size w w' := by
  have hkb := kAfter_le bs k
  go_enter Tryz.func57, Tryz.ntmps57
  go_wp2_with fail
  have hb0 : ∀ o1, Below w.heap.size w (w.alloc o1) := fun o1 => (Below.refl _ w).alloc (Nat.le_refl _) _
  refine (heldBlockS_any a c bs k _ (h.below (hb0 _) (Nat.le_refl _)) hn h0 h1).mono ?_
  rintro e w1 ⟨rfl, hc⟩
  clear h
  go_wp2
  go_ret
  exact ⟨rfl, (hb0 _).trans (hc.mono (by simp))⟩
set_option maxRecDepth 100000 in
theorem markBlockS_nil (k : Int) (w : World) : Calls Tryz.prog 92 #[.slice none 0 0, .int .i64 k] w fun e w' => e = .returned (.int .i64 k) ∧ w' = w := by
  go_enter Tryz.func92, Tryz.ntmps92
  go_wp2
  go_loopw [1, 5] (fun v i wr => i = .int .i64 0 ∧ v = .int .i64 k ∧ wr = w) (fun _ _ _ => 0)
  case atStart => exact ⟨rfl, rfl, rfl⟩
  case round =>
    obtain ⟨rfl, rfl, rfl⟩ := hrel
    go_wp2
    go_ret
    exact ⟨rfl, rfl⟩

theorem markChip_nil (k : Int) (w : World) : Calls Tryz.prog 56 #[.agg #[.slice none 0 0], .int .i64 k] w fun e w' => e = .returned (.int .i64 k) ∧ Below w.heap.size w w' := by
  go_enter Tryz.func56, Tryz.ntmps56
  go_wp2_with fail
  refine (markBlockS_nil k _).mono ?_
  rintro e w1 ⟨rfl, rfl⟩
  go_wp2
  go_ret
  exact ⟨rfl, (Below.refl _ w).alloc (Nat.le_refl _) _⟩
end Go.Proofs.YtalgkmellbamgaaGreat
