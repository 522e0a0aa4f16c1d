/- How many pages of each block are the newest of their log: the program's validCounts and ValidOf. -/
import Derived.Test.YtageolbmplhgaaaNamI
import Derived.Test.YtageolbmplhgaaaRightI
namespace Go.Proofs.Ytageolbmplhgaaa
open Go.RowKit Go.Shelf
set_option linter.unusedVariables false
set_option linter.unusedSimpArgs false
attribute [local go_sem] Oper.semAt_some

/-- The row A of twelve numbers tells, of each block, how many places of L lie in it. -/
def IsCnt (A : Array Value) (L : List Int) : Prop := A.size = 12 ∧ ∀ i : Nat, i < 12 → A[i]? = some (.int .i64 (validIn L (i : Int)))
theorem IsCnt.nil : IsCnt #[.int .i64 0, .int .i64 0, .int .i64 0, .int .i64 0, .int .i64 0, .int .i64 0, .int .i64 0, .int .i64 0, .int .i64 0, .int .i64 0, .int .i64 0, .int .i64 0] [] := by
  refine ⟨rfl, fun i hi => ?_⟩
  rw [validIn_nil]
  match i, hi with
  | 0, _ | 1, _ | 2, _ | 3, _ | 4, _ | 5, _ | 6, _ | 7, _ | 8, _ | 9, _ | 10, _ | 11, _ => rfl
  | i + 12, h => omega
theorem IsCnt.one {A : Array Value} {L : List Int} (h : IsCnt A L) : ∀ v ∈ A.toList, v.oneCell' = true := by
  intro v hv
  have hv' : v ∈ A := by simpa using hv
  obtain ⟨i, hi, rfl⟩ := Array.mem_iff_getElem.1 hv'
  have e := h.2 i (by rw [← h.1]; exact hi)
  rw [Array.getElem?_eq_getElem hi] at e
  rw [Option.some.inj e]
  rfl
theorem IsCnt.named {A : Array Value} {L : List Int} (h : IsCnt A (namedOf L)) : IsCnt A L := ⟨h.1, fun i hi => by rw [h.2 i hi, validIn_named]⟩
theorem IsCnt.snoc {A : Array Value} {L : List Int} (h : IsCnt A L) (x : Int) (q : Nat) (hq : x / 4 = (q : Int)) (h0 : 0 ≤ x) (h12 : q < 12) : IsCnt (A.setIfInBounds q (.int .i64 ((validIn L (q : Int) : Int) + 1))) (L ++ [x]) := by
  refine ⟨by simp [h.1], fun i hi => ?_⟩
  rw [validIn_snoc, Array.getElem?_setIfInBounds]
  by_cases e : q = i
  · subst e
    have hh : hit (q : Int) x = true := by simp [hit, h0, hq]
    simp [hh, h.1, h12]
  · have hh : hit (i : Int) x = false := by
      have : ¬ (x / 4 = (i : Int)) := by rw [hq]; omega
      simp [hit, this]
    rw [if_neg e, h.2 i hi, hh]
    simp
theorem sizeCnt : (Try.prog.info? 101).map (·.size) = some 12 := by kernel_rfl

def CntI (w : World) (pre : List Int) (W : World) : Prop :=
  ∃ Z A : Array Value, Z.size = 12 ∧ IsCnt A pre ∧ W.heap[w.heap.size]? = some (.cells Z 101 (0, 0)) ∧ W.heap[w.heap.size + 1]? = some (.cells A 101 (0, 0)) ∧ w.heap.size + 1 + 1 < W.heap.size
theorem CntI.own (w : World) (p : List Int) {W W' : World} {row : Option Nat} (h : CntI w p W) (hg : W.grownBy W' row) (hr : ∀ r, row = some r → ∃ o : Obj, W.heap[r]? = some o ∧ o.isCells = false) : CntI w p W' := by
  obtain ⟨Z, A, hz, ha, h1, h2, h4⟩ := h
  exact ⟨Z, A, hz, ha, blk_kept h1 hg hr, blk_kept h2 hg hr, Nat.lt_of_lt_of_le h4 hg.size⟩

/-- One of the elements of an array, each of one cell. -/
theorem run_index_one {P : Program} (w : World) (ty e : TypeId) (N : Nat) (C : Array Value) (hC : C.size = N) (k : Nat) (hk : k < N) (v : Value) (hv : C[k]? = some v) (hu : P.underlying ty = some (.array N e)) (hue : P.underlying e = some (.int .i64)) (hi : (P.info? e).map (·.size) = some 1) :
    (Instr.index ty (.agg C) (.int .i64 (k : Int))).run P w = .ok v w := by
  cases hq : P.info? e with
  | none => simp [hq] at hi
  | some i =>
    have hs : i.size = 1 := by simpa [hq] using hi
    have hagg : (isAgg e).run P w = .ok false w := by
      unfold isAgg
      rw [Sem.run_bind, run_underlying hue w]
      rfl
    have hlt : (0 : Int) ≤ (k : Int) ∧ (k : Int) < (N : Int) := by omega
    simp [Instr.index, asIntOf, run_underlying hu, hlt, part, hagg, sizeOf, typeInfo, hq, hs, hk, hv]

theorem CntI.ownS (w : World) (B : Nat) : OwnFrom B (fun (pre : List {x : Int // 0 ≤ x ∧ x < 48}) W => CntI w (pre.map (fun y => y.val)) W) := fun p W W' row h hg hr => CntI.own w _ h hg (fun r e => (hr r e).2)
theorem results_cell1 {P : Program} {fn : Func} (r ty : Nat) (hr : fn.results = #[.cell r ty]) (tm : Array Value) (W : World) (g : Addr) (A : Array Value)
    (h1 : tm.getD r undef = .pointer (some g)) (h2 : (loadVar ty g).run P W = .ok (.agg A) W) : (results fn tm).run P W = .ok (.agg A) W := by
  unfold results
  rw [hr]
  have h1' : tm[r]?.getD undef = .pointer (some g) := by simpa using h1
  simp [h2, Sem.run_bind, h1', asAddr]

set_option maxRecDepth 100000 in
set_option maxHeartbeats 2000000 in
theorem validCounts_any (a : Option Addr) (c : Nat) (L : List Int) (nn : Nat) (hnn : L.length = nn) (hsm : nn ≤ 36) (hP : ∀ x ∈ L, x = -1 ∨ (0 ≤ x ∧ x < 48)) (w : World) (hI : IntsAt w a L) :
    Calls Try.prog 79 #[.slice a nn c] w fun e w' => ∃ A, e = .returned (.agg A) ∧ IsCnt A L ∧ Below w.heap.size w w' := by
  refine (callsIn_wide (n := 8)).1 ?_
  refine callsIn_of_wp_marks Try.func79 rfl trivial ?_ rfl
  simp only [Try.ntmps79, List.size_toArray, List.length_cons, List.length_nil, Nat.reduceAdd, Nat.reduceSub, Array.replicate_succ, Array.replicate_zero, List.push_toArray, List.append_toArray, List.nil_append, List.cons_append]
  gi_wp2_with (refine ⟨trivial, ?_⟩; gi_at_call 101; refine (namedPlaces_in Fence.wide _ trivial rfl a nn c _).mono ?_; rintro e w' ⟨rfl, rfl⟩)
  obtain ⟨Z, hZ⟩ : ∃ Z : Array Value, Z = #[.int .i64 0, .int .i64 0, .int .i64 0, .int .i64 0, .int .i64 0, .int .i64 0, .int .i64 0, .int .i64 0, .int .i64 0, .int .i64 0, .int .i64 0, .int .i64 0] := ⟨_, rfl⟩
  rw [← hZ]
  have hZ0 : IsCnt Z [] := by rw [hZ]; exact IsCnt.nil
  clear hZ
  obtain ⟨W3, hW3⟩ : ∃ W3, W3 = (w.alloc (.cells Z 101)).alloc (.cells Z 101) := ⟨_, rfl⟩
  have h31 : W3.heap[w.heap.size]? = some (.cells Z 101 (0, 0)) := by rw [hW3]; exact (Below.heap_alloc _ _ _ (by simp)).trans (World.alloc_heap_new _ _)
  have h32 : W3.heap[w.heap.size + 1]? = some (.cells Z 101 (0, 0)) := by rw [hW3]; exact heap_alloc2_new _ _ _
  have hs3 : W3.heap.size = w.heap.size + 1 + 1 := by rw [hW3]; simp
  have hB3 : Below w.heap.size w W3 := by
    rw [hW3]
    exact ((Below.refl _ w).alloc (Nat.le_refl _) _).alloc (by simp) _
  rw [← hW3]
  clear hW3
  have hbel : Below w.heap.size w (W3.alloc (.cells #[.slice a nn c] 48)) := hB3.alloc hB3.size _
  have hbox : (W3.alloc (.cells #[.slice a nn c] 48)).cell? ⟨w.heap.size + 1 + 1, 0, none⟩ = some (.slice a nn c) := by rw [← hs3]; simp
  have hSz : ∀ k, (k = w.heap.size + 1 + 1 ∨ k < w.heap.size) → k < (W3.alloc (.cells #[.slice a nn c] 48)).heap.size := fun k hk => by simp; omega
  refine wpIn_rangeFunc_ownH rfl (by omega) (gf := 111) (lb := #[.pointer (some ⟨w.heap.size + 1 + 1, 0, none⟩)]) rfl trivial (enters_of Try.func111 (by kernel_rfl) rfl)
    (named_stops (fun x => 0 ≤ x ∧ x < 48) (fun k => k = w.heap.size + 1 + 1 ∨ k < w.heap.size) Fence.wide _ trivial rfl (by omega) (w.heap.size + 1 + 1) (.inl rfl) a c L nn hnn (by omega) (fun x hx hne => by have := hP x hx; omega) _ hSz hbox (hI.below hbel (Nat.le_refl _)) ?hSa) KeepS.trans (keepS_b hSz) (Below.refl _ _) (fun _ => rfl)
    (fun pre W => CntI w (pre.map (·.val)) W ∧ Below w.heap.size w W) (fun c pre W => False)
    (OwnFrom.and (CntI.ownS w _) (ownFrom_below (Nat.le_refl _) (by simp; omega)))
    (fun c => fun s W W' row h hg hr => h)
    ⟨⟨Z, Z, hZ0.1, hZ0, by rw [Below.heap_alloc _ _ _ (by rw [hs3]; omega)]; exact h31, by rw [Below.heap_alloc _ _ _ (by rw [hs3]; omega)]; exact h32, by simp; omega⟩, hbel⟩
    (fun x a' W => a' = { tmps := #[.slice a nn c, undef, .pointer (some ⟨w.heap.size, 0, none⟩), .pointer (some ⟨w.heap.size + 1, 0, none⟩), .int .i64 x.val, .slice a nn c, .func (.func 111) #[] #[.pointer (some ⟨w.heap.size + 1 + 1, 0, none⟩)], .int .i64 x.val, undef, undef, undef, undef, undef, undef, undef], defers := [] })
    (fun x a' => Own.from (fun _ W W' row h hg hr => h) _) ?assign ?body ?done ?stop
  case hSa =>
    intro b o ha hpos
    obtain ⟨x, hx⟩ := getElem?_ex (l := L) (k := 0) hpos
    obtain ⟨b', o', ha', hc⟩ := hI 0 x hx
    rw [ha] at ha'
    cases ha'
    exact .inr (World.block_lt_of_cell? _ _ hc)
  case assign =>
    rintro l pre x W K ⟨hi, hb⟩ hK
    simp only [encI]
    gi_wp2
    exact hK _ _ ((KeepsOthers.refl _).from _) (KeepS.refl _ _) ⟨hi, hb⟩ rfl
  case body =>
    rintro l pre ⟨x, hx0, hx48⟩ a' W hl hlr ⟨⟨Z, A, hz, hA, hA1, hA2, hWs⟩, hb⟩ rfl hlen
    obtain ⟨q, hq⟩ : ∃ q : Nat, x / 4 = (q : Int) := ⟨(x / 4).toNat, by omega⟩
    have hq12 : q < 12 := by omega
    have hcq := (cell_of_row _ _ q _ _ _ hA2).trans (hA.2 q hq12)
    have hfq := frozen_of_row _ _ q _ _ hA2
    have hle := validIn_le (pre.map (·.val)) (q : Int)
    rw [List.length_map] at hle
    have hsn := hA.snoc x q hq hx0 hq12
    have hm : (pre ++ [(⟨x, hx0, hx48⟩ : {x : Int // 0 ≤ x ∧ x < 48})]).map (fun y => y.val) = pre.map (fun y => y.val) ++ [x] := by simp
    obtain ⟨V, hV⟩ : ∃ V, V = validIn (pre.map (·.val)) (q : Int) := ⟨_, rfl⟩
    rw [← hV] at hcq hle hsn
    have HSN := hide hsn
    have H1 := hide hA1
    have H2 := hide hA2
    have HM := hide hm
    have hq' : ((q : Nat) : Int) < 12 := by omega
    clear hsn hA1 hA2 hA hV hP hI hm
    gi_wp2
    refine ⟨(KeepsOthers.setCell _ _ _).from _, KeepS.setCell _ _ _ (fun hs => by simp at hs; omega), ⟨Z, _, hz, by rw [unhide HM]; exact unhide HSN, ?_, blk_setCell_same q _ (unhide H2), by simpa [World.setCell] using hWs⟩, hb.setCell (by simp) _⟩
    rw [Below.heap_setCell _ _ _ _ (by simp)]
    exact unhide H1
  case done =>
    rintro D ys W hD hys ⟨⟨Z, A, hz, hA, hA1, hA2, hWs⟩, hb⟩ hK
    have hA' : IsCnt A L := by rw [hys] at hA; exact hA.named
    have hst := store_row Try.prog W w.heap.size 101 Z A hA1 (by rw [hz, hA.1]) hA.one
    have hld := setRow_heap W _ _ A _ _ hA1
    have hDn : D ≠ w.heap.size := by simp at hD; omega
    have hK' : (W.setRow w.heap.size A).heap[D]? = some (.deferred (some [])) := by rw [setRow_other _ _ _ _ hDn]; exact hK
    have hB5 : Below w.heap.size w (W.setRow w.heap.size A) := Below.setRow hb (Nat.le_refl _) _
    obtain ⟨W5, hW5⟩ : ∃ W5, W5 = W.setRow w.heap.size A := ⟨_, rfl⟩
    rw [← hW5] at hst hld hK' hB5
    clear hW5
    have HA := hide hA'
    have HA1 := hide hA.1
    have H2 := hide hA2
    have HLD := hide hld
    clear hA hA' hA1 hA2 hld hP hI hZ0 hb hK
    gi_wp2_with (refine wpListIn_load_mid rfl 101 _ rfl (w.heap.size + 1) 0 rfl A 12 (unhide HA1) (fun j hj => by rw [Nat.zero_add]; exact cell_of_row _ _ _ _ _ _ (unhide H2)) _ Try.underlying101 rfl sizeCnt ?_)
    refine ⟨by simp, .inl ⟨_, _, rfl, run_takeDeferred hK', ?_⟩⟩
    have hrow : (W5.putObj D (.deferred none)).heap[w.heap.size]? = _ := (World.putObj_heap_other (fun e => hDn e.symm)).trans (unhide HLD)
    exact ⟨.agg A, results_cell1 2 101 Try.results79 _ _ _ _ rfl (run_loadVar_row (P := Try.prog) _ w.heap.size 101 101 A (0, 0) _ hrow Try.underlying101 rfl (by rw [unhide HA1]; exact sizeCnt)), A, rfl, unhide HA, hB5.trans (belowK_b (w := w) (Nat.le_refl _) _ D _ _ (by simp at hD; omega) hK' rfl rfl)⟩
  case stop =>
    rintro D c' pre W hD hpre h hK
    exact h.elim

set_option maxRecDepth 100000 in
set_option maxHeartbeats 1000000 in
theorem implValidOf_any (a : Option Addr) (c : Nat) (bs : List Bk) (n : Nat) (hl : bs.length = n) (ma : Option Addr) (mc : Nat) (L : List Int) (mn : Nat) (hL : L.length = mn) (seq o blk : Int) (w : World) (h : BlocksAt w a bs) (hn : Lens 9223372036854775807 bs) (hI : IntsAt w ma L) (hmn : mn ≤ 9223372036854775807) :
    Calls Try.prog 47 #[.agg #[.slice a n c, .slice ma mn mc, .int .i64 seq, .int .i64 o], .int .i64 blk] w fun e w' => ∃ r : Int, e = .returned (.int .i64 r) ∧ ValidIs bs L seq o blk r ∧ Below w.heap.size w w' := by
  have hb0 : ∀ o, Below w.heap.size w (w.alloc o) := fun o => (Below.refl _ w).alloc (Nat.le_refl _) _
  go_enter Try.func47, Try.ntmps47
  go_wp2_with fail
  refine (rightCells_any a c bs n hl ma mc L mn hL seq o _ (h.below (hb0 _) (Nat.le_refl _)) hn (hI.below (hb0 _) (Nat.le_refl _)) hmn).mono ?_
  rintro e w1 ⟨⟨m, r, rfl, hr, hm⟩, hB1⟩
  have hW1 : Below w.heap.size w w1 := (hb0 _).trans (hB1.mono (by simp))
  have hs1 := hB1.size
  simp at hs1
  have hx1 : w1.cell? ⟨w.heap.size, 1, none⟩ = some (.slice ma mn mc) := by
    rw [hB1.cell (p := ⟨w.heap.size, 1, none⟩) (by simp)]
    simp
  have hsc := store_cc m w1
  have hAs := ccA_size m
  have hA0 := ccA_count m
  have HSZ := hide (sizeCC m)
  have HR := hide hr
  have HM := hide hm
  have HI := hide (hI.below hW1 (Nat.le_refl _))
  have HL := hide hl
  have HLL := hide hL
  generalize ccA m = A at hsc hAs hA0 HSZ
  have HA0 := hide hA0
  clear hr hm hA0 h hn hB1 hb0 hI hl hL
  cases r with
  | false =>
    go_wp2
    go_ret
    exact ⟨_, rfl, .inr ⟨(fun hc => by have := (unhide HR).2 hc.1; cases this), rfl⟩, hW1.alloc hW1.size _⟩
  | true =>
    have hok := (unhide HR).1 (by trivial)
    have hc12 : 4 ≤ n ∧ n ≤ 12 := by have := hok.chip.count; have := unhide HL; omega
    have hm36 : mn ≤ 36 := by have := hok.len36; have := unhide HLL; omega
    have HP : Hid (∀ x ∈ L, x = -1 ∨ (0 ≤ x ∧ x < 48)) := fun x hx => by have h1 := hok.places x hx; have h2 := hok.chip.count; omega
    obtain ⟨hct, _⟩ := unhide HM (by trivial)
    have hA0 := unhide HA0
    rw [hct, unhide HL] at hA0
    have HA0' := hide hA0
    have HO := hide hok
    have hx1' : ∀ o, (w1.alloc o).cell? ⟨w.heap.size, 1, none⟩ = some (.slice ma mn mc) := fun o => (cell_alloc_lt _ _ _ _ (by omega)).trans hx1
    have hb1 : ∀ o, Below w1.heap.size w1 (w1.alloc o) := fun o => (Below.refl _ w1).alloc (Nat.le_refl _) _
    clear hok hA0 HA0 HM hct hx1
    go_wp2_with fail
    refine wp_load_row 84 _ rfl w1.heap.size rfl 84 A (0, 0) _ (Go.Deep.blk_alloc_new _ _) Try.underlying84 rfl (unhide HSZ) ?_
    clear hsc
    go_wp2_with fail
    refine (has_any A (n : Int) (unhide HA0') (by omega) (by omega) blk _).mono ?_
    rintro e w2 ⟨rfl, hB2⟩
    have hs2 := hB2.size
    simp at hs2
    have hW2 : Below w.heap.size w w2 := (hW1.alloc hW1.size _).trans (hB2.mono (by simp; omega))
    have hx2 := (hB2.cell (p := ⟨w.heap.size, 1, none⟩) (by simp; omega)).trans (hx1' _)
    have HI2 := hide ((unhide HI).below ((hb1 _).trans (hB2.mono (by simp))) (Nat.le_refl _))
    clear hx1' hb1 hB2 HI hW1
    by_cases hin : 0 ≤ blk ∧ blk ≤ (n : Int) - 1
    · obtain ⟨k, rfl⟩ := Int.eq_ofNat_of_zero_le hin.1
      have hk12 : k < 12 := by omega
      have hki : (k : Int) < 12 := by omega
      have hd : decide ((0 : Int) ≤ (k : Int) ∧ (k : Int) ≤ (n : Int) - 1) = true := by simp; omega
      rw [hd]
      have HKN : Hid ((k : Int) ≤ (n : Int) - 1) := hin.2
      clear hd hin
      go_wp2_with fail
      refine (validCounts_any ma mc L mn (unhide HLL) hm36 (unhide HP) _ (unhide HI2)).mono ?_
      rintro e w3 ⟨C, rfl, hC, hB3⟩
      have hW3 := hW2.trans (hB3.mono hW2.size)
      have hC1 := hC.1
      have hC2 := hC.2 k hk12
      have hix := fun W => run_index_one (P := Try.prog) W 101 2 12 C hC1 k hk12 _ hC2 Try.underlying101 Try.underlying2 (by kernel_rfl)
      clear hC hB3 hx2 hC1 hC2
      go_wp2
      go_ret
      exact ⟨_, rfl, .inl ⟨⟨unhide HO, by omega, by rw [unhide HL]; exact unhide HKN⟩, rfl⟩, hW3⟩
    · have hd : decide ((0 : Int) ≤ blk ∧ blk ≤ (n : Int) - 1) = false := by simpa using hin
      rw [hd]
      go_wp2
      go_ret
      exact ⟨_, rfl, .inr ⟨fun hc => hin (by rw [← unhide HL]; exact hc.2), rfl⟩, hW2⟩
end Go.Proofs.Ytageolbmplhgaaa
