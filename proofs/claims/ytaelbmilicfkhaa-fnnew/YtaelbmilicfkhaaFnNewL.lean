/- Whatever the code, the law FnNew answers true: a new chip and a new member are free from end to end, and all their pages are zeros. No condition. -/
import Derived.Test.YtaelbmilicfkhaaMapS
import Derived.Test.YtaelbmilicfkhaaSeqS
import Derived.Test.YtaelbmilicfkhaaNextS
import Derived.Test.YtaelbmilicfkhaaFtlP
import Derived.Test.YtaelbmilicfkhaaQt
import Derived.BigQuiet
import Derived.Test.YtaelbmilicfkhaaValP
import Derived.WalkKit
import Derived.Laws.IdiomStrings
import Derived.Test.YtaelbmilicfkhaaUsedR
import Derived.Test.YtaelbmilicfkhaaDiffer
import Derived.Test.YtaelbmilicfkhaaHasSeq
import Derived.Test.YtaelbmilicfkhaaFreeI
import Derived.Test.YtaelbmilicfkhaaMapI
import Derived.Shelf.Strings.Repeat
import Derived.Test.YtaelbmilicfkhaaProg
import Derived.Test.YtaelbmilicfkhaaChecked
import Derived.Test.YtaelbmilicfkhaaOwnI
import Derived.Outline
import Derived.ProofKit
import Derived.OpenShut
import Derived.Test.YtaelbmilicfkhaaNewIO
import Derived.Test.YtaelbmilicfkhaaRows
import Derived.Test.YtaelbmilicfkhaaNewF
import Derived.Test.YtaelbmilicfkhaaSameC
import Derived.Test.YtaelbmilicfkhaaRoomF
import Derived.Test.YtaelbmilicfkhaaLaw0
import Derived.ChangeOld
import Derived.Below
/- Whether a member is right: the model's FtlOk. -/
namespace Go.Proofs.Ytaelbmilicfkhaa
open Go.RowKit
set_option linter.unusedVariables false
set_option linter.unusedSimpArgs false

end Go.Proofs.Ytaelbmilicfkhaa

/- What is read of a log: in plain words, and the model's l2Page and PageAt. -/
namespace Go.Proofs.Ytaelbmilicfkhaa
open Go.RowKit
set_option linter.unusedVariables false
set_option linter.unusedSimpArgs false

def zeros4 : ByteArray := ⟨#[0, 0, 0, 0]⟩
/-- What stands at a place. -/
def pageOf (bs : List Bk) (x : Int) : Pg := pagesF ((bs[(x / 4).toNat]?.map (·.pages)).getD []) (x % 4).toNat
def dataOf (bs : List Bk) (x : Int) : ByteArray := if x < 0 then zeros4 else (pageOf bs x).data
theorem pageOf_at {bs : List Bk} {x : Int} {b k : Nat} {y : Bk} {p : Pg} (hb : x / 4 = (b : Int)) (hk : x % 4 = (k : Int)) (hy : bs[b]? = some y) (hp : y.pages[k]? = some p) : pageOf bs x = p := by
  unfold pageOf
  rw [hb, hk]
  simp [hy, pagesF, hp]
theorem dataOf_at {bs : List Bk} {x : Int} {b k : Nat} {y : Bk} {p : Pg} (h0 : 0 ≤ x) (hb : x / 4 = (b : Int)) (hk : x % 4 = (k : Int)) (hy : bs[b]? = some y) (hp : y.pages[k]? = some p) : dataOf bs x = p.data := by
  unfold dataOf
  rw [if_neg (by omega), pageOf_at hb hk hy hp]
theorem dataOf_none {bs : List Bk} {x : Int} (h : x < 0) : dataOf bs x = zeros4 := if_pos h
/-- What PageAt answers. -/
def PageIs (bs : List Bk) (L : List Int) (seq o lg : Int) (d : ByteArray) (r : Bool) : Prop :=
  ((FtlOk bs L seq o ∧ 0 ≤ lg ∧ lg ≤ (L.length : Int) - 1) ∧ r = true ∧ ∃ x, L[lg.toNat]? = some x ∧ d = dataOf bs x) ∨ (¬ (FtlOk bs L seq o ∧ 0 ≤ lg ∧ lg ≤ (L.length : Int) - 1) ∧ r = false ∧ d = ByteArray.empty)
theorem PageIs.one {bs : List Bk} {L : List Int} {seq o lg : Int} {d e : ByteArray} {r s : Bool} (h : PageIs bs L seq o lg d r) (k : PageIs bs L seq o lg e s) : d = e ∧ r = s := by
  rcases h with ⟨h1, rfl, x, hx, rfl⟩ | ⟨h1, rfl, rfl⟩
  · rcases k with ⟨_, rfl, y, hy, rfl⟩ | ⟨k1, _⟩
    · rw [hx] at hy; cases hy; exact ⟨rfl, rfl⟩
    · exact absurd h1 k1
  · rcases k with ⟨k1, _⟩ | ⟨_, rfl, rfl⟩
    · exact absurd k1 h1
    · exact ⟨rfl, rfl⟩

/-- The page at a place that the map of a right member names. -/
theorem FtlOk.placed {bs : List Bk} {L : List Int} {seq o : Int} (h : FtlOk bs L seq o) {x : Int} (hx : x ∈ L) (h0 : 0 ≤ x) : ∃ (b k : Nat) (y : Bk) (p : Pg), x / 4 = (b : Int) ∧ x % 4 = (k : Int) ∧ b < bs.length ∧ k < 4 ∧ bs[b]? = some y ∧ y.pages[k]? = some p := by
  have hp := h.places x hx
  have hc := h.chip.count
  obtain ⟨y, hy⟩ := getElem?_ex (l := bs) (k := (x / 4).toNat) (by omega)
  have h4 := (h.chip.block y (List.mem_of_getElem? hy)).four
  obtain ⟨p, hp'⟩ := getElem?_ex (l := y.pages) (k := (x % 4).toNat) (by omega)
  exact ⟨(x / 4).toNat, (x % 4).toNat, y, p, by omega, by omega, by omega, by omega, hy, hp'⟩

theorem infoByteP : (Try.prog.info? 5).map (fun i => (i.zero, i.size, i.bytes)) = some (some (.int .u8 0), 1, 1) := by kernel_rfl
theorem make_bytes4P (w : World) : (Instr.makeSlice 22 (.int .i64 4) (.int .i64 4)).run Try.prog w = .ok (.slice (some ⟨w.heap.size, 0, none⟩) 4 4) (w.alloc (.cells #[.int .u8 0, .int .u8 0, .int .u8 0, .int .u8 0] 5)) := by
  obtain ⟨i, hi, hz⟩ := Option.map_eq_some_iff.1 infoByteP
  simp only [Prod.mk.injEq] at hz
  obtain ⟨hz0, hz1, hz2⟩ := hz
  have h := run_make (P := Try.prog) w 22 5 i _ Try.underlying22 hi hz0 .i64 .i64 4 4 (by omega) (Int.le_refl _) (by rw [hz2]; omega) (by omega)
  rw [hz1] at h
  have e : madeCells (Value.int .u8 0).cells (4 * 1) = #[.int .u8 0, .int .u8 0, .int .u8 0, .int .u8 0] := by kernel_rfl
  simpa [e] using h
theorem bytes4_string (w : World) : (convert 22 9 (.slice (some ⟨w.heap.size, 0, none⟩) 4 4)).run Try.prog (w.alloc (.cells #[.int .u8 0, .int .u8 0, .int .u8 0, .int .u8 0] 5)) = .ok (.string zeros4) (w.alloc (.cells #[.int .u8 0, .int .u8 0, .int .u8 0, .int .u8 0] 5)) := by
  have h := run_convert_bytes_back (P := Try.prog) (w.alloc (.cells #[.int .u8 0, .int .u8 0, .int .u8 0, .int .u8 0] 5)) 22 9 5 ⟨w.heap.size, 0, none⟩ 4 [0, 0, 0, 0] Try.underlying22 Try.underlying5 Try.underlying9 (fun j hj => by
    rw [Go.WideShapes.add_plain, Nat.zero_add, World.cell?_alloc_mark]
    have h4 : j = 0 ∨ j = 1 ∨ j = 2 ∨ j = 3 := by simp at hj; omega
    rcases h4 with rfl | rfl | rfl | rfl <;> rfl)
  exact h


end Go.Proofs.Ytaelbmilicfkhaa

/- The greatest number on a chip, and its place: the program's top. -/
namespace Go.Proofs.Ytaelbmilicfkhaa
open Go.RowKit Go.Shelf
set_option linter.unusedVariables false
set_option linter.unusedSimpArgs false
attribute [local go_sem] Oper.semAt_some

def TopI (w : World) (pre : List (Int × Pg)) (W : World) : Prop :=
  W.heap[w.heap.size + 1]? = some (.cells #[Value.int .i64 0, Value.int .i64 0] 101 (0, 0)) ∧ W.heap[w.heap.size + 1 + 1]? = some (.cells #[Value.int .i64 (topOf pre).1, Value.int .i64 (topOf pre).2] 101 (0, 0)) ∧ w.heap.size + 1 + 1 + 1 < W.heap.size
theorem TopI.own (w : World) : Own (TopI w) := fun p W W' row ⟨h1, h2, h4⟩ hg hr => ⟨blk_kept h1 hg hr, blk_kept h2 hg hr, Nat.lt_of_lt_of_le h4 hg.size⟩

theorem sizeNp : (Try.prog.info? 101).map (·.size) = some 2 := by kernel_rfl

set_option maxRecDepth 100000 in
set_option maxHeartbeats 1000000 in
theorem top_any (m : CC) (c : Nat) (hm : m.count = c) (hc : c ≤ 12) (w : World) :
    Calls Try.prog 72 #[.agg (ccA m)] w fun e w' => e = .returned (.agg #[.int .i64 (topOf (usedAll m c)).1, .int .i64 (topOf (usedAll m c)).2]) ∧ Below w.heap.size w w' := by
  refine (callsIn_wide (n := 8)).1 ?_
  refine callsIn_of_wp_marks Try.func72 rfl trivial ?_ rfl
  simp only [Try.ntmps72, List.size_toArray, List.length_cons, List.length_nil, Nat.reduceAdd, Nat.reduceSub, Array.replicate_succ, Array.replicate_zero, List.push_toArray, List.append_toArray, List.nil_append, List.cons_append]
  gi_wp2_with (first | (refine wpListIn_load_mid rfl 74 _ rfl w.heap.size 0 rfl (ccA m) 205 (ccA_size m) (fun j hj => by rw [Nat.zero_add]; exact cell_of_row _ _ _ _ _ _ (heap3 w _ _ _).1) _ Try.underlying74 rfl sizeCC' ?_) | (refine ⟨trivial, ?_⟩; gi_at_call 82; refine (usedPages_in Fence.wide _ trivial rfl m _).mono ?_; rintro e w' ⟨rfl, rfl⟩))
  obtain ⟨W4, hW4⟩ : ∃ W4, W4 = ((w.alloc (.cells (ccA m) 74)).alloc (.cells #[.int .i64 0, .int .i64 0] 101)).alloc (.cells #[.int .i64 0, .int .i64 0] 101) := ⟨_, rfl⟩
  have h4 := heap3 w (.cells (ccA m) 74) (.cells #[.int .i64 0, .int .i64 0] 101) (.cells #[.int .i64 0, .int .i64 0] 101)
  have hs4 : W4.heap.size = w.heap.size + 1 + 1 + 1 := by rw [hW4]; simp
  have hB4 : Below w.heap.size w W4 := by
    rw [hW4]
    exact (((Below.refl _ w).alloc (Nat.le_refl _) _).alloc (by simp) _).alloc (by simp; omega) _
  rw [← hW4] at h4 ⊢
  clear hW4
  obtain ⟨_, h41, h42⟩ := h4
  have hbel : Below w.heap.size w (W4.alloc (.cells (ccA m) 74)) := hB4.alloc hB4.size _
  have hbox : ∀ i, (W4.alloc (.cells (ccA m) 74)).cell? ⟨w.heap.size + 1 + 1 + 1, i, none⟩ = (ccA m)[i]? := fun i => by rw [← hs4]; simp
  refine wpIn_rangeFunc_ownH rfl (by omega) (gf := 88) (lb := #[.pointer (some ⟨w.heap.size + 1 + 1 + 1, 0, none⟩)]) rfl trivial (enters_of Try.func88 (by kernel_rfl) rfl)
    (used_stops Fence.wide _ trivial rfl (by omega) (w.heap.size + 1 + 1 + 1) c m hm hc _ (by simp; omega) hbox) KeepB.trans (keepB_b (by simp; omega)) (Below.refl _ _) (fun _ => rfl)
    (fun pre W => TopI w pre W ∧ Below w.heap.size w W) (fun c pre W => False)
    (OwnFrom.and (Own.from (TopI.own w) _) (ownFrom_below (Nat.le_refl _) (by simp; omega)))
    (fun c => fun s W W' row h hg hr => h)
    ⟨⟨by rw [Below.heap_alloc _ _ _ (by rw [hs4]; omega)]; exact h41, by rw [Below.heap_alloc _ _ _ (by rw [hs4]; omega)]; exact h42, by simp; omega⟩, hbel⟩
    (fun x a' W => ∃ Bp, w.heap.size + 1 + 1 + 1 < Bp ∧ W.heap[Bp]? = some (.cells #[Value.bool x.2.used, Value.int .i64 x.2.log, Value.int .i64 x.2.seq, Value.string x.2.data] 68 (0, 0)) ∧
      a' = { tmps := #[.agg (ccA m), .pointer (some ⟨w.heap.size, 0, none⟩), .pointer (some ⟨w.heap.size + 1, 0, none⟩), .pointer (some ⟨w.heap.size + 1 + 1, 0, none⟩), .int .i64 x.1, .pointer (some ⟨Bp, 0, none⟩), .agg (ccA m), .func (.func 88) #[] #[.pointer (some ⟨w.heap.size + 1 + 1 + 1, 0, none⟩)], .int .i64 x.1, .agg #[Value.bool x.2.used, Value.int .i64 x.2.log, Value.int .i64 x.2.seq, Value.string x.2.data], undef, undef, undef, undef, undef, undef, undef, undef, undef, undef], defers := [] })
    (fun x a' => Own.from (fun _ W W' row ⟨Bp, h1, h2, h3⟩ hg hr => ⟨Bp, h1, blk_kept h2 hg hr, h3⟩) _) ?assign ?body ?done ?stop
  case assign =>
    rintro l pre x W K ⟨hi, hb⟩ hK
    obtain ⟨xi, xp⟩ := x
    simp only [encU]
    gi_wp2
    have hWs : w.heap.size + 1 + 1 + 1 < W.heap.size := hi.2.2
    exact hK _ _ ((KeepsOthers.alloc _ _).from _) (KeepB.alloc _ _ hWs) ⟨TopI.own w pre W _ none hi (World.grownBy_alloc W _ none) (fun r e => by cases e), hb.alloc hb.size _⟩ ⟨W.heap.size, hWs, World.alloc_heap_new _ _, rfl⟩
  case body =>
    rintro l pre ⟨xi, xp⟩ a' W hl hlr ⟨⟨hA1, hA2, hWs⟩, hb⟩ ⟨Bp, hBp, hpb, rfl⟩ hlen
    have hcS := cell_of_row _ _ 2 _ _ _ hpb
    have hcF := cell_of_row _ _ 0 _ _ _ hA2
    have hcG := cell_of_row _ _ 1 _ _ _ hA2
    have hfF := frozen_of_row _ _ 0 _ _ hA2
    have hfG := frozen_of_row _ _ 1 _ _ hA2
    have hst := topOf_snoc pre (xi, xp)
    have HS := hide hst
    have HP := hide hpb
    have H1 := hide hA1
    have H2 := hide hA2
    clear hpb hst hA1 hA2
    simp only [List.getElem?_toArray, List.getElem?_cons_succ, List.getElem?_cons_zero] at hcS hcF hcG
    obtain ⟨T, hT⟩ : ∃ T, T = topOf pre := ⟨_, rfl⟩
    rw [← hT] at hcF hcG HS H2
    clear hT
    by_cases hin : T.1 < xp.seq
    · gi_wp2
      refine ⟨((KeepsOthers.setCell _ _ _).from _).trans ((KeepsOthers.setCell _ _ _).from _), (KeepB.setCell _ _ _ (by show w.heap.size + 1 + 1 + 1 ≠ w.heap.size + 1 + 1; omega)).trans (KeepB.setCell _ _ _ (by show w.heap.size + 1 + 1 + 1 ≠ w.heap.size + 1 + 1; omega)), ⟨?_, ?_, by simpa [World.setCell] using hWs⟩, ?_⟩
      · rw [Below.heap_setCell _ _ _ _ (by simp), Below.heap_setCell _ _ _ _ (by simp)]; exact unhide H1
      · have h1 := blk_setCell_same 1 (.int .i64 xi) (blk_setCell_same 0 (.int .i64 xp.seq) (unhide H2))
        rw [unhide HS]
        unfold topStep
        rw [if_pos hin]
        exact h1
      · exact (hb.setCell (p := ⟨w.heap.size + 1 + 1, 0, none⟩) (by simp; omega) _).setCell (p := ⟨w.heap.size + 1 + 1, 1, none⟩) (by simp; omega) _
    · gi_wp2
      refine ⟨(KeepsOthers.refl _).from _, KeepB.refl _ _, ⟨unhide H1, ?_, hWs⟩, hb⟩
      rw [unhide HS]
      unfold topStep
      rw [if_neg (by show ¬ T.1 < xp.seq; omega)]
      exact unhide H2
  case done =>
    rintro D ys W hD rfl ⟨⟨hA1, hA2, hWs⟩, hb⟩ hK
    have hcF := cell_of_row _ _ 0 _ _ _ hA2
    have hcG := cell_of_row _ _ 1 _ _ _ hA2
    have hc0 := cell_of_row _ _ 0 _ _ _ hA1
    have hf0 := frozen_of_row _ _ 0 _ _ hA1
    have hc1 := cell_of_row _ _ 1 _ _ _ hA1
    have hf1 := frozen_of_row _ _ 1 _ _ hA1
    simp only [List.getElem?_toArray, List.getElem?_cons_succ, List.getElem?_cons_zero] at hcF hcG hc0 hc1
    obtain ⟨T, hT⟩ : ∃ T, T = topOf (usedAll m c) := ⟨_, rfl⟩
    rw [← hT] at hcF hcG
    have HT := hide hT
    clear hT
    gi_wp2
    have hK' := ((KeepsOthers.setCell W ⟨w.heap.size + 1, 0, none⟩ (.int .i64 T.1)).trans (KeepsOthers.setCell _ ⟨w.heap.size + 1, 1, none⟩ (.int .i64 T.2))).same D _ hK rfl
    refine ⟨by simp, .inl ⟨_, _, rfl, run_takeDeferred hK', ?_⟩⟩
    have hrow := blk_setCell_same 1 (.int .i64 T.2) (blk_setCell_same 0 (.int .i64 T.1) hA1)
    have hDn : w.heap.size + 1 ≠ D := by simp at hD; omega
    have hrow2 : (((W.setCell ⟨w.heap.size + 1, 0, none⟩ (.int .i64 T.1)).setCell ⟨w.heap.size + 1, 1, none⟩ (.int .i64 T.2)).putObj D (.deferred none)).heap[w.heap.size + 1]? = _ := (World.putObj_heap_other hDn).trans hrow
    refine ⟨.agg #[.int .i64 T.1, .int .i64 T.2], ?_, by rw [← unhide HT], ((hb.setCell (p := ⟨w.heap.size + 1, 0, none⟩) (by simp) _).setCell (p := ⟨w.heap.size + 1, 1, none⟩) (by simp) _).trans (belowK_b (w := w) (Nat.le_refl _) _ D _ _ (by simp at hD; omega) hK' rfl rfl)⟩
    have e0 := cell_of_row _ _ 0 _ _ _ hrow2
    have e1 := cell_of_row _ _ 1 _ _ _ hrow2
    simp at e0 e1
    simp [results, Try.f72, go_sem, e0, e1]
  case stop =>
    rintro D c' pre W hD hpre h hK
    exact h.elim
end Go.Proofs.Ytaelbmilicfkhaa

/- Whether all blocks but the open one are settled: the program's settledBut. Whether two lists are the same: slices.Equal. -/
namespace Go.Proofs.Ytaelbmilicfkhaa
open Go.RowKit
set_option linter.unusedVariables false
set_option linter.unusedSimpArgs false

/-- A struct or an array is read out of the middle of a row, by an operation whose guard says yes. -/
theorem wpList_load_mid_g {P : Program} {ops : Array Oper} {rest : List Oper} {o : Oper} {a : Act} {w : World} {Q : Exit → Act → World → Prop} (hw : Region.wanted o (yielded ops a.tmps) = true) (ty : TypeId) (x : Operand) (ho : o.op = .load ty x)
    (g off : Nat) (hx : a.eval x = .pointer (some ⟨g, off, none⟩)) (A : Array Value) (s : Nat) (hA : A.size = s) (hc : ∀ j, j < s → w.cell? ⟨g, off + j, none⟩ = A[j]?) (d : TypeDesc)
    (hu : P.underlying ty = some d) (hd : (match d with | .struct _ | .array _ _ => true | _ => false) = true) (hi : (P.info? ty).map (·.size) = some s)
    (h : wpList P ops Q rest (a.put o.dst (.agg A)) w) : wpList P ops Q (o :: rest) a w :=
  BigFrame.wpList_want hw fun _ hK => wp_load_mid ty x ho g off hx A s hA hc d hu hd hi (hK _ _ h)

theorem pu_cc (m : CC) {n k t : Nat} (hk : k < n) (ht : t < 4) {x : Bk} (hx : (ccBs m n)[k]? = some x) : pu x t = (m.page k t).used := by
  rw [ccBs_at m hk] at hx
  cases hx
  show (pagesF (ccPs m k) t).used = _
  simp only [pagesF]
  rw [ccPs_at m k ht]
  rfl

set_option maxRecDepth 100000 in
set_option maxHeartbeats 1000000 in
theorem begun_any (x : Int) (f : Nat → Pg) (b : Bk) (hb : ∀ t, t < 4 → pu b t = (f t).used) (w : World) :
    Calls Try.prog 83 #[.agg (bcA x f)] w fun e w' => e = .returned (.bool (halfB b)) ∧ Below w.heap.size w w' := by
  have hb0 : ∀ o, Below w.heap.size w (w.alloc o) := fun o => (Below.refl _ w).alloc (Nat.le_refl _) _
  go_enter Try.func83, Try.ntmps83
  go_wp2_with (refine wpList_load_row rfl 71 _ rfl w.heap.size rfl 71 (bcA x f) (0, 0) _ (Go.Deep.blk_alloc_new _ _) Try.underlying71 rfl (by rw [bcA_size]; exact sizeBC) ?_)
  refine (next_any x f _).mono ?_
  rintro e w1 ⟨r, rfl, hr, hB⟩
  have hd := (NextIs.kinds (hr.congr (fun k hk => (hb k hk).symm))).2.1
  have HD := hide hd
  clear hr hd
  generalize bcA x f = A at *
  go_wp2
  go_ret
  exact ⟨by rw [← unhide HD]; simp, (hb0 _).trans (hB.mono (by simp))⟩


set_option maxRecDepth 100000 in
set_option maxHeartbeats 1000000 in
theorem settledBut_any (A : Array Value) (m : CC) (bs : List Bk) (n : Nat) (hl : bs.length = n) (hbs : ccBs m n = bs) (hA0 : A[0]? = some (.int .i64 (n : Int))) (hAb : ∀ b i, b < 12 → i < 17 → A[1 + b * 17 + i]? = (bcA (m.wear b) (m.page b))[i]?) (hn : n ≤ 12) (o : Int) (w : World) :
    Calls Try.prog 74 #[.agg A, .int .i64 o] w fun e w' => RetIff (Settled bs o) e ∧ Below w.heap.size w w' := by
  have HAB := hide hAb
  have HBS := hide hbs
  have HL := hide hl
  clear hAb hbs hl
  go_enter Try.func74, Try.ntmps74
  go_wp2
  go_loopw [5, 9] (fun v i wr => ∃ (k : Nat) (r : Bool), k ≤ n ∧ i = .int .i64 k ∧ v = .bool r ∧ (r = true ↔ oneFree bs o k) ∧ noHalf bs o k ∧ Below (w.heap.size + 1) (w.alloc (.cells A 74)) wr) (fun _ i _ => n - (intOf i).toNat)
  case atStart =>
    refine ⟨0, false, Nat.zero_le _, rfl, rfl, ?_, fun i x hi => absurd hi (Nat.not_lt_zero _), Below.refl _ _⟩
    simp only [Bool.false_eq_true, false_iff]
    rintro ⟨i, x, hi, _⟩
    omega
  case round =>
    obtain ⟨k, r, hk, rfl, rfl, hO, hH, hB⟩ := hrel
    have hsz := hB.size
    simp at hsz
    have hWw : Below w.heap.size w wr := ((Below.refl _ w).alloc (Nat.le_refl _) _).trans (hB.mono (by omega))
    by_cases hlt : k < n
    · have hblk : ∀ j, j < 17 → wr.cell? ⟨w.heap.size, 1 + k * 17 + j, none⟩ = (bcA (m.wear k) (m.page k))[j]? := fun j hj => by
        rw [hB.cell (p := ⟨w.heap.size, 1 + k * 17 + j, none⟩) (by simp), cell_of_row _ _ _ _ _ _ (Go.Deep.blk_alloc_new _ _)]
        exact unhide HAB k j (by omega) hj
      have HB := hide hblk
      have hki : (k : Int) < 12 := by omega
      obtain ⟨x, hx⟩ := getElem?_ex (l := bs) (k := k) (by have := unhide HL; omega)
      have hpu : ∀ t, t < 4 → pu x t = (m.page k t).used := fun t ht => pu_cc m (n := n) hlt ht (by rw [unhide HBS]; exact hx)
      have hno := noHalf_succ (o := o) hx
      have hof := oneFree_succ (o := o) hx
      have HPU := hide hpu
      have HNO := hide hno
      have HOF := hide hof
      have HO := hide hO
      have HH := hide hH
      have HX := hide hx
      clear hpu hno hof hO hH hblk hA0 hx
      by_cases heq : (k : Int) = o
      · subst heq
        go_wp2
        go_roundw
        case rel =>
          refine ⟨k + 1, r, by omega, by go_num, rfl, ?_, ?_, hB⟩
          · rw [unhide HOF, unhide HO]; simp
          · rw [unhide HNO]; exact ⟨unhide HH, fun h => absurd rfl h⟩
        case measure => simp [intOf]; omega
      · have heq' : ((k : Int) == o) = false := by simpa using heq
        go_wp2_with (refine wpList_load_mid rfl 71 _ rfl w.heap.size (1 + k * 17) rfl (bcA (m.wear k) (m.page k)) 17 (bcA_size _ _) (unhide HB) _ Try.underlying71 rfl sizeBC ?_)
        refine (begun_any _ _ x (unhide HPU) _).mono ?_
        rintro e w2 ⟨rfl, hB2⟩
        have hs2 := hB2.size
        have hBB : Below (w.heap.size + 1) (w.alloc (.cells A 74)) w2 := hB.trans (hB2.mono (by omega))
        have hWw2 : Below w.heap.size w w2 := hWw.trans (hB2.mono hWw.size)
        have hblk2 : ∀ j, j < 17 → w2.cell? ⟨w.heap.size, 1 + k * 17 + j, none⟩ = (bcA (m.wear k) (m.page k))[j]? := fun j hj => (hB2.cell (p := ⟨w.heap.size, 1 + k * 17 + j, none⟩) (by show w.heap.size < _; omega)).trans (unhide HB j hj)
        have HB2 := hide hblk2
        clear HB hB2 hB hWw hblk2
        cases hh : halfB x with
        | true =>
          generalize bcA (m.wear k) (m.page k) = A2 at *
          go_wp2
          go_ret
          refine ⟨RetIff.no (fun hs => ?_), hWw2⟩
          have := hs.1 k x (by have := unhide HL; omega) (unhide HX) heq
          rw [hh] at this
          cases this
        | false =>
          cases r with
          | true =>
            generalize bcA (m.wear k) (m.page k) = A2 at *
            go_wp2
            go_roundw
            case rel =>
              refine ⟨k + 1, true, by omega, by go_num, rfl, ?_, ?_, hBB⟩
              · rw [unhide HOF]; exact ⟨fun _ => .inl (by have := unhide HO; simpa using this), fun _ => rfl⟩
              · rw [unhide HNO]; exact ⟨unhide HH, fun _ => hh⟩
            case measure => simp [intOf]; omega
          | false =>
            have hfr : freeB x = !(m.page k 0).used := by unfold freeB; rw [unhide HPU 0 (by omega)]
            go_wp2_with (refine wpList_load_mid_g rfl 71 _ rfl w.heap.size (1 + k * 17) rfl (bcA (m.wear k) (m.page k)) 17 (bcA_size _ _) (unhide HB2) _ Try.underlying71 rfl sizeBC ?_)
            refine (free_any _ _ _).mono ?_
            rintro e w3 ⟨rfl, hB3⟩
            rw [← hfr]
            have HFR := hide hfr
            have hBB3 : Below (w.heap.size + 1) (w.alloc (.cells A 74)) w3 := hBB.trans (hB3.mono (by omega))
            clear hfr HB2 hB3 hBB
            generalize bcA (m.wear k) (m.page k) = A2 at *
            go_wp2
            go_roundw
            case rel =>
              refine ⟨k + 1, freeB x, by omega, by go_num, rfl, ?_, ?_, hBB3⟩
              · rw [unhide HOF]
                constructor
                · intro h; exact .inr ⟨heq, h⟩
                · rintro (h | h)
                  · have := (unhide HO).2 h; cases this
                  · exact h.2
              · rw [unhide HNO]; exact ⟨unhide HH, fun _ => hh⟩
            case measure => simp [intOf]; omega
    · have hk' : k = n := by omega
      subst hk'
      have HO := hide hO
      have HH := hide hH
      clear hO hH
      go_wp2
      go_ret
      refine ⟨⟨r, rfl, ?_⟩, hWw⟩
      rw [unhide HO]
      unfold Settled
      rw [unhide HL]
      exact ⟨fun h => ⟨unhide HH, h⟩, fun h => h.2⟩

set_option maxRecDepth 100000 in
set_option maxHeartbeats 1000000 in
theorem slicesEqual_any (a b : Option Addr) (ca cb : Nat) (L M : List Int) (nL nM : Nat) (hL : L.length = nL) (hM : M.length = nM) (w : World) (h1 : IntsAt w a L) (h2 : IntsAt w b M) (hl1 : nL ≤ 9223372036854775807) (hl2 : nM ≤ 9223372036854775807) :
    Calls Try.prog 71 #[.slice a nL ca, .slice b nM cb] w fun e w' => RetIff (L = M) e ∧ Below w.heap.size w w' := by
  by_cases hlen : nL = nM
  · subst hlen
    go_enter Try.func71, Try.ntmps71
    go_wp2
    go_loopw [13] (fun i wr => ∃ k : Nat, k ≤ nL ∧ i = .int .i64 k ∧ (∀ j, j < k → L[j]? = M[j]?) ∧ Below w.heap.size w wr) (fun i _ => nL - (intOf i).toNat)
    case atStart => exact ⟨0, Nat.zero_le _, rfl, fun j hj => absurd hj (Nat.not_lt_zero _), Below.refl _ _⟩
    case round =>
      obtain ⟨k, hk, rfl, hall, hB⟩ := hrel
      by_cases hlt : k < nL
      · obtain ⟨x, hx⟩ := getElem?_ex (l := L) (k := k) (by omega)
        obtain ⟨y, hy⟩ := getElem?_ex (l := M) (k := k) (by omega)
        obtain ⟨b1, o1, rfl, c1⟩ := (h1.below hB (Nat.le_refl _)) k x hx
        obtain ⟨b2, o2, rfl, c2⟩ := (h2.below hB (Nat.le_refl _)) k y hy
        have HA := hide hall
        have HX := hide hx
        have HY := hide hy
        have HL := hide (And.intro hL hM)
        clear hall hx hy h1 h2 hL hM
        by_cases hxy : x = y
        · subst hxy
          have hne : (x != x) = false := by simp
          go_wp2_with fail
          go_quiet (fail)
          go_wp2
          go_roundw
          case rel =>
            refine ⟨k + 1, by omega, by go_num, fun j hj => ?_, Below.drewN hB _⟩
            by_cases e : j = k
            · subst e; rw [unhide HX, unhide HY]
            · exact unhide HA j (by omega)
          case measure => simp [intOf]; omega
        · have hne : (x != y) = true := by simpa using hxy
          go_wp2_with fail
          go_quiet (fail)
          go_wp2
          go_ret
          refine ⟨RetIff.no (fun e => ?_), Below.drewN hB _⟩
          have := unhide HX
          rw [e, unhide HY] at this
          cases this
          exact hxy rfl
      · obtain rfl : k = nL := by omega
        have HA := hide hall
        have HL := hide (And.intro hL hM)
        clear hall h1 h2 hL hM
        go_wp2
        go_ret
        refine ⟨RetIff.yes (List.ext_getElem? (fun j => ?_)), hB⟩
        by_cases hj : j < k
        · exact unhide HA j hj
        · rw [List.getElem?_eq_none (by have := (unhide HL).1; omega), List.getElem?_eq_none (by have := (unhide HL).2; omega)]
  · have hne : ((nL : Int) != (nM : Int)) = true := by simp; omega
    have HL := hide (And.intro hL hM)
    clear h1 h2 hL hM
    go_enter Try.func71, Try.ntmps71
    go_wp2
    go_ret
    refine ⟨RetIff.no (fun e => hlen ?_), Below.refl _ _⟩
    rw [← (unhide HL).1, ← (unhide HL).2, e]
end Go.Proofs.Ytaelbmilicfkhaa

/- Whether a member is right, and its cells: the program's rightCells. -/
namespace Go.Proofs.Ytaelbmilicfkhaa
open Go.RowKit
set_option linter.unusedVariables false
set_option linter.unusedSimpArgs false
open Classical

/-- The cells of a member and whether it is right. -/
def RightRet (bs : List Bk) (L : List Int) (seq o : Int) (e : Ending) : Prop := ∃ (m : CC) (r : Bool), e = .returned (.tuple #[.agg (ccA m), .bool r]) ∧ (r = true ↔ FtlOk bs L seq o) ∧ (r = true → m.count = bs.length ∧ ccBs m bs.length = bs)
theorem RightRet.no {bs : List Bk} {L : List Int} {seq o : Int} (h : ¬ FtlOk bs L seq o) : RightRet bs L seq o (.returned (.tuple #[.agg Try.zeroCells74, .bool false])) :=
  ⟨newCC 0, false, by rw [zeroCC], by simp [h], by simp⟩
theorem RightRet.yes {bs : List Bk} {L : List Int} {seq o : Int} (h : FtlOk bs L seq o) (m : CC) (h1 : m.count = bs.length) (h2 : ccBs m bs.length = bs) : RightRet bs L seq o (.returned (.tuple #[.agg (ccA m), .bool true])) :=
  ⟨m, true, rfl, by simp [h], fun _ => ⟨h1, h2⟩⟩

set_option maxRecDepth 100000 in
set_option maxHeartbeats 4000000 in
theorem rightCells_any (a : Option Addr) (c : Nat) (bs : List Bk) (n : Nat) (hl : bs.length = n) (ma : Option Addr) (mc : Nat) (L : List Int) (mn : Nat) (hL : L.length = mn) (seq o : Int) (w : World) (h : BlocksAt w a bs) (hn : Lens 9223372036854775807 bs) (hI : IntsAt w ma L) (hmn : mn ≤ 9223372036854775807) :
    Calls Try.prog 54 #[.agg #[.slice a n c, .slice ma mn mc, .int .i64 seq, .int .i64 o]] w fun e w' => RightRet bs L seq o e ∧ Below w.heap.size w w' := by
  subst hl
  have hb0 : ∀ o1 o2, Below w.heap.size w ((w.alloc o1).alloc o2) := fun o1 o2 => ((Below.refl _ w).alloc (Nat.le_refl _) _).alloc (by simp) _
  go_enter Try.func54, Try.ntmps54
  go_wp2_with fail
  refine (cellsOf_any a c bs _ (h.below (hb0 _ _) (Nat.le_refl _)) hn).mono ?_
  rintro e w1 ⟨⟨m, r, rfl, hr, hm⟩, hB1⟩
  have hW1 : Below w.heap.size w w1 := (hb0 _ _).trans (hB1.mono (by simp; omega))
  have hs1 := hB1.size
  simp at hs1
  have hz1 : w1.heap[w.heap.size + 1]? = some (.cells Try.zeroCells74 74 (0, 0)) := (hB1.block _ (by simp)).trans (heap_alloc2_new _ _ _)
  have hx1 : ∀ i, w1.cell? ⟨w.heap.size, i, none⟩ = (#[Value.slice a bs.length c, .slice ma mn mc, .int .i64 seq, .int .i64 o])[i]? := fun i => by
    rw [hB1.cell (p := ⟨w.heap.size, i, none⟩) (by simp; omega), cell_alloc_lt _ _ _ _ (by simp)]
    simp
  have hsc := store_cc m w1
  have hAs := ccA_size m
  have h1A := ccA_one m
  have hA0 := ccA_count m
  have HSZ := hide (sizeCC m)
  have HAB := hide (fun b i hb hi => ccA_block m (b := b) (i := i) hb hi)
  have HR := hide hr
  have HM := hide hm
  have HI := hide hI
  have HL := hide hL
  have HX1 := hide hx1
  have HZ1 := hide hz1
  clear hr hm hn hB1 hb0 hI hL hx1 hz1 h
  cases r with
  | false =>
    have hnok : ¬ ChipOk bs := fun hc => by have := (unhide HR).2 hc; cases this
    have hz2 : ∀ o', (w1.alloc o').heap[w.heap.size + 1]? = some (.cells Try.zeroCells74 74 (0, 0)) := fun o' => (Below.heap_alloc w1 o' (w.heap.size + 1) (by omega)).trans (unhide HZ1)
    have hstF := fun o' => store_same Try.prog (w1.alloc o') (w.heap.size + 1) 74 Try.zeroCells74 (hz2 o') zeroCC_one
    have hldF := fun o' => run_loadVar_row (P := Try.prog) (w1.alloc o') (w.heap.size + 1) 74 74 Try.zeroCells74 (0, 0) _ (hz2 o') Try.underlying74 rfl (by rw [zeroCC_size]; exact sizeCC')
    have HLF := hide hldF
    have HNK := hide hnok
    clear hldF hnok hz2 hA0
    generalize ccA m = A at *
    go_wp2
    exact bodyPost_ret (results_cell_slot 2 74 3 Try.results54 _ _ _ _ _ rfl (unhide HLF _) rfl) rfl ⟨RightRet.no (fun hf => unhide HNK hf.chip), hW1.alloc hW1.size _⟩
  | true =>
    have hok := (unhide HR).1 rfl
    have hc12 := hok.count
    obtain ⟨hct, hbss⟩ := unhide HM rfl
    rw [hct] at hA0
    have HTOP : Hid (∀ W, Calls Try.prog 72 #[.agg (ccA m)] W fun e w' => e = .returned (.agg #[.int .i64 (topOf (usedOf bs)).1, .int .i64 (topOf (usedOf bs)).2]) ∧ Below W.heap.size W w') := fun W => by
      have := top_any m bs.length hct hc12.2 W
      rwa [usedOf_cc hbss] at this
    have HNP : Hid (∀ W, Calls Try.prog 70 #[.agg (ccA m)] W fun e w' => MapRet bs 2 W.heap.size e w' ∧ Below W.heap.size W w') := fun W => newestPlaces_any m bs.length hct hc12.1 hc12.2 bs rfl hbss hok W
    have HST : Hid (∀ W, Calls Try.prog 74 #[.agg (ccA m), .int .i64 o] W fun e w' => RetIff (Settled bs o) e ∧ Below W.heap.size W w') := fun W => settledBut_any (ccA m) m bs bs.length rfl hbss hA0 (unhide HAB) hc12.2 o W
    have htb := hok.top
    have HYES : Hid (FtlOk bs L seq o → RightRet bs L seq o (.returned (.tuple #[.agg (ccA m), .bool true]))) := fun hf => RightRet.yes hf m hct hbss
    obtain ⟨T, hT⟩ : ∃ T, T = (topOf (usedOf bs)).1 := ⟨_, rfl⟩
    obtain ⟨T2, hT2⟩ : ∃ T2, T2 = (topOf (usedOf bs)).2 := ⟨_, rfl⟩
    rw [← hT, ← hT2] at HTOP
    have hTS : topSeq bs = T := hT.symm
    rw [hTS] at htb
    have HTS := hide hTS
    obtain ⟨A, hA⟩ : ∃ A, A = ccA m := ⟨_, rfl⟩
    rw [← hA] at hsc hAs h1A HSZ hA0 HTOP HNP HST HYES ⊢
    have HOK := hide hok
    have HA0 := hide hA0
    have H1A := hide h1A
    obtain ⟨n, hnn⟩ : ∃ n, n = bs.length := ⟨_, rfl⟩
    rw [← hnn] at hc12 HA0 HX1 ⊢
    have HNN := hide hnn
    clear hok hct hbss hT hT2 hTS hA hA0 h1A HM HAB hnn
    go_wp2_with fail
    refine wp_load_row 74 _ rfl w1.heap.size rfl 74 A (0, 0) _ (Go.Deep.blk_alloc_new _ _) Try.underlying74 rfl (unhide HSZ) ?_
    clear hsc
    go_wp2_with fail
    refine (unhide HNP _).mono ?_
    rintro e w6 ⟨⟨v, r2, L2, rfl, hM, hv⟩, hB6⟩
    obtain ⟨a2, c2, rfl, hI2, _⟩ := hv.form
    have hs6 := hB6.size
    simp at hs6
    have hrow6 : w6.heap[w1.heap.size]? = some (.cells A 74 (0, 0)) := (hB6.block _ (by simp)).trans (Go.Deep.blk_alloc_new _ _)
    have hB16 : Below w1.heap.size w1 w6 := ((Below.refl _ w1).alloc (Nat.le_refl _) _).trans (hB6.mono (by simp))
    have hW6 := hW1.trans (hB16.mono hW1.size)
    have hz6 : w6.heap[w.heap.size + 1]? = some (.cells Try.zeroCells74 74 (0, 0)) := (hB16.block _ (by omega)).trans (unhide HZ1)
    have hx6 : ∀ i, w6.cell? ⟨w.heap.size, i, none⟩ = (#[Value.slice a n c, .slice ma mn mc, .int .i64 seq, .int .i64 o])[i]? := fun i => (hB16.cell (p := ⟨w.heap.size, i, none⟩) (by show w.heap.size < _; omega)).trans (unhide HX1 i)
    have HZ6 := hide hz6
    have hm6 := hx6 1
    have hq2 := hx6 2
    have hq3 := hx6 3
    simp at hm6 hq2 hq3
    have HI2 := hide hI2
    have HMM := hide hM
    have HR6 := hide hrow6
    have HI6 := hide ((unhide HI).below hW6 (Nat.le_refl _))
    clear hv hB6 hM hI2 hrow6 hz6 hx6 hB16 hW1 HX1 HZ1 HNP HI
    cases r2 with
    | false =>
      have hnf : ¬ Fits bs := fun hf => by have := (unhide HMM).1.2 hf; cases this
      have hstF := store_same Try.prog w6 (w.heap.size + 1) 74 Try.zeroCells74 (unhide HZ6) zeroCC_one
      have hldF := run_loadVar_row (P := Try.prog) w6 (w.heap.size + 1) 74 74 Try.zeroCells74 (0, 0) _ (unhide HZ6) Try.underlying74 rfl (by rw [zeroCC_size]; exact sizeCC')
      have HLF := hide hldF
      have HNF := hide hnf
      clear hldF hnf
      go_wp2
      exact bodyPost_ret (results_cell_slot 2 74 3 Try.results54 _ _ _ _ _ rfl (unhide HLF) rfl) rfl ⟨RightRet.no (fun hf => unhide HNF hf.fits), hW6⟩
    | true =>
      have hfit := (unhide HMM).1.1 rfl
      have hL2 : L2 = placesOf (usedOf bs) (roomOf bs) := by have := (unhide HMM).2; simpa using this
      have hl36 : L2.length ≤ 36 := (unhide HMM).length (by have := unhide HNN; omega)
      have HFT := hide hfit
      have HL2 := hide hL2
      clear hfit hL2 HMM
      obtain ⟨len, hlen⟩ : ∃ len, L2.length = len := ⟨_, rfl⟩
      rw [hlen] at hl36 ⊢
      have HLEN := hide hlen
      clear hlen
      go_wp2_with fail
      refine (slicesEqual_any ma a2 mc c2 L L2 mn len (unhide HL) (unhide HLEN) _ (unhide HI6) (unhide HI2) hmn (by omega)).mono ?_
      rintro e w7 ⟨⟨r3, rfl, hr3⟩, hB7⟩
      have hs7 := hB7.size
      have hW7 := hW6.trans (hB7.mono hW6.size)
      have HZ7 := hide ((hB7.block _ (by omega)).trans (unhide HZ6))
      have HR7 := hide ((hB7.block _ (by omega)).trans (unhide HR6))
      have hq2' := (hB7.cell (p := ⟨w.heap.size, 2, none⟩) (by show w.heap.size < _; omega)).trans hq2
      have hq3' := (hB7.cell (p := ⟨w.heap.size, 3, none⟩) (by show w.heap.size < _; omega)).trans hq3
      have HR3 := hide hr3
      clear hB7 hr3 hq2 hq3 hm6 HZ6 HR6 HI2 HI6 hW6
      cases r3 with
      | false =>
        have hstF := store_same Try.prog w7 (w.heap.size + 1) 74 Try.zeroCells74 (unhide HZ7) zeroCC_one
        have hldF := run_loadVar_row (P := Try.prog) w7 (w.heap.size + 1) 74 74 Try.zeroCells74 (0, 0) _ (unhide HZ7) Try.underlying74 rfl (by rw [zeroCC_size]; exact sizeCC')
        have HLF := hide hldF
        clear hldF
        go_wp2
        exact bodyPost_ret (results_cell_slot 2 74 3 Try.results54 _ _ _ _ _ rfl (unhide HLF) rfl) rfl ⟨RightRet.no (fun hf => by have := (unhide HR3).2 (hf.map.trans (unhide HL2).symm); cases this), hW7⟩
      | true =>
        have hLL : L = L2 := (unhide HR3).1 rfl
        have HLL : Hid (L = placesOf (usedOf bs) (roomOf bs)) := hLL.trans (unhide HL2)
        have HLD : Hid (∀ j, j < 205 → w7.cell? ⟨w1.heap.size, 0 + j, none⟩ = A[j]?) := fun j hj => by rw [Nat.zero_add]; exact cell_of_row _ _ j _ _ _ (unhide HR7)
        have hfld := run_field_np
        have hmix : Try.prog.follows .mixedOrders = true := by kernel_rfl
        have hLF : ∀ W, Below w7.heap.size w7 W → W.heap[w.heap.size + 1]? = some (.cells Try.zeroCells74 74 (0, 0)) := fun W hW => (hW.block _ (by omega)).trans (unhide HZ7)
        have HLFF := hide hLF
        have hTw : T + 1 ≤ 1000000001 := by omega
        clear hLL HR3 hLF HL2
        go_wp2_with fail
        by_cases hc1 : T + 1 ≤ seq ∧ seq ≤ 1000000000
        · have hd1 : decide (T + 1 ≤ seq ∧ seq ≤ 1000000000) = true := by simpa using hc1
          by_cases hc2 : 0 ≤ o ∧ o ≤ (n : Int) - 1
          · have hd2 : decide ((0 : Int) ≤ o ∧ o ≤ (n : Int) - 1) = true := by simpa using hc2
            by_cases hc3 : Settled bs o
            · have hd3 : ∀ r : Bool, (r = true ↔ Settled bs o) → r = true := fun r h => h.2 hc3
              refine wp_region_grown (Below w7.heap.size w7) hmix (by kernel_rfl) (below_drawn w7) ?_
              go_big_quiet_step (exact fun _ => rfl)
              refine wpQuiet_val rfl (.int .i64 seq) (fun W hC => ?_) ?_
              · have hcl := (hC.cell (p := ⟨w.heap.size, 2, none⟩) (by show w.heap.size < _; omega)).trans hq2'
                go_simp
              simp only [Act.put, List.setIfInBounds_toArray, List.set_cons_zero, List.set_cons_succ]
              refine wpQuiet_val rfl (.agg A) (fun W hC => quietAt_load_mid 74 _ rfl w1.heap.size 0 rfl A 205 hAs (fun j hj => (hC.cell (p := ⟨w1.heap.size, 0 + j, none⟩) (by show w1.heap.size < _; omega)).trans (unhide HLD j hj)) _ Try.underlying74 rfl sizeCC') ?_
              simp only [Act.put, List.setIfInBounds_toArray, List.set_cons_zero, List.set_cons_succ]
              refine wpQuiet_val rfl (.agg #[.int .i64 T, .int .i64 T2]) (fun W hC => ?_) ?_
              · go_simp
                refine (unhide HTOP W).mono ?_
                rintro e w' ⟨rfl, hB'⟩
                exact ⟨rfl, hC.trans (hB'.mono hC.size)⟩
              simp only [Act.put, List.setIfInBounds_toArray, List.set_cons_zero, List.set_cons_succ]
              go_big_quiet_step (exact fun _ => rfl)
              go_big_quiet_step (exact fun _ => rfl)
              refine wpQuiet_val rfl (.bool true) (fun W hC => ?_) ?_
              · go_simp
                refine (within_any seq (T + 1) 1000000000 W).mono ?_
                rintro e w' ⟨rfl, rfl⟩
                exact ⟨by rw [hd1], hC⟩
              simp only [Act.put, List.setIfInBounds_toArray, List.set_cons_zero, List.set_cons_succ]
              go_big_quiet_step (exact fun _ => rfl)
              go_big_quiet_step (exact fun _ => rfl)
              refine wpQuiet_val rfl (.agg A) (fun W hC => quietAt_load_mid 74 _ rfl w1.heap.size 0 rfl A 205 hAs (fun j hj => (hC.cell (p := ⟨w1.heap.size, 0 + j, none⟩) (by show w1.heap.size < _; omega)).trans (unhide HLD j hj)) _ Try.underlying74 rfl sizeCC') ?_
              simp only [Act.put, List.setIfInBounds_toArray, List.set_cons_zero, List.set_cons_succ]
              go_big_quiet_step (exact fun _ => rfl)
              refine wpQuiet_val rfl (.int .i64 o) (fun W hC => ?_) ?_
              · have hcl := (hC.cell (p := ⟨w.heap.size, 3, none⟩) (by show w.heap.size < _; omega)).trans hq3'
                go_simp
              simp only [Act.put, List.setIfInBounds_toArray, List.set_cons_zero, List.set_cons_succ]
              refine wpQuiet_val rfl (.bool true) (fun W hC => ?_) ?_
              · go_simp
                refine (has_any A (n : Int) (unhide HA0) (by omega) (by omega) o W).mono ?_
                rintro e w' ⟨rfl, hB'⟩
                exact ⟨by rw [hd2], hC.trans (hB'.mono hC.size)⟩
              simp only [Act.put, List.setIfInBounds_toArray, List.set_cons_zero, List.set_cons_succ]
              go_big_quiet_step (exact fun _ => rfl)
              go_big_quiet_step (exact fun _ => rfl)
              go_big_quiet_step (exact fun _ => rfl)
              refine wpQuiet_val rfl (.agg A) (fun W hC => quietAt_load_mid 74 _ rfl w1.heap.size 0 rfl A 205 hAs (fun j hj => (hC.cell (p := ⟨w1.heap.size, 0 + j, none⟩) (by show w1.heap.size < _; omega)).trans (unhide HLD j hj)) _ Try.underlying74 rfl sizeCC') ?_
              simp only [Act.put, List.setIfInBounds_toArray, List.set_cons_zero, List.set_cons_succ]
              go_big_quiet_step (exact fun _ => rfl)
              refine wpQuiet_val rfl (.int .i64 o) (fun W hC => ?_) ?_
              · have hcl := (hC.cell (p := ⟨w.heap.size, 3, none⟩) (by show w.heap.size < _; omega)).trans hq3'
                go_simp
              simp only [Act.put, List.setIfInBounds_toArray, List.set_cons_zero, List.set_cons_succ]
              refine wpQuiet_val rfl (.bool true) (fun W hC => ?_) ?_
              · go_simp
                refine (unhide HST W).mono ?_
                rintro e w' ⟨⟨r9, rfl, hr9⟩, hB'⟩
                refine ⟨?_, hC.trans (hB'.mono hC.size)⟩
                have := hd3 r9 hr9
                rw [this]
              simp only [Act.put, List.setIfInBounds_toArray, List.set_cons_zero, List.set_cons_succ]
              go_big_quiet_step (exact fun _ => rfl)
              go_big_quiet_step (exact fun _ => rfl)
              refine wpQuiet_nil ?_
              intro w8 hC8
              have hz8 := unhide HLFF w8 hC8
              have hr8 : w8.heap[w1.heap.size]? = some (.cells A 74 (0, 0)) := (hC8.block _ (by omega)).trans (unhide HR7)
              have hW8 := hW7.trans (hC8.mono hW7.size)
              have hstT := store_row Try.prog w8 (w.heap.size + 1) 74 Try.zeroCells74 A hz8 (by rw [zeroCC_size, hAs]) (unhide H1A)
              have hldT := run_loadVar_row (P := Try.prog) (w8.setRow (w.heap.size + 1) A) (w.heap.size + 1) 74 74 A (0, 0) _ (setRow_heap _ _ _ _ _ _ hz8) Try.underlying74 rfl (unhide HSZ)
              have hB9 : Below w.heap.size w (w8.setRow (w.heap.size + 1) A) := Below.setRow hW8 (by omega) _
              obtain ⟨W9, hW9⟩ : ∃ W9, W9 = w8.setRow (w.heap.size + 1) A := ⟨_, rfl⟩
              rw [← hW9] at hstT hldT hB9
              clear hW9
              have HLT := hide hldT
              have HR8 := hide hr8
              have HFIN : Hid (RightRet bs L seq o (.returned (.tuple #[.agg A, .bool true]))) := unhide HYES ⟨unhide HOK, unhide HFT, unhide HLL, by rw [unhide HTS]; exact hc1, by rw [← unhide HNN]; exact hc2, hc3⟩
              clear hldT hz8 hr8 hC8 hW8 hq2' hq3' HLD HR7 HLFF HTOP HST hW7 hfld
              go_wp2_with fail
              refine wp_load_row 74 _ rfl w1.heap.size rfl 74 A (0, 0) _ (unhide HR8) Try.underlying74 rfl (unhide HSZ) ?_
              go_wp2
              exact bodyPost_ret (results_cell_slot 2 74 3 Try.results54 _ _ _ _ _ rfl (unhide HLT) rfl) rfl ⟨unhide HFIN, hB9⟩
            · have hd3 : ∀ r : Bool, (r = true ↔ Settled bs o) → r = false := fun r h => by cases r; rfl; exact absurd (h.1 rfl) hc3
              refine wp_region_grown (Below w7.heap.size w7) hmix (by kernel_rfl) (below_drawn w7) ?_
              go_big_quiet_step (exact fun _ => rfl)
              refine wpQuiet_val rfl (.int .i64 seq) (fun W hC => ?_) ?_
              · have hcl := (hC.cell (p := ⟨w.heap.size, 2, none⟩) (by show w.heap.size < _; omega)).trans hq2'
                go_simp
              simp only [Act.put, List.setIfInBounds_toArray, List.set_cons_zero, List.set_cons_succ]
              refine wpQuiet_val rfl (.agg A) (fun W hC => quietAt_load_mid 74 _ rfl w1.heap.size 0 rfl A 205 hAs (fun j hj => (hC.cell (p := ⟨w1.heap.size, 0 + j, none⟩) (by show w1.heap.size < _; omega)).trans (unhide HLD j hj)) _ Try.underlying74 rfl sizeCC') ?_
              simp only [Act.put, List.setIfInBounds_toArray, List.set_cons_zero, List.set_cons_succ]
              refine wpQuiet_val rfl (.agg #[.int .i64 T, .int .i64 T2]) (fun W hC => ?_) ?_
              · go_simp
                refine (unhide HTOP W).mono ?_
                rintro e w' ⟨rfl, hB'⟩
                exact ⟨rfl, hC.trans (hB'.mono hC.size)⟩
              simp only [Act.put, List.setIfInBounds_toArray, List.set_cons_zero, List.set_cons_succ]
              go_big_quiet_step (exact fun _ => rfl)
              go_big_quiet_step (exact fun _ => rfl)
              refine wpQuiet_val rfl (.bool true) (fun W hC => ?_) ?_
              · go_simp
                refine (within_any seq (T + 1) 1000000000 W).mono ?_
                rintro e w' ⟨rfl, rfl⟩
                exact ⟨by rw [hd1], hC⟩
              simp only [Act.put, List.setIfInBounds_toArray, List.set_cons_zero, List.set_cons_succ]
              go_big_quiet_step (exact fun _ => rfl)
              go_big_quiet_step (exact fun _ => rfl)
              refine wpQuiet_val rfl (.agg A) (fun W hC => quietAt_load_mid 74 _ rfl w1.heap.size 0 rfl A 205 hAs (fun j hj => (hC.cell (p := ⟨w1.heap.size, 0 + j, none⟩) (by show w1.heap.size < _; omega)).trans (unhide HLD j hj)) _ Try.underlying74 rfl sizeCC') ?_
              simp only [Act.put, List.setIfInBounds_toArray, List.set_cons_zero, List.set_cons_succ]
              go_big_quiet_step (exact fun _ => rfl)
              refine wpQuiet_val rfl (.int .i64 o) (fun W hC => ?_) ?_
              · have hcl := (hC.cell (p := ⟨w.heap.size, 3, none⟩) (by show w.heap.size < _; omega)).trans hq3'
                go_simp
              simp only [Act.put, List.setIfInBounds_toArray, List.set_cons_zero, List.set_cons_succ]
              refine wpQuiet_val rfl (.bool true) (fun W hC => ?_) ?_
              · go_simp
                refine (has_any A (n : Int) (unhide HA0) (by omega) (by omega) o W).mono ?_
                rintro e w' ⟨rfl, hB'⟩
                exact ⟨by rw [hd2], hC.trans (hB'.mono hC.size)⟩
              simp only [Act.put, List.setIfInBounds_toArray, List.set_cons_zero, List.set_cons_succ]
              go_big_quiet_step (exact fun _ => rfl)
              go_big_quiet_step (exact fun _ => rfl)
              go_big_quiet_step (exact fun _ => rfl)
              refine wpQuiet_val rfl (.agg A) (fun W hC => quietAt_load_mid 74 _ rfl w1.heap.size 0 rfl A 205 hAs (fun j hj => (hC.cell (p := ⟨w1.heap.size, 0 + j, none⟩) (by show w1.heap.size < _; omega)).trans (unhide HLD j hj)) _ Try.underlying74 rfl sizeCC') ?_
              simp only [Act.put, List.setIfInBounds_toArray, List.set_cons_zero, List.set_cons_succ]
              go_big_quiet_step (exact fun _ => rfl)
              refine wpQuiet_val rfl (.int .i64 o) (fun W hC => ?_) ?_
              · have hcl := (hC.cell (p := ⟨w.heap.size, 3, none⟩) (by show w.heap.size < _; omega)).trans hq3'
                go_simp
              simp only [Act.put, List.setIfInBounds_toArray, List.set_cons_zero, List.set_cons_succ]
              refine wpQuiet_val rfl (.bool false) (fun W hC => ?_) ?_
              · go_simp
                refine (unhide HST W).mono ?_
                rintro e w' ⟨⟨r9, rfl, hr9⟩, hB'⟩
                refine ⟨?_, hC.trans (hB'.mono hC.size)⟩
                have := hd3 r9 hr9
                rw [this]
              simp only [Act.put, List.setIfInBounds_toArray, List.set_cons_zero, List.set_cons_succ]
              go_big_quiet_step (exact fun _ => rfl)
              go_big_quiet_step (exact fun _ => rfl)
              refine wpQuiet_nil ?_
              intro w8 hC8
              have hz8 := unhide HLFF w8 hC8
              have hW8 := hW7.trans (hC8.mono hW7.size)
              have hstF := store_same Try.prog w8 (w.heap.size + 1) 74 Try.zeroCells74 hz8 zeroCC_one
              have hldF := run_loadVar_row (P := Try.prog) w8 (w.heap.size + 1) 74 74 Try.zeroCells74 (0, 0) _ hz8 Try.underlying74 rfl (by rw [zeroCC_size]; exact sizeCC')
              have HLF := hide hldF
              have HNO : Hid (¬ FtlOk bs L seq o) := fun hf => hc3 hf.settled
              clear hldF hz8 hC8 hq2' hq3' HLD HR7 HLFF HTOP HST hW7 hfld
              go_wp2
              exact bodyPost_ret (results_cell_slot 2 74 3 Try.results54 _ _ _ _ _ rfl (unhide HLF) rfl) rfl ⟨RightRet.no (unhide HNO), hW8⟩
          · have hd2 : decide ((0 : Int) ≤ o ∧ o ≤ (n : Int) - 1) = false := by simpa using hc2
            refine wp_region_grown (Below w7.heap.size w7) hmix (by kernel_rfl) (below_drawn w7) ?_
            go_big_quiet_step (exact fun _ => rfl)
            refine wpQuiet_val rfl (.int .i64 seq) (fun W hC => ?_) ?_
            · have hcl := (hC.cell (p := ⟨w.heap.size, 2, none⟩) (by show w.heap.size < _; omega)).trans hq2'
              go_simp
            simp only [Act.put, List.setIfInBounds_toArray, List.set_cons_zero, List.set_cons_succ]
            refine wpQuiet_val rfl (.agg A) (fun W hC => quietAt_load_mid 74 _ rfl w1.heap.size 0 rfl A 205 hAs (fun j hj => (hC.cell (p := ⟨w1.heap.size, 0 + j, none⟩) (by show w1.heap.size < _; omega)).trans (unhide HLD j hj)) _ Try.underlying74 rfl sizeCC') ?_
            simp only [Act.put, List.setIfInBounds_toArray, List.set_cons_zero, List.set_cons_succ]
            refine wpQuiet_val rfl (.agg #[.int .i64 T, .int .i64 T2]) (fun W hC => ?_) ?_
            · go_simp
              refine (unhide HTOP W).mono ?_
              rintro e w' ⟨rfl, hB'⟩
              exact ⟨rfl, hC.trans (hB'.mono hC.size)⟩
            simp only [Act.put, List.setIfInBounds_toArray, List.set_cons_zero, List.set_cons_succ]
            go_big_quiet_step (exact fun _ => rfl)
            go_big_quiet_step (exact fun _ => rfl)
            refine wpQuiet_val rfl (.bool true) (fun W hC => ?_) ?_
            · go_simp
              refine (within_any seq (T + 1) 1000000000 W).mono ?_
              rintro e w' ⟨rfl, rfl⟩
              exact ⟨by rw [hd1], hC⟩
            simp only [Act.put, List.setIfInBounds_toArray, List.set_cons_zero, List.set_cons_succ]
            go_big_quiet_step (exact fun _ => rfl)
            go_big_quiet_step (exact fun _ => rfl)
            refine wpQuiet_val rfl (.agg A) (fun W hC => quietAt_load_mid 74 _ rfl w1.heap.size 0 rfl A 205 hAs (fun j hj => (hC.cell (p := ⟨w1.heap.size, 0 + j, none⟩) (by show w1.heap.size < _; omega)).trans (unhide HLD j hj)) _ Try.underlying74 rfl sizeCC') ?_
            simp only [Act.put, List.setIfInBounds_toArray, List.set_cons_zero, List.set_cons_succ]
            go_big_quiet_step (exact fun _ => rfl)
            refine wpQuiet_val rfl (.int .i64 o) (fun W hC => ?_) ?_
            · have hcl := (hC.cell (p := ⟨w.heap.size, 3, none⟩) (by show w.heap.size < _; omega)).trans hq3'
              go_simp
            simp only [Act.put, List.setIfInBounds_toArray, List.set_cons_zero, List.set_cons_succ]
            refine wpQuiet_val rfl (.bool false) (fun W hC => ?_) ?_
            · go_simp
              refine (has_any A (n : Int) (unhide HA0) (by omega) (by omega) o W).mono ?_
              rintro e w' ⟨rfl, hB'⟩
              exact ⟨by rw [hd2], hC.trans (hB'.mono hC.size)⟩
            simp only [Act.put, List.setIfInBounds_toArray, List.set_cons_zero, List.set_cons_succ]
            go_big_quiet_step (exact fun _ => rfl)
            go_big_quiet_step (exact fun _ => rfl)
            go_big_quiet_step (exact fun _ => rfl)
            go_big_quiet_step (exact fun _ => rfl)
            go_big_quiet_step (exact fun _ => rfl)
            go_big_quiet_step (exact fun _ => rfl)
            go_big_quiet_step (exact fun _ => rfl)
            go_big_quiet_step (exact fun _ => rfl)
            go_big_quiet_step (exact fun _ => rfl)
            refine wpQuiet_nil ?_
            intro w8 hC8
            have hz8 := unhide HLFF w8 hC8
            have hW8 := hW7.trans (hC8.mono hW7.size)
            have hstF := store_same Try.prog w8 (w.heap.size + 1) 74 Try.zeroCells74 hz8 zeroCC_one
            have hldF := run_loadVar_row (P := Try.prog) w8 (w.heap.size + 1) 74 74 Try.zeroCells74 (0, 0) _ hz8 Try.underlying74 rfl (by rw [zeroCC_size]; exact sizeCC')
            have HLF := hide hldF
            have HNO : Hid (¬ FtlOk bs L seq o) := fun hf => hc2 (by rw [unhide HNN]; exact hf.opn)
            clear hldF hz8 hC8 hq2' hq3' HLD HR7 HLFF HTOP HST hW7 hfld
            go_wp2
            exact bodyPost_ret (results_cell_slot 2 74 3 Try.results54 _ _ _ _ _ rfl (unhide HLF) rfl) rfl ⟨RightRet.no (unhide HNO), hW8⟩
        · have hd1 : decide (T + 1 ≤ seq ∧ seq ≤ 1000000000) = false := by simpa using hc1
          refine wp_region_grown (Below w7.heap.size w7) hmix (by kernel_rfl) (below_drawn w7) ?_
          go_big_quiet_step (exact fun _ => rfl)
          refine wpQuiet_val rfl (.int .i64 seq) (fun W hC => ?_) ?_
          · have hcl := (hC.cell (p := ⟨w.heap.size, 2, none⟩) (by show w.heap.size < _; omega)).trans hq2'
            go_simp
          simp only [Act.put, List.setIfInBounds_toArray, List.set_cons_zero, List.set_cons_succ]
          refine wpQuiet_val rfl (.agg A) (fun W hC => quietAt_load_mid 74 _ rfl w1.heap.size 0 rfl A 205 hAs (fun j hj => (hC.cell (p := ⟨w1.heap.size, 0 + j, none⟩) (by show w1.heap.size < _; omega)).trans (unhide HLD j hj)) _ Try.underlying74 rfl sizeCC') ?_
          simp only [Act.put, List.setIfInBounds_toArray, List.set_cons_zero, List.set_cons_succ]
          refine wpQuiet_val rfl (.agg #[.int .i64 T, .int .i64 T2]) (fun W hC => ?_) ?_
          · go_simp
            refine (unhide HTOP W).mono ?_
            rintro e w' ⟨rfl, hB'⟩
            exact ⟨rfl, hC.trans (hB'.mono hC.size)⟩
          simp only [Act.put, List.setIfInBounds_toArray, List.set_cons_zero, List.set_cons_succ]
          go_big_quiet_step (exact fun _ => rfl)
          go_big_quiet_step (exact fun _ => rfl)
          refine wpQuiet_val rfl (.bool false) (fun W hC => ?_) ?_
          · go_simp
            refine (within_any seq (T + 1) 1000000000 W).mono ?_
            rintro e w' ⟨rfl, rfl⟩
            exact ⟨by rw [hd1], hC⟩
          simp only [Act.put, List.setIfInBounds_toArray, List.set_cons_zero, List.set_cons_succ]
          go_big_quiet_step (exact fun _ => rfl)
          go_big_quiet_step (exact fun _ => rfl)
          go_big_quiet_step (exact fun _ => rfl)
          go_big_quiet_step (exact fun _ => rfl)
          go_big_quiet_step (exact fun _ => rfl)
          go_big_quiet_step (exact fun _ => rfl)
          go_big_quiet_step (exact fun _ => rfl)
          go_big_quiet_step (exact fun _ => rfl)
          go_big_quiet_step (exact fun _ => rfl)
          go_big_quiet_step (exact fun _ => rfl)
          go_big_quiet_step (exact fun _ => rfl)
          go_big_quiet_step (exact fun _ => rfl)
          go_big_quiet_step (exact fun _ => rfl)
          go_big_quiet_step (exact fun _ => rfl)
          go_big_quiet_step (exact fun _ => rfl)
          refine wpQuiet_nil ?_
          intro w8 hC8
          have hz8 := unhide HLFF w8 hC8
          have hW8 := hW7.trans (hC8.mono hW7.size)
          have hstF := store_same Try.prog w8 (w.heap.size + 1) 74 Try.zeroCells74 hz8 zeroCC_one
          have hldF := run_loadVar_row (P := Try.prog) w8 (w.heap.size + 1) 74 74 Try.zeroCells74 (0, 0) _ hz8 Try.underlying74 rfl (by rw [zeroCC_size]; exact sizeCC')
          have HLF := hide hldF
          have HNO : Hid (¬ FtlOk bs L seq o) := fun hf => hc1 (by rw [← unhide HTS]; exact hf.seq)
          clear hldF hz8 hC8 hq2' hq3' HLD HR7 HLFF HTOP HST hW7 hfld
          go_wp2
          exact bodyPost_ret (results_cell_slot 2 74 3 Try.results54 _ _ _ _ _ rfl (unhide HLF) rfl) rfl ⟨RightRet.no (unhide HNO), hW8⟩
end Go.Proofs.Ytaelbmilicfkhaa

/- What the library's contract of strings.Repeat asks of this program: its numbers. -/
namespace Go.Proofs.Ytaelbmilicfkhaa
open Go.Shelf
def rep_ren : Go.Shelf.Ren := ⟨fun | 105 => 84 | 212 => 89 | 99 => 90 | 165 => 91 | 166 => 92 | 170 => 93 | 169 => 94 | 263 => 96 | 264 => 97 | 206 => 98 | 240 => 99 | 241 => 100 | 276 => 101 | 277 => 102 | n => n, fun | 9 => 9 | 3 => 3 | 4 => 4 | 20 => 20 | 0 => 0 | 46 => 108 | 109 => 119 | 5 => 5 | 72 => 124 | 76 => 128 | 51 => 131 | 146 => 132 | 53 => 106 | 148 => 134 | 70 => 122 | 37 => 22 | 75 => 127 | 127 => 136 | 164 => 137 | 80 => 95 | n => n, fun | n => n⟩
theorem rep_lays : Go.Proofs.Lays.n105 Try.prog rep_ren := {
  mixed := by kernel_rfl
  f99 := Try.func90.trans (congrArg some (by kernel_rfl))
  f105 := Try.func84.trans (congrArg some (by kernel_rfl))
  f165 := Try.func91.trans (congrArg some (by kernel_rfl))
  f166 := Try.func92.trans (congrArg some (by kernel_rfl))
  f169 := Try.func94.trans (congrArg some (by kernel_rfl))
  f170 := Try.func93.trans (congrArg some (by kernel_rfl))
  f206 := Try.func98.trans (congrArg some (by kernel_rfl))
  f212 := Try.func89.trans (congrArg some (by kernel_rfl))
  f240 := Try.func99.trans (congrArg some (by kernel_rfl))
  f241 := Try.func100.trans (congrArg some (by kernel_rfl))
  f263 := Try.func96.trans (congrArg some (by kernel_rfl))
  f264 := Try.func97.trans (congrArg some (by kernel_rfl))
  f276 := Try.func101.trans (congrArg some (by kernel_rfl))
  f277 := Try.func102.trans (congrArg some (by kernel_rfl))
  t0 := Try.underlying0
  a0 := Try.isAgg0
  z0 := Try.sizeOf0
  v0 := Try.zeroValue0
  t3 := Try.underlying3
  a3 := Try.isAgg3
  z3 := Try.sizeOf3
  v3 := Try.zeroValue3
  t4 := Try.underlying4
  a4 := Try.isAgg4
  z4 := Try.sizeOf4
  v4 := Try.zeroValue4
  t5 := Try.underlying5
  a5 := Try.isAgg5
  z5 := Try.sizeOf5
  v5 := Try.zeroValue5
  t9 := Try.underlying9
  a9 := Try.isAgg9
  z9 := Try.sizeOf9
  v9 := Try.zeroValue9
  t20 := Try.underlying20
  a20 := Try.isAgg20
  z20 := Try.sizeOf20
  v20 := Try.zeroValue20
  t37 := Try.underlying22
  a37 := Try.isAgg22
  z37 := Try.sizeOf22
  v37 := Try.zeroValue22
  t46 := Try.underlying108
  a46 := Try.isAgg108
  z46 := Try.sizeOf108
  v46 := Try.zeroValue108
  t51 := Try.underlying131
  a51 := Try.isAgg131
  z51 := Try.sizeOf131
  v51 := Try.zeroValue131
  t53 := Try.underlying106
  a53 := Try.isAgg106
  z53 := Try.sizeOf106
  v53 := Try.zeroValue106
  t70 := Try.underlying122
  a70 := Try.isAgg122
  z70 := Try.sizeOf122
  v70 := Try.zeroValue122
  t72 := Try.underlying124
  a72 := Try.isAgg124
  z72 := Try.sizeOf124
  v72 := Try.zeroValue124
  t75 := Try.underlying127
  a75 := Try.isAgg127
  z75 := Try.sizeOf127
  v75 := Try.zeroValue127
  t76 := Try.underlying128
  a76 := Try.isAgg128
  z76 := Try.sizeOf128
  v76 := Try.zeroValue128
  t109 := Try.underlying119
  a109 := Try.isAgg119
  z109 := Try.sizeOf119
  v109 := Try.zeroValue119
  t127 := Try.underlying136
  a127 := Try.isAgg136
  z127 := Try.sizeOf136
  v127 := Try.zeroValue136
  t146 := Try.underlying132
  a146 := Try.isAgg132
  z146 := Try.sizeOf132
  v146 := Try.zeroValue132
  t148 := Try.underlying134
  a148 := Try.isAgg134
  z148 := Try.sizeOf134
  v148 := Try.zeroValue134
  t164 := Try.underlying137
  a164 := Try.isAgg137
  z164 := Try.sizeOf137
  v164 := Try.zeroValue137 }
theorem rep_extra : Builder.Extra Try.prog rep_ren := {
  sizeBuilder := by kernel_rfl
  liesBuilder := by kernel_rfl
  t5 := Try.underlying5
  a5 := Try.isAgg5
  z5 := Try.sizeOf5
  v5 := Try.zeroValue5
  infoByte := by kernel_rfl
  cellsByte := by kernel_rfl
  sizeByte := by kernel_rfl
  neB5 := by decide }
end Go.Proofs.Ytaelbmilicfkhaa

/- What is read of a log: the program's dataAt and PageAt. -/
namespace Go.Proofs.Ytaelbmilicfkhaa
open Go.RowKit
set_option linter.unusedVariables false
set_option linter.unusedSimpArgs false

theorem repeat4 (w : World) : Calls Try.prog 84 #[.string ⟨#[0]⟩, .int .i64 4] w fun e w' => e = .returned (.string zeros4) ∧ Below w.heap.size w w' := by
  refine (Any.strings_Repeat rep_lays rep_extra ⟨#[0]⟩ 4 w (by omega) (by decide)).mono ?_
  rintro e w1 ⟨rfl, hB⟩
  exact ⟨by rfl, hB⟩

theorem blankData_any (w : World) : Calls Try.prog 75 #[] w fun e w' => e = .returned (.string zeros4) ∧ Below w.heap.size w w' := by
  go_enter Try.func75, Try.ntmps75
  go_wp2_with fail
  refine (repeat4 _).mono ?_
  rintro e w1 ⟨rfl, hB⟩
  go_wp2
  go_ret
  exact ⟨rfl, hB⟩

set_option maxRecDepth 100000 in
set_option maxHeartbeats 1000000 in
theorem dataAt_any (A : Array Value) (m : CC) (bs : List Bk) (hbs : ccBs m bs.length = bs) (hAp : ∀ b k j, b < 12 → k < 4 → j < 4 → A[1 + b * 17 + 1 + k * 4 + j]? = some (pgV (m.page b k) j)) (L : List Int) (seq o : Int) (hok : FtlOk bs L seq o) (x : Int) (hx : x ∈ L) (w : World) :
    Calls Try.prog 56 #[.agg A, .int .i64 x] w fun e w' => e = .returned (.string (dataOf bs x)) ∧ Below w.heap.size w w' := by
  have hb0 : ∀ o, Below w.heap.size w (w.alloc o) := fun o => (Below.refl _ w).alloc (Nat.le_refl _) _
  have hpl := hok.places x hx
  by_cases h0 : x < 0
  · obtain rfl : x = -1 := by omega
    have HD := hide (dataOf_none (bs := bs) h0)
    clear hok hx hpl hAp hbs
    go_enter Try.func56, Try.ntmps56
    go_wp2_with fail
    refine (blankData_any _).mono ?_
    rintro e w1 ⟨rfl, hB⟩
    go_wp2
    go_ret
    exact ⟨by rw [unhide HD]; rfl, (hb0 _).trans (hB.mono (by simp))⟩
  · have hc := hok.chip.count
    obtain ⟨q, t, y, p, hq, ht, hqb, ht4, hy, hp⟩ := hok.placed hx (by omega)
    have HD := hide (dataOf_at (bs := bs) (by omega) hq ht hy hp)
    have hcd := hAp q t 3 (by omega) ht4 (by omega)
    have hpg : m.page q t = p := by
      have e := ccBs_at m hqb
      rw [hbs, hy] at e
      cases e
      have e2 := ccPs_at m q ht4
      rw [hp] at e2
      cases e2
      rfl
    rw [hpg] at hcd
    have hcw : ∀ ty, (w.alloc (.cells A ty)).cell? ⟨w.heap.size, 1 + q * 17 + 1 + t * 4 + 3, none⟩ = some (.string p.data) := fun ty => (cell_of_row _ _ _ _ _ _ (Go.Deep.blk_alloc_new _ _)).trans hcd
    have hq12 : (q : Int) < 12 := by omega
    have ht4' : (t : Int) < 4 := by omega
    have hx48 : x < 48 := by omega
    have hx0 : 0 ≤ x := by omega
    have hne : (x == -1) = false := by simp; omega
    clear hok hx hpl hAp hbs hcd hpg hy hp h0 hc hqb
    go_enter Try.func56, Try.ntmps56
    go_wp2
    go_ret
    exact ⟨by rw [unhide HD]; rfl, hb0 _⟩

set_option maxRecDepth 100000 in
set_option maxHeartbeats 1000000 in
theorem implPageAt_any (a : Option Addr) (c : Nat) (bs : List Bk) (n : Nat) (hl : bs.length = n) (ma : Option Addr) (mc : Nat) (L : List Int) (mn : Nat) (hL : L.length = mn) (seq o lg : Int) (w : World) (h : BlocksAt w a bs) (hn : Lens 9223372036854775807 bs) (hI : IntsAt w ma L) (hmn : mn ≤ 9223372036854775807) :
    Calls Try.prog 21 #[.agg #[.slice a n c, .slice ma mn mc, .int .i64 seq, .int .i64 o], .int .i64 lg] w fun e w' => ∃ (d : ByteArray) (r : Bool), e = .returned (.tuple #[.string d, .bool r]) ∧ PageIs bs L seq o lg d r ∧ Below w.heap.size w w' := by
  have hb0 : ∀ o, Below w.heap.size w (w.alloc o) := fun o => (Below.refl _ w).alloc (Nat.le_refl _) _
  have hmix : Try.prog.follows .mixedOrders = true := by kernel_rfl
  go_enter Try.func21, Try.ntmps21
  go_wp2_with fail
  refine (rightCells_any a c bs n hl ma mc L mn hL seq o _ (h.below (hb0 _) (Nat.le_refl _)) hn (hI.below (hb0 _) (Nat.le_refl _)) hmn).mono ?_
  rintro e w1 ⟨⟨m, r, rfl, hr, hm⟩, hB1⟩
  have hW1 : Below w.heap.size w w1 := (hb0 _).trans (hB1.mono (by simp))
  have hs1 := hB1.size
  simp at hs1
  have hx1 : ∀ o', (w1.alloc o').cell? ⟨w.heap.size, 1, none⟩ = some (.slice ma mn mc) := fun o' => by
    rw [cell_alloc_lt _ _ _ _ (by omega), hB1.cell (p := ⟨w.heap.size, 1, none⟩) (by simp)]
    simp
  have hsc := store_cc m w1
  have hAs := ccA_size m
  have hA0 := ccA_count m
  have HSZ := hide (sizeCC m)
  have HAP := hide (fun b k j hb hk hj => ccA_page m (b := b) (k := k) (j := j) hb hk hj)
  have HR := hide hr
  have HM := hide hm
  have HI := hide (hI.below hW1 (Nat.le_refl _))
  have HL := hide hl
  have HLL := hide hL
  generalize ccA m = A at hsc hAs hA0 HSZ HAP
  have HA0 := hide hA0
  clear hr hm hA0 h hn hB1 hb0 hI hl hL
  cases r with
  | false =>
    go_wp2
    exact bodyPost_ret (v := .tuple #[.string ⟨#[]⟩, .bool false]) (by simp [results, Try.results21, go_sem]) rfl ⟨_, _, rfl, .inr ⟨(fun hc => by have := (unhide HR).2 hc.1; cases this), rfl, rfl⟩, hW1.alloc hW1.size _⟩
  | true =>
    have hok := (unhide HR).1 (by trivial)
    have hc12 : 4 ≤ n ∧ n ≤ 12 := by have := hok.chip.count; have := unhide HL; omega
    have hmn4 : (mn : Int) = 4 * ((n : Int) - 3) := by have := hok.len; have := unhide HLL; have := unhide HL; omega
    obtain ⟨hct, hbss⟩ := unhide HM (by trivial)
    have hA0 := unhide HA0
    rw [hct, unhide HL] at hA0
    have hc0 : (w1.alloc (.cells A 74)).cell? ⟨w1.heap.size, 0, none⟩ = some (.int .i64 (n : Int)) := (cell_of_row _ _ 0 _ _ _ (Go.Deep.blk_alloc_new _ _)).trans hA0
    have HS := hide hbss
    have HO := hide hok
    have HMN := hide hmn4
    obtain ⟨w2, hw2⟩ : ∃ w2, w2 = w1.alloc (.cells A 74) := ⟨_, rfl⟩
    have hx2 := hx1 (.cells A 74)
    rw [← hw2] at hc0 hsc hx2
    have hs2 : w1.heap.size < w2.heap.size := by rw [hw2]; simp
    have HLD : Hid (∀ j, j < 205 → w2.cell? ⟨w1.heap.size, 0 + j, none⟩ = A[j]?) := fun j hj => by rw [hw2, Nat.zero_add]; exact cell_of_row _ _ j _ _ _ (Go.Deep.blk_alloc_new _ _)
    have hW2 : Below w.heap.size w w2 := by rw [hw2]; exact hW1.alloc hW1.size _
    have HI2 : Hid (IntsAt w2 ma L) := by rw [hw2]; exact (unhide HI).below ((Below.refl _ w1).alloc (Nat.le_refl _) _) (Nat.le_refl _)
    clear hok hA0 HA0 HM hct hbss hw2 hx1 HI hW1 hmn4
    go_wp2_with fail
    refine (implRoomFor_any (n : Int) _).mono ?_
    rintro e w3 ⟨rfl, rfl⟩
    rw [roomI_in (by omega), ← unhide HMN]
    have hmn36 : mn ≤ 36 := by have := unhide HMN; omega
    go_wp2_with fail
    refine (within_any _ _ _ _).mono ?_
    rintro e w4 ⟨rfl, rfl⟩
    by_cases hin : 0 ≤ lg ∧ lg ≤ (mn : Int) - 1
    · obtain ⟨k, rfl⟩ := Int.eq_ofNat_of_zero_le hin.1
      obtain ⟨x, hx⟩ := getElem?_ex (l := L) (k := k) (by have := unhide HLL; omega)
      have hd : decide ((0 : Int) ≤ (k : Int) ∧ (k : Int) ≤ (mn : Int) - 1) = true := by simpa using hin
      rw [hd]
      have hkm : (k : Int) < (mn : Int) := by omega
      obtain ⟨b1, o1, rfl, hcx⟩ := (unhide HI2) k x hx
      have hb1 : b1 < w4.heap.size := World.block_lt_of_cell? _ _ hcx
      have HDA : Hid (∀ W, Calls Try.prog 56 #[.agg A, .int .i64 x] W fun e w' => e = .returned (.string (dataOf bs x)) ∧ Below W.heap.size W w') := fun W => dataAt_any A m bs (unhide HS) (unhide HAP) L seq o (unhide HO) x (List.mem_of_getElem? hx) W
      have HX := hide hx
      have HIN := hide hin
      obtain ⟨D, hD⟩ : ∃ D, D = dataOf bs x := ⟨_, rfl⟩
      rw [← hD] at HDA
      have HDD := hide hD
      clear hx hin hd hc0 hsc hD
      go_wp2_with fail
      refine wp_region_grown (Below w4.heap.size w4) hmix (by kernel_rfl) (below_drawn w4) ?_
      refine wpQuiet_val rfl (.agg A) (fun W hC => quietAt_load_mid 74 _ rfl w1.heap.size 0 rfl A 205 hAs (fun j hj => (hC.cell (p := ⟨w1.heap.size, 0 + j, none⟩) (by show w1.heap.size < _; omega)).trans (unhide HLD j hj)) _ Try.underlying74 rfl sizeCC') ?_
      simp only [Act.put, List.setIfInBounds_toArray, List.set_cons_zero, List.set_cons_succ]
      go_big_quiet_step (exact fun _ => rfl)
      refine wpQuiet_val rfl (.slice (some ⟨b1, o1, none⟩) mn mc) (fun W hC => ?_) ?_
      · have hcl := (hC.cell (p := ⟨w.heap.size, 1, none⟩) (by show w.heap.size < _; omega)).trans hx2
        go_simp
      simp only [Act.put, List.setIfInBounds_toArray, List.set_cons_zero, List.set_cons_succ]
      go_big_quiet_step (exact fun _ => rfl)
      go_big_quiet_step (exact fun _ => rfl)
      refine wpQuiet_val rfl (.int .i64 x) (fun W hC => ?_) ?_
      · have hcl := (hC.cell (p := ⟨b1, o1 + k, none⟩) hb1).trans hcx
        go_simp
      simp only [Act.put, List.setIfInBounds_toArray, List.set_cons_zero, List.set_cons_succ]
      refine wpQuiet_val rfl (.string D) (fun W hC => ?_) ?_
      · go_simp
        refine (unhide HDA W).mono ?_
        rintro e w' ⟨rfl, hB'⟩
        exact ⟨rfl, hC.trans (hB'.mono hC.size)⟩
      simp only [Act.put, List.setIfInBounds_toArray, List.set_cons_zero, List.set_cons_succ]
      go_big_quiet_step (exact fun _ => rfl)
      go_big_quiet_step (exact fun _ => rfl)
      refine wpQuiet_nil ?_
      intro w8 hC8
      have hW8 := hW2.trans (hC8.mono hW2.size)
      clear hC8 hx2 hcx HDA
      go_wp2
      exact bodyPost_ret (v := .tuple #[.string D, .bool true]) (by simp [results, Try.results21, go_sem]) rfl ⟨_, _, rfl, .inl ⟨⟨unhide HO, (unhide HIN).1, by rw [unhide HLL]; exact (unhide HIN).2⟩, rfl, x, by simpa using unhide HX, unhide HDD⟩, hW8⟩
    · have hd : decide ((0 : Int) ≤ lg ∧ lg ≤ (mn : Int) - 1) = false := by simpa using hin
      rw [hd]
      clear hc0 hsc hx2
      go_wp2
      exact bodyPost_ret (v := .tuple #[.string ⟨#[]⟩, .bool false]) (by simp [results, Try.results21, go_sem]) rfl ⟨_, _, rfl, .inr ⟨fun hc => hin (by rw [← unhide HLL]; exact hc.2), rfl, rfl⟩, hW2⟩
end Go.Proofs.Ytaelbmilicfkhaa

/- Whether a member is right: the program's FtlOk. -/
namespace Go.Proofs.Ytaelbmilicfkhaa
open Go.RowKit
set_option linter.unusedVariables false
set_option linter.unusedSimpArgs false

set_option maxRecDepth 100000 in
set_option maxHeartbeats 1000000 in
theorem implFtlOk_any (a : Option Addr) (c : Nat) (bs : List Bk) (n : Nat) (hl : bs.length = n) (ma : Option Addr) (mc : Nat) (L : List Int) (mn : Nat) (hL : L.length = mn) (seq o : Int) (w : World) (h : BlocksAt w a bs) (hn : Lens 9223372036854775807 bs) (hI : IntsAt w ma L) (hmn : mn ≤ 9223372036854775807) :
    Calls Try.prog 23 #[.agg #[.slice a n c, .slice ma mn mc, .int .i64 seq, .int .i64 o]] w fun e w' => RetIff (FtlOk bs L seq o) e ∧ Below w.heap.size w w' := by
  have hb0 : ∀ o, Below w.heap.size w (w.alloc o) := fun o => (Below.refl _ w).alloc (Nat.le_refl _) _
  go_enter Try.func23, Try.ntmps23
  go_wp2_with fail
  refine (rightCells_any a c bs n hl ma mc L mn hL seq o _ (h.below (hb0 _) (Nat.le_refl _)) hn (hI.below (hb0 _) (Nat.le_refl _)) hmn).mono ?_
  rintro e w1 ⟨⟨m, r, rfl, hr, _⟩, hB⟩
  have HR := hide hr
  have hsc := store_cc m w1
  have hAs := ccA_size m
  clear hr h hI hn
  generalize ccA m = A at hsc hAs
  go_wp2
  go_ret
  exact ⟨⟨r, rfl, unhide HR⟩, ((hb0 _).trans (hB.mono (by simp))).alloc (by have := hB.size; simp at this; omega) _⟩
end Go.Proofs.Ytaelbmilicfkhaa

/- The reader that draws: next, below, once, word, near, off. -/
namespace Go.Proofs.Ytaelbmilicfkhaa
open Go.RowKit
set_option linter.unusedVariables false
set_option linter.unusedSimpArgs false

/-- n bytes lie from the address a on, in a block ahead of r. -/
def BytesAt (w : World) (a : Option Addr) (n r : Nat) : Prop :=
  ∀ i, i < n → ∃ b o x, a = some ⟨b, o, none⟩ ∧ b < r ∧ w.cell? ⟨b, o + i, none⟩ = some (.int .u8 x) ∧ 0 ≤ x ∧ x < 256

theorem BytesAt.touch {w w' : World} {a : Option Addr} {n r : Nat} (h : BytesAt w a n r) (hT : Touch (· = r) w w') : BytesAt w' a n r := by
  intro i hi
  obtain ⟨b, o, x, ha, hb, hc, h0, h1⟩ := h i hi
  exact ⟨b, o, x, ha, hb, (World.cell?_of_block (w := w) (a := ⟨b, o + i, none⟩) (hT.block b (World.block_lt_of_cell? _ _ hc) (Nat.ne_of_lt hb))).trans hc, h0, h1⟩

/-- A reader over n bytes in block r. -/
def RdAt (w : World) (r : Nat) : Prop :=
  ∃ (a : Option Addr) (n c p : Nat), w.cell? ⟨r, 0, none⟩ = some (.slice a n c) ∧ w.cell? ⟨r, 1, none⟩ = some (.int .i64 (p : Int)) ∧ ((∀ i, w.frozen? ⟨r, i, none⟩ = false) ∧ ∀ i, w.cell? ⟨r, i + 2, none⟩ = none) ∧ p ≤ n ∧ n ≤ 1048576 ∧ BytesAt w a n r

theorem RdAt.lt {w : World} {r : Nat} (h : RdAt w r) : r < w.heap.size := by
  obtain ⟨a, n, c, p, h0, _⟩ := h
  exact World.block_lt_of_cell? _ _ h0

/-- What leaves the reader and all that is older as it was. -/
theorem RdAt.past {w w' : World} {r B : Nat} (h : RdAt w r) (hb : Below B w w') (hlt : r < B) : RdAt w' r := by
  obtain ⟨a, n, c, p, h0, h1, hf, h2, h3, h4⟩ := h
  refine ⟨a, n, c, p, (hb.cell (p := ⟨r, 0, none⟩) hlt).trans h0, (hb.cell (p := ⟨r, 1, none⟩) hlt).trans h1, ⟨fun i => (hb.frozen (p := ⟨r, i, none⟩) hlt).trans (hf.1 i), fun i => (hb.cell (p := ⟨r, i + 2, none⟩) hlt).trans (hf.2 i)⟩, h2, h3, fun i hi => ?_⟩
  obtain ⟨b, o, x, ha, hb', hc, hx⟩ := h4 i hi
  exact ⟨b, o, x, ha, hb', (hb.cell (p := ⟨b, o + i, none⟩) (Nat.lt_trans hb' hlt)).trans hc, hx⟩

theorem RdAt.below {w w' : World} {r : Nat} (h : RdAt w r) (hb : Below w.heap.size w w') : RdAt w' r := h.past hb h.lt

set_option maxHeartbeats 1000000 in
theorem rdNext_any (r : Nat) (w : World) (h : RdAt w r) :
    Calls Try.prog 80 #[.pointer (some ⟨r, 0, none⟩)] w fun e w' => ∃ x : Int, e = .returned (.int .i64 x) ∧ 0 ≤ x ∧ x < 256 ∧ RdAt w' r ∧ Touch (· = r) w w' := by
  obtain ⟨a, n, c, p, h0, h1, ⟨hf, hz⟩, hp, hn, hb⟩ := h
  have HZ := hide hz
  clear hz
  by_cases hlt : p < n
  · obtain ⟨b, o, x, rfl, hbr, hc, hx0, hx1⟩ := hb p hlt
    have HB := hide hb
    have hrb : ¬ r = b := by omega
    have hbr2 : ¬ b = r := by omega
    clear hb
    go_enter Try.func80, Try.ntmps80
    go_wp2
    go_region
    all_goals (
      go_wp2
      go_region
      all_goals (
        go_wp2
        go_ret
        have hT : Touch (· = r) w (w.setCell ⟨r, 1, none⟩ (.int .i64 ((p : Int) + 1))).drew.drew := ((Touch.setCell (S := fun x => x = r) (Touch.refl _ w) (p := ⟨r, 1, none⟩) rfl _).drew).drew
        refine ⟨x, rfl, hx0, hx1, ⟨_, n, c, p + 1, ?_, ?_, ⟨?_, ?_⟩, by omega, hn, (unhide HB).touch hT⟩, hT⟩
        · show (w.setCell ⟨r, 1, none⟩ _).cell? ⟨r, 0, none⟩ = _
          rw [World.cell?_setCell_other _ _ _ _ (by simp)]; exact h0
        · show (w.setCell ⟨r, 1, none⟩ _).cell? ⟨r, 1, none⟩ = _
          rw [World.cell?_setCell_same' _ _ _ (by rw [h1]; rfl)]; simp
        · intro i
          show (w.setCell ⟨r, 1, none⟩ _).frozen? ⟨r, i, none⟩ = _
          simpa using hf i
        · intro i
          show (w.setCell ⟨r, 1, none⟩ _).cell? ⟨r, i + 2, none⟩ = _
          rw [World.cell?_setCell_other _ _ _ _ (by simp <;> omega)]; exact unhide HZ i))
  · have HB := hide hb
    clear hb
    go_enter Try.func80, Try.ntmps80
    go_wp2
    go_region
    all_goals (
      go_wp2
      go_ret
      exact ⟨0, rfl, by omega, by omega, ⟨a, n, c, p, h0, h1, ⟨hf, unhide HZ⟩, hp, hn, (unhide HB).touch (Touch.refl _ w).drew⟩, (Touch.refl _ w).drew⟩)

set_option maxHeartbeats 1000000 in
theorem below_any (r : Nat) (m : Int) (w : World) (h : RdAt w r) (hm1 : 1 < m) (hm2 : m ≤ 1000000000000) :
    Calls Try.prog 65 #[.pointer (some ⟨r, 0, none⟩), .int .i64 m] w fun e w' => ∃ x : Int, e = .returned (.int .i64 x) ∧ 0 ≤ x ∧ x < m ∧ RdAt w' r ∧ Touch (· = r) w w' := by
  have hm0 : ¬ m = 0 := by omega
  go_enter Try.func65, Try.ntmps65
  by_cases hb : m ≤ 256
  · go_wp2_with fail
    refine (rdNext_any r _ h).mono ?_
    rintro e w1 ⟨x, rfl, hx0, hx1, hR, hT⟩
    have hq0 : 0 ≤ x % m := Int.emod_nonneg _ hm0
    have hq1 : x % m < m := Int.emod_lt_of_pos _ (by omega)
    have HR := hide hR
    clear h hR
    go_wp2
    go_ret
    exact ⟨_, rfl, hq0, hq1, unhide HR, hT⟩
  · go_wp2_with fail
    refine (rdNext_any r _ h).mono ?_
    rintro e w1 ⟨x, rfl, hx0, hx1, hR, hT⟩
    have HR := hide hR
    clear h hR
    go_wp2_with fail
    refine (rdNext_any r _ (unhide HR)).mono ?_
    rintro e w2 ⟨y, rfl, hy0, hy1, hR2, hT2⟩
    have hq0 : 0 ≤ (x * 256 + y) % m := Int.emod_nonneg _ hm0
    have hq1 : (x * 256 + y) % m < m := Int.emod_lt_of_pos _ (by omega)
    have HR2 := hide hR2
    clear hR2 HR
    go_wp2
    go_ret
    exact ⟨_, rfl, hq0, hq1, unhide HR2, hT.trans hT2⟩

set_option maxHeartbeats 1000000 in
theorem once_any (r : Nat) (m : Int) (w : World) (h : RdAt w r) (hm1 : 1 < m) (hm2 : m ≤ 1000000000000) :
    Calls Try.prog 67 #[.pointer (some ⟨r, 0, none⟩), .int .i64 m] w fun e w' => ∃ x : Int, e = .returned (.bool (x == m - 1)) ∧ RdAt w' r ∧ Touch (· = r) w w' := by
  go_enter Try.func67, Try.ntmps67
  go_wp2_with fail
  refine (below_any r m _ h hm1 hm2).mono ?_
  rintro e w1 ⟨x, rfl, hx0, hx1, hR, hT⟩
  have HR := hide hR
  clear h hR
  go_wp2
  go_ret
  exact ⟨x, rfl, unhide HR, hT⟩

set_option maxHeartbeats 1000000 in
theorem word_any (r : Nat) (w : World) (h : RdAt w r) :
    Calls Try.prog 81 #[.pointer (some ⟨r, 0, none⟩)] w fun e w' => ∃ x : Int, e = .returned (.int .u64 x) ∧ RdAt w' r ∧ Touch (· = r) w w' := by
  go_enter Try.func81, Try.ntmps81
  go_wp2
  go_loopw [3, 4] (fun v i wr => ∃ (k : Nat) (x : Int), k ≤ 8 ∧ i = .int .i64 k ∧ v = .int .u64 x ∧ RdAt wr r ∧ Touch (· = r) w wr) (fun _ i _ => 8 - (intOf i).toNat)
  case atStart => exact ⟨0, 0, by omega, rfl, rfl, h, Touch.refl _ _⟩
  case round =>
    obtain ⟨k, x, hk, rfl, rfl, hR, hT⟩ := hrel
    have HR := hide hR
    clear hR h
    by_cases hlt : k < 8
    · go_wp2_with fail
      refine (rdNext_any r _ (unhide HR)).mono ?_
      rintro e w1 ⟨y, rfl, hy0, hy1, hR1, hT1⟩
      have HR1 := hide hR1
      clear hR1 HR
      go_wp2
      go_roundw
      case rel => exact ⟨k + 1, _, by omega, by go_num, rfl, unhide HR1, hT.trans hT1⟩
      case measure => simp [intOf]; omega
    · go_wp2
      go_ret
      exact ⟨x, rfl, unhide HR, hT⟩

set_option maxHeartbeats 1000000 in
theorem near_any (r : Nat) (lo hi : Int) (w : World) (h : RdAt w r) (h0 : -1000000000000 ≤ lo) (h1 : lo ≤ hi) (h2 : hi ≤ 1000000000000) :
    Calls Try.prog 69 #[.pointer (some ⟨r, 0, none⟩), .int .i64 lo, .int .i64 hi] w fun e w' => ∃ x : Int, e = .returned (.int .i64 x) ∧ RdAt w' r ∧ Touch (· = r) w w' := by
  go_enter Try.func69, Try.ntmps69
  go_wp2_with fail
  refine (below_any r 8 _ h (by omega) (by omega)).mono ?_
  rintro e w1 ⟨x, rfl, hx0, hx1, hR, hT⟩
  have HR := hide hR
  clear h hR
  by_cases e0 : x = 0
  · have hb : (x == 0) = true := by simpa using e0
    go_wp2
    go_ret
    exact ⟨_, rfl, unhide HR, hT⟩
  · have hb : (x == 0) = false := by simpa using e0
    by_cases e1 : x = 1
    · have hb : (x == 1) = true := by simpa using e1
      go_wp2
      go_ret
      exact ⟨_, rfl, unhide HR, hT⟩
    · have hb : (x == 1) = false := by simpa using e1
      have hnz : ¬ hi - lo + 1 = 0 := by omega
      go_wp2_with fail
      refine (word_any r _ (unhide HR)).mono ?_
      rintro e w2 ⟨y, rfl, hR2, hT2⟩
      have HR2 := hide hR2
      clear hR2 HR
      go_wp2
      go_ret
      exact ⟨_, rfl, unhide HR2, hT.trans hT2⟩

theorem Touch.cell {S : Nat → Prop} {w w' : World} (h : Touch S w w') {b o : Nat} (hb : b < w.heap.size) (hs : ¬ S b) : w'.cell? ⟨b, o, none⟩ = w.cell? ⟨b, o, none⟩ :=
  World.cell?_of_block (w := w) (a := ⟨b, o, none⟩) (h.block b hb hs)

theorem Touch.frozen {S : Nat → Prop} {w w' : World} (h : Touch S w w') {b o : Nat} (hb : b < w.heap.size) (hs : ¬ S b) : w'.frozen? ⟨b, o, none⟩ = w.frozen? ⟨b, o, none⟩ := by
  simp [World.frozen?, h.block b hb hs]

theorem Touch.past {S : Nat → Prop} {w w' w2 : World} (h : Touch S w w') {B : Nat} (hb : Below B w' w2) (hB : w.heap.size ≤ B) : Touch S w w2 :=
  ⟨hb.os.trans h.os, hb.tape.trans h.tape, hb.output.trans h.output, Nat.le_trans h.size hb.size, fun k hk hs => (hb.block k (Nat.lt_of_lt_of_le hk hB)).trans (h.block k hk hs)⟩

theorem Touch.alloc {S : Nat → Prop} {w w' : World} (h : Touch S w w') (o : Obj) : Touch S w (w'.alloc o) :=
  h.trans (Touch.of_below ((Below.refl _ _).alloc (Nat.le_refl _) _))

set_option maxHeartbeats 1000000 in
theorem off_any (r : Nat) (lo hi : Int) (w : World) (h : RdAt w r) (h0 : -1000000000000 ≤ lo) (h1 : lo ≤ hi) (h2 : hi ≤ 1000000000000) :
    Calls Try.prog 47 #[.pointer (some ⟨r, 0, none⟩), .int .i64 lo, .int .i64 hi] w fun e w' => ∃ x : Int, e = .returned (.int .i64 x) ∧ RdAt w' r ∧ Touch (· = r) w w' := by
  go_enter Try.func47, Try.ntmps47
  go_wp2_with fail
  refine (once_any r 24 _ h (by omega) (by omega)).mono ?_
  rintro e w1 ⟨x, rfl, hR, hT⟩
  have HR := hide hR
  have hrl := hR.lt
  clear h hR
  cases hb : (x == (24 : Int) - 1) with
  | false =>
    go_wp2_with fail
    refine (near_any r lo hi _ (unhide HR) h0 h1 h2).mono ?_
    rintro e w2 ⟨y, rfl, hR2, hT2⟩
    have HR2 := hide hR2
    clear hR2 HR
    go_wp2
    go_ret
    exact ⟨_, rfl, unhide HR2, hT.trans hT2⟩
  | true =>
    go_wp2_with fail
    have hB1 : ∀ o, Below w1.heap.size w1 (w1.alloc o) := fun o => (Below.refl _ _).alloc (Nat.le_refl _) _
    refine (below_any r 4 _ ((unhide HR).below (hB1 _)) (by omega) (by omega)).mono ?_
    rintro e w2 ⟨y, rfl, hy0, hy1, hR2, hT2⟩
    have HR2 := hide hR2
    have hT3 := (hT.alloc _).trans hT2
    have hc : ∀ o, w2.cell? ⟨w1.heap.size, o, none⟩ = (w1.alloc (.cells #[.int .i64 (lo - 1), .int .i64 (hi + 1), .int .i64 (-9223372036854775808), .int .i64 9223372036854775807] 2)).cell? ⟨w1.heap.size, o, none⟩ := fun o => hT2.cell (by simp) (by show ¬ w1.heap.size = r; omega)
    have c0 : w2.cell? ⟨w1.heap.size, 0, none⟩ = some (.int .i64 (lo - 1)) := by rw [hc]; simp
    have c1 : w2.cell? ⟨w1.heap.size, 1, none⟩ = some (.int .i64 (hi + 1)) := by rw [hc]; simp
    have c2 : w2.cell? ⟨w1.heap.size, 2, none⟩ = some (.int .i64 (-9223372036854775808)) := by rw [hc]; simp
    have c3 : w2.cell? ⟨w1.heap.size, 3, none⟩ = some (.int .i64 9223372036854775807) := by rw [hc]; simp
    have h4 : y = 0 ∨ y = 1 ∨ y = 2 ∨ y = 3 := by omega
    clear hR2 HR hT2 hc hT hB1
    rcases h4 with rfl | rfl | rfl | rfl
    all_goals (
      go_wp2
      go_ret
      exact ⟨_, rfl, unhide HR2, hT3⟩)

end Go.Proofs.Ytaelbmilicfkhaa

/- A reader is opened over a code; whether a code is too long. -/
namespace Go.Proofs.Ytaelbmilicfkhaa
open Go.RowKit Go.ChangeShapes Go.WideShapes
set_option linter.unusedVariables false
set_option linter.unusedSimpArgs false

/-- A code of n bytes from the address a on. -/
def CodeAt (w : World) (a : Option Addr) (n : Nat) : Prop :=
  ∀ i, i < n → ∃ b o x, a = some ⟨b, o, none⟩ ∧ w.cell? ⟨b, o + i, none⟩ = some (.int .u8 x) ∧ 0 ≤ x ∧ x < 256

theorem CodeAt.below {w w' : World} {a : Option Addr} {n B : Nat} (h : CodeAt w a n) (hb : Below B w w') (hB : w.heap.size ≤ B) : CodeAt w' a n := by
  intro i hi
  obtain ⟨b, o, x, ha, hc, hx⟩ := h i hi
  exact ⟨b, o, x, ha, (hb.cell (p := ⟨b, o + i, none⟩) (Nat.lt_of_lt_of_le (World.block_lt_of_cell? _ _ hc) hB)).trans hc, hx⟩

theorem big_any (a : Option Addr) (n c : Nat) (w : World) (hn : n ≤ 9223372036854775807) :
    Calls Try.prog 13 #[.slice a n c] w fun e w' => e = .returned (.bool (decide ((1048576 : Int) < (n : Int)))) ∧ w' = w := by
  go_enter Try.func13, Try.ntmps13
  by_cases h : (1048576 : Int) < (n : Int)
  · go_wp2
    go_ret
    exact ⟨by simp; omega, rfl⟩
  · go_wp2
    go_ret
    exact ⟨by simp; omega, rfl⟩

theorem l1Open_any (a : Option Addr) (n c : Nat) (w : World) (h : CodeAt w a n) (hn : n ≤ 1048576) :
    Calls Try.prog 46 #[.slice a n c] w fun e w' => e = .returned (.pointer (some ⟨w.heap.size, 0, none⟩)) ∧ RdAt w' w.heap.size ∧ Below w.heap.size w w' := by
  go_enter Try.func46, Try.ntmps46
  go_wp2
  go_ret
  have hB : ∀ o, Below w.heap.size w (w.alloc o) := fun o => (Below.refl _ _).alloc (Nat.le_refl _) _
  refine ⟨rfl, ⟨a, n, c, 0, by simp, by simp, ⟨fun i => ?_, fun i => ?_⟩, Nat.zero_le _, hn, fun i hi => ?_⟩, hB _⟩
  · exact (World.rowIs_alloc w #[.slice a n c, .int .i64 0] 98 (fun i => if i = 0 then .slice a n c else .int .i64 0) (fun j hj => by
      have h2 : j = 0 ∨ j = 1 := by simp at hj; omega
      rcases h2 with rfl | rfl <;> rfl)).frozen i
  · exact (cell_of_row _ _ (i + 2) _ _ _ (Go.Deep.blk_alloc_new _ _)).trans (by simp)
  · obtain ⟨b, o, x, ha, hc, hx⟩ := (h.below (hB _) (Nat.le_refl _)) i hi
    obtain ⟨b', o', x', ha', hc', _⟩ := h i hi
    rw [ha] at ha'
    cases ha'
    exact ⟨b, o, x, ha, World.block_lt_of_cell? _ _ hc', hc, hx⟩

theorem open_code {H : Type} {enc : TypeId × Value → H} {P : Program} {w : World} {base b0 : Nat} {spare : Nat → Bool} {held : Bool} {t e : TypeId} {v : Value} {d : DataW H} {p : List MemPlace}
    (ht : P.underlying t = some (.slice e)) (he : P.underlying e = some (.int .u8)) (hc : P.cellsOf e = 1) (hv : Value.okWide P w .any b0 t v) (h : DataW.Trod enc P w base spare held t v d p) :
    ∃ (a : Option Addr) (n c : Nat), v = .slice a n c ∧ CodeAt w a n ∧ n ≤ 9223372036854775807 := by
  obtain ⟨a, len, cap, rfl⟩ := okWide_slice ht hv
  obtain ⟨fuel, hf⟩ := h
  rcases open_ints ht he hc hf with ⟨h0, _⟩ | ⟨a', len', cap', zs, h0, hb, hl, hm, hz, _, hcell, hwf⟩
  · cases h0
    exact ⟨none, 0, 0, rfl, fun i hi => absurd hi (Nat.not_lt_zero _), by omega⟩
  · cases h0
    have hle : len ≤ zs.length := by rw [hz]; split <;> omega
    refine ⟨some a', len, cap, rfl, fun i hi => ?_, by simp [maxLen] at hm; omega⟩
    have h1 := hcell i (by omega)
    obtain ⟨b, o, spot⟩ := a'
    have hs : spot = none := by have := World.cell?_spot (hcell 0 (by omega)); simpa [Addr.add] using this
    subst hs
    rw [add_plain] at h1
    obtain ⟨x, hx⟩ := getElem?_ex (l := zs) (k := i) (by omega)
    have hw := hwf x (List.mem_of_getElem? hx)
    refine ⟨b, o, x, rfl, by rw [h1]; simp [hx], ?_⟩
    have e0 : IntKind.u8.min = 0 := by decide
    have e1 : IntKind.u8.max = 255 := by decide
    simp only [Lit.wf, Bool.and_eq_true, decide_eq_true_eq, e0, e1] at hw
    omega

end Go.Proofs.Ytaelbmilicfkhaa

namespace Go.Proofs.Ytaelbmilicfkhaa.fnNew
open Go.ChangeShapes Go.WideShapes Go.ChangeAt Go.RowKit
set_option linter.unusedVariables false
set_option linter.unusedSimpArgs false

theorem newMap_length (n : Nat) : (newMap n).length = 4 * (n - 3) := by simp [newMap]
theorem lens9 {n : Nat} (h : n ≤ 12) : Lens 9223372036854775807 (newBs n) := ⟨by rw [newBs_length]; omega, fun b hb => by rw [newBs_block hb]; simp [zeroBk]⟩
theorem pu_zero (k : Nat) : pu zeroBk k = false := by
  unfold pu pagesF
  match k with
  | 0 | 1 | 2 | 3 => rfl
  | k + 4 => rfl
theorem ftlOk_new {n : Nat} (h4 : 4 ≤ n) (h12 : n ≤ 12) : FtlOk (newBs n) (newMap n) 1 0 := by
  have hu := usedOf_newBs n
  refine ⟨chipOk_newBs h4 h12, (fun x hx => by rw [hu] at hx; cases hx), ?_, ?_, ?_, ?_, ?_⟩
  · rw [hu, placesOf_nil]; unfold roomOf newMap; rw [newBs_length]
  · unfold topSeq; rw [hu]; exact ⟨by show (0 : Int) + 1 ≤ 1; decide, by decide⟩
  · rw [newBs_length]; omega
  · intro i x _ hx _
    rw [newBs_block (List.mem_of_getElem? hx)]
    unfold halfB; rw [pu_zero]; rfl
  · obtain ⟨x, hx⟩ := getElem?_ex (l := newBs n) (k := 1) (by rw [newBs_length]; omega)
    refine ⟨1, x, by rw [newBs_length]; omega, hx, by decide, ?_⟩
    rw [newBs_block (List.mem_of_getElem? hx)]
    unfold freeB; rw [pu_zero]; rfl
theorem pageIs_new {n k : Nat} {d : ByteArray} {r : Bool} (hok : FtlOk (newBs n) (newMap n) 1 0) (h : PageIs (newBs n) (newMap n) 1 0 (k : Int) d r) (hk : k < (newMap n).length) : d = ⟨#[0, 0, 0, 0]⟩ ∧ r = true := by
  rcases h with ⟨_, hr, x, hx, hd⟩ | ⟨h, _⟩
  · refine ⟨?_, hr⟩
    have hx' := List.mem_of_getElem? hx
    rw [List.eq_of_mem_replicate hx'] at hd
    rw [hd, dataOf_none (by decide)]
    rfl
  · exact absurd ⟨hok, by omega, by omega⟩ h
theorem freeIs_new {n : Nat} {L : List Int} (h4 : 4 ≤ n) (h12 : n ≤ 12) (h : FreeIs (newBs n) L) : L.length = n := by
  rcases h with ⟨_, rfl⟩ | ⟨h, _⟩
  · have hb : ∀ i, begun (newBs n) i = false := fun i => by
      unfold begun
      cases e : (newBs n)[i]? with
      | none => rfl
      | some x =>
        simp only [Option.map_some, Option.getD_some]
        rw [newBs_block (List.mem_of_getElem? e), pu_zero]
    rw [newBs_length]
    unfold freeTo
    rw [List.filter_eq_self.2 (fun i _ => by rw [hb]; rfl)]
    simp
  · exact absurd (chipOk_newBs h4 h12) h
theorem chipOkI_n (a : Option Addr) (c : Nat) (bs : List Bk) (n : Nat) (hl : bs.length = n) (w : World) (h : BlocksAt w a bs) (hn : Lens 9223372036854775807 bs) :
    Calls Try.prog 22 #[.agg #[.slice a n c]] w fun e w' => RetIff (ChipOk bs) e ∧ Below w.heap.size w w' := by
  subst hl; exact implChipOk_any a c bs w h hn

theorem drawFtlNew_any (a : Option Addr) (n c : Nat) (w : World) (h : CodeAt w a n) (hn : n ≤ 1048576) :
    Calls Try.prog 14 #[.slice a n c] w fun e w' => ∃ z : Int, e = .returned (.int .i64 z) ∧ Below w.heap.size w w' := by
  go_enter Try.func14, Try.ntmps14
  go_wp2_with fail
  refine (l1Open_any a n c _ h hn).mono ?_
  rintro e w1 ⟨rfl, hR, hB⟩
  have HR := hide hR
  have hsz := hB.size
  clear h hR
  go_wp2_with fail
  refine (off_any w.heap.size 4 12 _ (unhide HR) (by omega) (by omega) (by omega)).mono ?_
  rintro e w2 ⟨x, rfl, _, hT⟩
  have hB2 := hB.trans (hT.below hsz (fun k hk => by subst hk; exact Nat.le_refl _))
  clear hT HR
  go_wp2
  go_ret
  exact ⟨_, rfl, hB2⟩

set_option maxRecDepth 100000 in
set_option maxHeartbeats 8000000 in
theorem walk (a : Option Addr) (n c : Nat) (w : World) (h : CodeAt w a n) (hn : n ≤ 9223372036854775807) :
    Calls Try.prog 3 #[.slice a n c] w fun e w' => e = .returned (.bool true) ∧ Below w.heap.size w w' := by
  have HC := hide h
  clear h
  go_enter Try.func3, Try.ntmps3
  go_wp2_with fail
  refine (big_any a n c _ hn).mono ?_
  rintro e w0 ⟨rfl, rfl⟩
  by_cases hbig : (1048576 : Int) < (n : Int)
  · have hd : decide ((1048576 : Int) < (n : Int)) = true := by simpa using hbig
    rw [hd]
    clear hd
    go_wp2
    go_ret
    exact ⟨rfl, Below.refl _ _⟩
  · have hd : decide ((1048576 : Int) < (n : Int)) = false := by simpa using hbig
    have hbig' : n ≤ 1048576 := by omega
    rw [hd]
    clear hd hbig
    go_wp2_with fail
    refine (drawFtlNew_any a n c _ (unhide HC) hbig').mono ?_
    rintro e w1 ⟨z, rfl, hW1⟩
    have hs1 := hW1.size
    generalize n = nn at *
    clear HC
    by_cases hin : 4 ≤ z ∧ z ≤ 12
    · obtain ⟨n, rfl⟩ := Int.eq_ofNat_of_zero_le (show 0 ≤ z by omega)
      have h4 : 4 ≤ n := by omega
      have h12 : n ≤ 12 := by omega
      go_wp2_with fail
      refine (implChipNew_yes n _ h4 h12).mono ?_
      rintro e w2 ⟨g, H, rfl, hg, hO, hB2⟩
      have hs2 := hB2.size
      have hW2 := hW1.trans (hB2.mono hW1.size)
      have HCA := hide (hO.blocksAt (by simp))
      have hb2 : ∀ o, Below w2.heap.size w2 (w2.alloc o) := fun o => (Below.refl _ w2).alloc (Nat.le_refl _) _
      clear hB2 hO hg hW1
      go_wp2_with fail
      refine (implFtlNew_own (n : Int) _).mono ?_
      rintro e w3 ⟨a1, n1, c1, ma1, mn1, mc1, out, L, seq, o, r, rfl, hE1, hF, hB3⟩
      obtain ⟨rfl, rfl, rfl, rfl, rfl⟩ : out = newBs n ∧ L = newMap n ∧ seq = 1 ∧ o = 0 ∧ r = true := by
        rcases hE1 with ⟨_, h1, h2, h3, h4, h5⟩ | ⟨h, _⟩
        · exact ⟨by simpa using h1, by simpa using h2, h3, h4, h5⟩
        · exact absurd hin h
      have hn1 : n1 = n := by have := hF.length.1; rw [newBs_length] at this; exact this.symm
      subst hn1
      have hmn1 := hF.length.2
      have hm4 : (mn1 : Int) = 4 * ((n1 : Int) - 3) := by have := newMap_length n1; omega
      have hs3 := hB3.size
      simp at hs3
      have c30 : w3.cell? ⟨w2.heap.size, 0, none⟩ = some (.slice (some ⟨g, 0, none⟩) n1 n1) := by
        rw [hB3.cell (p := ⟨w2.heap.size, 0, none⟩) (by simp)]
        simp
      have hB23 : Below w2.heap.size w2 w3 := (hb2 _).trans (hB3.mono (by simp))
      have hW3 := hW2.trans (hB23.mono hW2.size)
      have HCA3 := hide ((unhide HCA).below hB23 (Nat.le_refl _))
      have HF3 := hide hF
      have hb3 : ∀ o, Below w3.heap.size w3 (w3.alloc o) := fun o => (Below.refl _ w3).alloc (Nat.le_refl _) _
      clear hB3 hB23 hF hE1 HCA hW2 hb2
      go_wp2_with fail
      refine (specFtlNew_any (n1 : Int) _).mono ?_
      rintro e w4 ⟨a2, n2, c2, ma2, mn2, mc2, out, L, seq, o, r, rfl, hE2, hl2, hm2, hA2, hI2, hB4⟩
      obtain ⟨rfl, rfl, rfl, rfl, rfl⟩ : out = newBs n1 ∧ L = newMap n1 ∧ seq = 1 ∧ o = 0 ∧ r = true := by
        rcases hE2 with ⟨_, h1, h2, h3, h4, h5⟩ | ⟨h, _⟩
        · exact ⟨by simpa using h1, by simpa using h2, h3, h4, h5⟩
        · exact absurd hin h
      obtain rfl : n2 = n1 := by rw [newBs_length] at hl2; exact hl2.symm
      obtain rfl : mn2 = mn1 := by omega
      have hs4 := hB4.size
      simp at hs4
      have f40 : w4.cell? ⟨w3.heap.size, 0, none⟩ = some (.slice a1 n2 c1) := by
        rw [hB4.cell (p := ⟨w3.heap.size, 0, none⟩) (by simp)]
        simp
      have f41 : w4.cell? ⟨w3.heap.size, 1, none⟩ = some (.slice ma1 mn2 mc1) := by
        rw [hB4.cell (p := ⟨w3.heap.size, 1, none⟩) (by simp)]
        simp
      have f42 : w4.cell? ⟨w3.heap.size, 2, none⟩ = some (.int .i64 1) := by
        rw [hB4.cell (p := ⟨w3.heap.size, 2, none⟩) (by simp)]
        simp
      have f43 : w4.cell? ⟨w3.heap.size, 3, none⟩ = some (.int .i64 0) := by
        rw [hB4.cell (p := ⟨w3.heap.size, 3, none⟩) (by simp)]
        simp
      have c40 := (hB4.cell (p := ⟨w2.heap.size, 0, none⟩) (by simp; omega)).trans ((cell_alloc_lt _ _ _ _ (by omega)).trans c30)
      have hB34 : Below w3.heap.size w3 w4 := (hb3 _).trans (hB4.mono (by simp))
      have hW4 := hW3.trans (hB34.mono hW3.size)
      have HCA4 := hide ((unhide HCA3).below hB34 (Nat.le_refl _))
      have HF4 := hide ((unhide HF3).below hB34)
      have HA4 := hide hA2
      have HI4 := hide hI2
      have hb4 : ∀ o, Below w4.heap.size w4 (w4.alloc o) := fun o => (Below.refl _ w4).alloc (Nat.le_refl _) _
      have hroom : roomI (n2 : Int) = (mn2 : Int) := by rw [roomI_in (by omega)]; omega
      have HLM := hide hm2
      have hl24 : w2.heap.size < w4.heap.size := by omega
      have hl34 : w3.heap.size < w4.heap.size := by omega
      clear hB4 hB34 HF3 HCA3 hW3 hb3 hA2 hI2 hE2 c30 hl2 hm2 hmn1
      go_wp2_with fail
      refine (implRoomFor_any (n2 : Int) _).mono ?_
      rintro e w5 ⟨rfl, rfl⟩
      rw [hroom]
      obtain ⟨w6, hw6⟩ : ∃ w6, w6 = w4.alloc (.cells #[.slice a2 n2 c2, .slice ma2 mn2 mc2, .int .i64 1, .int .i64 0] 32) := ⟨_, rfl⟩
      have hs6 : w4.heap.size < w6.heap.size := by rw [hw6]; simp
      have hB46 : Below w4.heap.size w4 w6 := by rw [hw6]; exact hb4 _
      have t60 : w6.cell? ⟨w4.heap.size, 0, none⟩ = some (.slice a2 n2 c2) := by rw [hw6]; simp
      have t61 : w6.cell? ⟨w4.heap.size, 1, none⟩ = some (.slice ma2 mn2 mc2) := by rw [hw6]; simp
      have t62 : w6.cell? ⟨w4.heap.size, 2, none⟩ = some (.int .i64 1) := by rw [hw6]; simp
      have t63 : w6.cell? ⟨w4.heap.size, 3, none⟩ = some (.int .i64 0) := by rw [hw6]; simp
      have f60 := (hB46.cell (p := ⟨w3.heap.size, 0, none⟩) hl34).trans f40
      have f61 := (hB46.cell (p := ⟨w3.heap.size, 1, none⟩) hl34).trans f41
      have f62 := (hB46.cell (p := ⟨w3.heap.size, 2, none⟩) hl34).trans f42
      have f63 := (hB46.cell (p := ⟨w3.heap.size, 3, none⟩) hl34).trans f43
      have c60 := (hB46.cell (p := ⟨w2.heap.size, 0, none⟩) hl24).trans c40
      have hW6 := hW4.trans (hB46.mono hW4.size)
      have HCA6 := hide ((unhide HCA4).below hB46 (Nat.le_refl _))
      have HF6 := hide ((unhide HF4).below hB46)
      have HA6 := hide ((unhide HA4).below hB46 (Nat.le_refl _))
      have HI6 := hide ((unhide HI4).below hB46 (Nat.le_refl _))
      have hmn : mn2 ≤ 36 := by omega
      rw [← hw6]
      clear hw6 hB46 HCA4 HF4 HA4 HI4 hW4 hb4 c40 f40 f41 f42 f43
      go_wp2_with fail
      refine (sameFtl_same a1 a2 c1 c2 (newBs n2) n2 (newBs_length n2) ma1 ma2 mc1 mc2 (newMap n2) mn2 (unhide HLM) 1 0 _ (unhide HF6).blocksAt (unhide HA6) (lensNewF h12) (unhide HF6).2.1 (unhide HI6) (by omega)).mono ?_
      rintro e w7 ⟨rfl, hB7⟩
      have hs7 := hB7.size
      have f70 := (hB7.cell (p := ⟨w3.heap.size, 0, none⟩) (by show w3.heap.size < _; omega)).trans f60
      have f71 := (hB7.cell (p := ⟨w3.heap.size, 1, none⟩) (by show w3.heap.size < _; omega)).trans f61
      have f72 := (hB7.cell (p := ⟨w3.heap.size, 2, none⟩) (by show w3.heap.size < _; omega)).trans f62
      have f73 := (hB7.cell (p := ⟨w3.heap.size, 3, none⟩) (by show w3.heap.size < _; omega)).trans f63
      have c70 := (hB7.cell (p := ⟨w2.heap.size, 0, none⟩) (by show w2.heap.size < _; omega)).trans c60
      have hW7 := hW6.trans (hB7.mono hW6.size)
      have HCA7 := hide ((unhide HCA6).below hB7 (Nat.le_refl _))
      have HF7 := hide ((unhide HF6).below hB7)
      clear hB7 HCA6 HF6 HA6 HI6 hW6 c60 f60 f61 f62 f63 t60 t61 t62 t63
      go_wp2_with fail
      refine (specRoomFor_any (n2 : Int) _).mono ?_
      rintro e w8 ⟨rfl, rfl⟩
      rw [hroom]
      have hne : ((mn2 : Int) != (mn2 : Int)) = false := by simp
      have HOKF := hide (ftlOk_new h4 h12)
      have hl28 : w2.heap.size < w8.heap.size := by omega
      have hl38 : w3.heap.size < w8.heap.size := by omega
      go_wp2
      go_loopw [11] (fun i wr => ∃ k : Nat, k ≤ mn2 ∧ i = .int .i64 k ∧ Below w8.heap.size w8 wr) (fun i _ => mn2 - (intOf i).toNat)
      case atStart => exact ⟨0, Nat.zero_le _, rfl, Below.refl _ _⟩
      case round =>
        obtain ⟨k, hk, rfl, hB⟩ := hrel
        have hsr := hB.size
        have fr0 := (hB.cell (p := ⟨w3.heap.size, 0, none⟩) hl38).trans f70
        have fr1 := (hB.cell (p := ⟨w3.heap.size, 1, none⟩) hl38).trans f71
        have fr2 := (hB.cell (p := ⟨w3.heap.size, 2, none⟩) hl38).trans f72
        have fr3 := (hB.cell (p := ⟨w3.heap.size, 3, none⟩) hl38).trans f73
        have cr0 := (hB.cell (p := ⟨w2.heap.size, 0, none⟩) hl28).trans c70
        have HFr := hide ((unhide HF7).below hB)
        have HCr := hide ((unhide HCA7).below hB (Nat.le_refl _))
        have hWr := hW7.trans (hB.mono hW7.size)
        by_cases hlt : k < mn2
        · clear cr0 f70 f71 f72 f73 c70
          go_wp2_with fail
          refine (implPageAt_any a1 c1 (newBs n2) n2 (newBs_length n2) ma1 mc1 (newMap n2) mn2 (unhide HLM) 1 0 (k : Int) _ (unhide HFr).blocksAt (lens9 h12) (unhide HFr).2.1 (by omega)).mono ?_
          rintro e w9 ⟨d, r, rfl, hP, hB9⟩
          obtain ⟨rfl, rfl⟩ := pageIs_new (unhide HOKF) hP (by have := unhide HLM; omega)
          have hBB := hB.trans (hB9.mono hB.size)
          clear hP hB9 hB fr0 fr1 fr2 fr3 HFr HCr hWr
          go_wp2
          go_roundw
          case rel => exact ⟨k + 1, by omega, by go_num, hBB⟩
          case measure => simp [intOf]; omega
        · clear f70 f71 f72 f73 c70 hB
          obtain ⟨w9, rfl⟩ : ∃ w9, w9 = wr := ⟨_, rfl⟩
          go_wp2_with fail
          refine (chipOkI_n (some ⟨g, 0, none⟩) n2 (newBs n2) n2 (newBs_length n2) _ (unhide HCr) (lens9 h12)).mono ?_
          rintro e w10 ⟨⟨r10, rfl, hr10⟩, hB10⟩
          obtain rfl : r10 = true := hr10.2 (chipOk_newBs h4 h12)
          have hs10 := hB10.size
          have f100 := (hB10.cell (p := ⟨w3.heap.size, 0, none⟩) (by show w3.heap.size < _; omega)).trans fr0
          have f101 := (hB10.cell (p := ⟨w3.heap.size, 1, none⟩) (by show w3.heap.size < _; omega)).trans fr1
          have f102 := (hB10.cell (p := ⟨w3.heap.size, 2, none⟩) (by show w3.heap.size < _; omega)).trans fr2
          have f103 := (hB10.cell (p := ⟨w3.heap.size, 3, none⟩) (by show w3.heap.size < _; omega)).trans fr3
          have c100 := (hB10.cell (p := ⟨w2.heap.size, 0, none⟩) (by show w2.heap.size < _; omega)).trans cr0
          have HF10 := hide ((unhide HFr).below hB10)
          have HC10 := hide ((unhide HCr).below hB10 (Nat.le_refl _))
          have hW10 := hWr.trans (hB10.mono hWr.size)
          clear hB10 hr10 HFr HCr hWr fr0 fr1 fr2 fr3 cr0
          go_wp2_with fail
          refine (implFtlOk_any a1 c1 (newBs n2) n2 (newBs_length n2) ma1 mc1 (newMap n2) mn2 (unhide HLM) 1 0 _ (unhide HF10).blocksAt (lens9 h12) (unhide HF10).2.1 (by omega)).mono ?_
          rintro e w11 ⟨⟨r11, rfl, hr11⟩, hB11⟩
          obtain rfl : r11 = true := hr11.2 (unhide HOKF)
          have hs11 := hB11.size
          have f110 := (hB11.cell (p := ⟨w3.heap.size, 0, none⟩) (by show w3.heap.size < _; omega)).trans f100
          have f111 := (hB11.cell (p := ⟨w3.heap.size, 1, none⟩) (by show w3.heap.size < _; omega)).trans f101
          have f112 := (hB11.cell (p := ⟨w3.heap.size, 2, none⟩) (by show w3.heap.size < _; omega)).trans f102
          have f113 := (hB11.cell (p := ⟨w3.heap.size, 3, none⟩) (by show w3.heap.size < _; omega)).trans f103
          have c110 := (hB11.cell (p := ⟨w2.heap.size, 0, none⟩) (by show w2.heap.size < _; omega)).trans c100
          have HF11 := hide ((unhide HF10).below hB11)
          have HC11 := hide ((unhide HC10).below hB11 (Nat.le_refl _))
          have hW11 := hW10.trans (hB11.mono hW10.size)
          clear hB11 hr11 HF10 HC10 hW10 f100 f101 f102 f103 c100
          go_wp2_with fail
          refine (sameChip_same (some ⟨g, 0, none⟩) a1 n2 c1 (newBs n2) n2 (newBs_length n2) _ (unhide HC11) (unhide HF11).blocksAt (lensNewF h12)).mono ?_
          rintro e w12 ⟨rfl, hB12⟩
          have hs12 := hB12.size
          have f120 := (hB12.cell (p := ⟨w3.heap.size, 0, none⟩) (by show w3.heap.size < _; omega)).trans f110
          have f121 := (hB12.cell (p := ⟨w3.heap.size, 1, none⟩) (by show w3.heap.size < _; omega)).trans f111
          have f122 := (hB12.cell (p := ⟨w3.heap.size, 2, none⟩) (by show w3.heap.size < _; omega)).trans f112
          have f123 := (hB12.cell (p := ⟨w3.heap.size, 3, none⟩) (by show w3.heap.size < _; omega)).trans f113
          have c120 := (hB12.cell (p := ⟨w2.heap.size, 0, none⟩) (by show w2.heap.size < _; omega)).trans c110
          have HC12 := hide ((unhide HC11).below hB12 (Nat.le_refl _))
          have hW12 := hW11.trans (hB12.mono hW11.size)
          clear hB12 HF11 HC11 hW11 f110 f111 f112 f113 c110
          go_wp2_with fail
          refine (implFreeOf_any (some ⟨g, 0, none⟩) n2 (newBs n2) n2 (newBs_length n2) _ (unhide HC12) (lens9 h12)).mono ?_
          rintro e w13 ⟨v, L13, rfl, hFr, hO13, hB13⟩
          obtain ⟨a13, c13, rfl, _, _⟩ := hO13.form
          have hl13 : L13.length = n2 := freeIs_new h4 h12 hFr
          rw [hl13]
          have f131 := (hB13.cell (p := ⟨w3.heap.size, 1, none⟩) (by show w3.heap.size < _; omega)).trans f121
          have hW13 := hW12.trans (hB13.mono hW12.size)
          have hen : ((n2 : Int) == (n2 : Int)) = true := by simp
          have hem : ((mn2 : Int) == (mn2 : Int)) = true := by simp
          clear hB13 hFr hO13 HC12 hW12 f120 f121 f122 f123 c120 hl13
          go_wp2
          go_ret
          exact ⟨rfl, hW13⟩
    · go_wp2_with fail
      refine (implChipNew_no z _ hin).mono ?_
      rintro e w2 ⟨rfl, hB2⟩
      have hs2 := hB2.size
      have hW2 := hW1.trans (hB2.mono hW1.size)
      have hb2 : ∀ o, Below w2.heap.size w2 (w2.alloc o) := fun o => (Below.refl _ w2).alloc (Nat.le_refl _) _
      clear hB2 hW1
      go_wp2_with fail
      refine (implFtlNew_own z _).mono ?_
      rintro e w3 ⟨a1, n1, c1, ma1, mn1, mc1, out, L, seq, o, r, rfl, hE1, hF, hB3⟩
      obtain ⟨rfl, rfl, rfl, rfl, rfl⟩ : out = [] ∧ L = [] ∧ seq = 0 ∧ o = 0 ∧ r = false := by
        rcases hE1 with ⟨h, _⟩ | ⟨_, h1, h2, h3, h4, h5⟩
        · exact absurd h hin
        · exact ⟨h1, h2, h3, h4, h5⟩
      obtain rfl : n1 = 0 := by have := hF.length.1; simpa using this.symm
      obtain rfl : mn1 = 0 := by have := hF.length.2; simpa using this.symm
      have hs3 := hB3.size
      simp at hs3
      have hB23 : Below w2.heap.size w2 w3 := (hb2 _).trans (hB3.mono (by simp))
      have hW3 := hW2.trans (hB23.mono hW2.size)
      have hb3 : ∀ o, Below w3.heap.size w3 (w3.alloc o) := fun o => (Below.refl _ w3).alloc (Nat.le_refl _) _
      clear hB3 hB23 hF hE1 hW2 hb2
      go_wp2_with fail
      refine (specFtlNew_any z _).mono ?_
      rintro e w4 ⟨a2, n2, c2, ma2, mn2, mc2, out, L, seq, o, r, rfl, hE2, hl2, hm2, _, _, hB4⟩
      obtain ⟨rfl, rfl, rfl, rfl, rfl⟩ : out = [] ∧ L = [] ∧ seq = 0 ∧ o = 0 ∧ r = false := by
        rcases hE2 with ⟨h, _⟩ | ⟨_, h1, h2, h3, h4, h5⟩
        · exact absurd h hin
        · exact ⟨h1, h2, h3, h4, h5⟩
      obtain rfl : n2 = 0 := by simpa using hl2.symm
      obtain rfl : mn2 = 0 := by simpa using hm2.symm
      have hs4 := hB4.size
      simp at hs4
      have f40 : w4.cell? ⟨w3.heap.size, 0, none⟩ = some (.slice a1 0 c1) := by
        rw [hB4.cell (p := ⟨w3.heap.size, 0, none⟩) (by simp)]
        simp
      have f41 : w4.cell? ⟨w3.heap.size, 1, none⟩ = some (.slice ma1 0 mc1) := by
        rw [hB4.cell (p := ⟨w3.heap.size, 1, none⟩) (by simp)]
        simp
      have f42 : w4.cell? ⟨w3.heap.size, 2, none⟩ = some (.int .i64 0) := by
        rw [hB4.cell (p := ⟨w3.heap.size, 2, none⟩) (by simp)]
        simp
      have f43 : w4.cell? ⟨w3.heap.size, 3, none⟩ = some (.int .i64 0) := by
        rw [hB4.cell (p := ⟨w3.heap.size, 3, none⟩) (by simp)]
        simp
      have hB34 : Below w3.heap.size w3 w4 := (hb3 _).trans (hB4.mono (by simp))
      have hW4 := hW3.trans (hB34.mono hW3.size)
      have hb4 : ∀ o, Below w4.heap.size w4 (w4.alloc o) := fun o => (Below.refl _ w4).alloc (Nat.le_refl _) _
      have hl34 : w3.heap.size < w4.heap.size := by omega
      clear hB4 hB34 hW3 hb3 hE2 hl2 hm2
      go_wp2_with fail
      refine (implRoomFor_any z _).mono ?_
      rintro e w5 ⟨rfl, rfl⟩
      rw [roomI_out hin]
      obtain ⟨w6, hw6⟩ : ∃ w6, w6 = w4.alloc (.cells #[.slice a2 0 c2, .slice ma2 0 mc2, .int .i64 0, .int .i64 0] 32) := ⟨_, rfl⟩
      have hs6 : w4.heap.size < w6.heap.size := by rw [hw6]; simp
      have hB46 : Below w4.heap.size w4 w6 := by rw [hw6]; exact hb4 _
      have t60 : w6.cell? ⟨w4.heap.size, 0, none⟩ = some (.slice a2 0 c2) := by rw [hw6]; simp
      have t61 : w6.cell? ⟨w4.heap.size, 1, none⟩ = some (.slice ma2 0 mc2) := by rw [hw6]; simp
      have t62 : w6.cell? ⟨w4.heap.size, 2, none⟩ = some (.int .i64 0) := by rw [hw6]; simp
      have t63 : w6.cell? ⟨w4.heap.size, 3, none⟩ = some (.int .i64 0) := by rw [hw6]; simp
      have f60 := (hB46.cell (p := ⟨w3.heap.size, 0, none⟩) hl34).trans f40
      have f61 := (hB46.cell (p := ⟨w3.heap.size, 1, none⟩) hl34).trans f41
      have f62 := (hB46.cell (p := ⟨w3.heap.size, 2, none⟩) hl34).trans f42
      have f63 := (hB46.cell (p := ⟨w3.heap.size, 3, none⟩) hl34).trans f43
      have hW6 := hW4.trans (hB46.mono hW4.size)
      rw [← hw6]
      have hnb : ∀ (W : World) (x : Option Addr), BlocksAt W x [] := fun W x i b hb => by simp at hb
      have hni : ∀ (W : World) (x : Option Addr), IntsAt W x [] := fun W x i b hb => by simp at hb
      have hnl : Lens 1048576 [] := ⟨by simp, fun b hb => by cases hb⟩
      have HSF := hide (fun W => sameFtl_same a1 a2 c1 c2 [] 0 rfl ma1 ma2 mc1 mc2 [] 0 rfl 0 0 W (hnb _ _) (hnb _ _) hnl (hni _ _) (hni _ _) (by omega))
      clear hw6 hB46 hW4 hb4 f40 f41 f42 f43 hnb hni hnl
      go_wp2_with fail
      refine (unhide HSF _).mono ?_
      rintro e w7 ⟨rfl, hB7⟩
      have hs7 := hB7.size
      have f70 := (hB7.cell (p := ⟨w3.heap.size, 0, none⟩) (by show w3.heap.size < _; omega)).trans f60
      have f71 := (hB7.cell (p := ⟨w3.heap.size, 1, none⟩) (by show w3.heap.size < _; omega)).trans f61
      have f72 := (hB7.cell (p := ⟨w3.heap.size, 2, none⟩) (by show w3.heap.size < _; omega)).trans f62
      have f73 := (hB7.cell (p := ⟨w3.heap.size, 3, none⟩) (by show w3.heap.size < _; omega)).trans f63
      have t70 := (hB7.cell (p := ⟨w4.heap.size, 0, none⟩) hs6).trans t60
      have t71 := (hB7.cell (p := ⟨w4.heap.size, 1, none⟩) hs6).trans t61
      have t72 := (hB7.cell (p := ⟨w4.heap.size, 2, none⟩) hs6).trans t62
      have t73 := (hB7.cell (p := ⟨w4.heap.size, 3, none⟩) hs6).trans t63
      have hW7 := hW6.trans (hB7.mono hW6.size)
      clear hB7 hW6 f60 f61 f62 f63 t60 t61 t62 t63
      go_wp2_with fail
      refine (specRoomFor_any z _).mono ?_
      rintro e w8 ⟨rfl, rfl⟩
      rw [roomI_out hin]
      go_wp2_with fail
      refine (unhide HSF _).mono ?_
      rintro e w9 ⟨rfl, hB9⟩
      have hW9 := hW7.trans (hB9.mono hW7.size)
      clear hB9 f70 f71 f72 f73 t70 t71 t72 t73 hW7
      go_wp2_with fail
      refine (specRoomFor_any z _).mono ?_
      rintro e w10 ⟨rfl, rfl⟩
      rw [roomI_out hin]
      go_wp2
      go_ret
      exact ⟨rfl, hW9⟩

set_option maxRecDepth 100000 in
theorem lifted (os : Os) (started : os.Started) (H : Type) (enc : TypeId × Value → H) :
    ReturnsInHanded {} Try.checked os 3 .any (Rows.fnNewSpec.pre6 enc Try.prog Try.f3 Rows.fnNewRow.domain false) (Rows.fnNewSpec.post enc Try.prog Try.f3 false true false false) := by
  refine returnsInHanded_of_change (C := Try.checked) own started (by kernel_rfl) Try.func3
    (ChangeSpec.witness6 (enc := enc) (C := Try.checked) false ⟨#[], #[.slice none 0 0], []⟩ 8 (by kernel_rfl) (by kernel_rfl) (by kernel_rfl) (by kernel_rfl)) ?_
  intro W base args ds gs before hval0 hW hcnd _
  have hval : ∀ (j : Nat) t v, Try.f3.params[j]? = some t → args[j]? = some v → Value.okWide Try.prog W .any base t v := hval0
  have hW' := hW
  obtain ⟨p, q, hA0, hV, rfl, hfz, hnd⟩ := hW
  have hA : DataW.TrodAll enc Try.prog W 0 (fun _ => true) true Try.f3.params.toList args.toList ds p := hA0
  rw [Try.params3] at hA hval
  obtain ⟨v0, vs0, d0, ds0, p0, q0, hargs, rfl, rfl, h0, r0⟩ := trodAll_cons hA
  obtain ⟨rfl, rfl, rfl⟩ := trodAll_nil r0
  obtain rfl : args = #[v0] := by cases args; simp_all
  obtain ⟨rfl, rfl⟩ := trodVars_none hV
  have k0 := h0
  have lt0 : ∀ x ∈ p0, x.block < W.heap.size := by obtain ⟨m, hm⟩ := k0; exact DataW.trod_lt m _ _ _ hm
  obtain ⟨a, n, c, rfl, hL, hlen⟩ := open_code Try.underlying22 Try.underlying5 (by kernel_rfl) (hval 0 22 v0 rfl rfl) h0

  clear hA0 hval0
  refine (walk a n c W hL hlen).mono fun e W' ⟨he, bel⟩ => ?_
  subst he
  exact ⟨_, rfl, _, _, _, [], _, [], hW', trodAll_mk1 (shut_bool Try.underlying4 _), (trodAll_cons_mk (Below.trod laidOut (by kernel_rfl) (of_decide_eq_true (by kernel_rfl)) k0 bel lt0) trodAll_mk0), rfl, bel.frame _, fun h => by cases h⟩

theorem over : Rows.fnNewRow.holds Try.pinned (OpenSpec.ofChange Rows.fnNewSpec) :=
  OpenClaim.holds_of_wide 3 Try.f3 rfl rfl rfl rfl rfl rfl rfl ⟨rfl, rfl, rfl, rfl, rfl⟩ rfl rfl rfl rfl rfl (by kernel_rfl) Try.func3 (by kernel_rfl)
    (of_decide_eq_true (by kernel_rfl)) (by unfold Func.isWrapper; first | (rw [if_pos (by decide +kernel)]; kernel_rfl) | (rw [if_neg (by decide +kernel)]; exact ⟨rfl, rfl⟩))
    (fun os started H enc _ => lifted os started H enc)

end Go.Proofs.Ytaelbmilicfkhaa.fnNew
namespace Go.Proofs.Ytaelbmilicfkhaa
theorem new_holds : Rows.FnNewSaid := fnNew.over
end Go.Proofs.Ytaelbmilicfkhaa
