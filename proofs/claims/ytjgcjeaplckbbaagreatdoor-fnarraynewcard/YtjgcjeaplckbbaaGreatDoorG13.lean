/- 4 texts in one. -/
import Derived.Test.YtjgcjeaplckbbaaGreatDoorG07
import Derived.Test.YtjgcjeaplckbbaaGreatDoorG12
import Derived.WalkKit
import Derived.Laws.IdiomStrings
import Derived.Test.YtjgcjeaplckbbaaGreatDoorG11
import Derived.Test.YtjgcjeaplckbbaaGreatDoorG02
import Derived.Test.YtjgcjeaplckbbaaGreatDoorG04
import Derived.Test.YtjgcjeaplckbbaaGreatDoorG06
import Derived.Test.YtjgcjeaplckbbaaGreatDoorG03
import Derived.BigQuiet

/- What is read of a log: in plain words, and the model's l2Page and PageAt. -/
namespace Go.Proofs.YtjgcjeaplckbbaaGreatDoor
open Go.RowKit
set_option linter.unusedVariables false
set_option linter.unusedSimpArgs false

def zeros4 : ByteArray := ⟨#[0, 0, 0, 0]⟩
/-- What stands at a place. -/
def pageOf (bs : List Bk) (x : Int) : Pg := pagesF ((bs[(x / 4).toNat]?.map (·.pages)).getD []) (x % 4).toNat
def dataOf (bs : List Bk) (x : Int) : ByteArray := if x < 0 then zeros4 else (pageOf bs x).data
theorem pageOf_at {bs : List Bk} {x : Int} {b k : Nat} {y : Bk} {p : Pg} (hb : x / 4 = (b : Int)) (hk : x % 4 = (k : Int)) (hy : bs[b]? = some y) (hp : y.pages[k]? = some p) : pageOf bs x = p := by
  unfold pageOf
  rw [hb, hk]
  simp [hy, pagesF, hp]
theorem dataOf_at {bs : List Bk} {x : Int} {b k : Nat} {y : Bk} {p : Pg} (h0 : 0 ≤ x) (hb : x / 4 = (b : Int)) (hk : x % 4 = (k : Int)) (hy : bs[b]? = some y) (hp : y.pages[k]? = some p) : dataOf bs x = p.data := by
  unfold dataOf
  rw [if_neg (by omega), pageOf_at hb hk hy hp]
theorem dataOf_none {bs : List Bk} {x : Int} (h : x < 0) : dataOf bs x = zeros4 := if_pos h
/-- What PageAt answers. -/
def PageIs (bs : List Bk) (L : List Int) (seq o lg : Int) (d : ByteArray) (r : Bool) : Prop :=
  ((FtlOk bs L seq o ∧ 0 ≤ lg ∧ lg ≤ (L.length : Int) - 1) ∧ r = true ∧ ∃ x, L[lg.toNat]? = some x ∧ d = dataOf bs x) ∨ (¬ (FtlOk bs L seq o ∧ 0 ≤ lg ∧ lg ≤ (L.length : Int) - 1) ∧ r = false ∧ d = ByteArray.empty)
theorem PageIs.one {bs : List Bk} {L : List Int} {seq o lg : Int} {d e : ByteArray} {r s : Bool} (h : PageIs bs L seq o lg d r) (k : PageIs bs L seq o lg e s) : d = e ∧ r = s := by
  rcases h with ⟨h1, rfl, x, hx, rfl⟩ | ⟨h1, rfl, rfl⟩
  · rcases k with ⟨_, rfl, y, hy, rfl⟩ | ⟨k1, _⟩
    · rw [hx] at hy; cases hy; exact ⟨rfl, rfl⟩
    · exact absurd h1 k1
  · rcases k with ⟨k1, _⟩ | ⟨_, rfl, rfl⟩
    · exact absurd k1 h1
    · exact ⟨rfl, rfl⟩

/-- The page at a place that the map of a right member names. -/
theorem FtlOk.placed {bs : List Bk} {L : List Int} {seq o : Int} (h : FtlOk bs L seq o) {x : Int} (hx : x ∈ L) (h0 : 0 ≤ x) : ∃ (b k : Nat) (y : Bk) (p : Pg), x / 4 = (b : Int) ∧ x % 4 = (k : Int) ∧ b < bs.length ∧ k < 4 ∧ bs[b]? = some y ∧ y.pages[k]? = some p := by
  have hp := h.places x hx
  have hc := h.chip.count
  obtain ⟨y, hy⟩ := getElem?_ex (l := bs) (k := (x / 4).toNat) (by omega)
  have h4 := (h.chip.block y (List.mem_of_getElem? hy)).four
  obtain ⟨p, hp'⟩ := getElem?_ex (l := y.pages) (k := (x % 4).toNat) (by omega)
  exact ⟨(x / 4).toNat, (x % 4).toNat, y, p, by omega, by omega, by omega, by omega, hy, hp'⟩

theorem infoByteP : (Tryz.prog.info? 5).map (fun i => (i.zero, i.size, i.bytes)) = some (some (.int .u8 0), 1, 1) := by kernel_rfl
theorem make_bytes4P (w : World) : (Instr.makeSlice 22 (.int .i64 4) (.int .i64 4)).run Tryz.prog w = .ok (.slice (some ⟨w.heap.size, 0, none⟩) 4 4) (w.alloc (.cells #[.int .u8 0, .int .u8 0, .int .u8 0, .int .u8 0] 5)) := by
  obtain ⟨i, hi, hz⟩ := Option.map_eq_some_iff.1 infoByteP
  simp only [Prod.mk.injEq] at hz
  obtain ⟨hz0, hz1, hz2⟩ := hz
  have h := run_make (P := Tryz.prog) w 22 5 i _ Tryz.underlying22 hi hz0 .i64 .i64 4 4 (by omega) (Int.le_refl _) (by rw [hz2]; omega) (by omega)
  rw [hz1] at h
  have e : madeCells (Value.int .u8 0).cells (4 * 1) = #[.int .u8 0, .int .u8 0, .int .u8 0, .int .u8 0] := by kernel_rfl
  simpa [e] using h
theorem bytes4_string (w : World) : (convert 22 9 (.slice (some ⟨w.heap.size, 0, none⟩) 4 4)).run Tryz.prog (w.alloc (.cells #[.int .u8 0, .int .u8 0, .int .u8 0, .int .u8 0] 5)) = .ok (.string zeros4) (w.alloc (.cells #[.int .u8 0, .int .u8 0, .int .u8 0, .int .u8 0] 5)) := by
  have h := run_convert_bytes_back (P := Tryz.prog) (w.alloc (.cells #[.int .u8 0, .int .u8 0, .int .u8 0, .int .u8 0] 5)) 22 9 5 ⟨w.heap.size, 0, none⟩ 4 [0, 0, 0, 0] Tryz.underlying22 Tryz.underlying5 Tryz.underlying9 (fun j hj => by
    rw [Go.WideShapes.add_plain, Nat.zero_add, World.cell?_alloc_mark]
    have h4 : j = 0 ∨ j = 1 ∨ j = 2 ∨ j = 3 := by simp at hj; omega
    rcases h4 with rfl | rfl | rfl | rfl <;> rfl)
  exact h

set_option maxRecDepth 100000 in
set_option maxHeartbeats 1000000 in
theorem l2Page_any (a : Option Addr) (c : Nat) (bs : List Bk) (n : Nat) (hl : bs.length = n) (ma : Option Addr) (mc : Nat) (L : List Int) (mn : Nat) (hL : L.length = mn) (seq o : Int) (hok : FtlOk bs L seq o) (k : Nat) (x : Int) (hx : L[k]? = some x) (w : World) (h : BlocksAt w a bs) (hI : IntsAt w ma L) :
    Calls Tryz.prog 157 #[.agg #[.slice a n c, .slice ma mn mc, .int .i64 seq, .int .i64 o], .int .i64 (k : Int)] w fun e w' => e = .returned (.string (dataOf bs x)) ∧ Below w.heap.size w w' := by
  have hb0 : ∀ o, Below w.heap.size w (w.alloc o) := fun o => (Below.refl _ w).alloc (Nat.le_refl _) _
  have hk : k < mn := by have := (List.getElem?_eq_some_iff.1 hx).1; omega
  have hm36 : mn ≤ 36 := by have := hok.len36; omega
  have hn12 : n ≤ 12 := by have := hok.chip.count; omega
  obtain ⟨b1, o1, rfl, c1⟩ := hI k x hx
  have hc1 : ∀ o, (w.alloc o).cell? ⟨b1, o1 + k, none⟩ = some (.int .i64 x) := fun o => (cell_alloc_lt _ _ _ _ (World.block_lt_of_cell? _ _ c1)).trans c1
  have hkm : (k : Int) < (mn : Int) := by omega
  by_cases h0 : x < 0
  · have HD := hide (dataOf_none (bs := bs) h0)
    have hmk := make_bytes4P
    have hcv := fun o => bytes4_string (w.alloc o)
    simp only [World.size_alloc] at hcv
    clear h hI c1 hx hok hl hL
    go_enter Tryz.func157, Tryz.ntmps157
    go_wp2
    go_ret
    exact ⟨by rw [unhide HD]; rfl, ((Below.refl _ w).alloc (Nat.le_refl _) _).alloc (by simp) _⟩
  · obtain ⟨q, t, y, p, hq, ht, hqb, ht4, hy, hp⟩ := hok.placed (List.mem_of_getElem? hx) (by omega)
    obtain ⟨g, og, pa, pc, rfl, _, hcp, hpa⟩ := h q y hy
    have h4 := (hok.chip.block y (List.mem_of_getElem? hy)).four
    rw [h4] at hcp
    obtain ⟨g2, o2, rfl, _, _, _, hcd⟩ := hpa t p hp
    have HD := hide (dataOf_at (bs := bs) (by omega) hq ht hy hp)
    have hcp' : ∀ o, (w.alloc o).cell? ⟨g, og + q * 2 + 1, none⟩ = some (.slice (some ⟨g2, o2, none⟩) 4 pc) := fun o => (cell_alloc_lt _ _ _ _ (World.block_lt_of_cell? _ _ hcp)).trans hcp
    have hcd' : ∀ o, (w.alloc o).cell? ⟨g2, o2 + t * 4 + 3, none⟩ = some (.string p.data) := fun o => (cell_alloc_lt _ _ _ _ (World.block_lt_of_cell? _ _ hcd)).trans hcd
    have hqn : (q : Int) < (n : Int) := by omega
    have ht4' : (t : Int) < 4 := by omega
    have hx48 : x < 48 := by omega
    have hx0 : 0 ≤ x := by omega
    clear h hI c1 hx hok hl hL hcp hcd hpa hy hp
    go_enter Tryz.func157, Tryz.ntmps157
    go_wp2
    go_ret
    exact ⟨by rw [unhide HD]; rfl, hb0 _⟩

end Go.Proofs.YtjgcjeaplckbbaaGreatDoor

/- Arrays that are up and whole: what is right of them, what their pages are. -/
namespace Go.Proofs.YtjgcjeaplckbbaaGreatDoor
open Go.RowKit
set_option linter.unusedVariables false
set_option linter.unusedSimpArgs false

/-- What the log s of the member m has. -/
def pageM (m : Mb) (s : Nat) : ByteArray := dataOf m.bs (m.L[s]?.getD (-1))
def pagesM (ms : List Mb) (s : Nat) : List ByteArray := ms.map fun m => pageM m s
theorem pagesM_length (ms : List Mb) (s : Nat) : (pagesM ms s).length = ms.length := by simp [pagesM]
structure UpOk (L : List Int) (n : Nat) (ms : List Mb) : Prop where
  lay : LayOk L
  n4 : 4 ≤ n
  n12 : n ≤ 12
  len : ms.length = L.length
  each : ∀ m ∈ ms, m.Ok ∧ m.bs.length = n ∧ m.L.length = 4 * (n - 3) ∧ ∀ x ∈ m.L, (dataOf m.bs x).size = 4
def EvenAll (n : Nat) (ms : List Mb) : Prop := ∀ s, s < 4 * (n - 3) → xorT (pagesM ms s) = zeros4
theorem UpOk.k35 {L : List Int} {n : Nat} {ms : List Mb} (h : UpOk L n ms) : 3 ≤ L.length ∧ L.length ≤ 5 := h.lay.1
theorem UpOk.page {L : List Int} {n : Nat} {ms : List Mb} (h : UpOk L n ms) {m : Mb} (hm : m ∈ ms) {s : Nat} (hs : s < 4 * (n - 3)) : ∃ x, m.L[s]? = some x ∧ x ∈ m.L ∧ pageM m s = dataOf m.bs x ∧ (pageM m s).size = 4 := by
  obtain ⟨_, _, hl, hd⟩ := h.each m hm
  obtain ⟨x, hx⟩ := getElem?_ex (l := m.L) (k := s) (by omega)
  have hxm := List.mem_of_getElem? hx
  have hp : pageM m s = dataOf m.bs x := by unfold pageM; rw [hx]; rfl
  exact ⟨x, hx, hxm, hp, by rw [hp]; exact hd x hxm⟩
theorem UpOk.xorOk {L : List Int} {n : Nat} {ms : List Mb} (h : UpOk L n ms) {s : Nat} (hs : s < 4 * (n - 3)) : XorOk (pagesM ms s) := by
  refine ⟨by rw [pagesM_length, h.len]; have := h.k35; omega, fun t ht => ?_⟩
  obtain ⟨m, hm, rfl⟩ := List.mem_map.1 ht
  obtain ⟨_, _, _, _, h4⟩ := h.page hm hs
  exact h4
theorem xorB_zeros (k j : Nat) : xorB (List.replicate k zeros4) j = 0 := by
  induction k with
  | zero => rfl
  | succ k ih =>
    have hz : byteU zeros4 j = 0 := by
      by_cases h : j < 4
      · have : j = 0 ∨ j = 1 ∨ j = 2 ∨ j = 3 := by omega
        rcases this with rfl | rfl | rfl | rfl <;> rfl
      · unfold byteU; rw [dif_neg (by show ¬ j < 4; exact h)]
    rw [List.replicate_succ]
    show byteU zeros4 j ^^^ xorB (List.replicate k zeros4) j = 0
    rw [ih, hz]; rfl
theorem pageM_new (n s : Nat) : pageM (newMb n) s = zeros4 := by
  unfold pageM
  refine dataOf_none ?_
  cases h : (newMb n).L[s]? with
  | none => decide
  | some x =>
    have hx : x ∈ newMap n := List.mem_of_getElem? h
    rw [List.eq_of_mem_replicate hx]
    decide
theorem pagesM_new (k n s : Nat) : pagesM (List.replicate k (newMb n)) s = List.replicate k zeros4 := by
  simp [pagesM, pageM_new]
theorem upOk_new {L : List Int} {n : Int} (h : NewYes L n) : UpOk L n.toNat (newMs L n) ∧ EvenAll n.toNat (newMs L n) := by
  have hn := h.nat
  have hu : UpOk L n.toNat (newMs L n) := by
    refine ⟨h.1, hn.1, hn.2, by simp [newMs], fun m hm => ?_⟩
    rw [List.eq_of_mem_replicate hm]
    refine ⟨ftlOk_new hn.1 hn.2, newBs_length _, newMap_length _, fun x hx => ?_⟩
    have hx2 : x ∈ newMap n.toNat := hx
    rw [List.eq_of_mem_replicate hx2, dataOf_none (by decide)]
    rfl
  refine ⟨hu, fun s hs => ?_⟩
  rw [xorT_ok (hu.xorOk hs)]
  unfold newMs
  rw [pagesM_new]
  unfold textOf
  simp only [xorB_zeros]
  rfl
end Go.Proofs.YtjgcjeaplckbbaaGreatDoor

/- The greatest number on a chip, and its place: the program's top. -/
namespace Go.Proofs.YtjgcjeaplckbbaaGreatDoor
open Go.RowKit Go.Shelf
set_option linter.unusedVariables false
set_option linter.unusedSimpArgs false
attribute [local go_sem] Oper.semAt_some

def TopI (w : World) (pre : List (Int × Pg)) (W : World) : Prop :=
  W.heap[w.heap.size + 1]? = some (.cells #[Value.int .i64 0, Value.int .i64 0] 205 (0, 0)) ∧ W.heap[w.heap.size + 1 + 1]? = some (.cells #[Value.int .i64 (topOf pre).1, Value.int .i64 (topOf pre).2] 205 (0, 0)) ∧ w.heap.size + 1 + 1 + 1 < W.heap.size
theorem TopI.own (w : World) : Own (TopI w) := fun p W W' row ⟨h1, h2, h4⟩ hg hr => ⟨blk_kept h1 hg hr, blk_kept h2 hg hr, Nat.lt_of_lt_of_le h4 hg.size⟩

theorem sizeNp : (Tryz.prog.info? 205).map (·.size) = some 2 := by kernel_rfl

set_option maxRecDepth 100000 in
set_option maxHeartbeats 1000000 in
theorem top_any (m : CC) (c : Nat) (hm : m.count = c) (hc : c ≤ 12) (w : World) :
    Calls Tryz.prog 139 #[.agg (ccA m)] w fun e w' => e = .returned (.agg #[.int .i64 (topOf (usedAll m c)).1, .int .i64 (topOf (usedAll m c)).2]) ∧ Below w.heap.size w w' := by
  refine (callsIn_wide (n := 8)).1 ?_
  refine callsIn_of_wp_marks Tryz.func139 rfl trivial ?_ rfl
  simp only [Tryz.ntmps139, List.size_toArray, List.length_cons, List.length_nil, Nat.reduceAdd, Nat.reduceSub, Array.replicate_succ, Array.replicate_zero, List.push_toArray, List.append_toArray, List.nil_append, List.cons_append]
  gi_wp2_with (first | (refine wpListIn_load_mid rfl 128 _ rfl w.heap.size 0 rfl (ccA m) 205 (ccA_size m) (fun j hj => by rw [Nat.zero_add]; exact cell_of_row _ _ _ _ _ _ (heap3 w _ _ _).1) _ Tryz.underlying128 rfl sizeCC' ?_) | (refine ⟨trivial, ?_⟩; gi_at_call 194; refine (usedPages_in Fence.wide _ trivial rfl m _).mono ?_; rintro e w' ⟨rfl, rfl⟩))
  obtain ⟨W4, hW4⟩ : ∃ W4, W4 = ((w.alloc (.cells (ccA m) 128)).alloc (.cells #[.int .i64 0, .int .i64 0] 205)).alloc (.cells #[.int .i64 0, .int .i64 0] 205) := ⟨_, rfl⟩
  have h4 := heap3 w (.cells (ccA m) 128) (.cells #[.int .i64 0, .int .i64 0] 205) (.cells #[.int .i64 0, .int .i64 0] 205)
  have hs4 : W4.heap.size = w.heap.size + 1 + 1 + 1 := by rw [hW4]; simp
  have hB4 : Below w.heap.size w W4 := by
    rw [hW4]
    exact (((Below.refl _ w).alloc (Nat.le_refl _) _).alloc (by simp) _).alloc (by simp; omega) _
  rw [← hW4] at h4 ⊢
  clear hW4
  obtain ⟨_, h41, h42⟩ := h4
  have hbel : Below w.heap.size w (W4.alloc (.cells (ccA m) 128)) := hB4.alloc hB4.size _
  have hbox : ∀ i, (W4.alloc (.cells (ccA m) 128)).cell? ⟨w.heap.size + 1 + 1 + 1, i, none⟩ = (ccA m)[i]? := fun i => by rw [← hs4]; simp
  refine wpIn_rangeFunc_ownH rfl (by omega) (gf := 254) (lb := #[.pointer (some ⟨w.heap.size + 1 + 1 + 1, 0, none⟩)]) rfl trivial (enters_of Tryz.func254 (by kernel_rfl) rfl)
    (used_stops Fence.wide _ trivial rfl (by omega) (w.heap.size + 1 + 1 + 1) c m hm hc _ (by simp; omega) hbox) KeepB.trans (keepB_b (by simp; omega)) (Below.refl _ _) (fun _ => rfl)
    (fun pre W => TopI w pre W ∧ Below w.heap.size w W) (fun c pre W => False)
    (OwnFrom.and (Own.from (TopI.own w) _) (ownFrom_below (Nat.le_refl _) (by simp; omega)))
    (fun c => fun s W W' row h hg hr => h)
    ⟨⟨by rw [Below.heap_alloc _ _ _ (by rw [hs4]; omega)]; exact h41, by rw [Below.heap_alloc _ _ _ (by rw [hs4]; omega)]; exact h42, by simp; omega⟩, hbel⟩
    (fun x a' W => ∃ Bp, w.heap.size + 1 + 1 + 1 < Bp ∧ W.heap[Bp]? = some (.cells #[Value.bool x.2.used, Value.int .i64 x.2.log, Value.int .i64 x.2.seq, Value.string x.2.data] 122 (0, 0)) ∧
      a' = { tmps := #[.agg (ccA m), .pointer (some ⟨w.heap.size, 0, none⟩), .pointer (some ⟨w.heap.size + 1, 0, none⟩), .pointer (some ⟨w.heap.size + 1 + 1, 0, none⟩), .int .i64 x.1, .pointer (some ⟨Bp, 0, none⟩), .agg (ccA m), .func (.func 254) #[] #[.pointer (some ⟨w.heap.size + 1 + 1 + 1, 0, none⟩)], .int .i64 x.1, .agg #[Value.bool x.2.used, Value.int .i64 x.2.log, Value.int .i64 x.2.seq, Value.string x.2.data], undef, undef, undef, undef, undef, undef, undef, undef, undef, undef], defers := [] })
    (fun x a' => Own.from (fun _ W W' row ⟨Bp, h1, h2, h3⟩ hg hr => ⟨Bp, h1, blk_kept h2 hg hr, h3⟩) _) ?assign ?body ?done ?stop
  case assign =>
    rintro l pre x W K ⟨hi, hb⟩ hK
    obtain ⟨xi, xp⟩ := x
    simp only [encU]
    gi_wp2
    have hWs : w.heap.size + 1 + 1 + 1 < W.heap.size := hi.2.2
    exact hK _ _ ((KeepsOthers.alloc _ _).from _) (KeepB.alloc _ _ hWs) ⟨TopI.own w pre W _ none hi (World.grownBy_alloc W _ none) (fun r e => by cases e), hb.alloc hb.size _⟩ ⟨W.heap.size, hWs, World.alloc_heap_new _ _, rfl⟩
  case body =>
    rintro l pre ⟨xi, xp⟩ a' W hl hlr ⟨⟨hA1, hA2, hWs⟩, hb⟩ ⟨Bp, hBp, hpb, rfl⟩ hlen
    have hcS := cell_of_row _ _ 2 _ _ _ hpb
    have hcF := cell_of_row _ _ 0 _ _ _ hA2
    have hcG := cell_of_row _ _ 1 _ _ _ hA2
    have hfF := frozen_of_row _ _ 0 _ _ hA2
    have hfG := frozen_of_row _ _ 1 _ _ hA2
    have hst := topOf_snoc pre (xi, xp)
    have HS := hide hst
    have HP := hide hpb
    have H1 := hide hA1
    have H2 := hide hA2
    clear hpb hst hA1 hA2
    simp only [List.getElem?_toArray, List.getElem?_cons_succ, List.getElem?_cons_zero] at hcS hcF hcG
    obtain ⟨T, hT⟩ : ∃ T, T = topOf pre := ⟨_, rfl⟩
    rw [← hT] at hcF hcG HS H2
    clear hT
    by_cases hin : T.1 < xp.seq
    · gi_wp2
      refine ⟨((KeepsOthers.setCell _ _ _).from _).trans ((KeepsOthers.setCell _ _ _).from _), (KeepB.setCell _ _ _ (by show w.heap.size + 1 + 1 + 1 ≠ w.heap.size + 1 + 1; omega)).trans (KeepB.setCell _ _ _ (by show w.heap.size + 1 + 1 + 1 ≠ w.heap.size + 1 + 1; omega)), ⟨?_, ?_, by simpa [World.setCell] using hWs⟩, ?_⟩
      · rw [Below.heap_setCell _ _ _ _ (by simp), Below.heap_setCell _ _ _ _ (by simp)]; exact unhide H1
      · have h1 := blk_setCell_same 1 (.int .i64 xi) (blk_setCell_same 0 (.int .i64 xp.seq) (unhide H2))
        rw [unhide HS]
        unfold topStep
        rw [if_pos hin]
        exact h1
      · exact (hb.setCell (p := ⟨w.heap.size + 1 + 1, 0, none⟩) (by simp; omega) _).setCell (p := ⟨w.heap.size + 1 + 1, 1, none⟩) (by simp; omega) _
    · gi_wp2
      refine ⟨(KeepsOthers.refl _).from _, KeepB.refl _ _, ⟨unhide H1, ?_, hWs⟩, hb⟩
      rw [unhide HS]
      unfold topStep
      rw [if_neg (by show ¬ T.1 < xp.seq; omega)]
      exact unhide H2
  case done =>
    rintro D ys W hD rfl ⟨⟨hA1, hA2, hWs⟩, hb⟩ hK
    have hcF := cell_of_row _ _ 0 _ _ _ hA2
    have hcG := cell_of_row _ _ 1 _ _ _ hA2
    have hc0 := cell_of_row _ _ 0 _ _ _ hA1
    have hf0 := frozen_of_row _ _ 0 _ _ hA1
    have hc1 := cell_of_row _ _ 1 _ _ _ hA1
    have hf1 := frozen_of_row _ _ 1 _ _ hA1
    simp only [List.getElem?_toArray, List.getElem?_cons_succ, List.getElem?_cons_zero] at hcF hcG hc0 hc1
    obtain ⟨T, hT⟩ : ∃ T, T = topOf (usedAll m c) := ⟨_, rfl⟩
    rw [← hT] at hcF hcG
    have HT := hide hT
    clear hT
    gi_wp2
    have hK' := ((KeepsOthers.setCell W ⟨w.heap.size + 1, 0, none⟩ (.int .i64 T.1)).trans (KeepsOthers.setCell _ ⟨w.heap.size + 1, 1, none⟩ (.int .i64 T.2))).same D _ hK rfl
    refine ⟨by simp, .inl ⟨_, _, rfl, run_takeDeferred hK', ?_⟩⟩
    have hrow := blk_setCell_same 1 (.int .i64 T.2) (blk_setCell_same 0 (.int .i64 T.1) hA1)
    have hDn : w.heap.size + 1 ≠ D := by simp at hD; omega
    have hrow2 : (((W.setCell ⟨w.heap.size + 1, 0, none⟩ (.int .i64 T.1)).setCell ⟨w.heap.size + 1, 1, none⟩ (.int .i64 T.2)).putObj D (.deferred none)).heap[w.heap.size + 1]? = _ := (World.putObj_heap_other hDn).trans hrow
    refine ⟨.agg #[.int .i64 T.1, .int .i64 T.2], ?_, by rw [← unhide HT], ((hb.setCell (p := ⟨w.heap.size + 1, 0, none⟩) (by simp) _).setCell (p := ⟨w.heap.size + 1, 1, none⟩) (by simp) _).trans (belowK_b (w := w) (Nat.le_refl _) _ D _ _ (by simp at hD; omega) hK' rfl rfl)⟩
    have e0 := cell_of_row _ _ 0 _ _ _ hrow2
    have e1 := cell_of_row _ _ 1 _ _ _ hrow2
    simp at e0 e1
    simp [results, Tryz.f139, go_sem, e0, e1]
  case stop =>
    rintro D c' pre W hD hpre h hK
    exact h.elim
end Go.Proofs.YtjgcjeaplckbbaaGreatDoor

/- Whether all blocks but the open one are settled: the program's settledBut. Whether two lists are the same: slices.Equal. -/
namespace Go.Proofs.YtjgcjeaplckbbaaGreatDoor
open Go.RowKit
set_option linter.unusedVariables false
set_option linter.unusedSimpArgs false

/-- A struct or an array is read out of the middle of a row, by an operation whose guard says yes. -/
theorem wpList_load_mid_g {P : Program} {ops : Array Oper} {rest : List Oper} {o : Oper} {a : Act} {w : World} {Q : Exit → Act → World → Prop} (hw : Region.wanted o (yielded ops a.tmps) = true) (ty : TypeId) (x : Operand) (ho : o.op = .load ty x)
    (g off : Nat) (hx : a.eval x = .pointer (some ⟨g, off, none⟩)) (A : Array Value) (s : Nat) (hA : A.size = s) (hc : ∀ j, j < s → w.cell? ⟨g, off + j, none⟩ = A[j]?) (d : TypeDesc)
    (hu : P.underlying ty = some d) (hd : (match d with | .struct _ | .array _ _ => true | _ => false) = true) (hi : (P.info? ty).map (·.size) = some s)
    (h : wpList P ops Q rest (a.put o.dst (.agg A)) w) : wpList P ops Q (o :: rest) a w :=
  BigFrame.wpList_want hw fun _ hK => wp_load_mid ty x ho g off hx A s hA hc d hu hd hi (hK _ _ h)

theorem pu_cc (m : CC) {n k t : Nat} (hk : k < n) (ht : t < 4) {x : Bk} (hx : (ccBs m n)[k]? = some x) : pu x t = (m.page k t).used := by
  rw [ccBs_at m hk] at hx
  cases hx
  show (pagesF (ccPs m k) t).used = _
  simp only [pagesF]
  rw [ccPs_at m k ht]
  rfl

set_option maxRecDepth 100000 in
set_option maxHeartbeats 1000000 in
theorem begun_any (x : Int) (f : Nat → Pg) (b : Bk) (hb : ∀ t, t < 4 → pu b t = (f t).used) (w : World) :
    Calls Tryz.prog 195 #[.agg (bcA x f)] w fun e w' => e = .returned (.bool (halfB b)) ∧ Below w.heap.size w w' := by
  have hb0 : ∀ o, Below w.heap.size w (w.alloc o) := fun o => (Below.refl _ w).alloc (Nat.le_refl _) _
  go_enter Tryz.func195, Tryz.ntmps195
  go_wp2_with (refine wpList_load_row rfl 125 _ rfl w.heap.size rfl 125 (bcA x f) (0, 0) _ (Go.Deep.blk_alloc_new _ _) Tryz.underlying125 rfl (by rw [bcA_size]; exact sizeBC) ?_)
  refine (next_any x f _).mono ?_
  rintro e w1 ⟨r, rfl, hr, hB⟩
  have hd := (NextIs.kinds (hr.congr (fun k hk => (hb k hk).symm))).2.1
  have HD := hide hd
  clear hr hd
  generalize bcA x f = A at *
  go_wp2
  go_ret
  exact ⟨by rw [← unhide HD]; simp, (hb0 _).trans (hB.mono (by simp))⟩

set_option maxRecDepth 100000 in
set_option maxHeartbeats 1000000 in
theorem full_any (x : Int) (f : Nat → Pg) (b : Bk) (hb : ∀ t, t < 4 → pu b t = (f t).used) (w : World) :
    Calls Tryz.prog 149 #[.agg (bcA x f)] w fun e w' => e = .returned (.bool (fullB b)) ∧ Below w.heap.size w w' := by
  have hb0 : ∀ o, Below w.heap.size w (w.alloc o) := fun o => (Below.refl _ w).alloc (Nat.le_refl _) _
  go_enter Tryz.func149, Tryz.ntmps149
  go_wp2_with (refine wpList_load_row rfl 125 _ rfl w.heap.size rfl 125 (bcA x f) (0, 0) _ (Go.Deep.blk_alloc_new _ _) Tryz.underlying125 rfl (by rw [bcA_size]; exact sizeBC) ?_)
  refine (next_any x f _).mono ?_
  rintro e w1 ⟨r, rfl, hr, hB⟩
  have hd := (NextIs.kinds (hr.congr (fun k hk => (hb k hk).symm))).2.2
  have HD := hide hd
  clear hr hd
  generalize bcA x f = A at *
  go_wp2
  go_ret
  exact ⟨by rw [← unhide HD]; simp, (hb0 _).trans (hB.mono (by simp))⟩

set_option maxRecDepth 100000 in
set_option maxHeartbeats 1000000 in
theorem settledBut_any (A : Array Value) (m : CC) (bs : List Bk) (n : Nat) (hl : bs.length = n) (hbs : ccBs m n = bs) (hA0 : A[0]? = some (.int .i64 (n : Int))) (hAb : ∀ b i, b < 12 → i < 17 → A[1 + b * 17 + i]? = (bcA (m.wear b) (m.page b))[i]?) (hn : n ≤ 12) (o : Int) (w : World) :
    Calls Tryz.prog 141 #[.agg A, .int .i64 o] w fun e w' => RetIff (Settled bs o) e ∧ Below w.heap.size w w' := by
  have HAB := hide hAb
  have HBS := hide hbs
  have HL := hide hl
  clear hAb hbs hl
  go_enter Tryz.func141, Tryz.ntmps141
  go_wp2
  go_loopw [5, 9] (fun v i wr => ∃ (k : Nat) (r : Bool), k ≤ n ∧ i = .int .i64 k ∧ v = .bool r ∧ (r = true ↔ oneFree bs o k) ∧ noHalf bs o k ∧ Below (w.heap.size + 1) (w.alloc (.cells A 128)) wr) (fun _ i _ => n - (intOf i).toNat)
  case atStart =>
    refine ⟨0, false, Nat.zero_le _, rfl, rfl, ?_, fun i x hi => absurd hi (Nat.not_lt_zero _), Below.refl _ _⟩
    simp only [Bool.false_eq_true, false_iff]
    rintro ⟨i, x, hi, _⟩
    omega
  case round =>
    obtain ⟨k, r, hk, rfl, rfl, hO, hH, hB⟩ := hrel
    have hsz := hB.size
    simp at hsz
    have hWw : Below w.heap.size w wr := ((Below.refl _ w).alloc (Nat.le_refl _) _).trans (hB.mono (by omega))
    by_cases hlt : k < n
    · have hblk : ∀ j, j < 17 → wr.cell? ⟨w.heap.size, 1 + k * 17 + j, none⟩ = (bcA (m.wear k) (m.page k))[j]? := fun j hj => by
        rw [hB.cell (p := ⟨w.heap.size, 1 + k * 17 + j, none⟩) (by simp), cell_of_row _ _ _ _ _ _ (Go.Deep.blk_alloc_new _ _)]
        exact unhide HAB k j (by omega) hj
      have HB := hide hblk
      have hki : (k : Int) < 12 := by omega
      obtain ⟨x, hx⟩ := getElem?_ex (l := bs) (k := k) (by have := unhide HL; omega)
      have hpu : ∀ t, t < 4 → pu x t = (m.page k t).used := fun t ht => pu_cc m (n := n) hlt ht (by rw [unhide HBS]; exact hx)
      have hno := noHalf_succ (o := o) hx
      have hof := oneFree_succ (o := o) hx
      have HPU := hide hpu
      have HNO := hide hno
      have HOF := hide hof
      have HO := hide hO
      have HH := hide hH
      have HX := hide hx
      clear hpu hno hof hO hH hblk hA0 hx
      by_cases heq : (k : Int) = o
      · subst heq
        go_wp2
        go_roundw
        case rel =>
          refine ⟨k + 1, r, by omega, by go_num, rfl, ?_, ?_, hB⟩
          · rw [unhide HOF, unhide HO]; simp
          · rw [unhide HNO]; exact ⟨unhide HH, fun h => absurd rfl h⟩
        case measure => simp [intOf]; omega
      · have heq' : ((k : Int) == o) = false := by simpa using heq
        go_wp2_with (refine wpList_load_mid rfl 125 _ rfl w.heap.size (1 + k * 17) rfl (bcA (m.wear k) (m.page k)) 17 (bcA_size _ _) (unhide HB) _ Tryz.underlying125 rfl sizeBC ?_)
        refine (begun_any _ _ x (unhide HPU) _).mono ?_
        rintro e w2 ⟨rfl, hB2⟩
        have hs2 := hB2.size
        have hBB : Below (w.heap.size + 1) (w.alloc (.cells A 128)) w2 := hB.trans (hB2.mono (by omega))
        have hWw2 : Below w.heap.size w w2 := hWw.trans (hB2.mono hWw.size)
        have hblk2 : ∀ j, j < 17 → w2.cell? ⟨w.heap.size, 1 + k * 17 + j, none⟩ = (bcA (m.wear k) (m.page k))[j]? := fun j hj => (hB2.cell (p := ⟨w.heap.size, 1 + k * 17 + j, none⟩) (by show w.heap.size < _; omega)).trans (unhide HB j hj)
        have HB2 := hide hblk2
        clear HB hB2 hB hWw hblk2
        cases hh : halfB x with
        | true =>
          generalize bcA (m.wear k) (m.page k) = A2 at *
          go_wp2
          go_ret
          refine ⟨RetIff.no (fun hs => ?_), hWw2⟩
          have := hs.1 k x (by have := unhide HL; omega) (unhide HX) heq
          rw [hh] at this
          cases this
        | false =>
          cases r with
          | true =>
            generalize bcA (m.wear k) (m.page k) = A2 at *
            go_wp2
            go_roundw
            case rel =>
              refine ⟨k + 1, true, by omega, by go_num, rfl, ?_, ?_, hBB⟩
              · rw [unhide HOF]; exact ⟨fun _ => .inl (by have := unhide HO; simpa using this), fun _ => rfl⟩
              · rw [unhide HNO]; exact ⟨unhide HH, fun _ => hh⟩
            case measure => simp [intOf]; omega
          | false =>
            have hfr : freeB x = !(m.page k 0).used := by unfold freeB; rw [unhide HPU 0 (by omega)]
            go_wp2_with (refine wpList_load_mid_g rfl 125 _ rfl w.heap.size (1 + k * 17) rfl (bcA (m.wear k) (m.page k)) 17 (bcA_size _ _) (unhide HB2) _ Tryz.underlying125 rfl sizeBC ?_)
            refine (free_any _ _ _).mono ?_
            rintro e w3 ⟨rfl, hB3⟩
            rw [← hfr]
            have HFR := hide hfr
            have hBB3 : Below (w.heap.size + 1) (w.alloc (.cells A 128)) w3 := hBB.trans (hB3.mono (by omega))
            clear hfr HB2 hB3 hBB
            generalize bcA (m.wear k) (m.page k) = A2 at *
            go_wp2
            go_roundw
            case rel =>
              refine ⟨k + 1, freeB x, by omega, by go_num, rfl, ?_, ?_, hBB3⟩
              · rw [unhide HOF]
                constructor
                · intro h; exact .inr ⟨heq, h⟩
                · rintro (h | h)
                  · have := (unhide HO).2 h; cases this
                  · exact h.2
              · rw [unhide HNO]; exact ⟨unhide HH, fun _ => hh⟩
            case measure => simp [intOf]; omega
    · have hk' : k = n := by omega
      subst hk'
      have HO := hide hO
      have HH := hide hH
      clear hO hH
      go_wp2
      go_ret
      refine ⟨⟨r, rfl, ?_⟩, hWw⟩
      rw [unhide HO]
      unfold Settled
      rw [unhide HL]
      exact ⟨fun h => ⟨unhide HH, h⟩, fun h => h.2⟩

set_option maxRecDepth 100000 in
set_option maxHeartbeats 1000000 in
theorem slicesEqual_any (a b : Option Addr) (ca cb : Nat) (L M : List Int) (nL nM : Nat) (hL : L.length = nL) (hM : M.length = nM) (w : World) (h1 : IntsAt w a L) (h2 : IntsAt w b M) (hl1 : nL ≤ 9223372036854775807) (hl2 : nM ≤ 9223372036854775807) :
    Calls Tryz.prog 138 #[.slice a nL ca, .slice b nM cb] w fun e w' => RetIff (L = M) e ∧ Below w.heap.size w w' := by
  by_cases hlen : nL = nM
  · subst hlen
    go_enter Tryz.func138, Tryz.ntmps138
    go_wp2
    go_loopw [13] (fun i wr => ∃ k : Nat, k ≤ nL ∧ i = .int .i64 k ∧ (∀ j, j < k → L[j]? = M[j]?) ∧ Below w.heap.size w wr) (fun i _ => nL - (intOf i).toNat)
    case atStart => exact ⟨0, Nat.zero_le _, rfl, fun j hj => absurd hj (Nat.not_lt_zero _), Below.refl _ _⟩
    case round =>
      obtain ⟨k, hk, rfl, hall, hB⟩ := hrel
      by_cases hlt : k < nL
      · obtain ⟨x, hx⟩ := getElem?_ex (l := L) (k := k) (by omega)
        obtain ⟨y, hy⟩ := getElem?_ex (l := M) (k := k) (by omega)
        obtain ⟨b1, o1, rfl, c1⟩ := (h1.below hB (Nat.le_refl _)) k x hx
        obtain ⟨b2, o2, rfl, c2⟩ := (h2.below hB (Nat.le_refl _)) k y hy
        have HA := hide hall
        have HX := hide hx
        have HY := hide hy
        have HL := hide (And.intro hL hM)
        clear hall hx hy h1 h2 hL hM
        by_cases hxy : x = y
        · subst hxy
          have hne : (x != x) = false := by simp
          go_wp2_with fail
          go_quiet (fail)
          go_wp2
          go_roundw
          case rel =>
            refine ⟨k + 1, by omega, by go_num, fun j hj => ?_, Below.drewN hB _⟩
            by_cases e : j = k
            · subst e; rw [unhide HX, unhide HY]
            · exact unhide HA j (by omega)
          case measure => simp [intOf]; omega
        · have hne : (x != y) = true := by simpa using hxy
          go_wp2_with fail
          go_quiet (fail)
          go_wp2
          go_ret
          refine ⟨RetIff.no (fun e => ?_), Below.drewN hB _⟩
          have := unhide HX
          rw [e, unhide HY] at this
          cases this
          exact hxy rfl
      · obtain rfl : k = nL := by omega
        have HA := hide hall
        have HL := hide (And.intro hL hM)
        clear hall h1 h2 hL hM
        go_wp2
        go_ret
        refine ⟨RetIff.yes (List.ext_getElem? (fun j => ?_)), hB⟩
        by_cases hj : j < k
        · exact unhide HA j hj
        · rw [List.getElem?_eq_none (by have := (unhide HL).1; omega), List.getElem?_eq_none (by have := (unhide HL).2; omega)]
  · have hne : ((nL : Int) != (nM : Int)) = true := by simp; omega
    have HL := hide (And.intro hL hM)
    clear h1 h2 hL hM
    go_enter Tryz.func138, Tryz.ntmps138
    go_wp2
    go_ret
    refine ⟨RetIff.no (fun e => hlen ?_), Below.refl _ _⟩
    rw [← (unhide HL).1, ← (unhide HL).2, e]
end Go.Proofs.YtjgcjeaplckbbaaGreatDoor
