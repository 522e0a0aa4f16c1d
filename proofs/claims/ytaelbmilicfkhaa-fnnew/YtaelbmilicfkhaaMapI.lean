/- The program's map of the newest pages. -/
import Derived.Test.YtaelbmilicfkhaaUsedR
import Derived.Test.YtaelbmilicfkhaaNpM
import Derived.Test.YtaelbmilicfkhaaRoomF
import Derived.Test.YtaelbmilicfkhaaDiffer
import Derived.Test.YtaelbmilicfkhaaMapS
import Derived.Test.YtaelbmilicfkhaaIntT
namespace Go.Proofs.Ytaelbmilicfkhaa
open Go.RowKit Go.Shelf
set_option linter.unusedVariables false
set_option linter.unusedSimpArgs false
attribute [local go_sem] Oper.semAt_some

def RightU (x : Int × Pg) : Prop := 0 ≤ x.2.log ∧ x.2.log ≤ 39 ∧ 1 ≤ x.2.seq ∧ x.2.seq ≤ 1000000000
abbrev RU := {x : Int × Pg // RightU x}

/-- Between two rounds: the function's own variables, those that came being pre. -/
def NewI (w : World) (room : Nat) (pre : List RU) (W : World) : Prop :=
  W.heap[w.heap.size + 1]? = some (.cells #[Value.slice none 0 0] 30 (0, 0)) ∧ W.heap[w.heap.size + 1 + 1]? = some (.cells #[Value.bool false] 4 (0, 0)) ∧
  W.heap[w.heap.size + 1 + 1 + 1]? = some (.cells #[Value.int .i64 (room : Int)] 2 (0, 0)) ∧ W.heap[w.heap.size + 1 + 1 + 1 + 1 + 1]? = some (.cells #[Value.map (some (w.heap.size + 1 + 1 + 1 + 1))] 109 (0, 0)) ∧
  NpIs W (w.heap.size + 1 + 1 + 1 + 1) pre.length (pre.map (·.val)) ∧ (∀ x ∈ pre, x.val.2.log < (room : Int)) ∧ w.heap.size + 1 + 1 + 1 + 1 + 1 + 1 < W.heap.size
def NewX (w : World) (room : Nat) (c : Code) (pre : List RU) (W : World) : Prop :=
  c = .ret ∧ (∃ x ∈ pre, (room : Int) ≤ x.val.2.log) ∧ W.heap[w.heap.size + 1]? = some (.cells #[Value.slice none 0 0] 30 (0, 0)) ∧ W.heap[w.heap.size + 1 + 1]? = some (.cells #[Value.bool false] 4 (0, 0))
theorem NewI.own (w : World) (room : Nat) {B : Nat} (hB : w.heap.size + 1 + 1 + 1 + 1 < B) : OwnFrom B (NewI w room) := fun p W W' row ⟨h1, h2, h3, h4, h5, h6, h7⟩ hg hr =>
  have hr' : ∀ r, row = some r → ∃ o : Obj, W.heap[r]? = some o ∧ o.isCells = false := fun r e => (hr r e).2
  ⟨blk_kept h1 hg hr', blk_kept h2 hg hr', blk_kept h3 hg hr', blk_kept h4 hg hr', h5.kept hg (fun e => by have := (hr _ e.symm).1; omega), h6, Nat.lt_of_lt_of_le h7 hg.size⟩
theorem NewX.own (w : World) (room : Nat) (c : Code) : Own (NewX w room c) := fun p W W' row ⟨h1, h2, h3, h4⟩ hg hr => ⟨h1, h2, blk_kept h3 hg hr, blk_kept h4 hg hr⟩

theorem keepsFrom_grown {B b : Nat} {W W' : World} (h : W.grownBy W' (some b)) (hb : b < B) : KeepsFrom B W W' :=
  ⟨h.size, fun k o hk ho _ => by rw [h.block k (Array.getElem?_eq_some_iff.1 ho).1 (fun e => by cases e; omega)]; exact ho⟩
theorem keepB_grown {Bx b : Nat} {W W' : World} (h : W.grownBy W' (some b)) (hB : Bx < W.heap.size) (hb : Bx ≠ b) : KeepB Bx W W' :=
  ⟨h.size, h.block Bx hB (fun e => by cases e; exact hb rfl)⟩
theorem newer_iff {cur : Option (Int × Pg)} {s : Int} (hs : 1 ≤ s) : newer cur s = true ↔ (npOf cur).1 < s := by
  cases cur with
  | none => simp [newer, npOf]; omega
  | some y => simp [newer, npOf]

theorem run_field_np (a b : Int) (W : World) : (Instr.field 101 (.agg #[.int .i64 a, .int .i64 b]) 0).run Try.prog W = .ok (.int .i64 a) W := by kernel_rfl

theorem wpListIn_lookup_ok_cur {F : Fence} {nF : Nat} (w : World) {ops : Array Oper} {rest : List Oper} {o : Oper} {a : Act} {Q : Exit → Act → World → Prop} (hg : o.guard = none) (m x : Operand) (hop : o.op = Op.lookup 109 m x true) (b n : Nat) (xs : List (Int × Pg)) (hm : a.eval m = .map (some b)) (hN : NpIs w b n xs)
    (k : Int) (h0 : 0 ≤ k) (h1 : k ≤ 39) (hx : a.eval x = .int .i64 k) (s p : Int) (r : Bool) (hs : (npOf (newestAt xs k)).1 = s) (hp : (npOf (newestAt xs k)).2 = p) (hr : (newestAt xs k).isSome = r)
    (hK : wpListIn F nF Try.prog ops Q rest (a.put o.dst (.tuple #[.agg #[.int .i64 s, .int .i64 p], .bool r])) w) : wpListIn F nF Try.prog ops Q (o :: rest) a w := by
  refine wpListIn_lookup_ok_np w hg m x hop b n xs hm hN k h0 h1 hx ?_
  rw [hs, hp, hr]
  exact hK
theorem RowInts.put2 {w : World} {t : TypeId} {b n k : Nat} {L : List Int} {x : Int} (h : RowInts w t b n (L.take k)) (hx : L[k]? = some x) (v0 : Value) (o : Obj) :
    RowInts (((w.setCell ⟨b, k, none⟩ v0).setCell ⟨b, k, none⟩ (.int .i64 x)).alloc o) t b n (L.take (k + 1)) := by
  refine World.rowIs.congr (World.rowIs.alloc (World.rowIs.set (World.rowIs.set h k v0) k (.int .i64 x)) o) fun i hi => ?_
  unfold intF
  by_cases e : i = k
  · subst e; simp [List.getElem?_take, hx]
  · by_cases l : i < k
    · simp [e, List.getElem?_take, l, Nat.lt_succ_of_lt l]
    · have l2 : ¬ i < k + 1 := by omega
      simp [e, List.getElem?_take, l, l2]

theorem RowInts.own {w : World} {t : TypeId} {b n B : Nat} {L : List Int} (h : RowInts w t b n L) (hl : L.length = n) (hB : B ≤ b) (hn : n ≤ 1048576) : OwnInts w t B (.slice (some ⟨b, 0, none⟩) n n) L := by
  obtain ⟨c, hb, hc, hf⟩ := h
  refine ⟨by simp [ints], .inr ⟨b, n, c, by rw [hl], hB, hb, by omega, by unfold maxLen; omega, by omega, ?_⟩⟩
  rw [List.take_of_length_le (by simp; omega)]
  refine List.ext_getElem? (fun i => ?_)
  by_cases hi : i < n
  · have h1 := hf i hi
    rw [← Array.getElem?_toList] at h1
    rw [h1]
    obtain ⟨x, hx⟩ := getElem?_ex (l := L) (k := i) (by omega)
    simp [ints, intF, hx]
  · rw [List.getElem?_eq_none (by simp; omega), List.getElem?_eq_none (by rw [ints_length]; omega)]

theorem heap6 (w : World) (o1 o2 o3 o4 o5 o6 : Obj) :
    ((((((w.alloc o1).alloc o2).alloc o3).alloc o4).alloc o5).alloc o6).heap[w.heap.size]? = some o1 ∧ ((((((w.alloc o1).alloc o2).alloc o3).alloc o4).alloc o5).alloc o6).heap[w.heap.size + 1]? = some o2 ∧
    ((((((w.alloc o1).alloc o2).alloc o3).alloc o4).alloc o5).alloc o6).heap[w.heap.size + 1 + 1]? = some o3 ∧ ((((((w.alloc o1).alloc o2).alloc o3).alloc o4).alloc o5).alloc o6).heap[w.heap.size + 1 + 1 + 1]? = some o4 ∧
    ((((((w.alloc o1).alloc o2).alloc o3).alloc o4).alloc o5).alloc o6).heap[w.heap.size + 1 + 1 + 1 + 1]? = some o5 ∧ ((((((w.alloc o1).alloc o2).alloc o3).alloc o4).alloc o5).alloc o6).heap[w.heap.size + 1 + 1 + 1 + 1 + 1]? = some o6 := by
  have e : ((((((w.alloc o1).alloc o2).alloc o3).alloc o4).alloc o5).alloc o6).heap = (((((w.heap.push o1).push o2).push o3).push o4).push o5).push o6 := rfl
  rw [e]
  simp only [Array.getElem?_push, Array.size_push]
  refine ⟨?_, ?_, ?_, ?_, ?_, ?_⟩
  · rw [if_neg (by omega), if_neg (by omega), if_neg (by omega), if_neg (by omega), if_neg (by omega), if_pos trivial]
  · rw [if_neg (by omega), if_neg (by omega), if_neg (by omega), if_neg (by omega), if_pos trivial]
  · rw [if_neg (by omega), if_neg (by omega), if_neg (by omega), if_pos trivial]
  · rw [if_neg (by omega), if_neg (by omega), if_pos trivial]
  · rw [if_neg (by omega), if_pos trivial]
  · rw [if_pos trivial]

set_option maxRecDepth 100000 in
set_option maxHeartbeats 2000000 in
theorem newestPlaces_any (m : CC) (c : Nat) (hm : m.count = c) (h4 : 4 ≤ c) (hc : c ≤ 12) (bs : List Bk) (hl : bs.length = c) (hbs : ccBs m c = bs) (hok : ChipOk bs) (w : World) :
    Calls Try.prog 70 #[.agg (ccA m)] w fun e w' => MapRet bs 2 w.heap.size e w' ∧ Below w.heap.size w w' := by
  obtain ⟨room, hroom⟩ : ∃ room, room = roomOf bs := ⟨_, rfl⟩
  have hroomN : room = 4 * (c - 3) := by rw [hroom]; unfold roomOf; rw [hl]
  have hri : roomI (c : Int) = (room : Int) := by rw [roomI_in (by omega), hroomN]; omega
  have hr36 : room ≤ 36 := by omega
  have hua : usedAll m c = usedOf bs := by subst hl; exact usedOf_cc hbs
  have hRx : ∀ b k : Nat, b < c → k < 4 → (m.page b k).used = true → RightU ((b : Int) * 4 + (k : Int), m.page b k) := fun b k hb hk hu => by
    have hmem : ((b : Int) * 4 + (k : Int), m.page b k) ∈ usedOf bs := by
      rw [← hua]
      unfold usedAll
      simp only [List.mem_flatMap, List.mem_range]
      refine ⟨b, hb, ?_⟩
      unfold usedB
      simp only [List.mem_map, List.mem_filter, List.mem_range]
      exact ⟨k, ⟨hk, hu⟩, rfl⟩
    obtain ⟨q1, q2, q3, q4, _⟩ := hok.usedRight hmem
    exact ⟨q1, q2, q3, q4⟩
  have hc0 := ccA_count m
  rw [hm] at hc0
  have HRM := hide hroom
  have HUA := hide hua
  have HRX := hide hRx
  clear hroom hua hRx hroomN
  refine (callsIn_wide (n := 8)).1 ?_
  refine callsIn_of_wp_marks Try.func70 rfl trivial ?_ rfl
  simp only [Try.ntmps70, List.size_toArray, List.length_cons, List.length_nil, Nat.reduceAdd, Nat.reduceSub, Array.replicate_succ, Array.replicate_zero, List.push_toArray, List.append_toArray, List.nil_append, List.cons_append]
  gi_wp2_with fail
  refine ⟨trivial, ?_⟩
  gi_at_call 18
  refine (callsIn_wide.2 (implRoomFor_any _ _)).mono ?_
  rintro e w' ⟨rfl, rfl⟩
  rw [hri]
  clear hc0 hri
  have hmm := @run_makeMap Try.prog
  have h6 := heap6 w (.cells (ccA m) 74) (.cells #[.slice none 0 0] 30) (.cells #[.bool false] 4) (.cells #[.int .i64 (room : Int)] 2) (.map #[] 0) (.cells #[.map (some (w.heap.size + 1 + 1 + 1 + 1))] 109)
  have H6 := hide h6
  have HLD := hide (fun j (hj : j < 205) => (by rw [Nat.zero_add]; exact cell_of_row _ _ j _ _ _ h6.1 : World.cell? _ ⟨w.heap.size, 0 + j, none⟩ = (ccA m)[j]?))
  clear h6
  gi_wp2_with (first | (refine wpListIn_load_mid rfl 74 _ rfl w.heap.size 0 rfl (ccA m) 205 (ccA_size m) (unhide HLD) _ Try.underlying74 rfl sizeCC' ?_) | (refine ⟨trivial, ?_⟩; gi_at_call 82; refine (usedPages_in Fence.wide _ trivial rfl m _).mono ?_; rintro e w' ⟨rfl, rfl⟩))
  clear HLD hmm
  obtain ⟨W4, hW4⟩ : ∃ W4, W4 = (((((w.alloc (.cells (ccA m) 74)).alloc (.cells #[.slice none 0 0] 30)).alloc (.cells #[.bool false] 4)).alloc (.cells #[.int .i64 (room : Int)] 2)).alloc (.map #[] 0)).alloc (.cells #[.map (some (w.heap.size + 1 + 1 + 1 + 1))] 109) := ⟨_, rfl⟩
  have h6 := unhide H6
  clear H6
  have hs4 : W4.heap.size = w.heap.size + 1 + 1 + 1 + 1 + 1 + 1 := by rw [hW4]; simp
  have hB4 : Below w.heap.size w W4 := by
    rw [hW4]
    exact ((((((Below.refl _ w).alloc (Nat.le_refl _) _).alloc (by simp) _).alloc (by simp; omega) _).alloc (by simp; omega) _).alloc (by simp; omega) _).alloc (by simp; omega) _
  have hNp0 : NpIs W4 (w.heap.size + 1 + 1 + 1 + 1) 0 [] := by
    have h0 := NpIs.made ((((w.alloc (.cells (ccA m) 74)).alloc (.cells #[.slice none 0 0] 30)).alloc (.cells #[.bool false] 4)).alloc (.cells #[.int .i64 (room : Int)] 2))
    have e : ((((w.alloc (.cells (ccA m) 74)).alloc (.cells #[.slice none 0 0] 30)).alloc (.cells #[.bool false] 4)).alloc (.cells #[.int .i64 (room : Int)] 2)).heap.size = w.heap.size + 1 + 1 + 1 + 1 := by simp
    rw [e] at h0
    rw [hW4]
    exact h0.kept (World.grownBy_alloc _ _ none) (by simp)
  rw [← hW4] at h6 ⊢
  clear hW4
  obtain ⟨_, h61, h62, h63, _, h65⟩ := h6
  have hbel : Below w.heap.size w (W4.alloc (.cells (ccA m) 74)) := hB4.alloc hB4.size _
  have hbox : ∀ i, (W4.alloc (.cells (ccA m) 74)).cell? ⟨w.heap.size + 1 + 1 + 1 + 1 + 1 + 1, i, none⟩ = (ccA m)[i]? := fun i => by rw [← hs4]; simp
  refine wpIn_rangeFunc_ownH rfl (by omega) (gf := 88) (lb := #[.pointer (some ⟨w.heap.size + 1 + 1 + 1 + 1 + 1 + 1, 0, none⟩)]) rfl trivial (enters_of Try.func88 (by kernel_rfl) rfl)
    (usedR_stops RightU Fence.wide _ trivial rfl (by omega) (w.heap.size + 1 + 1 + 1 + 1 + 1 + 1) c m hm hc (unhide HRX) _ (by simp; omega) hbox) KeepB.trans (keepB_b (by simp; omega)) (Below.refl _ _) (fun _ => rfl)
    (fun pre W => NewI w room pre W ∧ Below w.heap.size w W) (fun c pre W => NewX w room c pre W ∧ Below w.heap.size w W)
    (OwnFrom.and (NewI.own w room (by simp; omega)) (ownFrom_below (Nat.le_refl _) (by simp; omega)))
    (fun c => OwnFrom.and (Own.from (NewX.own w room c) _) (ownFrom_below (Nat.le_refl _) (by simp; omega)))
    ⟨⟨by rw [Below.heap_alloc _ _ _ (by rw [hs4]; omega)]; exact h61, by rw [Below.heap_alloc _ _ _ (by rw [hs4]; omega)]; exact h62, by rw [Below.heap_alloc _ _ _ (by rw [hs4]; omega)]; exact h63, by rw [Below.heap_alloc _ _ _ (by rw [hs4]; omega)]; exact h65, hNp0.kept (World.grownBy_alloc _ _ none) (by simp), fun x hx => by simp at hx, by simp; omega⟩, hbel⟩
    (fun x a' W => ∃ Bp, w.heap.size + 1 + 1 + 1 + 1 + 1 + 1 < Bp ∧ W.heap[Bp]? = some (.cells #[Value.bool x.val.2.used, Value.int .i64 x.val.2.log, Value.int .i64 x.val.2.seq, Value.string x.val.2.data] 68 (0, 0)) ∧
      a' = { tmps := #[.agg (ccA m), .pointer (some ⟨w.heap.size, 0, none⟩), .pointer (some ⟨w.heap.size + 1, 0, none⟩), .pointer (some ⟨w.heap.size + 1 + 1, 0, none⟩), .pointer (some ⟨w.heap.size + 1 + 1 + 1, 0, none⟩), .pointer (some ⟨w.heap.size + 1 + 1 + 1 + 1 + 1, 0, none⟩), .int .i64 x.val.1, .pointer (some ⟨Bp, 0, none⟩), undef, undef, undef, undef, .pointer (some ⟨w.heap.size, 0, none⟩), .int .i64 (c : Int), .int .i64 (room : Int), .map (some (w.heap.size + 1 + 1 + 1 + 1)), .agg (ccA m), .func (.func 88) #[] #[.pointer (some ⟨w.heap.size + 1 + 1 + 1 + 1 + 1 + 1, 0, none⟩)], .int .i64 x.val.1, .agg #[Value.bool x.val.2.used, Value.int .i64 x.val.2.log, Value.int .i64 x.val.2.seq, Value.string x.val.2.data], undef, undef, undef, undef, undef, undef, undef, undef, undef, undef, undef, undef, undef, undef, undef, undef, undef, undef, undef, undef, undef, undef, undef, undef, undef, undef, undef, undef, undef, undef, undef, undef, undef, undef, undef, undef, undef, undef, undef, undef, undef, undef, undef], defers := [] })
    (fun x a' => Own.from (fun _ W W' row ⟨Bp, h1, h2, h3⟩ hg hr => ⟨Bp, h1, blk_kept h2 hg hr, h3⟩) _) ?assign ?body ?done ?stop
  case assign =>
    rintro l pre x W K ⟨hi, hb⟩ hK
    obtain ⟨⟨xi, xp⟩, hx⟩ := x
    simp only [encU]
    gi_wp2
    have hWs : w.heap.size + 1 + 1 + 1 + 1 + 1 + 1 < W.heap.size := hi.2.2.2.2.2.2
    exact hK _ _ ((KeepsOthers.alloc _ _).from _) (KeepB.alloc _ _ hWs) ⟨NewI.own w room (B := w.heap.size + 1 + 1 + 1 + 1 + 1) (by omega) pre W _ none hi (World.grownBy_alloc W _ none) (fun r e => by cases e), hb.alloc hb.size _⟩ ⟨W.heap.size, hWs, World.alloc_heap_new _ _, rfl⟩
  case body =>
    rintro l pre ⟨⟨xi, u, lg, s, d⟩, hx⟩ a' W hlb hlr ⟨⟨h1, h2, h3, h5, hNp, hF, hWs⟩, hb⟩ ⟨Bp, hBp, hpb, rfl⟩ hlen
    obtain ⟨q0, q1, q2, q3⟩ := hx
    simp only at q0 q1 q2 q3 hpb ⊢
    have hcL := cell_of_row _ _ 1 _ _ _ hpb
    have hcS := cell_of_row _ _ 2 _ _ _ hpb
    have hcR := cell_of_row _ _ 0 _ _ _ h3
    have hcM := cell_of_row _ _ 0 _ _ _ h5
    have hcF := cell_of_row _ _ 0 _ _ _ h1
    have hfF := frozen_of_row _ _ 0 _ _ h1
    have hcG := cell_of_row _ _ 0 _ _ _ h2
    have hfG := frozen_of_row _ _ 0 _ _ h2
    simp only [List.getElem?_toArray, List.getElem?_cons_succ, List.getElem?_cons_zero] at hcL hcS hcR hcM hcF hcG
    have H1 := hide h1
    have H2 := hide h2
    have H3 := hide h3
    have H5 := hide h5
    have HNP := hide hNp
    have HF := hide hF
    clear h1 h2 h3 h5 hNp hF hpb
    have hfld := run_field_np
    by_cases hlog : lg < (room : Int)
    · by_cases hnw : newer (newestAt (pre.map (·.val)) lg) s = true
      · have hv : (npOf (newestAt (pre.map (·.val)) lg)).1 < s := (newer_iff q2).1 hnw
        have HNW := hide hnw
        clear hnw
        gi_wp2_with (first | (gi_at_lookup; refine wpListIn_lookup_np _ rfl _ _ rfl (w.heap.size + 1 + 1 + 1 + 1) pre.length (pre.map (·.val)) rfl (unhide HNP) lg q0 q1 rfl ?_) | (gi_at_mapUpdate; refine wpListIn_update_np _ rfl _ _ _ rfl (w.heap.size + 1 + 1 + 1 + 1) pre.length (pre.map (·.val)) rfl (unhide HNP) (by unfold maxLen; omega) (xi, ⟨u, lg, s, d⟩) q0 q1 rfl rfl (unhide HNW) ?_; intro w2 hnp2 hg2))
        refine ⟨keepsFrom_grown hg2 (by simp; omega), keepB_grown hg2 hWs (by omega), ⟨?_, ?_, ?_, ?_, ?_, ?_, Nat.lt_of_lt_of_le hWs hg2.size⟩, hb.grown hg2 hb.size (fun j e => by cases e; omega)⟩
        · rw [hg2.block _ (by omega) (fun e => by simp at e)]; exact unhide H1
        · rw [hg2.block _ (by omega) (fun e => by simp at e)]; exact unhide H2
        · rw [hg2.block _ (by omega) (fun e => by simp at e)]; exact unhide H3
        · rw [hg2.block _ (by omega) (fun e => by simp at e)]; exact unhide H5
        · simpa using hnp2
        · intro x hx
          rcases List.mem_append.1 hx with hx | hx
          · exact unhide HF x hx
          · rw [List.mem_singleton.1 hx]; exact hlog
      · have hv : ¬ (npOf (newestAt (pre.map (·.val)) lg)).1 < s := fun hc => hnw ((newer_iff q2).2 hc)
        have HNW := hide hnw
        clear hnw
        gi_wp2_with (first | (gi_at_lookup; refine wpListIn_lookup_np _ rfl _ _ rfl (w.heap.size + 1 + 1 + 1 + 1) pre.length (pre.map (·.val)) rfl (unhide HNP) lg q0 q1 rfl ?_))
        refine ⟨KeepsFrom.refl _ _, KeepB.refl _ _, ⟨unhide H1, unhide H2, unhide H3, unhide H5, ?_, ?_, hWs⟩, hb⟩
        · have h0 := NpIs.same (unhide HNP) (x := (xi, ⟨u, lg, s, d⟩)) rfl (unhide HNW)
          rw [List.map_append, List.length_append]
          exact h0.mono (by simp)
        · intro x hx
          rcases List.mem_append.1 hx with hx | hx
          · exact unhide HF x hx
          · rw [List.mem_singleton.1 hx]; exact hlog
    · have hlog' : (room : Int) ≤ lg := by omega
      gi_wp2
      refine ⟨((KeepsOthers.setCell _ _ _).from _).trans ((KeepsOthers.setCell _ _ _).from _), ⟨rfl, ⟨_, List.mem_append_right _ (List.mem_singleton.2 rfl), hlog'⟩, ?_, ?_⟩, ?_⟩
      · rw [Below.heap_setCell _ _ _ _ (by simp)]
        exact blk_setCell_same 0 (.slice none 0 0) (unhide H1)
      · exact blk_setCell_same 0 (.bool false) ((Below.heap_setCell _ _ _ _ (by simp)).trans (unhide H2))
      · exact (hb.setCell (p := ⟨w.heap.size + 1, 0, none⟩) (by simp) _).setCell (p := ⟨w.heap.size + 1 + 1, 0, none⟩) (by simp; omega) _
  case done =>
    rintro D ys W hD hys ⟨⟨h1, h2, h3, h5, hNp, hF, hWs⟩, hb⟩ hK
    have hcR := cell_of_row _ _ 0 _ _ _ h3
    have hcM := cell_of_row _ _ 0 _ _ _ h5
    have hcF := cell_of_row _ _ 0 _ _ _ h1
    have hfF := frozen_of_row _ _ 0 _ _ h1
    have hcG := cell_of_row _ _ 0 _ _ _ h2
    have hfG := frozen_of_row _ _ 0 _ _ h2
    simp only [List.getElem?_toArray, List.getElem?_cons_succ, List.getElem?_cons_zero] at hcR hcM hcF hcG
    have H1 := hide h1
    have H2 := hide h2
    rw [hys, unhide HUA] at hNp
    have hF' : Fits bs := fun x hx => by
      rw [← unhide HUA, ← hys] at hx
      obtain ⟨y, hy, rfl⟩ := List.mem_map.1 hx
      rw [← unhide HRM]
      exact hF y hy
    have HNP := hide hNp
    have HF := hide hF'
    have HK := hide hK
    clear h1 h2 h3 h5 hNp hF hF' hys hK
    have hmk := make_ints room (by omega)
    gi_wp2
    clear hmk hcR
    have hDlt : D < W.heap.size := (Array.getElem?_eq_some_iff.1 (unhide HK)).1
    gi_loopw [43] (fun i wr => ∃ k : Nat, k ≤ room ∧ i = .int .i64 k ∧ RowInts wr 2 W.heap.size room ((placesOf (usedOf bs) room).take k) ∧ Below W.heap.size W wr ∧ W.heap.size < wr.heap.size) (fun i _ => room - (intOf i).toNat)
    case atStart => exact ⟨0, Nat.zero_le _, rfl, by simpa using RowInts.made W _ _, (Below.refl _ _).alloc (Nat.le_refl _) _, by simp⟩
    case round =>
      obtain ⟨k, hk, rfl, hR, hBr, hsr⟩ := hrel
      by_cases hlt : k < room
      · have hat := placesOf_at (usedOf bs) room hlt
        have hcM' := (hBr.cell (p := ⟨w.heap.size + 1 + 1 + 1 + 1 + 1, 0, none⟩) (by show w.heap.size + 1 + 1 + 1 + 1 + 1 < W.heap.size; omega)).trans hcM
        have hNp' : NpIs (wr.setCell ⟨W.heap.size, k, none⟩ (.int .i64 (-1))) (w.heap.size + 1 + 1 + 1 + 1) ys.length (usedOf bs) := by
          refine NpIs.kept (W := wr) (row := some W.heap.size) ((unhide HNP).kept (row := none) ⟨hBr.os, hBr.tape, hBr.output, hBr.size, fun j hj _ => hBr.block j hj⟩ (by simp)) ⟨rfl, rfl, rfl, by simp [World.setCell], fun j _ hj => Below.heap_setCell _ _ _ _ (fun e => hj (by rw [e]))⟩ (by simp; omega)
        have c0 := World.rowIs.cell hR (i := k) hlt
        have f0 := World.rowIs.frozen hR
        have HR := hide hR
        have HNP' := hide hNp'
        have HAT := hide hat
        have hk40 : (k : Int) ≤ 39 := by omega
        have hk00 : 0 ≤ (k : Int) := by omega
        have hne1 : W.heap.size ≠ w.heap.size + 1 + 1 + 1 + 1 + 1 := by omega
        clear hR hNp' hat hcM hcF hfF hcG hfG
        cases hnw : newestAt (usedOf bs) (k : Int) with
        | none =>
          have e1 : (npOf (newestAt (usedOf bs) (k : Int))).1 = 0 := by rw [hnw]; rfl
          have e2 : (npOf (newestAt (usedOf bs) (k : Int))).2 = 0 := by rw [hnw]; rfl
          have e3 : (newestAt (usedOf bs) (k : Int)).isSome = false := by rw [hnw]; rfl
          have hat := unhide HAT
          rw [hnw] at hat
          have HAT2 := hide hat
          have E1 := hide e1
          have E2 := hide e2
          have E3 := hide e3
          clear HAT hat e1 e2 e3 hnw
          gi_wp2_with (gi_at_lookup; refine wpListIn_lookup_ok_cur _ rfl _ _ rfl (w.heap.size + 1 + 1 + 1 + 1) ys.length (usedOf bs) rfl (unhide HNP') (k : Int) hk00 hk40 rfl 0 0 false (unhide E1) (unhide E2) (unhide E3) ?_)
          go_roundw
          case rel =>
            refine ⟨k + 1, by omega, by go_num, ?_, ?_, ?_⟩
            · exact World.rowIs.alloc (RowInts.put (unhide HR) (unhide HAT2)) _
            · exact (hBr.setCell (p := ⟨W.heap.size, k, none⟩) (Nat.le_refl _) _).alloc (by simp [World.setCell]; omega) _
            · simp [World.setCell]; omega
          case measure => simp [intOf]; omega
        | some y =>
          have e1 : (npOf (newestAt (usedOf bs) (k : Int))).1 = y.2.seq := by rw [hnw]; rfl
          have e2 : (npOf (newestAt (usedOf bs) (k : Int))).2 = y.1 := by rw [hnw]; rfl
          have e3 : (newestAt (usedOf bs) (k : Int)).isSome = true := by rw [hnw]; rfl
          have hat := unhide HAT
          rw [hnw] at hat
          have HAT2 := hide hat
          have E1 := hide e1
          have E2 := hide e2
          have E3 := hide e3
          clear HAT hat e1 e2 e3 hnw
          gi_wp2_with (gi_at_lookup; refine wpListIn_lookup_ok_cur _ rfl _ _ rfl (w.heap.size + 1 + 1 + 1 + 1) ys.length (usedOf bs) rfl (unhide HNP') (k : Int) hk00 hk40 rfl y.2.seq y.1 true (unhide E1) (unhide E2) (unhide E3) ?_)
          go_roundw
          case rel =>
            refine ⟨k + 1, by omega, by go_num, ?_, ?_, ?_⟩
            · exact RowInts.put2 (unhide HR) (unhide HAT2) _ _
            · exact ((hBr.setCell (p := ⟨W.heap.size, k, none⟩) (Nat.le_refl _) _).setCell (p := ⟨W.heap.size, k, none⟩) (Nat.le_refl _) _).alloc (by simp [World.setCell]; omega) _
            · simp [World.setCell]; omega
          case measure => simp [intOf]; omega
      · obtain rfl : k = room := by omega
        have hcF' := (hBr.cell (p := ⟨w.heap.size + 1, 0, none⟩) (by show w.heap.size + 1 < W.heap.size; omega)).trans hcF
        have hfF' := (hBr.frozen (p := ⟨w.heap.size + 1, 0, none⟩) (by show w.heap.size + 1 < W.heap.size; omega)).trans hfF
        have hcG' := (hBr.cell (p := ⟨w.heap.size + 1 + 1, 0, none⟩) (by show w.heap.size + 1 + 1 < W.heap.size; omega)).trans hcG
        have hfG' := (hBr.frozen (p := ⟨w.heap.size + 1 + 1, 0, none⟩) (by show w.heap.size + 1 + 1 < W.heap.size; omega)).trans hfG
        have hKr := (hBr.block D hDlt).trans (unhide HK)
        have HKR := hide hKr
        have HR := hide hR
        clear hKr hR hcF hfF hcG hfG hcM
        gi_wp2
        have hK' := ((KeepsOthers.setCell wr ⟨w.heap.size + 1, 0, none⟩ (.slice (some ⟨W.heap.size, 0, none⟩) k k)).trans (KeepsOthers.setCell _ ⟨w.heap.size + 1 + 1, 0, none⟩ (.bool true))).same D _ (unhide HKR) rfl
        refine ⟨by simp, .inl ⟨_, _, rfl, run_takeDeferred hK', ?_⟩⟩
        have hc4 : ((wr.setCell ⟨w.heap.size + 1, 0, none⟩ (.slice (some ⟨W.heap.size, 0, none⟩) k k)).setCell ⟨w.heap.size + 1 + 1, 0, none⟩ (.bool true)).cell? ⟨w.heap.size + 1, 0, none⟩ = some (.slice (some ⟨W.heap.size, 0, none⟩) k k) := by
          refine (World.cell?_of_block (a := ⟨w.heap.size + 1, 0, none⟩) (Below.heap_setCell _ _ _ _ (by show w.heap.size + 1 ≠ w.heap.size + 1 + 1; omega))).trans ?_
          exact World.cell?_setCell_same' wr ⟨w.heap.size + 1, 0, none⟩ _ (by rw [hcF']; rfl)
        have hc5 := cell_kept hc4 (grownBy_putObj' _ D (.deferred none)) (fun r e => by cases e; exact ⟨_, hK', rfl⟩)
        have hc6 := cell_kept (World.cell?_setCell_same' (wr.setCell ⟨w.heap.size + 1, 0, none⟩ (.slice (some ⟨W.heap.size, 0, none⟩) k k)) ⟨w.heap.size + 1 + 1, 0, none⟩ (.bool true) (by rw [World.cell?_of_block (a := ⟨w.heap.size + 1 + 1, 0, none⟩) (Below.heap_setCell wr _ _ _ (by show w.heap.size + 1 + 1 ≠ w.heap.size + 1; omega)), hcG']; rfl)) (grownBy_putObj' _ D (.deferred none)) (fun r e => by cases e; exact ⟨_, hK', rfl⟩)
        have hBw : Below w.heap.size w ((wr.setCell ⟨w.heap.size + 1, 0, none⟩ (.slice (some ⟨W.heap.size, 0, none⟩) k k)).setCell ⟨w.heap.size + 1 + 1, 0, none⟩ (.bool true)) := ((hb.trans (hBr.mono hb.size)).setCell (p := ⟨w.heap.size + 1, 0, none⟩) (by simp) _).setCell (p := ⟨w.heap.size + 1 + 1, 0, none⟩) (by simp; omega) _
        refine ⟨.tuple #[.slice (some ⟨W.heap.size, 0, none⟩) k k, .bool true], ?_, ⟨_, true, _, rfl, ⟨?_, rfl⟩, ?_⟩, hBw.trans (belowK_b (w := w) (Nat.le_refl _) _ D _ _ (by simp at hD; omega) hK' rfl rfl)⟩
        · simp [results, Try.f70, go_sem, hc5, hc6]
        · simp only [true_iff]
          exact unhide HF
        · simp only [if_true]
          have hr := unhide HR
          rw [List.take_of_length_le (by rw [placesOf_length]; exact Nat.le_refl _)] at hr
          rw [← unhide HRM]
          refine RowInts.own (World.rowIs.of_block hr ?_) (placesOf_length _ _) hb.size (by omega)
          rw [World.putObj_heap_other (by omega), Below.heap_setCell _ _ _ _ (by show W.heap.size ≠ w.heap.size + 1 + 1; omega), Below.heap_setCell _ _ _ _ (by show W.heap.size ≠ w.heap.size + 1; omega)]
  case stop =>
    rintro D c' pre W hD hpre ⟨⟨rfl, hin, h1, h2⟩, hb⟩ hK
    have hcF := cell_of_row _ _ 0 _ _ _ h1
    have hcG := cell_of_row _ _ 0 _ _ _ h2
    have HA := hide hin
    clear hin
    gi_wp2
    refine ⟨by simp, .inl ⟨_, _, rfl, run_takeDeferred hK, ?_⟩⟩
    have hc5 := cell_kept hcF (grownBy_putObj' _ D (.deferred none)) (fun r e => by cases e; exact ⟨_, hK, rfl⟩)
    have hc6 := cell_kept hcG (grownBy_putObj' _ D (.deferred none)) (fun r e => by cases e; exact ⟨_, hK, rfl⟩)
    refine ⟨.tuple #[.slice none 0 0, .bool false], ?_, ⟨_, false, [], rfl, ⟨?_, rfl⟩, World.ownsRow_nil _ _ _ _⟩, hb.trans (belowK_b (w := w) (Nat.le_refl _) W D _ _ (by simp at hD; omega) hK rfl rfl)⟩
    · simp [results, Try.f70, go_sem, hc5, hc6]
    · simp only [Bool.false_eq_true, false_iff]
      intro hfit
      obtain ⟨x, hx, hge⟩ := unhide HA
      have := hfit x.val (by rw [← unhide HUA]; exact hpre.subset (List.mem_map.2 ⟨x, hx, rfl⟩))
      rw [← unhide HRM] at this
      omega
end Go.Proofs.Ytaelbmilicfkhaa
