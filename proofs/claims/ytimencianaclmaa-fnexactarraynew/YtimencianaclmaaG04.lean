/- 4 texts in one. -/
import Derived.RangeFuncNested
import Derived.RangeFuncBound
import Derived.RangeFuncCalls
import Derived.RangeFuncLeaves
import Derived.RangeFuncBox
import Derived.Shelf.Abstract
import Derived.WalkKit
import Derived.OwnWalkIn
import Derived.TacticsInMore
import Derived.LoopNIn
import Derived.LoopIn
import Derived.Outline
import Derived.Test.YtimencianaclmaaG03
import Derived.Test.YtimencianaclmaaG02

/- The program's own walk over the pages that are used: an iterator. -/
namespace Go.Proofs.Ytimencianaclmaa
open Go.RowKit Go.Shelf
set_option linter.unusedVariables false
set_option linter.unusedSimpArgs false
attribute [local go_sem] Oper.semAt_some

/-- A struct or an array is read out of the middle of a row, inside a fence. -/
theorem wpIn_load_mid {F : Fence} {n : Nat} {P : Program} {o : Oper} {a : Act} {w : World} {K : Act → World → Prop} {Q : Exit → Act → World → Prop} (ty : TypeId) (x : Operand) (ho : o.op = .load ty x)
    (g off : Nat) (hx : a.eval x = .pointer (some ⟨g, off, none⟩)) (A : Array Value) (s : Nat) (hA : A.size = s) (hc : ∀ j, j < s → w.cell? ⟨g, off + j, none⟩ = A[j]?) (d : TypeDesc)
    (hu : P.underlying ty = some d) (hd : (match d with | .struct _ | .array _ _ => true | _ => false) = true) (hi : (P.info? ty).map (·.size) = some s)
    (h : K (a.put o.dst (.agg A)) w) : o.wpIn F n P a w K Q := by
  unfold Oper.wpIn
  refine ⟨?_, ?_⟩
  · simp [Oper.about, ho]
  · rw [Oper.semAt_plain F _ _ (by rw [ho]; intro c hc'; cases hc')]
    unfold execOp
    simp only [ho, hx, Instr.loadAt, Instr.sureAddr, Sem.run_bind, Sem.run_pure, Result.andThen_ok, run_loadVar_mid w g off ty A s hA hc d hu hd hi]
    exact h
theorem wpListIn_load_mid {F : Fence} {n : Nat} {P : Program} {ops : Array Oper} {rest : List Oper} {o : Oper} {a : Act} {w : World} {Q : Exit → Act → World → Prop} (hgd : o.guard = none) (ty : TypeId) (x : Operand) (ho : o.op = .load ty x)
    (g off : Nat) (hx : a.eval x = .pointer (some ⟨g, off, none⟩)) (A : Array Value) (s : Nat) (hA : A.size = s) (hc : ∀ j, j < s → w.cell? ⟨g, off + j, none⟩ = A[j]?) (d : TypeDesc)
    (hu : P.underlying ty = some d) (hd : (match d with | .struct _ | .array _ _ => true | _ => false) = true) (hi : (P.info? ty).map (·.size) = some s)
    (h : wpListIn F n P ops Q rest (a.put o.dst (.agg A)) w) : wpListIn F n P ops Q (o :: rest) a w :=
  wpListIn_plain hgd fun _ hK => wpIn_load_mid ty x ho g off hx A s hA hc d hu hd hi (hK _ _ h)

/-- The used pages among the first k of block b; of all blocks ahead of b. -/
def usedB (m : CC) (b k : Nat) : List (Int × Pg) := ((List.range k).filter fun j => (m.page b j).used).map fun (j : Nat) => ((b : Int) * 4 + (j : Int), m.page b j)
def usedAll (m : CC) (b : Nat) : List (Int × Pg) := (List.range b).flatMap fun i => usedB m i 4

theorem usedB_succ (m : CC) (b k : Nat) : usedB m b (k + 1) = usedB m b k ++ if (m.page b k).used then [((b : Int) * 4 + k, m.page b k)] else [] := by
  unfold usedB
  rw [List.range_succ, List.filter_append, List.map_append]
  congr 1
  by_cases h : (m.page b k).used <;> simp [h]
theorem usedAll_succ (m : CC) (b : Nat) : usedAll m (b + 1) = usedAll m b ++ usedB m b 4 := by
  unfold usedAll
  rw [List.range_succ, List.flatMap_append]
  simp
theorem usedB_length (m : CC) (b k : Nat) : (usedB m b k).length ≤ k := by
  have := List.length_filter_le (fun j => (m.page b j).used) (List.range k)
  simpa [usedB] using this
theorem usedAll_length (m : CC) (b : Nat) : (usedAll m b).length ≤ 4 * b := by
  induction b with
  | zero => simp [usedAll]
  | succ b ih => rw [usedAll_succ, List.length_append]; have := usedB_length m b 4; omega
theorem usedAll_le (m : CC) {b n : Nat} (h : b ≤ n) : usedAll m b <+: usedAll m n := by
  induction n with
  | zero => obtain rfl : b = 0 := by omega
            exact List.prefix_refl _
  | succ n ih =>
    by_cases e : b = n + 1
    · subst e; exact List.prefix_refl _
    · rw [usedAll_succ]; exact List.IsPrefix.trans (ih (by omega)) (List.prefix_append _ _)
theorem usedB_le (m : CC) (b : Nat) {k n : Nat} (h : k ≤ n) : usedB m b k <+: usedB m b n := by
  induction n with
  | zero => obtain rfl : k = 0 := by omega
            exact List.prefix_refl _
  | succ n ih =>
    by_cases e : k = n + 1
    · subst e; exact List.prefix_refl _
    · rw [usedB_succ]; exact List.IsPrefix.trans (ih (by omega)) (List.prefix_append _ _)
theorem used_le (m : CC) {b k n : Nat} (hb : b < n) (hk : k ≤ 4) : usedAll m b ++ usedB m b k <+: usedAll m n := by
  refine List.IsPrefix.trans ?_ (usedAll_le m (b := b + 1) hb)
  rw [usedAll_succ]
  exact List.prefix_append_right_inj _ |>.2 (usedB_le m b hk)

/-- The row Bx is as it was. -/
def KeepB (Bx : Nat) (W W' : World) : Prop := W.heap.size ≤ W'.heap.size ∧ W'.heap[Bx]? = W.heap[Bx]?
theorem KeepB.refl (Bx : Nat) (W : World) : KeepB Bx W W := ⟨Nat.le_refl _, rfl⟩
theorem KeepB.trans {Bx : Nat} {A B C : World} (h : KeepB Bx A B) (k : KeepB Bx B C) : KeepB Bx A C := ⟨Nat.le_trans h.1 k.1, k.2.trans h.2⟩
theorem KeepB.cell {Bx : Nat} {A B : World} (h : KeepB Bx A B) (i : Nat) : B.cell? ⟨Bx, i, none⟩ = A.cell? ⟨Bx, i, none⟩ := World.cell?_of_block (w := A) h.2
theorem KeepB.alloc {Bx : Nat} (W : World) (o : Obj) (h : Bx < W.heap.size) : KeepB Bx W (W.alloc o) := ⟨by simp, Below.heap_alloc _ _ _ h⟩
theorem KeepB.setCell {Bx : Nat} (W : World) (a : Addr) (v : Value) (h : Bx ≠ a.block) : KeepB Bx W (W.setCell a v) := ⟨by simp [World.setCell], Below.heap_setCell _ _ _ _ h⟩
theorem KeepB.drew {Bx : Nat} (W : World) : KeepB Bx W W.drew := ⟨Nat.le_refl _, rfl⟩
theorem KeepB.of_below {Bx B : Nat} {A C : World} (h : Below B A C) (hB : Bx < B) : KeepB Bx A C := ⟨h.size, h.block Bx hB⟩
theorem keepB_b {Bx : Nat} {w : World} (hn : Bx < w.heap.size) (W : World) (l : Nat) (o o' : Obj) (hl : w.heap.size ≤ l) (_ : W.heap[l]? = some o) (_ : o.isCells = false) (_ : o.isWalk = false) : KeepB Bx W (W.putObj l o') :=
  ⟨by simp, World.putObj_heap_other (by omega)⟩

def encU (x : Int × Pg) : Array Value := #[.int .i64 x.1, .agg #[.bool x.2.used, .int .i64 x.2.log, .int .i64 x.2.seq, .string x.2.data]]

set_option maxRecDepth 100000 in
set_option maxHeartbeats 4000000 in
theorem used1_in (F : Fence) (n : Nat) (h122 : F.fn 182) (hro : F.round = none) (hn : 1 ≤ n) (l Bx c : Nat) (m : CC) (hm : m.count = c) (hc : c ≤ 12) (J Jx : List (Int × Pg) → World → Prop)
    (hY : ∀ pre x W, J pre W → pre.length < 48 → YieldAt F (n - 1) Try.prog l (encU x) W fun e W' =>
      (e = .returned (.bool true) ∧ J (pre ++ [x]) W' ∧ KeepB Bx W W') ∨ (e = .returned (.bool false) ∧ Jx (pre ++ [x]) W'))
    (W : World) (hn0 : Bx < W.heap.size) (hJA : AbidesFrom W.heap.size J) (hbox : ∀ i, W.cell? ⟨Bx, i, none⟩ = (ccA m)[i]?) (h0 : J [] W) :
    CallsIn F n Try.prog 182 #[.func (.yield l) #[] #[], .pointer (some ⟨Bx, 0, none⟩)] W fun e W' => (∃ v, e = .returned v) ∧
      ((∃ ys, ys = usedAll m c ∧ J ys W') ∨ (∃ pre, pre <+: usedAll m c ∧ Jx pre W')) := by
  have hc0 := ccA_count m
  rw [hm] at hc0
  have HY := hide hY
  have HJAB := hide hJA
  clear hY hJA
  refine callsIn_of_wp Try.func182 rfl h122 ?_ hro
  simp only [Try.ntmps182, List.size_toArray, List.length_cons, List.length_nil, Nat.reduceAdd, Nat.reduceSub, Array.replicate_succ, Array.replicate_zero, List.push_toArray, List.append_toArray, List.nil_append, List.cons_append]
  gi_wp2
  gi_loopw [8] (fun i wr => ∃ b : Nat, b ≤ c ∧ i = .int .i64 b ∧ J (usedAll m b) wr ∧ KeepB Bx W wr) (fun i _ => c - (intOf i).toNat)
  case atStart => exact ⟨0, Nat.zero_le _, rfl, h0, KeepB.refl _ _⟩
  case round =>
    obtain ⟨b, hb, rfl, hJs, hnx⟩ := hrel
    clear hc0
    by_cases hlt : b < c
    · have hboxr : ∀ i, wr.cell? ⟨Bx, i, none⟩ = (ccA m)[i]? := fun i => (hnx.cell i).trans (hbox i)
      have hpa : ∀ j, j < 16 → wr.cell? ⟨Bx, 1 + b * 17 + 1 + j, none⟩ = (paA (m.page b))[j]? := fun j hj => by rw [hboxr]; exact ccA_pages m (by omega) hj
      have HPA := hide hpa
      have HBR := hide hboxr
      clear hpa hboxr hbox
      gi_wp2_with (refine wpListIn_load_mid rfl 104 _ rfl Bx (1 + b * 17 + 1) rfl (paA (m.page b)) 16 (paA_size _) (unhide HPA) _ Try.underlying104 rfl sizePages ?_)
      clear HPA HBR
      gi_loopw [16] (fun i wr => ∃ k : Nat, k ≤ 4 ∧ i = .int .i64 k ∧ J (usedAll m b ++ usedB m b k) wr ∧ KeepB Bx W wr) (fun i _ => 4 - (intOf i).toNat)
      case atStart => exact ⟨0, by omega, rfl, by simpa [usedB] using hJs, hnx⟩
      case round =>
        obtain ⟨k, hk, rfl, hJk, hnk⟩ := hrel
        have hbl : Bx < wr.heap.size := Nat.lt_of_lt_of_le hn0 hnk.1
        have hszk := hnk.1
        have HNK := hide hnk
        clear hnk
        by_cases hlt2 : k < 4
        · have hk4 : (k : Int) < 4 := by omega
          have hidx := fun W => run_index_pages (P := Try.prog) W 104 28 (m.page b) k hlt2 Try.underlying104 _ Try.underlying28 rfl sizePage
          obtain ⟨p, hp⟩ : ∃ p, m.page b k = p := ⟨_, rfl⟩
          have hsu := usedB_succ m b k
          rw [hp] at hidx hsu
          obtain ⟨u, lg, s, d⟩ := p
          simp only at hidx
          have hlen : (usedAll m b ++ usedB m b k).length < 48 := by
            rw [List.length_append]
            have h1 := usedAll_length m b
            have h2 := usedB_length m b k
            omega
          have HSU := hide hsu
          clear hsu hp hm
          have hpre := used_le m (b := b) (k := k + 1) (n := c) hlt (by omega)
          have HPRE := hide hpre
          clear hpre
          have hJa : ∀ o, J (usedAll m b ++ usedB m b k) (wr.alloc o) := fun o => unhide HJAB _ _ _ none hJk (World.grownBy_alloc wr o none) (fun r e => by cases e)
          have HJA := hide hJa
          clear hJa
          cases u with
          | false =>
            clear hJk hJs hnx h0 hlen hszk
            gi_wp2
            refine ⟨fun _ h => (by cases h), ?_⟩
            gi_wp2
            go_roundw
            case rel =>
              refine ⟨k + 1, by omega, by go_num, ?_, (unhide HNK).trans (KeepB.alloc _ _ hbl)⟩
              rw [unhide HSU]
              simp only [Bool.false_eq_true, if_false, List.append_nil]
              exact unhide HJA _
            case measure => simp [intOf]; omega
          | true =>
            obtain ⟨fn, tmps, assign, body, hy, hR⟩ := unhide HY (usedAll m b ++ usedB m b k) ((b : Int) * 4 + (k : Int), ⟨true, lg, s, d⟩) (wr.alloc (.cells #[.bool true, .int .i64 lg, .int .i64 s, .string d] 28)) (unhide HJA _) hlen
            dsimp only [encU] at hy
            have HR := hide hR
            clear hR
            gi_wp2
            refine (unhide HR).mono ?_
            rintro e W3 (⟨rfl, hJ3, hk3⟩ | ⟨rfl, hJx3⟩)
            · have HK3 := hide hk3
              clear hk3
              gi_wp2
              go_roundw
              case rel =>
                refine ⟨k + 1, by omega, by go_num, ?_, ((unhide HNK).trans (KeepB.alloc _ _ hbl)).trans (unhide HK3)⟩
                rw [unhide HSU, ← List.append_assoc]
                exact hJ3
              case measure => simp [intOf]; omega
            · gi_wp2
              refine bodyPost_ret (results_none rfl _ _ _) rfl ?_
              refine ⟨⟨_, rfl⟩, .inr ⟨_, ?_, hJx3⟩⟩
              have := unhide HPRE
              rw [unhide HSU, ← List.append_assoc] at this
              exact this
        · obtain rfl : k = 4 := by omega
          gi_wp2
          go_roundw
          case rel => exact ⟨b + 1, by omega, by go_num, by rw [usedAll_succ]; exact hJk, unhide HNK⟩
          case measure => simp [intOf]; omega
    · obtain rfl : b = c := by omega
      gi_wp2
      go_end0
      exact ⟨⟨_, rfl⟩, .inl ⟨_, rfl, hJs⟩⟩
set_option maxHeartbeats 1000000 in
theorem usedPages_in (F : Fence) (n : Nat) (h109 : F.fn 154) (hro : F.round = none) (m : CC) (w : World) :
    CallsIn F n Try.prog 154 #[.agg (ccA m)] w fun e w' => e = .returned (.func (.func 182) #[] #[.pointer (some ⟨w.heap.size, 0, none⟩)]) ∧ w' = w.alloc (.cells (ccA m) 109) := by
  refine callsIn_of_wp Try.func154 rfl h109 ?_ hro
  simp only [Try.ntmps154, List.size_toArray, List.length_cons, List.length_nil, Nat.reduceAdd, Nat.reduceSub, Array.replicate_succ, Array.replicate_zero, List.push_toArray, List.append_toArray, List.nil_append, List.cons_append]
  gi_wp2
  go_ret
  exact ⟨rfl, rfl⟩

theorem used_stops (F : Fence) (n : Nat) (h122 : F.fn 182) (hro : F.round = none) (hn : 1 ≤ n) (Bx c : Nat) (m : CC) (hm : m.count = c) (hc : c ≤ 12) (w : World) (hBx : Bx < w.heap.size) (hbox : ∀ i, w.cell? ⟨Bx, i, none⟩ = (ccA m)[i]?) :
    SeqStopsK F n Try.prog 182 #[.pointer (some ⟨Bx, 0, none⟩)] encU (KeepB Bx) (fun ys => ys = usedAll m c) (fun pre => pre <+: usedAll m c) 48 w := fun l J Jx W hW hJA _ hY h0 =>
  used1_in F n h122 hro hn l Bx c m hm hc J Jx hY W (Nat.lt_of_lt_of_le hBx hW.size) hJA (fun i => (hW.cell (p := ⟨Bx, i, none⟩) hBx).trans (hbox i)) h0
end Go.Proofs.Ytimencianaclmaa

/- The walk over the used pages, for whom asks something of each of them. -/
namespace Go.Proofs.Ytimencianaclmaa
open Go.RowKit Go.Shelf
set_option linter.unusedVariables false
set_option linter.unusedSimpArgs false
attribute [local go_sem] Oper.semAt_some

set_option maxRecDepth 100000 in
set_option maxHeartbeats 4000000 in
theorem used1R_in (Rx : Int × Pg → Prop) (F : Fence) (n : Nat) (h122 : F.fn 182) (hro : F.round = none) (hn : 1 ≤ n) (l Bx c : Nat) (m : CC) (hm : m.count = c) (hc : c ≤ 12) (J Jx : List (Int × Pg) → World → Prop)
    (hRx : ∀ b k : Nat, b < c → k < 4 → (m.page b k).used = true → Rx ((b : Int) * 4 + (k : Int), m.page b k)) (hY : ∀ pre x W, Rx x → J pre W → pre.length < 48 → YieldAt F (n - 1) Try.prog l (encU x) W fun e W' =>
      (e = .returned (.bool true) ∧ J (pre ++ [x]) W' ∧ KeepB Bx W W') ∨ (e = .returned (.bool false) ∧ Jx (pre ++ [x]) W'))
    (W : World) (hn0 : Bx < W.heap.size) (hJA : AbidesFrom W.heap.size J) (hbox : ∀ i, W.cell? ⟨Bx, i, none⟩ = (ccA m)[i]?) (h0 : J [] W) :
    CallsIn F n Try.prog 182 #[.func (.yield l) #[] #[], .pointer (some ⟨Bx, 0, none⟩)] W fun e W' => (∃ v, e = .returned v) ∧
      ((∃ ys, ys = usedAll m c ∧ J ys W') ∨ (∃ pre, pre <+: usedAll m c ∧ Jx pre W')) := by
  have hc0 := ccA_count m
  rw [hm] at hc0
  have HY := hide hY
  have HRX := hide hRx
  have HJAB := hide hJA
  clear hY hJA hRx
  refine callsIn_of_wp Try.func182 rfl h122 ?_ hro
  simp only [Try.ntmps182, List.size_toArray, List.length_cons, List.length_nil, Nat.reduceAdd, Nat.reduceSub, Array.replicate_succ, Array.replicate_zero, List.push_toArray, List.append_toArray, List.nil_append, List.cons_append]
  gi_wp2
  gi_loopw [8] (fun i wr => ∃ b : Nat, b ≤ c ∧ i = .int .i64 b ∧ J (usedAll m b) wr ∧ KeepB Bx W wr) (fun i _ => c - (intOf i).toNat)
  case atStart => exact ⟨0, Nat.zero_le _, rfl, h0, KeepB.refl _ _⟩
  case round =>
    obtain ⟨b, hb, rfl, hJs, hnx⟩ := hrel
    clear hc0
    by_cases hlt : b < c
    · have hboxr : ∀ i, wr.cell? ⟨Bx, i, none⟩ = (ccA m)[i]? := fun i => (hnx.cell i).trans (hbox i)
      have hpa : ∀ j, j < 16 → wr.cell? ⟨Bx, 1 + b * 17 + 1 + j, none⟩ = (paA (m.page b))[j]? := fun j hj => by rw [hboxr]; exact ccA_pages m (by omega) hj
      have HPA := hide hpa
      have HBR := hide hboxr
      clear hpa hboxr hbox
      gi_wp2_with (refine wpListIn_load_mid rfl 104 _ rfl Bx (1 + b * 17 + 1) rfl (paA (m.page b)) 16 (paA_size _) (unhide HPA) _ Try.underlying104 rfl sizePages ?_)
      clear HPA HBR
      gi_loopw [16] (fun i wr => ∃ k : Nat, k ≤ 4 ∧ i = .int .i64 k ∧ J (usedAll m b ++ usedB m b k) wr ∧ KeepB Bx W wr) (fun i _ => 4 - (intOf i).toNat)
      case atStart => exact ⟨0, by omega, rfl, by simpa [usedB] using hJs, hnx⟩
      case round =>
        obtain ⟨k, hk, rfl, hJk, hnk⟩ := hrel
        have hbl : Bx < wr.heap.size := Nat.lt_of_lt_of_le hn0 hnk.1
        have hszk := hnk.1
        have HNK := hide hnk
        clear hnk
        by_cases hlt2 : k < 4
        · have hk4 : (k : Int) < 4 := by omega
          have hidx := fun W => run_index_pages (P := Try.prog) W 104 28 (m.page b) k hlt2 Try.underlying104 _ Try.underlying28 rfl sizePage
          obtain ⟨p, hp⟩ : ∃ p, m.page b k = p := ⟨_, rfl⟩
          have hsu := usedB_succ m b k
          have hrx := unhide HRX b k (by omega) hlt2
          rw [hp] at hidx hsu hrx
          obtain ⟨u, lg, s, d⟩ := p
          simp only at hidx hrx
          have HRXP := hide hrx
          clear hrx
          have hlen : (usedAll m b ++ usedB m b k).length < 48 := by
            rw [List.length_append]
            have h1 := usedAll_length m b
            have h2 := usedB_length m b k
            omega
          have HSU := hide hsu
          clear hsu hp hm
          have hpre := used_le m (b := b) (k := k + 1) (n := c) hlt (by omega)
          have HPRE := hide hpre
          clear hpre
          have hJa : ∀ o, J (usedAll m b ++ usedB m b k) (wr.alloc o) := fun o => unhide HJAB _ _ _ none hJk (World.grownBy_alloc wr o none) (fun r e => by cases e)
          have HJA := hide hJa
          clear hJa
          cases u with
          | false =>
            clear hJk hJs hnx h0 hlen hszk
            gi_wp2
            refine ⟨fun _ h => (by cases h), ?_⟩
            gi_wp2
            go_roundw
            case rel =>
              refine ⟨k + 1, by omega, by go_num, ?_, (unhide HNK).trans (KeepB.alloc _ _ hbl)⟩
              rw [unhide HSU]
              simp only [Bool.false_eq_true, if_false, List.append_nil]
              exact unhide HJA _
            case measure => simp [intOf]; omega
          | true =>
            obtain ⟨fn, tmps, assign, body, hy, hR⟩ := unhide HY (usedAll m b ++ usedB m b k) ((b : Int) * 4 + (k : Int), ⟨true, lg, s, d⟩) (wr.alloc (.cells #[.bool true, .int .i64 lg, .int .i64 s, .string d] 28)) (unhide HRXP rfl) (unhide HJA _) hlen
            dsimp only [encU] at hy
            have HR := hide hR
            clear hR
            gi_wp2
            refine (unhide HR).mono ?_
            rintro e W3 (⟨rfl, hJ3, hk3⟩ | ⟨rfl, hJx3⟩)
            · have HK3 := hide hk3
              clear hk3
              gi_wp2
              go_roundw
              case rel =>
                refine ⟨k + 1, by omega, by go_num, ?_, ((unhide HNK).trans (KeepB.alloc _ _ hbl)).trans (unhide HK3)⟩
                rw [unhide HSU, ← List.append_assoc]
                exact hJ3
              case measure => simp [intOf]; omega
            · gi_wp2
              refine bodyPost_ret (results_none rfl _ _ _) rfl ?_
              refine ⟨⟨_, rfl⟩, .inr ⟨_, ?_, hJx3⟩⟩
              have := unhide HPRE
              rw [unhide HSU, ← List.append_assoc] at this
              exact this
        · obtain rfl : k = 4 := by omega
          gi_wp2
          go_roundw
          case rel => exact ⟨b + 1, by omega, by go_num, by rw [usedAll_succ]; exact hJk, unhide HNK⟩
          case measure => simp [intOf]; omega
    · obtain rfl : b = c := by omega
      gi_wp2
      go_end0
      exact ⟨⟨_, rfl⟩, .inl ⟨_, rfl, hJs⟩⟩

theorem usedR_stops (Rx : Int × Pg → Prop) (F : Fence) (n : Nat) (h122 : F.fn 182) (hro : F.round = none) (hn : 1 ≤ n) (Bx c : Nat) (m : CC) (hm : m.count = c) (hc : c ≤ 12) (hRx : ∀ b k : Nat, b < c → k < 4 → (m.page b k).used = true → Rx ((b : Int) * 4 + (k : Int), m.page b k)) (w : World) (hBx : Bx < w.heap.size) (hbox : ∀ i, w.cell? ⟨Bx, i, none⟩ = (ccA m)[i]?) :
    SeqStopsK F n Try.prog 182 #[.pointer (some ⟨Bx, 0, none⟩)] (fun x : {x : Int × Pg // Rx x} => encU x.val) (KeepB Bx) (fun ys => ys.map (·.val) = usedAll m c) (fun pre => pre.map (·.val) <+: usedAll m c) 48 w := by
  intro l J Jx W hW hJA _ hY h0
  refine (used1R_in Rx F n h122 hro hn l Bx c m hm hc (fun p W => ∃ q : List {x : Int × Pg // Rx x}, q.map (·.val) = p ∧ J q W) (fun p W => ∃ q : List {x : Int × Pg // Rx x}, q.map (·.val) = p ∧ Jx q W) hRx ?_ W (Nat.lt_of_lt_of_le hBx hW.size) ?_ (fun i => (hW.cell (p := ⟨Bx, i, none⟩) hBx).trans (hbox i)) ⟨[], rfl, h0⟩).mono ?_
  · rintro pre x W1 hx ⟨q, rfl, hq⟩ hl
    obtain ⟨fn, tmps, assign, body, hy, hR⟩ := hY q ⟨x, hx⟩ W1 hq (by simpa using hl)
    refine ⟨fn, tmps, assign, body, hy, hR.mono ?_⟩
    rintro e W' (⟨rfl, h1, h2⟩ | ⟨rfl, h1⟩)
    · exact .inl ⟨rfl, ⟨_, by simp, h1⟩, h2⟩
    · exact .inr ⟨rfl, ⟨_, by simp, h1⟩⟩
  · rintro p W W' row ⟨q, hq, hJ⟩ hg hr
    exact ⟨q, hq, hJA q W W' row hJ hg hr⟩
  · rintro e W' ⟨hv, h⟩
    refine ⟨hv, ?_⟩
    rcases h with ⟨ys, rfl, q, hq, hJ⟩ | ⟨pre, hp, q, rfl, hJ⟩
    · exact .inl ⟨q, hq, hJ⟩
    · exact .inr ⟨q, hp, hJ⟩
end Go.Proofs.Ytimencianaclmaa

/- A chip held in arrays: what is written into the middle of its row. No program is named here. -/
namespace Go.Proofs.Ytimencianaclmaa
open Go.RowKit
set_option linter.unusedVariables false
set_option linter.unusedSimpArgs false

def CC.setWear (m : CC) (b : Nat) (x : Int) : CC := ⟨m.count, fun j => if j = b then x else m.wear j, m.page⟩
def CC.setPages (m : CC) (b : Nat) (f : Nat → Pg) : CC := ⟨m.count, m.wear, fun j => if j = b then f else m.page j⟩

theorem ccA_setWear (m : CC) (b : Nat) (x : Int) (hb : b < 12) : (ccA m).setIfInBounds (1 + b * 17) (.int .i64 x) = ccA (m.setWear b x) := by
  apply Array.ext_getElem?
  intro i
  by_cases hi : i < 205
  · by_cases e : 1 + b * 17 = i
    · subst e
      rw [Array.getElem?_setIfInBounds_self_of_lt (by rw [ccA_size]; exact hi), ccA_wear _ hb]
      simp [CC.setWear]
    · rw [Array.getElem?_setIfInBounds_ne e, ccA_get _ hi, ccA_get _ hi]
      unfold ccF CC.setWear
      by_cases h0 : i = 0
      · simp [h0]
      · simp only [if_neg h0]
        by_cases h1 : (i - 1) % 17 = 0
        · simp only [if_pos h1]
          rw [if_neg (by omega)]
        · simp only [if_neg h1]
  · rw [Array.getElem?_eq_none (by simp [ccA_size]; omega), Array.getElem?_eq_none (by simp [ccA_size]; omega)]

theorem ccA_setPages (m : CC) (b : Nat) (f : Nat → Pg) (hb : b < 12) :
    ((ccA m).toList.take (1 + b * 17 + 1) ++ (paA f).toList ++ (ccA m).toList.drop (1 + b * 17 + 1 + 16)).toArray = ccA (m.setPages b f) := by
  have hl : (ccA m).toList.length = 205 := by rw [Array.length_toList, ccA_size]
  have hp : (paA f).toList.length = 16 := by rw [Array.length_toList, paA_size]
  have ht : ((ccA m).toList.take (1 + b * 17 + 1)).length = 1 + b * 17 + 1 := by rw [List.length_take, hl]; omega
  apply Array.ext_getElem?
  intro i
  rw [List.getElem?_toArray]
  have hF : ∀ i, i < 205 → ¬ (1 + b * 17 + 1 ≤ i ∧ i < 1 + b * 17 + 1 + 16) → ccF (m.setPages b f) i = ccF m i := by
    intro i hi hn
    unfold ccF CC.setPages
    by_cases h0 : i = 0
    · simp [h0]
    · simp only [if_neg h0]
      by_cases h1 : (i - 1) % 17 = 0
      · simp only [if_pos h1]
      · simp only [if_neg h1]
        rw [if_neg (by omega)]
  by_cases hi : i < 205
  · rw [ccA_get _ hi]
    by_cases h1 : i < 1 + b * 17 + 1
    · rw [List.getElem?_append_left (by rw [List.length_append, ht, hp]; omega), List.getElem?_append_left (by rw [ht]; exact h1), List.getElem?_take_of_lt h1, Array.getElem?_toList, ccA_get _ hi, hF i hi (by omega)]
    · by_cases h2 : i < 1 + b * 17 + 1 + 16
      · rw [List.getElem?_append_left (by rw [List.length_append, ht, hp]; omega), List.getElem?_append_right (by rw [ht]; omega), ht, Array.getElem?_toList, paA_get f (by omega)]
        have := ccA_pages (m.setPages b f) (b := b) (i := i - (1 + b * 17 + 1)) hb (by omega)
        rw [show 1 + b * 17 + 1 + (i - (1 + b * 17 + 1)) = i by omega, ccA_get _ hi, paA_get _ (by omega)] at this
        rw [this]
        simp [CC.setPages]
      · rw [List.getElem?_append_right (by rw [List.length_append, ht, hp]; omega), List.length_append, ht, hp, List.getElem?_drop, show 1 + b * 17 + 1 + 16 + (i - (1 + b * 17 + 1 + 16)) = i by omega, Array.getElem?_toList, ccA_get _ hi, hF i hi (by omega)]
  · rw [List.getElem?_eq_none (by simp only [List.length_append, ht, hp, List.length_drop, hl]; omega), Array.getElem?_eq_none (by simp [ccA_size]; omega)]

theorem paA_one (f : Nat → Pg) : ∀ v ∈ (paA f).toList, v.oneCell' = true := by
  intro v hv
  have hv' : v ∈ paA f := by simpa using hv
  obtain ⟨i, hi, rfl⟩ := Array.mem_iff_getElem.1 hv'
  simp only [paA, Array.getElem_ofFn]
  exact pgV_one _ _

def pagesF (ps : List Pg) (k : Nat) : Pg := ps[k]?.getD zeroPg

theorem PagesAt.cells {W : World} {a : Option Addr} {ps : List Pg} (h : PagesAt W a ps) (hps : ps.length = 4) : ∃ g o, a = some ⟨g, o, none⟩ ∧ ∀ j, j < 16 → W.cell? ⟨g, o + j, none⟩ = (paA (pagesF ps))[j]? := by
  obtain ⟨p0, hp0⟩ := getElem?_ex (l := ps) (k := 0) (by omega)
  obtain ⟨g, o, ha, _⟩ := h 0 p0 hp0
  refine ⟨g, o, ha, fun j hj => ?_⟩
  obtain ⟨p, hp⟩ := getElem?_ex (l := ps) (k := j / 4) (by omega)
  obtain ⟨g', o', ha', h0, h1, h2, h3⟩ := h (j / 4) p hp
  rw [ha] at ha'
  cases ha'
  rw [paA_get _ hj]
  have e : pagesF ps (j / 4) = p := by simp [pagesF, hp]
  rw [e]
  have h4 : j % 4 = 0 ∨ j % 4 = 1 ∨ j % 4 = 2 ∨ j % 4 = 3 := by omega
  rcases h4 with q | q | q | q
  · rw [q, show o + j = o + j / 4 * 4 by omega]; exact h0
  · rw [q, show o + j = o + j / 4 * 4 + 1 by omega]; exact h1
  · rw [q, show o + j = o + j / 4 * 4 + 2 by omega]; exact h2
  · rw [q, show o + j = o + j / 4 * 4 + 3 by omega]; exact h3

/-- copy of four pages into the middle of the row of a chip that is held in arrays. -/
theorem copy_mid (P : Program) (W : World) (dT sT ty elem : TypeId) (g : Nat) (t : TypeId) (m : CC) (b : Nat) (hb : b < 12) (a : Option Addr) (c : Nat) (ps : List Pg) (hps : ps.length = 4) (hpa : PagesAt W a ps)
    (hu : P.underlying dT = some (.slice elem)) (hs : (P.info? elem).map (·.size) = some 4) (hg : W.heap[g]? = some (.cells (ccA m) t (0, 0))) :
    (Builtin.copy_ #[dT, sT] ty #[.slice (some ⟨g, 1 + b * 17 + 1, none⟩) 4 4, .slice a 4 c]).run P W = .ok (goInt 4) (W.setRow g (ccA (m.setPages b (pagesF ps)))) := by
  obtain ⟨q, o, rfl, hc⟩ := hpa.cells hps
  have hl : (loadCells ⟨q, o, none⟩ 16).run P W = .ok (paA (pagesF ps)) W := by
    have := run_loadCells_list (P := P) W ⟨q, o, none⟩ (paA (pagesF ps)).toList (fun j v hv => by
      have hadd : (⟨q, o, none⟩ : Addr).add j = ⟨q, o + j, none⟩ := by unfold Addr.add; split <;> simp_all
      have hj : j < 16 := by rw [← paA_size (pagesF ps), ← Array.length_toList]; exact (List.getElem?_eq_some_iff.1 hv).1
      rw [hadd, hc j hj, ← hv, Array.getElem?_toList])
    simpa only [Array.length_toList, paA_size, Array.toArray_toList] using this
  have hst := run_storeCells_at P g (1 + b * 17 + 1) t (paA (pagesF ps)).toList 0 (ccA m) W hg (by rw [Array.length_toList, paA_size, ccA_size]; omega) (paA_one _)
  rw [Nat.add_zero, Array.length_toList, paA_size, ccA_setPages m b _ hb] at hst
  cases hq : P.info? elem with
  | none => simp [hq] at hs
  | some i =>
    have hi : i.size = 4 := by simpa [hq] using hs
    simp [Builtin.copy_, run_underlying hu, Builtin.lenOf, Builtin.firstCells, sizeOf, typeInfo, hq, hi, hl, hst]

theorem store_row (P : Program) (W : World) (g : Nat) (t : TypeId) (cur vs : Array Value) (hg : W.heap[g]? = some (.cells cur t (0, 0))) (hs : vs.size = cur.size) (h1 : ∀ v ∈ vs.toList, v.oneCell' = true) :
    (storeCells ⟨g, 0, none⟩ vs.toList).run P W = .ok () (W.setRow g vs) := by
  rw [run_storeCells_at P g 0 t vs.toList 0 cur W hg (by simp [hs]) h1]
  congr 2
  simp only [Nat.zero_add, List.take_zero, List.nil_append]
  rw [List.drop_eq_nil_of_le (by simp [hs]), List.append_nil]

theorem store_same (P : Program) (W : World) (g : Nat) (t : TypeId) (cur : Array Value) (hg : W.heap[g]? = some (.cells cur t (0, 0))) (h1 : ∀ v ∈ cur.toList, v.oneCell' = true) :
    (storeCells ⟨g, 0, none⟩ cur.toList).run P W = .ok () W := by
  rw [store_row P W g t cur cur hg rfl h1, setRow_self W g cur t _ hg]

theorem Below.setRow {B : Nat} {a w : World} (h : Below B a w) {g : Nat} (hg : B ≤ g) (cs : Array Value) : Below B a (w.setRow g cs) :=
  ⟨h.os, h.tape, h.output, by simpa using h.size, fun k hk => by rw [setRow_other _ _ _ _ (by omega)]; exact h.block k hk⟩

/-- The numbers of the used pages are those of the blocks. -/
theorem ccPs_filter (m : CC) (b : Nat) : seqsP (ccPs m b) = ((((List.range 4).filter fun j => (m.page b j).used).map fun j => (m.page b j).seq)) := by
  have e : ccPs m b = (List.range 4).map (m.page b) := rfl
  rw [e, seqsP, List.filter_map, List.map_map]
  rfl

theorem BkOk.of_four {x : Int} {ps : List Pg} : BkOk ⟨x, ps⟩ ↔ ps.length = 4 ∧ (0 ≤ x ∧ x ≤ 1000000000) ∧ (∀ k, k < 4 → pgOk (pagesF ps k) = true) ∧ (∀ k, k + 1 < 4 → (pagesF ps (k + 1)).used = true → (pagesF ps k).used = true) := by
  constructor
  · intro h
    have h4 : ps.length = 4 := h.four
    refine ⟨h4, h.wear, fun k hk => ?_, fun k hk hu => ?_⟩
    · obtain ⟨p, hp⟩ := getElem?_ex (l := ps) (k := k) (by simpa [h4] using hk)
      simp only [pagesF, hp, Option.getD_some]
      exact h.page k p hp
    · obtain ⟨p, hp⟩ := getElem?_ex (l := ps) (k := k) (by omega)
      obtain ⟨q, hq⟩ := getElem?_ex (l := ps) (k := k + 1) (by omega)
      simp only [pagesF, hp, hq, Option.getD_some] at hu ⊢
      exact h.order k q p hp hq hu
  · rintro ⟨h4, hw, h1, h2⟩
    refine ⟨hw, h4, fun k p hp => ?_, fun k p q hq hp hu => ?_⟩
    · have hk : k < ps.length := (List.getElem?_eq_some_iff.1 hp).1
      have := h1 k (by omega)
      simpa [pagesF, hp] using this
    · have hk : k + 1 < ps.length := (List.getElem?_eq_some_iff.1 hp).1
      have := h2 k (by omega)
      simp only [pagesF, hp, hq, Option.getD_some] at this
      exact this hu

theorem results_cell_slot {P : Program} {fn : Func} (r ty s : Nat) (hr : fn.results = #[.cell r ty, .tmp s]) (tm : Array Value) (W : World) (g : Addr) (A : Array Value) (v : Value)
    (h1 : tm.getD r undef = .pointer (some g)) (h2 : (loadVar ty g).run P W = .ok (.agg A) W) (h3 : tm.getD s undef = v) : (results fn tm).run P W = .ok (.tuple #[.agg A, v]) W := by
  unfold results
  rw [hr]
  have h1' : tm[r]?.getD undef = .pointer (some g) := by simpa using h1
  have h3' : tm[s]?.getD undef = v := by simpa using h3
  simp [h2, Sem.run_bind, h1', h3', asAddr]

theorem pagesF_list {ps : List Pg} (h : ps.length = 4) : [pagesF ps 0, pagesF ps 1, pagesF ps 2, pagesF ps 3] = ps := by
  match ps, h with
  | [a, b, c, d], _ => rfl
end Go.Proofs.Ytimencianaclmaa

/- The newest page of each log, as plain lists say it. No program is named here. -/
namespace Go.Proofs.Ytimencianaclmaa
open Go.RowKit
set_option linter.unusedVariables false
set_option linter.unusedSimpArgs false

def newer (cur : Option (Int × Pg)) (s : Int) : Bool := match cur with | none => true | some y => decide (y.2.seq < s)
def pick (log : Int) (cur : Option (Int × Pg)) (x : Int × Pg) : Option (Int × Pg) := if x.2.log = log ∧ newer cur x.2.seq = true then some x else cur
/-- The newest page of a log, and its place. -/
def newestAt (xs : List (Int × Pg)) (log : Int) : Option (Int × Pg) := xs.foldl (pick log) none
theorem newestAt_snoc (xs : List (Int × Pg)) (x : Int × Pg) (log : Int) : newestAt (xs ++ [x]) log = pick log (newestAt xs log) x := by simp [newestAt]
theorem newestAt_mem {xs : List (Int × Pg)} {log : Int} {y : Int × Pg} (h : newestAt xs log = some y) : y ∈ xs ∧ y.2.log = log := by
  suffices H : ∀ n (xs : List (Int × Pg)), xs.length = n → ∀ y, newestAt xs log = some y → y ∈ xs ∧ y.2.log = log from H _ xs rfl y h
  intro n
  induction n with
  | zero =>
    intro xs hl y hy
    cases xs with
    | nil => simp [newestAt] at hy
    | cons a t => simp at hl
  | succ n ih =>
    intro xs hl y hy
    obtain ⟨ys, x, rfl⟩ : ∃ ys x, xs = ys ++ [x] := ⟨xs.dropLast, xs.getLast (by intro e; subst e; cases hl), (List.dropLast_concat_getLast _).symm⟩
    rw [newestAt_snoc] at hy
    unfold pick at hy
    split at hy
    · rename_i hc
      cases hy
      exact ⟨by simp, hc.1⟩
    · obtain ⟨h1, h2⟩ := ih ys (by simpa using hl) y hy
      exact ⟨by simp [h1], h2⟩

def placeIn : Option (Int × Pg) → Int
  | none => -1
  | some y => y.1
def placesOf (xs : List (Int × Pg)) (room : Nat) : List Int := (List.range room).map fun (i : Nat) => placeIn (newestAt xs (i : Int))
theorem placesOf_length (xs : List (Int × Pg)) (room : Nat) : (placesOf xs room).length = room := by simp [placesOf]
theorem placesOf_at (xs : List (Int × Pg)) (room : Nat) {i : Nat} (hi : i < room) : (placesOf xs room)[i]? = some (placeIn (newestAt xs (i : Int))) := by simp [placesOf, hi]
theorem placesOf_nil (room : Nat) : placesOf [] room = List.replicate room (-1) := by
  refine List.ext_getElem? (fun i => ?_)
  by_cases hi : i < room
  · rw [placesOf_at _ _ hi]; simp [hi, newestAt, placeIn]
  · rw [List.getElem?_eq_none (by rw [placesOf_length]; omega), List.getElem?_eq_none (by simp; omega)]
theorem placesOf_snoc (xs : List (Int × Pg)) (x : Int × Pg) (room l : Nat) (hx : x.2.log = (l : Int)) :
    placesOf (xs ++ [x]) room = if newer (newestAt xs (l : Int)) x.2.seq = true then (placesOf xs room).set l x.1 else placesOf xs room := by
  refine List.ext_getElem? (fun i => ?_)
  by_cases hi : i < room
  · rw [placesOf_at _ _ hi, newestAt_snoc]
    by_cases e : i = l
    · subst e
      unfold pick
      by_cases hn : newer (newestAt xs (i : Int)) x.2.seq = true
      · rw [if_pos ⟨hx, hn⟩, if_pos hn, List.getElem?_set_self (by rw [placesOf_length]; exact hi)]
        rfl
      · rw [if_neg (fun h => hn h.2), if_neg hn, placesOf_at _ _ hi]
    · have hne : ¬ x.2.log = (i : Int) := by rw [hx]; omega
      unfold pick
      rw [if_neg (fun h => hne h.1)]
      split
      · rw [List.getElem?_set_ne (fun h => e h.symm), placesOf_at _ _ hi]
      · rw [placesOf_at _ _ hi]
  · rw [List.getElem?_eq_none (by rw [placesOf_length]; omega)]
    split
    · rw [List.getElem?_eq_none (by rw [List.length_set, placesOf_length]; omega)]
    · rw [List.getElem?_eq_none (by rw [placesOf_length]; omega)]

theorem mem_usedB {m : CC} {b k : Nat} {x : Int × Pg} (h : x ∈ usedB m b k) : ∃ j, j < k ∧ x = ((b : Int) * 4 + (j : Int), m.page b j) ∧ (m.page b j).used = true := by
  unfold usedB at h
  simp at h
  obtain ⟨j, ⟨hj, hu⟩, rfl⟩ := h
  exact ⟨j, hj, rfl, hu⟩
theorem mem_usedAll {m : CC} {n : Nat} {x : Int × Pg} (h : x ∈ usedAll m n) : ∃ (b k : Nat), b < n ∧ k < 4 ∧ x = ((b : Int) * 4 + (k : Int), m.page b k) ∧ (m.page b k).used = true := by
  unfold usedAll at h
  simp only [List.mem_flatMap, List.mem_range] at h
  obtain ⟨b, hb, hx⟩ := h
  obtain ⟨k, hk, e, hu⟩ := mem_usedB hx
  exact ⟨b, k, hb, hk, e, hu⟩

/-- The chip's pages by their numbers. -/
def mOf (bs : List Bk) : CC := ⟨bs.length, fun b => (bs[b]?.map (·.wear)).getD 0, fun b k => pagesF ((bs[b]?.map (·.pages)).getD []) k⟩
theorem mOf_page {bs : List Bk} {b : Nat} {x : Bk} (hb : bs[b]? = some x) {k : Nat} {p : Pg} (hp : x.pages[k]? = some p) : (mOf bs).page b k = p := by
  simp [mOf, hb, pagesF, hp]
theorem usedB_congr {m m' : CC} {b : Nat} (h : ∀ k, k < 4 → m.page b k = m'.page b k) {k : Nat} (hk : k ≤ 4) : usedB m b k = usedB m' b k := by
  induction k with
  | zero => rfl
  | succ k ih => rw [usedB_succ, usedB_succ, ih (by omega), h k (by omega)]
theorem usedAll_congr {m m' : CC} {n : Nat} (h : ∀ b k, b < n → k < 4 → m.page b k = m'.page b k) : usedAll m n = usedAll m' n := by
  induction n with
  | zero => rfl
  | succ n ih => rw [usedAll_succ, usedAll_succ, ih (fun b k hb hk => h b k (by omega) hk), usedB_congr (fun k hk => h n k (by omega) hk) (Nat.le_refl _)]

/-- The used pages of a chip with their places. -/
def usedOf (bs : List Bk) : List (Int × Pg) := usedAll (mOf bs) bs.length
theorem usedOf_cc {m : CC} {bs : List Bk} (h : ccBs m bs.length = bs) : usedAll m bs.length = usedOf bs := by
  refine usedAll_congr (fun b k hb hk => ?_)
  have e := ccBs_at m hb
  rw [h] at e
  exact (mOf_page e (ccPs_at m b hk)).symm

/-- How many logs have room. -/
def roomOf (bs : List Bk) : Nat := 4 * (bs.length - 3)
def Fits (bs : List Bk) : Prop := ∀ x ∈ usedOf bs, x.2.log < (roomOf bs : Int)
/-- What the map of a right chip is: its newest pages, or none. -/
def MapIs (bs : List Bk) (r : Bool) (L : List Int) : Prop := (r = true ↔ Fits bs) ∧ L = if r then placesOf (usedOf bs) (roomOf bs) else []
theorem MapIs.one {bs : List Bk} {r s : Bool} {L M : List Int} (h : MapIs bs r L) (k : MapIs bs s M) : r = s ∧ L = M := by
  have e : r = s := by
    have := h.1.trans k.1.symm
    cases r <;> cases s <;> simp_all
  subst e
  exact ⟨rfl, h.2.trans k.2.symm⟩
theorem MapIs.length {bs : List Bk} {r : Bool} {L : List Int} (h : MapIs bs r L) (hc : bs.length ≤ 12) : L.length ≤ 36 := by
  rw [h.2]
  split
  · rw [placesOf_length]; unfold roomOf; omega
  · simp

/-- What is known of a used page of a right chip. -/
theorem ChipOk.usedRight {bs : List Bk} (h : ChipOk bs) {x : Int × Pg} (hx : x ∈ usedOf bs) : 0 ≤ x.2.log ∧ x.2.log ≤ 39 ∧ 1 ≤ x.2.seq ∧ x.2.seq ≤ 1000000000 ∧ x.2.data.size = 4 ∧
    ∃ (b k : Nat) (y : Bk), bs[b]? = some y ∧ y.pages[k]? = some x.2 ∧ k < 4 ∧ x.1 = (b : Int) * 4 + (k : Int) ∧ x.2.used = true := by
  obtain ⟨b, k, hb, hk, e, hu⟩ := mem_usedAll hx
  obtain ⟨y, hy⟩ := getElem?_ex (l := bs) (k := b) hb
  have hB := h.block y (List.mem_of_getElem? hy)
  obtain ⟨p, hp⟩ := getElem?_ex (l := y.pages) (k := k) (by have := hB.four; omega)
  rw [mOf_page hy hp] at e hu
  subst e
  have hok := hB.page k p hp
  simp only [pgOk, hu, if_true, rightUsed, Bool.and_eq_true, decide_eq_true_eq, Bool.true_and] at hok
  obtain ⟨⟨⟨h1, h2⟩, h3, h4⟩, h5⟩ := hok
  exact ⟨h1, h2, h3, h4, h5, b, k, y, hy, hp, hk, rfl, hu⟩
end Go.Proofs.Ytimencianaclmaa
