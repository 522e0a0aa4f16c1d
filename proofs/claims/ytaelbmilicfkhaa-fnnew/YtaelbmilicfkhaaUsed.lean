/- The program's own walk over the pages that are used: an iterator. -/
import Derived.RangeFuncNested
import Derived.RangeFuncBound
import Derived.RangeFuncCalls
import Derived.RangeFuncLeaves
import Derived.RangeFuncBox
import Derived.Shelf.Abstract
import Derived.WalkKit
import Derived.OwnWalkIn
import Derived.TacticsInMore
import Derived.LoopNIn
import Derived.LoopIn
import Derived.Outline
import Derived.Test.YtaelbmilicfkhaaImplBk
namespace Go.Proofs.Ytaelbmilicfkhaa
open Go.RowKit Go.Shelf
set_option linter.unusedVariables false
set_option linter.unusedSimpArgs false
attribute [local go_sem] Oper.semAt_some

/-- A struct or an array is read out of the middle of a row, inside a fence. -/
theorem wpIn_load_mid {F : Fence} {n : Nat} {P : Program} {o : Oper} {a : Act} {w : World} {K : Act → World → Prop} {Q : Exit → Act → World → Prop} (ty : TypeId) (x : Operand) (ho : o.op = .load ty x)
    (g off : Nat) (hx : a.eval x = .pointer (some ⟨g, off, none⟩)) (A : Array Value) (s : Nat) (hA : A.size = s) (hc : ∀ j, j < s → w.cell? ⟨g, off + j, none⟩ = A[j]?) (d : TypeDesc)
    (hu : P.underlying ty = some d) (hd : (match d with | .struct _ | .array _ _ => true | _ => false) = true) (hi : (P.info? ty).map (·.size) = some s)
    (h : K (a.put o.dst (.agg A)) w) : o.wpIn F n P a w K Q := by
  unfold Oper.wpIn
  refine ⟨?_, ?_⟩
  · simp [Oper.about, ho]
  · rw [Oper.semAt_plain F _ _ (by rw [ho]; intro c hc'; cases hc')]
    unfold execOp
    simp only [ho, hx, Instr.loadAt, Instr.sureAddr, Sem.run_bind, Sem.run_pure, Result.andThen_ok, run_loadVar_mid w g off ty A s hA hc d hu hd hi]
    exact h
theorem wpListIn_load_mid {F : Fence} {n : Nat} {P : Program} {ops : Array Oper} {rest : List Oper} {o : Oper} {a : Act} {w : World} {Q : Exit → Act → World → Prop} (hgd : o.guard = none) (ty : TypeId) (x : Operand) (ho : o.op = .load ty x)
    (g off : Nat) (hx : a.eval x = .pointer (some ⟨g, off, none⟩)) (A : Array Value) (s : Nat) (hA : A.size = s) (hc : ∀ j, j < s → w.cell? ⟨g, off + j, none⟩ = A[j]?) (d : TypeDesc)
    (hu : P.underlying ty = some d) (hd : (match d with | .struct _ | .array _ _ => true | _ => false) = true) (hi : (P.info? ty).map (·.size) = some s)
    (h : wpListIn F n P ops Q rest (a.put o.dst (.agg A)) w) : wpListIn F n P ops Q (o :: rest) a w :=
  wpListIn_plain hgd fun _ hK => wpIn_load_mid ty x ho g off hx A s hA hc d hu hd hi (hK _ _ h)

/-- The used pages among the first k of block b; of all blocks ahead of b. -/
def usedB (m : CC) (b k : Nat) : List (Int × Pg) := ((List.range k).filter fun j => (m.page b j).used).map fun (j : Nat) => ((b : Int) * 4 + (j : Int), m.page b j)
def usedAll (m : CC) (b : Nat) : List (Int × Pg) := (List.range b).flatMap fun i => usedB m i 4

theorem usedB_succ (m : CC) (b k : Nat) : usedB m b (k + 1) = usedB m b k ++ if (m.page b k).used then [((b : Int) * 4 + k, m.page b k)] else [] := by
  unfold usedB
  rw [List.range_succ, List.filter_append, List.map_append]
  congr 1
  by_cases h : (m.page b k).used <;> simp [h]
theorem usedAll_succ (m : CC) (b : Nat) : usedAll m (b + 1) = usedAll m b ++ usedB m b 4 := by
  unfold usedAll
  rw [List.range_succ, List.flatMap_append]
  simp
theorem usedB_length (m : CC) (b k : Nat) : (usedB m b k).length ≤ k := by
  have := List.length_filter_le (fun j => (m.page b j).used) (List.range k)
  simpa [usedB] using this
theorem usedAll_length (m : CC) (b : Nat) : (usedAll m b).length ≤ 4 * b := by
  induction b with
  | zero => simp [usedAll]
  | succ b ih => rw [usedAll_succ, List.length_append]; have := usedB_length m b 4; omega
theorem usedAll_le (m : CC) {b n : Nat} (h : b ≤ n) : usedAll m b <+: usedAll m n := by
  induction n with
  | zero => obtain rfl : b = 0 := by omega
            exact List.prefix_refl _
  | succ n ih =>
    by_cases e : b = n + 1
    · subst e; exact List.prefix_refl _
    · rw [usedAll_succ]; exact List.IsPrefix.trans (ih (by omega)) (List.prefix_append _ _)
theorem usedB_le (m : CC) (b : Nat) {k n : Nat} (h : k ≤ n) : usedB m b k <+: usedB m b n := by
  induction n with
  | zero => obtain rfl : k = 0 := by omega
            exact List.prefix_refl _
  | succ n ih =>
    by_cases e : k = n + 1
    · subst e; exact List.prefix_refl _
    · rw [usedB_succ]; exact List.IsPrefix.trans (ih (by omega)) (List.prefix_append _ _)
theorem used_le (m : CC) {b k n : Nat} (hb : b < n) (hk : k ≤ 4) : usedAll m b ++ usedB m b k <+: usedAll m n := by
  refine List.IsPrefix.trans ?_ (usedAll_le m (b := b + 1) hb)
  rw [usedAll_succ]
  exact List.prefix_append_right_inj _ |>.2 (usedB_le m b hk)

/-- The row Bx is as it was. -/
def KeepB (Bx : Nat) (W W' : World) : Prop := W.heap.size ≤ W'.heap.size ∧ W'.heap[Bx]? = W.heap[Bx]?
theorem KeepB.refl (Bx : Nat) (W : World) : KeepB Bx W W := ⟨Nat.le_refl _, rfl⟩
theorem KeepB.trans {Bx : Nat} {A B C : World} (h : KeepB Bx A B) (k : KeepB Bx B C) : KeepB Bx A C := ⟨Nat.le_trans h.1 k.1, k.2.trans h.2⟩
theorem KeepB.cell {Bx : Nat} {A B : World} (h : KeepB Bx A B) (i : Nat) : B.cell? ⟨Bx, i, none⟩ = A.cell? ⟨Bx, i, none⟩ := World.cell?_of_block (w := A) h.2
theorem KeepB.alloc {Bx : Nat} (W : World) (o : Obj) (h : Bx < W.heap.size) : KeepB Bx W (W.alloc o) := ⟨by simp, Below.heap_alloc _ _ _ h⟩
theorem KeepB.setCell {Bx : Nat} (W : World) (a : Addr) (v : Value) (h : Bx ≠ a.block) : KeepB Bx W (W.setCell a v) := ⟨by simp [World.setCell], Below.heap_setCell _ _ _ _ h⟩
theorem KeepB.drew {Bx : Nat} (W : World) : KeepB Bx W W.drew := ⟨Nat.le_refl _, rfl⟩
theorem KeepB.of_below {Bx B : Nat} {A C : World} (h : Below B A C) (hB : Bx < B) : KeepB Bx A C := ⟨h.size, h.block Bx hB⟩
theorem keepB_b {Bx : Nat} {w : World} (hn : Bx < w.heap.size) (W : World) (l : Nat) (o o' : Obj) (hl : w.heap.size ≤ l) (_ : W.heap[l]? = some o) (_ : o.isCells = false) (_ : o.isWalk = false) : KeepB Bx W (W.putObj l o') :=
  ⟨by simp, World.putObj_heap_other (by omega)⟩

def encU (x : Int × Pg) : Array Value := #[.int .i64 x.1, .agg #[.bool x.2.used, .int .i64 x.2.log, .int .i64 x.2.seq, .string x.2.data]]

set_option maxRecDepth 100000 in
set_option maxHeartbeats 4000000 in
theorem used1_in (F : Fence) (n : Nat) (h122 : F.fn 88) (hro : F.round = none) (hn : 1 ≤ n) (l Bx c : Nat) (m : CC) (hm : m.count = c) (hc : c ≤ 12) (J Jx : List (Int × Pg) → World → Prop)
    (hY : ∀ pre x W, J pre W → pre.length < 48 → YieldAt F (n - 1) Try.prog l (encU x) W fun e W' =>
      (e = .returned (.bool true) ∧ J (pre ++ [x]) W' ∧ KeepB Bx W W') ∨ (e = .returned (.bool false) ∧ Jx (pre ++ [x]) W'))
    (W : World) (hn0 : Bx < W.heap.size) (hJA : AbidesFrom W.heap.size J) (hbox : ∀ i, W.cell? ⟨Bx, i, none⟩ = (ccA m)[i]?) (h0 : J [] W) :
    CallsIn F n Try.prog 88 #[.func (.yield l) #[] #[], .pointer (some ⟨Bx, 0, none⟩)] W fun e W' => (∃ v, e = .returned v) ∧
      ((∃ ys, ys = usedAll m c ∧ J ys W') ∨ (∃ pre, pre <+: usedAll m c ∧ Jx pre W')) := by
  have hc0 := ccA_count m
  rw [hm] at hc0
  have HY := hide hY
  have HJAB := hide hJA
  clear hY hJA
  refine callsIn_of_wp Try.func88 rfl h122 ?_ hro
  simp only [Try.ntmps88, List.size_toArray, List.length_cons, List.length_nil, Nat.reduceAdd, Nat.reduceSub, Array.replicate_succ, Array.replicate_zero, List.push_toArray, List.append_toArray, List.nil_append, List.cons_append]
  gi_wp2
  gi_loopw [8] (fun i wr => ∃ b : Nat, b ≤ c ∧ i = .int .i64 b ∧ J (usedAll m b) wr ∧ KeepB Bx W wr) (fun i _ => c - (intOf i).toNat)
  case atStart => exact ⟨0, Nat.zero_le _, rfl, h0, KeepB.refl _ _⟩
  case round =>
    obtain ⟨b, hb, rfl, hJs, hnx⟩ := hrel
    clear hc0
    by_cases hlt : b < c
    · have hboxr : ∀ i, wr.cell? ⟨Bx, i, none⟩ = (ccA m)[i]? := fun i => (hnx.cell i).trans (hbox i)
      have hpa : ∀ j, j < 16 → wr.cell? ⟨Bx, 1 + b * 17 + 1 + j, none⟩ = (paA (m.page b))[j]? := fun j hj => by rw [hboxr]; exact ccA_pages m (by omega) hj
      have HPA := hide hpa
      have HBR := hide hboxr
      clear hpa hboxr hbox
      gi_wp2_with (refine wpListIn_load_mid rfl 69 _ rfl Bx (1 + b * 17 + 1) rfl (paA (m.page b)) 16 (paA_size _) (unhide HPA) _ Try.underlying69 rfl sizePages ?_)
      clear HPA HBR
      gi_loopw [16] (fun i wr => ∃ k : Nat, k ≤ 4 ∧ i = .int .i64 k ∧ J (usedAll m b ++ usedB m b k) wr ∧ KeepB Bx W wr) (fun i _ => 4 - (intOf i).toNat)
      case atStart => exact ⟨0, by omega, rfl, by simpa [usedB] using hJs, hnx⟩
      case round =>
        obtain ⟨k, hk, rfl, hJk, hnk⟩ := hrel
        have hbl : Bx < wr.heap.size := Nat.lt_of_lt_of_le hn0 hnk.1
        have hszk := hnk.1
        have HNK := hide hnk
        clear hnk
        by_cases hlt2 : k < 4
        · have hk4 : (k : Int) < 4 := by omega
          have hidx := fun W => run_index_pages (P := Try.prog) W 69 68 (m.page b) k hlt2 Try.underlying69 _ Try.underlying68 rfl sizePage
          obtain ⟨p, hp⟩ : ∃ p, m.page b k = p := ⟨_, rfl⟩
          have hsu := usedB_succ m b k
          rw [hp] at hidx hsu
          obtain ⟨u, lg, s, d⟩ := p
          simp only at hidx
          have hlen : (usedAll m b ++ usedB m b k).length < 48 := by
            rw [List.length_append]
            have h1 := usedAll_length m b
            have h2 := usedB_length m b k
            omega
          have HSU := hide hsu
          clear hsu hp hm
          have hpre := used_le m (b := b) (k := k + 1) (n := c) hlt (by omega)
          have HPRE := hide hpre
          clear hpre
          have hJa : ∀ o, J (usedAll m b ++ usedB m b k) (wr.alloc o) := fun o => unhide HJAB _ _ _ none hJk (World.grownBy_alloc wr o none) (fun r e => by cases e)
          have HJA := hide hJa
          clear hJa
          cases u with
          | false =>
            clear hJk hJs hnx h0 hlen hszk
            gi_wp2
            refine ⟨fun _ h => (by cases h), ?_⟩
            gi_wp2
            go_roundw
            case rel =>
              refine ⟨k + 1, by omega, by go_num, ?_, (unhide HNK).trans (KeepB.alloc _ _ hbl)⟩
              rw [unhide HSU]
              simp only [Bool.false_eq_true, if_false, List.append_nil]
              exact unhide HJA _
            case measure => simp [intOf]; omega
          | true =>
            obtain ⟨fn, tmps, assign, body, hy, hR⟩ := unhide HY (usedAll m b ++ usedB m b k) ((b : Int) * 4 + (k : Int), ⟨true, lg, s, d⟩) (wr.alloc (.cells #[.bool true, .int .i64 lg, .int .i64 s, .string d] 68)) (unhide HJA _) hlen
            dsimp only [encU] at hy
            have HR := hide hR
            clear hR
            gi_wp2
            refine (unhide HR).mono ?_
            rintro e W3 (⟨rfl, hJ3, hk3⟩ | ⟨rfl, hJx3⟩)
            · have HK3 := hide hk3
              clear hk3
              gi_wp2
              go_roundw
              case rel =>
                refine ⟨k + 1, by omega, by go_num, ?_, ((unhide HNK).trans (KeepB.alloc _ _ hbl)).trans (unhide HK3)⟩
                rw [unhide HSU, ← List.append_assoc]
                exact hJ3
              case measure => simp [intOf]; omega
            · gi_wp2
              refine bodyPost_ret (results_none rfl _ _ _) rfl ?_
              refine ⟨⟨_, rfl⟩, .inr ⟨_, ?_, hJx3⟩⟩
              have := unhide HPRE
              rw [unhide HSU, ← List.append_assoc] at this
              exact this
        · obtain rfl : k = 4 := by omega
          gi_wp2
          go_roundw
          case rel => exact ⟨b + 1, by omega, by go_num, by rw [usedAll_succ]; exact hJk, unhide HNK⟩
          case measure => simp [intOf]; omega
    · obtain rfl : b = c := by omega
      gi_wp2
      go_end0
      exact ⟨⟨_, rfl⟩, .inl ⟨_, rfl, hJs⟩⟩
set_option maxHeartbeats 1000000 in
theorem usedPages_in (F : Fence) (n : Nat) (h109 : F.fn 82) (hro : F.round = none) (m : CC) (w : World) :
    CallsIn F n Try.prog 82 #[.agg (ccA m)] w fun e w' => e = .returned (.func (.func 88) #[] #[.pointer (some ⟨w.heap.size, 0, none⟩)]) ∧ w' = w.alloc (.cells (ccA m) 74) := by
  refine callsIn_of_wp Try.func82 rfl h109 ?_ hro
  simp only [Try.ntmps82, List.size_toArray, List.length_cons, List.length_nil, Nat.reduceAdd, Nat.reduceSub, Array.replicate_succ, Array.replicate_zero, List.push_toArray, List.append_toArray, List.nil_append, List.cons_append]
  gi_wp2
  go_ret
  exact ⟨rfl, rfl⟩

theorem used_stops (F : Fence) (n : Nat) (h122 : F.fn 88) (hro : F.round = none) (hn : 1 ≤ n) (Bx c : Nat) (m : CC) (hm : m.count = c) (hc : c ≤ 12) (w : World) (hBx : Bx < w.heap.size) (hbox : ∀ i, w.cell? ⟨Bx, i, none⟩ = (ccA m)[i]?) :
    SeqStopsK F n Try.prog 88 #[.pointer (some ⟨Bx, 0, none⟩)] encU (KeepB Bx) (fun ys => ys = usedAll m c) (fun pre => pre <+: usedAll m c) 48 w := fun l J Jx W hW hJA _ hY h0 =>
  used1_in F n h122 hro hn l Bx c m hm hc J Jx hY W (Nat.lt_of_lt_of_le hBx hW.size) hJA (fun i => (hW.cell (p := ⟨Bx, i, none⟩) hBx).trans (hbox i)) h0
end Go.Proofs.Ytaelbmilicfkhaa
