/- 11 texts in one. -/
import Derived.RangeFuncNested
import Derived.RangeFuncBound
import Derived.RangeFuncCalls
import Derived.RangeFuncLeaves
import Derived.RangeFuncBox
import Derived.Shelf.Abstract
import Derived.WalkKit
import Derived.OwnWalkIn
import Derived.TacticsInMore
import Derived.LoopNIn
import Derived.LoopIn
import Derived.Outline
import Derived.Test.YtjgcjeaplckbbaaGreatDoorG01
import Derived.Test.YtjgcjeaplckbbaaGreatDoorChecked
import Derived.Maps.OwnIn
import Derived.Maps.Views
import Derived.Shelf.RegionOpen
import Derived.Laws.OwnMore
import Derived.Deep.AppendLies

/- The program's own walk over the pages that are used: an iterator. -/
namespace Go.Proofs.YtjgcjeaplckbbaaGreatDoor
open Go.RowKit Go.Shelf
set_option linter.unusedVariables false
set_option linter.unusedSimpArgs false
attribute [local go_sem] Oper.semAt_some

/-- A struct or an array is read out of the middle of a row, inside a fence. -/
theorem wpIn_load_mid {F : Fence} {n : Nat} {P : Program} {o : Oper} {a : Act} {w : World} {K : Act → World → Prop} {Q : Exit → Act → World → Prop} (ty : TypeId) (x : Operand) (ho : o.op = .load ty x)
    (g off : Nat) (hx : a.eval x = .pointer (some ⟨g, off, none⟩)) (A : Array Value) (s : Nat) (hA : A.size = s) (hc : ∀ j, j < s → w.cell? ⟨g, off + j, none⟩ = A[j]?) (d : TypeDesc)
    (hu : P.underlying ty = some d) (hd : (match d with | .struct _ | .array _ _ => true | _ => false) = true) (hi : (P.info? ty).map (·.size) = some s)
    (h : K (a.put o.dst (.agg A)) w) : o.wpIn F n P a w K Q := by
  unfold Oper.wpIn
  refine ⟨?_, ?_⟩
  · simp [Oper.about, ho]
  · rw [Oper.semAt_plain F _ _ (by rw [ho]; intro c hc'; cases hc')]
    unfold execOp
    simp only [ho, hx, Instr.loadAt, Instr.sureAddr, Sem.run_bind, Sem.run_pure, Result.andThen_ok, run_loadVar_mid w g off ty A s hA hc d hu hd hi]
    exact h
theorem wpListIn_load_mid {F : Fence} {n : Nat} {P : Program} {ops : Array Oper} {rest : List Oper} {o : Oper} {a : Act} {w : World} {Q : Exit → Act → World → Prop} (hgd : o.guard = none) (ty : TypeId) (x : Operand) (ho : o.op = .load ty x)
    (g off : Nat) (hx : a.eval x = .pointer (some ⟨g, off, none⟩)) (A : Array Value) (s : Nat) (hA : A.size = s) (hc : ∀ j, j < s → w.cell? ⟨g, off + j, none⟩ = A[j]?) (d : TypeDesc)
    (hu : P.underlying ty = some d) (hd : (match d with | .struct _ | .array _ _ => true | _ => false) = true) (hi : (P.info? ty).map (·.size) = some s)
    (h : wpListIn F n P ops Q rest (a.put o.dst (.agg A)) w) : wpListIn F n P ops Q (o :: rest) a w :=
  wpListIn_plain hgd fun _ hK => wpIn_load_mid ty x ho g off hx A s hA hc d hu hd hi (hK _ _ h)

/-- The used pages among the first k of block b; of all blocks ahead of b. -/
def usedB (m : CC) (b k : Nat) : List (Int × Pg) := ((List.range k).filter fun j => (m.page b j).used).map fun (j : Nat) => ((b : Int) * 4 + (j : Int), m.page b j)
def usedAll (m : CC) (b : Nat) : List (Int × Pg) := (List.range b).flatMap fun i => usedB m i 4

theorem usedB_succ (m : CC) (b k : Nat) : usedB m b (k + 1) = usedB m b k ++ if (m.page b k).used then [((b : Int) * 4 + k, m.page b k)] else [] := by
  unfold usedB
  rw [List.range_succ, List.filter_append, List.map_append]
  congr 1
  by_cases h : (m.page b k).used <;> simp [h]
theorem usedAll_succ (m : CC) (b : Nat) : usedAll m (b + 1) = usedAll m b ++ usedB m b 4 := by
  unfold usedAll
  rw [List.range_succ, List.flatMap_append]
  simp
theorem usedB_length (m : CC) (b k : Nat) : (usedB m b k).length ≤ k := by
  have := List.length_filter_le (fun j => (m.page b j).used) (List.range k)
  simpa [usedB] using this
theorem usedAll_length (m : CC) (b : Nat) : (usedAll m b).length ≤ 4 * b := by
  induction b with
  | zero => simp [usedAll]
  | succ b ih => rw [usedAll_succ, List.length_append]; have := usedB_length m b 4; omega
theorem usedAll_le (m : CC) {b n : Nat} (h : b ≤ n) : usedAll m b <+: usedAll m n := by
  induction n with
  | zero => obtain rfl : b = 0 := by omega
            exact List.prefix_refl _
  | succ n ih =>
    by_cases e : b = n + 1
    · subst e; exact List.prefix_refl _
    · rw [usedAll_succ]; exact List.IsPrefix.trans (ih (by omega)) (List.prefix_append _ _)
theorem usedB_le (m : CC) (b : Nat) {k n : Nat} (h : k ≤ n) : usedB m b k <+: usedB m b n := by
  induction n with
  | zero => obtain rfl : k = 0 := by omega
            exact List.prefix_refl _
  | succ n ih =>
    by_cases e : k = n + 1
    · subst e; exact List.prefix_refl _
    · rw [usedB_succ]; exact List.IsPrefix.trans (ih (by omega)) (List.prefix_append _ _)
theorem used_le (m : CC) {b k n : Nat} (hb : b < n) (hk : k ≤ 4) : usedAll m b ++ usedB m b k <+: usedAll m n := by
  refine List.IsPrefix.trans ?_ (usedAll_le m (b := b + 1) hb)
  rw [usedAll_succ]
  exact List.prefix_append_right_inj _ |>.2 (usedB_le m b hk)

/-- The row Bx is as it was. -/
def KeepB (Bx : Nat) (W W' : World) : Prop := W.heap.size ≤ W'.heap.size ∧ W'.heap[Bx]? = W.heap[Bx]?
theorem KeepB.refl (Bx : Nat) (W : World) : KeepB Bx W W := ⟨Nat.le_refl _, rfl⟩
theorem KeepB.trans {Bx : Nat} {A B C : World} (h : KeepB Bx A B) (k : KeepB Bx B C) : KeepB Bx A C := ⟨Nat.le_trans h.1 k.1, k.2.trans h.2⟩
theorem KeepB.cell {Bx : Nat} {A B : World} (h : KeepB Bx A B) (i : Nat) : B.cell? ⟨Bx, i, none⟩ = A.cell? ⟨Bx, i, none⟩ := World.cell?_of_block (w := A) h.2
theorem KeepB.alloc {Bx : Nat} (W : World) (o : Obj) (h : Bx < W.heap.size) : KeepB Bx W (W.alloc o) := ⟨by simp, Below.heap_alloc _ _ _ h⟩
theorem KeepB.setCell {Bx : Nat} (W : World) (a : Addr) (v : Value) (h : Bx ≠ a.block) : KeepB Bx W (W.setCell a v) := ⟨by simp [World.setCell], Below.heap_setCell _ _ _ _ h⟩
theorem KeepB.drew {Bx : Nat} (W : World) : KeepB Bx W W.drew := ⟨Nat.le_refl _, rfl⟩
theorem KeepB.of_below {Bx B : Nat} {A C : World} (h : Below B A C) (hB : Bx < B) : KeepB Bx A C := ⟨h.size, h.block Bx hB⟩
theorem keepB_b {Bx : Nat} {w : World} (hn : Bx < w.heap.size) (W : World) (l : Nat) (o o' : Obj) (hl : w.heap.size ≤ l) (_ : W.heap[l]? = some o) (_ : o.isCells = false) (_ : o.isWalk = false) : KeepB Bx W (W.putObj l o') :=
  ⟨by simp, World.putObj_heap_other (by omega)⟩

def encU (x : Int × Pg) : Array Value := #[.int .i64 x.1, .agg #[.bool x.2.used, .int .i64 x.2.log, .int .i64 x.2.seq, .string x.2.data]]

set_option maxRecDepth 100000 in
set_option maxHeartbeats 4000000 in
theorem used1_in (F : Fence) (n : Nat) (h122 : F.fn 254) (hro : F.round = none) (hn : 1 ≤ n) (l Bx c : Nat) (m : CC) (hm : m.count = c) (hc : c ≤ 12) (J Jx : List (Int × Pg) → World → Prop)
    (hY : ∀ pre x W, J pre W → pre.length < 48 → YieldAt F (n - 1) Tryz.prog l (encU x) W fun e W' =>
      (e = .returned (.bool true) ∧ J (pre ++ [x]) W' ∧ KeepB Bx W W') ∨ (e = .returned (.bool false) ∧ Jx (pre ++ [x]) W'))
    (W : World) (hn0 : Bx < W.heap.size) (hJA : AbidesFrom W.heap.size J) (hbox : ∀ i, W.cell? ⟨Bx, i, none⟩ = (ccA m)[i]?) (h0 : J [] W) :
    CallsIn F n Tryz.prog 254 #[.func (.yield l) #[] #[], .pointer (some ⟨Bx, 0, none⟩)] W fun e W' => (∃ v, e = .returned v) ∧
      ((∃ ys, ys = usedAll m c ∧ J ys W') ∨ (∃ pre, pre <+: usedAll m c ∧ Jx pre W')) := by
  have hc0 := ccA_count m
  rw [hm] at hc0
  have HY := hide hY
  have HJAB := hide hJA
  clear hY hJA
  refine callsIn_of_wp Tryz.func254 rfl h122 ?_ hro
  simp only [Tryz.ntmps254, List.size_toArray, List.length_cons, List.length_nil, Nat.reduceAdd, Nat.reduceSub, Array.replicate_succ, Array.replicate_zero, List.push_toArray, List.append_toArray, List.nil_append, List.cons_append]
  gi_wp2
  gi_loopw [8] (fun i wr => ∃ b : Nat, b ≤ c ∧ i = .int .i64 b ∧ J (usedAll m b) wr ∧ KeepB Bx W wr) (fun i _ => c - (intOf i).toNat)
  case atStart => exact ⟨0, Nat.zero_le _, rfl, h0, KeepB.refl _ _⟩
  case round =>
    obtain ⟨b, hb, rfl, hJs, hnx⟩ := hrel
    clear hc0
    by_cases hlt : b < c
    · have hboxr : ∀ i, wr.cell? ⟨Bx, i, none⟩ = (ccA m)[i]? := fun i => (hnx.cell i).trans (hbox i)
      have hpa : ∀ j, j < 16 → wr.cell? ⟨Bx, 1 + b * 17 + 1 + j, none⟩ = (paA (m.page b))[j]? := fun j hj => by rw [hboxr]; exact ccA_pages m (by omega) hj
      have HPA := hide hpa
      have HBR := hide hboxr
      clear hpa hboxr hbox
      gi_wp2_with (refine wpListIn_load_mid rfl 123 _ rfl Bx (1 + b * 17 + 1) rfl (paA (m.page b)) 16 (paA_size _) (unhide HPA) _ Tryz.underlying123 rfl sizePages ?_)
      clear HPA HBR
      gi_loopw [16] (fun i wr => ∃ k : Nat, k ≤ 4 ∧ i = .int .i64 k ∧ J (usedAll m b ++ usedB m b k) wr ∧ KeepB Bx W wr) (fun i _ => 4 - (intOf i).toNat)
      case atStart => exact ⟨0, by omega, rfl, by simpa [usedB] using hJs, hnx⟩
      case round =>
        obtain ⟨k, hk, rfl, hJk, hnk⟩ := hrel
        have hbl : Bx < wr.heap.size := Nat.lt_of_lt_of_le hn0 hnk.1
        have hszk := hnk.1
        have HNK := hide hnk
        clear hnk
        by_cases hlt2 : k < 4
        · have hk4 : (k : Int) < 4 := by omega
          have hidx := fun W => run_index_pages (P := Tryz.prog) W 123 122 (m.page b) k hlt2 Tryz.underlying123 _ Tryz.underlying122 rfl sizePage
          obtain ⟨p, hp⟩ : ∃ p, m.page b k = p := ⟨_, rfl⟩
          have hsu := usedB_succ m b k
          rw [hp] at hidx hsu
          obtain ⟨u, lg, s, d⟩ := p
          simp only at hidx
          have hlen : (usedAll m b ++ usedB m b k).length < 48 := by
            rw [List.length_append]
            have h1 := usedAll_length m b
            have h2 := usedB_length m b k
            omega
          have HSU := hide hsu
          clear hsu hp hm
          have hpre := used_le m (b := b) (k := k + 1) (n := c) hlt (by omega)
          have HPRE := hide hpre
          clear hpre
          have hJa : ∀ o, J (usedAll m b ++ usedB m b k) (wr.alloc o) := fun o => unhide HJAB _ _ _ none hJk (World.grownBy_alloc wr o none) (fun r e => by cases e)
          have HJA := hide hJa
          clear hJa
          cases u with
          | false =>
            clear hJk hJs hnx h0 hlen hszk
            gi_wp2
            refine ⟨fun _ h => (by cases h), ?_⟩
            gi_wp2
            go_roundw
            case rel =>
              refine ⟨k + 1, by omega, by go_num, ?_, (unhide HNK).trans (KeepB.alloc _ _ hbl)⟩
              rw [unhide HSU]
              simp only [Bool.false_eq_true, if_false, List.append_nil]
              exact unhide HJA _
            case measure => simp [intOf]; omega
          | true =>
            obtain ⟨fn, tmps, assign, body, hy, hR⟩ := unhide HY (usedAll m b ++ usedB m b k) ((b : Int) * 4 + (k : Int), ⟨true, lg, s, d⟩) (wr.alloc (.cells #[.bool true, .int .i64 lg, .int .i64 s, .string d] 122)) (unhide HJA _) hlen
            dsimp only [encU] at hy
            have HR := hide hR
            clear hR
            gi_wp2
            refine (unhide HR).mono ?_
            rintro e W3 (⟨rfl, hJ3, hk3⟩ | ⟨rfl, hJx3⟩)
            · have HK3 := hide hk3
              clear hk3
              gi_wp2
              go_roundw
              case rel =>
                refine ⟨k + 1, by omega, by go_num, ?_, ((unhide HNK).trans (KeepB.alloc _ _ hbl)).trans (unhide HK3)⟩
                rw [unhide HSU, ← List.append_assoc]
                exact hJ3
              case measure => simp [intOf]; omega
            · gi_wp2
              refine bodyPost_ret (results_none rfl _ _ _) rfl ?_
              refine ⟨⟨_, rfl⟩, .inr ⟨_, ?_, hJx3⟩⟩
              have := unhide HPRE
              rw [unhide HSU, ← List.append_assoc] at this
              exact this
        · obtain rfl : k = 4 := by omega
          gi_wp2
          go_roundw
          case rel => exact ⟨b + 1, by omega, by go_num, by rw [usedAll_succ]; exact hJk, unhide HNK⟩
          case measure => simp [intOf]; omega
    · obtain rfl : b = c := by omega
      gi_wp2
      go_end0
      exact ⟨⟨_, rfl⟩, .inl ⟨_, rfl, hJs⟩⟩
set_option maxHeartbeats 1000000 in
theorem usedPages_in (F : Fence) (n : Nat) (h109 : F.fn 194) (hro : F.round = none) (m : CC) (w : World) :
    CallsIn F n Tryz.prog 194 #[.agg (ccA m)] w fun e w' => e = .returned (.func (.func 254) #[] #[.pointer (some ⟨w.heap.size, 0, none⟩)]) ∧ w' = w.alloc (.cells (ccA m) 128) := by
  refine callsIn_of_wp Tryz.func194 rfl h109 ?_ hro
  simp only [Tryz.ntmps194, List.size_toArray, List.length_cons, List.length_nil, Nat.reduceAdd, Nat.reduceSub, Array.replicate_succ, Array.replicate_zero, List.push_toArray, List.append_toArray, List.nil_append, List.cons_append]
  gi_wp2
  go_ret
  exact ⟨rfl, rfl⟩

theorem used_stops (F : Fence) (n : Nat) (h122 : F.fn 254) (hro : F.round = none) (hn : 1 ≤ n) (Bx c : Nat) (m : CC) (hm : m.count = c) (hc : c ≤ 12) (w : World) (hBx : Bx < w.heap.size) (hbox : ∀ i, w.cell? ⟨Bx, i, none⟩ = (ccA m)[i]?) :
    SeqStopsK F n Tryz.prog 254 #[.pointer (some ⟨Bx, 0, none⟩)] encU (KeepB Bx) (fun ys => ys = usedAll m c) (fun pre => pre <+: usedAll m c) 48 w := fun l J Jx W hW hJA _ hY h0 =>
  used1_in F n h122 hro hn l Bx c m hm hc J Jx hY W (Nat.lt_of_lt_of_le hBx hW.size) hJA (fun i => (hW.cell (p := ⟨Bx, i, none⟩) hBx).trans (hbox i)) h0
end Go.Proofs.YtjgcjeaplckbbaaGreatDoor

/- The walk over the used pages, for whom asks something of each of them. -/
namespace Go.Proofs.YtjgcjeaplckbbaaGreatDoor
open Go.RowKit Go.Shelf
set_option linter.unusedVariables false
set_option linter.unusedSimpArgs false
attribute [local go_sem] Oper.semAt_some

set_option maxRecDepth 100000 in
set_option maxHeartbeats 4000000 in
theorem used1R_in (Rx : Int × Pg → Prop) (F : Fence) (n : Nat) (h122 : F.fn 254) (hro : F.round = none) (hn : 1 ≤ n) (l Bx c : Nat) (m : CC) (hm : m.count = c) (hc : c ≤ 12) (J Jx : List (Int × Pg) → World → Prop)
    (hRx : ∀ b k : Nat, b < c → k < 4 → (m.page b k).used = true → Rx ((b : Int) * 4 + (k : Int), m.page b k)) (hY : ∀ pre x W, Rx x → J pre W → pre.length < 48 → YieldAt F (n - 1) Tryz.prog l (encU x) W fun e W' =>
      (e = .returned (.bool true) ∧ J (pre ++ [x]) W' ∧ KeepB Bx W W') ∨ (e = .returned (.bool false) ∧ Jx (pre ++ [x]) W'))
    (W : World) (hn0 : Bx < W.heap.size) (hJA : AbidesFrom W.heap.size J) (hbox : ∀ i, W.cell? ⟨Bx, i, none⟩ = (ccA m)[i]?) (h0 : J [] W) :
    CallsIn F n Tryz.prog 254 #[.func (.yield l) #[] #[], .pointer (some ⟨Bx, 0, none⟩)] W fun e W' => (∃ v, e = .returned v) ∧
      ((∃ ys, ys = usedAll m c ∧ J ys W') ∨ (∃ pre, pre <+: usedAll m c ∧ Jx pre W')) := by
  have hc0 := ccA_count m
  rw [hm] at hc0
  have HY := hide hY
  have HRX := hide hRx
  have HJAB := hide hJA
  clear hY hJA hRx
  refine callsIn_of_wp Tryz.func254 rfl h122 ?_ hro
  simp only [Tryz.ntmps254, List.size_toArray, List.length_cons, List.length_nil, Nat.reduceAdd, Nat.reduceSub, Array.replicate_succ, Array.replicate_zero, List.push_toArray, List.append_toArray, List.nil_append, List.cons_append]
  gi_wp2
  gi_loopw [8] (fun i wr => ∃ b : Nat, b ≤ c ∧ i = .int .i64 b ∧ J (usedAll m b) wr ∧ KeepB Bx W wr) (fun i _ => c - (intOf i).toNat)
  case atStart => exact ⟨0, Nat.zero_le _, rfl, h0, KeepB.refl _ _⟩
  case round =>
    obtain ⟨b, hb, rfl, hJs, hnx⟩ := hrel
    clear hc0
    by_cases hlt : b < c
    · have hboxr : ∀ i, wr.cell? ⟨Bx, i, none⟩ = (ccA m)[i]? := fun i => (hnx.cell i).trans (hbox i)
      have hpa : ∀ j, j < 16 → wr.cell? ⟨Bx, 1 + b * 17 + 1 + j, none⟩ = (paA (m.page b))[j]? := fun j hj => by rw [hboxr]; exact ccA_pages m (by omega) hj
      have HPA := hide hpa
      have HBR := hide hboxr
      clear hpa hboxr hbox
      gi_wp2_with (refine wpListIn_load_mid rfl 123 _ rfl Bx (1 + b * 17 + 1) rfl (paA (m.page b)) 16 (paA_size _) (unhide HPA) _ Tryz.underlying123 rfl sizePages ?_)
      clear HPA HBR
      gi_loopw [16] (fun i wr => ∃ k : Nat, k ≤ 4 ∧ i = .int .i64 k ∧ J (usedAll m b ++ usedB m b k) wr ∧ KeepB Bx W wr) (fun i _ => 4 - (intOf i).toNat)
      case atStart => exact ⟨0, by omega, rfl, by simpa [usedB] using hJs, hnx⟩
      case round =>
        obtain ⟨k, hk, rfl, hJk, hnk⟩ := hrel
        have hbl : Bx < wr.heap.size := Nat.lt_of_lt_of_le hn0 hnk.1
        have hszk := hnk.1
        have HNK := hide hnk
        clear hnk
        by_cases hlt2 : k < 4
        · have hk4 : (k : Int) < 4 := by omega
          have hidx := fun W => run_index_pages (P := Tryz.prog) W 123 122 (m.page b) k hlt2 Tryz.underlying123 _ Tryz.underlying122 rfl sizePage
          obtain ⟨p, hp⟩ : ∃ p, m.page b k = p := ⟨_, rfl⟩
          have hsu := usedB_succ m b k
          have hrx := unhide HRX b k (by omega) hlt2
          rw [hp] at hidx hsu hrx
          obtain ⟨u, lg, s, d⟩ := p
          simp only at hidx hrx
          have HRXP := hide hrx
          clear hrx
          have hlen : (usedAll m b ++ usedB m b k).length < 48 := by
            rw [List.length_append]
            have h1 := usedAll_length m b
            have h2 := usedB_length m b k
            omega
          have HSU := hide hsu
          clear hsu hp hm
          have hpre := used_le m (b := b) (k := k + 1) (n := c) hlt (by omega)
          have HPRE := hide hpre
          clear hpre
          have hJa : ∀ o, J (usedAll m b ++ usedB m b k) (wr.alloc o) := fun o => unhide HJAB _ _ _ none hJk (World.grownBy_alloc wr o none) (fun r e => by cases e)
          have HJA := hide hJa
          clear hJa
          cases u with
          | false =>
            clear hJk hJs hnx h0 hlen hszk
            gi_wp2
            refine ⟨fun _ h => (by cases h), ?_⟩
            gi_wp2
            go_roundw
            case rel =>
              refine ⟨k + 1, by omega, by go_num, ?_, (unhide HNK).trans (KeepB.alloc _ _ hbl)⟩
              rw [unhide HSU]
              simp only [Bool.false_eq_true, if_false, List.append_nil]
              exact unhide HJA _
            case measure => simp [intOf]; omega
          | true =>
            obtain ⟨fn, tmps, assign, body, hy, hR⟩ := unhide HY (usedAll m b ++ usedB m b k) ((b : Int) * 4 + (k : Int), ⟨true, lg, s, d⟩) (wr.alloc (.cells #[.bool true, .int .i64 lg, .int .i64 s, .string d] 122)) (unhide HRXP rfl) (unhide HJA _) hlen
            dsimp only [encU] at hy
            have HR := hide hR
            clear hR
            gi_wp2
            refine (unhide HR).mono ?_
            rintro e W3 (⟨rfl, hJ3, hk3⟩ | ⟨rfl, hJx3⟩)
            · have HK3 := hide hk3
              clear hk3
              gi_wp2
              go_roundw
              case rel =>
                refine ⟨k + 1, by omega, by go_num, ?_, ((unhide HNK).trans (KeepB.alloc _ _ hbl)).trans (unhide HK3)⟩
                rw [unhide HSU, ← List.append_assoc]
                exact hJ3
              case measure => simp [intOf]; omega
            · gi_wp2
              refine bodyPost_ret (results_none rfl _ _ _) rfl ?_
              refine ⟨⟨_, rfl⟩, .inr ⟨_, ?_, hJx3⟩⟩
              have := unhide HPRE
              rw [unhide HSU, ← List.append_assoc] at this
              exact this
        · obtain rfl : k = 4 := by omega
          gi_wp2
          go_roundw
          case rel => exact ⟨b + 1, by omega, by go_num, by rw [usedAll_succ]; exact hJk, unhide HNK⟩
          case measure => simp [intOf]; omega
    · obtain rfl : b = c := by omega
      gi_wp2
      go_end0
      exact ⟨⟨_, rfl⟩, .inl ⟨_, rfl, hJs⟩⟩

theorem usedR_stops (Rx : Int × Pg → Prop) (F : Fence) (n : Nat) (h122 : F.fn 254) (hro : F.round = none) (hn : 1 ≤ n) (Bx c : Nat) (m : CC) (hm : m.count = c) (hc : c ≤ 12) (hRx : ∀ b k : Nat, b < c → k < 4 → (m.page b k).used = true → Rx ((b : Int) * 4 + (k : Int), m.page b k)) (w : World) (hBx : Bx < w.heap.size) (hbox : ∀ i, w.cell? ⟨Bx, i, none⟩ = (ccA m)[i]?) :
    SeqStopsK F n Tryz.prog 254 #[.pointer (some ⟨Bx, 0, none⟩)] (fun x : {x : Int × Pg // Rx x} => encU x.val) (KeepB Bx) (fun ys => ys.map (·.val) = usedAll m c) (fun pre => pre.map (·.val) <+: usedAll m c) 48 w := by
  intro l J Jx W hW hJA _ hY h0
  refine (used1R_in Rx F n h122 hro hn l Bx c m hm hc (fun p W => ∃ q : List {x : Int × Pg // Rx x}, q.map (·.val) = p ∧ J q W) (fun p W => ∃ q : List {x : Int × Pg // Rx x}, q.map (·.val) = p ∧ Jx q W) hRx ?_ W (Nat.lt_of_lt_of_le hBx hW.size) ?_ (fun i => (hW.cell (p := ⟨Bx, i, none⟩) hBx).trans (hbox i)) ⟨[], rfl, h0⟩).mono ?_
  · rintro pre x W1 hx ⟨q, rfl, hq⟩ hl
    obtain ⟨fn, tmps, assign, body, hy, hR⟩ := hY q ⟨x, hx⟩ W1 hq (by simpa using hl)
    refine ⟨fn, tmps, assign, body, hy, hR.mono ?_⟩
    rintro e W' (⟨rfl, h1, h2⟩ | ⟨rfl, h1⟩)
    · exact .inl ⟨rfl, ⟨_, by simp, h1⟩, h2⟩
    · exact .inr ⟨rfl, ⟨_, by simp, h1⟩⟩
  · rintro p W W' row ⟨q, hq, hJ⟩ hg hr
    exact ⟨q, hq, hJA q W W' row hJ hg hr⟩
  · rintro e W' ⟨hv, h⟩
    refine ⟨hv, ?_⟩
    rcases h with ⟨ys, rfl, q, hq, hJ⟩ | ⟨pre, hp, q, rfl, hJ⟩
    · exact .inl ⟨q, hq, hJ⟩
    · exact .inr ⟨q, hp, hJ⟩
end Go.Proofs.YtjgcjeaplckbbaaGreatDoor

/- A chip held in arrays: what is written into the middle of its row. No program is named here. -/
namespace Go.Proofs.YtjgcjeaplckbbaaGreatDoor
open Go.RowKit
set_option linter.unusedVariables false
set_option linter.unusedSimpArgs false

def CC.setWear (m : CC) (b : Nat) (x : Int) : CC := ⟨m.count, fun j => if j = b then x else m.wear j, m.page⟩
def CC.setPages (m : CC) (b : Nat) (f : Nat → Pg) : CC := ⟨m.count, m.wear, fun j => if j = b then f else m.page j⟩

theorem ccA_setWear (m : CC) (b : Nat) (x : Int) (hb : b < 12) : (ccA m).setIfInBounds (1 + b * 17) (.int .i64 x) = ccA (m.setWear b x) := by
  apply Array.ext_getElem?
  intro i
  by_cases hi : i < 205
  · by_cases e : 1 + b * 17 = i
    · subst e
      rw [Array.getElem?_setIfInBounds_self_of_lt (by rw [ccA_size]; exact hi), ccA_wear _ hb]
      simp [CC.setWear]
    · rw [Array.getElem?_setIfInBounds_ne e, ccA_get _ hi, ccA_get _ hi]
      unfold ccF CC.setWear
      by_cases h0 : i = 0
      · simp [h0]
      · simp only [if_neg h0]
        by_cases h1 : (i - 1) % 17 = 0
        · simp only [if_pos h1]
          rw [if_neg (by omega)]
        · simp only [if_neg h1]
  · rw [Array.getElem?_eq_none (by simp [ccA_size]; omega), Array.getElem?_eq_none (by simp [ccA_size]; omega)]

theorem ccA_setPages (m : CC) (b : Nat) (f : Nat → Pg) (hb : b < 12) :
    ((ccA m).toList.take (1 + b * 17 + 1) ++ (paA f).toList ++ (ccA m).toList.drop (1 + b * 17 + 1 + 16)).toArray = ccA (m.setPages b f) := by
  have hl : (ccA m).toList.length = 205 := by rw [Array.length_toList, ccA_size]
  have hp : (paA f).toList.length = 16 := by rw [Array.length_toList, paA_size]
  have ht : ((ccA m).toList.take (1 + b * 17 + 1)).length = 1 + b * 17 + 1 := by rw [List.length_take, hl]; omega
  apply Array.ext_getElem?
  intro i
  rw [List.getElem?_toArray]
  have hF : ∀ i, i < 205 → ¬ (1 + b * 17 + 1 ≤ i ∧ i < 1 + b * 17 + 1 + 16) → ccF (m.setPages b f) i = ccF m i := by
    intro i hi hn
    unfold ccF CC.setPages
    by_cases h0 : i = 0
    · simp [h0]
    · simp only [if_neg h0]
      by_cases h1 : (i - 1) % 17 = 0
      · simp only [if_pos h1]
      · simp only [if_neg h1]
        rw [if_neg (by omega)]
  by_cases hi : i < 205
  · rw [ccA_get _ hi]
    by_cases h1 : i < 1 + b * 17 + 1
    · rw [List.getElem?_append_left (by rw [List.length_append, ht, hp]; omega), List.getElem?_append_left (by rw [ht]; exact h1), List.getElem?_take_of_lt h1, Array.getElem?_toList, ccA_get _ hi, hF i hi (by omega)]
    · by_cases h2 : i < 1 + b * 17 + 1 + 16
      · rw [List.getElem?_append_left (by rw [List.length_append, ht, hp]; omega), List.getElem?_append_right (by rw [ht]; omega), ht, Array.getElem?_toList, paA_get f (by omega)]
        have := ccA_pages (m.setPages b f) (b := b) (i := i - (1 + b * 17 + 1)) hb (by omega)
        rw [show 1 + b * 17 + 1 + (i - (1 + b * 17 + 1)) = i by omega, ccA_get _ hi, paA_get _ (by omega)] at this
        rw [this]
        simp [CC.setPages]
      · rw [List.getElem?_append_right (by rw [List.length_append, ht, hp]; omega), List.length_append, ht, hp, List.getElem?_drop, show 1 + b * 17 + 1 + 16 + (i - (1 + b * 17 + 1 + 16)) = i by omega, Array.getElem?_toList, ccA_get _ hi, hF i hi (by omega)]
  · rw [List.getElem?_eq_none (by simp only [List.length_append, ht, hp, List.length_drop, hl]; omega), Array.getElem?_eq_none (by simp [ccA_size]; omega)]

theorem paA_one (f : Nat → Pg) : ∀ v ∈ (paA f).toList, v.oneCell' = true := by
  intro v hv
  have hv' : v ∈ paA f := by simpa using hv
  obtain ⟨i, hi, rfl⟩ := Array.mem_iff_getElem.1 hv'
  simp only [paA, Array.getElem_ofFn]
  exact pgV_one _ _

def pagesF (ps : List Pg) (k : Nat) : Pg := ps[k]?.getD zeroPg

theorem PagesAt.cells {W : World} {a : Option Addr} {ps : List Pg} (h : PagesAt W a ps) (hps : ps.length = 4) : ∃ g o, a = some ⟨g, o, none⟩ ∧ ∀ j, j < 16 → W.cell? ⟨g, o + j, none⟩ = (paA (pagesF ps))[j]? := by
  obtain ⟨p0, hp0⟩ := getElem?_ex (l := ps) (k := 0) (by omega)
  obtain ⟨g, o, ha, _⟩ := h 0 p0 hp0
  refine ⟨g, o, ha, fun j hj => ?_⟩
  obtain ⟨p, hp⟩ := getElem?_ex (l := ps) (k := j / 4) (by omega)
  obtain ⟨g', o', ha', h0, h1, h2, h3⟩ := h (j / 4) p hp
  rw [ha] at ha'
  cases ha'
  rw [paA_get _ hj]
  have e : pagesF ps (j / 4) = p := by simp [pagesF, hp]
  rw [e]
  have h4 : j % 4 = 0 ∨ j % 4 = 1 ∨ j % 4 = 2 ∨ j % 4 = 3 := by omega
  rcases h4 with q | q | q | q
  · rw [q, show o + j = o + j / 4 * 4 by omega]; exact h0
  · rw [q, show o + j = o + j / 4 * 4 + 1 by omega]; exact h1
  · rw [q, show o + j = o + j / 4 * 4 + 2 by omega]; exact h2
  · rw [q, show o + j = o + j / 4 * 4 + 3 by omega]; exact h3

/-- copy of four pages into the middle of the row of a chip that is held in arrays. -/
theorem copy_mid (P : Program) (W : World) (dT sT ty elem : TypeId) (g : Nat) (t : TypeId) (m : CC) (b : Nat) (hb : b < 12) (a : Option Addr) (c : Nat) (ps : List Pg) (hps : ps.length = 4) (hpa : PagesAt W a ps)
    (hu : P.underlying dT = some (.slice elem)) (hs : (P.info? elem).map (·.size) = some 4) (hg : W.heap[g]? = some (.cells (ccA m) t (0, 0))) :
    (Builtin.copy_ #[dT, sT] ty #[.slice (some ⟨g, 1 + b * 17 + 1, none⟩) 4 4, .slice a 4 c]).run P W = .ok (goInt 4) (W.setRow g (ccA (m.setPages b (pagesF ps)))) := by
  obtain ⟨q, o, rfl, hc⟩ := hpa.cells hps
  have hl : (loadCells ⟨q, o, none⟩ 16).run P W = .ok (paA (pagesF ps)) W := by
    have := run_loadCells_list (P := P) W ⟨q, o, none⟩ (paA (pagesF ps)).toList (fun j v hv => by
      have hadd : (⟨q, o, none⟩ : Addr).add j = ⟨q, o + j, none⟩ := by unfold Addr.add; split <;> simp_all
      have hj : j < 16 := by rw [← paA_size (pagesF ps), ← Array.length_toList]; exact (List.getElem?_eq_some_iff.1 hv).1
      rw [hadd, hc j hj, ← hv, Array.getElem?_toList])
    simpa only [Array.length_toList, paA_size, Array.toArray_toList] using this
  have hst := run_storeCells_at P g (1 + b * 17 + 1) t (paA (pagesF ps)).toList 0 (ccA m) W hg (by rw [Array.length_toList, paA_size, ccA_size]; omega) (paA_one _)
  rw [Nat.add_zero, Array.length_toList, paA_size, ccA_setPages m b _ hb] at hst
  cases hq : P.info? elem with
  | none => simp [hq] at hs
  | some i =>
    have hi : i.size = 4 := by simpa [hq] using hs
    simp [Builtin.copy_, run_underlying hu, Builtin.lenOf, Builtin.firstCells, sizeOf, typeInfo, hq, hi, hl, hst]

theorem store_row (P : Program) (W : World) (g : Nat) (t : TypeId) (cur vs : Array Value) (hg : W.heap[g]? = some (.cells cur t (0, 0))) (hs : vs.size = cur.size) (h1 : ∀ v ∈ vs.toList, v.oneCell' = true) :
    (storeCells ⟨g, 0, none⟩ vs.toList).run P W = .ok () (W.setRow g vs) := by
  rw [run_storeCells_at P g 0 t vs.toList 0 cur W hg (by simp [hs]) h1]
  congr 2
  simp only [Nat.zero_add, List.take_zero, List.nil_append]
  rw [List.drop_eq_nil_of_le (by simp [hs]), List.append_nil]

theorem store_same (P : Program) (W : World) (g : Nat) (t : TypeId) (cur : Array Value) (hg : W.heap[g]? = some (.cells cur t (0, 0))) (h1 : ∀ v ∈ cur.toList, v.oneCell' = true) :
    (storeCells ⟨g, 0, none⟩ cur.toList).run P W = .ok () W := by
  rw [store_row P W g t cur cur hg rfl h1, setRow_self W g cur t _ hg]

theorem Below.setRow {B : Nat} {a w : World} (h : Below B a w) {g : Nat} (hg : B ≤ g) (cs : Array Value) : Below B a (w.setRow g cs) :=
  ⟨h.os, h.tape, h.output, by simpa using h.size, fun k hk => by rw [setRow_other _ _ _ _ (by omega)]; exact h.block k hk⟩

/-- The numbers of the used pages are those of the blocks. -/
theorem ccPs_filter (m : CC) (b : Nat) : seqsP (ccPs m b) = ((((List.range 4).filter fun j => (m.page b j).used).map fun j => (m.page b j).seq)) := by
  have e : ccPs m b = (List.range 4).map (m.page b) := rfl
  rw [e, seqsP, List.filter_map, List.map_map]
  rfl

theorem BkOk.of_four {x : Int} {ps : List Pg} : BkOk ⟨x, ps⟩ ↔ ps.length = 4 ∧ (0 ≤ x ∧ x ≤ 1000000000) ∧ (∀ k, k < 4 → pgOk (pagesF ps k) = true) ∧ (∀ k, k + 1 < 4 → (pagesF ps (k + 1)).used = true → (pagesF ps k).used = true) := by
  constructor
  · intro h
    have h4 : ps.length = 4 := h.four
    refine ⟨h4, h.wear, fun k hk => ?_, fun k hk hu => ?_⟩
    · obtain ⟨p, hp⟩ := getElem?_ex (l := ps) (k := k) (by simpa [h4] using hk)
      simp only [pagesF, hp, Option.getD_some]
      exact h.page k p hp
    · obtain ⟨p, hp⟩ := getElem?_ex (l := ps) (k := k) (by omega)
      obtain ⟨q, hq⟩ := getElem?_ex (l := ps) (k := k + 1) (by omega)
      simp only [pagesF, hp, hq, Option.getD_some] at hu ⊢
      exact h.order k q p hp hq hu
  · rintro ⟨h4, hw, h1, h2⟩
    refine ⟨hw, h4, fun k p hp => ?_, fun k p q hq hp hu => ?_⟩
    · have hk : k < ps.length := (List.getElem?_eq_some_iff.1 hp).1
      have := h1 k (by omega)
      simpa [pagesF, hp] using this
    · have hk : k + 1 < ps.length := (List.getElem?_eq_some_iff.1 hp).1
      have := h2 k (by omega)
      simp only [pagesF, hp, hq, Option.getD_some] at this
      exact this hu

theorem results_cell_slot {P : Program} {fn : Func} (r ty s : Nat) (hr : fn.results = #[.cell r ty, .tmp s]) (tm : Array Value) (W : World) (g : Addr) (A : Array Value) (v : Value)
    (h1 : tm.getD r undef = .pointer (some g)) (h2 : (loadVar ty g).run P W = .ok (.agg A) W) (h3 : tm.getD s undef = v) : (results fn tm).run P W = .ok (.tuple #[.agg A, v]) W := by
  unfold results
  rw [hr]
  have h1' : tm[r]?.getD undef = .pointer (some g) := by simpa using h1
  have h3' : tm[s]?.getD undef = v := by simpa using h3
  simp [h2, Sem.run_bind, h1', h3', asAddr]

theorem pagesF_list {ps : List Pg} (h : ps.length = 4) : [pagesF ps 0, pagesF ps 1, pagesF ps 2, pagesF ps 3] = ps := by
  match ps, h with
  | [a, b, c, d], _ => rfl
end Go.Proofs.YtjgcjeaplckbbaaGreatDoor

/- The newest page of each log, as plain lists say it. No program is named here. -/
namespace Go.Proofs.YtjgcjeaplckbbaaGreatDoor
open Go.RowKit
set_option linter.unusedVariables false
set_option linter.unusedSimpArgs false

def newer (cur : Option (Int × Pg)) (s : Int) : Bool := match cur with | none => true | some y => decide (y.2.seq < s)
def pick (log : Int) (cur : Option (Int × Pg)) (x : Int × Pg) : Option (Int × Pg) := if x.2.log = log ∧ newer cur x.2.seq = true then some x else cur
/-- The newest page of a log, and its place. -/
def newestAt (xs : List (Int × Pg)) (log : Int) : Option (Int × Pg) := xs.foldl (pick log) none
theorem newestAt_snoc (xs : List (Int × Pg)) (x : Int × Pg) (log : Int) : newestAt (xs ++ [x]) log = pick log (newestAt xs log) x := by simp [newestAt]
theorem newestAt_mem {xs : List (Int × Pg)} {log : Int} {y : Int × Pg} (h : newestAt xs log = some y) : y ∈ xs ∧ y.2.log = log := by
  suffices H : ∀ n (xs : List (Int × Pg)), xs.length = n → ∀ y, newestAt xs log = some y → y ∈ xs ∧ y.2.log = log from H _ xs rfl y h
  intro n
  induction n with
  | zero =>
    intro xs hl y hy
    cases xs with
    | nil => simp [newestAt] at hy
    | cons a t => simp at hl
  | succ n ih =>
    intro xs hl y hy
    obtain ⟨ys, x, rfl⟩ : ∃ ys x, xs = ys ++ [x] := ⟨xs.dropLast, xs.getLast (by intro e; subst e; cases hl), (List.dropLast_concat_getLast _).symm⟩
    rw [newestAt_snoc] at hy
    unfold pick at hy
    split at hy
    · rename_i hc
      cases hy
      exact ⟨by simp, hc.1⟩
    · obtain ⟨h1, h2⟩ := ih ys (by simpa using hl) y hy
      exact ⟨by simp [h1], h2⟩

def placeIn : Option (Int × Pg) → Int
  | none => -1
  | some y => y.1
def placesOf (xs : List (Int × Pg)) (room : Nat) : List Int := (List.range room).map fun (i : Nat) => placeIn (newestAt xs (i : Int))
theorem placesOf_length (xs : List (Int × Pg)) (room : Nat) : (placesOf xs room).length = room := by simp [placesOf]
theorem placesOf_at (xs : List (Int × Pg)) (room : Nat) {i : Nat} (hi : i < room) : (placesOf xs room)[i]? = some (placeIn (newestAt xs (i : Int))) := by simp [placesOf, hi]
theorem placesOf_nil (room : Nat) : placesOf [] room = List.replicate room (-1) := by
  refine List.ext_getElem? (fun i => ?_)
  by_cases hi : i < room
  · rw [placesOf_at _ _ hi]; simp [hi, newestAt, placeIn]
  · rw [List.getElem?_eq_none (by rw [placesOf_length]; omega), List.getElem?_eq_none (by simp; omega)]
theorem placesOf_snoc (xs : List (Int × Pg)) (x : Int × Pg) (room l : Nat) (hx : x.2.log = (l : Int)) :
    placesOf (xs ++ [x]) room = if newer (newestAt xs (l : Int)) x.2.seq = true then (placesOf xs room).set l x.1 else placesOf xs room := by
  refine List.ext_getElem? (fun i => ?_)
  by_cases hi : i < room
  · rw [placesOf_at _ _ hi, newestAt_snoc]
    by_cases e : i = l
    · subst e
      unfold pick
      by_cases hn : newer (newestAt xs (i : Int)) x.2.seq = true
      · rw [if_pos ⟨hx, hn⟩, if_pos hn, List.getElem?_set_self (by rw [placesOf_length]; exact hi)]
        rfl
      · rw [if_neg (fun h => hn h.2), if_neg hn, placesOf_at _ _ hi]
    · have hne : ¬ x.2.log = (i : Int) := by rw [hx]; omega
      unfold pick
      rw [if_neg (fun h => hne h.1)]
      split
      · rw [List.getElem?_set_ne (fun h => e h.symm), placesOf_at _ _ hi]
      · rw [placesOf_at _ _ hi]
  · rw [List.getElem?_eq_none (by rw [placesOf_length]; omega)]
    split
    · rw [List.getElem?_eq_none (by rw [List.length_set, placesOf_length]; omega)]
    · rw [List.getElem?_eq_none (by rw [placesOf_length]; omega)]

theorem mem_usedB {m : CC} {b k : Nat} {x : Int × Pg} (h : x ∈ usedB m b k) : ∃ j, j < k ∧ x = ((b : Int) * 4 + (j : Int), m.page b j) ∧ (m.page b j).used = true := by
  unfold usedB at h
  simp at h
  obtain ⟨j, ⟨hj, hu⟩, rfl⟩ := h
  exact ⟨j, hj, rfl, hu⟩
theorem mem_usedAll {m : CC} {n : Nat} {x : Int × Pg} (h : x ∈ usedAll m n) : ∃ (b k : Nat), b < n ∧ k < 4 ∧ x = ((b : Int) * 4 + (k : Int), m.page b k) ∧ (m.page b k).used = true := by
  unfold usedAll at h
  simp only [List.mem_flatMap, List.mem_range] at h
  obtain ⟨b, hb, hx⟩ := h
  obtain ⟨k, hk, e, hu⟩ := mem_usedB hx
  exact ⟨b, k, hb, hk, e, hu⟩

/-- The chip's pages by their numbers. -/
def mOf (bs : List Bk) : CC := ⟨bs.length, fun b => (bs[b]?.map (·.wear)).getD 0, fun b k => pagesF ((bs[b]?.map (·.pages)).getD []) k⟩
theorem mOf_page {bs : List Bk} {b : Nat} {x : Bk} (hb : bs[b]? = some x) {k : Nat} {p : Pg} (hp : x.pages[k]? = some p) : (mOf bs).page b k = p := by
  simp [mOf, hb, pagesF, hp]
theorem usedB_congr {m m' : CC} {b : Nat} (h : ∀ k, k < 4 → m.page b k = m'.page b k) {k : Nat} (hk : k ≤ 4) : usedB m b k = usedB m' b k := by
  induction k with
  | zero => rfl
  | succ k ih => rw [usedB_succ, usedB_succ, ih (by omega), h k (by omega)]
theorem usedAll_congr {m m' : CC} {n : Nat} (h : ∀ b k, b < n → k < 4 → m.page b k = m'.page b k) : usedAll m n = usedAll m' n := by
  induction n with
  | zero => rfl
  | succ n ih => rw [usedAll_succ, usedAll_succ, ih (fun b k hb hk => h b k (by omega) hk), usedB_congr (fun k hk => h n k (by omega) hk) (Nat.le_refl _)]

/-- The used pages of a chip with their places. -/
def usedOf (bs : List Bk) : List (Int × Pg) := usedAll (mOf bs) bs.length
theorem usedOf_cc {m : CC} {bs : List Bk} (h : ccBs m bs.length = bs) : usedAll m bs.length = usedOf bs := by
  refine usedAll_congr (fun b k hb hk => ?_)
  have e := ccBs_at m hb
  rw [h] at e
  exact (mOf_page e (ccPs_at m b hk)).symm

/-- How many logs have room. -/
def roomOf (bs : List Bk) : Nat := 4 * (bs.length - 3)
def Fits (bs : List Bk) : Prop := ∀ x ∈ usedOf bs, x.2.log < (roomOf bs : Int)
/-- What the map of a right chip is: its newest pages, or none. -/
def MapIs (bs : List Bk) (r : Bool) (L : List Int) : Prop := (r = true ↔ Fits bs) ∧ L = if r then placesOf (usedOf bs) (roomOf bs) else []
theorem MapIs.one {bs : List Bk} {r s : Bool} {L M : List Int} (h : MapIs bs r L) (k : MapIs bs s M) : r = s ∧ L = M := by
  have e : r = s := by
    have := h.1.trans k.1.symm
    cases r <;> cases s <;> simp_all
  subst e
  exact ⟨rfl, h.2.trans k.2.symm⟩
theorem MapIs.length {bs : List Bk} {r : Bool} {L : List Int} (h : MapIs bs r L) (hc : bs.length ≤ 12) : L.length ≤ 36 := by
  rw [h.2]
  split
  · rw [placesOf_length]; unfold roomOf; omega
  · simp

/-- What is known of a used page of a right chip. -/
theorem ChipOk.usedRight {bs : List Bk} (h : ChipOk bs) {x : Int × Pg} (hx : x ∈ usedOf bs) : 0 ≤ x.2.log ∧ x.2.log ≤ 39 ∧ 1 ≤ x.2.seq ∧ x.2.seq ≤ 1000000000 ∧ x.2.data.size = 4 ∧
    ∃ (b k : Nat) (y : Bk), bs[b]? = some y ∧ y.pages[k]? = some x.2 ∧ k < 4 ∧ x.1 = (b : Int) * 4 + (k : Int) ∧ x.2.used = true := by
  obtain ⟨b, k, hb, hk, e, hu⟩ := mem_usedAll hx
  obtain ⟨y, hy⟩ := getElem?_ex (l := bs) (k := b) hb
  have hB := h.block y (List.mem_of_getElem? hy)
  obtain ⟨p, hp⟩ := getElem?_ex (l := y.pages) (k := k) (by have := hB.four; omega)
  rw [mOf_page hy hp] at e hu
  subst e
  have hok := hB.page k p hp
  simp only [pgOk, hu, if_true, rightUsed, Bool.and_eq_true, decide_eq_true_eq, Bool.true_and] at hok
  obtain ⟨⟨⟨h1, h2⟩, h3, h4⟩, h5⟩ := hok
  exact ⟨h1, h2, h3, h4, h5, b, k, y, hy, hp, hk, rfl, hu⟩
end Go.Proofs.YtjgcjeaplckbbaaGreatDoor

/- A map of numbers and places by logs, which the call itself has made: what it holds is said by the pages that came. -/
namespace Go.Proofs.YtjgcjeaplckbbaaGreatDoor
open Go.RowKit Go.Maps
set_option linter.unusedVariables false
set_option linter.unusedSimpArgs false

def npD (s p : Int) : DataW Unit := .agg [.lit (.int .i64 s), .lit (.int .i64 p)]
def npElem (v : Value) : Option (DataW Unit × List MemPlace) :=
  match v with
  | .agg A => match A.toList with
    | [.int .i64 s, .int .i64 p] => some (npD s p, [])
    | _ => none
  | _ => none
theorem npElem_mk (s p : Int) : npElem (.agg #[.int .i64 s, .int .i64 p]) = some (npD s p, []) := rfl
theorem npElem_inv {v : Value} {z : DataW Unit × List MemPlace} (h : npElem v = some z) : ∃ s p : Int, v = .agg #[.int .i64 s, .int .i64 p] ∧ z = (npD s p, []) := by
  unfold npElem at h
  split at h
  · rename_i A
    split at h
    · rename_i s p e
      cases h
      refine ⟨s, p, ?_, rfl⟩
      congr 1
      exact Array.toList_inj.1 (by rw [e])
    · cases h
  · cases h
theorem npD_inj {s p s' p' : Int} (h : npD s p = npD s' p') : s = s' ∧ p = p' := by
  simp [npD] at h
  exact h

def npOf : Option (Int × Pg) → Int × Int
  | none => (0, 0)
  | some y => (y.2.seq, y.1)

theorem i64_keyed : Keyed Tryz.prog 2 := int_keyed Tryz.underlying2
theorem zeroNp (w : World) : (zeroValue 205).run Tryz.prog w = .ok (.agg #[.int .i64 0, .int .i64 0]) w := by kernel_rfl

/-- The map in block b holds, of each log, the newest of the pages xs. -/
def NpIs (W : World) (b n : Nat) (xs : List (Int × Pg)) : Prop :=
  ∃ D : DataW Unit, W.ownsMap Tryz.prog 2 npElem b n D ∧ IsMap D ∧ ∀ k : Int, 0 ≤ k → k ≤ 39 → D.atKey (.int .i64 k) (npD 0 0) = npD (npOf (newestAt xs k)).1 (npOf (newestAt xs k)).2 ∧ Maps.has D (.int .i64 k) = (newestAt xs k).isSome

theorem NpIs.lt {W : World} {b n : Nat} {xs : List (Int × Pg)} (h : NpIs W b n xs) : b < W.heap.size := by
  obtain ⟨D, h1, _⟩ := h
  exact h1.lt
theorem NpIs.made (w : World) : NpIs (w.alloc (.map #[] 0)) w.heap.size 0 [] :=
  ⟨_, World.ownsMap_made _ _ _ _, isMap_empty, fun k _ _ => ⟨rfl, rfl⟩⟩
theorem NpIs.kept {W W' : World} {b n : Nat} {xs : List (Int × Pg)} {row : Option Nat} (h : NpIs W b n xs) (hg : W.grownBy W' row) (hne : some b ≠ row) : NpIs W' b n xs := by
  obtain ⟨D, h1, h2⟩ := h
  exact ⟨D, h1.kept hg hne, h2⟩
theorem NpIs.mono {W : World} {b n n' : Nat} {xs : List (Int × Pg)} (h : NpIs W b n xs) (hn : n ≤ n') : NpIs W b n' xs := by
  obtain ⟨D, h1, h2⟩ := h
  exact ⟨D, h1.mono hn, h2⟩
theorem isKeyLit_int (k : Int) : WideAt.IsKeyLit (.int .i64 k) := by simp [WideAt.IsKeyLit]

theorem NpIs.step {W W' : World} {b n n' : Nat} {xs : List (Int × Pg)} {x : Int × Pg} {l : Int} (hl : x.2.log = l) {D : DataW Unit} (hM : IsMap D)
    (hD : ∀ k : Int, 0 ≤ k → k ≤ 39 → D.atKey (.int .i64 k) (npD 0 0) = npD (npOf (newestAt xs k)).1 (npOf (newestAt xs k)).2 ∧ Maps.has D (.int .i64 k) = (newestAt xs k).isSome)
    (hO : W'.ownsMap Tryz.prog 2 npElem b n' (D.put (.int .i64 l) (npD x.2.seq x.1))) (hn : newer (newestAt xs l) x.2.seq = true) : NpIs W' b n' (xs ++ [x]) := by
  refine ⟨_, hO, hM.put _ _, fun k h0 h1 => ?_⟩
  rw [newestAt_snoc]
  by_cases e : k = l
  · subst e
    rw [atKey_put_same hM (isKeyLit_int _), has_put_same hM (isKeyLit_int _)]
    unfold pick
    rw [if_pos ⟨hl, hn⟩]
    exact ⟨rfl, rfl⟩
  · have hne : (Lit.int .i64 k) ≠ .int .i64 l := by intro h; cases h; exact e rfl
    rw [atKey_put_other hne, has_put_other hne]
    unfold pick
    rw [if_neg (fun h => e (by rw [← h.1, hl]))]
    exact hD k h0 h1
theorem NpIs.same {W : World} {b n : Nat} {xs : List (Int × Pg)} (h : NpIs W b n xs) {x : Int × Pg} {l : Int} (hl : x.2.log = l) (hn : ¬ newer (newestAt xs l) x.2.seq = true) : NpIs W b n (xs ++ [x]) := by
  obtain ⟨D, h1, h2, h3⟩ := h
  refine ⟨D, h1, h2, fun k k0 k1 => ?_⟩
  rw [newestAt_snoc]
  unfold pick
  rw [if_neg (fun hc => hn (by rw [← hl, hc.1]; exact hc.2))]
  exact h3 k k0 k1

theorem keyOf_log {k : Int} (h0 : 0 ≤ k) (h1 : k ≤ 39) : keyOf Tryz.prog 2 (.int .i64 k) = some (.int .i64 k) := keyOf_int_mk Tryz.underlying2 (WalkArith.wf_i64 (by omega))

section
variable {F : Fence} {nF : Nat} (w : World) {ops : Array Oper} {rest : List Oper} {o : Oper} {a : Act} {Q : Exit → Act → World → Prop}
theorem wpListIn_lookup_np (hg : o.guard = none) (m x : Operand) (hop : o.op = Op.lookup 277 m x false) (b n : Nat) (xs : List (Int × Pg)) (hm : a.eval m = .map (some b)) (hN : NpIs w b n xs)
    (k : Int) (h0 : 0 ≤ k) (h1 : k ≤ 39) (hx : a.eval x = .int .i64 k)
    (hK : wpListIn F nF Tryz.prog ops Q rest (a.put o.dst (.agg #[.int .i64 (npOf (newestAt xs k)).1, .int .i64 (npOf (newestAt xs k)).2])) w) : wpListIn F nF Tryz.prog ops Q (o :: rest) a w := by
  refine wpListIn_plain hg fun K' hK' => ?_
  obtain ⟨D, hown, hM, hD⟩ := hN
  obtain ⟨v, ps, hrun, hv⟩ := hown.lookup i64_keyed Tryz.underlying277 (zeroNp w) (npElem_mk 0 0) (keyOf_log h0 h1)
  obtain ⟨s, p, rfl, hz⟩ := npElem_inv hv
  rw [(hD k h0 h1).1] at hz
  obtain ⟨e1, e2⟩ := npD_inj (congrArg Prod.fst hz)
  rw [e1, e2] at hK
  unfold Oper.wpIn
  refine ⟨by simp [Oper.about, hop], ?_⟩
  rw [Oper.semAt_plain F _ _ (by rw [hop]; intro c hc'; cases hc')]
  simp [execOp, hop, hm, hx, hrun, Result.andThen]
  exact hK' _ _ hK
theorem wpListIn_lookup_ok_np (hg : o.guard = none) (m x : Operand) (hop : o.op = Op.lookup 277 m x true) (b n : Nat) (xs : List (Int × Pg)) (hm : a.eval m = .map (some b)) (hN : NpIs w b n xs)
    (k : Int) (h0 : 0 ≤ k) (h1 : k ≤ 39) (hx : a.eval x = .int .i64 k)
    (hK : wpListIn F nF Tryz.prog ops Q rest (a.put o.dst (.tuple #[.agg #[.int .i64 (npOf (newestAt xs k)).1, .int .i64 (npOf (newestAt xs k)).2], .bool (newestAt xs k).isSome])) w) : wpListIn F nF Tryz.prog ops Q (o :: rest) a w := by
  obtain ⟨D, hown, hM, hD⟩ := hN
  refine wpListIn_lookup_own_ok w hg m x _ hop _ _ i64_keyed Tryz.underlying277 npElem (zeroNp w) _ _ (npElem_mk 0 0) b n D hm hown _ _ hx (keyOf_log h0 h1) (fun v ps hv => ?_)
  obtain ⟨s, p, rfl, hz⟩ := npElem_inv hv
  rw [(hD k h0 h1).1] at hz
  obtain ⟨e1, e2⟩ := npD_inj (congrArg Prod.fst hz)
  rw [e1, e2] at hK
  rw [(hD k h0 h1).2]
  exact hK
theorem wpListIn_update_np (hg : o.guard = none) (m x v : Operand) (hop : o.op = Op.mapUpdate 277 m x v) (b n : Nat) (xs : List (Int × Pg)) (hm : a.eval m = .map (some b)) (hN : NpIs w b n xs) (hn : n < maxLen)
    (y : Int × Pg) (h0 : 0 ≤ y.2.log) (h1 : y.2.log ≤ 39) (hx : a.eval x = .int .i64 y.2.log) (hv : a.eval v = .agg #[.int .i64 y.2.seq, .int .i64 y.1]) (hnw : newer (newestAt xs y.2.log) y.2.seq = true)
    (hK : ∀ w', NpIs w' b (n + 1) (xs ++ [y]) → w.grownBy w' (some b) → wpListIn F nF Tryz.prog ops Q rest (a.put o.dst undef) w') : wpListIn F nF Tryz.prog ops Q (o :: rest) a w := by
  obtain ⟨D, hown, hM, hD⟩ := hN
  refine wpListIn_mapUpdate_own w hg m x v _ hop _ _ i64_keyed Tryz.underlying277 npElem b n D hm hown hn _ _ _ hx hv (keyOf_log h0 h1) _ _ (npElem_mk _ _) (fun w' h2 h3 => ?_)
  exact hK w' (NpIs.step (W := w) (n := n) rfl hM hD h2 hnw) h3
end
end Go.Proofs.YtjgcjeaplckbbaaGreatDoor

/- How many logs have room: the model's and the program's RoomFor. -/
namespace Go.Proofs.YtjgcjeaplckbbaaGreatDoor
open Go.RowKit
set_option linter.unusedVariables false
set_option linter.unusedSimpArgs false

def roomI (n : Int) : Int := if 4 ≤ n ∧ n ≤ 12 then 4 * (n - 3) else 0
theorem roomI_in {n : Int} (h : 4 ≤ n ∧ n ≤ 12) : roomI n = 4 * (n - 3) := if_pos h
theorem roomI_out {n : Int} (h : ¬ (4 ≤ n ∧ n ≤ 12)) : roomI n = 0 := if_neg h

theorem specRoomFor_any (n : Int) (w : World) : Calls Tryz.prog 52 #[.int .i64 n] w fun e w' => e = .returned (.int .i64 (roomI n)) ∧ w' = w := by
  by_cases h : 4 ≤ n ∧ n ≤ 12
  · have hd : decide (4 ≤ n ∧ n ≤ 12) = true := by simpa using h
    go_enter Tryz.func52, Tryz.ntmps52
    go_wp2_with fail
    refine (l1In_any _ _ _ _).mono ?_
    rintro e w1 ⟨rfl, rfl⟩
    rw [hd]
    obtain ⟨h1, h2⟩ := h
    clear hd
    go_wp2
    go_ret
    refine ⟨?_, rfl⟩
    rw [roomI_in ⟨h1, h2⟩]
    show Ending.returned (.int .i64 ((n - 3) * 4)) = _
    rw [Int.mul_comm]
  · have hd : decide (4 ≤ n ∧ n ≤ 12) = false := by simpa using h
    go_enter Tryz.func52, Tryz.ntmps52
    go_wp2_with fail
    refine (l1In_any _ _ _ _).mono ?_
    rintro e w1 ⟨rfl, rfl⟩
    rw [hd]
    clear hd
    go_wp2
    go_ret
    exact ⟨by rw [roomI_out h]; rfl, rfl⟩

theorem isBlockCount_room (n : Int) (w : World) : Calls Tryz.prog 48 #[.int .i64 n] w fun e w' => e = .returned (.bool (decide (4 ≤ n ∧ n ≤ 12))) ∧ w' = w := by
  go_enter Tryz.func48, Tryz.ntmps48
  go_wp2_with fail
  refine (within_any _ _ _ _).mono ?_
  rintro e w1 ⟨rfl, rfl⟩
  go_wp2
  go_ret
  exact ⟨by simp, rfl⟩

theorem implRoomFor_any (n : Int) (w : World) : Calls Tryz.prog 20 #[.int .i64 n] w fun e w' => e = .returned (.int .i64 (roomI n)) ∧ w' = w := by
  by_cases h : 4 ≤ n ∧ n ≤ 12
  · have hd : decide (4 ≤ n ∧ n ≤ 12) = true := by simpa using h
    go_enter Tryz.func20, Tryz.ntmps20
    go_wp2_with fail
    refine (isBlockCount_room _ _).mono ?_
    rintro e w1 ⟨rfl, rfl⟩
    rw [hd]
    obtain ⟨h1, h2⟩ := h
    clear hd
    go_wp2
    go_ret
    refine ⟨?_, rfl⟩
    rw [roomI_in ⟨h1, h2⟩]
    rfl
  · have hd : decide (4 ≤ n ∧ n ≤ 12) = false := by simpa using h
    go_enter Tryz.func20, Tryz.ntmps20
    go_wp2_with fail
    refine (isBlockCount_room _ _).mono ?_
    rintro e w1 ⟨rfl, rfl⟩
    rw [hd]
    clear hd
    go_wp2
    go_ret
    exact ⟨by rw [roomI_out h]; rfl, rfl⟩
end Go.Proofs.YtjgcjeaplckbbaaGreatDoor

/- The program's answer whether all used pages bear numbers of their own. -/
namespace Go.Proofs.YtjgcjeaplckbbaaGreatDoor
open Go.RowKit Go.Shelf
set_option linter.unusedVariables false
set_option linter.unusedSimpArgs false
attribute [local go_sem] Oper.semAt_some

def usedSeqs (xs : List (Int × Pg)) : List Int := xs.map fun x => x.2.seq

theorem blk_kept {W W' : World} {row : Option Nat} {k : Nat} {c : Array Value} {t : TypeId} {fr : Nat × Nat} (h : W.heap[k]? = some (.cells c t fr)) (hg : W.grownBy W' row) (hr : ∀ r, row = some r → ∃ o : Obj, W.heap[r]? = some o ∧ o.isCells = false) : W'.heap[k]? = some (.cells c t fr) := by
  rw [hg.block k (Array.getElem?_eq_some_iff.1 h).1 (fun e => ?_)]
  · exact h
  · obtain ⟨o, ho, hc⟩ := hr k e.symm
    rw [h] at ho
    cases ho
    cases hc

/-- Between two rounds: the cells of the function's own, those that came being pre. -/
def DifI (w : World) (pre : List (Int × Pg)) (W : World) : Prop :=
  (∃ A : Array Value, W.heap[w.heap.size + 1]? = some (.cells #[Value.bool false] 4 (0, 0)) ∧ W.heap[w.heap.size + 1 + 1]? = some (.cells A 335 (0, 0)) ∧ A.size = 48 ∧ (∀ (i : Nat) (x : Int), (usedSeqs pre)[i]? = some x → A[i]? = some (Value.int .i64 x)) ∧
    W.heap[w.heap.size + 1 + 1 + 1]? = some (.cells #[Value.int .i64 (pre.length : Int)] 3 (0, 0))) ∧ (usedSeqs pre).Nodup ∧ w.heap.size + 1 + 1 + 1 + 1 < W.heap.size
def DifX (w : World) (c : Code) (pre : List (Int × Pg)) (W : World) : Prop :=
  c = .ret ∧ ¬ (usedSeqs pre).Nodup ∧ W.heap[w.heap.size + 1]? = some (.cells #[Value.bool false] 4 (0, 0))
theorem DifI.own (w : World) : Own (DifI w) := fun s W W' row ⟨⟨A, h1, h2, h3, h4, h5⟩, h6⟩ hg hr => ⟨⟨A, blk_kept h1 hg hr, blk_kept h2 hg hr, h3, h4, blk_kept h5 hg hr⟩, h6.1, Nat.lt_of_lt_of_le h6.2 hg.size⟩
theorem DifX.own (w : World) (c : Code) : Own (DifX w c) := fun s W W' row ⟨h1, h2, h3⟩ hg hr => ⟨h1, h2, blk_kept h3 hg hr⟩

theorem blk_setCell_same {W : World} {b : Nat} {A : Array Value} {t : TypeId} {fr : Nat × Nat} (o : Nat) (v : Value) (h : W.heap[b]? = some (.cells A t fr)) : (W.setCell ⟨b, o, none⟩ v).heap[b]? = some (.cells (A.setIfInBounds o v) t fr) := by
  simp only [World.setCell, Array.getElem?_modify, if_pos, h]
  rfl

theorem usedSeqs_snoc (pre : List (Int × Pg)) (x : Int × Pg) : usedSeqs (pre ++ [x]) = usedSeqs pre ++ [x.2.seq] := by simp [usedSeqs]

theorem snoc_nodup {L : List Int} {s : Int} : (L ++ [s]).Nodup ↔ L.Nodup ∧ s ∉ L := by
  simp [List.nodup_append]
  intro _
  constructor
  · intro h hm
    exact h s hm rfl
  · intro h a ha e
    subst e
    exact h ha

theorem DifI.step {w W : World} {pre : List (Int × Pg)} {A : Array Value} (xi : Int) (xp : Pg)
    (hA1 : W.heap[w.heap.size + 1]? = some (.cells #[Value.bool false] 4 (0, 0))) (hA2 : W.heap[w.heap.size + 1 + 1]? = some (.cells A 335 (0, 0))) (hA3 : A.size = 48) (hA4 : ∀ (i : Nat) (x : Int), (usedSeqs pre)[i]? = some x → A[i]? = some (Value.int .i64 x))
    (hA5 : W.heap[w.heap.size + 1 + 1 + 1]? = some (.cells #[Value.int .i64 (pre.length : Int)] 3 (0, 0))) (hnd : (usedSeqs pre).Nodup) (hWs : w.heap.size + 1 + 1 + 1 + 1 < W.heap.size) (hlen : pre.length < 48) (hin : xp.seq ∉ usedSeqs pre) :
    DifI w (pre ++ [(xi, xp)]) ((W.setCell ⟨w.heap.size + 1 + 1, pre.length, none⟩ (.int .i64 xp.seq)).setCell ⟨w.heap.size + 1 + 1 + 1, 0, none⟩ (.int .i64 ((pre.length : Int) + 1))).drew := by
  have hul : (usedSeqs pre).length = pre.length := by simp [usedSeqs]
  refine ⟨⟨A.setIfInBounds pre.length (.int .i64 xp.seq), ?_, ?_, by simp [hA3], ?_, ?_⟩, ?_, ?_⟩
  · exact ((Below.heap_setCell _ _ _ _ (by simp)).trans (Below.heap_setCell _ _ _ _ (by simp))).trans hA1
  · exact (Below.heap_setCell _ _ _ _ (by simp)).trans (blk_setCell_same _ _ hA2)
  · intro i x hx
    rw [usedSeqs_snoc] at hx
    by_cases hi : i < pre.length
    · rw [List.getElem?_append_left (by omega)] at hx
      rw [Array.getElem?_setIfInBounds_ne (by omega)]
      exact hA4 i x hx
    · have hi2 : i = pre.length := by
        have := (List.getElem?_eq_some_iff.1 hx).1
        simp [hul] at this
        omega
      subst hi2
      rw [List.getElem?_append_right (by omega), hul] at hx
      simp at hx
      subst hx
      rw [Array.getElem?_setIfInBounds_self_of_lt (by omega)]
  · have h := blk_setCell_same (W := W.setCell ⟨w.heap.size + 1 + 1, pre.length, none⟩ (.int .i64 xp.seq)) 0 (.int .i64 ((pre.length : Int) + 1)) ((Below.heap_setCell _ _ _ _ (by simp)).trans hA5)
    rw [List.length_append]
    exact h
  · rw [usedSeqs_snoc]
    exact snoc_nodup.2 ⟨hnd, hin⟩
  · simpa [World.setCell, World.drew] using hWs

theorem heap4 (w : World) (o1 o2 o3 o4 : Obj) :
    ((((w.alloc o1).alloc o2).alloc o3).alloc o4).heap[w.heap.size]? = some o1 ∧ ((((w.alloc o1).alloc o2).alloc o3).alloc o4).heap[w.heap.size + 1]? = some o2 ∧
    ((((w.alloc o1).alloc o2).alloc o3).alloc o4).heap[w.heap.size + 1 + 1]? = some o3 ∧ ((((w.alloc o1).alloc o2).alloc o3).alloc o4).heap[w.heap.size + 1 + 1 + 1]? = some o4 := by
  have e : ((((w.alloc o1).alloc o2).alloc o3).alloc o4).heap = (((w.heap.push o1).push o2).push o3).push o4 := rfl
  rw [e]
  simp only [Array.getElem?_push, Array.size_push]
  refine ⟨?_, ?_, ?_, ?_⟩
  · rw [if_neg (by omega), if_neg (by omega), if_neg (by omega), if_pos trivial]
  · rw [if_neg (by omega), if_neg (by omega), if_pos trivial]
  · rw [if_neg (by omega), if_pos trivial]
  · rw [if_pos trivial]

set_option maxRecDepth 100000 in
set_option maxHeartbeats 1000000 in
theorem seqsDiffer_any (m : CC) (c : Nat) (hm : m.count = c) (hc : c ≤ 12) (w : World) :
    Calls Tryz.prog 193 #[.agg (ccA m)] w fun e w' => RetIff (usedSeqs (usedAll m c)).Nodup e ∧ Below w.heap.size w w' := by
  refine (callsIn_wide (n := 8)).1 ?_
  refine callsIn_of_wp_marks Tryz.func193 rfl trivial ?_ rfl
  simp only [Tryz.ntmps193, List.size_toArray, List.length_cons, List.length_nil, Nat.reduceAdd, Nat.reduceSub, Array.replicate_succ, Array.replicate_zero, List.push_toArray, List.append_toArray, List.nil_append, List.cons_append]
  gi_wp2_with (first | (refine wpListIn_load_mid rfl 128 _ rfl w.heap.size 0 rfl (ccA m) 205 (ccA_size m) (fun j hj => by rw [Nat.zero_add]; exact cell_of_row _ _ _ _ _ _ (heap4 w _ _ _ _).1) _ Tryz.underlying128 rfl sizeCC' ?_) | (refine ⟨trivial, ?_⟩; gi_at_call 194; refine (usedPages_in Fence.wide _ trivial rfl m _).mono ?_; rintro e w' ⟨rfl, rfl⟩))
  obtain ⟨ZA, hZA⟩ : ∃ ZA : Array Value, ZA = #[Value.int .i64 0, Value.int .i64 0, Value.int .i64 0, Value.int .i64 0, Value.int .i64 0, Value.int .i64 0, Value.int .i64 0, Value.int .i64 0, Value.int .i64 0, Value.int .i64 0, Value.int .i64 0, Value.int .i64 0, Value.int .i64 0, Value.int .i64 0, Value.int .i64 0, Value.int .i64 0, Value.int .i64 0, Value.int .i64 0, Value.int .i64 0, Value.int .i64 0, Value.int .i64 0, Value.int .i64 0, Value.int .i64 0, Value.int .i64 0, Value.int .i64 0, Value.int .i64 0, Value.int .i64 0, Value.int .i64 0, Value.int .i64 0, Value.int .i64 0, Value.int .i64 0, Value.int .i64 0, Value.int .i64 0, Value.int .i64 0, Value.int .i64 0, Value.int .i64 0, Value.int .i64 0, Value.int .i64 0, Value.int .i64 0, Value.int .i64 0, Value.int .i64 0, Value.int .i64 0, Value.int .i64 0, Value.int .i64 0, Value.int .i64 0, Value.int .i64 0, Value.int .i64 0, Value.int .i64 0] := ⟨_, rfl⟩
  rw [← hZA]
  have hZs : ZA.size = 48 := by rw [hZA]; rfl
  clear hZA
  obtain ⟨W4, hW4⟩ : ∃ W4, W4 = (((w.alloc (.cells (ccA m) 128)).alloc (.cells #[.bool false] 4)).alloc (.cells ZA 335)).alloc (.cells #[.int .i64 0] 3) := ⟨_, rfl⟩
  have h4 := heap4 w (.cells (ccA m) 128) (.cells #[.bool false] 4) (.cells ZA 335) (.cells #[.int .i64 0] 3)
  have hs4 : W4.heap.size = w.heap.size + 1 + 1 + 1 + 1 := by rw [hW4]; simp
  have hB4 : Below w.heap.size w W4 := by
    rw [hW4]
    exact ((((Below.refl _ w).alloc (Nat.le_refl _) _).alloc (by simp) _).alloc (by simp; omega) _).alloc (by simp; omega) _
  rw [← hW4] at h4 ⊢
  clear hW4
  obtain ⟨_, h41, h42, h43⟩ := h4
  have hbel : Below w.heap.size w (W4.alloc (.cells (ccA m) 128)) := hB4.alloc hB4.size _
  have hbox : ∀ i, (W4.alloc (.cells (ccA m) 128)).cell? ⟨w.heap.size + 1 + 1 + 1 + 1, i, none⟩ = (ccA m)[i]? := fun i => by rw [← hs4]; simp
  refine wpIn_rangeFunc_ownH rfl (by omega) (gf := 254) (lb := #[.pointer (some ⟨w.heap.size + 1 + 1 + 1 + 1, 0, none⟩)]) rfl trivial (enters_of Tryz.func254 (by kernel_rfl) rfl)
    (used_stops Fence.wide _ trivial rfl (by omega) (w.heap.size + 1 + 1 + 1 + 1) c m hm hc _ (by simp; omega) hbox) KeepB.trans (keepB_b (by simp; omega)) (Below.refl _ _) (fun _ => rfl)
    (fun pre W => DifI w pre W ∧ Below w.heap.size w W) (fun c pre W => DifX w c pre W ∧ Below w.heap.size w W)
    (OwnFrom.and (Own.from (DifI.own w) _) (ownFrom_below (Nat.le_refl _) (by simp; omega)))
    (fun c => OwnFrom.and (Own.from (DifX.own w c) _) (ownFrom_below (Nat.le_refl _) (by simp; omega)))
    ⟨⟨⟨ZA, by rw [Below.heap_alloc _ _ _ (by rw [hs4]; omega)]; exact h41, by rw [Below.heap_alloc _ _ _ (by rw [hs4]; omega)]; exact h42, hZs, fun i x hx => by simp [usedSeqs] at hx, by rw [Below.heap_alloc _ _ _ (by rw [hs4]; omega)]; exact h43⟩, by simp [usedSeqs], by simp; omega⟩, hbel⟩
    (fun x a' W => ∃ Bp, w.heap.size + 1 + 1 + 1 + 1 < Bp ∧ W.heap[Bp]? = some (.cells #[Value.bool x.2.used, Value.int .i64 x.2.log, Value.int .i64 x.2.seq, Value.string x.2.data] 122 (0, 0)) ∧
      a' = { tmps := #[.agg (ccA m), .pointer (some ⟨w.heap.size, 0, none⟩), .pointer (some ⟨w.heap.size + 1, 0, none⟩), .pointer (some ⟨w.heap.size + 1 + 1, 0, none⟩), .pointer (some ⟨w.heap.size + 1 + 1 + 1, 0, none⟩), undef, .pointer (some ⟨Bp, 0, none⟩), .agg (ccA m), .func (.func 254) #[] #[.pointer (some ⟨w.heap.size + 1 + 1 + 1 + 1, 0, none⟩)], .int .i64 x.1, .agg #[Value.bool x.2.used, Value.int .i64 x.2.log, Value.int .i64 x.2.seq, Value.string x.2.data], undef, undef, undef, undef, undef, undef, undef, undef, undef, undef, undef], defers := [] })
    (fun x a' => Own.from (fun _ W W' row ⟨Bp, h1, h2, h3⟩ hg hr => ⟨Bp, h1, blk_kept h2 hg hr, h3⟩) _) ?assign ?body ?done ?stop
  case assign =>
    rintro l pre x W K ⟨hi, hb⟩ hK
    obtain ⟨xi, xp⟩ := x
    simp only [encU]
    gi_wp2
    have hWs : w.heap.size + 1 + 1 + 1 + 1 < W.heap.size := hi.2.2
    exact hK _ _ ((KeepsOthers.alloc _ _).from _) (KeepB.alloc _ _ hWs) ⟨DifI.own w pre W _ none hi (World.grownBy_alloc W _ none) (fun r e => by cases e), hb.alloc hb.size _⟩ ⟨W.heap.size, hWs, World.alloc_heap_new _ _, rfl⟩
  case body =>
    rintro l pre ⟨xi, xp⟩ a' W hl hlr ⟨⟨⟨A, hA1, hA2, hA3, hA4, hA5⟩, hnd, hWs⟩, hb⟩ ⟨Bp, hBp, hpb, rfl⟩ hlen
    have hmix : Tryz.prog.follows .mixedOrders = true := by kernel_rfl
    have hcN := cell_of_row _ _ 0 _ _ _ hA5
    have hcS := cell_of_row _ _ 2 _ _ _ hpb
    have hfN := frozen_of_row _ _ 0 _ _ hA5
    have hints : IntsAt W.drew (some ⟨w.heap.size + 1 + 1, 0, none⟩) (usedSeqs pre) := fun i x hx => ⟨_, _, rfl, by rw [Nat.zero_add]; exact (cell_of_row _ _ _ _ _ _ hA2).trans (hA4 i x hx)⟩
    have hul : (usedSeqs pre).length = pre.length := by simp [usedSeqs]
    have hcn := contains_any (some ⟨w.heap.size + 1 + 1, 0, none⟩) 48 (usedSeqs pre) xp.seq W.drew hints (by omega)
    rw [hul] at hcn
    have HCN := hide hcn
    have HA := hide (And.intro hA4 hpb)
    have HN := hide hnd
    clear hcn hA4 hnd hints hpb hul
    have hln : (pre.length : Int) ≤ 48 := by omega
    have hln2 : (pre.length : Int) < 48 := by omega
    obtain ⟨v0, hv0⟩ := getElem?_ex (l := A.toList) (k := pre.length) (by simp [hA3]; omega)
    have hcA : W.cell? ⟨w.heap.size + 1 + 1, pre.length, none⟩ = some v0 := (cell_of_row _ _ _ _ _ _ hA2).trans (by simpa using hv0)
    have hfA := frozen_of_row _ _ pre.length _ _ hA2
    have hcF := cell_of_row _ _ 0 _ _ _ hA1
    have hfF := frozen_of_row _ _ 0 _ _ hA1
    gi_wp2
    gi_region_with_o (refine ⟨trivial, ?_⟩; gi_at_call 205; refine (CallsIn.inRound l (callsIn_wide.2 (unhide HCN))).mono ?_; rintro e w' ⟨rfl, rfl⟩)
    all_goals (
      by_cases hin : xp.seq ∈ usedSeqs pre
      · simp only [hin, decide_true]
        gi_wp2
        refine ⟨((KeepsOthers.setCell _ _ _).from _).trans ((KeepsOthers.drew _).from _), ⟨rfl, ?_, ?_⟩, ?_⟩
        · rw [usedSeqs_snoc]
          exact fun h => (snoc_nodup.1 h).2 hin
        · exact blk_setCell_same 0 (.bool false) hA1
        · exact (hb.setCell (p := ⟨w.heap.size + 1, 0, none⟩) (Nat.le_succ _) _).drew
      · simp only [hin, decide_false]
        gi_wp2
        refine ⟨(((KeepsOthers.setCell _ _ _).from _).trans ((KeepsOthers.setCell _ _ _).from _)).trans ((KeepsOthers.drew _).from _), ((KeepB.setCell _ _ _ (by show w.heap.size + 1 + 1 + 1 + 1 ≠ w.heap.size + 1 + 1; omega)).trans (KeepB.setCell _ _ _ (by show w.heap.size + 1 + 1 + 1 + 1 ≠ w.heap.size + 1 + 1 + 1; omega))).trans (KeepB.drew _), DifI.step xi xp hA1 hA2 hA3 (unhide HA).1 hA5 (unhide HN) hWs hlen hin, ?_⟩
        exact ((hb.setCell (p := ⟨w.heap.size + 1 + 1, pre.length, none⟩) (by simp; omega) _).setCell (p := ⟨w.heap.size + 1 + 1 + 1, 0, none⟩) (by simp; omega) _).drew)
  case done =>
    rintro D ys W hD rfl ⟨⟨⟨A, hA1, hA2, hA3, hA4, hA5⟩, hnd, hWs⟩, hb⟩ hK
    have hcF := cell_of_row _ _ 0 _ _ _ hA1
    have hfF := frozen_of_row _ _ 0 _ _ hA1
    have HA := hide (And.intro hA4 hnd)
    clear hA4 hnd
    gi_wp2
    have hK' := (KeepsOthers.setCell W ⟨w.heap.size + 1, 0, none⟩ (.bool true)).same D _ hK rfl
    refine ⟨by simp, .inl ⟨_, _, rfl, run_takeDeferred hK', ?_⟩⟩
    have hc5 := cell_kept (World.cell?_setCell_same' W ⟨w.heap.size + 1, 0, none⟩ (.bool true) (by rw [hcF]; rfl)) (grownBy_putObj' _ D (.deferred none)) (fun r e => by cases e; exact ⟨_, hK', rfl⟩)
    refine ⟨.bool true, ?_, RetIff.yes (unhide HA).2, (hb.setCell (p := ⟨w.heap.size + 1, 0, none⟩) (Nat.le_succ _) _).trans (belowK_b (w := w) (Nat.le_refl _) _ D _ _ (by simp at hD; omega) hK' rfl rfl)⟩
    simp [results, Tryz.f193, go_sem, hc5]
  case stop =>
    rintro D c' pre W hD hpre ⟨⟨rfl, hnn, hA1⟩, hb⟩ hK
    have hcF := cell_of_row _ _ 0 _ _ _ hA1
    have HA := hide hnn
    clear hnn
    gi_wp2
    refine ⟨by simp, .inl ⟨_, _, rfl, run_takeDeferred hK, ?_⟩⟩
    have hc5 := cell_kept hcF (grownBy_putObj' _ D (.deferred none)) (fun r e => by cases e; exact ⟨_, hK, rfl⟩)
    refine ⟨.bool false, ?_, RetIff.no ?_, hb.trans (belowK_b (w := w) (Nat.le_refl _) W D _ _ (by simp at hD; omega) hK rfl rfl)⟩
    · simp [results, Tryz.f193, go_sem, hc5]
    · intro hno
      obtain ⟨t, ht⟩ := hpre
      rw [← ht] at hno
      exact unhide HA ((List.nodup_append.1 (by simpa [usedSeqs] using hno : (usedSeqs pre ++ usedSeqs t).Nodup)).1)
end Go.Proofs.YtjgcjeaplckbbaaGreatDoor

/- The first page that is not used: plain words. No program is named here. -/
namespace Go.Proofs.YtjgcjeaplckbbaaGreatDoor
open Go.RowKit
set_option linter.unusedVariables false

/-- r is the first k of n with u k false, or -1. -/
def NextIs (u : Nat → Bool) (n : Nat) (r : Int) : Prop := (∃ k : Nat, k < n ∧ r = k ∧ u k = false ∧ ∀ j, j < k → u j = true) ∨ (r = -1 ∧ ∀ j, j < n → u j = true)
theorem NextIs.one {u : Nat → Bool} {n : Nat} {r s : Int} (h : NextIs u n r) (k : NextIs u n s) : r = s := by
  rcases h with ⟨i, hi, rfl, h1, h2⟩ | ⟨rfl, h1⟩
  · rcases k with ⟨j, hj, rfl, k1, k2⟩ | ⟨rfl, k1⟩
    · by_cases e : i < j
      · have := k2 i e; rw [h1] at this; cases this
      · by_cases e2 : j < i
        · have := h2 j e2; rw [k1] at this; cases this
        · omega
    · have := k1 i hi; rw [h1] at this; cases this
  · rcases k with ⟨j, hj, rfl, k1, k2⟩ | ⟨rfl, k1⟩
    · have := h1 j hj; rw [k1] at this; cases this
    · rfl

theorem NextIs.congr {u v : Nat → Bool} {n : Nat} {r : Int} (h : NextIs u n r) (e : ∀ k, k < n → u k = v k) : NextIs v n r := by
  rcases h with ⟨i, hi, rfl, h1, h2⟩ | ⟨rfl, h1⟩
  · exact .inl ⟨i, hi, rfl, (e i hi) ▸ h1, fun j hj => (e j (by omega)) ▸ h2 j hj⟩
  · exact .inr ⟨rfl, fun j hj => (e j hj) ▸ h1 j hj⟩

def pu (b : Bk) (k : Nat) : Bool := (pagesF b.pages k).used

/-- What NextOf answers. -/
def NextOfIs (bs : List Bk) (blk r : Int) : Prop :=
  (¬ (ChipOk bs ∧ 0 ≤ blk ∧ blk ≤ (bs.length : Int) - 1) ∧ r = -1) ∨ ((ChipOk bs ∧ 0 ≤ blk ∧ blk ≤ (bs.length : Int) - 1) ∧ ∃ b, bs[blk.toNat]? = some b ∧ NextIs (pu b) 4 r)
theorem NextOfIs.one {bs : List Bk} {blk r s : Int} (h : NextOfIs bs blk r) (k : NextOfIs bs blk s) : r = s := by
  rcases h with ⟨h1, rfl⟩ | ⟨h1, b, hb, h2⟩
  · rcases k with ⟨_, rfl⟩ | ⟨k1, _⟩
    · rfl
    · exact absurd k1 h1
  · rcases k with ⟨k1, _⟩ | ⟨_, c, hc, k2⟩
    · exact absurd h1 k1
    · rw [hb] at hc; cases hc; exact h2.one k2
end Go.Proofs.YtjgcjeaplckbbaaGreatDoor

/- Lists of int64 that a call has built itself: no program is named here. -/
namespace Go.Proofs.YtjgcjeaplckbbaaGreatDoor
open Go.RowKit
set_option linter.unusedVariables false
set_option linter.unusedSimpArgs false

def ints (L : List Int) : List Value := L.map (Value.int .i64)
theorem ints_length (L : List Int) : (ints L).length = L.length := by simp [ints]

/-- The slice v holds the numbers L, in a row that was made from block B on and may be written. -/
def OwnInts (w : World) (t : TypeId) (B : Nat) (v : Value) (L : List Int) : Prop := w.ownsRow B t 1 v L.length (ints L)

theorem OwnInts.kept {w w' : World} {t : TypeId} {B : Nat} {v : Value} {L : List Int} (h : OwnInts w t B v L) (hb : Below w.heap.size w w') : OwnInts w' t B v L := by
  have hg : w.grownBy w' none := ⟨hb.os, hb.tape, hb.output, hb.size, fun k hk _ => hb.block k hk⟩
  refine World.ownsRow.kept h hg ?_
  cases hv : v.ownBlock with
  | none => exact Or.inl rfl
  | some k => exact Or.inr (by simp)

/-- The ints from the place on may be written. -/
def IntsMine (w : World) (b o n : Nat) : Prop := ∀ i, i < n → (∃ x : Int, w.cell? ⟨b, o + i, none⟩ = some (.int .i64 x)) ∧ w.frozen? ⟨b, o + i, none⟩ = false

/-- The list may be written, and lies from block B on. -/
def MineFrom (w : World) (a : Option Addr) (n B : Nat) : Prop := (a = none ∧ n = 0) ∨ ∃ g, a = some ⟨g, 0, none⟩ ∧ B ≤ g ∧ g < w.heap.size ∧ IntsMine w g 0 n

theorem OwnInts.form {w : World} {t : TypeId} {B : Nat} {v : Value} {L : List Int} (h : OwnInts w t B v L) : ∃ a c, v = .slice a L.length c ∧ IntsAt w a L ∧ MineFrom w a L.length B := by
  have h0 := h
  rcases h.2 with ⟨hv, hl⟩ | ⟨g, cap, cur, rfl, hb, hg, _⟩
  · exact ⟨none, 0, by rw [hv, hl], fun i x hx => by have := (List.getElem?_eq_some_iff.1 hx).1; omega, .inl ⟨rfl, hl⟩⟩
  · have hcell : ∀ i x, L[i]? = some x → w.cell? ⟨g, 0 + i, none⟩ = some (.int .i64 x) := fun i x hx => by
      have hi := (List.getElem?_eq_some_iff.1 hx).1
      rw [Nat.zero_add, World.ownsRow.cellAt h0 i (by omega)]
      simp [ints, hx]
    refine ⟨_, _, rfl, fun i x hx => ⟨g, 0, rfl, hcell i x hx⟩, .inr ⟨g, rfl, hb, (Array.getElem?_eq_some_iff.1 hg).1, fun i hi => ⟨?_, World.ownsRow.frozenAt h0 _⟩⟩⟩
    obtain ⟨x, hx⟩ := getElem?_ex (l := L) (k := i) hi
    exact ⟨x, hcell i x hx⟩

theorem IntsMine.of_block {w w' : World} {g o n : Nat} (h : IntsMine w g o n) (e : w'.heap[g]? = w.heap[g]?) : IntsMine w' g o n := fun i hi => by
  obtain ⟨⟨x, hx⟩, hf⟩ := h i hi
  refine ⟨⟨x, (World.cell?_of_block (w := w) (a := ⟨g, o + i, none⟩) e).trans hx⟩, ?_⟩
  have : w'.frozen? ⟨g, o + i, none⟩ = w.frozen? ⟨g, o + i, none⟩ := by simp [World.frozen?, e]
  exact this.trans hf

theorem MineFrom.below {w w' : World} {a : Option Addr} {n B : Nat} (h : MineFrom w a n B) (hb : Below w.heap.size w w') : MineFrom w' a n B := by
  rcases h with h | ⟨g, ha, h1, h2, h3⟩
  · exact .inl h
  · exact .inr ⟨g, ha, h1, Nat.lt_of_lt_of_le h2 hb.size, h3.of_block (hb.block g h2)⟩
theorem MineFrom.touch {S : Nat → Prop} {w w' : World} {a : Option Addr} {n B : Nat} (h : MineFrom w a n B) (hT : Touch S w w') (hS : ∀ k, S k → k < B) : MineFrom w' a n B := by
  rcases h with h | ⟨g, ha, h1, h2, h3⟩
  · exact .inl h
  · exact .inr ⟨g, ha, h1, Nat.lt_of_lt_of_le h2 hT.size, h3.of_block (hT.block g h2 (fun hs => by have := hS g hs; omega))⟩
theorem intsAt_touch {S : Nat → Prop} {w w' : World} {a : Option Addr} {L : List Int} {B : Nat} (h : IntsAt w a L) (hM : MineFrom w a L.length B) (hT : Touch S w w') (hS : ∀ k, S k → k < B) : IntsAt w' a L := by
  intro i x hx
  obtain ⟨b, o, ha, hc⟩ := h i x hx
  rcases hM with ⟨hn, _⟩ | ⟨g, ha', h1, h2, _⟩
  · rw [hn] at ha; cases ha
  · rw [ha] at ha'
    cases ha'
    exact ⟨b, 0, ha, (World.cell?_of_block (w := w) (a := ⟨b, 0 + i, none⟩) (hT.block b h2 (fun hs => by have := hS b hs; omega))).trans hc⟩

end Go.Proofs.YtjgcjeaplckbbaaGreatDoor

/- The blocks that are free, as plain lists say it; lists of int64 that append has built. No program is named here. -/
namespace Go.Proofs.YtjgcjeaplckbbaaGreatDoor
open Go.RowKit
set_option linter.unusedVariables false

/-- Block i has a first page that is used. -/
def begun (bs : List Bk) (i : Nat) : Bool := (bs[i]?.map fun b => pu b 0).getD false
def freeTo (bs : List Bk) (k : Nat) : List Int := ((List.range k).filter fun i => !begun bs i).map fun (i : Nat) => (i : Int)
theorem freeTo_succ (bs : List Bk) (k : Nat) : freeTo bs (k + 1) = freeTo bs k ++ if begun bs k then [] else [(k : Int)] := by
  unfold freeTo
  rw [List.range_succ, List.filter_append, List.map_append]
  congr 1
  by_cases h : begun bs k <;> simp [h]
theorem freeTo_length (bs : List Bk) (k : Nat) : (freeTo bs k).length ≤ k := by
  have := List.length_filter_le (fun i => !begun bs i) (List.range k)
  simpa [freeTo] using this

/-- What FreeOf answers. -/
def FreeIs (bs : List Bk) (L : List Int) : Prop := (ChipOk bs ∧ L = freeTo bs bs.length) ∨ (¬ ChipOk bs ∧ L = [])
theorem FreeIs.one {bs : List Bk} {L M : List Int} (h : FreeIs bs L) (k : FreeIs bs M) : L = M := by
  rcases h with ⟨h1, rfl⟩ | ⟨h1, rfl⟩
  · rcases k with ⟨_, rfl⟩ | ⟨k1, _⟩
    · rfl
    · exact absurd h1 k1
  · rcases k with ⟨k1, _⟩ | ⟨_, rfl⟩
    · exact absurd k1 h1
    · rfl
theorem FreeIs.length {bs : List Bk} {L : List Int} (h : FreeIs bs L) : L.length ≤ 12 := by
  rcases h with ⟨h1, rfl⟩ | ⟨h1, rfl⟩
  · have := freeTo_length bs bs.length
    have := h1.count
    omega
  · simp

end Go.Proofs.YtjgcjeaplckbbaaGreatDoor

/- The model's FreeOf. -/
namespace Go.Proofs.YtjgcjeaplckbbaaGreatDoor
open Go.RowKit
set_option linter.unusedVariables false
set_option linter.unusedSimpArgs false

theorem infoInt64 : (Tryz.prog.info? 2).map (fun i => (i.zero, i.size, i.bytes)) = some (some (.int .i64 0), 1, 8) := by kernel_rfl

set_option maxRecDepth 100000 in
set_option maxHeartbeats 1000000 in
theorem l1Free_any (a : Option Addr) (c : Nat) (bs : List Bk) (n : Nat) (hl : bs.length = n) (hok : ChipOk bs) (w : World) (h : BlocksAt w a bs) :
    Calls Tryz.prog 272 #[.agg #[.slice a n c]] w fun e w' => ∃ v, e = .returned v ∧ OwnInts w' 2 (w.heap.size + 1) v (freeTo bs n) ∧ Below w.heap.size w w' := by
  have hn12 : n ≤ 12 := by have := hok.count; omega
  go_enter Tryz.func272, Tryz.ntmps272
  go_wp2
  go_loopw [3, 4] (fun v i wr => ∃ k : Nat, k ≤ n ∧ i = .int .i64 k ∧ OwnInts wr 2 (w.heap.size + 1) v (freeTo bs k) ∧ Below (w.heap.size + 1) (w.alloc (.cells #[.slice a n c] 51)) wr) (fun _ i _ => n - (intOf i).toNat)
  case atStart =>
    refine ⟨0, Nat.zero_le _, rfl, ?_, ?_⟩
    · have := World.ownsRow_lit (base := w.heap.size + 1) (e := 2) (size := 1) (w.alloc (.cells #[.slice a n c] 51)) #[] 0 (by simp) (by unfold maxLen; omega) rfl
      simpa [OwnInts, ints, freeTo] using this
    · exact (Below.refl _ _).alloc (by simp) _
  case round =>
    obtain ⟨k, hk, rfl, hO, hB⟩ := hrel
    have hsz := hB.size
    simp at hsz
    have hbox : wr.cell? ⟨w.heap.size, 0, none⟩ = some (.slice a n c) := by
      rw [hB.cell (p := ⟨w.heap.size, 0, none⟩) (by simp)]
      simp
    by_cases hlt : k < n
    · obtain ⟨x, hx⟩ := getElem?_ex (l := bs) (k := k) (by omega)
      have hW : Below w.heap.size w wr := ((Below.refl _ w).alloc (Nat.le_refl _) _).trans (hB.mono (by omega))
      obtain ⟨g, o, pa, pc, rfl, hcw, hcp, hpa⟩ := (h.below hW (Nat.le_refl _)) k x hx
      have h4 := (hok.block x (List.mem_of_getElem? hx)).four
      rw [h4] at hcp
      obtain ⟨p, hp⟩ := getElem?_ex (l := x.pages) (k := 0) (by omega)
      obtain ⟨pb, po, rfl, c0, _⟩ := hpa 0 p hp
      have hbg : begun bs k = p.used := by simp [begun, hx, pu, pagesF, hp]
      have hst := freeTo_succ bs k
      have hln := freeTo_length bs k
      rw [hbg] at hst
      obtain ⟨u, lg, s, d⟩ := p
      simp only at c0 hst
      rw [Nat.zero_mul, Nat.add_zero] at c0
      have HO := hide hO
      have HS := hide hst
      clear hO hst hbg hp hpa h hok
      cases u with
      | true =>
        go_wp2
        go_roundw
        case rel =>
          refine ⟨k + 1, by omega, by go_num, ?_, hB⟩
          rw [unhide HS]
          simpa using unhide HO
        case measure => simp [intOf]; omega
      | false =>
        obtain ⟨i0, hi, hz0, hz1, hz2⟩ := info_parts infoInt64
        obtain ⟨X, hX⟩ : ∃ X, X = ints (freeTo bs k) := ⟨_, rfl⟩
        obtain ⟨m, hm⟩ : ∃ m, m = (freeTo bs k).length := ⟨_, rfl⟩
        have hR : wr.ownsRow (w.heap.size + 1) 2 1 u3 m X := by rw [hX, hm]; exact unhide HO
        rw [← hm] at hln
        have HX := hide (And.intro hX hm)
        clear hX hm
        go_wp2_with (refine wpList_append_lies _ rfl (.tmp 23) (.tmp 25) 24 rfl (w.heap.size + 1) 2 i0 _ 1 8 Tryz.underlying24 hi hz0 hz1 hz2 rfl (by decide) u3 m X (by simp [Act.eval]) (by exact hR.alloc _) ⟨wr.heap.size, 0, none⟩ 1 1 [.int .i64 (k : Int)] (by simp [Act.eval]) rfl (World.news_of_block (cs := #[.int .i64 (k : Int)]) (t := 2) (fr := (0, 0)) (by exact Go.Deep.blk_alloc_new _ _)) (by simp [Value.oneCell']) (by omega) (by unfold maxLen; omega) (by omega) (by simp; omega) (wr.heap.size + 1) (by simp) ?_; intro g1 cap w1 hown hgrow hat hlt1)
        go_roundw
        case rel =>
          refine ⟨k + 1, by omega, by go_num, ?_, ?_⟩
          · rw [unhide HS]
            obtain ⟨e1, e2⟩ := unhide HX
            rw [e1, e2] at hown
            rw [e2]
            simpa [OwnInts, ints] using hown
          · refine Below.grown (hB.alloc (by omega) _) hgrow (by simp; omega) (fun j e => ?_)
            exact (hR.lt j e).1
        case measure => simp [intOf]; omega
    · have hk' : k = n := by omega
      subst hk'
      have HO := hide hO
      clear hO h
      go_wp2
      go_ret
      exact ⟨_, rfl, unhide HO, ((Below.refl _ w).alloc (Nat.le_refl _) _).trans (hB.mono (by omega))⟩

end Go.Proofs.YtjgcjeaplckbbaaGreatDoor
