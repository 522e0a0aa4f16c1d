/- A map of numbers and places by logs, which the call itself has made: what it holds is said by the pages that came. -/
import Derived.Test.YtaelbmilicfkhaaMapP
import Derived.Test.YtaelbmilicfkhaaChecked
import Derived.Maps.OwnIn
import Derived.Maps.Views
namespace Go.Proofs.Ytaelbmilicfkhaa
open Go.RowKit Go.Maps
set_option linter.unusedVariables false
set_option linter.unusedSimpArgs false

def npD (s p : Int) : DataW Unit := .agg [.lit (.int .i64 s), .lit (.int .i64 p)]
def npElem (v : Value) : Option (DataW Unit × List MemPlace) :=
  match v with
  | .agg A => match A.toList with
    | [.int .i64 s, .int .i64 p] => some (npD s p, [])
    | _ => none
  | _ => none
theorem npElem_mk (s p : Int) : npElem (.agg #[.int .i64 s, .int .i64 p]) = some (npD s p, []) := rfl
theorem npElem_inv {v : Value} {z : DataW Unit × List MemPlace} (h : npElem v = some z) : ∃ s p : Int, v = .agg #[.int .i64 s, .int .i64 p] ∧ z = (npD s p, []) := by
  unfold npElem at h
  split at h
  · rename_i A
    split at h
    · rename_i s p e
      cases h
      refine ⟨s, p, ?_, rfl⟩
      congr 1
      exact Array.toList_inj.1 (by rw [e])
    · cases h
  · cases h
theorem npD_inj {s p s' p' : Int} (h : npD s p = npD s' p') : s = s' ∧ p = p' := by
  simp [npD] at h
  exact h

def npOf : Option (Int × Pg) → Int × Int
  | none => (0, 0)
  | some y => (y.2.seq, y.1)

theorem i64_keyed : Keyed Try.prog 2 := int_keyed Try.underlying2
theorem zeroNp (w : World) : (zeroValue 101).run Try.prog w = .ok (.agg #[.int .i64 0, .int .i64 0]) w := by kernel_rfl

/-- The map in block b holds, of each log, the newest of the pages xs. -/
def NpIs (W : World) (b n : Nat) (xs : List (Int × Pg)) : Prop :=
  ∃ D : DataW Unit, W.ownsMap Try.prog 2 npElem b n D ∧ IsMap D ∧ ∀ k : Int, 0 ≤ k → k ≤ 39 → D.atKey (.int .i64 k) (npD 0 0) = npD (npOf (newestAt xs k)).1 (npOf (newestAt xs k)).2 ∧ Maps.has D (.int .i64 k) = (newestAt xs k).isSome

theorem NpIs.lt {W : World} {b n : Nat} {xs : List (Int × Pg)} (h : NpIs W b n xs) : b < W.heap.size := by
  obtain ⟨D, h1, _⟩ := h
  exact h1.lt
theorem NpIs.made (w : World) : NpIs (w.alloc (.map #[] 0)) w.heap.size 0 [] :=
  ⟨_, World.ownsMap_made _ _ _ _, isMap_empty, fun k _ _ => ⟨rfl, rfl⟩⟩
theorem NpIs.kept {W W' : World} {b n : Nat} {xs : List (Int × Pg)} {row : Option Nat} (h : NpIs W b n xs) (hg : W.grownBy W' row) (hne : some b ≠ row) : NpIs W' b n xs := by
  obtain ⟨D, h1, h2⟩ := h
  exact ⟨D, h1.kept hg hne, h2⟩
theorem NpIs.mono {W : World} {b n n' : Nat} {xs : List (Int × Pg)} (h : NpIs W b n xs) (hn : n ≤ n') : NpIs W b n' xs := by
  obtain ⟨D, h1, h2⟩ := h
  exact ⟨D, h1.mono hn, h2⟩
theorem isKeyLit_int (k : Int) : WideAt.IsKeyLit (.int .i64 k) := by simp [WideAt.IsKeyLit]

theorem NpIs.step {W W' : World} {b n n' : Nat} {xs : List (Int × Pg)} {x : Int × Pg} {l : Int} (hl : x.2.log = l) {D : DataW Unit} (hM : IsMap D)
    (hD : ∀ k : Int, 0 ≤ k → k ≤ 39 → D.atKey (.int .i64 k) (npD 0 0) = npD (npOf (newestAt xs k)).1 (npOf (newestAt xs k)).2 ∧ Maps.has D (.int .i64 k) = (newestAt xs k).isSome)
    (hO : W'.ownsMap Try.prog 2 npElem b n' (D.put (.int .i64 l) (npD x.2.seq x.1))) (hn : newer (newestAt xs l) x.2.seq = true) : NpIs W' b n' (xs ++ [x]) := by
  refine ⟨_, hO, hM.put _ _, fun k h0 h1 => ?_⟩
  rw [newestAt_snoc]
  by_cases e : k = l
  · subst e
    rw [atKey_put_same hM (isKeyLit_int _), has_put_same hM (isKeyLit_int _)]
    unfold pick
    rw [if_pos ⟨hl, hn⟩]
    exact ⟨rfl, rfl⟩
  · have hne : (Lit.int .i64 k) ≠ .int .i64 l := by intro h; cases h; exact e rfl
    rw [atKey_put_other hne, has_put_other hne]
    unfold pick
    rw [if_neg (fun h => e (by rw [← h.1, hl]))]
    exact hD k h0 h1
theorem NpIs.same {W : World} {b n : Nat} {xs : List (Int × Pg)} (h : NpIs W b n xs) {x : Int × Pg} {l : Int} (hl : x.2.log = l) (hn : ¬ newer (newestAt xs l) x.2.seq = true) : NpIs W b n (xs ++ [x]) := by
  obtain ⟨D, h1, h2, h3⟩ := h
  refine ⟨D, h1, h2, fun k k0 k1 => ?_⟩
  rw [newestAt_snoc]
  unfold pick
  rw [if_neg (fun hc => hn (by rw [← hl, hc.1]; exact hc.2))]
  exact h3 k k0 k1

theorem keyOf_log {k : Int} (h0 : 0 ≤ k) (h1 : k ≤ 39) : keyOf Try.prog 2 (.int .i64 k) = some (.int .i64 k) := keyOf_int_mk Try.underlying2 (WalkArith.wf_i64 (by omega))

section
variable {F : Fence} {nF : Nat} (w : World) {ops : Array Oper} {rest : List Oper} {o : Oper} {a : Act} {Q : Exit → Act → World → Prop}
theorem wpListIn_lookup_np (hg : o.guard = none) (m x : Operand) (hop : o.op = Op.lookup 109 m x false) (b n : Nat) (xs : List (Int × Pg)) (hm : a.eval m = .map (some b)) (hN : NpIs w b n xs)
    (k : Int) (h0 : 0 ≤ k) (h1 : k ≤ 39) (hx : a.eval x = .int .i64 k)
    (hK : wpListIn F nF Try.prog ops Q rest (a.put o.dst (.agg #[.int .i64 (npOf (newestAt xs k)).1, .int .i64 (npOf (newestAt xs k)).2])) w) : wpListIn F nF Try.prog ops Q (o :: rest) a w := by
  refine wpListIn_plain hg fun K' hK' => ?_
  obtain ⟨D, hown, hM, hD⟩ := hN
  obtain ⟨v, ps, hrun, hv⟩ := hown.lookup i64_keyed Try.underlying109 (zeroNp w) (npElem_mk 0 0) (keyOf_log h0 h1)
  obtain ⟨s, p, rfl, hz⟩ := npElem_inv hv
  rw [(hD k h0 h1).1] at hz
  obtain ⟨e1, e2⟩ := npD_inj (congrArg Prod.fst hz)
  rw [e1, e2] at hK
  unfold Oper.wpIn
  refine ⟨by simp [Oper.about, hop], ?_⟩
  rw [Oper.semAt_plain F _ _ (by rw [hop]; intro c hc'; cases hc')]
  simp [execOp, hop, hm, hx, hrun, Result.andThen]
  exact hK' _ _ hK
theorem wpListIn_lookup_ok_np (hg : o.guard = none) (m x : Operand) (hop : o.op = Op.lookup 109 m x true) (b n : Nat) (xs : List (Int × Pg)) (hm : a.eval m = .map (some b)) (hN : NpIs w b n xs)
    (k : Int) (h0 : 0 ≤ k) (h1 : k ≤ 39) (hx : a.eval x = .int .i64 k)
    (hK : wpListIn F nF Try.prog ops Q rest (a.put o.dst (.tuple #[.agg #[.int .i64 (npOf (newestAt xs k)).1, .int .i64 (npOf (newestAt xs k)).2], .bool (newestAt xs k).isSome])) w) : wpListIn F nF Try.prog ops Q (o :: rest) a w := by
  obtain ⟨D, hown, hM, hD⟩ := hN
  refine wpListIn_lookup_own_ok w hg m x _ hop _ _ i64_keyed Try.underlying109 npElem (zeroNp w) _ _ (npElem_mk 0 0) b n D hm hown _ _ hx (keyOf_log h0 h1) (fun v ps hv => ?_)
  obtain ⟨s, p, rfl, hz⟩ := npElem_inv hv
  rw [(hD k h0 h1).1] at hz
  obtain ⟨e1, e2⟩ := npD_inj (congrArg Prod.fst hz)
  rw [e1, e2] at hK
  rw [(hD k h0 h1).2]
  exact hK
theorem wpListIn_update_np (hg : o.guard = none) (m x v : Operand) (hop : o.op = Op.mapUpdate 109 m x v) (b n : Nat) (xs : List (Int × Pg)) (hm : a.eval m = .map (some b)) (hN : NpIs w b n xs) (hn : n < maxLen)
    (y : Int × Pg) (h0 : 0 ≤ y.2.log) (h1 : y.2.log ≤ 39) (hx : a.eval x = .int .i64 y.2.log) (hv : a.eval v = .agg #[.int .i64 y.2.seq, .int .i64 y.1]) (hnw : newer (newestAt xs y.2.log) y.2.seq = true)
    (hK : ∀ w', NpIs w' b (n + 1) (xs ++ [y]) → w.grownBy w' (some b) → wpListIn F nF Try.prog ops Q rest (a.put o.dst undef) w') : wpListIn F nF Try.prog ops Q (o :: rest) a w := by
  obtain ⟨D, hown, hM, hD⟩ := hN
  refine wpListIn_mapUpdate_own w hg m x v _ hop _ _ i64_keyed Try.underlying109 npElem b n D hm hown hn _ _ _ hx hv (keyOf_log h0 h1) _ _ (npElem_mk _ _) (fun w' h2 h3 => ?_)
  exact hK w' (NpIs.step (W := w) (n := n) rfl hM hD h2 hnw) h3
end
end Go.Proofs.Ytaelbmilicfkhaa
