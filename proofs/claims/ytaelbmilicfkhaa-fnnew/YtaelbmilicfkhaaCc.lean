/- A chip held in arrays: 205 cells in one row. No program is named here. -/
import Derived.Test.YtaelbmilicfkhaaOwn
import Derived.Laws.Tables
import Derived.Laws.Rows
import Derived.Laws.CopyRow
namespace Go.Proofs.Ytaelbmilicfkhaa
open Go.RowKit
set_option linter.unusedVariables false
set_option linter.unusedSimpArgs false

structure CC where
  count : Int
  wear : Nat → Int
  page : Nat → Nat → Pg

/-- What stands in cell i. -/
def ccF (m : CC) (i : Nat) : Value :=
  if i = 0 then .int .i64 m.count
  else if (i - 1) % 17 = 0 then .int .i64 (m.wear ((i - 1) / 17))
  else pgV (m.page ((i - 1) / 17) (((i - 1) % 17 - 1) / 4)) (((i - 1) % 17 - 1) % 4)
def ccA (m : CC) : Array Value := Array.ofFn (n := 205) fun i => ccF m i.val

theorem ccA_size (m : CC) : (ccA m).size = 205 := by simp [ccA]
theorem ccA_get (m : CC) {i : Nat} (hi : i < 205) : (ccA m)[i]? = some (ccF m i) := by simp [ccA, hi]
theorem ccA_count (m : CC) : (ccA m)[0]? = some (.int .i64 m.count) := by rw [ccA_get m (by omega)]; rfl
theorem ccA_wear (m : CC) {b : Nat} (hb : b < 12) : (ccA m)[1 + b * 17]? = some (.int .i64 (m.wear b)) := by
  rw [ccA_get m (by omega)]
  unfold ccF
  rw [if_neg (by omega), if_pos (by omega), show (1 + b * 17 - 1) / 17 = b by omega]
theorem ccA_page (m : CC) {b k j : Nat} (hb : b < 12) (hk : k < 4) (hj : j < 4) : (ccA m)[1 + b * 17 + 1 + k * 4 + j]? = some (pgV (m.page b k) j) := by
  rw [ccA_get m (by omega)]
  unfold ccF
  have h4 : k = 0 ∨ k = 1 ∨ k = 2 ∨ k = 3 := by omega
  have e1 : (1 + b * 17 + 1 + k * 4 + j - 1) / 17 = b := by rcases h4 with rfl | rfl | rfl | rfl <;> omega
  have e2 : (1 + b * 17 + 1 + k * 4 + j - 1) % 17 = 1 + k * 4 + j := by rcases h4 with rfl | rfl | rfl | rfl <;> omega
  rw [if_neg (by omega), if_neg (by omega), e1, e2, show (1 + k * 4 + j - 1) / 4 = k by omega, show (1 + k * 4 + j - 1) % 4 = j by omega]

theorem pgV_one (p : Pg) (j : Nat) : (pgV p j).oneCell' = true := by
  match j with
  | 0 => rfl
  | 1 => rfl
  | 2 => rfl
  | _ + 3 => rfl
theorem ccF_one (m : CC) (i : Nat) : (ccF m i).oneCell' = true := by
  unfold ccF
  split
  · rfl
  · split
    · rfl
    · exact pgV_one _ _
theorem ccA_one (m : CC) : ∀ v ∈ (ccA m).toList, v.oneCell' = true := by
  intro v hv
  have hv' : v ∈ ccA m := by simpa using hv
  obtain ⟨i, hi, rfl⟩ := Array.mem_iff_getElem.1 hv'
  simp only [ccA, Array.getElem_ofFn]
  exact ccF_one _ _

/-- A new row is written from end to end. -/
theorem storeNew (P : Program) (W : World) (G : Nat) (hG : W.heap.size = G) (cur : Array Value) (t : TypeId) (vs : List Value) (hl : vs.length = cur.size) (h1 : ∀ v ∈ vs, v.oneCell' = true) :
    (storeCells ⟨G, 0, none⟩ vs).run P (W.alloc (.cells cur t)) = .ok () (W.alloc (.cells vs.toArray t)) := by
  subst hG
  have hg : (W.alloc (.cells cur t)).heap[W.heap.size]? = some (.cells cur t (0, 0)) := Go.Deep.blk_alloc_new _ _
  rw [run_storeCells_at P W.heap.size 0 t vs 0 cur _ hg (by omega) h1]
  congr 1
  simp only [Nat.zero_add, List.take_zero, List.nil_append]
  rw [List.drop_eq_nil_of_le (by simp [hl]), List.append_nil]
  unfold World.setRow World.alloc
  congr 1
  apply Array.ext
  · simp
  · intro i h1 h2
    simp only [Array.getElem_modify, Array.getElem_push]
    by_cases e : W.heap.size = i
    · subst e; simp
    · have : i < W.heap.size := by simp at h2; omega
      simp [e, this]

/-- The pages of a block, as a list. -/
def ccPs (m : CC) (b : Nat) : List Pg := [m.page b 0, m.page b 1, m.page b 2, m.page b 3]
/-- The blocks that are there, as a list. -/
def ccBs (m : CC) (n : Nat) : List Bk := (List.range n).map fun b => ⟨m.wear b, ccPs m b⟩
theorem ccBs_length (m : CC) (n : Nat) : (ccBs m n).length = n := by simp [ccBs]
theorem ccBs_at (m : CC) {n b : Nat} (hb : b < n) : (ccBs m n)[b]? = some ⟨m.wear b, ccPs m b⟩ := by simp [ccBs, hb]
theorem ccPs_at (m : CC) (b : Nat) {k : Nat} (hk : k < 4) : (ccPs m b)[k]? = some (m.page b k) := by
  have h4 : k = 0 ∨ k = 1 ∨ k = 2 ∨ k = 3 := by omega
  rcases h4 with rfl | rfl | rfl | rfl <;> rfl

/-- copy of four pages out of the middle of a row into a row that was made for them. -/
theorem copy_pages (P : Program) (w : World) (dT sT ty elem : TypeId) (g b : Nat) (o : Nat) (cur : Array Value) (t : TypeId) (ps : List Pg) (hps : ps.length = 4)
    (hu : P.underlying dT = some (.slice elem)) (hs : (P.info? elem).map (·.size) = some 4)
    (hg : w.heap[g]? = some (.cells cur t (0, 0))) (hcur : cur.size = 16)
    (hsrc : ∀ k p, ps[k]? = some p → ∀ j, j < 4 → w.cell? ⟨b, o + (k * 4 + j), none⟩ = some (pgV p j)) :
    ∃ C : Array Value, C.size = 16 ∧ (∀ i, i < 16 → C[i]? = some (pgsF ps i)) ∧
    (Builtin.copy_ #[dT, sT] ty #[.slice (some ⟨g, 0, none⟩) 4 4, .slice (some ⟨b, o, none⟩) 4 4]).run P w = .ok (goInt 4) (w.setRow g C) := by
  have hsrc' : ∀ j, j < 16 → w.cell? ((⟨b, o, none⟩ : Addr).add j) = some (pgsF ps j) := fun j hj => by
    have hadd : (⟨b, o, none⟩ : Addr).add j = ⟨b, o + j, none⟩ := by unfold Addr.add; split <;> simp_all
    obtain ⟨p, hp⟩ := getElem?_ex (l := ps) (k := j / 4) (by omega)
    have := hsrc (j / 4) p hp (j % 4) (by omega)
    rw [show j / 4 * 4 + j % 4 = j by omega] at this
    rw [hadd, this]
    unfold pgsF
    rw [hp]
    rfl
  have hl := run_loadCells (P := P) w ⟨b, o, none⟩ 16 (pgsF ps) hsrc'
  have hst := run_storeCells_at P g 0 t ((List.range 16).map (pgsF ps)) 0 cur w hg (by simp [hcur]) (fun v hv => by
    obtain ⟨i, _, rfl⟩ := List.mem_map.1 hv
    exact pgV_one _ _)
  refine ⟨((List.range 16).map (pgsF ps)).toArray, by simp, fun i hi => by simp [hi], ?_⟩
  cases hq : P.info? elem with
  | none => simp [hq] at hs
  | some i =>
    have hi : i.size = 4 := by simpa [hq] using hs
    have hst' : (storeCells ⟨g, 0, none⟩ ((List.range 16).map (pgsF ps))).run P w = .ok () (w.setRow g ((List.range 16).map (pgsF ps)).toArray) := by
      rw [hst]
      congr 2
      simp [hcur]
    simp [Builtin.copy_, run_underlying hu, Builtin.lenOf, Builtin.firstCells, sizeOf, typeInfo, hq, hi, hl, hst']

theorem rowIs_setRow {w : World} {g : Nat} {t : TypeId} {cur C : Array Value} {n : Nat} {f : Nat → Value} (hg : w.heap[g]? = some (.cells cur t (0, 0))) (hC : C.size = n) (hf : ∀ i, i < n → C[i]? = some (f i)) : (w.setRow g C).rowIs g t n f :=
  ⟨C, setRow_heap w g cur C t (0, 0) hg, hC, hf⟩

theorem setRow_alloc (W : World) (cur C : Array Value) (t : TypeId) : (W.alloc (.cells cur t)).setRow W.heap.size C = W.alloc (.cells C t) := by
  unfold World.setRow World.alloc
  congr 1
  apply Array.ext
  · simp
  · intro i h1 h2
    simp only [Array.getElem_modify, Array.getElem_push]
    by_cases e : W.heap.size = i
    · subst e; simp
    · have : i < W.heap.size := by simp at h2; omega
      simp [e, this]

/-- copy of four pages into the row that was made last. -/
theorem copy_new (P : Program) (W : World) (dT sT ty elem : TypeId) (b o : Nat) (cur : Array Value) (t : TypeId) (ps : List Pg) (hps : ps.length = 4)
    (hu : P.underlying dT = some (.slice elem)) (hs : (P.info? elem).map (·.size) = some 4) (hcur : cur.size = 16) (hb : b < W.heap.size)
    (hsrc : ∀ k p, ps[k]? = some p → ∀ j, j < 4 → W.cell? ⟨b, o + (k * 4 + j), none⟩ = some (pgV p j)) :
    ∃ C : Array Value, (W.alloc (.cells C t)).rowIs W.heap.size t 16 (pgsF ps) ∧
    (Builtin.copy_ #[dT, sT] ty #[.slice (some ⟨W.heap.size, 0, none⟩) 4 4, .slice (some ⟨b, o, none⟩) 4 4]).run P (W.alloc (.cells cur t)) = .ok (goInt 4) (W.alloc (.cells C t)) := by
  obtain ⟨C, h1, h2, h3⟩ := copy_pages P (W.alloc (.cells cur t)) dT sT ty elem W.heap.size b o cur t ps hps hu hs (Go.Deep.blk_alloc_new _ _) hcur (fun k p hp j hj => by
    rw [cell_alloc_lt _ _ _ _ hb]; exact hsrc k p hp j hj)
  refine ⟨C, ⟨C, Go.Deep.blk_alloc_new _ _, h1, h2⟩, ?_⟩
  rw [h3, setRow_alloc]

/-- Four pages in sixteen cells; a block in seventeen. -/
def paA (f : Nat → Pg) : Array Value := Array.ofFn (n := 16) fun i => pgV (f (i.val / 4)) (i.val % 4)
def bcF (x : Int) (f : Nat → Pg) (i : Nat) : Value := if i = 0 then .int .i64 x else pgV (f ((i - 1) / 4)) ((i - 1) % 4)
def bcA (x : Int) (f : Nat → Pg) : Array Value := Array.ofFn (n := 17) fun i => bcF x f i.val
theorem paA_size (f : Nat → Pg) : (paA f).size = 16 := by simp [paA]
theorem bcA_size (x : Int) (f : Nat → Pg) : (bcA x f).size = 17 := by simp [bcA]
theorem paA_get (f : Nat → Pg) {i : Nat} (h : i < 16) : (paA f)[i]? = some (pgV (f (i / 4)) (i % 4)) := by simp [paA, h]
theorem bcA_get (x : Int) (f : Nat → Pg) {i : Nat} (h : i < 17) : (bcA x f)[i]? = some (bcF x f i) := by simp [bcA, h]
theorem paA_page (f : Nat → Pg) {k j : Nat} (hk : k < 4) (hj : j < 4) : (paA f)[k * 4 + j]? = some (pgV (f k) j) := by
  rw [paA_get f (by omega), show (k * 4 + j) / 4 = k by omega, show (k * 4 + j) % 4 = j by omega]
theorem bcA_page (x : Int) (f : Nat → Pg) {i : Nat} (h : i < 16) : (bcA x f)[1 + i]? = some (pgV (f (i / 4)) (i % 4)) := by
  rw [bcA_get x f (by omega)]
  unfold bcF
  rw [if_neg (by omega), show 1 + i - 1 = i by omega]
theorem ccA_block (m : CC) {b i : Nat} (hb : b < 12) (hi : i < 17) : (ccA m)[1 + b * 17 + i]? = (bcA (m.wear b) (m.page b))[i]? := by
  rw [bcA_get _ _ hi]
  unfold bcF
  by_cases e : i = 0
  · subst e; rw [if_pos rfl]; exact ccA_wear m hb
  · rw [if_neg e]
    have := ccA_page m (b := b) (k := (i - 1) / 4) (j := (i - 1) % 4) hb (by omega) (by omega)
    rw [show 1 + b * 17 + 1 + (i - 1) / 4 * 4 + (i - 1) % 4 = 1 + b * 17 + i by omega] at this
    exact this
theorem ccA_pages (m : CC) {b i : Nat} (hb : b < 12) (hi : i < 16) : (ccA m)[1 + b * 17 + 1 + i]? = (paA (m.page b))[i]? := by
  rw [paA_get _ hi]
  have := ccA_page m (b := b) (k := i / 4) (j := i % 4) hb (by omega) (by omega)
  rw [show 1 + b * 17 + 1 + i / 4 * 4 + i % 4 = 1 + b * 17 + 1 + i by omega] at this
  exact this

/-- A struct or an array is read out of the middle of a row. -/
theorem run_loadVar_mid {P : Program} (w : World) (g off : Nat) (ty : TypeId) (A : Array Value) (s : Nat) (hA : A.size = s) (hc : ∀ j, j < s → w.cell? ⟨g, off + j, none⟩ = A[j]?) (d : TypeDesc)
    (hu : P.underlying ty = some d) (hd : (match d with | .struct _ | .array _ _ => true | _ => false) = true) (hi : (P.info? ty).map (·.size) = some s) :
    (loadVar ty ⟨g, off, none⟩).run P w = .ok (.agg A) w := by
  have hl : (loadCells ⟨g, off, none⟩ A.toList.length).run P w = .ok A.toList.toArray w :=
    run_loadCells_list (P := P) w ⟨g, off, none⟩ A.toList (fun j v hv => by
      have hadd : (⟨g, off, none⟩ : Addr).add j = ⟨g, off + j, none⟩ := by unfold Addr.add; split <;> simp_all
      have hj : j < s := by rw [← hA, ← Array.length_toList]; exact (List.getElem?_eq_some_iff.1 hv).1
      rw [hadd, hc j hj, ← hv, Array.getElem?_toList])
  cases hq : P.info? ty with
  | none => simp [hq] at hi
  | some i =>
    have hs : i.size = A.size := by rw [hA]; simpa [hq] using hi
    have hagg : (isAgg ty).run P w = .ok true w := by
      unfold isAgg
      rw [Sem.run_bind, run_underlying hu w]
      cases d <;> simp_all
    simp only [Array.length_toList, Array.toArray_toList] at hl
    simp [loadVar, Sem.run_bind, hagg, sizeOf, typeInfo, hq, hs, hl]

theorem wp_load_mid {P : Program} {o : Oper} {a : Act} {w : World} {K : Act → World → Prop} {Q : Exit → Act → World → Prop} (ty : TypeId) (x : Operand) (ho : o.op = .load ty x)
    (g off : Nat) (hx : a.eval x = .pointer (some ⟨g, off, none⟩)) (A : Array Value) (s : Nat) (hA : A.size = s) (hc : ∀ j, j < s → w.cell? ⟨g, off + j, none⟩ = A[j]?) (d : TypeDesc)
    (hu : P.underlying ty = some d) (hd : (match d with | .struct _ | .array _ _ => true | _ => false) = true) (hi : (P.info? ty).map (·.size) = some s)
    (h : K (a.put o.dst (.agg A)) w) : o.wp P a w K Q := by
  unfold Oper.wp execOp
  simp only [ho, hx, Instr.loadAt, Instr.sureAddr, Sem.run_bind, Sem.run_pure, Result.andThen_ok, run_loadVar_mid w g off ty A s hA hc d hu hd hi]
  exact h

theorem wpList_load_mid {P : Program} {ops : Array Oper} {rest : List Oper} {o : Oper} {a : Act} {w : World} {Q : Exit → Act → World → Prop} (hgd : o.guard = none) (ty : TypeId) (x : Operand) (ho : o.op = .load ty x)
    (g off : Nat) (hx : a.eval x = .pointer (some ⟨g, off, none⟩)) (A : Array Value) (s : Nat) (hA : A.size = s) (hc : ∀ j, j < s → w.cell? ⟨g, off + j, none⟩ = A[j]?) (d : TypeDesc)
    (hu : P.underlying ty = some d) (hd : (match d with | .struct _ | .array _ _ => true | _ => false) = true) (hi : (P.info? ty).map (·.size) = some s)
    (h : wpList P ops Q rest (a.put o.dst (.agg A)) w) : wpList P ops Q (o :: rest) a w :=
  wpList_plain hgd fun _ hK => wp_load_mid ty x ho g off hx A s hA hc d hu hd hi (hK _ _ h)

/-- A page out of four in an array. -/
theorem run_index_pages {P : Program} (w : World) (ty e : TypeId) (f : Nat → Pg) (k : Nat) (hk : k < 4) (hu : P.underlying ty = some (.array 4 e)) (d : TypeDesc) (hue : P.underlying e = some d) (hd : (match d with | .struct _ | .array _ _ => true | _ => false) = true) (hi : (P.info? e).map (·.size) = some 4) :
    (Instr.index ty (.agg (paA f)) (.int .i64 (k : Int))).run P w = .ok (.agg #[.bool (f k).used, .int .i64 (f k).log, .int .i64 (f k).seq, .string (f k).data]) w := by
  cases hq : P.info? e with
  | none => simp [hq] at hi
  | some i =>
    have hs : i.size = 4 := by simpa [hq] using hi
    have hagg : (isAgg e).run P w = .ok true w := by
      unfold isAgg
      rw [Sem.run_bind, run_underlying hue w]
      cases d <;> simp_all
    have hx : (paA f).extract (k * 4) (k * 4 + 4) = #[.bool (f k).used, .int .i64 (f k).log, .int .i64 (f k).seq, .string (f k).data] := by
      apply Array.ext_getElem?
      intro j
      rw [Array.getElem?_extract, paA_size]
      by_cases hj : j < 4
      · rw [if_pos (by omega), paA_page f hk hj]
        have h4 : j = 0 ∨ j = 1 ∨ j = 2 ∨ j = 3 := by omega
        rcases h4 with rfl | rfl | rfl | rfl <;> rfl
      · rw [if_neg (by omega)]
        simp; omega
    have hlt : (0 : Int) ≤ (k : Int) ∧ (k : Int) < (4 : Nat) := by omega
    simp [Instr.index, asIntOf, run_underlying hu, hlt, part, hagg, sizeOf, typeInfo, hq, hs, hx, hk]

end Go.Proofs.Ytaelbmilicfkhaa
