/- A chip held in arrays: what is written into the middle of its row. No program is named here. -/
import Derived.Test.YtaelbmilicfkhaaCc
import Derived.Test.YtaelbmilicfkhaaOk
namespace Go.Proofs.Ytaelbmilicfkhaa
open Go.RowKit
set_option linter.unusedVariables false
set_option linter.unusedSimpArgs false

def CC.setWear (m : CC) (b : Nat) (x : Int) : CC := ⟨m.count, fun j => if j = b then x else m.wear j, m.page⟩
def CC.setPages (m : CC) (b : Nat) (f : Nat → Pg) : CC := ⟨m.count, m.wear, fun j => if j = b then f else m.page j⟩

theorem ccA_setWear (m : CC) (b : Nat) (x : Int) (hb : b < 12) : (ccA m).setIfInBounds (1 + b * 17) (.int .i64 x) = ccA (m.setWear b x) := by
  apply Array.ext_getElem?
  intro i
  by_cases hi : i < 205
  · by_cases e : 1 + b * 17 = i
    · subst e
      rw [Array.getElem?_setIfInBounds_self_of_lt (by rw [ccA_size]; exact hi), ccA_wear _ hb]
      simp [CC.setWear]
    · rw [Array.getElem?_setIfInBounds_ne e, ccA_get _ hi, ccA_get _ hi]
      unfold ccF CC.setWear
      by_cases h0 : i = 0
      · simp [h0]
      · simp only [if_neg h0]
        by_cases h1 : (i - 1) % 17 = 0
        · simp only [if_pos h1]
          rw [if_neg (by omega)]
        · simp only [if_neg h1]
  · rw [Array.getElem?_eq_none (by simp [ccA_size]; omega), Array.getElem?_eq_none (by simp [ccA_size]; omega)]

theorem ccA_setPages (m : CC) (b : Nat) (f : Nat → Pg) (hb : b < 12) :
    ((ccA m).toList.take (1 + b * 17 + 1) ++ (paA f).toList ++ (ccA m).toList.drop (1 + b * 17 + 1 + 16)).toArray = ccA (m.setPages b f) := by
  have hl : (ccA m).toList.length = 205 := by rw [Array.length_toList, ccA_size]
  have hp : (paA f).toList.length = 16 := by rw [Array.length_toList, paA_size]
  have ht : ((ccA m).toList.take (1 + b * 17 + 1)).length = 1 + b * 17 + 1 := by rw [List.length_take, hl]; omega
  apply Array.ext_getElem?
  intro i
  rw [List.getElem?_toArray]
  have hF : ∀ i, i < 205 → ¬ (1 + b * 17 + 1 ≤ i ∧ i < 1 + b * 17 + 1 + 16) → ccF (m.setPages b f) i = ccF m i := by
    intro i hi hn
    unfold ccF CC.setPages
    by_cases h0 : i = 0
    · simp [h0]
    · simp only [if_neg h0]
      by_cases h1 : (i - 1) % 17 = 0
      · simp only [if_pos h1]
      · simp only [if_neg h1]
        rw [if_neg (by omega)]
  by_cases hi : i < 205
  · rw [ccA_get _ hi]
    by_cases h1 : i < 1 + b * 17 + 1
    · rw [List.getElem?_append_left (by rw [List.length_append, ht, hp]; omega), List.getElem?_append_left (by rw [ht]; exact h1), List.getElem?_take_of_lt h1, Array.getElem?_toList, ccA_get _ hi, hF i hi (by omega)]
    · by_cases h2 : i < 1 + b * 17 + 1 + 16
      · rw [List.getElem?_append_left (by rw [List.length_append, ht, hp]; omega), List.getElem?_append_right (by rw [ht]; omega), ht, Array.getElem?_toList, paA_get f (by omega)]
        have := ccA_pages (m.setPages b f) (b := b) (i := i - (1 + b * 17 + 1)) hb (by omega)
        rw [show 1 + b * 17 + 1 + (i - (1 + b * 17 + 1)) = i by omega, ccA_get _ hi, paA_get _ (by omega)] at this
        rw [this]
        simp [CC.setPages]
      · rw [List.getElem?_append_right (by rw [List.length_append, ht, hp]; omega), List.length_append, ht, hp, List.getElem?_drop, show 1 + b * 17 + 1 + 16 + (i - (1 + b * 17 + 1 + 16)) = i by omega, Array.getElem?_toList, ccA_get _ hi, hF i hi (by omega)]
  · rw [List.getElem?_eq_none (by simp only [List.length_append, ht, hp, List.length_drop, hl]; omega), Array.getElem?_eq_none (by simp [ccA_size]; omega)]

theorem paA_one (f : Nat → Pg) : ∀ v ∈ (paA f).toList, v.oneCell' = true := by
  intro v hv
  have hv' : v ∈ paA f := by simpa using hv
  obtain ⟨i, hi, rfl⟩ := Array.mem_iff_getElem.1 hv'
  simp only [paA, Array.getElem_ofFn]
  exact pgV_one _ _

def pagesF (ps : List Pg) (k : Nat) : Pg := ps[k]?.getD zeroPg

theorem PagesAt.cells {W : World} {a : Option Addr} {ps : List Pg} (h : PagesAt W a ps) (hps : ps.length = 4) : ∃ g o, a = some ⟨g, o, none⟩ ∧ ∀ j, j < 16 → W.cell? ⟨g, o + j, none⟩ = (paA (pagesF ps))[j]? := by
  obtain ⟨p0, hp0⟩ := getElem?_ex (l := ps) (k := 0) (by omega)
  obtain ⟨g, o, ha, _⟩ := h 0 p0 hp0
  refine ⟨g, o, ha, fun j hj => ?_⟩
  obtain ⟨p, hp⟩ := getElem?_ex (l := ps) (k := j / 4) (by omega)
  obtain ⟨g', o', ha', h0, h1, h2, h3⟩ := h (j / 4) p hp
  rw [ha] at ha'
  cases ha'
  rw [paA_get _ hj]
  have e : pagesF ps (j / 4) = p := by simp [pagesF, hp]
  rw [e]
  have h4 : j % 4 = 0 ∨ j % 4 = 1 ∨ j % 4 = 2 ∨ j % 4 = 3 := by omega
  rcases h4 with q | q | q | q
  · rw [q, show o + j = o + j / 4 * 4 by omega]; exact h0
  · rw [q, show o + j = o + j / 4 * 4 + 1 by omega]; exact h1
  · rw [q, show o + j = o + j / 4 * 4 + 2 by omega]; exact h2
  · rw [q, show o + j = o + j / 4 * 4 + 3 by omega]; exact h3

/-- copy of four pages into the middle of the row of a chip that is held in arrays. -/
theorem copy_mid (P : Program) (W : World) (dT sT ty elem : TypeId) (g : Nat) (t : TypeId) (m : CC) (b : Nat) (hb : b < 12) (a : Option Addr) (c : Nat) (ps : List Pg) (hps : ps.length = 4) (hpa : PagesAt W a ps)
    (hu : P.underlying dT = some (.slice elem)) (hs : (P.info? elem).map (·.size) = some 4) (hg : W.heap[g]? = some (.cells (ccA m) t (0, 0))) :
    (Builtin.copy_ #[dT, sT] ty #[.slice (some ⟨g, 1 + b * 17 + 1, none⟩) 4 4, .slice a 4 c]).run P W = .ok (goInt 4) (W.setRow g (ccA (m.setPages b (pagesF ps)))) := by
  obtain ⟨q, o, rfl, hc⟩ := hpa.cells hps
  have hl : (loadCells ⟨q, o, none⟩ 16).run P W = .ok (paA (pagesF ps)) W := by
    have := run_loadCells_list (P := P) W ⟨q, o, none⟩ (paA (pagesF ps)).toList (fun j v hv => by
      have hadd : (⟨q, o, none⟩ : Addr).add j = ⟨q, o + j, none⟩ := by unfold Addr.add; split <;> simp_all
      have hj : j < 16 := by rw [← paA_size (pagesF ps), ← Array.length_toList]; exact (List.getElem?_eq_some_iff.1 hv).1
      rw [hadd, hc j hj, ← hv, Array.getElem?_toList])
    simpa only [Array.length_toList, paA_size, Array.toArray_toList] using this
  have hst := run_storeCells_at P g (1 + b * 17 + 1) t (paA (pagesF ps)).toList 0 (ccA m) W hg (by rw [Array.length_toList, paA_size, ccA_size]; omega) (paA_one _)
  rw [Nat.add_zero, Array.length_toList, paA_size, ccA_setPages m b _ hb] at hst
  cases hq : P.info? elem with
  | none => simp [hq] at hs
  | some i =>
    have hi : i.size = 4 := by simpa [hq] using hs
    simp [Builtin.copy_, run_underlying hu, Builtin.lenOf, Builtin.firstCells, sizeOf, typeInfo, hq, hi, hl, hst]

theorem store_row (P : Program) (W : World) (g : Nat) (t : TypeId) (cur vs : Array Value) (hg : W.heap[g]? = some (.cells cur t (0, 0))) (hs : vs.size = cur.size) (h1 : ∀ v ∈ vs.toList, v.oneCell' = true) :
    (storeCells ⟨g, 0, none⟩ vs.toList).run P W = .ok () (W.setRow g vs) := by
  rw [run_storeCells_at P g 0 t vs.toList 0 cur W hg (by simp [hs]) h1]
  congr 2
  simp only [Nat.zero_add, List.take_zero, List.nil_append]
  rw [List.drop_eq_nil_of_le (by simp [hs]), List.append_nil]

theorem store_same (P : Program) (W : World) (g : Nat) (t : TypeId) (cur : Array Value) (hg : W.heap[g]? = some (.cells cur t (0, 0))) (h1 : ∀ v ∈ cur.toList, v.oneCell' = true) :
    (storeCells ⟨g, 0, none⟩ cur.toList).run P W = .ok () W := by
  rw [store_row P W g t cur cur hg rfl h1, setRow_self W g cur t _ hg]

theorem Below.setRow {B : Nat} {a w : World} (h : Below B a w) {g : Nat} (hg : B ≤ g) (cs : Array Value) : Below B a (w.setRow g cs) :=
  ⟨h.os, h.tape, h.output, by simpa using h.size, fun k hk => by rw [setRow_other _ _ _ _ (by omega)]; exact h.block k hk⟩

/-- The numbers of the used pages are those of the blocks. -/
theorem ccPs_filter (m : CC) (b : Nat) : seqsP (ccPs m b) = ((((List.range 4).filter fun j => (m.page b j).used).map fun j => (m.page b j).seq)) := by
  have e : ccPs m b = (List.range 4).map (m.page b) := rfl
  rw [e, seqsP, List.filter_map, List.map_map]
  rfl

theorem BkOk.of_four {x : Int} {ps : List Pg} : BkOk ⟨x, ps⟩ ↔ ps.length = 4 ∧ (0 ≤ x ∧ x ≤ 1000000000) ∧ (∀ k, k < 4 → pgOk (pagesF ps k) = true) ∧ (∀ k, k + 1 < 4 → (pagesF ps (k + 1)).used = true → (pagesF ps k).used = true) := by
  constructor
  · intro h
    have h4 : ps.length = 4 := h.four
    refine ⟨h4, h.wear, fun k hk => ?_, fun k hk hu => ?_⟩
    · obtain ⟨p, hp⟩ := getElem?_ex (l := ps) (k := k) (by simpa [h4] using hk)
      simp only [pagesF, hp, Option.getD_some]
      exact h.page k p hp
    · obtain ⟨p, hp⟩ := getElem?_ex (l := ps) (k := k) (by omega)
      obtain ⟨q, hq⟩ := getElem?_ex (l := ps) (k := k + 1) (by omega)
      simp only [pagesF, hp, hq, Option.getD_some] at hu ⊢
      exact h.order k q p hp hq hu
  · rintro ⟨h4, hw, h1, h2⟩
    refine ⟨hw, h4, fun k p hp => ?_, fun k p q hq hp hu => ?_⟩
    · have hk : k < ps.length := (List.getElem?_eq_some_iff.1 hp).1
      have := h1 k (by omega)
      simpa [pagesF, hp] using this
    · have hk : k + 1 < ps.length := (List.getElem?_eq_some_iff.1 hp).1
      have := h2 k (by omega)
      simp only [pagesF, hp, hq, Option.getD_some] at this
      exact this hu

theorem results_cell_slot {P : Program} {fn : Func} (r ty s : Nat) (hr : fn.results = #[.cell r ty, .tmp s]) (tm : Array Value) (W : World) (g : Addr) (A : Array Value) (v : Value)
    (h1 : tm.getD r undef = .pointer (some g)) (h2 : (loadVar ty g).run P W = .ok (.agg A) W) (h3 : tm.getD s undef = v) : (results fn tm).run P W = .ok (.tuple #[.agg A, v]) W := by
  unfold results
  rw [hr]
  have h1' : tm[r]?.getD undef = .pointer (some g) := by simpa using h1
  have h3' : tm[s]?.getD undef = v := by simpa using h3
  simp [h2, Sem.run_bind, h1', h3', asAddr]

theorem pagesF_list {ps : List Pg} (h : ps.length = 4) : [pagesF ps 0, pagesF ps 1, pagesF ps 2, pagesF ps 3] = ps := by
  match ps, h with
  | [a, b, c, d], _ => rfl
end Go.Proofs.Ytaelbmilicfkhaa
