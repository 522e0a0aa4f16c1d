/- Chips whose rows may be written, and where they lie. No program is named here. -/
import Derived.Test.YtageolbmplhgaaaEraP
namespace Go.Proofs.Ytageolbmplhgaaa
open Go.RowKit
set_option linter.unusedVariables false
set_option linter.unusedSimpArgs false

/-- The blocks bs lie from the address a on, in rows of S that may be written. -/
def ChipS (S : Nat → Prop) (w : World) (a : Option Addr) (bs : List Bk) : Prop :=
  ∀ i b, bs[i]? = some b → ∃ g o q qo pc, a = some ⟨g, o, none⟩ ∧ S g ∧ S q ∧ (∀ j, w.frozen? ⟨g, j, none⟩ = false) ∧ (∀ j, w.frozen? ⟨q, j, none⟩ = false) ∧
    w.cell? ⟨g, o + i * 2, none⟩ = some (.int .i64 b.wear) ∧ w.cell? ⟨g, o + i * 2 + 1, none⟩ = some (.slice (some ⟨q, qo, none⟩) b.pages.length pc) ∧ PagesAt w (some ⟨q, qo, none⟩) b.pages

theorem ChipS.blocksAt {S : Nat → Prop} {w : World} {a : Option Addr} {bs : List Bk} (h : ChipS S w a bs) : BlocksAt w a bs := by
  intro i b hb
  obtain ⟨g, o, q, qo, pc, ha, _, _, _, _, h0, h1, h2⟩ := h i b hb
  exact ⟨g, o, _, pc, ha, h0, h1, h2⟩

theorem ChipS.mono {S T : Nat → Prop} {w : World} {a : Option Addr} {bs : List Bk} (h : ChipS S w a bs) (hS : ∀ k, S k → T k) : ChipS T w a bs := by
  intro i b hb
  obtain ⟨g, o, q, qo, pc, ha, h1, h2, hr⟩ := h i b hb
  exact ⟨g, o, q, qo, pc, ha, hS _ h1, hS _ h2, hr⟩

theorem pagesAt_cells4 {w : World} {q qo : Nat} {ps : List Pg} (h : PagesAt w (some ⟨q, qo, none⟩) ps) {i : Nat} {p : Pg} (hp : ps[i]? = some p) :
    w.cell? ⟨q, qo + i * 4, none⟩ = some (.bool p.used) ∧ w.cell? ⟨q, qo + i * 4 + 1, none⟩ = some (.int .i64 p.log) ∧ w.cell? ⟨q, qo + i * 4 + 2, none⟩ = some (.int .i64 p.seq) ∧ w.cell? ⟨q, qo + i * 4 + 3, none⟩ = some (.string p.data) := by
  obtain ⟨b, o, e, h0, h1, h2, h3⟩ := h i p hp
  cases e
  exact ⟨h0, h1, h2, h3⟩

theorem frozen_of_block {w w' : World} {b j : Nat} (e : w'.heap[b]? = w.heap[b]?) : w'.frozen? ⟨b, j, none⟩ = w.frozen? ⟨b, j, none⟩ := by
  simp [World.frozen?, e]

theorem ChipS.of_blocks {S : Nat → Prop} {w w' : World} {a : Option Addr} {bs : List Bk} (h : ChipS S w a bs) (h4 : ∀ b ∈ bs, b.pages.length = 4) (e : ∀ k, S k → k < w.heap.size → w'.heap[k]? = w.heap[k]?) : ChipS S w' a bs := by
  intro i b hb
  obtain ⟨g, o, q, qo, pc, ha, h1, h2, f1, f2, c0, c1, hP⟩ := h i b hb
  have eg := e g h1 (World.block_lt_of_cell? _ _ c0)
  obtain ⟨p, hp⟩ := getElem?_ex (l := b.pages) (k := 0) (by rw [h4 b (List.mem_of_getElem? hb)]; omega)
  have eq := e q h2 (World.block_lt_of_cell? _ _ (pagesAt_cells4 hP hp).1)
  refine ⟨g, o, q, qo, pc, ha, h1, h2, fun j => (frozen_of_block eg).trans (f1 j), fun j => (frozen_of_block eq).trans (f2 j), (World.cell?_of_block (w := w) (a := ⟨g, _, none⟩) eg).trans c0, (World.cell?_of_block (w := w) (a := ⟨g, _, none⟩) eg).trans c1, fun j p hp => ?_⟩
  obtain ⟨d0, d1, d2, d3⟩ := pagesAt_cells4 hP hp
  exact ⟨q, qo, rfl, (World.cell?_of_block (w := w) (a := ⟨q, _, none⟩) eq).trans d0, (World.cell?_of_block (w := w) (a := ⟨q, _, none⟩) eq).trans d1, (World.cell?_of_block (w := w) (a := ⟨q, _, none⟩) eq).trans d2, (World.cell?_of_block (w := w) (a := ⟨q, _, none⟩) eq).trans d3⟩

theorem ChipS.touch {S T : Nat → Prop} {w w' : World} {a : Option Addr} {bs : List Bk} (h : ChipS S w a bs) (h4 : ∀ b ∈ bs, b.pages.length = 4) (hT : Touch T w w') (hS : ∀ k, S k → ¬ T k) : ChipS S w' a bs :=
  h.of_blocks h4 fun k hk hl => hT.block k hl (hS k hk)

theorem ChipS.below {S : Nat → Prop} {w w' : World} {a : Option Addr} {bs : List Bk} (h : ChipS S w a bs) (h4 : ∀ b ∈ bs, b.pages.length = 4) (hB : Below w.heap.size w w') : ChipS S w' a bs :=
  h.of_blocks h4 fun k _ hl => hB.block k hl

theorem cell_apartS {w : World} {P : Nat} {x : Option Addr} {y z : Nat} (hP : w.cell? ⟨P, 0, none⟩ = some (.slice x y z)) {g off : Nat} {v : Value} (hc : w.cell? ⟨g, off, none⟩ = some v) (hv : off ≠ 0 ∨ ∀ a b c, v ≠ .slice a b c) (u : Value) : (w.setCell ⟨P, 0, none⟩ u).cell? ⟨g, off, none⟩ = some v := by
  rw [World.cell?_setCell_other _ _ _ _ ?_]
  · exact hc
  · intro e
    simp at e
    obtain ⟨rfl, rfl⟩ := e
    rcases hv with h | h
    · exact h rfl
    · rw [hP] at hc
      cases hc
      exact h _ _ _ rfl

/-- A store into a variable of its own that holds a list turns no chip. -/
theorem ChipS.setApart {S : Nat → Prop} {w : World} {P : Nat} {x : Option Addr} {y z : Nat} (hP : w.cell? ⟨P, 0, none⟩ = some (.slice x y z)) {a : Option Addr} {bs : List Bk} (h : ChipS S w a bs) (u : Value) : ChipS S (w.setCell ⟨P, 0, none⟩ u) a bs := by
  intro i b hb
  obtain ⟨g, o, q, qo, pc, ha, h1, h2, f1, f2, c0, c1, hA⟩ := h i b hb
  refine ⟨g, o, q, qo, pc, ha, h1, h2, fun j => by simpa using f1 j, fun j => by simpa using f2 j, cell_apartS hP c0 (.inr fun _ _ _ e => by cases e) u, cell_apartS hP c1 (.inl (by omega)) u, fun j p hp => ?_⟩
  obtain ⟨d0, d1, d2, d3⟩ := pagesAt_cells4 hA hp
  exact ⟨q, qo, rfl, cell_apartS hP d0 (.inr fun _ _ _ e => by cases e) u, cell_apartS hP d1 (.inr fun _ _ _ e => by cases e) u, cell_apartS hP d2 (.inr fun _ _ _ e => by cases e) u, cell_apartS hP d3 (.inr fun _ _ _ e => by cases e) u⟩

theorem list_of {α : Type} {P : Nat → α → Prop} : ∀ n, (∀ i, i < n → ∃ x, P i x) → ∃ l : List α, l.length = n ∧ ∀ i x, l[i]? = some x → P i x := by
  intro n
  induction n with
  | zero => exact fun _ => ⟨[], rfl, fun i x h => by simp at h⟩
  | succ n ih =>
    intro h
    obtain ⟨l, hl, hP⟩ := ih fun i hi => h i (by omega)
    obtain ⟨x, hx⟩ := h n (by omega)
    refine ⟨l ++ [x], by simp [hl], fun i y hy => ?_⟩
    by_cases e : i < n
    · rw [List.getElem?_append_left (by omega)] at hy
      exact hP i y hy
    · have hi := (List.getElem?_eq_some_iff.1 hy).1
      simp at hi
      obtain rfl : i = n := by omega
      rw [List.getElem?_append_right (by omega), hl] at hy
      simp at hy
      subst hy
      exact hx

theorem keep_int {w : World} {t : Addr} {y : Int} (ht : w.cell? t = some (.int .i64 y)) (x : Int) {p : Addr} {v : Value} (hp : w.cell? p = some v) (hv : ∀ k z, v ≠ .int k z) : (w.setCell t (.int .i64 x)).cell? p = some v := by
  rw [World.cell?_setCell_other _ _ _ _ ?_]
  · exact hp
  · intro e
    subst e
    rw [ht] at hp
    cases hp
    exact hv _ _ rfl

theorem turn_int {w : World} {t : Addr} {y : Int} (ht : w.cell? t = some (.int .i64 y)) (x : Int) {p : Addr} {z : Int} (hp : w.cell? p = some (.int .i64 z)) : ∃ z', (w.setCell t (.int .i64 x)).cell? p = some (.int .i64 z') := by
  by_cases e : t = p
  · subst e
    exact ⟨x, World.cell?_setCell_same' _ _ _ (by rw [ht]; rfl)⟩
  · exact ⟨z, by rw [World.cell?_setCell_other _ _ _ _ (by first | exact e | exact fun h => e h.symm)]; exact hp⟩

/-- A number is written into some cell that holds a number: the chip has other numbers, its form is the same. -/
theorem ChipS.store {S : Nat → Prop} {w : World} {a : Option Addr} {bs : List Bk} (h : ChipS S w a bs) {t : Addr} {y : Int} (ht : w.cell? t = some (.int .i64 y)) (x : Int) :
    ∃ bs' : List Bk, bs'.length = bs.length ∧ (∀ (i : Nat) (b' : Bk), bs'[i]? = some b' → ∃ b : Bk, bs[i]? = some b ∧ b'.pages.length = b.pages.length) ∧ ChipS S (w.setCell t (.int .i64 x)) a bs' := by
  have key : ∀ i, i < bs.length → ∃ b' : Bk, ∃ b, bs[i]? = some b ∧ b'.pages.length = b.pages.length ∧ ∃ g o q qo pc, a = some ⟨g, o, none⟩ ∧ S g ∧ S q ∧ (∀ j, (w.setCell t (.int .i64 x)).frozen? ⟨g, j, none⟩ = false) ∧ (∀ j, (w.setCell t (.int .i64 x)).frozen? ⟨q, j, none⟩ = false) ∧
    (w.setCell t (.int .i64 x)).cell? ⟨g, o + i * 2, none⟩ = some (.int .i64 b'.wear) ∧ (w.setCell t (.int .i64 x)).cell? ⟨g, o + i * 2 + 1, none⟩ = some (.slice (some ⟨q, qo, none⟩) b'.pages.length pc) ∧ PagesAt (w.setCell t (.int .i64 x)) (some ⟨q, qo, none⟩) b'.pages := by
    intro i hi
    obtain ⟨b, hb⟩ := getElem?_ex hi
    obtain ⟨g, o, q, qo, pc, ha, h1, h2, f1, f2, c0, c1, hA⟩ := h i b hb
    obtain ⟨z, hz⟩ := turn_int ht x c0
    obtain ⟨ps, hpl, hps⟩ := list_of (P := fun j (p' : Pg) => (w.setCell t (.int .i64 x)).cell? ⟨q, qo + j * 4, none⟩ = some (.bool p'.used) ∧ (w.setCell t (.int .i64 x)).cell? ⟨q, qo + j * 4 + 1, none⟩ = some (.int .i64 p'.log) ∧ (w.setCell t (.int .i64 x)).cell? ⟨q, qo + j * 4 + 2, none⟩ = some (.int .i64 p'.seq) ∧ (w.setCell t (.int .i64 x)).cell? ⟨q, qo + j * 4 + 3, none⟩ = some (.string p'.data)) b.pages.length (fun j hj => by
      obtain ⟨p, hp⟩ := getElem?_ex hj
      obtain ⟨d0, d1, d2, d3⟩ := pagesAt_cells4 hA hp
      obtain ⟨z1, hz1⟩ := turn_int ht x d1
      obtain ⟨z2, hz2⟩ := turn_int ht x d2
      exact ⟨⟨p.used, z1, z2, p.data⟩, keep_int ht x d0 (fun _ _ e => by cases e), hz1, hz2, keep_int ht x d3 (fun _ _ e => by cases e)⟩)
    refine ⟨⟨z, ps⟩, b, hb, hpl, g, o, q, qo, pc, ha, h1, h2, fun j => by simpa using f1 j, fun j => by simpa using f2 j, hz, ?_, fun j p hp => ⟨q, qo, rfl, hps j p hp⟩⟩
    show _ = some (Value.slice (some ⟨q, qo, none⟩) ps.length pc)
    rw [hpl]
    exact keep_int ht x c1 (fun _ _ e => by cases e)
  obtain ⟨bs', hl, hP⟩ := list_of _ key
  refine ⟨bs', hl, fun i b' hb' => ?_, fun i b' hb' => ?_⟩
  · obtain ⟨b, h1, h2, _⟩ := hP i b' hb'
    exact ⟨b, h1, h2⟩
  · obtain ⟨b, h1, h2, h3⟩ := hP i b' hb'
    exact h3

theorem SpecBlocks.chipS {w : World} {tB tP : TypeId} {base : Nat} {a : Option Addr} {n c : Nat} {Q C : Nat → Nat} {bs : List Bk} (h : SpecBlocks w tB tP base (.slice a n c) Q C bs) : ChipS (fun k => base ≤ k ∧ k < w.heap.size) w a bs := by
  have hn : ∀ {g cap : Nat}, (Value.slice a n c) = .slice (some ⟨g, 0, none⟩) bs.length cap → w.ownsRow base tB 2 (.slice (some ⟨g, 0, none⟩) bs.length cap) bs.length (bkCells Q C 0 bs) := fun e => by rw [← e]; exact h.row
  rcases h.row.2 with ⟨hv, h0⟩ | ⟨g, cap, cur, hv, hb, hg, _⟩
  · intro i b hb
    have := (List.getElem?_eq_some_iff.1 hb).1
    omega
  · have hr := hn hv
    cases hv
    intro i b hb'
    have hc := bkCells_at Q C 0 hb'
    have hi := (List.getElem?_eq_some_iff.1 hb').1
    refine ⟨g, 0, Q i, 0, C i, rfl, ⟨hb, (Array.getElem?_eq_some_iff.1 hg).1⟩, h.Qlt hi, ownsRow_frozen hr, ownsRow_frozen (h.pages i b hb'), ?_, ?_, ownsRow_pagesAt (h.pages i b hb')⟩
    · rw [show 0 + i * 2 = i * 2 by omega]; exact ownsRow_cell hr hc.1
    · rw [show 0 + i * 2 + 1 = i * 2 + 1 by omega]
      have := ownsRow_cell hr hc.2
      rwa [Nat.zero_add] at this

theorem newPages_frozen (w : World) (tP : TypeId) (j : Nat) : (w.alloc (.cells (madeCells #[.bool false, .int .i64 0, .int .i64 0, .string ByteArray.empty] 16) tP)).frozen? ⟨w.heap.size, j, none⟩ = false :=
  ownsRow_frozen (newPages w w.heap.size tP (Nat.le_refl _)) j

/-- BlocksAt with what is known of the rows. -/
theorem chipS_of {S : Nat → Prop} {w : World} {g : Nat} {bs : List Bk} (h : BlocksAt w (some ⟨g, 0, none⟩) bs) (hg : S g ∧ ∀ j, w.frozen? ⟨g, j, none⟩ = false)
    (hq : ∀ i, i < bs.length → ∀ pa n c, w.cell? ⟨g, i * 2 + 1, none⟩ = some (.slice pa n c) → ∃ q qo, pa = some ⟨q, qo, none⟩ ∧ S q ∧ ∀ j, w.frozen? ⟨q, j, none⟩ = false) : ChipS S w (some ⟨g, 0, none⟩) bs := by
  intro i b hb
  obtain ⟨g', o, pa, pc, e, c0, c1, hP⟩ := h i b hb
  cases e
  obtain ⟨q, qo, rfl, hS, hf⟩ := hq i (List.getElem?_eq_some_iff.1 hb).1 pa _ _ (by rw [← c1]; congr 2; omega)
  exact ⟨g, 0, q, qo, pc, rfl, hg.1, hS, hg.2, hf, c0, c1, hP⟩

theorem SpecBlocks.setBlkS {w W : World} {tB tP : TypeId} {base gB n c : Nat} {Q C : Nat → Nat} {bs : List Bk} (h : SpecBlocks w tB tP base (.slice (some ⟨gB, 0, none⟩) n c) Q C bs) {k : Nat} (hk : k < bs.length) (x : Int) (q : Nat)
    (hB : ∀ b, base ≤ b → b < w.heap.size → W.heap[b]? = ((w.setCell ⟨gB, k * 2, none⟩ (.int .i64 x)).setCell ⟨gB, k * 2 + 1, none⟩ (.slice (some ⟨q, 0, none⟩) 4 4)).heap[b]?) (hP : PagesAt W (some ⟨q, 0, none⟩) zeroBk.pages)
    (hq : base ≤ q ∧ q < W.heap.size) (hqf : ∀ j, W.frozen? ⟨q, j, none⟩ = false) (hsz : w.heap.size ≤ W.heap.size) : ChipS (fun k => base ≤ k ∧ k < W.heap.size) W (some ⟨gB, 0, none⟩) (bs.set k ⟨x, zeroBk.pages⟩) := by
  have hgB : gB < w.heap.size := (h.row.lt gB rfl).2
  have hgb : base ≤ gB := (h.row.lt gB rfl).1
  have hlen : n = bs.length := by
    rcases h.row.2 with ⟨hv, _⟩ | ⟨g, cap, cur, hv, _⟩
    · cases hv
    · simp at hv; omega
  subst hlen
  have hfr : ∀ b j, base ≤ b → b < w.heap.size → W.frozen? ⟨b, j, none⟩ = w.frozen? ⟨b, j, none⟩ := fun b j h1 h2 => (frozen_of_block (hB b h1 h2)).trans (by simp)
  refine chipS_of (h.setBlk2 hk x q hB hP) ⟨⟨hgb, by omega⟩, fun j => (hfr _ _ hgb hgB).trans (ownsRow_frozen h.row j)⟩ fun i hi pa m d hc => ?_
  rw [List.length_set] at hi
  rw [World.cell?_of_block (a := ⟨gB, i * 2 + 1, none⟩) (hB gB hgb hgB)] at hc
  obtain ⟨b, hb⟩ := getElem?_ex hi
  have hcw := ownsRow_cell h.row (bkCells_at Q C 0 hb).2
  by_cases e : i = k
  · subst e
    rw [World.cell?_setCell_same' _ _ _ (by rw [World.cell?_setCell_other _ _ _ _ (by simp), hcw]; rfl)] at hc
    cases hc
    exact ⟨q, 0, rfl, hq, hqf⟩
  · rw [World.cell?_setCell_other _ _ _ _ (by simp <;> omega), World.cell?_setCell_other _ _ _ _ (by simp <;> omega), hcw] at hc
    cases hc
    have hQ := h.Qlt hi
    rw [Nat.zero_add]
    exact ⟨Q i, 0, rfl, ⟨hQ.1, by omega⟩, fun j => (hfr _ _ hQ.1 hQ.2).trans (ownsRow_frozen (h.pages i b hb) j)⟩

end Go.Proofs.Ytageolbmplhgaaa
