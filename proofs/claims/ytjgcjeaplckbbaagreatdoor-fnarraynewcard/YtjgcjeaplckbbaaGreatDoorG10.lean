/- 7 texts in one. -/
import Derived.Test.YtjgcjeaplckbbaaGreatDoorG04
import Derived.Test.YtjgcjeaplckbbaaGreatDoorG09
import Derived.WalkKit
import Derived.Outline
import Derived.Deep.RegionHeld3
import Derived.Test.YtjgcjeaplckbbaaGreatDoorG08
import Derived.Test.YtjgcjeaplckbbaaGreatDoorG01
import Derived.Deep.RegionLaw
import Derived.Test.YtjgcjeaplckbbaaGreatDoorG07
import Derived.Test.YtjgcjeaplckbbaaGreatDoorChecked

/- Rows of members, read, compared and marked. -/
namespace Go.Proofs.YtjgcjeaplckbbaaGreatDoor
open Go.RowKit
set_option linter.unusedVariables false
set_option linter.unusedSimpArgs false

/-- The member m, read at place i of the row g. -/
def MbRead (w : World) (g i : Nat) (m : Mb) : Prop := ∃ a c ma mc, w.cell? ⟨g, i * 4, none⟩ = some (.slice a m.bs.length c) ∧ w.cell? ⟨g, i * 4 + 1, none⟩ = some (.slice ma m.L.length mc) ∧ w.cell? ⟨g, i * 4 + 2, none⟩ = some (.int .i64 (Mb.seq m)) ∧ w.cell? ⟨g, i * 4 + 3, none⟩ = some (.int .i64 m.o) ∧ BlocksAt w a m.bs ∧ IntsAt w ma m.L
/-- The row g holds the members ms. -/
def MbsAt (w : World) (g : Nat) (ms : List Mb) : Prop := ∀ i m, ms[i]? = some m → MbRead w g i m
theorem MbRead.below {w w' : World} {g i : Nat} {m : Mb} (h : MbRead w g i m) (hb : Below w.heap.size w w') : MbRead w' g i m := by
  obtain ⟨a, c, ma, mc, h0, h1, h2, h3, h4, h5⟩ := h
  have e := hb.block g (World.block_lt_of_cell? _ _ h0)
  have hc : ∀ j, w'.cell? ⟨g, j, none⟩ = w.cell? ⟨g, j, none⟩ := fun j => World.cell?_of_block (w := w) (a := ⟨g, j, none⟩) e
  exact ⟨a, c, ma, mc, (hc _).trans h0, (hc _).trans h1, (hc _).trans h2, (hc _).trans h3, h4.below hb (Nat.le_refl _), h5.below hb (Nat.le_refl _)⟩
theorem MbsAt.below {w w' : World} {g : Nat} {ms : List Mb} (h : MbsAt w g ms) (hb : Below w.heap.size w w') : MbsAt w' g ms := fun i m hm => (h i m hm).below hb
theorem MbCells.read {w : World} {g i lo hi : Nat} {m : Mb} (h : MbCells w g i lo hi m) : MbRead w g i m := by
  obtain ⟨a, n, c, ma, mn, mc, h0, h1, h2, h3, hF⟩ := h
  have hl := hF.length
  rw [Nat.mul_comm] at h0 h1 h2 h3
  exact ⟨a, c, ma, mc, by rw [hl.1]; exact h0, by rw [hl.2]; exact h1, h2, h3, hF.blocksAt, hF.2.1⟩
theorem MemsOwn.mbsAt {w : World} {g lo hi : Nat} {ms : List Mb} (h : MemsOwn w g 0 lo hi ms) : MbsAt w g ms := fun i m hm => by
  obtain ⟨a, b, _, _, _, hc⟩ := h.at hm
  rw [Nat.zero_add] at hc
  exact hc.read

set_option maxRecDepth 100000 in
set_option maxHeartbeats 2000000 in
theorem eqFtlS_same (g1 g2 c1 c2 : Nat) (ms : List Mb) (k : Nat) (hk : ms.length = k) (h5 : k ≤ 5) (hsh : ∀ m ∈ ms, Mb.Short m) (w : World) (h1 : MbsAt w g1 ms) (h2 : MbsAt w g2 ms) :
    Calls Tryz.prog 95 #[.slice (some ⟨g1, 0, none⟩) k c1, .slice (some ⟨g2, 0, none⟩) k c2] w fun e w' => e = .returned (.bool true) ∧ Below w.heap.size w w' := by
  have HK := hide hk
  clear hk
  go_enter Tryz.func95, Tryz.ntmps95
  go_wp2
  go_loopw [5] (fun i wr => ∃ j : Nat, j ≤ k ∧ i = .int .i64 j ∧ Below w.heap.size w wr) (fun i _ => k - (intOf i).toNat)
  case atStart => exact ⟨0, Nat.zero_le _, rfl, Below.refl _ _⟩
  case round =>
    obtain ⟨j, hj, rfl, hB⟩ := hrel
    by_cases hlt : j < k
    · obtain ⟨m, hm⟩ := getElem?_ex (l := ms) (k := j) (by have := unhide HK; omega)
      obtain ⟨a1, d1, ma1, e1, g10, g11, g12, g13, q1, p1⟩ := (h1.below hB) j m hm
      obtain ⟨a2, d2, ma2, e2, g20, g21, g22, g23, q2, p2⟩ := (h2.below hB) j m hm
      have hb1 : g1 < wr.heap.size := World.block_lt_of_cell? _ _ g10
      have hb2 : g2 < wr.heap.size := World.block_lt_of_cell? _ _ g20
      obtain ⟨hl, _, hL⟩ := hsh m (List.mem_of_getElem? hm)
      obtain ⟨nb, hnb⟩ : ∃ nb, m.bs.length = nb := ⟨_, rfl⟩
      obtain ⟨nl, hnl⟩ : ∃ nl, m.L.length = nl := ⟨_, rfl⟩
      rw [hnb] at g10 g20
      rw [hnl] at g11 g21 hL
      have HNB := hide hnb
      have HNL := hide hnl
      have hs1 := hB.size
      clear hm h1 h2 hnb hnl hsh
      go_wp2
      go_region_held3 (fun W => ∀ b o, b < wr.heap.size → W.cell? ⟨b, o, none⟩ = wr.cell? ⟨b, o, none⟩) (first | (intro b o hb; simp; done) | (intro b o hb; rw [hc.cell (p := ⟨b, o, none⟩) hb]; rfl))
        (first | (go_at_call 160; refine (eqFtl_same _ _ _ _ m.bs nb (unhide HNB) _ _ _ _ m.L nl (unhide HNL) _ _ _ (by exact q1) (by exact q2) hl (by exact p1) (by exact p2) (by omega)).mono ?_; rintro e w1 ⟨rfl, hc⟩))
      go_wp2
      go_roundw
      case rel => exact ⟨j + 1, by omega, by go_num, hB.drew.trans (hc.mono hB.size)⟩
      case measure => simp [intOf]; omega
    · go_wp2
      go_ret
      exact ⟨rfl, hB⟩

set_option maxHeartbeats 1000000 in
theorem eqRecordS_nil (w : World) :
    Calls Tryz.prog 96 #[.slice none 0 0, .slice none 0 0] w fun e w' => e = .returned (.bool true) ∧ w' = w := by
  go_enter Tryz.func96, Tryz.ntmps96
  go_wp2
  go_loopw [5] (fun i wr => i = .int .i64 0 ∧ wr = w) (fun _ _ => 0)
  case atStart => exact ⟨rfl, rfl⟩
  case round =>
    obtain ⟨rfl, rfl⟩ := hrel
    go_wp2
    go_ret
    exact ⟨rfl, rfl⟩
set_option maxHeartbeats 1000000 in
theorem eqFtlS_nil (w : World) :
    Calls Tryz.prog 95 #[.slice none 0 0, .slice none 0 0] w fun e w' => e = .returned (.bool true) ∧ w' = w := by
  go_enter Tryz.func95, Tryz.ntmps95
  go_wp2
  go_loopw [5] (fun i wr => i = .int .i64 0 ∧ wr = w) (fun _ _ => 0)
  case atStart => exact ⟨rfl, rfl⟩
  case round =>
    obtain ⟨rfl, rfl⟩ := hrel
    go_wp2
    go_ret
    exact ⟨rfl, rfl⟩
end Go.Proofs.YtjgcjeaplckbbaaGreatDoor

/- The model's Erased. -/

namespace Go.Proofs.YtjgcjeaplckbbaaGreatDoor
open Go.RowKit
set_option linter.unusedVariables false
set_option linter.unusedSimpArgs false

theorem PagesAt.of_block {w w' : World} {q : Nat} {ps : List Pg} (h : PagesAt w (some ⟨q, 0, none⟩) ps) (e : w'.heap[q]? = w.heap[q]?) : PagesAt w' (some ⟨q, 0, none⟩) ps := by
  intro i p hp
  obtain ⟨b, o, ha, h0, h1, h2, h3⟩ := h i p hp
  cases ha
  exact ⟨q, 0, rfl, (World.cell?_of_block (w := w) (a := ⟨q, 0 + i * 4, none⟩) e).trans h0, (World.cell?_of_block (w := w) (a := ⟨q, 0 + i * 4 + 1, none⟩) e).trans h1, (World.cell?_of_block (w := w) (a := ⟨q, 0 + i * 4 + 2, none⟩) e).trans h2, (World.cell?_of_block (w := w) (a := ⟨q, 0 + i * 4 + 3, none⟩) e).trans h3⟩

theorem zeroPagesAt (w : World) (tP : TypeId) : PagesAt (w.alloc (.cells (madeCells #[.bool false, .int .i64 0, .int .i64 0, .string ByteArray.empty] 16) tP)) (some ⟨w.heap.size, 0, none⟩) zeroBk.pages :=
  ownsRow_pagesAt (newPages w w.heap.size tP (Nat.le_refl _))

/-- A block is put in another's place, with pages that are new; W: whatever came behind it. -/
theorem SpecBlocks.setBlk2 {w W : World} {tB tP : TypeId} {base gB n c : Nat} {Q C : Nat → Nat} {bs : List Bk} (h : SpecBlocks w tB tP base (.slice (some ⟨gB, 0, none⟩) n c) Q C bs) {k : Nat} (hk : k < bs.length) (x : Int) (q : Nat)
    (hB : ∀ b, base ≤ b → b < w.heap.size → W.heap[b]? = ((w.setCell ⟨gB, k * 2, none⟩ (.int .i64 x)).setCell ⟨gB, k * 2 + 1, none⟩ (.slice (some ⟨q, 0, none⟩) 4 4)).heap[b]?) (hP : PagesAt W (some ⟨q, 0, none⟩) zeroBk.pages) :
    BlocksAt W (some ⟨gB, 0, none⟩) (bs.set k ⟨x, zeroBk.pages⟩) := by
  have hgB : gB < w.heap.size := (h.row.lt gB rfl).2
  have hgb : base ≤ gB := (h.row.lt gB rfl).1
  have hBc : ∀ j, W.cell? ⟨gB, j, none⟩ = ((w.setCell ⟨gB, k * 2, none⟩ (.int .i64 x)).setCell ⟨gB, k * 2 + 1, none⟩ (.slice (some ⟨q, 0, none⟩) 4 4)).cell? ⟨gB, j, none⟩ := fun j => World.cell?_of_block (a := ⟨gB, j, none⟩) (hB gB hgb hgB)
  have hlen : n = bs.length := by
    rcases h.row.2 with ⟨hv, _⟩ | ⟨g, cap, cur, hv, _⟩
    · cases hv
    · simp at hv; omega
  subst hlen
  have hcell : ∀ j u, (bkCells Q C 0 bs)[j]? = some u → w.cell? ⟨gB, j, none⟩ = some u := fun j u hu => ownsRow_cell h.row hu
  intro i b hb
  by_cases e : i = k
  · subst e
    rw [List.getElem?_set_self hk] at hb
    cases hb
    obtain ⟨b0, hb0⟩ := getElem?_ex hk
    have hc := bkCells_at Q C 0 hb0
    have c0 := hcell _ _ hc.1
    have c1 := hcell _ _ hc.2
    refine ⟨gB, 0, some ⟨q, 0, none⟩, 4, rfl, ?_, ?_, hP⟩
    · rw [Nat.zero_add, hBc, World.cell?_setCell_other _ _ _ _ (by simp), World.cell?_setCell_same' _ _ _ (by rw [c0]; rfl)]
    · rw [Nat.zero_add, hBc, World.cell?_setCell_same' _ _ _ (by rw [World.cell?_setCell_other _ _ _ _ (by simp), c1]; rfl)]
      rfl
  · rw [List.getElem?_set_ne (fun x => e x.symm)] at hb
    have hi := (List.getElem?_eq_some_iff.1 hb).1
    have hc := bkCells_at Q C 0 hb
    have hQ := h.Qlt hi
    have hQg : Q i ≠ gB := fun x => h.ne i hi (by rw [x]; rfl)
    refine ⟨gB, 0, some ⟨Q i, 0, none⟩, C i, rfl, ?_, ?_, ?_⟩
    · rw [Nat.zero_add, hBc, World.cell?_setCell_other _ _ _ _ (by simp <;> omega), World.cell?_setCell_other _ _ _ _ (by simp <;> omega)]
      exact hcell _ _ hc.1
    · rw [Nat.zero_add, hBc, World.cell?_setCell_other _ _ _ _ (by simp <;> omega), World.cell?_setCell_other _ _ _ _ (by simp <;> omega)]
      have := hcell _ _ hc.2
      rwa [Nat.zero_add] at this
    · exact (ownsRow_pagesAt (h.pages i b hb)).of_block ((hB _ hQ.1 hQ.2).trans ((Go.Deep.blk_setCell_other _ _ _ _ hQg).trans (Go.Deep.blk_setCell_other _ _ _ _ hQg)))

end Go.Proofs.YtjgcjeaplckbbaaGreatDoor

/- Chips whose rows may be written, and where they lie. No program is named here. -/
namespace Go.Proofs.YtjgcjeaplckbbaaGreatDoor
open Go.RowKit
set_option linter.unusedVariables false
set_option linter.unusedSimpArgs false

/-- The blocks bs lie from the address a on, in rows of S that may be written. -/
def ChipS (S : Nat → Prop) (w : World) (a : Option Addr) (bs : List Bk) : Prop :=
  ∀ i b, bs[i]? = some b → ∃ g o q qo pc, a = some ⟨g, o, none⟩ ∧ S g ∧ S q ∧ (∀ j, w.frozen? ⟨g, j, none⟩ = false) ∧ (∀ j, w.frozen? ⟨q, j, none⟩ = false) ∧
    w.cell? ⟨g, o + i * 2, none⟩ = some (.int .i64 b.wear) ∧ w.cell? ⟨g, o + i * 2 + 1, none⟩ = some (.slice (some ⟨q, qo, none⟩) b.pages.length pc) ∧ PagesAt w (some ⟨q, qo, none⟩) b.pages

theorem ChipS.blocksAt {S : Nat → Prop} {w : World} {a : Option Addr} {bs : List Bk} (h : ChipS S w a bs) : BlocksAt w a bs := by
  intro i b hb
  obtain ⟨g, o, q, qo, pc, ha, _, _, _, _, h0, h1, h2⟩ := h i b hb
  exact ⟨g, o, _, pc, ha, h0, h1, h2⟩

theorem ChipS.mono {S T : Nat → Prop} {w : World} {a : Option Addr} {bs : List Bk} (h : ChipS S w a bs) (hS : ∀ k, S k → T k) : ChipS T w a bs := by
  intro i b hb
  obtain ⟨g, o, q, qo, pc, ha, h1, h2, hr⟩ := h i b hb
  exact ⟨g, o, q, qo, pc, ha, hS _ h1, hS _ h2, hr⟩

theorem pagesAt_cells4 {w : World} {q qo : Nat} {ps : List Pg} (h : PagesAt w (some ⟨q, qo, none⟩) ps) {i : Nat} {p : Pg} (hp : ps[i]? = some p) :
    w.cell? ⟨q, qo + i * 4, none⟩ = some (.bool p.used) ∧ w.cell? ⟨q, qo + i * 4 + 1, none⟩ = some (.int .i64 p.log) ∧ w.cell? ⟨q, qo + i * 4 + 2, none⟩ = some (.int .i64 p.seq) ∧ w.cell? ⟨q, qo + i * 4 + 3, none⟩ = some (.string p.data) := by
  obtain ⟨b, o, e, h0, h1, h2, h3⟩ := h i p hp
  cases e
  exact ⟨h0, h1, h2, h3⟩

theorem frozen_of_block {w w' : World} {b j : Nat} (e : w'.heap[b]? = w.heap[b]?) : w'.frozen? ⟨b, j, none⟩ = w.frozen? ⟨b, j, none⟩ := by
  simp [World.frozen?, e]

theorem ChipS.of_blocks {S : Nat → Prop} {w w' : World} {a : Option Addr} {bs : List Bk} (h : ChipS S w a bs) (h4 : ∀ b ∈ bs, b.pages.length = 4) (e : ∀ k, S k → k < w.heap.size → w'.heap[k]? = w.heap[k]?) : ChipS S w' a bs := by
  intro i b hb
  obtain ⟨g, o, q, qo, pc, ha, h1, h2, f1, f2, c0, c1, hP⟩ := h i b hb
  have eg := e g h1 (World.block_lt_of_cell? _ _ c0)
  obtain ⟨p, hp⟩ := getElem?_ex (l := b.pages) (k := 0) (by rw [h4 b (List.mem_of_getElem? hb)]; omega)
  have eq := e q h2 (World.block_lt_of_cell? _ _ (pagesAt_cells4 hP hp).1)
  refine ⟨g, o, q, qo, pc, ha, h1, h2, fun j => (frozen_of_block eg).trans (f1 j), fun j => (frozen_of_block eq).trans (f2 j), (World.cell?_of_block (w := w) (a := ⟨g, _, none⟩) eg).trans c0, (World.cell?_of_block (w := w) (a := ⟨g, _, none⟩) eg).trans c1, fun j p hp => ?_⟩
  obtain ⟨d0, d1, d2, d3⟩ := pagesAt_cells4 hP hp
  exact ⟨q, qo, rfl, (World.cell?_of_block (w := w) (a := ⟨q, _, none⟩) eq).trans d0, (World.cell?_of_block (w := w) (a := ⟨q, _, none⟩) eq).trans d1, (World.cell?_of_block (w := w) (a := ⟨q, _, none⟩) eq).trans d2, (World.cell?_of_block (w := w) (a := ⟨q, _, none⟩) eq).trans d3⟩

theorem ChipS.touch {S T : Nat → Prop} {w w' : World} {a : Option Addr} {bs : List Bk} (h : ChipS S w a bs) (h4 : ∀ b ∈ bs, b.pages.length = 4) (hT : Touch T w w') (hS : ∀ k, S k → ¬ T k) : ChipS S w' a bs :=
  h.of_blocks h4 fun k hk hl => hT.block k hl (hS k hk)

theorem ChipS.below {S : Nat → Prop} {w w' : World} {a : Option Addr} {bs : List Bk} (h : ChipS S w a bs) (h4 : ∀ b ∈ bs, b.pages.length = 4) (hB : Below w.heap.size w w') : ChipS S w' a bs :=
  h.of_blocks h4 fun k _ hl => hB.block k hl

theorem cell_apartS {w : World} {P : Nat} {x : Option Addr} {y z : Nat} (hP : w.cell? ⟨P, 0, none⟩ = some (.slice x y z)) {g off : Nat} {v : Value} (hc : w.cell? ⟨g, off, none⟩ = some v) (hv : off ≠ 0 ∨ ∀ a b c, v ≠ .slice a b c) (u : Value) : (w.setCell ⟨P, 0, none⟩ u).cell? ⟨g, off, none⟩ = some v := by
  rw [World.cell?_setCell_other _ _ _ _ ?_]
  · exact hc
  · intro e
    simp at e
    obtain ⟨rfl, rfl⟩ := e
    rcases hv with h | h
    · exact h rfl
    · rw [hP] at hc
      cases hc
      exact h _ _ _ rfl

/-- A store into a variable of its own that holds a list turns no chip. -/
theorem ChipS.setApart {S : Nat → Prop} {w : World} {P : Nat} {x : Option Addr} {y z : Nat} (hP : w.cell? ⟨P, 0, none⟩ = some (.slice x y z)) {a : Option Addr} {bs : List Bk} (h : ChipS S w a bs) (u : Value) : ChipS S (w.setCell ⟨P, 0, none⟩ u) a bs := by
  intro i b hb
  obtain ⟨g, o, q, qo, pc, ha, h1, h2, f1, f2, c0, c1, hA⟩ := h i b hb
  refine ⟨g, o, q, qo, pc, ha, h1, h2, fun j => by simpa using f1 j, fun j => by simpa using f2 j, cell_apartS hP c0 (.inr fun _ _ _ e => by cases e) u, cell_apartS hP c1 (.inl (by omega)) u, fun j p hp => ?_⟩
  obtain ⟨d0, d1, d2, d3⟩ := pagesAt_cells4 hA hp
  exact ⟨q, qo, rfl, cell_apartS hP d0 (.inr fun _ _ _ e => by cases e) u, cell_apartS hP d1 (.inr fun _ _ _ e => by cases e) u, cell_apartS hP d2 (.inr fun _ _ _ e => by cases e) u, cell_apartS hP d3 (.inr fun _ _ _ e => by cases e) u⟩

theorem list_of {α : Type} {P : Nat → α → Prop} : ∀ n, (∀ i, i < n → ∃ x, P i x) → ∃ l : List α, l.length = n ∧ ∀ i x, l[i]? = some x → P i x := by
  intro n
  induction n with
  | zero => exact fun _ => ⟨[], rfl, fun i x h => by simp at h⟩
  | succ n ih =>
    intro h
    obtain ⟨l, hl, hP⟩ := ih fun i hi => h i (by omega)
    obtain ⟨x, hx⟩ := h n (by omega)
    refine ⟨l ++ [x], by simp [hl], fun i y hy => ?_⟩
    by_cases e : i < n
    · rw [List.getElem?_append_left (by omega)] at hy
      exact hP i y hy
    · have hi := (List.getElem?_eq_some_iff.1 hy).1
      simp at hi
      obtain rfl : i = n := by omega
      rw [List.getElem?_append_right (by omega), hl] at hy
      simp at hy
      subst hy
      exact hx

theorem keep_int {w : World} {t : Addr} {y : Int} (ht : w.cell? t = some (.int .i64 y)) (x : Int) {p : Addr} {v : Value} (hp : w.cell? p = some v) (hv : ∀ k z, v ≠ .int k z) : (w.setCell t (.int .i64 x)).cell? p = some v := by
  rw [World.cell?_setCell_other _ _ _ _ ?_]
  · exact hp
  · intro e
    subst e
    rw [ht] at hp
    cases hp
    exact hv _ _ rfl

theorem turn_int {w : World} {t : Addr} {y : Int} (ht : w.cell? t = some (.int .i64 y)) (x : Int) {p : Addr} {z : Int} (hp : w.cell? p = some (.int .i64 z)) : ∃ z', (w.setCell t (.int .i64 x)).cell? p = some (.int .i64 z') := by
  by_cases e : t = p
  · subst e
    exact ⟨x, World.cell?_setCell_same' _ _ _ (by rw [ht]; rfl)⟩
  · exact ⟨z, by rw [World.cell?_setCell_other _ _ _ _ (by first | exact e | exact fun h => e h.symm)]; exact hp⟩

/-- A number is written into some cell that holds a number: the chip has other numbers, its form is the same. -/
theorem ChipS.store {S : Nat → Prop} {w : World} {a : Option Addr} {bs : List Bk} (h : ChipS S w a bs) {t : Addr} {y : Int} (ht : w.cell? t = some (.int .i64 y)) (x : Int) :
    ∃ bs' : List Bk, bs'.length = bs.length ∧ (∀ (i : Nat) (b' : Bk), bs'[i]? = some b' → ∃ b : Bk, bs[i]? = some b ∧ b'.pages.length = b.pages.length) ∧ ChipS S (w.setCell t (.int .i64 x)) a bs' := by
  have key : ∀ i, i < bs.length → ∃ b' : Bk, ∃ b, bs[i]? = some b ∧ b'.pages.length = b.pages.length ∧ ∃ g o q qo pc, a = some ⟨g, o, none⟩ ∧ S g ∧ S q ∧ (∀ j, (w.setCell t (.int .i64 x)).frozen? ⟨g, j, none⟩ = false) ∧ (∀ j, (w.setCell t (.int .i64 x)).frozen? ⟨q, j, none⟩ = false) ∧
    (w.setCell t (.int .i64 x)).cell? ⟨g, o + i * 2, none⟩ = some (.int .i64 b'.wear) ∧ (w.setCell t (.int .i64 x)).cell? ⟨g, o + i * 2 + 1, none⟩ = some (.slice (some ⟨q, qo, none⟩) b'.pages.length pc) ∧ PagesAt (w.setCell t (.int .i64 x)) (some ⟨q, qo, none⟩) b'.pages := by
    intro i hi
    obtain ⟨b, hb⟩ := getElem?_ex hi
    obtain ⟨g, o, q, qo, pc, ha, h1, h2, f1, f2, c0, c1, hA⟩ := h i b hb
    obtain ⟨z, hz⟩ := turn_int ht x c0
    obtain ⟨ps, hpl, hps⟩ := list_of (P := fun j (p' : Pg) => (w.setCell t (.int .i64 x)).cell? ⟨q, qo + j * 4, none⟩ = some (.bool p'.used) ∧ (w.setCell t (.int .i64 x)).cell? ⟨q, qo + j * 4 + 1, none⟩ = some (.int .i64 p'.log) ∧ (w.setCell t (.int .i64 x)).cell? ⟨q, qo + j * 4 + 2, none⟩ = some (.int .i64 p'.seq) ∧ (w.setCell t (.int .i64 x)).cell? ⟨q, qo + j * 4 + 3, none⟩ = some (.string p'.data)) b.pages.length (fun j hj => by
      obtain ⟨p, hp⟩ := getElem?_ex hj
      obtain ⟨d0, d1, d2, d3⟩ := pagesAt_cells4 hA hp
      obtain ⟨z1, hz1⟩ := turn_int ht x d1
      obtain ⟨z2, hz2⟩ := turn_int ht x d2
      exact ⟨⟨p.used, z1, z2, p.data⟩, keep_int ht x d0 (fun _ _ e => by cases e), hz1, hz2, keep_int ht x d3 (fun _ _ e => by cases e)⟩)
    refine ⟨⟨z, ps⟩, b, hb, hpl, g, o, q, qo, pc, ha, h1, h2, fun j => by simpa using f1 j, fun j => by simpa using f2 j, hz, ?_, fun j p hp => ⟨q, qo, rfl, hps j p hp⟩⟩
    show _ = some (Value.slice (some ⟨q, qo, none⟩) ps.length pc)
    rw [hpl]
    exact keep_int ht x c1 (fun _ _ e => by cases e)
  obtain ⟨bs', hl, hP⟩ := list_of _ key
  refine ⟨bs', hl, fun i b' hb' => ?_, fun i b' hb' => ?_⟩
  · obtain ⟨b, h1, h2, _⟩ := hP i b' hb'
    exact ⟨b, h1, h2⟩
  · obtain ⟨b, h1, h2, h3⟩ := hP i b' hb'
    exact h3

theorem SpecBlocks.chipS {w : World} {tB tP : TypeId} {base : Nat} {a : Option Addr} {n c : Nat} {Q C : Nat → Nat} {bs : List Bk} (h : SpecBlocks w tB tP base (.slice a n c) Q C bs) : ChipS (fun k => base ≤ k ∧ k < w.heap.size) w a bs := by
  have hn : ∀ {g cap : Nat}, (Value.slice a n c) = .slice (some ⟨g, 0, none⟩) bs.length cap → w.ownsRow base tB 2 (.slice (some ⟨g, 0, none⟩) bs.length cap) bs.length (bkCells Q C 0 bs) := fun e => by rw [← e]; exact h.row
  rcases h.row.2 with ⟨hv, h0⟩ | ⟨g, cap, cur, hv, hb, hg, _⟩
  · intro i b hb
    have := (List.getElem?_eq_some_iff.1 hb).1
    omega
  · have hr := hn hv
    cases hv
    intro i b hb'
    have hc := bkCells_at Q C 0 hb'
    have hi := (List.getElem?_eq_some_iff.1 hb').1
    refine ⟨g, 0, Q i, 0, C i, rfl, ⟨hb, (Array.getElem?_eq_some_iff.1 hg).1⟩, h.Qlt hi, ownsRow_frozen hr, ownsRow_frozen (h.pages i b hb'), ?_, ?_, ownsRow_pagesAt (h.pages i b hb')⟩
    · rw [show 0 + i * 2 = i * 2 by omega]; exact ownsRow_cell hr hc.1
    · rw [show 0 + i * 2 + 1 = i * 2 + 1 by omega]
      have := ownsRow_cell hr hc.2
      rwa [Nat.zero_add] at this

theorem newPages_frozen (w : World) (tP : TypeId) (j : Nat) : (w.alloc (.cells (madeCells #[.bool false, .int .i64 0, .int .i64 0, .string ByteArray.empty] 16) tP)).frozen? ⟨w.heap.size, j, none⟩ = false :=
  ownsRow_frozen (newPages w w.heap.size tP (Nat.le_refl _)) j

/-- BlocksAt with what is known of the rows. -/
theorem chipS_of {S : Nat → Prop} {w : World} {g : Nat} {bs : List Bk} (h : BlocksAt w (some ⟨g, 0, none⟩) bs) (hg : S g ∧ ∀ j, w.frozen? ⟨g, j, none⟩ = false)
    (hq : ∀ i, i < bs.length → ∀ pa n c, w.cell? ⟨g, i * 2 + 1, none⟩ = some (.slice pa n c) → ∃ q qo, pa = some ⟨q, qo, none⟩ ∧ S q ∧ ∀ j, w.frozen? ⟨q, j, none⟩ = false) : ChipS S w (some ⟨g, 0, none⟩) bs := by
  intro i b hb
  obtain ⟨g', o, pa, pc, e, c0, c1, hP⟩ := h i b hb
  cases e
  obtain ⟨q, qo, rfl, hS, hf⟩ := hq i (List.getElem?_eq_some_iff.1 hb).1 pa _ _ (by rw [← c1]; congr 2; omega)
  exact ⟨g, 0, q, qo, pc, rfl, hg.1, hS, hg.2, hf, c0, c1, hP⟩

theorem SpecBlocks.setBlkS {w W : World} {tB tP : TypeId} {base gB n c : Nat} {Q C : Nat → Nat} {bs : List Bk} (h : SpecBlocks w tB tP base (.slice (some ⟨gB, 0, none⟩) n c) Q C bs) {k : Nat} (hk : k < bs.length) (x : Int) (q : Nat)
    (hB : ∀ b, base ≤ b → b < w.heap.size → W.heap[b]? = ((w.setCell ⟨gB, k * 2, none⟩ (.int .i64 x)).setCell ⟨gB, k * 2 + 1, none⟩ (.slice (some ⟨q, 0, none⟩) 4 4)).heap[b]?) (hP : PagesAt W (some ⟨q, 0, none⟩) zeroBk.pages)
    (hq : base ≤ q ∧ q < W.heap.size) (hqf : ∀ j, W.frozen? ⟨q, j, none⟩ = false) (hsz : w.heap.size ≤ W.heap.size) : ChipS (fun k => base ≤ k ∧ k < W.heap.size) W (some ⟨gB, 0, none⟩) (bs.set k ⟨x, zeroBk.pages⟩) := by
  have hgB : gB < w.heap.size := (h.row.lt gB rfl).2
  have hgb : base ≤ gB := (h.row.lt gB rfl).1
  have hlen : n = bs.length := by
    rcases h.row.2 with ⟨hv, _⟩ | ⟨g, cap, cur, hv, _⟩
    · cases hv
    · simp at hv; omega
  subst hlen
  have hfr : ∀ b j, base ≤ b → b < w.heap.size → W.frozen? ⟨b, j, none⟩ = w.frozen? ⟨b, j, none⟩ := fun b j h1 h2 => (frozen_of_block (hB b h1 h2)).trans (by simp)
  refine chipS_of (h.setBlk2 hk x q hB hP) ⟨⟨hgb, by omega⟩, fun j => (hfr _ _ hgb hgB).trans (ownsRow_frozen h.row j)⟩ fun i hi pa m d hc => ?_
  rw [List.length_set] at hi
  rw [World.cell?_of_block (a := ⟨gB, i * 2 + 1, none⟩) (hB gB hgb hgB)] at hc
  obtain ⟨b, hb⟩ := getElem?_ex hi
  have hcw := ownsRow_cell h.row (bkCells_at Q C 0 hb).2
  by_cases e : i = k
  · subst e
    rw [World.cell?_setCell_same' _ _ _ (by rw [World.cell?_setCell_other _ _ _ _ (by simp), hcw]; rfl)] at hc
    cases hc
    exact ⟨q, 0, rfl, hq, hqf⟩
  · rw [World.cell?_setCell_other _ _ _ _ (by simp <;> omega), World.cell?_setCell_other _ _ _ _ (by simp <;> omega), hcw] at hc
    cases hc
    have hQ := h.Qlt hi
    rw [Nat.zero_add]
    exact ⟨Q i, 0, rfl, ⟨hQ.1, by omega⟩, fun j => (hfr _ _ hQ.1 hQ.2).trans (ownsRow_frozen (h.pages i b hb) j)⟩

end Go.Proofs.YtjgcjeaplckbbaaGreatDoor

/- The model's new chip, with where its rows lie. -/
namespace Go.Proofs.YtjgcjeaplckbbaaGreatDoor
open Go.RowKit
set_option linter.unusedVariables false
set_option linter.unusedSimpArgs false

set_option maxRecDepth 100000 in
set_option maxHeartbeats 1000000 in
theorem specChipNew_soft (n : Nat) (w : World) (h1 : 4 ≤ n) (h2 : n ≤ 12) :
    Calls Tryz.prog 105 #[.int .i64 n] w fun e w' => ∃ a c, e = .returned (.tuple #[.agg #[.slice a n c], .bool true]) ∧ ChipS (fun k => w.heap.size ≤ k ∧ k < w'.heap.size) w' a (List.replicate n zeroBk) ∧ Below w.heap.size w w' := by
  go_enter Tryz.func105, Tryz.ntmps105
  go_wp2_with fail
  refine (l1In_any _ _ _ _).mono ?_
  rintro e w1 ⟨rfl, rfl⟩
  have hd : decide (4 ≤ (n : Int) ∧ (n : Int) ≤ 12) = true := by simp; omega
  rw [hd]
  go_wp2
  go_loopw [5] (fun i wr => ∃ (k : Nat) (v : Value) (Q C : Nat → Nat), k ≤ n ∧ i = .int .i64 k ∧ wr.heap[w.heap.size + 1]? = some (.cells #[v] 51 (0, 0)) ∧ SpecBlocks wr 220 122 (w.heap.size + 2) v Q C (List.replicate k zeroBk) ∧ Below (w.heap.size + 1) (w.alloc (.cells #[.slice none 0 0] 51)) wr ∧ w.heap.size + 2 ≤ wr.heap.size) (fun i _ => n - (intOf i).toNat)
  case atStart =>
    refine ⟨0, .slice none 0 0, fun _ => 0, fun _ => 0, Nat.zero_le _, rfl, ?_, SpecBlocks.nil _ _ _ _ _ _, ?_, by simp⟩
    · exact heap_alloc2_new _ _ _
    · exact (Below.refl _ _).alloc (by simp) _
  case round =>
    obtain ⟨k, v, Q, C, hk, rfl, hv, hS, hB, hsz⟩ := hrel
    by_cases hlt : k < n
    · have hcv := cell_of_one hv
      have hfv := free_of_one hv
      have hvl : w.heap.size + 1 < wr.heap.size := by omega
      have hne : some (w.heap.size + 1) ≠ v.ownBlock := fun e => by have := (hS.row.lt _ e.symm).1; omega
      have hR : wr.ownsRow (w.heap.size + 2) 220 2 v k (bkCells Q C 0 (List.replicate k zeroBk)) := by have := hS.row; rwa [List.length_replicate] at this
      have HS := hide hS
      clear hS
      obtain ⟨X, hX⟩ : ∃ X, X = bkCells Q C 0 (List.replicate k zeroBk) := ⟨_, rfl⟩
      rw [← hX] at hR
      have HX := hide hX
      clear hX
      obtain ⟨i0, hi, hz0, hz1, hz2⟩ := info_parts infoBlock
      have hvl0 : w.heap.size < wr.heap.size := by omega
      have hmk := make_pages4
      go_wp2
      go_region_law
        (first | (refine step_append_lies _ rfl (.tmp 17) (.tmp 20) 49 rfl (w.heap.size + 2) 220 i0 _ 2 32 Tryz.underlying49 hi hz0 hz1 hz2 rfl (by decide) v k X (by simp [Act.eval]) (by exact (hR.alloc _).alloc _) ⟨wr.heap.size + 1, 0, none⟩ 1 1 [.int .i64 0, .slice (some ⟨wr.heap.size, 0, none⟩) 4 4] (by simp [Act.eval]) rfl (World.news_of_block (cs := #[.int .i64 0, .slice (some ⟨wr.heap.size, 0, none⟩) 4 4]) (t := 220) (fr := (0, 0)) (by exact heap_alloc2_new _ _ _)) (by simp [Value.oneCell']) (by omega) (by unfold maxLen; omega) (by omega) (by simp; omega) (wr.heap.size + 1 + 1) (by simp) ?_; intro g cap w1 hown hgrow hat hlt1; have hk1 : w1.cell? ⟨w.heap.size + 1, 0, none⟩ = some v := (hgrow.cell_far ⟨w.heap.size + 1, 0, none⟩ (by simp; omega) hne).trans (by simp [*, frozen_alloc_lt, cell_alloc_lt, frozen_drew, cell_drew]); have hk2 : w1.frozen? ⟨w.heap.size + 1, 0, none⟩ = false := (hgrow.frozen_far ⟨w.heap.size + 1, 0, none⟩ (by simp; omega) hne).trans (by simp [*, frozen_alloc_lt, cell_alloc_lt, frozen_drew, cell_drew])))
      all_goals go_wp2
      all_goals
        go_roundw
        case rel =>
          rw [unhide HX] at hown
          obtain ⟨Q', C', h2⟩ := newStep (unhide HS) hsz hown hgrow hat
          have hbl : w1.heap[w.heap.size + 1]? = some (.cells #[v] 51 (0, 0)) := by
            rw [hgrow.block _ (by simp; omega) hne]
            show (((wr.heap.push _).push _))[w.heap.size + 1]? = _
            rw [Array.getElem?_push, if_neg (by simp; omega), Array.getElem?_push, if_neg (by omega)]
            exact hv
          have hsz1 := hgrow.size
          simp at hsz1
          refine ⟨k + 1, _, Q', C', by omega, by go_num, one_setCell hbl, h2.setLow (by show w.heap.size + 1 < w.heap.size + 2; omega) _, ?_, by simp [World.setCell]; omega⟩
          refine (Below.setCell ?_ (by simp) _)
          refine Below.grown (((hB.alloc (by omega) _).alloc (by simp; omega) _).drew) hgrow (by simp; omega) (fun j e => ?_)
          have := ((unhide HS).row.lt j e).1
          omega
        case measure => simp [intOf]; omega
    · have hk' : k = n := by omega
      subst hk'
      obtain ⟨a, c, rfl, hBA⟩ := hS.form
      have hcv := cell_of_one hv
      have hfv := free_of_one hv
      have hcell0 : wr.cell? ⟨w.heap.size, 0, none⟩ = some (.slice none 0 0) := by rw [hB.cell (p := ⟨w.heap.size, 0, none⟩) (by simp)]; simp
      have hfr0 : wr.frozen? ⟨w.heap.size, 0, none⟩ = false := by rw [hB.frozen (p := ⟨w.heap.size, 0, none⟩) (by simp)]; simp
      have HBA := hide hBA
      have HSS := hide hS
      clear hBA hS
      simp only [List.length_replicate] at hcv hv
      go_wp2
      refine bodyPost_ret (v := .tuple #[.agg #[.slice a k c], .bool true]) (by simp [results, Tryz.results105, go_sem, hcell0]) rfl ⟨a, c, rfl, ?_, ?_⟩
      · have hx : SpecBlocks (wr.setCell ⟨w.heap.size, 0, none⟩ (.slice a k c)) _ _ _ _ _ _ _ := (unhide HSS).setLow (a := ⟨w.heap.size, 0, none⟩) (by show w.heap.size < w.heap.size + 2; omega) (.slice a k c)
        exact hx.chipS.mono fun k hk => ⟨by omega, hk.2⟩
      · refine (((Below.refl _ w).alloc (Nat.le_refl _) _).trans (hB.mono (by omega))).setCell (by simp) _

end Go.Proofs.YtjgcjeaplckbbaaGreatDoor

/- The model's new member, with where its rows lie. -/
namespace Go.Proofs.YtjgcjeaplckbbaaGreatDoor
open Go.RowKit
set_option linter.unusedVariables false
set_option linter.unusedSimpArgs false

theorem newBs_four (n : Nat) : ∀ b ∈ newBs n, b.pages.length = 4 := fun b hb => by rw [newBs_block hb]; rfl

set_option maxRecDepth 100000 in
set_option maxHeartbeats 2000000 in
theorem specFtlNew_soft (n : Nat) (h1 : 4 ≤ n) (h2 : n ≤ 12) (w : World) :
    Calls Tryz.prog 53 #[.int .i64 n] w fun e w' => ∃ a c ma mc, e = .returned (.tuple #[.agg #[.slice a n c, .slice ma (newMap n).length mc, .int .i64 1, .int .i64 0], .bool true]) ∧ ChipS (fun k => w.heap.size ≤ k ∧ k < w'.heap.size) w' a (newBs n) ∧ IntsAt w' ma (newMap n) ∧ MineFrom w' ma (newMap n).length w.heap.size ∧ Below w.heap.size w w' := by
  have hb0 : ∀ o, Below w.heap.size w (w.alloc o) := fun o => (Below.refl _ w).alloc (Nat.le_refl _) _
  go_enter Tryz.func53, Tryz.ntmps53
  go_wp2_with fail
  refine (specChipNew_soft n _ h1 h2).mono ?_
  rintro e w1 ⟨a, c, rfl, hA, hB1⟩
  have hs1 := hB1.size
  simp at hs1
  simp only [World.size_alloc] at hA
  have hr1 := (hB1.block w.heap.size (by simp)).trans (World.alloc_heap_new w _)
  have hW1 : Below w.heap.size w w1 := (hb0 _).trans (hB1.mono (by simp))
  have HA : Hid (ChipS (fun k => w.heap.size + 1 ≤ k ∧ k < w1.heap.size) w1 a (newBs n)) := hA
  have HR1 := hide hr1
  clear hA hB1 hr1 hb0
  have hb1 : ∀ o, Below w1.heap.size w1 (w1.alloc o) := fun o => (Below.refl _ w1).alloc (Nat.le_refl _) _
  go_wp2_with fail
  refine (l2Map_any a c (newBs n) n (newBs_length n) (chipOk_newBs h1 h2) _ ((unhide HA).blocksAt.below (hb1 _) (Nat.le_refl _))).mono ?_
  rintro e w2 ⟨⟨v, r, L, rfl, hM, hv⟩, hB2⟩
  obtain ⟨rfl, rfl⟩ := newMap_is hM
  obtain ⟨ma, mc, rfl, hI, hMine⟩ := hv.form
  have hs2 := hB2.size
  simp at hs2
  have hB12 := (hb1 _).trans (hB2.mono (by simp))
  have hr2 := (hB12.block w.heap.size (by omega)).trans (unhide HR1)
  have hc2 : w2.cell? ⟨w1.heap.size, 0, none⟩ = some (.slice a n c) := by
    rw [hB2.cell (p := ⟨w1.heap.size, 0, none⟩) (by simp)]
    simp
  have q0 := cell_of_row _ _ 0 _ _ _ hr2
  have q1 := cell_of_row _ _ 1 _ _ _ hr2
  have q2 := cell_of_row _ _ 2 _ _ _ hr2
  have q3 := cell_of_row _ _ 3 _ _ _ hr2
  have f0 := frozen_of_row _ _ 0 _ _ hr2
  have f1 := frozen_of_row _ _ 1 _ _ hr2
  have f2 := frozen_of_row _ _ 2 _ _ hr2
  have f3 := frozen_of_row _ _ 3 _ _ hr2
  simp at q0 q1 q2 q3
  have hW2 := hW1.trans (hB12.mono hW1.size)
  have HA2 := hide ((unhide HA).below (newBs_four n) hB12)
  have HI := hide hI
  obtain ⟨mn, hmn⟩ : ∃ mn, (newMap n).length = mn := ⟨_, rfl⟩
  rw [hmn] at hMine ⊢
  have HMN := hide hmn
  simp only [World.size_alloc] at hMine
  have HMI := hide hMine
  have HR2 := hide hr2
  clear hv hM hB2 hB12 hr2 hI hmn HA HR1 hb1 hW1 hMine
  go_wp2
  refine bodyPost_ret (v := .tuple #[.agg #[.slice a n c, .slice ma mn mc, .int .i64 1, .int .i64 0], .bool true]) (by simp [results, Tryz.results53, go_sem, q0, q1, q2, q3]) rfl ⟨a, c, ma, mc, by rw [unhide HMN], ?_, ?_, ?_, ?_⟩
  · exact ((unhide HA2).touch (newBs_four n) (touchN4 _ _ _ _ _ _) (fun k hk e => by omega)).mono (fun k hk => ⟨by omega, by simp [World.setCell]; omega⟩)
  · exact intsAt_apart (unhide HR2) (unhide HI) (fun x hx => by rw [List.eq_of_mem_replicate hx]; decide) (touchN4 _ _ _ _ _ _)
  · rw [unhide HMN]; exact MineFrom.lowerN ((unhide HMI).touch' (touchN4 _ _ _ _ _ _) (fun g hg he => by
      rcases unhide HMI with ⟨e, _⟩ | ⟨g', e, h1, _⟩
      · rw [hg] at e; cases e
      · rw [hg] at e; cases e; omega)) (by omega)
  · exact hW2.trans ((touchN4 _ _ _ _ _ _).below hW2.size (fun k hk => by rw [hk]; exact Nat.le_refl _))
end Go.Proofs.YtjgcjeaplckbbaaGreatDoor

/- Layouts in plain words: right weights, which member has the parity of a stripe, where a block lies. No program is named here. -/
namespace Go.Proofs.YtjgcjeaplckbbaaGreatDoor
open Go.RowKit
set_option linter.unusedVariables false
set_option linter.unusedSimpArgs false

/-- The first k weights together. -/
def upto (L : List Int) (k : Nat) : Int := (L.take k).sum

theorem upto_zero (L : List Int) : upto L 0 = 0 := by simp [upto]
theorem upto_step {L : List Int} {k : Nat} {x : Int} (h : L[k]? = some x) : upto L (k + 1) = upto L k + x := by
  unfold upto
  rw [List.take_add_one, h]
  simp
theorem upto_all (L : List Int) : upto L L.length = L.sum := by simp [upto]

/-- Weights that are each within 0 and 5. -/
def Small (L : List Int) : Prop := ∀ x ∈ L, 0 ≤ x ∧ x ≤ 5
instance (L : List Int) : Decidable (Small L) := by unfold Small; infer_instance

theorem Small.at {L : List Int} (h : Small L) {k : Nat} {x : Int} (hx : L[k]? = some x) : 0 ≤ x ∧ x ≤ 5 := h x (List.mem_of_getElem? hx)

theorem Small.upto {L : List Int} (h : Small L) : ∀ k, k ≤ L.length → 0 ≤ upto L k ∧ upto L k ≤ 5 * (k : Int) := by
  intro k
  induction k with
  | zero => intro _; simp [upto_zero]
  | succ k ih =>
    intro hk
    obtain ⟨x, hx⟩ := getElem?_ex (l := L) (k := k) (by omega)
    have := ih (by omega)
    have := h.at hx
    rw [upto_step hx]
    omega

/-- A right layout. -/
def LayOk (L : List Int) : Prop := (3 ≤ L.length ∧ L.length ≤ 5) ∧ Small L ∧ 0 < L.sum
instance (L : List Int) : Decidable (LayOk L) := by unfold LayOk; infer_instance

theorem LayOk.sum {L : List Int} (h : LayOk L) : 0 < L.sum ∧ L.sum ≤ 25 := by
  refine ⟨h.2.2, ?_⟩
  have := h.2.1.upto L.length (Nat.le_refl _)
  rw [upto_all] at this
  have := h.1.2
  omega

/-- The member m has the parity of the stripe s: the first whose end is above what is left. -/
structure ParIs (L : List Int) (s : Int) (m : Nat) : Prop where
  lt : m < L.length
  above : s % L.sum < upto L (m + 1)
  first : ∀ j, j < m → upto L (j + 1) ≤ s % L.sum

theorem ParIs.one {L : List Int} {s : Int} {m n : Nat} (h : ParIs L s m) (k : ParIs L s n) : m = n := by
  rcases Nat.lt_trichotomy m n with e | e | e
  · have := k.first m e; have := h.above; omega
  · exact e
  · have := h.first n e; have := k.above; omega

/-- What ParityOf answers. -/
def ParityIs (L : List Int) (s r : Int) : Prop :=
  (LayOk L ∧ (0 ≤ s ∧ s ≤ 1000000000) ∧ ∃ m : Nat, r = (m : Int) ∧ ParIs L s m) ∨ (¬ (LayOk L ∧ (0 ≤ s ∧ s ≤ 1000000000)) ∧ r = -1)

theorem ParityIs.one {L : List Int} {s r q : Int} (h : ParityIs L s r) (k : ParityIs L s q) : r = q := by
  rcases h with ⟨h1, h2, m, rfl, h3⟩ | ⟨h1, rfl⟩
  · rcases k with ⟨_, _, n, rfl, k3⟩ | ⟨k1, _⟩
    · rw [h3.one k3]
    · exact absurd ⟨h1, h2⟩ k1
  · rcases k with ⟨k1, k2, _⟩ | ⟨_, rfl⟩
    · exact absurd ⟨k1, k2⟩ h1
    · rfl

/-- Where a block of a right layout lies. -/
structure PutIs (L : List Int) (lba mem stripe : Int) : Prop where
  quo : stripe = lba / ((L.length : Int) - 1)
  rest : ∃ m : Nat, ParIs L stripe m ∧ mem = if (m : Int) ≤ lba % ((L.length : Int) - 1) then lba % ((L.length : Int) - 1) + 1 else lba % ((L.length : Int) - 1)

theorem PutIs.one {L : List Int} {lba m s m' s' : Int} (h : PutIs L lba m s) (k : PutIs L lba m' s') : m = m' ∧ s = s' := by
  obtain ⟨rfl, p, hp, rfl⟩ := h
  obtain ⟨rfl, q, hq, rfl⟩ := k
  rw [hp.one hq]
  exact ⟨rfl, rfl⟩

/-- What PlaceOf answers. -/
def PlaceIs (L : List Int) (lba m s : Int) : Prop :=
  (LayOk L ∧ (0 ≤ lba ∧ lba ≤ 1000000000) ∧ PutIs L lba m s) ∨ (¬ (LayOk L ∧ (0 ≤ lba ∧ lba ≤ 1000000000)) ∧ m = -1 ∧ s = 0)

theorem PlaceIs.one {L : List Int} {lba m s m' s' : Int} (h : PlaceIs L lba m s) (k : PlaceIs L lba m' s') : m = m' ∧ s = s' := by
  rcases h with ⟨h1, h2, h3⟩ | ⟨h1, rfl, rfl⟩
  · rcases k with ⟨_, _, k3⟩ | ⟨k1, _⟩
    · exact h3.one k3
    · exact absurd ⟨h1, h2⟩ k1
  · rcases k with ⟨k1, k2, _⟩ | ⟨_, rfl, rfl⟩
    · exact absurd ⟨k1, k2⟩ h1
    · exact ⟨rfl, rfl⟩

/-- What LbaOf answers. -/
def LbaIs (L : List Int) (mem stripe r : Int) : Prop :=
  (LayOk L ∧ (0 ≤ stripe ∧ stripe ≤ 249999999) ∧ (0 ≤ mem ∧ mem ≤ (L.length : Int) - 1) ∧ ∃ p : Nat, ParIs L stripe p ∧
    r = if mem = (p : Int) then -1 else if (p : Int) < mem then stripe * ((L.length : Int) - 1) + (mem - 1) else stripe * ((L.length : Int) - 1) + mem) ∨
  (¬ (LayOk L ∧ (0 ≤ stripe ∧ stripe ≤ 249999999) ∧ (0 ≤ mem ∧ mem ≤ (L.length : Int) - 1)) ∧ r = -1)

theorem LbaIs.one {L : List Int} {m s r q : Int} (h : LbaIs L m s r) (k : LbaIs L m s q) : r = q := by
  rcases h with ⟨h1, h2, h3, p, hp, rfl⟩ | ⟨h1, rfl⟩
  · rcases k with ⟨_, _, _, p', hp', rfl⟩ | ⟨k1, _⟩
    · rw [hp.one hp']
    · exact absurd ⟨h1, h2, h3⟩ k1
  · rcases k with ⟨k1, k2, k3, _⟩ | ⟨_, rfl⟩
    · exact absurd ⟨k1, k2, k3⟩ h1
    · rfl

theorem ofNat_lt_tmod {L : List Int} (h : LayOk L) {s : Int} (hs : 0 ≤ s) : 0 ≤ s % L.sum ∧ s % L.sum < L.sum :=
  ⟨Int.emod_nonneg _ (by have := h.2.2; omega), Int.emod_lt_of_pos _ h.2.2⟩

end Go.Proofs.YtjgcjeaplckbbaaGreatDoor

/- The model's chapter 5: LayoutOk, ParityOf, PlaceOf, LbaOf. -/
namespace Go.Proofs.YtjgcjeaplckbbaaGreatDoor
open Go.RowKit
set_option linter.unusedVariables false
set_option linter.unusedSimpArgs false

set_option maxHeartbeats 1000000 in
theorem l5Sum_any (a : Option Addr) (c : Nat) (L : List Int) (n : Nat) (hl : L.length = n) (w : World) (h : IntsAt w a L) (hs : Small L) (hn : n ≤ 5) :
    Calls Tryz.prog 104 #[.slice a n c] w fun e w' => e = .returned (.int .i64 L.sum) ∧ w' = w := by
  have HS := hide hs
  clear hs
  go_enter Tryz.func104, Tryz.ntmps104
  go_wp2
  go_loop [3, 4] (fun v i => ∃ k : Nat, k ≤ n ∧ i = .int .i64 k ∧ v = .int .i64 (upto L k)) (fun _ i => n - (intOf i).toNat)
  case atStart => exact ⟨0, Nat.zero_le _, rfl, by simp [upto_zero]⟩
  case round =>
    obtain ⟨k, hk, rfl, rfl⟩ := hrel
    by_cases hlt : k < n
    · obtain ⟨x, hx⟩ := getElem?_ex (l := L) (k := k) (by omega)
      obtain ⟨b1, o1, rfl, g1⟩ := h k x hx
      have hu := (unhide HS).upto k (by omega)
      have hx5 := (unhide HS).at hx
      have hst := upto_step hx
      have HX := hide hst
      clear hx h hl hst
      generalize upto L k = u at hu HX ⊢
      go_wp2
      go_round
      case rel => exact ⟨k + 1, by omega, by go_num, by rw [unhide HX]⟩
      case measure => simp [intOf]; omega
    · have hk' : k = L.length := by omega
      subst hk'
      rw [upto_all]
      clear h
      go_wp2
      go_ret
      exact ⟨rfl, rfl⟩

set_option maxHeartbeats 1000000 in
theorem specLayoutOk_any (a : Option Addr) (c : Nat) (L : List Int) (n : Nat) (hl : L.length = n) (w : World) (h : IntsAt w a L) :
    Calls Tryz.prog 51 #[.slice a n c] w fun e w' => e = .returned (.bool (decide (LayOk L))) ∧ w' = w := by
  have HL := hide hl
  go_enter Tryz.func51, Tryz.ntmps51
  go_wp2_with fail
  refine (l1In_any _ _ _ _).mono ?_
  rintro e w1 ⟨rfl, rfl⟩
  by_cases h35 : (3 : Int) ≤ (n : Int) ∧ (n : Int) ≤ 5
  · have hd : decide ((3 : Int) ≤ (n : Int) ∧ (n : Int) ≤ 5) = true := by simpa using h35
    rw [hd]
    clear hd
    go_wp2
    go_loop [3] (fun i => ∃ k : Nat, k ≤ n ∧ i = .int .i64 k ∧ ∀ j x, j < k → L[j]? = some x → 0 ≤ x ∧ x ≤ 5) (fun i => n - (intOf i).toNat)
    case atStart => exact ⟨0, Nat.zero_le _, rfl, fun j x hj => absurd hj (Nat.not_lt_zero _)⟩
    case round =>
      obtain ⟨k, hk, rfl, hA⟩ := hrel
      have HA := hide hA
      clear hA
      by_cases hlt : k < n
      · obtain ⟨x, hx⟩ := getElem?_ex (l := L) (k := k) (by omega)
        obtain ⟨b1, o1, rfl, g1⟩ := h k x hx
        have HX := hide hx
        clear hx h hl
        go_wp2_with fail
        refine (l1In_any _ _ _ _).mono ?_
        rintro e w2 ⟨rfl, rfl⟩
        by_cases h05 : (0 : Int) ≤ x ∧ x ≤ 5
        · have hd : decide ((0 : Int) ≤ x ∧ x ≤ 5) = true := by simpa using h05
          rw [hd]
          have H05 := hide h05
          clear h05 hd
          go_wp2
          go_round
          case rel =>
            refine ⟨k + 1, by omega, by go_num, fun j y hj hy => ?_⟩
            by_cases e : j = k
            · subst e; rw [unhide HX] at hy; cases hy; exact unhide H05
            · exact unhide HA j y (by omega) hy
          case measure => simp [intOf]; omega
        · have hd : decide ((0 : Int) ≤ x ∧ x ≤ 5) = false := by simpa using h05
          rw [hd]
          have H05 := hide h05
          clear h05 hd
          go_wp2
          go_ret
          refine ⟨?_, rfl⟩
          have : ¬ LayOk L := fun hc => unhide H05 (hc.2.1.at (unhide HX))
          simp [this]
      · have hsm : Small L := by
          intro x hx
          obtain ⟨i, hi⟩ := List.getElem?_of_mem hx
          have := (List.getElem?_eq_some_iff.1 hi).1
          exact unhide HA i x (by omega) hi
        have HSM := hide hsm
        have HH := hide h
        clear hsm HA h
        go_wp2_with fail
        refine (l5Sum_any _ _ L n (unhide HL) _ (unhide HH) (unhide HSM) (by omega)).mono ?_
        rintro e w2 ⟨rfl, rfl⟩
        by_cases hp : 0 < L.sum
        · go_wp2
          go_ret
          refine ⟨?_, rfl⟩
          have h1 : LayOk L := ⟨by omega, unhide HSM, hp⟩
          simp [h1, hp]
        · go_wp2
          go_ret
          refine ⟨?_, rfl⟩
          have h1 : ¬ LayOk L := fun hc => absurd hc.2.2 (by omega)
          simp [h1, hp]
  · have hd : decide ((3 : Int) ≤ (n : Int) ∧ (n : Int) ≤ 5) = false := by simpa using h35
    rw [hd]
    have H35 := hide h35
    clear h35 hd h
    go_wp2
    go_ret
    refine ⟨?_, rfl⟩
    have : ¬ LayOk L := fun hc => unhide H35 (by have := hc.1; omega)
    simp [this]

set_option maxHeartbeats 1000000 in
theorem l5Parity_any (a : Option Addr) (c : Nat) (L : List Int) (n : Nat) (hl : L.length = n) (s : Int) (w : World) (h : IntsAt w a L) (ho : LayOk L) (hs : 0 ≤ s) (hs9 : s ≤ 1000000000) :
    Calls Tryz.prog 127 #[.slice a n c, .int .i64 s] w fun e w' => ∃ m : Nat, e = .returned (.int .i64 (m : Int)) ∧ ParIs L s m ∧ w' = w := by
  have HH := hide h
  have HO := hide ho
  have hn5 : n ≤ 5 := by have := ho.1; omega
  have hsum := ho.sum
  have hr := ofNat_lt_tmod ho hs
  have HL := hide hl
  clear h ho
  go_enter Tryz.func127, Tryz.ntmps127
  go_wp2_with fail
  refine (l5Sum_any _ _ L n (unhide HL) _ (unhide HH) (unhide HO).2.1 hn5).mono ?_
  rintro e w1 ⟨rfl, rfl⟩
  have hne : ¬ L.sum = 0 := by omega
  have hdf : ∃ r, r = s % L.sum := ⟨_, rfl⟩
  obtain ⟨r, hrd⟩ := hdf
  rw [← hrd] at hr
  go_wp2
  rw [← hrd]
  go_loop [5, 6] (fun v i => ∃ k : Nat, k ≤ n ∧ i = .int .i64 k ∧ v = .int .i64 (r - upto L k) ∧ ∀ j, j < k → upto L (j + 1) ≤ r) (fun _ i => n - (intOf i).toNat)
  case atStart => exact ⟨0, Nat.zero_le _, rfl, by simp [upto_zero], fun j hj => absurd hj (Nat.not_lt_zero _)⟩
  case round =>
    obtain ⟨k, hk, rfl, rfl, hA⟩ := hrel
    have HA := hide hA
    clear hA
    by_cases hlt : k < n
    · obtain ⟨x, hx⟩ := getElem?_ex (l := L) (k := k) (by omega)
      obtain ⟨b1, o1, rfl, g1⟩ := (unhide HH) k x hx
      have hu := (unhide HO).2.1.upto k (by omega)
      have hx5 := (unhide HO).2.1.at hx
      have hst := upto_step hx
      have HX := hide hst
      clear hx hst hl
      have hud : ∃ u, u = upto L k := ⟨_, rfl⟩
      obtain ⟨u, hud⟩ := hud
      rw [← hud] at hu HX ⊢
      have HUD := hide hud
      clear hud
      by_cases hx2 : r - u < x
      · have HD := hide hrd
        clear hrd
        go_wp2
        go_ret
        refine ⟨k, rfl, ⟨by have := unhide HL; omega, ?_, fun j hj => ?_⟩, rfl⟩
        · rw [← unhide HD, unhide HX]; omega
        · rw [← unhide HD]; exact unhide HA j hj
      · have HD := hide hrd
        clear hrd
        go_wp2
        go_round
        case rel =>
          refine ⟨k + 1, by omega, by go_num, by rw [unhide HX]; go_num, fun j hj => ?_⟩
          by_cases e : j = k
          · subst e; rw [unhide HX]; omega
          · exact unhide HA j (by omega)
        case measure => simp [intOf]; omega
    · exfalso
      have h3 := (unhide HO).1
      have hk' : k = L.length := by omega
      have := unhide HA (k - 1) (by omega)
      rw [show k - 1 + 1 = L.length by omega, upto_all] at this
      omega


set_option maxHeartbeats 1000000 in
theorem l5Place_any (a : Option Addr) (c : Nat) (L : List Int) (n : Nat) (hl : L.length = n) (lba : Int) (w : World) (h : IntsAt w a L) (ho : LayOk L) (hs : 0 ≤ lba) (hs9 : lba ≤ 1000000000) :
    Calls Tryz.prog 89 #[.slice a n c, .int .i64 lba] w fun e w' => ∃ m s : Int, e = .returned (.tuple #[.int .i64 m, .int .i64 s]) ∧ PutIs L lba m s ∧ w' = w := by
  have HH := hide h
  have HO := hide ho
  have hn5 : 3 ≤ n ∧ n ≤ 5 := by have := ho.1; omega
  have HL := hide hl
  have hne : ¬ (n : Int) - 1 = 0 := by omega
  have hq0 : 0 ≤ lba / ((n : Int) - 1) := Int.ediv_nonneg hs (by omega)
  have hq1 : lba / ((n : Int) - 1) ≤ 1000000000 := Int.le_trans (Int.ediv_le_self _ hs) hs9
  have hr0 : 0 ≤ lba % ((n : Int) - 1) := Int.emod_nonneg _ (by omega)
  have hr1 : lba % ((n : Int) - 1) < (n : Int) - 1 := Int.emod_lt_of_pos _ (by omega)
  clear h ho hl
  go_enter Tryz.func89, Tryz.ntmps89
  go_wp2_with fail
  refine (l5Parity_any _ _ L n (unhide HL) _ _ (unhide HH) (unhide HO) hq0 hq1).mono ?_
  rintro e w1 ⟨p, rfl, hp, rfl⟩
  have HP := hide hp
  clear hp
  by_cases hc : (p : Int) ≤ lba % ((n : Int) - 1)
  · go_wp2
    go_ret2
    exact ⟨_, _, rfl, ⟨by rw [unhide HL], p, unhide HP, by rw [unhide HL, if_pos hc]⟩, rfl⟩
  · go_wp2
    go_ret2
    exact ⟨_, _, rfl, ⟨by rw [unhide HL], p, unhide HP, by rw [unhide HL, if_neg (by omega)]⟩, rfl⟩



end Go.Proofs.YtjgcjeaplckbbaaGreatDoor
