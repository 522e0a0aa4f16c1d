/- The model's Programmed. -/
import Derived.Test.YtageolbmplhgaaaProgI
import Derived.Test.YtageolbmplhgaaaEraS
import Derived.Test.YtageolbmplhgaaaNextS
import Derived.WalkKit
import Derived.Outline
namespace Go.Proofs.Ytageolbmplhgaaa
open Go.RowKit
set_option linter.unusedVariables false
set_option linter.unusedSimpArgs false

def put4 (w : World) (q j : Nat) (p : Pg) : World := (((w.setCell ⟨q, j * 4, none⟩ (.bool p.used)).setCell ⟨q, j * 4 + 1, none⟩ (.int .i64 p.log)).setCell ⟨q, j * 4 + 2, none⟩ (.int .i64 p.seq)).setCell ⟨q, j * 4 + 3, none⟩ (.string p.data)

theorem put4_other (w : World) (q j : Nat) (p : Pg) (b : Nat) (h : b ≠ q) : (put4 w q j p).heap[b]? = w.heap[b]? := by
  unfold put4
  rw [Go.Deep.blk_setCell_other _ _ _ _ h, Go.Deep.blk_setCell_other _ _ _ _ h, Go.Deep.blk_setCell_other _ _ _ _ h, Go.Deep.blk_setCell_other _ _ _ _ h]

theorem put4_pages {w : World} {q : Nat} {ps : List Pg} (h : PagesAt w (some ⟨q, 0, none⟩) ps) {j : Nat} (hj : j < ps.length) (p : Pg) : PagesAt (put4 w q j p) (some ⟨q, 0, none⟩) (ps.set j p) := by
  have hcell : ∀ i x, ps[i]? = some x → w.cell? ⟨q, i * 4, none⟩ = some (.bool x.used) ∧ w.cell? ⟨q, i * 4 + 1, none⟩ = some (.int .i64 x.log) ∧ w.cell? ⟨q, i * 4 + 2, none⟩ = some (.int .i64 x.seq) ∧ w.cell? ⟨q, i * 4 + 3, none⟩ = some (.string x.data) := fun i x hx => by
    obtain ⟨b, o, e, h0, h1, h2, h3⟩ := h i x hx
    cases e
    simp only [Nat.zero_add] at h0 h1 h2 h3
    exact ⟨h0, h1, h2, h3⟩
  intro i x hx
  refine ⟨q, 0, rfl, ?_⟩
  simp only [Nat.zero_add]
  unfold put4
  by_cases e : i = j
  · subst e
    rw [List.getElem?_set_self hj] at hx
    cases hx
    obtain ⟨y, hy⟩ := getElem?_ex hj
    obtain ⟨h0, h1, h2, h3⟩ := hcell i y hy
    refine ⟨?_, ?_, ?_, ?_⟩
    · rw [World.cell?_setCell_other _ _ _ _ (by simp), World.cell?_setCell_other _ _ _ _ (by simp), World.cell?_setCell_other _ _ _ _ (by simp), World.cell?_setCell_same' _ _ _ (by rw [h0]; rfl)]
    · rw [World.cell?_setCell_other _ _ _ _ (by simp), World.cell?_setCell_other _ _ _ _ (by simp), World.cell?_setCell_same' _ _ _ (by rw [World.cell?_setCell_other _ _ _ _ (by simp), h1]; rfl)]
    · rw [World.cell?_setCell_other _ _ _ _ (by simp), World.cell?_setCell_same' _ _ _ (by rw [World.cell?_setCell_other _ _ _ _ (by simp), World.cell?_setCell_other _ _ _ _ (by simp), h2]; rfl)]
    · rw [World.cell?_setCell_same' _ _ _ (by rw [World.cell?_setCell_other _ _ _ _ (by simp), World.cell?_setCell_other _ _ _ _ (by simp), World.cell?_setCell_other _ _ _ _ (by simp), h3]; rfl)]
  · rw [List.getElem?_set_ne (fun x => e x.symm)] at hx
    obtain ⟨h0, h1, h2, h3⟩ := hcell i x hx
    have ho : ∀ t, t < 4 → ∀ v, w.cell? ⟨q, i * 4 + t, none⟩ = some v → ((((w.setCell ⟨q, j * 4, none⟩ (.bool p.used)).setCell ⟨q, j * 4 + 1, none⟩ (.int .i64 p.log)).setCell ⟨q, j * 4 + 2, none⟩ (.int .i64 p.seq)).setCell ⟨q, j * 4 + 3, none⟩ (.string p.data)).cell? ⟨q, i * 4 + t, none⟩ = some v := fun t ht v hv => by
      rw [World.cell?_setCell_other _ _ _ _ (by simp <;> omega), World.cell?_setCell_other _ _ _ _ (by simp <;> omega), World.cell?_setCell_other _ _ _ _ (by simp <;> omega), World.cell?_setCell_other _ _ _ _ (by simp <;> omega)]
      exact hv
    exact ⟨ho 0 (by omega) _ h0, ho 1 (by omega) _ h1, ho 2 (by omega) _ h2, ho 3 (by omega) _ h3⟩

/-- A page is put into a block's place. -/
theorem specSetPage {w W : World} {tB tP : TypeId} {base gB n c : Nat} {Q C : Nat → Nat} {bs : List Bk} (h : SpecBlocks w tB tP base (.slice (some ⟨gB, 0, none⟩) n c) Q C bs) {k j : Nat} {b : Bk} (hb : bs[k]? = some b) (hj : j < b.pages.length) (p : Pg)
    (hB : ∀ b0, base ≤ b0 → b0 < w.heap.size → W.heap[b0]? = (put4 w (Q k) j p).heap[b0]?) :
    BlocksAt W (some ⟨gB, 0, none⟩) (bs.set k ⟨b.wear, b.pages.set j p⟩) := by
  have hk := (List.getElem?_eq_some_iff.1 hb).1
  have hgB : gB < w.heap.size := (h.row.lt gB rfl).2
  have hgb : base ≤ gB := (h.row.lt gB rfl).1
  have hlen : n = bs.length := by
    rcases h.row.2 with ⟨hv, _⟩ | ⟨g, cap, cur, hv, _⟩
    · cases hv
    · simp at hv; omega
  subst hlen
  have hgQ : ∀ i, i < bs.length → gB ≠ Q i := fun i hi x => h.ne i hi (by rw [← x]; rfl)
  have hcell : ∀ t u, (bkCells Q C 0 bs)[t]? = some u → W.cell? ⟨gB, t, none⟩ = some u := fun t u hu =>
    (World.cell?_of_block (w := w) (a := ⟨gB, t, none⟩) ((hB gB hgb hgB).trans (put4_other w _ j p gB (hgQ k hk)))).trans (ownsRow_cell h.row hu)
  intro i x hx
  by_cases e : i = k
  · subst e
    rw [List.getElem?_set_self hk] at hx
    cases hx
    have hc := bkCells_at Q C 0 hb
    have hQ := h.Qlt hk
    refine ⟨gB, 0, some ⟨Q i, 0, none⟩, C i, rfl, ?_, ?_, ?_⟩
    · rw [Nat.zero_add]; exact hcell _ _ hc.1
    · rw [Nat.zero_add, List.length_set]
      have := hcell _ _ hc.2
      rwa [Nat.zero_add] at this
    · exact (put4_pages (ownsRow_pagesAt (h.pages i b hb)) hj p).of_block (hB _ hQ.1 hQ.2)
  · rw [List.getElem?_set_ne (fun x => e x.symm)] at hx
    have hi := (List.getElem?_eq_some_iff.1 hx).1
    have hc := bkCells_at Q C 0 hx
    have hQ := h.Qlt hi
    refine ⟨gB, 0, some ⟨Q i, 0, none⟩, C i, rfl, ?_, ?_, ?_⟩
    · rw [Nat.zero_add]; exact hcell _ _ hc.1
    · rw [Nat.zero_add]
      have := hcell _ _ hc.2
      rwa [Nat.zero_add] at this
    · exact (ownsRow_pagesAt (h.pages i x hx)).of_block ((hB _ hQ.1 hQ.2).trans (put4_other w _ j p _ (h.inj i k hi hk e)))

theorem specSetPageS {w W : World} {tB tP : TypeId} {base gB n c : Nat} {Q C : Nat → Nat} {bs : List Bk} (h : SpecBlocks w tB tP base (.slice (some ⟨gB, 0, none⟩) n c) Q C bs) {k j : Nat} {b : Bk} (hb : bs[k]? = some b) (hj : j < b.pages.length) (p : Pg)
    (hB : ∀ b0, base ≤ b0 → b0 < w.heap.size → W.heap[b0]? = (put4 w (Q k) j p).heap[b0]?) (hsz : w.heap.size ≤ W.heap.size) :
    ChipS (fun k => base ≤ k ∧ k < W.heap.size) W (some ⟨gB, 0, none⟩) (bs.set k ⟨b.wear, b.pages.set j p⟩) := by
  have hk := (List.getElem?_eq_some_iff.1 hb).1
  have hgB : gB < w.heap.size := (h.row.lt gB rfl).2
  have hgb : base ≤ gB := (h.row.lt gB rfl).1
  have hlen : n = bs.length := by
    rcases h.row.2 with ⟨hv, _⟩ | ⟨g, cap, cur, hv, _⟩
    · cases hv
    · simp at hv; omega
  subst hlen
  have hgQ : gB ≠ Q k := fun x => h.ne k hk (by rw [← x]; rfl)
  have hfr : ∀ b0 i, base ≤ b0 → b0 < w.heap.size → W.frozen? ⟨b0, i, none⟩ = w.frozen? ⟨b0, i, none⟩ := fun b0 i h1 h2 => (frozen_of_block (hB b0 h1 h2)).trans (by simp [put4])
  refine chipS_of (specSetPage h hb hj p hB) ⟨⟨hgb, by omega⟩, fun i => (hfr _ _ hgb hgB).trans (ownsRow_frozen h.row i)⟩ fun i hi pa m d hc => ?_
  rw [List.length_set] at hi
  obtain ⟨x, hx⟩ := getElem?_ex hi
  have hcw := ownsRow_cell h.row (bkCells_at Q C 0 hx).2
  rw [World.cell?_of_block (w := w) (a := ⟨gB, i * 2 + 1, none⟩) ((hB gB hgb hgB).trans (put4_other w _ j p gB hgQ)), hcw] at hc
  cases hc
  have hQ := h.Qlt hi
  rw [Nat.zero_add]
  exact ⟨Q i, 0, rfl, ⟨hQ.1, by omega⟩, fun i' => (hfr _ _ hQ.1 hQ.2).trans (ownsRow_frozen (h.pages i x hx) i')⟩

set_option maxRecDepth 100000 in
set_option maxHeartbeats 4000000 in
theorem specProgrammed_soft (a : Option Addr) (c : Nat) (bs : List Bk) (n : Nat) (hl : bs.length = n) (blk : Int) (u : Bool) (l s : Int) (d : ByteArray) (w : World) (h : BlocksAt w a bs) (hn : Lens 1048576 bs) :
    Calls Try.prog 27 #[.agg #[.slice a n c], .int .i64 blk, .agg #[.bool u, .int .i64 l, .int .i64 s, .string d]] w fun e w' => ∃ a2 len c2 out code, e = .returned (.tuple #[.agg #[.slice a2 len c2], .int .i64 code]) ∧ ProgIs bs blk ⟨u, l, s, d⟩ out code ∧ out.length = len ∧ ChipS (fun k => w.heap.size ≤ k ∧ k < w'.heap.size) w' a2 out ∧ Below w.heap.size w w' := by
  have hb0 : ∀ o1 o2 o3, Below w.heap.size w (((w.alloc o1).alloc o2).alloc o3) := fun o1 o2 o3 => (((Below.refl _ w).alloc (Nat.le_refl _) _).alloc (by simp) _).alloc (by simp; omega) _
  have HLN := hide hn
  subst hl
  go_enter Try.func27, Try.ntmps27
  go_wp2_with fail
  refine (specChipOk_any a c bs _ (h.below (hb0 _ _ _) (Nat.le_refl _)) hn).mono ?_
  rintro e w1 ⟨r, rfl, hr, hB1⟩
  have hs1 := hB1.size
  simp at hs1
  have h3 := rows3 (hB1.mono (by simp))
  have hx1 := cell_of_one h3.1
  have hz1 := cell_of_one h3.2.2
  have hf1 := free_of_one h3.2.2
  have HP1 := hide h3.2.1
  have hW1 : Below w.heap.size w w1 := (hb0 _ _ _).trans (hB1.mono (by simp; omega))
  have HR := hide hr
  have HA := hide (h.below hW1 (Nat.le_refl _))
  clear hr hB1 hb0 h hn h3
  cases r with
  | false =>
    have HN : Hid (¬ ChipOk bs) := fun hc => by have := (unhide HR).2 hc; cases this
    clear HR
    go_wp2
    refine bodyPost_ret (v := .tuple #[.agg #[.slice none 0 0], .int .i64 1]) (by simp [results, Try.results27, go_sem, hz1]) rfl ⟨none, 0, 0, [], 1, rfl, .inl ⟨unhide HN, rfl, rfl⟩, rfl, fun i b hb => by simp at hb, hW1.setCell (by simp <;> omega) _⟩
  | true =>
    have hok := (unhide HR).1 rfl
    have HO := hide hok
    have hc12 := hok.count
    clear hok HR
    go_wp2_with fail
    refine (l1Copy_any a c bs _ rfl (unhide HO) _ (unhide HA)).mono ?_
    rintro e w2 ⟨v, Q, C, rfl, hS, hB2⟩
    have hs2 := hB2.size
    have hx2 := (hB2.cell (p := ⟨w.heap.size, 0, none⟩) (by show w.heap.size < _; omega)).trans hx1
    have hz2 := (hB2.cell (p := ⟨w.heap.size + 1 + 1, 0, none⟩) (by show w.heap.size + 1 + 1 < _; omega)).trans hz1
    have hf2 := (hB2.frozen (p := ⟨w.heap.size + 1 + 1, 0, none⟩) (by show w.heap.size + 1 + 1 < _; omega)).trans hf1
    have HP2 := hide ((hB2.block _ (by omega)).trans (unhide HP1))
    have hW2 := hW1.trans (hB2.mono hW1.size)
    have HA2 := hide ((unhide HA).below hB2 (Nat.le_refl _))
    obtain ⟨gB, cap, rfl, hgb, hgl⟩ := hS.some (by omega)
    have HS := hide hS
    have HSQ := hide (fun W (hW : BlocksAt W a bs) => l1Seq_any a c bs s W hW (unhide HLN))
    obtain ⟨n, hn⟩ : ∃ n, n = bs.length := ⟨_, rfl⟩
    have HN := hide hn
    rw [← hn] at hx1 hx2 hc12 HSQ ⊢
    have hp0 := cell_of_row _ _ 0 _ _ _ (unhide HP2)
    have hp1 := cell_of_row _ _ 1 _ _ _ (unhide HP2)
    have hp2 := cell_of_row _ _ 2 _ _ _ (unhide HP2)
    have hp3 := cell_of_row _ _ 3 _ _ _ (unhide HP2)
    simp at hp0 hp1 hp2 hp3
    have hlt0 : w.heap.size < w2.heap.size := by omega
    have hlt1 : w.heap.size + 1 < w2.heap.size := by omega
    have hlt2 : w.heap.size + 1 + 1 < w2.heap.size := by omega
    have fin : ∀ (W : World), SpecBlocks W 75 44 (w1.heap.size + 3) (.slice (some ⟨gB, 0, none⟩) n cap) Q C bs → ChipS (fun k => w.heap.size ≤ k ∧ k < W.heap.size) W (some ⟨gB, 0, none⟩) bs := fun W hS => hS.chipS.mono fun k hk => ⟨by omega, hk.2⟩
    have hSN : SpecBlocks w2 75 44 (w1.heap.size + 3) (.slice (some ⟨gB, 0, none⟩) n cap) Q C bs := by rw [unhide HN]; exact unhide HS
    have HSN := hide hSN
    have HF := hide fin
    clear hS hB2 hx1 hz1 hf1 HA hn fin hSN HP1 HS
    go_wp2_with fail
    refine (l1In_any _ _ _ _).mono ?_
    rintro e w3 ⟨rfl, hw3⟩
    have hB3 : Below w2.heap.size w2 w3 := by rw [hw3]; exact (Below.refl _ _).alloc (Nat.le_refl _) _
    have ho3 : w3.cell? ⟨w2.heap.size, 0, none⟩ = some (.slice (some ⟨gB, 0, none⟩) n cap) := by rw [hw3]; simp
    have hs23 : w2.heap.size + 1 ≤ w3.heap.size := by rw [hw3]; simp
    have hx3 := (hB3.cell (p := ⟨w.heap.size, 0, none⟩) hlt0).trans hx2
    have hz3 := (hB3.cell (p := ⟨w.heap.size + 1 + 1, 0, none⟩) hlt2).trans hz2
    have hf3 := (hB3.frozen (p := ⟨w.heap.size + 1 + 1, 0, none⟩) hlt2).trans hf2
    have HP3 := hide ((hB3.block _ hlt1).trans (unhide HP2))
    have hW3 := hW2.trans (hB3.mono hW2.size)
    have HA3 := hide ((unhide HA2).below hB3 (Nat.le_refl _))
    have HS3 := hide ((unhide HSN).kept hB3)
    have hp03 := cell_of_row _ _ 0 _ _ _ (unhide HP3)
    have hp13 := cell_of_row _ _ 1 _ _ _ (unhide HP3)
    have hp23 := cell_of_row _ _ 2 _ _ _ (unhide HP3)
    have hp33 := cell_of_row _ _ 3 _ _ _ (unhide HP3)
    simp at hp03 hp13 hp23 hp33
    have HQL := hide (fun i (hi : i < bs.length) => ((unhide HSN).Qlt hi))
    clear hw3 hB3 hx2 hz2 hf2 HP2 HA2 HSN hp0 hp1 hp2 hp3
    by_cases hin : 0 ≤ blk ∧ blk ≤ (n : Int) - 1
    · have hd : decide ((0 : Int) ≤ blk ∧ blk ≤ (n : Int) - 1) = true := by simpa using hin
      rw [hd]
      have HIN : Hid (InB bs blk) := ⟨hin.1, by have := unhide HN; omega⟩
      clear hd
      cases u with
      | false =>
        go_wp2
        exact bodyPost_ret (v := .tuple #[.agg #[.slice (some ⟨gB, 0, none⟩) n cap], .int .i64 2]) (by simp [results, Try.results27, go_sem, hz3]) rfl ⟨_, n, cap, bs, 2, rfl, .inr (.inl ⟨unhide HO, (fun hc => by have := hc.2.1; simp [rightUsed] at this), rfl, rfl⟩), (unhide HN).symm, unhide HF _ ((unhide HS3).setLow (a := ⟨w.heap.size + 1 + 1, 0, none⟩) (by show w.heap.size + 1 + 1 < w1.heap.size + 3; omega) _), hW3.setCell (by simp <;> omega) _⟩
      | true =>
        go_wp2_with fail
        refine (l1Page_any ⟨true, l, s, d⟩ _).mono ?_
        rintro e w4 ⟨rfl, hB4⟩
        have hs4 := hB4.size
        have hx4 := (hB4.cell (p := ⟨w.heap.size, 0, none⟩) (by show w.heap.size < _; omega)).trans hx3
        have hz4 := (hB4.cell (p := ⟨w.heap.size + 1 + 1, 0, none⟩) (by show w.heap.size + 1 + 1 < _; omega)).trans hz3
        have hf4 := (hB4.frozen (p := ⟨w.heap.size + 1 + 1, 0, none⟩) (by show w.heap.size + 1 + 1 < _; omega)).trans hf3
        have ho4 := (hB4.cell (p := ⟨w2.heap.size, 0, none⟩) (by show w2.heap.size < _; omega)).trans ho3
        have HP4 := hide ((hB4.block _ (by omega)).trans (unhide HP3))
        have hW4 := hW3.trans (hB4.mono hW3.size)
        have HA4 := hide ((unhide HA3).below hB4 (Nat.le_refl _))
        have HS4 := hide ((unhide HS3).kept hB4)
        have hp04 := cell_of_row _ _ 0 _ _ _ (unhide HP4)
        have hp14 := cell_of_row _ _ 1 _ _ _ (unhide HP4)
        have hp24 := cell_of_row _ _ 2 _ _ _ (unhide HP4)
        have hp34 := cell_of_row _ _ 3 _ _ _ (unhide HP4)
        simp at hp04 hp14 hp24 hp34
        clear hB4 hx3 hz3 hf3 ho3 HP3 HA3 HS3 hp03 hp13 hp23 hp33
        have hpk : pgOk ⟨true, l, s, d⟩ = rightUsed ⟨true, l, s, d⟩ := by simp [pgOk]
        rw [hpk]
        clear hpk
        cases hru : rightUsed ⟨true, l, s, d⟩ with
        | false =>
          go_wp2
          exact bodyPost_ret (v := .tuple #[.agg #[.slice (some ⟨gB, 0, none⟩) n cap], .int .i64 2]) (by simp [results, Try.results27, go_sem, hz4]) rfl ⟨_, n, cap, bs, 2, rfl, .inr (.inl ⟨unhide HO, (fun hc => by have := hc.2.1; rw [hru] at this; cases this), rfl, rfl⟩), (unhide HN).symm, unhide HF _ ((unhide HS4).setLow (a := ⟨w.heap.size + 1 + 1, 0, none⟩) (by show w.heap.size + 1 + 1 < w1.heap.size + 3; omega) _), hW4.setCell (by simp <;> omega) _⟩
        | true =>
          go_wp2_with fail
          refine (unhide HSQ _ (unhide HA4)).mono ?_
          rintro e w5 ⟨rfl, hB5⟩
          have hs5 := hB5.size
          have hx5 := (hB5.cell (p := ⟨w.heap.size, 0, none⟩) (by show w.heap.size < _; omega)).trans hx4
          have hz5 := (hB5.cell (p := ⟨w.heap.size + 1 + 1, 0, none⟩) (by show w.heap.size + 1 + 1 < _; omega)).trans hz4
          have hf5 := (hB5.frozen (p := ⟨w.heap.size + 1 + 1, 0, none⟩) (by show w.heap.size + 1 + 1 < _; omega)).trans hf4
          have ho5 := (hB5.cell (p := ⟨w2.heap.size, 0, none⟩) (by show w2.heap.size < _; omega)).trans ho4
          have HP5 := hide ((hB5.block _ (by omega)).trans (unhide HP4))
          have hW5 := hW4.trans (hB5.mono hW4.size)
          have HA5 := hide ((unhide HA4).below hB5 (Nat.le_refl _))
          have HS5 := hide ((unhide HS4).kept hB5)
          have hp05 := cell_of_row _ _ 0 _ _ _ (unhide HP5)
          have hp15 := cell_of_row _ _ 1 _ _ _ (unhide HP5)
          have hp25 := cell_of_row _ _ 2 _ _ _ (unhide HP5)
          have hp35 := cell_of_row _ _ 3 _ _ _ (unhide HP5)
          simp at hp05 hp15 hp25 hp35
          clear hB5 hx4 hz4 hf4 ho4 HP4 HA4 HS4 hp04 hp14 hp24 hp34
          by_cases hmem : s ∈ seqs bs
          · have hpos : (0 : Int) < ((seqs bs).count s : Int) := by have := List.count_pos_iff.2 hmem; omega
            have HMM := hide hmem
            clear hmem
            generalize ((seqs bs).count s : Int) = q at hpos ⊢
            go_wp2
            exact bodyPost_ret (v := .tuple #[.agg #[.slice (some ⟨gB, 0, none⟩) n cap], .int .i64 2]) (by simp [results, Try.results27, go_sem, hz5]) rfl ⟨_, n, cap, bs, 2, rfl, .inr (.inl ⟨unhide HO, (fun hc => hc.2.2 (unhide HMM)), rfl, rfl⟩), (unhide HN).symm, unhide HF _ ((unhide HS5).setLow (a := ⟨w.heap.size + 1 + 1, 0, none⟩) (by show w.heap.size + 1 + 1 < w1.heap.size + 3; omega) _), hW5.setCell (by simp <;> omega) _⟩
          · have hzero : (seqs bs).count s = 0 := List.count_eq_zero_of_not_mem hmem
            have HPO : Hid (ProgOk bs blk ⟨true, l, s, d⟩) := ⟨unhide HIN, hru, hmem⟩
            rw [hzero]
            obtain ⟨k, rfl⟩ := Int.eq_ofNat_of_zero_le hin.1
            obtain ⟨b, hb⟩ := getElem?_ex (l := bs) (k := k) (by have := unhide HN; omega)
            obtain ⟨g0, o0, pa, pc, rfl, hcw, hcp, hpa⟩ := (unhide HA5) k b hb
            have h4 := ((unhide HO).block b (List.mem_of_getElem? hb)).four
            rw [h4] at hcp
            have hnx := fun W hW => l1Next_any b.wear pa pc b.pages W hW (by omega)
            rw [h4] at hnx
            have HNX := hide hnx
            have HPA := hide hpa
            have HBK := hide hb
            have HF4 := hide h4
            have hkn : k < n := by omega
            clear hmem hzero hin hpa hb hnx h4 HIN
            go_wp2_with fail
            refine (unhide HNX _ (unhide HPA)).mono ?_
            rintro e w6 ⟨r, rfl, hr, hB6⟩
            have HRN := hide hr
            clear hcw hcp HPA
            have hs6 := hB6.size
            have hx6 := (hB6.cell (p := ⟨w.heap.size, 0, none⟩) (by show w.heap.size < _; omega)).trans hx5
            have hz6 := (hB6.cell (p := ⟨w.heap.size + 1 + 1, 0, none⟩) (by show w.heap.size + 1 + 1 < _; omega)).trans hz5
            have hf6 := (hB6.frozen (p := ⟨w.heap.size + 1 + 1, 0, none⟩) (by show w.heap.size + 1 + 1 < _; omega)).trans hf5
            have ho6 := (hB6.cell (p := ⟨w2.heap.size, 0, none⟩) (by show w2.heap.size < _; omega)).trans ho5
            have HP6 := hide ((hB6.block _ (by omega)).trans (unhide HP5))
            have hW6 := hW5.trans (hB6.mono hW5.size)
            have HA6 := hide ((unhide HA5).below hB6 (Nat.le_refl _))
            have HS6 := hide ((unhide HS5).kept hB6)
            have hp06 := cell_of_row _ _ 0 _ _ _ (unhide HP6)
            have hp16 := cell_of_row _ _ 1 _ _ _ (unhide HP6)
            have hp26 := cell_of_row _ _ 2 _ _ _ (unhide HP6)
            have hp36 := cell_of_row _ _ 3 _ _ _ (unhide HP6)
            simp at hp06 hp16 hp26 hp36
            clear hB6 hx5 hz5 hf5 ho5 HP5 HA5 HS5 hp05 hp15 hp25 hp35
            rcases hr with ⟨j, hj4, rfl, _⟩ | ⟨rfl, _⟩
            · have hkb : k < bs.length := by have := unhide HN; omega
              have hQ := unhide HQL k hkb
              have hrow6 : w6.ownsRow (w1.heap.size + 3) 75 2 (.slice (some ⟨gB, 0, none⟩) n cap) n (bkCells Q C 0 bs) := by have := (unhide HS6).row; rwa [← unhide HN] at this
              have cB1 := ownsRow_cell hrow6 (bkCells_at Q C 0 (unhide HBK)).2
              rw [unhide HF4, Nat.zero_add] at cB1
              have hpg := (unhide HS6).pages k b (unhide HBK)
              obtain ⟨y, hy⟩ := getElem?_ex (l := b.pages) (k := j) (by have := unhide HF4; omega)
              have d0 := ownsRow_cell hpg (pgCells_at hy 0 (by omega))
              have d1 := ownsRow_cell hpg (pgCells_at hy 1 (by omega))
              have d2 := ownsRow_cell hpg (pgCells_at hy 2 (by omega))
              have d3 := ownsRow_cell hpg (pgCells_at hy 3 (by omega))
              rw [Nat.add_zero] at d0
              have fB := ownsRow_frozen hpg
              have hji : (j : Int) < 4 := by omega
              have hq1 : ¬ Q k = w2.heap.size := by omega
              have hq2 : ¬ w2.heap.size = Q k := by omega
              have hq3 : ¬ Q k = w.heap.size + 1 + 1 := by omega
              have hq4 : ¬ w.heap.size + 1 + 1 = Q k := by omega
              obtain ⟨q, hqq⟩ : ∃ q, q = Q k := ⟨_, rfl⟩
              rw [← hqq] at cB1 d0 d1 d2 d3 fB hq1 hq2 hq3 hq4 hQ
              have HQQ := hide hqq
              clear hqq hrow6 hpg hy
              go_wp2
              go_region
              all_goals (
                go_wp2
                have hoth : ∀ b0, b0 ≠ q → (put4 w6 q j ⟨true, l, s, d⟩).heap[b0]? = w6.heap[b0]? := fun b0 hb0 => put4_other _ _ _ _ _ hb0
                have hcW : ((put4 w6 q j ⟨true, l, s, d⟩).setCell ⟨w.heap.size + 1 + 1, 0, none⟩ (.slice (some ⟨gB, 0, none⟩) n cap)).drew.cell? ⟨w.heap.size + 1 + 1, 0, none⟩ = some (.slice (some ⟨gB, 0, none⟩) n cap) := by
                  rw [cell_drew, World.cell?_setCell_same' _ _ _ (by rw [World.cell?_of_block (w := w6) (a := ⟨w.heap.size + 1 + 1, 0, none⟩) (hoth _ hq4), hz6]; rfl)]
                have hBA : ChipS (fun k => w.heap.size ≤ k ∧ k < (((put4 w6 q j ⟨true, l, s, d⟩).setCell ⟨w.heap.size + 1 + 1, 0, none⟩ (.slice (some ⟨gB, 0, none⟩) n cap)).drew).heap.size) ((put4 w6 q j ⟨true, l, s, d⟩).setCell ⟨w.heap.size + 1 + 1, 0, none⟩ (.slice (some ⟨gB, 0, none⟩) n cap)).drew (some ⟨gB, 0, none⟩) (bs.set k ⟨b.wear, b.pages.set j ⟨true, l, s, d⟩⟩) := by
                  refine (specSetPageS (unhide HS6) (unhide HBK) (by have := unhide HF4; omega) ⟨true, l, s, d⟩ (fun b0 h0 h1 => ?_) (by show _ ≤ (((put4 w6 q j ⟨true, l, s, d⟩).setCell ⟨w.heap.size + 1 + 1, 0, none⟩ (.slice (some ⟨gB, 0, none⟩) n cap))).heap.size; simp [World.setCell, put4])).mono (fun k hk => ⟨by omega, hk.2⟩)
                  rw [← unhide HQQ]
                  show ((put4 w6 q j ⟨true, l, s, d⟩).setCell ⟨w.heap.size + 1 + 1, 0, none⟩ (.slice (some ⟨gB, 0, none⟩) n cap)).heap[b0]? = _
                  rw [Go.Deep.blk_setCell_other _ _ _ _ (by show b0 ≠ w.heap.size + 1 + 1; omega)]
                have hBW : Below w.heap.size w ((put4 w6 q j ⟨true, l, s, d⟩).setCell ⟨w.heap.size + 1 + 1, 0, none⟩ (.slice (some ⟨gB, 0, none⟩) n cap)).drew := by
                  refine Below.drew (Below.setCell ?_ (by show w.heap.size ≤ w.heap.size + 1 + 1; omega) _)
                  unfold put4
                  exact (((hW6.setCell (by show w.heap.size ≤ q; omega) _).setCell (by show w.heap.size ≤ q; omega) _).setCell (by show w.heap.size ≤ q; omega) _).setCell (by show w.heap.size ≤ q; omega) _
                show bodyPost Try.prog Try.f27 _ Exit.ret _ ((put4 w6 q j ⟨true, l, s, d⟩).setCell ⟨w.heap.size + 1 + 1, 0, none⟩ (.slice (some ⟨gB, 0, none⟩) n cap)).drew
                generalize ((put4 w6 q j ⟨true, l, s, d⟩).setCell ⟨w.heap.size + 1 + 1, 0, none⟩ (.slice (some ⟨gB, 0, none⟩) n cap)).drew = W at hcW hBA hBW ⊢
                exact bodyPost_ret (v := .tuple #[.agg #[.slice (some ⟨gB, 0, none⟩) n cap], .int .i64 0]) (by simp [results, Try.results27, go_sem, hcW]) rfl ⟨_, n, cap, bs.set k ⟨b.wear, b.pages.set j ⟨true, l, s, d⟩⟩, 0, rfl, .inr (.inr ⟨unhide HO, unhide HPO, b, (j : Int), by simpa using unhide HBK, unhide HRN, .inr ⟨by omega, by simp, rfl⟩⟩), by rw [List.length_set]; exact (unhide HN).symm, hBA, hBW⟩)
            · go_wp2
              exact bodyPost_ret (v := .tuple #[.agg #[.slice (some ⟨gB, 0, none⟩) n cap], .int .i64 3]) (by simp [results, Try.results27, go_sem, hz6]) rfl ⟨_, n, cap, bs, 3, rfl, .inr (.inr ⟨unhide HO, unhide HPO, b, -1, by simpa using unhide HBK, unhide HRN, .inl ⟨by omega, rfl, rfl⟩⟩), (unhide HN).symm, unhide HF _ ((unhide HS6).setLow (a := ⟨w.heap.size + 1 + 1, 0, none⟩) (by show w.heap.size + 1 + 1 < w1.heap.size + 3; omega) _), hW6.setCell (by simp <;> omega) _⟩
    · have hd : decide ((0 : Int) ≤ blk ∧ blk ≤ (n : Int) - 1) = false := by simpa using hin
      rw [hd]
      have HIN : Hid (¬ InB bs blk) := fun hc => hin ⟨hc.1, by have := hc.2; rw [← unhide HN] at this; exact this⟩
      clear hin hd
      go_wp2
      exact bodyPost_ret (v := .tuple #[.agg #[.slice (some ⟨gB, 0, none⟩) n cap], .int .i64 2]) (by simp [results, Try.results27, go_sem, hz3]) rfl ⟨_, n, cap, bs, 2, rfl, .inr (.inl ⟨unhide HO, (fun hc => unhide HIN hc.1), rfl, rfl⟩), (unhide HN).symm, unhide HF _ ((unhide HS3).setLow (a := ⟨w.heap.size + 1 + 1, 0, none⟩) (by show w.heap.size + 1 + 1 < w1.heap.size + 3; omega) _), hW3.setCell (by simp <;> omega) _⟩

theorem specProgrammed_any (a : Option Addr) (c : Nat) (bs : List Bk) (n : Nat) (hl : bs.length = n) (blk : Int) (u : Bool) (l s : Int) (d : ByteArray) (w : World) (h : BlocksAt w a bs) (hn : Lens 1048576 bs) :
    Calls Try.prog 27 #[.agg #[.slice a n c], .int .i64 blk, .agg #[.bool u, .int .i64 l, .int .i64 s, .string d]] w fun e w' => ∃ a2 len c2 out code, e = .returned (.tuple #[.agg #[.slice a2 len c2], .int .i64 code]) ∧ ProgIs bs blk ⟨u, l, s, d⟩ out code ∧ out.length = len ∧ BlocksAt w' a2 out ∧ Below w.heap.size w w' := by
  refine (specProgrammed_soft a c bs n hl blk u l s d w h hn).mono ?_
  rintro e w' ⟨a2, len, c2, out, code, rfl, h1, h2, h3, h4⟩
  exact ⟨a2, len, c2, out, code, rfl, h1, h2, h3.blocksAt, h4⟩

end Go.Proofs.Ytageolbmplhgaaa
