/- The model's Erased. -/
import Derived.Test.YtageolbmplhgaaaEraP
import Derived.Test.YtageolbmplhgaaaCopy
import Derived.Test.YtageolbmplhgaaaSoft
import Derived.WalkKit
import Derived.Outline
namespace Go.Proofs.Ytageolbmplhgaaa
open Go.RowKit
set_option linter.unusedVariables false
set_option linter.unusedSimpArgs false

theorem SpecBlocks.some {w : World} {tB tP : TypeId} {base : Nat} {v : Value} {Q C : Nat → Nat} {bs : List Bk} (h : SpecBlocks w tB tP base v Q C bs) (hl : 0 < bs.length) : ∃ gB cap, v = .slice (some ⟨gB, 0, none⟩) bs.length cap ∧ base ≤ gB ∧ gB < w.heap.size := by
  rcases h.row.2 with ⟨_, h0⟩ | ⟨g, cap, cur, hv, hb, hg, _⟩
  · omega
  · exact ⟨g, cap, hv, hb, (Array.getElem?_eq_some_iff.1 hg).1⟩

set_option maxRecDepth 100000 in
set_option maxHeartbeats 2000000 in
theorem specErased_soft (a : Option Addr) (c : Nat) (bs : List Bk) (n : Nat) (hl : bs.length = n) (blk : Int) (w : World) (h : BlocksAt w a bs) (hn : Lens 1048576 bs) :
    Calls Try.prog 30 #[.agg #[.slice a n c], .int .i64 blk] w fun e w' => ∃ a2 len c2 out code, e = .returned (.tuple #[.agg #[.slice a2 len c2], .int .i64 code]) ∧ ErasedIs bs blk out code ∧ out.length = len ∧ ChipS (fun k => w.heap.size ≤ k ∧ k < w'.heap.size) w' a2 out ∧ Below w.heap.size w w' := by
  have hb0 : ∀ o1 o2, Below w.heap.size w ((w.alloc o1).alloc o2) := fun o1 o2 => ((Below.refl _ w).alloc (Nat.le_refl _) _).alloc (by simp) _
  have HL := hide hl
  subst hl
  go_enter Try.func30, Try.ntmps30
  go_wp2_with fail
  refine (specChipOk_any a c bs _ (h.below (hb0 _ _) (Nat.le_refl _)) hn).mono ?_
  rintro e w1 ⟨r, rfl, hr, hB1⟩
  have hs1 := hB1.size
  simp at hs1
  have hx1 : w1.cell? ⟨w.heap.size, 0, none⟩ = some (.slice a bs.length c) := by
    rw [hB1.cell (p := ⟨w.heap.size, 0, none⟩) (by simp; omega), cell_alloc_lt _ _ _ _ (by simp)]
    simp
  have hz1 : w1.cell? ⟨w.heap.size + 1, 0, none⟩ = some (.slice none 0 0) := by
    rw [hB1.cell (p := ⟨w.heap.size + 1, 0, none⟩) (by simp)]
    simp
  have hf1 : w1.frozen? ⟨w.heap.size + 1, 0, none⟩ = false := by
    rw [hB1.frozen (p := ⟨w.heap.size + 1, 0, none⟩) (by simp)]
    simp
  have hW1 : Below w.heap.size w w1 := (hb0 _ _).trans (hB1.mono (by simp; omega))
  have HR := hide hr
  have HA := hide (h.below hW1 (Nat.le_refl _))
  clear hr hB1 hb0 h hn
  cases r with
  | false =>
    have HN : Hid (¬ ChipOk bs) := fun hc => by have := (unhide HR).2 hc; cases this
    clear HR
    go_wp2
    refine bodyPost_ret (v := .tuple #[.agg #[.slice none 0 0], .int .i64 1]) (by simp [results, Try.results30, go_sem, hz1]) rfl ⟨none, 0, 0, [], 1, rfl, .inl ⟨unhide HN, rfl, rfl⟩, rfl, fun i b hb => by simp at hb, hW1.setCell (by simp) _⟩
  | true =>
    have hok := (unhide HR).1 rfl
    have HO := hide hok
    have hc12 := hok.count
    clear hok HR
    go_wp2_with fail
    refine (l1Copy_any a c bs _ rfl (unhide HO) _ (unhide HA)).mono ?_
    rintro e w2 ⟨v, Q, C, rfl, hS, hB2⟩
    have hs2 := hB2.size
    have hx2 := (hB2.cell (p := ⟨w.heap.size, 0, none⟩) (by show w.heap.size < _; omega)).trans hx1
    have hz2 := (hB2.cell (p := ⟨w.heap.size + 1, 0, none⟩) (by show w.heap.size + 1 < _; omega)).trans hz1
    have hf2 := (hB2.frozen (p := ⟨w.heap.size + 1, 0, none⟩) (by show w.heap.size + 1 < _; omega)).trans hf1
    have hW2 := hW1.trans (hB2.mono hW1.size)
    have HA2 := hide ((unhide HA).below hB2 (Nat.le_refl _))
    obtain ⟨gB, cap, rfl, hgb, hgl⟩ := hS.some (by omega)
    have HS := hide hS
    obtain ⟨n, hn⟩ : ∃ n, n = bs.length := ⟨_, rfl⟩
    have HN := hide hn
    rw [← hn] at hx1 hx2 hc12 ⊢
    have hlt0 : w.heap.size < w2.heap.size := by omega
    have hlt1 : w.heap.size + 1 < w2.heap.size := by omega
    clear hS hB2 hx1 hz1 hf1 HA hn HL
    go_wp2_with fail
    refine (l1In_any _ _ _ _).mono ?_
    rintro e w3 ⟨rfl, hw3⟩
    subst hw3
    have fin : ∀ (W : World), SpecBlocks W 75 44 (w1.heap.size + 3) (.slice (some ⟨gB, 0, none⟩) n cap) Q C bs → ChipS (fun k => w.heap.size ≤ k ∧ k < W.heap.size) W (some ⟨gB, 0, none⟩) bs := fun W hS => hS.chipS.mono fun k hk => ⟨by omega, hk.2⟩
    have hSN : SpecBlocks w2 75 44 (w1.heap.size + 3) (.slice (some ⟨gB, 0, none⟩) n cap) Q C bs := by rw [unhide HN]; exact unhide HS
    have HSN := hide hSN
    have HF := hide fin
    clear fin hSN
    by_cases hin : 0 ≤ blk ∧ blk ≤ (n : Int) - 1
    · have hd : decide ((0 : Int) ≤ blk ∧ blk ≤ (n : Int) - 1) = true := by simpa using hin
      rw [hd]
      have HIN : Hid (InB bs blk) := ⟨hin.1, by have := unhide HN; omega⟩
      obtain ⟨k, rfl⟩ := Int.eq_ofNat_of_zero_le hin.1
      obtain ⟨b, hb⟩ := getElem?_ex (l := bs) (k := k) (by have := unhide HN; omega)
      obtain ⟨g0, o0, pa, pc, rfl, hcw, hcp, _⟩ := (unhide HA2) k b hb
      have hg0 : g0 < w2.heap.size := World.block_lt_of_cell? _ _ hcw
      have hwr := ((unhide HO).block b (List.mem_of_getElem? hb)).wear
      have HBK := hide hb
      have hkn : k < n := by omega
      clear hd hcp hb hin
      by_cases hmx : b.wear = 1000000000
      · have hbe : (b.wear == 1000000000) = true := by simpa using hmx
        have HMX := hide hmx
        clear hmx
        go_wp2
        refine bodyPost_ret (v := .tuple #[.agg #[.slice (some ⟨gB, 0, none⟩) n cap], .int .i64 4]) (by simp [results, Try.results30, go_sem, hz2, hlt1, cell_alloc_lt]) rfl ⟨_, n, cap, bs, 4, rfl, .inr (.inr ⟨unhide HO, unhide HIN, b, by simpa using unhide HBK, .inl ⟨unhide HMX, rfl, rfl⟩⟩), (unhide HN).symm, ?_, ?_⟩
        · exact unhide HF _ (((unhide HSN).setLow (a := ⟨w.heap.size + 1, 0, none⟩) (by show w.heap.size + 1 < w1.heap.size + 3; omega) _).kept ((Below.refl _ _).alloc (Nat.le_refl _) _))
        · exact (hW2.setCell (by simp) _).alloc (by simp [World.setCell]; omega) _
      · have hbe : (b.wear == 1000000000) = false := by simpa using hmx
        have HMX := hide hmx
        obtain ⟨bc, hbc⟩ := getElem?_ex (l := bs) (k := k) (by have := unhide HN; omega)
        have hcB := bkCells_at Q C 0 hbc
        have hSr : w2.ownsRow (w1.heap.size + 3) 75 2 (.slice (some ⟨gB, 0, none⟩) n cap) n (bkCells Q C 0 bs) := by have := (unhide HS).row; rwa [← unhide HN] at this
        have cB0 := ownsRow_cell hSr hcB.1
        have cB1 := ownsRow_cell hSr hcB.2
        have fB := ownsRow_frozen hSr
        have hmk := make_pages4
        clear hmx hSr hcB hbc
        go_wp2
        go_region
        all_goals (
          go_wp2
          have hne1 : gB ≠ w.heap.size + 1 := by omega
          have hsz : ((((w2.setCell ⟨gB, k * 2, none⟩ (.int .i64 (b.wear + 1))).setCell ⟨gB, k * 2 + 1, none⟩ (.slice (some ⟨w2.heap.size + 1, 0, none⟩) 4 4)).setCell ⟨w.heap.size + 1, 0, none⟩ (.slice (some ⟨gB, 0, none⟩) n cap)).alloc (.cells #[.slice (some ⟨gB, 0, none⟩) n cap] 29)).heap.size = w2.heap.size + 1 := by simp
          have hcW : (((((w2.setCell ⟨gB, k * 2, none⟩ (.int .i64 (b.wear + 1))).setCell ⟨gB, k * 2 + 1, none⟩ (.slice (some ⟨w2.heap.size + 1, 0, none⟩) 4 4)).setCell ⟨w.heap.size + 1, 0, none⟩ (.slice (some ⟨gB, 0, none⟩) n cap)).alloc (.cells #[.slice (some ⟨gB, 0, none⟩) n cap] 29)).alloc (.cells (madeCells #[.bool false, .int .i64 0, .int .i64 0, .string ByteArray.empty] 16) 44)).drew.cell? ⟨w.heap.size + 1, 0, none⟩ = some (.slice (some ⟨gB, 0, none⟩) n cap) := by
            rw [cell_drew, cell_alloc_lt _ _ _ _ (by rw [hsz]; omega), cell_alloc_lt _ _ _ _ (by simp; omega), World.cell?_setCell_same' _ _ _ (by rw [World.cell?_setCell_other _ _ _ _ (by simp <;> omega), World.cell?_setCell_other _ _ _ _ (by simp <;> omega), hz2]; rfl)]
          have hBA : ChipS (fun x0 => w.heap.size ≤ x0 ∧ x0 < ((((((w2.setCell ⟨gB, k * 2, none⟩ (.int .i64 (b.wear + 1))).setCell ⟨gB, k * 2 + 1, none⟩ (.slice (some ⟨w2.heap.size + 1, 0, none⟩) 4 4)).setCell ⟨w.heap.size + 1, 0, none⟩ (.slice (some ⟨gB, 0, none⟩) n cap)).alloc (.cells #[.slice (some ⟨gB, 0, none⟩) n cap] 29)).alloc (.cells (madeCells #[.bool false, .int .i64 0, .int .i64 0, .string ByteArray.empty] 16) 44)).drew).heap.size) (((((w2.setCell ⟨gB, k * 2, none⟩ (.int .i64 (b.wear + 1))).setCell ⟨gB, k * 2 + 1, none⟩ (.slice (some ⟨w2.heap.size + 1, 0, none⟩) 4 4)).setCell ⟨w.heap.size + 1, 0, none⟩ (.slice (some ⟨gB, 0, none⟩) n cap)).alloc (.cells #[.slice (some ⟨gB, 0, none⟩) n cap] 29)).alloc (.cells (madeCells #[.bool false, .int .i64 0, .int .i64 0, .string ByteArray.empty] 16) 44)).drew (some ⟨gB, 0, none⟩) (bs.set k ⟨b.wear + 1, zeroBk.pages⟩) := by
            refine ((unhide HSN).setBlkS (by have := unhide HN; omega) (b.wear + 1) (w2.heap.size + 1) (fun b0 h0 h1 => ?_) ?_ ⟨by omega, ?_⟩ (fun j => ?_) ?_).mono (fun x0 hk => ⟨by omega, hk.2⟩)
            · show (((((w2.setCell ⟨gB, k * 2, none⟩ (.int .i64 (b.wear + 1))).setCell ⟨gB, k * 2 + 1, none⟩ (.slice (some ⟨w2.heap.size + 1, 0, none⟩) 4 4)).setCell ⟨w.heap.size + 1, 0, none⟩ (.slice (some ⟨gB, 0, none⟩) n cap)).alloc (.cells #[.slice (some ⟨gB, 0, none⟩) n cap] 29)).alloc (.cells (madeCells #[.bool false, .int .i64 0, .int .i64 0, .string ByteArray.empty] 16) 44)).heap[b0]? = _
              rw [Go.Deep.blk_alloc_lt _ _ _ (by rw [hsz]; omega), Go.Deep.blk_alloc_lt _ _ _ (by simp; omega), Go.Deep.blk_setCell_other _ _ _ _ (by show b0 ≠ w.heap.size + 1; omega)]
            · have hz := zeroPagesAt ((((w2.setCell ⟨gB, k * 2, none⟩ (.int .i64 (b.wear + 1))).setCell ⟨gB, k * 2 + 1, none⟩ (.slice (some ⟨w2.heap.size + 1, 0, none⟩) 4 4)).setCell ⟨w.heap.size + 1, 0, none⟩ (.slice (some ⟨gB, 0, none⟩) n cap)).alloc (.cells #[.slice (some ⟨gB, 0, none⟩) n cap] 29)) 44
              rw [hsz] at hz
              exact hz
            · show _ < ((((((w2.setCell ⟨gB, k * 2, none⟩ (.int .i64 (b.wear + 1))).setCell ⟨gB, k * 2 + 1, none⟩ (.slice (some ⟨w2.heap.size + 1, 0, none⟩) 4 4)).setCell ⟨w.heap.size + 1, 0, none⟩ (.slice (some ⟨gB, 0, none⟩) n cap)).alloc (.cells #[.slice (some ⟨gB, 0, none⟩) n cap] 29)).alloc (.cells (madeCells #[.bool false, .int .i64 0, .int .i64 0, .string ByteArray.empty] 16) 44))).heap.size
              simp
            · have hz := newPages_frozen ((((w2.setCell ⟨gB, k * 2, none⟩ (.int .i64 (b.wear + 1))).setCell ⟨gB, k * 2 + 1, none⟩ (.slice (some ⟨w2.heap.size + 1, 0, none⟩) 4 4)).setCell ⟨w.heap.size + 1, 0, none⟩ (.slice (some ⟨gB, 0, none⟩) n cap)).alloc (.cells #[.slice (some ⟨gB, 0, none⟩) n cap] 29)) 44 j
              rw [hsz] at hz
              exact hz
            · show _ ≤ ((((((w2.setCell ⟨gB, k * 2, none⟩ (.int .i64 (b.wear + 1))).setCell ⟨gB, k * 2 + 1, none⟩ (.slice (some ⟨w2.heap.size + 1, 0, none⟩) 4 4)).setCell ⟨w.heap.size + 1, 0, none⟩ (.slice (some ⟨gB, 0, none⟩) n cap)).alloc (.cells #[.slice (some ⟨gB, 0, none⟩) n cap] 29)).alloc (.cells (madeCells #[.bool false, .int .i64 0, .int .i64 0, .string ByteArray.empty] 16) 44))).heap.size
              simp
              omega
          have hBW : Below w.heap.size w (((((w2.setCell ⟨gB, k * 2, none⟩ (.int .i64 (b.wear + 1))).setCell ⟨gB, k * 2 + 1, none⟩ (.slice (some ⟨w2.heap.size + 1, 0, none⟩) 4 4)).setCell ⟨w.heap.size + 1, 0, none⟩ (.slice (some ⟨gB, 0, none⟩) n cap)).alloc (.cells #[.slice (some ⟨gB, 0, none⟩) n cap] 29)).alloc (.cells (madeCells #[.bool false, .int .i64 0, .int .i64 0, .string ByteArray.empty] 16) 44)).drew := (((((hW2.setCell (by show w.heap.size ≤ gB; omega) _).setCell (by show w.heap.size ≤ gB; omega) _).setCell (by simp) _).alloc (by simp; omega) _).alloc (by rw [hsz]; omega) _).drew
          clear hsz
          generalize (((((w2.setCell ⟨gB, k * 2, none⟩ (.int .i64 (b.wear + 1))).setCell ⟨gB, k * 2 + 1, none⟩ (.slice (some ⟨w2.heap.size + 1, 0, none⟩) 4 4)).setCell ⟨w.heap.size + 1, 0, none⟩ (.slice (some ⟨gB, 0, none⟩) n cap)).alloc (.cells #[.slice (some ⟨gB, 0, none⟩) n cap] 29)).alloc (.cells (madeCells #[.bool false, .int .i64 0, .int .i64 0, .string ByteArray.empty] 16) 44)).drew = W at hcW hBA hBW ⊢
          exact bodyPost_ret (v := .tuple #[.agg #[.slice (some ⟨gB, 0, none⟩) n cap], .int .i64 0]) (by simp [results, Try.results30, go_sem, hcW]) rfl ⟨_, n, cap, bs.set k ⟨b.wear + 1, zeroBk.pages⟩, 0, rfl, .inr (.inr ⟨unhide HO, unhide HIN, b, by simpa using unhide HBK, .inr ⟨unhide HMX, by simp, rfl⟩⟩), by rw [List.length_set]; exact (unhide HN).symm, hBA, hBW⟩)
    · have hd : decide ((0 : Int) ≤ blk ∧ blk ≤ (n : Int) - 1) = false := by simpa using hin
      rw [hd]
      have HIN : Hid (¬ InB bs blk) := fun hc => hin ⟨hc.1, by have := hc.2; rw [← unhide HN] at this; exact this⟩
      clear hin hd
      go_wp2
      refine bodyPost_ret (v := .tuple #[.agg #[.slice (some ⟨gB, 0, none⟩) n cap], .int .i64 2]) (by simp [results, Try.results30, go_sem, hz2, hlt1, cell_alloc_lt]) rfl ⟨_, n, cap, bs, 2, rfl, .inr (.inl ⟨unhide HO, unhide HIN, rfl, rfl⟩), (unhide HN).symm, ?_, ?_⟩
      · exact unhide HF _ (((unhide HSN).setLow (a := ⟨w.heap.size + 1, 0, none⟩) (by show w.heap.size + 1 < w1.heap.size + 3; omega) _).kept ((Below.refl _ _).alloc (Nat.le_refl _) _))
      · exact (hW2.setCell (by simp) _).alloc (by simp [World.setCell]; omega) _

theorem specErased_any (a : Option Addr) (c : Nat) (bs : List Bk) (n : Nat) (hl : bs.length = n) (blk : Int) (w : World) (h : BlocksAt w a bs) (hn : Lens 1048576 bs) :
    Calls Try.prog 30 #[.agg #[.slice a n c], .int .i64 blk] w fun e w' => ∃ a2 len c2 out code, e = .returned (.tuple #[.agg #[.slice a2 len c2], .int .i64 code]) ∧ ErasedIs bs blk out code ∧ out.length = len ∧ BlocksAt w' a2 out ∧ Below w.heap.size w w' := by
  refine (specErased_soft a c bs n hl blk w h hn).mono ?_
  rintro e w' ⟨a2, len, c2, out, code, rfl, h1, h2, h3, h4⟩
  exact ⟨a2, len, c2, out, code, rfl, h1, h2, h3.blocksAt, h4⟩

end Go.Proofs.Ytageolbmplhgaaa
