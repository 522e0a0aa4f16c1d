/- The program's Programmed. -/
import Derived.Test.YtageolbmplhgaaaProgI
import Derived.Test.YtageolbmplhgaaaChipA
import Derived.WalkKit
import Derived.Outline
namespace Go.Proofs.Ytageolbmplhgaaa
open Go.RowKit
set_option linter.unusedVariables false
set_option linter.unusedSimpArgs false

set_option maxRecDepth 100000 in
set_option maxHeartbeats 2000000 in
theorem implProgrammed_any (a : Option Addr) (c : Nat) (bs : List Bk) (n : Nat) (hl : bs.length = n) (blk : Int) (u : Bool) (l s : Int) (d : ByteArray) (w : World) (h : BlocksAt w a bs) (hn : Lens 9223372036854775807 bs) :
    Calls Try.prog 29 #[.agg #[.slice a n c], .int .i64 blk, .agg #[.bool u, .int .i64 l, .int .i64 s, .string d]] w fun e w' =>
      (¬ ChipOk bs ∧ e = .returned (.tuple #[.agg #[.slice none 0 0], .int .i64 1]) ∧ Below w.heap.size w w') ∨
      (ChipOk bs ∧ ∃ g H out code, e = .returned (.tuple #[.agg #[.slice (some ⟨g, 0, none⟩) n n], .int .i64 code]) ∧ ProgIs bs blk ⟨u, l, s, d⟩ out code ∧ out.length = n ∧ w.heap.size ≤ g ∧ OwnBlocks w' 75 44 g H n out ∧ Below w.heap.size w w') := by
  subst hl
  have hb0 : ∀ o1 o2 o3, Below w.heap.size w (((w.alloc o1).alloc o2).alloc o3) := fun o1 o2 o3 => (((Below.refl _ w).alloc (Nat.le_refl _) _).alloc (by simp) _).alloc (by simp; omega) _
  go_enter Try.func29, Try.ntmps29
  go_wp2_with fail
  refine (cellsOf_any a c bs _ (h.below (hb0 _ _ _) (Nat.le_refl _)) hn).mono ?_
  rintro e w1 ⟨⟨m, r, rfl, hr, hm⟩, hB1⟩
  have hW1 : Below w.heap.size w w1 := (hb0 _ _ _).trans (hB1.mono (by simp; omega))
  have hs1 := hB1.size
  simp at hs1
  have hz1 := cell_of_one (rows3 (hB1.mono (by simp))).2.2
  have hf1 := free_of_one (rows3 (hB1.mono (by simp))).2.2
  have hl1 : w.heap.size + 1 + 1 < w1.heap.size := by omega
  have hpp : w1.heap[w.heap.size + 1]? = some (.cells #[.bool u, .int .i64 l, .int .i64 s, .string d] 44 (0, 0)) := (rows3 (hB1.mono (by simp))).2.1
  have HPP := hide hpp
  clear hpp
  have hsc := store_cc m w1
  have hAs := ccA_size m
  have HSZ := hide (sizeCC m)
  have HR := hide hr
  have HE := hide (fun hok hct hbs => programmed_any bs hok m hct hbs blk u l s d)
  have HM := hide hm
  obtain ⟨A, hA⟩ : ∃ A, A = ccA m := ⟨_, rfl⟩
  rw [← hA] at hsc hAs HSZ HE ⊢
  clear hr hm h hn hB1 hb0 hA
  cases r with
  | false =>
    have HN : Hid (¬ ChipOk bs) := fun hc => by have := (unhide HR).2 hc; cases this
    clear HE HM HR
    go_wp2
    refine bodyPost_ret (v := .tuple #[.agg #[.slice none 0 0], .int .i64 1]) (by simp [results, Try.results29, go_sem, hz1, hl1, cell_alloc_lt]) rfl (.inl ⟨unhide HN, rfl, ?_⟩)
    repeat (first | exact hW1 | refine Below.drew ?_ | refine Below.alloc ?_ (by simp [World.setCell] <;> omega) _ | refine Below.setCell ?_ (by simp <;> omega) _)
  | true =>
    have hok := (unhide HR).1 rfl
    have hc12 := hok.count
    obtain ⟨hct, hbss⟩ := unhide HM rfl
    have HE1 := hide (unhide HE hok hct hbss)
    have HO := hide hok
    clear HE HM HR hok hct hbss
    go_wp2_with fail
    refine wp_load_row 84 _ rfl w1.heap.size rfl 84 A (0, 0) _ (Go.Deep.blk_alloc_new _ _) Try.underlying84 rfl (unhide HSZ) ?_
    clear hsc
    have hl11 : w.heap.size + 1 < w1.heap.size := by omega
    have p0 := cell_of_row _ _ 0 _ _ _ (unhide HPP)
    have p1 := cell_of_row _ _ 1 _ _ _ (unhide HPP)
    have p2 := cell_of_row _ _ 2 _ _ _ (unhide HPP)
    have p3 := cell_of_row _ _ 3 _ _ _ (unhide HPP)
    simp at p0 p1 p2 p3
    go_wp2_with fail
    refine (unhide HE1 _).mono ?_
    rintro e w2 ⟨m2, code, rfl, hct2, hE2, hB2⟩
    have hs2 := hB2.size
    simp at hs2
    have hrow2 : w2.heap[w1.heap.size]? = some (.cells A 84 (0, 0)) := (hB2.block _ (by simp)).trans (Go.Deep.blk_alloc_new _ _)
    have hz2 : w2.cell? ⟨w.heap.size + 1 + 1, 0, none⟩ = some (.slice none 0 0) := by
      rw [hB2.cell (p := ⟨w.heap.size + 1 + 1, 0, none⟩) (by simp; omega), cell_alloc_lt _ _ _ _ hl1]
      exact hz1
    have hf2 : w2.frozen? ⟨w.heap.size + 1 + 1, 0, none⟩ = false := by
      rw [hB2.frozen (p := ⟨w.heap.size + 1 + 1, 0, none⟩) (by simp; omega), frozen_alloc_lt _ _ _ _ hl1]
      exact hf1
    have hW2 : Below w.heap.size w w2 := (hW1.alloc hW1.size _).trans (hB2.mono (by simp; omega))
    have hst := store_row Try.prog w2 w1.heap.size 84 A (ccA m2) hrow2 (by rw [ccA_size, hAs]) (ccA_one m2)
    have hrow3 : (w2.setRow w1.heap.size (ccA m2)).heap[w1.heap.size]? = some (.cells (ccA m2) 84 (0, 0)) := setRow_heap _ _ _ _ _ _ hrow2
    have hz3 : (w2.setRow w1.heap.size (ccA m2)).cell? ⟨w.heap.size + 1 + 1, 0, none⟩ = some (.slice none 0 0) := (World.cell?_of_block (w := w2) (a := ⟨w.heap.size + 1 + 1, 0, none⟩) (setRow_other _ _ _ _ (by show w.heap.size + 1 + 1 ≠ _; omega))).trans hz2
    have hf3 : (w2.setRow w1.heap.size (ccA m2)).frozen? ⟨w.heap.size + 1 + 1, 0, none⟩ = false := by
      have : (w2.setRow w1.heap.size (ccA m2)).frozen? ⟨w.heap.size + 1 + 1, 0, none⟩ = w2.frozen? ⟨w.heap.size + 1 + 1, 0, none⟩ := by
        have e := setRow_other w2 w1.heap.size (w.heap.size + 1 + 1) (ccA m2) (by omega)
        simp [World.frozen?, e]
      exact this.trans hf2
    have hW3 := Below.setRow hW2 (g := w1.heap.size) (by omega) (ccA m2)
    have hs3 : (w2.setRow w1.heap.size (ccA m2)).heap.size = w2.heap.size := setRow_size _ _ _
    generalize w2.setRow w1.heap.size (ccA m2) = W3 at hst hrow3 hz3 hf3 hW3 hs3
    have HC := hide (fun W => chip_any m2 bs.length hct2 hc12.2 W)
    have hAs2 := ccA_size m2
    have HSZ2 := hide (sizeCC m2)
    obtain ⟨A2, hA2⟩ : ∃ A2, A2 = ccA m2 := ⟨_, rfl⟩
    rw [← hA2] at hst hrow3 HC hAs2 HSZ2 ⊢
    have HR3 := hide hrow3
    have HE2 := hide hE2
    clear hA2 hrow3 hrow2 hB2 hz2 hf2 hW2 hz1 hf1 hE2 HE1
    go_wp2_with (refine wpList_load_row rfl 84 _ rfl w1.heap.size rfl 84 A2 (0, 0) _ (unhide HR3) Try.underlying84 rfl (unhide HSZ2) ?_)
    refine (unhide HC _).mono ?_
    rintro e w4 ⟨g, H, rfl, hg, hO4, hB4⟩
    have hz4 := (hB4.cell (p := ⟨w.heap.size + 1 + 1, 0, none⟩) (by show w.heap.size + 1 + 1 < _; omega)).trans hz3
    have hf4 := (hB4.frozen (p := ⟨w.heap.size + 1 + 1, 0, none⟩) (by show w.heap.size + 1 + 1 < _; omega)).trans hf3
    have hW4 := hW3.trans (hB4.mono hW3.size)
    have HO4 := hide hO4
    clear hO4 hB4 hW3 hz3 hf3 HC HR3 hst
    go_wp2
    refine bodyPost_ret (v := .tuple #[.agg #[.slice (some ⟨g, 0, none⟩) bs.length bs.length], .int .i64 code]) (by simp [results, Try.results29, go_sem, hz4]) rfl (.inr ⟨unhide HO, g, H, ccBs m2 bs.length, code, rfl, unhide HE2, ccBs_length _ _, by omega, (unhide HO4).setOther (by simp; omega) _, hW4.setCell (by show w.heap.size ≤ w.heap.size + 1 + 1; omega) _⟩)
theorem implProgrammed_own (a : Option Addr) (c : Nat) (bs : List Bk) (n : Nat) (hl : bs.length = n) (blk : Int) (u : Bool) (l s : Int) (d : ByteArray) (w : World) (h : BlocksAt w a bs) (hn : Lens 9223372036854775807 bs) :
    Calls Try.prog 29 #[.agg #[.slice a n c], .int .i64 blk, .agg #[.bool u, .int .i64 l, .int .i64 s, .string d]] w fun e w' => ∃ a2 n2 c2 out code, e = .returned (.tuple #[.agg #[.slice a2 n2 c2], .int .i64 code]) ∧ ProgIs bs blk ⟨u, l, s, d⟩ out code ∧ ChipOwn w' w.heap.size w'.heap.size a2 n2 c2 out ∧ Below w.heap.size w w' := by
  refine (implProgrammed_any a c bs n hl blk u l s d w h hn).mono ?_
  rintro e w' (⟨hno, rfl, hB⟩ | ⟨hok, g, H, out, code, rfl, hE, hol, hg, hO, hB⟩)
  · exact ⟨none, 0, 0, [], 1, rfl, .inl ⟨hno, rfl, rfl⟩, ⟨rfl, .inl ⟨rfl, rfl, rfl⟩⟩, hB⟩
  · exact ⟨_, n, n, out, code, rfl, hE, ⟨hol, .inr ⟨g, H, rfl, hg, hO.row.lt, fun i hi => ⟨hO.ahead i (by omega), hO.lt (by omega)⟩, hO⟩⟩, hB⟩
end Go.Proofs.Ytageolbmplhgaaa
