/- The program's Erased. -/
import Derived.Test.YtageolbmplhgaaaEraI
import Derived.WalkKit
import Derived.Outline
namespace Go.Proofs.Ytageolbmplhgaaa
open Go.RowKit
set_option linter.unusedVariables false
set_option linter.unusedSimpArgs false

def InB (bs : List Bk) (blk : Int) : Prop := 0 ≤ blk ∧ blk ≤ (bs.length : Int) - 1
/-- What Erased answers. -/
def ErasedIs (bs : List Bk) (blk : Int) (out : List Bk) (code : Int) : Prop :=
  (¬ ChipOk bs ∧ out = [] ∧ code = 1) ∨ (ChipOk bs ∧ ¬ InB bs blk ∧ out = bs ∧ code = 2) ∨
  (ChipOk bs ∧ InB bs blk ∧ ∃ b, bs[blk.toNat]? = some b ∧ ((b.wear = 1000000000 ∧ out = bs ∧ code = 4) ∨ (b.wear ≠ 1000000000 ∧ out = bs.set blk.toNat ⟨b.wear + 1, zeroBk.pages⟩ ∧ code = 0)))
theorem ErasedIs.one {bs : List Bk} {blk : Int} {o1 o2 : List Bk} {c1 c2 : Int} (h : ErasedIs bs blk o1 c1) (k : ErasedIs bs blk o2 c2) : o1 = o2 ∧ c1 = c2 := by
  rcases h with ⟨h1, rfl, rfl⟩ | ⟨h1, h2, rfl, rfl⟩ | ⟨h1, h2, b, hb, h3⟩
  · rcases k with ⟨k1, rfl, rfl⟩ | ⟨k1, _⟩ | ⟨k1, _⟩
    · exact ⟨rfl, rfl⟩
    · exact absurd k1 h1
    · exact absurd k1 h1
  · rcases k with ⟨k1, _⟩ | ⟨k1, k2, rfl, rfl⟩ | ⟨k1, k2, _⟩
    · exact absurd h1 k1
    · exact ⟨rfl, rfl⟩
    · exact absurd k2 h2
  · rcases k with ⟨k1, _⟩ | ⟨k1, k2, _⟩ | ⟨k1, k2, d, hd, k3⟩
    · exact absurd h1 k1
    · exact absurd h2 k2
    · rw [hb] at hd
      cases hd
      rcases h3 with ⟨e1, rfl, rfl⟩ | ⟨e1, rfl, rfl⟩
      · rcases k3 with ⟨f1, rfl, rfl⟩ | ⟨f1, _⟩
        · exact ⟨rfl, rfl⟩
        · exact absurd e1 f1
      · rcases k3 with ⟨f1, _⟩ | ⟨f1, rfl, rfl⟩
        · exact absurd f1 e1
        · exact ⟨rfl, rfl⟩

theorem ccBs_set (m : CC) (n k : Nat) (x : Int) (hk : k < n) : ccBs ((m.setWear k x).setPages k (fun _ => zeroPg)) n = (ccBs m n).set k ⟨x, zeroBk.pages⟩ := by
  apply List.ext_getElem?
  intro i
  rw [List.getElem?_set]
  by_cases hi : i < n
  · rw [ccBs_at _ hi, ccBs_at _ hi]
    by_cases e : k = i
    · subst e
      rw [if_pos rfl, if_pos (by rw [ccBs_length]; exact hi)]
      simp [CC.setWear, CC.setPages, ccPs, zeroBk]
    · rw [if_neg e]
      have e' : ¬ i = k := fun x => e x.symm
      simp [CC.setWear, CC.setPages, ccPs, e']
  · rw [List.getElem?_eq_none (by rw [ccBs_length]; omega), List.getElem?_eq_none (by rw [ccBs_length]; omega), if_neg (by omega)]

/-- erased, whatever the block: the cells m2 and the code. -/
theorem erased_any (bs : List Bk) (hok : ChipOk bs) (m : CC) (hct : m.count = bs.length) (hbs : ccBs m bs.length = bs) (blk : Int) (w : World) :
    Calls Try.prog 70 #[.agg (ccA m), .int .i64 blk] w fun e w' => ∃ m2 code, e = .returned (.tuple #[.agg (ccA m2), .int .i64 code]) ∧ m2.count = bs.length ∧ ErasedIs bs blk (ccBs m2 bs.length) code ∧ Below w.heap.size w w' := by
  have hc := hok.count
  by_cases hin : InB bs blk
  · obtain ⟨k, rfl⟩ := Int.eq_ofNat_of_zero_le hin.1
    have hkl : k < bs.length := by have := hin.2; omega
    have hbk : bs[k]? = some ⟨m.wear k, ccPs m k⟩ := by have := ccBs_at m hkl; rwa [hbs] at this
    have hw := (hok.block _ (List.mem_of_getElem? hbk)).wear
    refine (erased_in m bs.length hct hc.2 k hkl hw.1 hw.2 w).mono ?_
    rintro e w' ⟨⟨hx, rfl⟩ | ⟨hx, rfl⟩, hB⟩
    · exact ⟨m, 4, rfl, hct, .inr (.inr ⟨hok, hin, _, by simpa using hbk, .inl ⟨hx, hbs, rfl⟩⟩), hB⟩
    · refine ⟨_, 0, rfl, hct, .inr (.inr ⟨hok, hin, _, by simpa using hbk, .inr ⟨hx, ?_, rfl⟩⟩), hB⟩
      rw [ccBs_set m _ k _ hkl, hbs]
      rfl
  · refine (erased_out m bs.length hct hc.2 blk hin w).mono ?_
    rintro e w' ⟨rfl, hB⟩
    exact ⟨m, 2, rfl, hct, .inr (.inl ⟨hok, hin, hbs, rfl⟩), hB⟩

set_option maxRecDepth 100000 in
set_option maxHeartbeats 2000000 in
theorem implErased_any (a : Option Addr) (c : Nat) (bs : List Bk) (n : Nat) (hl : bs.length = n) (blk : Int) (w : World) (h : BlocksAt w a bs) (hn : Lens 9223372036854775807 bs) :
    Calls Try.prog 31 #[.agg #[.slice a n c], .int .i64 blk] w fun e w' =>
      (¬ ChipOk bs ∧ e = .returned (.tuple #[.agg #[.slice none 0 0], .int .i64 1]) ∧ Below w.heap.size w w') ∨
      (ChipOk bs ∧ ∃ g H out code, e = .returned (.tuple #[.agg #[.slice (some ⟨g, 0, none⟩) n n], .int .i64 code]) ∧ ErasedIs bs blk out code ∧ out.length = n ∧ w.heap.size ≤ g ∧ OwnBlocks w' 75 44 g H n out ∧ Below w.heap.size w w') := by
  subst hl
  have hb0 : ∀ o1 o2, Below w.heap.size w ((w.alloc o1).alloc o2) := fun o1 o2 => ((Below.refl _ w).alloc (Nat.le_refl _) _).alloc (by simp) _
  go_enter Try.func31, Try.ntmps31
  go_wp2_with fail
  refine (cellsOf_any a c bs _ (h.below (hb0 _ _) (Nat.le_refl _)) hn).mono ?_
  rintro e w1 ⟨⟨m, r, rfl, hr, hm⟩, hB1⟩
  have hW1 : Below w.heap.size w w1 := (hb0 _ _).trans (hB1.mono (by simp; omega))
  have hs1 := hB1.size
  simp at hs1
  have hz1 : w1.cell? ⟨w.heap.size + 1, 0, none⟩ = some (.slice none 0 0) := by
    rw [hB1.cell (p := ⟨w.heap.size + 1, 0, none⟩) (by simp)]
    simp
  have hf1 : w1.frozen? ⟨w.heap.size + 1, 0, none⟩ = false := by
    rw [hB1.frozen (p := ⟨w.heap.size + 1, 0, none⟩) (by simp)]
    simp
  have hl1 : w.heap.size + 1 < w1.heap.size := by omega
  have hsc := store_cc m w1
  have hAs := ccA_size m
  have HSZ := hide (sizeCC m)
  have HR := hide hr
  have HE := hide (fun hok hct hbs => erased_any bs hok m hct hbs blk)
  have HM := hide hm
  obtain ⟨A, hA⟩ : ∃ A, A = ccA m := ⟨_, rfl⟩
  rw [← hA] at hsc hAs HSZ HE ⊢
  clear hr hm h hn hB1 hb0 hA
  cases r with
  | false =>
    have HN : Hid (¬ ChipOk bs) := fun hc => by have := (unhide HR).2 hc; cases this
    clear HE HM HR
    go_wp2
    refine bodyPost_ret (v := .tuple #[.agg #[.slice none 0 0], .int .i64 1]) (by simp [results, Try.results31, go_sem, hz1, hl1, cell_alloc_lt]) rfl (.inl ⟨unhide HN, rfl, ?_⟩)
    repeat (first | exact hW1 | refine Below.drew ?_ | refine Below.alloc ?_ (by simp [World.setCell] <;> omega) _ | refine Below.setCell ?_ (by simp <;> omega) _)
  | true =>
    have hok := (unhide HR).1 rfl
    have hc12 := hok.count
    obtain ⟨hct, hbss⟩ := unhide HM rfl
    have HE1 := hide (unhide HE hok hct hbss)
    have HO := hide hok
    clear HE HM HR hok hct hbss
    go_wp2_with fail
    refine wp_load_row 84 _ rfl w1.heap.size rfl 84 A (0, 0) _ (Go.Deep.blk_alloc_new _ _) Try.underlying84 rfl (unhide HSZ) ?_
    clear hsc
    go_wp2_with fail
    refine (unhide HE1 _).mono ?_
    rintro e w2 ⟨m2, code, rfl, hct2, hE2, hB2⟩
    have hs2 := hB2.size
    simp at hs2
    have hrow2 : w2.heap[w1.heap.size]? = some (.cells A 84 (0, 0)) := (hB2.block _ (by simp)).trans (Go.Deep.blk_alloc_new _ _)
    have hz2 : w2.cell? ⟨w.heap.size + 1, 0, none⟩ = some (.slice none 0 0) := by
      rw [hB2.cell (p := ⟨w.heap.size + 1, 0, none⟩) (by simp; omega), cell_alloc_lt _ _ _ _ hl1]
      exact hz1
    have hf2 : w2.frozen? ⟨w.heap.size + 1, 0, none⟩ = false := by
      rw [hB2.frozen (p := ⟨w.heap.size + 1, 0, none⟩) (by simp; omega), frozen_alloc_lt _ _ _ _ hl1]
      exact hf1
    have hW2 : Below w.heap.size w w2 := (hW1.alloc hW1.size _).trans (hB2.mono (by simp; omega))
    have hst := store_row Try.prog w2 w1.heap.size 84 A (ccA m2) hrow2 (by rw [ccA_size, hAs]) (ccA_one m2)
    have hrow3 : (w2.setRow w1.heap.size (ccA m2)).heap[w1.heap.size]? = some (.cells (ccA m2) 84 (0, 0)) := setRow_heap _ _ _ _ _ _ hrow2
    have hz3 : (w2.setRow w1.heap.size (ccA m2)).cell? ⟨w.heap.size + 1, 0, none⟩ = some (.slice none 0 0) := (World.cell?_of_block (w := w2) (a := ⟨w.heap.size + 1, 0, none⟩) (setRow_other _ _ _ _ (by show w.heap.size + 1 ≠ _; omega))).trans hz2
    have hf3 : (w2.setRow w1.heap.size (ccA m2)).frozen? ⟨w.heap.size + 1, 0, none⟩ = false := by
      have : (w2.setRow w1.heap.size (ccA m2)).frozen? ⟨w.heap.size + 1, 0, none⟩ = w2.frozen? ⟨w.heap.size + 1, 0, none⟩ := by
        have e := setRow_other w2 w1.heap.size (w.heap.size + 1) (ccA m2) (by omega)
        simp [World.frozen?, e]
      exact this.trans hf2
    have hW3 := Below.setRow hW2 (g := w1.heap.size) (by omega) (ccA m2)
    have hs3 : (w2.setRow w1.heap.size (ccA m2)).heap.size = w2.heap.size := setRow_size _ _ _
    generalize w2.setRow w1.heap.size (ccA m2) = W3 at hst hrow3 hz3 hf3 hW3 hs3
    have HC := hide (fun W => chip_any m2 bs.length hct2 hc12.2 W)
    have hAs2 := ccA_size m2
    have HSZ2 := hide (sizeCC m2)
    obtain ⟨A2, hA2⟩ : ∃ A2, A2 = ccA m2 := ⟨_, rfl⟩
    rw [← hA2] at hst hrow3 HC hAs2 HSZ2 ⊢
    have HR3 := hide hrow3
    have HE2 := hide hE2
    clear hA2 hrow3 hrow2 hB2 hz2 hf2 hW2 hz1 hf1 hE2 HE1
    go_wp2_with (refine wpList_load_row rfl 84 _ rfl w1.heap.size rfl 84 A2 (0, 0) _ (unhide HR3) Try.underlying84 rfl (unhide HSZ2) ?_)
    refine (unhide HC _).mono ?_
    rintro e w4 ⟨g, H, rfl, hg, hO4, hB4⟩
    have hz4 := (hB4.cell (p := ⟨w.heap.size + 1, 0, none⟩) (by show w.heap.size + 1 < _; omega)).trans hz3
    have hf4 := (hB4.frozen (p := ⟨w.heap.size + 1, 0, none⟩) (by show w.heap.size + 1 < _; omega)).trans hf3
    have hW4 := hW3.trans (hB4.mono hW3.size)
    have HO4 := hide hO4
    clear hO4 hB4 hW3 hz3 hf3 HC HR3 hst
    go_wp2
    refine bodyPost_ret (v := .tuple #[.agg #[.slice (some ⟨g, 0, none⟩) bs.length bs.length], .int .i64 code]) (by simp [results, Try.results31, go_sem, hz4]) rfl (.inr ⟨unhide HO, g, H, ccBs m2 bs.length, code, rfl, unhide HE2, ccBs_length _ _, by omega, (unhide HO4).setOther (by simp; omega) _, hW4.setCell (by simp) _⟩)
end Go.Proofs.Ytageolbmplhgaaa
