/- Whatever the code, the law FnDid answers true: ops in two pieces are the same ops. No condition. -/
import Derived.Test.YtalgkmellbamgaaChecked
import Derived.Test.YtalgkmellbamgaaIntT
import Derived.Test.YtalgkmellbamgaaOwnI
import Derived.Test.YtalgkmellbamgaaOwn
import Derived.WalkKit
import Derived.Outline
import Derived.Test.YtalgkmellbamgaaFreeP
import Derived.Test.YtalgkmellbamgaaMark
import Derived.Test.YtalgkmellbamgaaLawC
import Derived.Test.YtalgkmellbamgaaDidA
import Derived.Test.YtalgkmellbamgaaRows
import Derived.Test.YtalgkmellbamgaaDrD
import Derived.Test.YtalgkmellbamgaaSamK
import Derived.Test.YtalgkmellbamgaaDidT
import Derived.Test.YtalgkmellbamgaaLaw0
import Derived.ProofKit
import Derived.OpenShut
import Derived.ChangeOld
import Derived.Below
import Derived.Deep.DeepCutAuto
/- Lists of int64: the laws' own comparison, marks, and whether they are held. -/
namespace Go.Proofs.Ytalgkmellbamgaa
open Go.RowKit
set_option linter.unusedVariables false
set_option linter.unusedSimpArgs false

def marksI (k : Int) (n : Nat) : List Int := (List.range n).map fun (i : Nat) => k + (i : Int)

set_option maxHeartbeats 1000000 in
theorem markInt64S_any (b o c n : Nat) (k : Int) (w : World) (h : IntsMine w b o n) (hn : n ≤ 1048576) (h0 : 0 < k) (h1 : k + n ≤ 1125899906842624) :
    Calls Try.prog 101 #[.slice (some ⟨b, o, none⟩) n c, .int .i64 k] w fun e w' => e = .returned (.int .i64 (k + n)) ∧ IntsAt w' (some ⟨b, o, none⟩) (marksI k n) ∧ Touch (· = b) w w' := by
  go_enter Try.func101, Try.ntmps101
  go_wp2
  go_loopw [1, 5] (fun v i wr => ∃ j : Nat, j ≤ n ∧ i = .int .i64 j ∧ v = .int .i64 (k + (j : Int)) ∧ IntsMine wr b o n ∧ (∀ t, t < j → wr.cell? ⟨b, o + t, none⟩ = some (.int .i64 (k + (t : Int)))) ∧ Touch (· = b) w wr) (fun _ i _ => n - (intOf i).toNat)
  case atStart => exact ⟨0, Nat.zero_le _, rfl, by simp, h, fun t ht => absurd ht (Nat.not_lt_zero _), Touch.refl _ _⟩
  case round =>
    obtain ⟨j, hj, rfl, rfl, hM, hD, hT⟩ := hrel
    by_cases hlt : j < n
    · obtain ⟨⟨x, hx⟩, hf⟩ := hM j hlt
      have HM := hide hM
      have HD := hide hD
      clear h hM hD
      go_wp2
      go_roundw
      case rel =>
        have hc : ∀ t, t ≠ j → (wr.setCell ⟨b, o + j, none⟩ (.int .i64 (k + (j : Int)))).cell? ⟨b, o + t, none⟩ = wr.cell? ⟨b, o + t, none⟩ := fun t ht => World.cell?_setCell_other _ _ _ _ (by simp <;> omega)
        have hs : (wr.setCell ⟨b, o + j, none⟩ (.int .i64 (k + (j : Int)))).cell? ⟨b, o + j, none⟩ = some (.int .i64 (k + (j : Int))) := World.cell?_setCell_same' _ _ _ (by rw [hx]; rfl)
        refine ⟨j + 1, by omega, by go_num, by go_num, fun i hi => ?_, fun t ht => ?_, hT.setCell rfl _⟩
        · obtain ⟨⟨y, hy⟩, hfy⟩ := unhide HM i hi
          refine ⟨?_, by simpa using hfy⟩
          by_cases e : i = j
          · subst e; exact ⟨_, hs⟩
          · exact ⟨y, (hc i e).trans hy⟩
        · by_cases e : t = j
          · subst e; exact hs
          · exact (hc t e).trans (unhide HD t (by omega))
      case measure => simp [intOf]; omega
    · have hk' : j = n := by omega
      subst hk'
      have HD := hide hD
      clear h hM hD
      go_wp2
      go_ret
      refine ⟨rfl, fun i x hx => ⟨b, o, rfl, ?_⟩, hT⟩
      have hi : i < j := by have := (List.getElem?_eq_some_iff.1 hx).1; simpa [marksI] using this
      simp [marksI, hi] at hx
      subst hx
      exact unhide HD i hi
end Go.Proofs.Ytalgkmellbamgaa

/- For laws whose answer is a list of int64: its form, its marks. -/
namespace Go.Proofs.Ytalgkmellbamgaa
open Go.RowKit
set_option linter.unusedVariables false
set_option linter.unusedSimpArgs false

set_option maxHeartbeats 1000000 in
theorem markInts_any (a : Option Addr) (c n B : Nat) (w : World) (h : MineFrom w a n B) (hB : B ≤ w.heap.size) (hn : n ≤ 1048576) :
    Calls Try.prog 101 #[.slice a n c, .int .i64 1] w fun e w' => e = .returned (.int .i64 (1 + (n : Int))) ∧ IntsAt w' a (marksI 1 n) ∧ Below B w w' := by
  rcases h with ⟨rfl, rfl⟩ | ⟨g, rfl, h1, h2, h3⟩
  · go_enter Try.func101, Try.ntmps101
    go_wp2
    go_loop [1, 5] (fun v i => i = .int .i64 0 ∧ v = .int .i64 1) (fun _ i => 0)
    case atStart => exact ⟨rfl, rfl⟩
    case round =>
      obtain ⟨rfl, rfl⟩ := hrel
      go_wp2
      go_ret
      exact ⟨rfl, fun i x hx => by simp [marksI] at hx, Below.refl _ _⟩
  · refine (markInt64S_any g 0 c n 1 w h3 hn (by omega) (by omega)).mono ?_
    rintro e w' ⟨rfl, hI, hT⟩
    exact ⟨rfl, hI, hT.below hB (fun k hk => by subst hk; exact h1)⟩

theorem markChip_n {n : Nat} (g : Nat) (H : Nat → Nat) (c : Nat) (bs : List Bk) (hl : bs.length = n) (k : Int) (w : World) (h : OwnBlocks w 38 28 g H n bs) (hn : Lens 1048576 bs) (h0 : 0 < k) (h1 : kAfter k bs ≤ 1125899906842624) :
    Calls Try.prog 53 #[.agg #[.slice (some ⟨g, 0, none⟩) n c], .int .i64 k] w fun e w' => e = .returned (.int .i64 (kAfter k bs)) ∧ OwnBlocks w' 38 28 g H n (markBs k bs) ∧ Touch (fun j => j = g ∨ ∃ i, i < n ∧ j = H i) w w' := by
  subst hl; exact markChip_any g H c bs k w h hn h0 h1

theorem kAfter_upto (bs : List Bk) : ∀ k, (∀ b ∈ bs, b.pages.length ≤ 1048576) → k ≤ kAfter k bs ∧ kAfter k bs ≤ k + (bs.length : Int) * 4194305 := by
  induction bs with
  | nil => intro k _; simp [kAfter]
  | cons b bs ih =>
    intro k h
    have h1 := ih (k + 1 + 4 * (b.pages.length : Int)) (fun c hc => h c (by simp [hc]))
    have h2 := h b (by simp)
    have e : kAfter k (b :: bs) = kAfter (k + 1 + 4 * (b.pages.length : Int)) bs := rfl
    rw [e, List.length_cons]
    have e2 : ((bs.length + 1 : Nat) : Int) * 4194305 = (bs.length : Int) * 4194305 + 4194305 := by omega
    rw [e2]
    omega

/-- toChip, with what it owns. -/
theorem toChip_own {n : Nat} (a : Option Addr) (c : Nat) (bs : List Bk) (hl : bs.length = n) (w : World) (h : BlocksAt w a bs) (hn : Lens 1048576 bs) :
    Calls Try.prog 50 #[.agg #[.slice a n c]] w fun e w' => ∃ g H, e = .returned (.agg #[.slice (some ⟨g, 0, none⟩) n n]) ∧ w.heap.size ≤ g ∧ OwnBlocks w' 38 28 g H n bs ∧ Below w.heap.size w w' := by
  subst hl; exact toChip_any a c bs w h hn
end Go.Proofs.Ytalgkmellbamgaa

/- A chip as an answer: what it owns, its marks. -/
namespace Go.Proofs.Ytalgkmellbamgaa
open Go.RowKit
set_option linter.unusedVariables false
set_option linter.unusedSimpArgs false

theorem OwnBlocks.of_blocks {w w' : World} {tB tP : TypeId} {g : Nat} {H : Nat → Nat} {n : Nat} {bs : List Bk} (h : OwnBlocks w tB tP g H n bs) (e : ∀ k, g ≤ k → k < w.heap.size → w'.heap[k]? = w.heap[k]?) : OwnBlocks w' tB tP g H n bs :=
  ⟨h.row.of_block (e g (Nat.le_refl _) h.row.lt), fun i b hb => World.rowIs.of_block (h.pages i b hb) (e _ (Nat.le_of_lt (h.ahead i (List.getElem?_eq_some_iff.1 hb).1)) (World.rowIs.lt (h.pages i b hb))), h.ahead, h.order⟩

/-- An answer that is a chip: its blocks lie from B on and ahead of K, each in a row of its own. -/
def ChipOwn (w : World) (B K : Nat) (a : Option Addr) (n c : Nat) (out : List Bk) : Prop :=
  out.length = n ∧ ((a = none ∧ n = 0 ∧ c = 0) ∨ ∃ g H, a = some ⟨g, 0, none⟩ ∧ B ≤ g ∧ g < K ∧ (∀ i, i < n → g < H i ∧ H i < K) ∧ OwnBlocks w 38 28 g H n out)

theorem ChipOwn.blocksAt {w : World} {B K : Nat} {a : Option Addr} {n c : Nat} {out : List Bk} (h : ChipOwn w B K a n c out) : BlocksAt w a out := by
  obtain ⟨hl, ⟨_, h0, _⟩ | ⟨g, H, rfl, _, _, _, hO⟩⟩ := h
  · intro i b hb
    have := (List.getElem?_eq_some_iff.1 hb).1
    omega
  · exact hO.blocksAt (by omega)

theorem ChipOwn.below {w w' : World} {B K : Nat} {a : Option Addr} {n c : Nat} {out : List Bk} (h : ChipOwn w B K a n c out) (hb : Below w.heap.size w w') : ChipOwn w' B K a n c out := by
  obtain ⟨hl, h0 | ⟨g, H, rfl, h1, h2, h3, hO⟩⟩ := h
  · exact ⟨hl, .inl h0⟩
  · exact ⟨hl, .inr ⟨g, H, rfl, h1, h2, h3, hO.below hb (Nat.le_refl _)⟩⟩

theorem ChipOwn.touch {S : Nat → Prop} {w w' : World} {B K : Nat} {a : Option Addr} {n c : Nat} {out : List Bk} (h : ChipOwn w B K a n c out) (hT : Touch S w w') (hS : ∀ k, S k → k < B) : ChipOwn w' B K a n c out := by
  obtain ⟨hl, h0 | ⟨g, H, rfl, h1, h2, h3, hO⟩⟩ := h
  · exact ⟨hl, .inl h0⟩
  · exact ⟨hl, .inr ⟨g, H, rfl, h1, h2, h3, hO.of_blocks fun k hk hlt => hT.block k hlt (fun hs => by have := hS k hs; omega)⟩⟩

theorem markChip_own {B K : Nat} (a : Option Addr) (n c : Nat) (out : List Bk) (w : World) (h : ChipOwn w B K a n c out) (hn : Lens 1048576 out) (h1 : kAfter 1 out ≤ 1125899906842624) :
    Calls Try.prog 53 #[.agg #[.slice a n c], .int .i64 1] w fun e w' => e = .returned (.int .i64 (kAfter 1 out)) ∧ BlocksAt w' a (markBs 1 out) ∧ Touch (fun k => B ≤ k ∧ k < K) w w' := by
  obtain ⟨hl, ⟨rfl, rfl, rfl⟩ | ⟨g, H, rfl, hB, hK, hH, hO⟩⟩ := h
  · have h0 : out = [] := List.length_eq_zero_iff.1 hl
    subst h0
    refine (markChip_nil 1 w).mono ?_
    rintro e w' ⟨rfl, hB⟩
    exact ⟨rfl, fun i b hb => by simp [markBs] at hb, Touch.of_below hB⟩
  · refine (markChip_n g H c out hl 1 w hO hn (by omega) h1).mono ?_
    rintro e w' ⟨rfl, hO2, hT⟩
    refine ⟨rfl, hO2.blocksAt ?_, hT.mono fun k hk => ?_⟩
    · rw [markBs_length, hl]
      exact Nat.le_refl _
    · rcases hk with rfl | ⟨i, hi, rfl⟩
      · exact ⟨hB, hK⟩
      · have := hH i hi
        exact ⟨by omega, this.2⟩

theorem heldChip_own (a : Option Addr) (n c : Nat) (out : List Bk) (hl : out.length = n) (w : World) (h : BlocksAt w a (markBs 1 out)) (hn : Lens 1048576 out) (h1 : kAfter 1 out ≤ 1125899906842624) :
    Calls Try.prog 54 #[.agg #[.slice a n c], .int .i64 1] w fun e w' => e = .returned (.int .i64 (kAfter 1 out)) ∧ Below w.heap.size w w' := by
  subst hl; exact heldChip_any a c out 1 w h hn (by omega) h1
end Go.Proofs.Ytalgkmellbamgaa

/- The program's Did. -/
namespace Go.Proofs.Ytalgkmellbamgaa
open Go.RowKit
set_option linter.unusedVariables false
set_option linter.unusedSimpArgs false

theorem OpStep.good {bs : List Bk} {x : Opn} {out : List Bk} (h : OpStep bs x out) : goodOp x := by
  rcases h with ⟨h, _⟩ | ⟨h, _, h2⟩
  · exact .inl h
  · exact .inr ⟨h, h2⟩
theorem Runs.good {xs : List Opn} : ∀ {bs out : List Bk}, Runs bs xs out → ∀ x ∈ xs, goodOp x := by
  induction xs with
  | nil => intro bs out _ x hx; cases hx
  | cons y ys ih =>
    rintro bs out ⟨mid, h1, h2⟩ x hx
    rcases List.mem_cons.1 hx with rfl | hx
    · exact h1.good
    · exact ih h2 x hx
theorem DidIs.lens {bs : List Bk} {xs : List Opn} {out : List Bk} {r : Bool} (h : DidIs bs xs out r) : Lens 1048576 out := by
  rcases h with ⟨_, h1, _, h2⟩ | ⟨_, rfl, _⟩
  · exact lens_of_ok (h2.ok h1)
  · exact ⟨by simp, fun b hb => by simp at hb⟩

set_option maxRecDepth 100000 in
set_option maxHeartbeats 4000000 in
theorem implDid_own (a : Option Addr) (c : Nat) (bs : List Bk) (n : Nat) (hl : bs.length = n) (la : Option Addr) (lc : Nat) (xs : List Opn) (q : Nat) (hq : xs.length = q) (hq20 : q ≤ 1048576) (w : World) (h : BlocksAt w a bs) (hn : Lens 9223372036854775807 bs) (hx : OpsAt w la xs) :
    Calls Try.prog 37 #[.agg #[.slice a n c], .slice la q lc] w fun e w' => ∃ a2 n2 c2 out r, e = .returned (.tuple #[.agg #[.slice a2 n2 c2], .bool r]) ∧ DidIs bs xs out r ∧ ChipOwn w' w.heap.size w'.heap.size a2 n2 c2 out ∧ Below w.heap.size w w' := by
  subst hl
  have hb0 : ∀ o1 o2, Below w.heap.size w ((w.alloc o1).alloc o2) := fun o1 o2 => ((Below.refl _ w).alloc (Nat.le_refl _) _).alloc (by simp) _
  have HX := hide hx
  have HQ := hide hq
  have HNO : Hid (∀ w', ¬ (ChipOk bs ∧ xs.length ≤ 20 ∧ ∃ o, Runs bs xs o) → Below w.heap.size w w' → ∃ a2 n2 c2 out r, Ending.returned (.tuple #[.agg #[.slice none 0 0], .bool false]) = .returned (.tuple #[.agg #[.slice a2 n2 c2], .bool r]) ∧ DidIs bs xs out r ∧ ChipOwn w' w.heap.size w'.heap.size a2 n2 c2 out ∧ Below w.heap.size w w') := fun w' hno hB => ⟨none, 0, 0, [], false, rfl, .inr ⟨rfl, rfl, hno⟩, ⟨rfl, .inl ⟨rfl, rfl, rfl⟩⟩, hB⟩
  clear hx hq
  go_enter Try.func37, Try.ntmps37
  go_wp2_with fail
  refine (cellsOf_any a c bs _ (h.below (hb0 _ _) (Nat.le_refl _)) hn).mono ?_
  rintro e w1 ⟨⟨m, r, rfl, hr, hm⟩, hB1⟩
  have hW1 : Below w.heap.size w w1 := (hb0 _ _).trans (hB1.mono (by simp; omega))
  have hs1 := hB1.size
  simp at hs1
  have hrow1 := (hB1.block (w.heap.size + 1) (by simp)).trans (heap_alloc2_new _ _ _)
  have hz1 := cell_of_one hrow1
  have hf1 := free_of_one hrow1
  have hl1 : w.heap.size + 1 < w1.heap.size := by omega
  have hsc := store_cc m w1
  have hAs := ccA_size m
  have HSZ := hide (sizeCC m)
  have HR := hide hr
  have HE : Hid (∀ (hok : ChipOk bs) (hct : m.count = bs.length) (hbs : ccBs m bs.length = bs) (g : Nat) (W : World), CoAt W (some ⟨g, 0, none⟩) xs → Calls Try.prog 92 #[.agg (ccA m), .slice (some ⟨g, 0, none⟩) q q] W fun e w' => AllRet bs xs e ∧ Below W.heap.size W w') := fun hok hct hbs g W hco => afterAll_any bs hok m hct hbs (some ⟨g, 0, none⟩) q xs q (unhide HQ) hq20 W hco
  have HM := hide hm
  obtain ⟨A, hA⟩ : ∃ A, A = ccA m := ⟨_, rfl⟩
  rw [← hA] at hsc hAs HSZ HE ⊢
  clear hr hm h hn hB1 hb0 hA hrow1
  cases r with
  | false =>
    have HN : Hid (¬ ChipOk bs) := fun hc => by have := (unhide HR).2 hc; cases this
    clear HE HM HR
    go_wp2
    refine bodyPost_ret (v := .tuple #[.agg #[.slice none 0 0], .bool false]) (by simp [results, Try.results37, go_sem, hz1, hl1, cell_alloc_lt]) rfl (unhide HNO _ (fun h => unhide HN h.1) ?_)
    repeat (first | exact hW1 | refine Below.drew ?_ | refine Below.alloc ?_ (by simp [World.setCell] <;> omega) _ | refine Below.setCell ?_ (by simp <;> omega) _)
  | true =>
    have hok := (unhide HR).1 rfl
    have hc12 := hok.count
    obtain ⟨hct, hbss⟩ := unhide HM rfl
    have HE1 := hide (unhide HE hok hct hbss)
    have HO := hide hok
    clear HE HM HR hok hct hbss
    by_cases hgt : 20 < q
    · have hgt' : (20 : Int) < (q : Int) := by omega
      clear HE1
      go_wp2
      refine bodyPost_ret (v := .tuple #[.agg #[.slice none 0 0], .bool false]) (by simp [results, Try.results37, go_sem, hz1, hl1, cell_alloc_lt]) rfl (unhide HNO _ (fun h => by have := h.2.1; have := unhide HQ; omega) ?_)
      repeat (first | exact hW1 | refine Below.drew ?_ | refine Below.alloc ?_ (by simp [World.setCell] <;> omega) _ | refine Below.setCell ?_ (by simp <;> omega) _)
    · have hle : ¬ (20 : Int) < (q : Int) := by omega
      have hb1 : ∀ o, Below w1.heap.size w1 (w1.alloc o) := fun o => (Below.refl _ w1).alloc (Nat.le_refl _) _
      go_wp2_with fail
      refine (opsOf_any la lc xs q (unhide HQ) hq20 _ ((unhide HX).below (hW1.trans ((hb1 _).mono hW1.size)) (Nat.le_refl _))).mono ?_
      rintro e w2 ⟨v, r2, rfl, h1, h2, hB2⟩
      have hs2 := hB2.size
      simp at hs2
      have hB12 : Below w1.heap.size w1 w2 := (hb1 _).trans (hB2.mono (by simp))
      have hW2 := hW1.trans (hB12.mono hW1.size)
      have hrow2 : w2.heap[w1.heap.size]? = some (.cells A 97 (0, 0)) := (hB2.block _ (by simp)).trans (Go.Deep.blk_alloc_new _ _)
      have hz2 := (hB12.cell (p := ⟨w.heap.size + 1, 0, none⟩) hl1).trans hz1
      have hf2 := (hB12.frozen (p := ⟨w.heap.size + 1, 0, none⟩) hl1).trans hf1
      have HROW2 := hide hrow2
      have H2 := hide h2
      have H1 := hide h1
      clear hB2 hB12 hW1 hz1 hf1 hrow2 h1 h2 hsc hb1
      cases r2 with
      | false =>
        have HN : Hid (¬ (ChipOk bs ∧ xs.length ≤ 20 ∧ ∃ o, Runs bs xs o)) := fun h => by
          obtain ⟨x, hxm, hbad⟩ := unhide H2 rfl
          obtain ⟨o, ho⟩ := h.2.2
          exact hbad (ho.good x hxm)
        clear HE1 H1 H2
        go_wp2
        refine bodyPost_ret (v := .tuple #[.agg #[.slice none 0 0], .bool false]) (by simp [results, Try.results37, go_sem, hz2]) rfl (unhide HNO _ (unhide HN) ?_)
        repeat (first | exact hW2 | refine Below.drew ?_ | refine Below.alloc ?_ (by simp [World.setCell] <;> omega) _ | refine Below.setCell ?_ (by simp <;> omega) _)
      | true =>
        obtain ⟨g, rfl, hco⟩ := unhide H1 rfl
        have HCO := hide hco
        clear H1 H2 hco
        go_wp2_with fail
        refine wp_load_row 97 _ rfl w1.heap.size rfl 97 A (0, 0) _ (unhide HROW2) Try.underlying97 rfl (unhide HSZ) ?_
        go_wp2_with fail
        refine (unhide HE1 g _ (unhide HCO)).mono ?_
        rintro e w3 ⟨⟨m2, r3, rfl, hyes, hno⟩, hB3⟩
        have hs3 := hB3.size
        have hl12 : w1.heap.size < w2.heap.size := by omega
        have hrow3 := (hB3.block w1.heap.size hl12).trans (unhide HROW2)
        have hz3 := (hB3.cell (p := ⟨w.heap.size + 1, 0, none⟩) (by show w.heap.size + 1 < _; omega)).trans hz2
        have hf3 := (hB3.frozen (p := ⟨w.heap.size + 1, 0, none⟩) (by show w.heap.size + 1 < _; omega)).trans hf2
        have hW3 := hW2.trans (hB3.mono hW2.size)
        have hst := store_row Try.prog w3 w1.heap.size 97 A (ccA m2) hrow3 (by rw [ccA_size, hAs]) (ccA_one m2)
        have hrow4 : (w3.setRow w1.heap.size (ccA m2)).heap[w1.heap.size]? = some (.cells (ccA m2) 97 (0, 0)) := setRow_heap _ _ _ _ _ _ hrow3
        have hz4 : (w3.setRow w1.heap.size (ccA m2)).cell? ⟨w.heap.size + 1, 0, none⟩ = some (.slice none 0 0) := (World.cell?_of_block (w := w3) (a := ⟨w.heap.size + 1, 0, none⟩) (setRow_other _ _ _ _ (by show w.heap.size + 1 ≠ _; omega))).trans hz3
        have hf4 : (w3.setRow w1.heap.size (ccA m2)).frozen? ⟨w.heap.size + 1, 0, none⟩ = false := by
          have : (w3.setRow w1.heap.size (ccA m2)).frozen? ⟨w.heap.size + 1, 0, none⟩ = w3.frozen? ⟨w.heap.size + 1, 0, none⟩ := by
            have e := setRow_other w3 w1.heap.size (w.heap.size + 1) (ccA m2) (by omega)
            simp [World.frozen?, e]
          exact this.trans hf3
        have hW4 := Below.setRow hW3 (g := w1.heap.size) (by omega) (ccA m2)
        have hs4 : (w3.setRow w1.heap.size (ccA m2)).heap.size = w3.heap.size := setRow_size _ _ _
        generalize w3.setRow w1.heap.size (ccA m2) = W4 at hst hrow4 hz4 hf4 hW4 hs4
        have HYES := hide hyes
        have HNOR := hide hno
        have HC := hide (fun (hct2 : m2.count = bs.length) W => chip_any m2 bs.length hct2 hc12.2 W)
        have hAs2 := ccA_size m2
        have HSZ2 := hide (sizeCC m2)
        obtain ⟨A2, hA2⟩ : ∃ A2, A2 = ccA m2 := ⟨_, rfl⟩
        rw [← hA2] at hst hrow4 HC hAs2 HSZ2 ⊢
        have HR4 := hide hrow4
        clear hA2 hrow4 hrow3 hB3 hz3 hf3 hW3 hz2 hf2 hW2 HE1 HROW2 HCO hyes hno
        cases r3 with
        | false =>
          have HN : Hid (¬ (ChipOk bs ∧ xs.length ≤ 20 ∧ ∃ o, Runs bs xs o)) := fun h => unhide HNOR rfl h.2.2
          clear HC HYES HNOR HR4
          go_wp2
          refine bodyPost_ret (v := .tuple #[.agg #[.slice none 0 0], .bool false]) (by simp [results, Try.results37, go_sem, hz4]) rfl (unhide HNO _ (unhide HN) ?_)
          repeat (first | exact hW4 | refine Below.drew ?_ | refine Below.alloc ?_ (by simp [World.setCell] <;> omega) _ | refine Below.setCell ?_ (by simp <;> omega) _)
        | true =>
          obtain ⟨hct2, hruns⟩ := unhide HYES rfl
          have HC1 := hide (unhide HC hct2)
          have HRUN := hide hruns
          clear HC HYES HNOR hct2 hruns
          go_wp2_with (refine wpList_load_row rfl 97 _ rfl w1.heap.size rfl 97 A2 (0, 0) _ (unhide HR4) Try.underlying97 rfl (unhide HSZ2) ?_)
          refine (unhide HC1 _).mono ?_
          rintro e w5 ⟨g5, H5, rfl, hg5, hO5, hB5⟩
          have hz5 := (hB5.cell (p := ⟨w.heap.size + 1, 0, none⟩) (by show w.heap.size + 1 < _; omega)).trans hz4
          have hf5 := (hB5.frozen (p := ⟨w.heap.size + 1, 0, none⟩) (by show w.heap.size + 1 < _; omega)).trans hf4
          have hW5 := hW4.trans (hB5.mono hW4.size)
          have HO5 := hide hO5
          clear hO5 hB5 hW4 hz4 hf4 HC1 HR4 hst
          go_wp2
          have hfin := (unhide HO5).setOther (a := ⟨w.heap.size + 1, 0, none⟩) (by simp; omega) (.slice (some ⟨g5, 0, none⟩) bs.length bs.length)
          refine bodyPost_ret (v := .tuple #[.agg #[.slice (some ⟨g5, 0, none⟩) bs.length bs.length], .bool true]) (by simp [results, Try.results37, go_sem, hz5]) rfl ⟨_, _, _, ccBs m2 bs.length, true, rfl, .inl ⟨rfl, unhide HO, by have := unhide HQ; omega, unhide HRUN⟩, ⟨ccBs_length _ _, .inr ⟨g5, H5, rfl, by omega, hfin.row.lt, fun i hi => ⟨by have := hfin.ahead i (by rw [ccBs_length]; exact hi); omega, hfin.lt (by rw [ccBs_length]; exact hi)⟩, hfin⟩⟩, hW5.setCell (by show w.heap.size ≤ w.heap.size + 1; omega) _⟩
end Go.Proofs.Ytalgkmellbamgaa

namespace Go.Proofs.Ytalgkmellbamgaa.fnDid
open Go.ChangeShapes Go.WideShapes Go.ChangeAt Go.RowKit
set_option linter.unusedVariables false
set_option linter.unusedSimpArgs false

theorem lens9 {bs : List Bk} (h : Lens 1048576 bs) : Lens 9223372036854775807 bs := ⟨by have := h.1; omega, fun b hb => by have := h.2 b hb; omega⟩
theorem chipOkI_n (a : Option Addr) (c : Nat) (bs : List Bk) (n : Nat) (hl : bs.length = n) (w : World) (h : BlocksAt w a bs) (hn : Lens 9223372036854775807 bs) :
    Calls Try.prog 16 #[.agg #[.slice a n c]] w fun e w' => RetIff (ChipOk bs) e ∧ Below w.heap.size w w' := by
  subst hl; exact implChipOk_any a c bs w h hn

/-- What a call has left: its answer in a variable, and that it was done. -/
def MadeC (wz : World) (out : List Bk) (v10 v11 : Value) (wx : World) : Prop :=
  ∃ P a0 n0 c0, v10 = .pointer (some ⟨P, 0, none⟩) ∧ v11 = .bool true ∧ wz.heap.size ≤ P ∧ P < wx.heap.size ∧ wx.cell? ⟨P, 0, none⟩ = some (.slice a0 n0 c0) ∧ ChipIn wx a0 n0 out ∧ Below wz.heap.size wz wx
theorem made_new {wz w3 : World} {out : List Bk} {a0 : Option Addr} {n0 c0 : Nat} (t : TypeId) (hZ : Below wz.heap.size wz w3) (hC : ChipIn w3 a0 n0 out) :
    MadeC wz out (.pointer (some ⟨w3.heap.size, 0, none⟩)) (.bool true) (w3.alloc (.cells #[.slice a0 n0 c0] t)) :=
  ⟨w3.heap.size, a0, n0, c0, rfl, rfl, hZ.size, by simp, by simp, hC.below ((Below.refl _ _).alloc (Nat.le_refl _) _), hZ.alloc hZ.size _⟩
theorem made_set {wz w3 : World} {out : List Bk} {a0 : Option Addr} {n0 c0 P : Nat} (hc : w3.cell? ⟨P, 0, none⟩ = some (.slice none 0 0)) (hP : wz.heap.size ≤ P) (hZ : Below wz.heap.size wz w3) (hC : ChipIn w3 a0 n0 out) :
    MadeC wz out (.pointer (some ⟨P, 0, none⟩)) (.bool true) (w3.setCell ⟨P, 0, none⟩ (.slice a0 n0 c0)) :=
  ⟨P, a0, n0, c0, rfl, rfl, hP, by simpa using World.block_lt_of_cell? _ _ hc, World.cell?_setCell_same' _ _ _ (by rw [hc]; rfl), ⟨hC.1, setApartB hc hC.2.1 _, hC.2.2⟩, hZ.setCell hP _⟩

theorem ops_take {w : World} {a : Option Addr} {xs : List Opn} (h : OpsAt w a xs) (k : Nat) : OpsAt w a (xs.take k) := by
  intro i x hx
  rw [List.getElem?_take] at hx
  by_cases e : i < k
  · rw [if_pos e] at hx; exact h i x hx
  · rw [if_neg e] at hx; cases hx

theorem ops_drop {w : World} {a : Option Addr} {xs : List Opn} (h : OpsAt w a xs) (k : Nat) : OpsAt w (a.map fun x => x.add (k * 6)) (xs.drop k) := by
  intro i x hx
  rw [List.getElem?_drop] at hx
  obtain ⟨b, o, rfl, h0, h1, h2, h3, h4, h5⟩ := h (k + i) x hx
  refine ⟨b, o + k * 6, ?_, ?_⟩
  · unfold Addr.add
    by_cases e : k * 6 = 0
    · simp [e]
    · simp [e]
  · have e : o + k * 6 + i * 6 = o + (k + i) * 6 := by omega
    rw [e]
    exact ⟨h0, h1, h2, h3, h4, h5⟩

theorem ops_none {w : World} {a : Option Addr} {xs : List Opn} (h : xs = []) : OpsAt w a xs := by
  subst h
  intro i x hx
  simp at hx

theorem ops_low {w : World} {a : Option Addr} {xs : List Opn} (h : OpsAt w a xs) (c k : Nat) : OpsAt w (if c = 0 then a else a.map fun x => x.add 0) (xs.take k) := by
  have e : (a.map fun x => x.add 0) = a := by cases a <;> simp [Addr.add]
  rw [e]
  split <;> exact ops_take h k

theorem ops_high {w : World} {a : Option Addr} {xs : List Opn} (h : OpsAt w a xs) (c k : Nat) (hc : xs.length ≤ c) : OpsAt w (if c = k then a else a.map fun x => x.add (k * 6)) (xs.drop k) := by
  split
  · exact ops_none (List.drop_eq_nil_of_le (by omega))
  · exact ops_drop h k

set_option maxRecDepth 100000 in
set_option maxHeartbeats 8000000 in
theorem walk (a : Option Addr) (n c : Nat) (w : World) (h : CodeAt w a n) (hn : n ≤ 9223372036854775807) :
    Calls Try.prog 8 #[.slice a n c] w fun e w' => e = .returned (.bool true) ∧ Below w.heap.size w w' := by
  have HC := hide h
  have hmix : Try.prog.follows .mixedOrders = true := by kernel_rfl
  clear h
  go_enter Try.func8, Try.ntmps8
  go_wp2_with fail
  refine (big_any a n c _ hn).mono ?_
  rintro e w0 ⟨rfl, rfl⟩
  by_cases hbig : (1048576 : Int) < (n : Int)
  · have hd : decide ((1048576 : Int) < (n : Int)) = true := by simpa using hbig
    rw [hd]
    clear hd
    go_wp2
    go_ret
    exact ⟨rfl, Below.refl _ _⟩
  · have hd : decide ((1048576 : Int) < (n : Int)) = false := by simpa using hbig
    have hbig' : n ≤ 1048576 := by omega
    rw [hd]
    clear hd hbig
    go_wp2_with fail
    refine (drawDid_any a n c _ (unhide HC) hbig').mono ?_
    rintro e w1 ⟨a1, n1, c1, bs, v, xs, rfl, hC1, ⟨la, lc, rfl, hX1, hlc, hx4⟩, hW1⟩
    obtain ⟨q, hq⟩ : ∃ q, q = xs.length := ⟨_, rfl⟩
    rw [← hq] at hlc hx4 ⊢
    have HQ := hide hq
    have hs1 := hW1.size
    have HC1 := hide hC1
    have HX1 := hide hX1
    have hb1 : ∀ o, Below w1.heap.size w1 (w1.alloc o) := fun o => (Below.refl _ w1).alloc (Nat.le_refl _) _
    clear HC hC1 hX1 hq
    go_wp2_with fail
    refine (implDid_own a1 c1 bs n1 (unhide HC1).1 la lc xs q (unhide HQ).symm (by omega) _ ((unhide HC1).below (hb1 _)).2.1 (lens9 (unhide HC1).2.2) ((unhide HX1).below (hb1 _) (Nat.le_refl _))).mono ?_
    rintro e w2 ⟨a2, n2, c2, out, r, rfl, hE2, hO2, hB2⟩
    have hs2 := hB2.size
    simp at hs2
    have hl12 : w1.heap.size < w2.heap.size := by omega
    have x2 : w2.cell? ⟨w1.heap.size, 0, none⟩ = some (.slice a1 n1 c1) := (hB2.cell (p := ⟨w1.heap.size, 0, none⟩) (by simp)).trans (by simp)
    have hB12 : Below w1.heap.size w1 w2 := (hb1 _).trans (hB2.mono (by simp))
    have HC2 := hide ((unhide HC1).below hB12)
    have HX2 := hide ((unhide HX1).below hB12 (Nat.le_refl _))
    have HD2 : Hid (ChipIn w2 a2 n2 out) := ⟨hO2.1, hO2.blocksAt, hE2.lens⟩
    have hW2 := hW1.trans (hB12.mono hW1.size)
    have hb2 : ∀ o, Below w2.heap.size w2 (w2.alloc o) := fun o => (Below.refl _ w2).alloc (Nat.le_refl _) _
    have HE2 := hide hE2
    clear hO2 hB2 hB12 HC1 HX1 hW1 hb1 hE2
    go_wp2_with fail
    refine (specDid_any a1 c1 bs n1 (unhide HC2).1 la lc xs q (unhide HQ).symm (by omega) _ ((unhide HC2).below (hb2 _)).2.1 (unhide HC2).2.2 ((unhide HX2).below (hb2 _) (Nat.le_refl _))).mono ?_
    rintro e w3 ⟨a3, n3, c3, out3, r3, rfl, hE3, hl3, hA3, hB3⟩
    obtain ⟨rfl, rfl⟩ := (unhide HE2).one hE3
    obtain rfl : n3 = n2 := hl3.symm.trans (unhide HD2).1
    have hs3 := hB3.size
    simp at hs3
    have d3 : w3.cell? ⟨w2.heap.size, 0, none⟩ = some (.slice a2 n3 c2) := (hB3.cell (p := ⟨w2.heap.size, 0, none⟩) (by simp)).trans (by simp)
    have x3 := (hB3.cell (p := ⟨w1.heap.size, 0, none⟩) (by simp; omega)).trans ((cell_alloc_lt _ _ _ _ (by omega)).trans x2)
    have hB23 : Below w2.heap.size w2 w3 := (hb2 _).trans (hB3.mono (by simp))
    have HC3 := hide ((unhide HC2).below hB23)
    have HX3 := hide ((unhide HX2).below hB23 (Nat.le_refl _))
    have HD3 := hide ((unhide HD2).below hB23)
    have HT3 : Hid (ChipIn w3 a3 n3 out) := ⟨hl3, hA3, (unhide HD2).2.2⟩
    have hW3 := hW2.trans (hB23.mono hW2.size)
    have hb3 : ∀ o, Below w3.heap.size w3 (w3.alloc o) := fun o => (Below.refl _ w3).alloc (Nat.le_refl _) _
    have hne : (r != r) = false := by simp
    have heq : (r == r) = true := by simp
    have hl13 : w1.heap.size < w3.heap.size := by omega
    have hl23 : w2.heap.size < w3.heap.size := by omega
    clear hA3 hB3 hB23 HC2 HX2 HD2 hW2 hb2 x2 hE3 hl3
    go_wp2_with fail
    refine (sameChip_same a2 a3 c2 c3 out n3 (unhide HD3).1 _ ((unhide HD3).below (hb3 _)).2.1 ((unhide HT3).below (hb3 _)).2.1 (unhide HD3).2.2).mono ?_
    rintro e w4 ⟨rfl, hB4⟩
    have hs4 := hB4.size
    simp at hs4
    have y4 : w4.cell? ⟨w3.heap.size, 0, none⟩ = some (.slice a3 n3 c3) := (hB4.cell (p := ⟨w3.heap.size, 0, none⟩) (by simp)).trans (by simp)
    have x4 := (hB4.cell (p := ⟨w1.heap.size, 0, none⟩) (by simp; omega)).trans ((cell_alloc_lt _ _ _ _ hl13).trans x3)
    have d4 := (hB4.cell (p := ⟨w2.heap.size, 0, none⟩) (by simp; omega)).trans ((cell_alloc_lt _ _ _ _ hl23).trans d3)
    have hB34 : Below w3.heap.size w3 w4 := (hb3 _).trans (hB4.mono (by simp))
    have HC4 := hide ((unhide HC3).below hB34)
    have HX4 := hide ((unhide HX3).below hB34 (Nat.le_refl _))
    have HD4 := hide ((unhide HD3).below hB34)
    have HT4 := hide ((unhide HT3).below hB34)
    have hW4 := hW3.trans (hB34.mono hW3.size)
    have hl14 : w1.heap.size < w4.heap.size := by omega
    have hl24 : w2.heap.size < w4.heap.size := by omega
    clear hB4 hB34 HC3 HX3 HD3 HT3 hW3 hb3 x3 d3
    cases r with
    | false =>
      clear HE2
      go_wp2_with fail
      refine (sameChip_same a2 a3 c2 c3 out n3 (unhide HD4).1 _ (unhide HD4).2.1 (unhide HT4).2.1 (unhide HD4).2.2).mono ?_
      rintro e w5 ⟨rfl, hB5⟩
      have hW5 := hW4.trans (hB5.mono hW4.size)
      clear hB5
      go_wp2
      go_ret
      exact ⟨rfl, hW5⟩
    | true =>
      have hK0 : 0 ≤ (n : Int) % ((q : Int) + 1) := Int.emod_nonneg _ (by omega)
      have hK1 : (n : Int) % ((q : Int) + 1) < (q : Int) + 1 := Int.emod_lt_of_pos _ (by omega)
      obtain ⟨kk, hkk⟩ := Int.eq_ofNat_of_zero_le hK0
      obtain ⟨hok, mid, hr1, hr2, hq20⟩ : ChipOk bs ∧ ∃ mid, Runs bs (xs.take kk) mid ∧ Runs mid (xs.drop kk) out ∧ q ≤ 20 := by
        rcases unhide HE2 with ⟨_, h1, h2, h3⟩ | ⟨h, _⟩
        · rw [← List.take_append_drop kk xs] at h3
          obtain ⟨mid, h4, h5⟩ := h3.split
          exact ⟨h1, mid, h4, h5, by omega⟩
        · cases h
      have hokm : ChipOk mid := hr1.ok hok
      have hoko : ChipOk out := hr2.ok hokm
      have hkq : kk ≤ q := by omega
      have hxl := (unhide HQ)
      have HM1 : Hid (∀ o r, DidIs bs (xs.take kk) o r → o = mid ∧ r = true) := fun o r h => h.one (.inl ⟨rfl, hok, by rw [List.length_take]; omega, hr1⟩)
      have HM2 : Hid (∀ o r, DidIs mid (xs.drop kk) o r → o = out ∧ r = true) := fun o r h => h.one (.inl ⟨rfl, hokm, by rw [List.length_drop]; omega, hr2⟩)
      have HOK := hide hoko
      have HT1 : Hid ((xs.take kk).length = kk) := by show _ = _; rw [List.length_take]; omega
      have HT2 : Hid ((xs.drop kk).length = q - kk) := by show _ = _; rw [List.length_drop]; omega
      clear hok hr1 hr2 hokm hoko hK0 hK1 HE2 y4 HT4 hxl hq20
      go_upto_region 9 with fail
      rw [hkk]
      have hki : (kk : Int) ≤ (q : Int) := by omega
      have hkc : (kk : Int) ≤ (lc : Int) := by omega
      have hk0 : (0 : Int) ≤ (kk : Int) := by omega
      clear hkk
      have HXT : Hid (∀ W, Below w4.heap.size w4 W → OpsAt W la (xs.take kk)) := fun W hW => ops_take ((unhide HX4).below hW (Nat.le_refl _)) kk
      go_cut [10, 11] (fun v10 v11 wx => MadeC w4 mid v10 v11 wx)
      case first =>
        go_region_with (first
          | (go_at_call 37
             refine (implDid_own a1 c1 bs n1 (unhide HC4).1 _ _ (xs.take kk) _ (unhide HT1) (by omega) _ (by first | exact ((unhide HC4).below (Below.refl _ w4).drew).2.1 | exact ((unhide HC4).below (((Below.refl w4.heap.size w4).alloc (Nat.le_refl _) _).drew)).2.1) (lens9 (unhide HC4).2.2) (by first | exact (unhide HXT) _ (Below.refl _ w4).drew | exact (unhide HXT) _ (((Below.refl w4.heap.size w4).alloc (Nat.le_refl _) _).drew))).mono ?_
             rintro e wn ⟨an, nn, cn, on, rn, rfl, hEn, hOn, hBn⟩
             obtain ⟨e5, e6⟩ := unhide HM1 _ _ hEn
             subst e6
             have HDn : Hid (ChipIn wn an nn mid) := by
               show ChipIn wn an nn mid
               rw [← e5]
               exact ⟨hOn.1, hOn.blocksAt, hEn.lens⟩
             have HBn : Hid (Below w4.heap.size w4 wn) := by first | exact (Below.refl _ w4).drew.trans hBn | exact (((Below.refl w4.heap.size w4).alloc (Nat.le_refl _) _).drew).trans (hBn.mono (by simp))
             try have hcb : wn.cell? ⟨w4.heap.size, 0, none⟩ = some (.slice none 0 0) := by first | (rw [hBn.cell (p := ⟨w4.heap.size, 0, none⟩) (by simp)]; simp; done)
             try have hfb : wn.frozen? ⟨w4.heap.size, 0, none⟩ = false := by first | (rw [hBn.frozen (p := ⟨w4.heap.size, 0, none⟩) (by simp)]; simp; done)
             clear hEn hOn hBn e5))
        all_goals (
          go_wp2_with fail
          go_meet
          first
            | exact made_new _ (unhide HBn) (unhide HDn)
            | exact made_set hcb (Nat.le_refl _) (unhide HBn) (unhide HDn))
      case rest =>
        obtain ⟨P10, a5, n5, c5, rfl, rfl, hP10, hPl, p5, hC5, hB45⟩ := hcut
        rename World => w5
        have hs5 := hB45.size
        have d5 := (hB45.cell (p := ⟨w2.heap.size, 0, none⟩) hl24).trans d4
        have HD5 := hide ((unhide HD4).below hB45)
        have HX5 := hide ((unhide HX4).below hB45 (Nat.le_refl _))
        have HC5 := hide hC5
        have hW5 := hW4.trans (hB45.mono hW4.size)
        have hl25 : w2.heap.size < w5.heap.size := by omega
        have HXD : Hid (∀ W, Below w5.heap.size w5 W → OpsAt W (if lc = kk then la else la.map fun x => x.add (kk * 6)) (xs.drop kk)) := fun W hW => ops_high ((unhide HX5).below hW (Nat.le_refl _)) lc kk (by have := unhide HQ; omega)
        clear hB45 hC5 HC4 HX4 HD4 hW4 x4 d4 HXT
        go_upto_region 10 with fail
        go_cut [12, 13] (fun v12 v13 wx => MadeC w5 out v12 v13 wx)
        case first =>
          go_region_with (first
            | (go_at_call 37
               generalize hE : (if lc = kk then la else Option.map (fun x => x.add (kk * 6)) la) = E
               have HXE : Hid (∀ W, Below w5.heap.size w5 W → OpsAt W E (xs.drop kk)) := by
                 show ∀ W, Below w5.heap.size w5 W → OpsAt W E (xs.drop kk)
                 rw [← hE]
                 exact unhide HXD
               clear hE
               refine (implDid_own a5 c5 mid n5 (unhide HC5).1 _ _ (xs.drop kk) _ (unhide HT2) (by omega) _ (by first | exact ((unhide HC5).below (Below.refl _ w5).drew).2.1 | exact ((unhide HC5).below (((Below.refl w5.heap.size w5).alloc (Nat.le_refl _) _).drew)).2.1) (lens9 (unhide HC5).2.2) (by first | exact (unhide HXE) _ (Below.refl _ w5).drew | exact (unhide HXE) _ (((Below.refl w5.heap.size w5).alloc (Nat.le_refl _) _).drew))).mono ?_
               rintro e wn ⟨an, nn, cn, on, rn, rfl, hEn, hOn, hBn⟩
               obtain ⟨e5, e6⟩ := unhide HM2 _ _ hEn
               subst e6
               have HDn : Hid (ChipIn wn an nn out) := by
                 show ChipIn wn an nn out
                 rw [← e5]
                 exact ⟨hOn.1, hOn.blocksAt, hEn.lens⟩
               have HBn : Hid (Below w5.heap.size w5 wn) := by first | exact (Below.refl _ w5).drew.trans hBn | exact (((Below.refl w5.heap.size w5).alloc (Nat.le_refl _) _).drew).trans (hBn.mono (by simp))
               try have hcb : wn.cell? ⟨w5.heap.size, 0, none⟩ = some (.slice none 0 0) := by first | (rw [hBn.cell (p := ⟨w5.heap.size, 0, none⟩) (by simp)]; simp; done)
               try have hfb : wn.frozen? ⟨w5.heap.size, 0, none⟩ = false := by first | (rw [hBn.frozen (p := ⟨w5.heap.size, 0, none⟩) (by simp)]; simp; done)
               clear hEn hOn hBn e5))
          all_goals (
            go_wp2_with fail
            go_meet
            first
              | exact made_new _ (unhide HBn) (unhide HDn)
              | exact made_set hcb (Nat.le_refl _) (unhide HBn) (unhide HDn))
        case rest =>
          obtain ⟨P12, a6, n6, c6, rfl, rfl, hP12, hPl2, p6, hC6, hB56⟩ := hcut
          rename World => w6
          have hs6 := hB56.size
          have d6 := (hB56.cell (p := ⟨w2.heap.size, 0, none⟩) hl25).trans d5
          have HD6 := hide ((unhide HD5).below hB56)
          have HC6 := hide hC6
          obtain rfl : n6 = n3 := hC6.1.symm.trans (unhide HD5).1
          have hW6 := hW5.trans (hB56.mono hW5.size)
          clear hB56 hC6 HC5 HX5 HD5 hW5 d5 p5 HXD
          go_wp2_with fail
          refine (sameChip_same a6 a2 c6 c2 out n6 (unhide HC6).1 _ (unhide HC6).2.1 (unhide HD6).2.1 (unhide HD6).2.2).mono ?_
          rintro e w7 ⟨rfl, hB7⟩
          have hs7 := hB7.size
          have d7 := (hB7.cell (p := ⟨w2.heap.size, 0, none⟩) (by show w2.heap.size < _; omega)).trans d6
          have HD7 := hide ((unhide HD6).below hB7)
          have hW7 := hW6.trans (hB7.mono hW6.size)
          clear hB7 HC6 HD6 hW6 d6 p6
          go_wp2_with fail
          refine (chipOkI_n a2 c2 out n6 (unhide HD7).1 _ (unhide HD7).2.1 (lens9 (unhide HD7).2.2)).mono ?_
          rintro e w8 ⟨⟨r8, rfl, hr8⟩, hB8⟩
          obtain rfl : r8 = true := hr8.2 (unhide HOK)
          have hW8 := hW7.trans (hB8.mono hW7.size)
          clear hB8 hr8 HD7 hW7 d7
          go_wp2
          go_ret
          exact ⟨rfl, hW8⟩

set_option maxRecDepth 100000 in
theorem lifted (os : Os) (started : os.Started) (H : Type) (enc : TypeId × Value → H) :
    ReturnsInHanded {} Try.checked os 8 .any (Rows.fnDidSpec.pre6 enc Try.prog Try.f8 Rows.fnDidRow.domain false) (Rows.fnDidSpec.post enc Try.prog Try.f8 false true false false) := by
  refine returnsInHanded_of_change (C := Try.checked) own started (by kernel_rfl) Try.func8
    (ChangeSpec.witness6 (enc := enc) (C := Try.checked) false ⟨#[], #[.slice none 0 0], []⟩ 8 (by kernel_rfl) (by kernel_rfl) (by kernel_rfl) (by kernel_rfl)) ?_
  intro W base args ds gs before hval0 hW hcnd _
  have hval : ∀ (j : Nat) t v, Try.f8.params[j]? = some t → args[j]? = some v → Value.okWide Try.prog W .any base t v := hval0
  have hW' := hW
  obtain ⟨p, q, hA0, hV, rfl, hfz, hnd⟩ := hW
  have hA : DataW.TrodAll enc Try.prog W 0 (fun _ => true) true Try.f8.params.toList args.toList ds p := hA0
  rw [Try.params8] at hA hval
  obtain ⟨v0, vs0, d0, ds0, p0, q0, hargs, rfl, rfl, h0, r0⟩ := trodAll_cons hA
  obtain ⟨rfl, rfl, rfl⟩ := trodAll_nil r0
  obtain rfl : args = #[v0] := by cases args; simp_all
  obtain ⟨rfl, rfl⟩ := trodVars_none hV
  have k0 := h0
  have lt0 : ∀ x ∈ p0, x.block < W.heap.size := by obtain ⟨m, hm⟩ := k0; exact DataW.trod_lt m _ _ _ hm
  obtain ⟨a, n, c, rfl, hL, hlen⟩ := open_code Try.underlying22 Try.underlying5 (by kernel_rfl) (hval 0 22 v0 rfl rfl) h0

  clear hA0 hval0
  refine (walk a n c W hL hlen).mono fun e W' ⟨he, bel⟩ => ?_
  subst he
  exact ⟨_, rfl, _, _, _, [], _, [], hW', trodAll_mk1 (shut_bool Try.underlying4 _), (trodAll_cons_mk (Below.trod laidOut (by kernel_rfl) (of_decide_eq_true (by kernel_rfl)) k0 bel lt0) trodAll_mk0), rfl, bel.frame _, fun h => by cases h⟩

theorem over : Rows.fnDidRow.holds Try.pinned (OpenSpec.ofChange Rows.fnDidSpec) :=
  OpenClaim.holds_of_wide 8 Try.f8 rfl rfl rfl rfl rfl rfl rfl ⟨rfl, rfl, rfl, rfl, rfl⟩ rfl rfl rfl rfl rfl (by kernel_rfl) Try.func8 (by kernel_rfl)
    (of_decide_eq_true (by kernel_rfl)) (by unfold Func.isWrapper; first | (rw [if_pos (by decide +kernel)]; kernel_rfl) | (rw [if_neg (by decide +kernel)]; exact ⟨rfl, rfl⟩))
    (fun os started H enc _ => lifted os started H enc)

end Go.Proofs.Ytalgkmellbamgaa.fnDid
namespace Go.Proofs.Ytalgkmellbamgaa
theorem didP_holds : Rows.FnDidSaid := fnDid.over
end Go.Proofs.Ytalgkmellbamgaa
