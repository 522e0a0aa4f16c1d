/- 9 texts in one. -/
import Derived.Test.YtjgcjeaplckbbaaGreatG16
import Derived.WalkKit
import Derived.Outline
import Derived.Deep.AppendLies
import Derived.Test.YtjgcjeaplckbbaaGreatG02
import Derived.Test.YtjgcjeaplckbbaaGreatG15
import Derived.Test.YtjgcjeaplckbbaaGreatG14
import Derived.Deep.MidRow
import Derived.Deep.RegionHeld3
import Derived.Deep.DeepCutAuto
import Derived.Test.YtjgcjeaplckbbaaGreatG29
import Derived.Test.YtjgcjeaplckbbaaGreatG25
import Derived.Test.YtjgcjeaplckbbaaGreatG27
import Derived.BigQuiet
import Derived.Shelf.Strings.Repeat
import Derived.Test.YtjgcjeaplckbbaaGreatProg
import Derived.Test.YtjgcjeaplckbbaaGreatG23

/- A list of numbers is copied: slices.Clone. -/
namespace Go.Proofs.YtjgcjeaplckbbaaGreat
open Go.RowKit
set_option linter.unusedVariables false
set_option linter.unusedSimpArgs false

theorem equalIn_nil {P : Program} {t e : TypeId} (d : Nat) (x : Addr) (n c : Nat) (ht : P.underlying t = some (.slice e)) (W : World) : (Op.equalIn (d + 1) t (.slice (some x) n c) (.slice none 0 0)).run P W = .ok false W := by
  simp [Op.equalIn, run_underlying ht]
theorem nil_ne {P : Program} {t e : TypeId} (x : Addr) (n c : Nat) (ht : P.underlying t = some (.slice e)) (W : World) : (binOp BinOp.eql t (.slice (some x) n c) (.slice none 0 0)).run P W = .ok (.bool false) W := by
  have h := equalIn_nil 9999 x n c ht W
  simp only [binOp]
  simp [Op.equal, Op.maxDepth, h]

end Go.Proofs.YtjgcjeaplckbbaaGreat

/- A member is copied, and made of cells: the program's copied and memberOf. -/
namespace Go.Proofs.YtjgcjeaplckbbaaGreat
open Go.RowKit
set_option linter.unusedVariables false
set_option linter.unusedSimpArgs false

theorem touch4 (w : World) (P : Nat) (v0 v1 v2 v3 : Value) : Touch (fun k => k = P) w ((((w.setCell ⟨P, 0, none⟩ v0).setCell ⟨P, 1, none⟩ v1).setCell ⟨P, 2, none⟩ v2).setCell ⟨P, 3, none⟩ v3) := by
  have h0 : Touch (fun k => k = P) w w := Touch.refl _ _
  have h1 := Touch.setCell (p := ⟨P, 0, none⟩) h0 rfl v0
  have h2 := Touch.setCell (p := ⟨P, 1, none⟩) h1 rfl v1
  have h3 := Touch.setCell (p := ⟨P, 2, none⟩) h2 rfl v2
  exact Touch.setCell (p := ⟨P, 3, none⟩) h3 rfl v3
theorem FtlOwn.lower {w : World} {B B' T : Nat} {a : Option Addr} {n c : Nat} {out : List Bk} {ma : Option Addr} {mn : Nat} {L : List Int} (h : FtlOwn w B T a n c out ma mn L) (hB : B' ≤ B) : FtlOwn w B' T a n c out ma mn L := by
  obtain ⟨h0, h1, h2, h6, C, K, h3, h4, h5⟩ := h
  refine ⟨h0, h1, ?_, h6, C, K, by omega, h4, h5⟩
  rcases h2 with h2 | ⟨g, q1, q2, q3⟩
  · exact .inl h2
  · exact .inr ⟨g, q1, by omega, q3⟩
theorem FtlOwn.higher {w : World} {B T T' : Nat} {a : Option Addr} {n c : Nat} {out : List Bk} {ma : Option Addr} {mn : Nat} {L : List Int} (h : FtlOwn w B T a n c out ma mn L) (hT : T ≤ T') : FtlOwn w B T' a n c out ma mn L := by
  obtain ⟨h0, h1, h2, h6, C, K, h3, h4, h5, h7⟩ := h
  exact ⟨h0, h1, h2, fun g hg => by have := h6 g hg; omega, C, K, h3, h4, by omega, h7⟩
/-- A chip and a map, each made by a call of its own. -/
theorem FtlOwn.made {w : World} {B C K : Nat} {g : Nat} {H : Nat → Nat} {n : Nat} {out : List Bk} {v : Value} {mn : Nat} {L : List Int} (hl : out.length = n) (hO : OwnBlocks w 108 51 g H n out) (hBC : B ≤ C) (hg : C ≤ g) (hgK : g < K) (hH : ∀ i, i < n → H i < K) (hK : K ≤ w.heap.size)
    (hI : OwnInts w 2 B v L) (hL : L.length = mn) (hap : ∀ k, v.ownBlock = some k → ¬ (C ≤ k ∧ k < K)) : ∃ ma mc, v = .slice ma mn mc ∧ FtlOwn w B w.heap.size (some ⟨g, 0, none⟩) n n out ma mn L := by
  obtain ⟨ma, mc, rfl, hIA, hM⟩ := hI.form
  rw [hL] at hM
  refine ⟨ma, mc, by rw [hL], hL, hIA, hM, fun k hk => ?_, C, K, hBC, ⟨hl, .inr ⟨g, H, rfl, hg, hgK, fun i hi => ⟨hO.ahead i (by omega), hH i hi⟩, hO⟩⟩, hK, fun k hk => hap k (by rw [hk]; rfl)⟩
  rcases hM with ⟨e, _⟩ | ⟨k', e, _, h3, _⟩
  · rw [e] at hk; cases hk
  · rw [hk] at e; cases e; exact h3

end Go.Proofs.YtjgcjeaplckbbaaGreat

/- A member is made of cells: the program's memberOf. -/
namespace Go.Proofs.YtjgcjeaplckbbaaGreat
open Go.RowKit
set_option linter.unusedVariables false
set_option linter.unusedSimpArgs false

set_option maxRecDepth 100000 in
set_option maxHeartbeats 2000000 in
theorem memberOf_any (m : CC) (bs : List Bk) (n : Nat) (hl : bs.length = n) (hct : m.count = n) (hbs : ccBs m n = bs) (hok : ChipOk bs) (seq o : Int) (w : World) :
    Calls Tryz.prog 31 #[.agg (ccA m), .int .i64 seq, .int .i64 o] w fun e w' => ∃ g ma2 mn2 mc2 L' r, e = .returned (.agg #[.slice (some ⟨g, 0, none⟩) n n, .slice ma2 mn2 mc2, .int .i64 seq, .int .i64 o]) ∧ MapIs bs r L' ∧ FtlOwn w' w.heap.size w'.heap.size (some ⟨g, 0, none⟩) n n bs ma2 mn2 L' ∧ Below w.heap.size w w' := by
  have hc := hok.count
  have hn4 : 4 ≤ n ∧ n ≤ 12 := by omega
  have HNP := hide (fun W => newestPlaces_any m n hct hn4.1 hn4.2 bs hl hbs hok W)
  have HCH := hide (fun W => chip_any m n hct hn4.2 W)
  rw [hbs] at HCH
  have HSZ := hide (sizeCC m)
  have HLB := hide hl
  obtain ⟨A, hA⟩ : ∃ A, A = ccA m := ⟨_, rfl⟩
  rw [← hA] at HNP HCH HSZ ⊢
  clear hA hok hbs hct hl hc
  go_enter Tryz.func31, Tryz.ntmps31
  obtain ⟨w0, hw0⟩ : ∃ w0, w0 = (w.alloc (.cells A 57)).alloc (.cells #[.slice none 0 0, .slice none 0 0, .int .i64 0, .int .i64 0] 29) := ⟨_, rfl⟩
  have hs0 : w0.heap.size = w.heap.size + 1 + 1 := by rw [hw0]; simp
  have hB0 : Below w.heap.size w w0 := by rw [hw0]; exact ((Below.refl _ w).alloc (Nat.le_refl _) _).alloc (by simp) _
  have hR0 : w0.heap[w.heap.size]? = some (.cells A 57 (0, 0)) := by rw [hw0]; exact (Below.heap_alloc _ _ _ (by simp)).trans (World.alloc_heap_new _ _)
  have hr0 : w0.heap[w.heap.size + 1]? = some (.cells #[.slice none 0 0, .slice none 0 0, .int .i64 0, .int .i64 0] 29 (0, 0)) := by rw [hw0]; exact heap_alloc2_new _ _ _
  have HR0 := hide hR0
  have HZ0 := hide hr0
  have HS0 := hide hs0
  have hsl : w.heap.size + 1 < w0.heap.size := by omega
  clear hR0 hr0 hs0
  go_upto_region 1 with fail
  rw [← hw0]
  clear hw0
  go_wp2_with (refine wpList_load_row rfl 57 _ rfl w.heap.size rfl 57 A (0, 0) _ (unhide HR0) Tryz.underlying57 rfl (unhide HSZ) ?_)
  refine (unhide HNP _).mono ?_
  rintro e w1 ⟨⟨v, r, L', rfl, hMI, hv⟩, hB1⟩
  have hs1 := hB1.size
  have HR1 := hide ((hB1.block w.heap.size (by omega)).trans (unhide HR0))
  have HZ1 := hide ((hB1.block (w.heap.size + 1) hsl).trans (unhide HZ0))
  have HV := hide hv
  have HMI := hide hMI
  have HB1 := hide hB1
  have HVS : Hid (∃ x y z, v = .slice x y z) := by obtain ⟨x, y, e, _⟩ := hv.form; exact ⟨x, _, y, e⟩
  obtain ⟨vx, vy, vz, rfl⟩ := unhide HVS
  clear hv hMI hB1 HNP HR0 HZ0
  go_wp2_with (refine wpList_load_row rfl 57 _ rfl w.heap.size rfl 57 A (0, 0) _ (unhide HR1) Tryz.underlying57 rfl (unhide HSZ) ?_)
  refine (unhide HCH _).mono ?_
  rintro e wF ⟨g, H, rfl, hg, hO, hB⟩
  have hsF := hB.size
  have HBF := hide ((unhide HB1).trans (hB.mono hs1))
  have hrF := (hB.block (w.heap.size + 1) (by omega)).trans (unhide HZ1)
  obtain ⟨ma2, mc2, e9, hF2⟩ := FtlOwn.made (B := w0.heap.size) (C := w1.heap.size) (K := wF.heap.size) (mn := L'.length) (unhide HLB) hO hs1 hg hO.row.lt (fun i hi => hO.lt (by rw [unhide HLB]; exact hi)) (Nat.le_refl _) ((unhide HV).kept hB) rfl (fun k hk => by have := ((unhide HV).lt k hk).2; omega)
  injection e9 with x1 x2 x3
  subst x1 x2 x3
  have HF2 := hide hF2
  have z0 := cell_of_row _ _ 0 _ _ _ hrF
  have z1 := cell_of_row _ _ 1 _ _ _ hrF
  have z2 := cell_of_row _ _ 2 _ _ _ hrF
  have z3 := cell_of_row _ _ 3 _ _ _ hrF
  simp at z0 z1 z2 z3
  have f0 := frozen_of_row _ _ 0 _ _ hrF
  have f1 := frozen_of_row _ _ 1 _ _ hrF
  have f2 := frozen_of_row _ _ 2 _ _ hrF
  have f3 := frozen_of_row _ _ 3 _ _ hrF
  obtain ⟨mn2, hmn2⟩ : ∃ mn2, mn2 = L'.length := ⟨_, rfl⟩
  rw [← hmn2] at HF2 ⊢
  clear hmn2
  have hT5 := touch4 wF (w.heap.size + 1) (.slice (some ⟨g, 0, none⟩) n n) (.slice vx mn2 vz) (.int .i64 seq) (.int .i64 o)
  obtain ⟨W5, hW5⟩ : ∃ W5, W5 = (((wF.setCell ⟨w.heap.size + 1, 0, none⟩ (.slice (some ⟨g, 0, none⟩) n n)).setCell ⟨w.heap.size + 1, 1, none⟩ (.slice vx mn2 vz)).setCell ⟨w.heap.size + 1, 2, none⟩ (.int .i64 seq)).setCell ⟨w.heap.size + 1, 3, none⟩ (.int .i64 o) := ⟨_, rfl⟩
  have y0 : W5.cell? ⟨w.heap.size + 1, 0, none⟩ = some (.slice (some ⟨g, 0, none⟩) n n) := by rw [hW5, World.cell?_setCell_other _ _ _ _ (by simp), World.cell?_setCell_other _ _ _ _ (by simp), World.cell?_setCell_other _ _ _ _ (by simp), World.cell?_setCell_same' _ _ _ (by rw [z0]; rfl)]
  have y1 : W5.cell? ⟨w.heap.size + 1, 1, none⟩ = some (.slice vx mn2 vz) := by rw [hW5, World.cell?_setCell_other _ _ _ _ (by simp), World.cell?_setCell_other _ _ _ _ (by simp), World.cell?_setCell_same' _ _ _ (by rw [World.cell?_setCell_other _ _ _ _ (by simp), z1]; rfl)]
  have y2 : W5.cell? ⟨w.heap.size + 1, 2, none⟩ = some (.int .i64 seq) := by rw [hW5, World.cell?_setCell_other _ _ _ _ (by simp), World.cell?_setCell_same' _ _ _ (by rw [World.cell?_setCell_other _ _ _ _ (by simp), World.cell?_setCell_other _ _ _ _ (by simp), z2]; rfl)]
  have y3 : W5.cell? ⟨w.heap.size + 1, 3, none⟩ = some (.int .i64 o) := by rw [hW5, World.cell?_setCell_same' _ _ _ (by rw [World.cell?_setCell_other _ _ _ _ (by simp), World.cell?_setCell_other _ _ _ _ (by simp), World.cell?_setCell_other _ _ _ _ (by simp), z3]; rfl)]
  have hs5 : W5.heap.size = wF.heap.size := by rw [hW5]; simp [World.setCell]
  rw [← hW5] at hT5
  have HFF : Hid (FtlOwn W5 w.heap.size W5.heap.size (some ⟨g, 0, none⟩) n n bs vx mn2 L') := by rw [hs5]; exact ((unhide HF2).touch hT5 (fun k hk => by rw [hk]; exact hsl)).lower (by omega)
  have hWW : Below w.heap.size w W5 := (hB0.trans ((unhide HBF).mono hB0.size)).trans (hT5.below (by omega) (fun k hk => by rw [hk]; omega))
  clear hT5 hF2 hO hB hrF HR1 HZ1 HCH
  go_wp2
  try rw [← hW5]
  exact bodyPost_ret (v := .agg #[.slice (some ⟨g, 0, none⟩) n n, .slice vx mn2 vz, .int .i64 seq, .int .i64 o]) (by simp [results, Tryz.results31, go_sem, y0, y1, y2, y3]) rfl ⟨g, vx, mn2, vz, L', r, rfl, unhide HMI, unhide HFF, hWW⟩
end Go.Proofs.YtjgcjeaplckbbaaGreat

/- The program's Did. -/
namespace Go.Proofs.YtjgcjeaplckbbaaGreat
open Go.RowKit
set_option linter.unusedVariables false
set_option linter.unusedSimpArgs false

theorem OpStep.good {bs : List Bk} {x : Opn} {out : List Bk} (h : OpStep bs x out) : goodOp x := by
  rcases h with ⟨h, _⟩ | ⟨h, _, h2⟩
  · exact .inl h
  · exact .inr ⟨h, h2⟩
theorem Runs.good {xs : List Opn} : ∀ {bs out : List Bk}, Runs bs xs out → ∀ x ∈ xs, goodOp x := by
  induction xs with
  | nil => intro bs out _ x hx; cases hx
  | cons y ys ih =>
    rintro bs out ⟨mid, h1, h2⟩ x hx
    rcases List.mem_cons.1 hx with rfl | hx
    · exact h1.good
    · exact ih h2 x hx
theorem DidIs.lens {bs : List Bk} {xs : List Opn} {out : List Bk} {r : Bool} (h : DidIs bs xs out r) : Lens 1048576 out := by
  rcases h with ⟨_, h1, _, h2⟩ | ⟨_, rfl, _⟩
  · exact lens_of_ok (h2.ok h1)
  · exact ⟨by simp, fun b hb => by simp at hb⟩

set_option maxRecDepth 100000 in
set_option maxHeartbeats 4000000 in
theorem implDid_own (a : Option Addr) (c : Nat) (bs : List Bk) (n : Nat) (hl : bs.length = n) (la : Option Addr) (lc : Nat) (xs : List Opn) (q : Nat) (hq : xs.length = q) (hq20 : q ≤ 1048576) (w : World) (h : BlocksAt w a bs) (hn : Lens 9223372036854775807 bs) (hx : OpsAt w la xs) :
    Calls Tryz.prog 8 #[.agg #[.slice a n c], .slice la q lc] w fun e w' => ∃ a2 n2 c2 out r, e = .returned (.tuple #[.agg #[.slice a2 n2 c2], .bool r]) ∧ DidIs bs xs out r ∧ ChipOwn w' w.heap.size w'.heap.size a2 n2 c2 out ∧ Below w.heap.size w w' := by
  subst hl
  have hb0 : ∀ o1 o2, Below w.heap.size w ((w.alloc o1).alloc o2) := fun o1 o2 => ((Below.refl _ w).alloc (Nat.le_refl _) _).alloc (by simp) _
  have HX := hide hx
  have HQ := hide hq
  have HNO : Hid (∀ w', ¬ (ChipOk bs ∧ xs.length ≤ 20 ∧ ∃ o, Runs bs xs o) → Below w.heap.size w w' → ∃ a2 n2 c2 out r, Ending.returned (.tuple #[.agg #[.slice none 0 0], .bool false]) = .returned (.tuple #[.agg #[.slice a2 n2 c2], .bool r]) ∧ DidIs bs xs out r ∧ ChipOwn w' w.heap.size w'.heap.size a2 n2 c2 out ∧ Below w.heap.size w w') := fun w' hno hB => ⟨none, 0, 0, [], false, rfl, .inr ⟨rfl, rfl, hno⟩, ⟨rfl, .inl ⟨rfl, rfl, rfl⟩⟩, hB⟩
  clear hx hq
  go_enter Tryz.func8, Tryz.ntmps8
  go_wp2_with fail
  refine (cellsOf_any a c bs _ (h.below (hb0 _ _) (Nat.le_refl _)) hn).mono ?_
  rintro e w1 ⟨⟨m, r, rfl, hr, hm⟩, hB1⟩
  have hW1 : Below w.heap.size w w1 := (hb0 _ _).trans (hB1.mono (by simp; omega))
  have hs1 := hB1.size
  simp at hs1
  have hrow1 := (hB1.block (w.heap.size + 1) (by simp)).trans (heap_alloc2_new _ _ _)
  have hz1 := cell_of_one hrow1
  have hf1 := free_of_one hrow1
  have hl1 : w.heap.size + 1 < w1.heap.size := by omega
  have hsc := store_cc m w1
  have hAs := ccA_size m
  have HSZ := hide (sizeCC m)
  have HR := hide hr
  have HE : Hid (∀ (hok : ChipOk bs) (hct : m.count = bs.length) (hbs : ccBs m bs.length = bs) (g : Nat) (W : World), CoAt W (some ⟨g, 0, none⟩) xs → Calls Tryz.prog 28 #[.agg (ccA m), .slice (some ⟨g, 0, none⟩) q q] W fun e w' => AllRet bs xs e ∧ Below W.heap.size W w') := fun hok hct hbs g W hco => afterAll_any bs hok m hct hbs (some ⟨g, 0, none⟩) q xs q (unhide HQ) hq20 W hco
  have HM := hide hm
  obtain ⟨A, hA⟩ : ∃ A, A = ccA m := ⟨_, rfl⟩
  rw [← hA] at hsc hAs HSZ HE ⊢
  clear hr hm h hn hB1 hb0 hA hrow1
  cases r with
  | false =>
    have HN : Hid (¬ ChipOk bs) := fun hc => by have := (unhide HR).2 hc; cases this
    clear HE HM HR
    go_wp2
    refine bodyPost_ret (v := .tuple #[.agg #[.slice none 0 0], .bool false]) (by simp [results, Tryz.results8, go_sem, hz1, hl1, cell_alloc_lt]) rfl (unhide HNO _ (fun h => unhide HN h.1) ?_)
    repeat (first | exact hW1 | refine Below.drew ?_ | refine Below.alloc ?_ (by simp [World.setCell] <;> omega) _ | refine Below.setCell ?_ (by simp <;> omega) _)
  | true =>
    have hok := (unhide HR).1 rfl
    have hc12 := hok.count
    obtain ⟨hct, hbss⟩ := unhide HM rfl
    have HE1 := hide (unhide HE hok hct hbss)
    have HO := hide hok
    clear HE HM HR hok hct hbss
    by_cases hgt : 20 < q
    · have hgt' : (20 : Int) < (q : Int) := by omega
      clear HE1
      go_wp2
      refine bodyPost_ret (v := .tuple #[.agg #[.slice none 0 0], .bool false]) (by simp [results, Tryz.results8, go_sem, hz1, hl1, cell_alloc_lt]) rfl (unhide HNO _ (fun h => by have := h.2.1; have := unhide HQ; omega) ?_)
      repeat (first | exact hW1 | refine Below.drew ?_ | refine Below.alloc ?_ (by simp [World.setCell] <;> omega) _ | refine Below.setCell ?_ (by simp <;> omega) _)
    · have hle : ¬ (20 : Int) < (q : Int) := by omega
      have hb1 : ∀ o, Below w1.heap.size w1 (w1.alloc o) := fun o => (Below.refl _ w1).alloc (Nat.le_refl _) _
      go_wp2_with fail
      refine (opsOf_any la lc xs q (unhide HQ) hq20 _ ((unhide HX).below (hW1.trans ((hb1 _).mono hW1.size)) (Nat.le_refl _))).mono ?_
      rintro e w2 ⟨v, r2, rfl, h1, h2, hB2⟩
      have hs2 := hB2.size
      simp at hs2
      have hB12 : Below w1.heap.size w1 w2 := (hb1 _).trans (hB2.mono (by simp))
      have hW2 := hW1.trans (hB12.mono hW1.size)
      have hrow2 : w2.heap[w1.heap.size]? = some (.cells A 57 (0, 0)) := (hB2.block _ (by simp)).trans (Go.Deep.blk_alloc_new _ _)
      have hz2 := (hB12.cell (p := ⟨w.heap.size + 1, 0, none⟩) hl1).trans hz1
      have hf2 := (hB12.frozen (p := ⟨w.heap.size + 1, 0, none⟩) hl1).trans hf1
      have HROW2 := hide hrow2
      have H2 := hide h2
      have H1 := hide h1
      clear hB2 hB12 hW1 hz1 hf1 hrow2 h1 h2 hsc hb1
      cases r2 with
      | false =>
        have HN : Hid (¬ (ChipOk bs ∧ xs.length ≤ 20 ∧ ∃ o, Runs bs xs o)) := fun h => by
          obtain ⟨x, hxm, hbad⟩ := unhide H2 rfl
          obtain ⟨o, ho⟩ := h.2.2
          exact hbad (ho.good x hxm)
        clear HE1 H1 H2
        go_wp2
        refine bodyPost_ret (v := .tuple #[.agg #[.slice none 0 0], .bool false]) (by simp [results, Tryz.results8, go_sem, hz2]) rfl (unhide HNO _ (unhide HN) ?_)
        repeat (first | exact hW2 | refine Below.drew ?_ | refine Below.alloc ?_ (by simp [World.setCell] <;> omega) _ | refine Below.setCell ?_ (by simp <;> omega) _)
      | true =>
        obtain ⟨g, rfl, hco⟩ := unhide H1 rfl
        have HCO := hide hco
        clear H1 H2 hco
        go_wp2_with fail
        refine wp_load_row 57 _ rfl w1.heap.size rfl 57 A (0, 0) _ (unhide HROW2) Tryz.underlying57 rfl (unhide HSZ) ?_
        go_wp2_with fail
        refine (unhide HE1 g _ (unhide HCO)).mono ?_
        rintro e w3 ⟨⟨m2, r3, rfl, hyes, hno⟩, hB3⟩
        have hs3 := hB3.size
        have hl12 : w1.heap.size < w2.heap.size := by omega
        have hrow3 := (hB3.block w1.heap.size hl12).trans (unhide HROW2)
        have hz3 := (hB3.cell (p := ⟨w.heap.size + 1, 0, none⟩) (by show w.heap.size + 1 < _; omega)).trans hz2
        have hf3 := (hB3.frozen (p := ⟨w.heap.size + 1, 0, none⟩) (by show w.heap.size + 1 < _; omega)).trans hf2
        have hW3 := hW2.trans (hB3.mono hW2.size)
        have hst := store_row Tryz.prog w3 w1.heap.size 57 A (ccA m2) hrow3 (by rw [ccA_size, hAs]) (ccA_one m2)
        have hrow4 : (w3.setRow w1.heap.size (ccA m2)).heap[w1.heap.size]? = some (.cells (ccA m2) 57 (0, 0)) := setRow_heap _ _ _ _ _ _ hrow3
        have hz4 : (w3.setRow w1.heap.size (ccA m2)).cell? ⟨w.heap.size + 1, 0, none⟩ = some (.slice none 0 0) := (World.cell?_of_block (w := w3) (a := ⟨w.heap.size + 1, 0, none⟩) (setRow_other _ _ _ _ (by show w.heap.size + 1 ≠ _; omega))).trans hz3
        have hf4 : (w3.setRow w1.heap.size (ccA m2)).frozen? ⟨w.heap.size + 1, 0, none⟩ = false := by
          have : (w3.setRow w1.heap.size (ccA m2)).frozen? ⟨w.heap.size + 1, 0, none⟩ = w3.frozen? ⟨w.heap.size + 1, 0, none⟩ := by
            have e := setRow_other w3 w1.heap.size (w.heap.size + 1) (ccA m2) (by omega)
            simp [World.frozen?, e]
          exact this.trans hf3
        have hW4 := Below.setRow hW3 (g := w1.heap.size) (by omega) (ccA m2)
        have hs4 : (w3.setRow w1.heap.size (ccA m2)).heap.size = w3.heap.size := setRow_size _ _ _
        generalize w3.setRow w1.heap.size (ccA m2) = W4 at hst hrow4 hz4 hf4 hW4 hs4
        have HYES := hide hyes
        have HNOR := hide hno
        have HC := hide (fun (hct2 : m2.count = bs.length) W => chip_any m2 bs.length hct2 hc12.2 W)
        have hAs2 := ccA_size m2
        have HSZ2 := hide (sizeCC m2)
        obtain ⟨A2, hA2⟩ : ∃ A2, A2 = ccA m2 := ⟨_, rfl⟩
        rw [← hA2] at hst hrow4 HC hAs2 HSZ2 ⊢
        have HR4 := hide hrow4
        clear hA2 hrow4 hrow3 hB3 hz3 hf3 hW3 hz2 hf2 hW2 HE1 HROW2 HCO hyes hno
        cases r3 with
        | false =>
          have HN : Hid (¬ (ChipOk bs ∧ xs.length ≤ 20 ∧ ∃ o, Runs bs xs o)) := fun h => unhide HNOR rfl h.2.2
          clear HC HYES HNOR HR4
          go_wp2
          refine bodyPost_ret (v := .tuple #[.agg #[.slice none 0 0], .bool false]) (by simp [results, Tryz.results8, go_sem, hz4]) rfl (unhide HNO _ (unhide HN) ?_)
          repeat (first | exact hW4 | refine Below.drew ?_ | refine Below.alloc ?_ (by simp [World.setCell] <;> omega) _ | refine Below.setCell ?_ (by simp <;> omega) _)
        | true =>
          obtain ⟨hct2, hruns⟩ := unhide HYES rfl
          have HC1 := hide (unhide HC hct2)
          have HRUN := hide hruns
          clear HC HYES HNOR hct2 hruns
          go_wp2_with (refine wpList_load_row rfl 57 _ rfl w1.heap.size rfl 57 A2 (0, 0) _ (unhide HR4) Tryz.underlying57 rfl (unhide HSZ2) ?_)
          refine (unhide HC1 _).mono ?_
          rintro e w5 ⟨g5, H5, rfl, hg5, hO5, hB5⟩
          have hz5 := (hB5.cell (p := ⟨w.heap.size + 1, 0, none⟩) (by show w.heap.size + 1 < _; omega)).trans hz4
          have hf5 := (hB5.frozen (p := ⟨w.heap.size + 1, 0, none⟩) (by show w.heap.size + 1 < _; omega)).trans hf4
          have hW5 := hW4.trans (hB5.mono hW4.size)
          have HO5 := hide hO5
          clear hO5 hB5 hW4 hz4 hf4 HC1 HR4 hst
          go_wp2
          have hfin := (unhide HO5).setOther (a := ⟨w.heap.size + 1, 0, none⟩) (by simp; omega) (.slice (some ⟨g5, 0, none⟩) bs.length bs.length)
          refine bodyPost_ret (v := .tuple #[.agg #[.slice (some ⟨g5, 0, none⟩) bs.length bs.length], .bool true]) (by simp [results, Tryz.results8, go_sem, hz5]) rfl ⟨_, _, _, ccBs m2 bs.length, true, rfl, .inl ⟨rfl, unhide HO, by have := unhide HQ; omega, unhide HRUN⟩, ⟨ccBs_length _ _, .inr ⟨g5, H5, rfl, by omega, hfin.row.lt, fun i hi => ⟨by have := hfin.ahead i (by rw [ccBs_length]; exact hi); omega, hfin.lt (by rw [ccBs_length]; exact hi)⟩, hfin⟩⟩, hW5.setCell (by show w.heap.size ≤ w.heap.size + 1; omega) _⟩
end Go.Proofs.YtjgcjeaplckbbaaGreat

/- A write: the program's Written. -/
namespace Go.Proofs.YtjgcjeaplckbbaaGreat
open Go.RowKit
set_option linter.unusedVariables false
set_option linter.unusedSimpArgs false

theorem FtlOwn.zero (w : World) : FtlOwn w w.heap.size w.heap.size none 0 0 [] none 0 [] :=
  ⟨rfl, (fun i x hx => by simp at hx), .inl ⟨rfl, rfl⟩, (fun g hg => by cases hg), w.heap.size, w.heap.size, Nat.le_refl _, ⟨rfl, .inl ⟨rfl, rfl, rfl⟩⟩, Nat.le_refl _, (fun g hg => by cases hg)⟩
theorem writeOps_last (bs : List Bk) (L : List Int) (seq o lg : Int) (data : ByteArray) : (lastOp (writeOps bs L seq o lg data)).kind = 1 := by
  unfold writeOps
  split
  · split
    · simp [lastOp]
    · simp [lastOp]
  · simp [lastOp]

end Go.Proofs.YtjgcjeaplckbbaaGreat

/- The program's Recovered: what a member is when it is recovered from its chip. -/
namespace Go.Proofs.YtjgcjeaplckbbaaGreat
open Go.RowKit
set_option linter.unusedVariables false
set_option linter.unusedSimpArgs false

def RecRet (bs : List Bk) (B : Nat) (e : Ending) (w' : World) : Prop := ∃ a2 n2 c2 ma2 mn2 mc2 m r, e = .returned (.tuple #[.agg #[.slice a2 n2 c2, .slice ma2 mn2 mc2, .int .i64 (Mb.seq m), .int .i64 m.o], .bool r]) ∧ RecIs bs m r ∧ FtlOwn w' B w'.heap.size a2 n2 c2 m.bs ma2 mn2 m.L
theorem goodOps_tidy (bs : List Bk) : ∀ x ∈ tidyOps bs, goodOp x := by
  unfold tidyOps
  split
  · exact goodOps_move _ _ _ _ _
  · intro x hx; simp at hx

set_option maxRecDepth 100000 in
set_option maxHeartbeats 4000000 in
theorem implRecovered_any (a : Option Addr) (c : Nat) (bs : List Bk) (n : Nat) (hl : bs.length = n) (w : World) (h : BlocksAt w a bs) (hn : Lens 9223372036854775807 bs) :
    Calls Tryz.prog 9 #[.agg #[.slice a n c]] w fun e w' => RecRet bs w.heap.size e w' ∧ Below w.heap.size w w' := by
  subst hl
  obtain ⟨w0, hw0⟩ : ∃ w0, w0 = (w.alloc (.cells #[.slice a bs.length c] 26)).alloc (.cells #[.slice none 0 0, .slice none 0 0, .int .i64 0, .int .i64 0] 29) := ⟨_, rfl⟩
  have hs0 : w0.heap.size = w.heap.size + 1 + 1 := by rw [hw0]; simp
  have hB0 : Below w.heap.size w w0 := by rw [hw0]; exact ((Below.refl _ w).alloc (Nat.le_refl _) _).alloc (by simp) _
  have hr0 : w0.heap[w.heap.size + 1]? = some (.cells #[.slice none 0 0, .slice none 0 0, .int .i64 0, .int .i64 0] 29 (0, 0)) := by rw [hw0]; exact heap_alloc2_new _ _ _
  have hc0 : w0.cell? ⟨w.heap.size, 0, none⟩ = some (.slice a bs.length c) := by rw [hw0, cell_alloc_lt _ _ _ _ (by simp)]; simp
  have HZR : Hid (∀ W, Below w0.heap.size w0 W → (∀ i, W.cell? ⟨w.heap.size + 1, i, none⟩ = (#[Value.slice none 0 0, .slice none 0 0, .int .i64 0, .int .i64 0])[i]?) ∧ ∀ i, W.frozen? ⟨w.heap.size + 1, i, none⟩ = false) := fun W hW => by
    have hr := (hW.block (w.heap.size + 1) (by omega)).trans hr0
    exact ⟨fun i => cell_of_row _ _ i _ _ _ hr, fun i => frozen_of_row _ _ i _ _ hr⟩
  have HNO : Hid (∀ W, Below w.heap.size w W → ¬ (ChipOk bs ∧ TidyOk bs) → RecRet bs w.heap.size (.returned (.tuple #[.agg #[.slice none 0 0, .slice none 0 0, .int .i64 0, .int .i64 0], .bool false])) W ∧ Below w.heap.size w W) := fun W hW hno =>
    ⟨⟨none, 0, 0, none, 0, 0, Mb.zero, false, rfl, .inr ⟨rfl, hno, rfl⟩, (FtlOwn.zero W).lower hW.size⟩, hW⟩
  have HA := hide (h.below hB0 (Nat.le_refl _))
  clear h hr0
  go_enter Tryz.func9, Tryz.ntmps9
  go_wp2_with fail
  rw [← hw0]
  clear hw0
  refine (cellsOf_any a c bs _ (unhide HA) hn).mono ?_
  rintro e w1 ⟨⟨m, r, rfl, hr, hm⟩, hB1⟩
  have hs1 := hB1.size
  have HB1 := hide hB1
  have hW1 := hB0.trans (hB1.mono hB0.size)
  have hsc := store_cc m w1
  have hAs := ccA_size m
  have HSZ := hide (sizeCC m)
  have HR := hide hr
  have HM := hide hm
  have HTI : Hid (∀ (hok : ChipOk bs) (hct : m.count = bs.length) (hb : ccBs m bs.length = bs) (h12 : bs.length ≤ 12) W, Calls Tryz.prog 30 #[.agg (ccA m)] W fun e w' => TidyRet bs (W.heap.size + 1) e w' ∧ Below W.heap.size W w') := fun hok hct hb h12 W => tidying_any m bs bs.length (CellsIs.of rfl h12 hct hb) hct hok W
  have HAL : Hid (∀ (hok : ChipOk bs) (hct : m.count = bs.length) (hb : ccBs m bs.length = bs) la lc xs q (hq : List.length xs = q) (hq20 : q ≤ 1048576) W, CoAt W la xs → Calls Tryz.prog 28 #[.agg (ccA m), .slice la q lc] W fun e w' => AllRet bs xs e ∧ Below W.heap.size W w') := fun hok hct hb la lc xs q hq hq20 W hco => afterAll_any bs hok m hct hb la lc xs q hq hq20 W hco
  obtain ⟨A, hA⟩ : ∃ A, A = ccA m := ⟨_, rfl⟩
  rw [← hA] at hsc hAs HSZ HTI HAL ⊢
  clear hr hm hA hB0 hB1 hc0 HA
  obtain ⟨w2, hw2⟩ : ∃ w2, w2 = w1.alloc (.cells A 57) := ⟨_, rfl⟩
  have hs2 : w1.heap.size < w2.heap.size := by rw [hw2]; simp
  have hB2 : Below w1.heap.size w1 w2 := by rw [hw2]; exact (Below.refl _ w1).alloc (Nat.le_refl _) _
  have HR2 : Hid (w2.heap[w1.heap.size]? = some (.cells A 57 (0, 0))) := by rw [hw2]; exact World.alloc_heap_new _ _
  have hW2 := hW1.trans (hB2.mono hW1.size)
  have HB2 := hide ((unhide HB1).trans (hB2.mono hs1))
  rw [← hw2] at hsc
  clear hW1 hw2 hB2 HB1
  cases r with
  | false =>
    obtain ⟨hzc, hzf⟩ := unhide HZR w2 (unhide HB2)
    have z0 := hzc 0
    have z1 := hzc 1
    have z2 := hzc 2
    have z3 := hzc 3
    simp at z0 z1 z2 z3
    have f0 := hzf 0
    have f1 := hzf 1
    have f2 := hzf 2
    have f3 := hzf 3
    clear hzc hzf
    obtain ⟨W5, hW5⟩ : ∃ W5, W5 = ((((w2.setCell ⟨w.heap.size + 1, 0, none⟩ (.slice none 0 0)).setCell ⟨w.heap.size + 1, 1, none⟩ (.slice none 0 0)).setCell ⟨w.heap.size + 1, 2, none⟩ (.int .i64 0)).setCell ⟨w.heap.size + 1, 3, none⟩ (.int .i64 0)) := ⟨_, rfl⟩
    have y0 : W5.cell? ⟨w.heap.size + 1, 0, none⟩ = some (.slice none 0 0) := by rw [hW5, World.cell?_setCell_other _ _ _ _ (by simp), World.cell?_setCell_other _ _ _ _ (by simp), World.cell?_setCell_other _ _ _ _ (by simp), World.cell?_setCell_same' _ _ _ (by rw [z0]; rfl)]
    have y1 : W5.cell? ⟨w.heap.size + 1, 1, none⟩ = some (.slice none 0 0) := by rw [hW5, World.cell?_setCell_other _ _ _ _ (by simp), World.cell?_setCell_other _ _ _ _ (by simp), World.cell?_setCell_same' _ _ _ (by rw [World.cell?_setCell_other _ _ _ _ (by simp), z1]; rfl)]
    have y2 : W5.cell? ⟨w.heap.size + 1, 2, none⟩ = some (.int .i64 0) := by rw [hW5, World.cell?_setCell_other _ _ _ _ (by simp), World.cell?_setCell_same' _ _ _ (by rw [World.cell?_setCell_other _ _ _ _ (by simp), World.cell?_setCell_other _ _ _ _ (by simp), z2]; rfl)]
    have y3 : W5.cell? ⟨w.heap.size + 1, 3, none⟩ = some (.int .i64 0) := by rw [hW5, World.cell?_setCell_same' _ _ _ (by rw [World.cell?_setCell_other _ _ _ _ (by simp), World.cell?_setCell_other _ _ _ _ (by simp), World.cell?_setCell_other _ _ _ _ (by simp), z3]; rfl)]
    have hT5 := touch4 w2 (w.heap.size + 1) (.slice none 0 0) (.slice none 0 0) (.int .i64 0) (.int .i64 0)
    rw [← hW5] at hT5
    have hs5 : W5.heap.size = w2.heap.size := by rw [hW5]; simp [World.setCell]
    have hWW : Below w.heap.size w W5 := hW2.trans (hT5.below (by omega) (fun k hk => by rw [hk]; omega))
    go_wp2
    try rw [← hW5]
    exact bodyPost_ret (v := .tuple #[.agg #[.slice none 0 0, .slice none 0 0, .int .i64 0, .int .i64 0], .bool false]) (by simp [results, Tryz.results9, go_sem, y0, y1, y2, y3]) rfl (unhide HNO _ hWW (fun hc => by have := (unhide HR).2 hc.1; cases this))
  | true =>
    have hok := (unhide HR).1 (by trivial)
    have hc12 := hok.count
    obtain ⟨hct, hbss⟩ := unhide HM (by trivial)
    have HTI1 := hide (unhide HTI hok hct hbss hc12.2)
    have HAL1 := hide (unhide HAL hok hct hbss)
    have HOK := hide hok
    clear hok hct hbss HM HTI HAL
    go_wp2_with fail
    refine wp_load_row 57 _ rfl w1.heap.size rfl 57 A (0, 0) _ (unhide HR2) Tryz.underlying57 rfl (unhide HSZ) ?_
    go_wp2_with fail
    refine (unhide HTI1 _).mono ?_
    rintro e w3 ⟨⟨v, o, xs, rt, rfl, hT, hco⟩, hB3⟩
    have hs3 := hB3.size
    have hW3 := hW2.trans (hB3.mono hW2.size)
    have HB3 := hide ((unhide HB2).trans (hB3.mono (by omega)))
    have HR3 := hide ((hB3.block w1.heap.size hs2).trans (unhide HR2))
    have HT := hide hT
    have HCO := hide hco
    clear hT hco hB3 HTI1 HR2 hsc HB2 hW2
    cases rt with
    | false =>
      have HN : Hid (¬ TidyOk bs) := by
        rcases unhide HT with ⟨h, _⟩ | ⟨_, h, _⟩
        · cases h
        · exact h
      obtain ⟨hzc, hzf⟩ := unhide HZR w3 (unhide HB3)
      have z0 := hzc 0
      have z1 := hzc 1
      have z2 := hzc 2
      have z3 := hzc 3
      simp at z0 z1 z2 z3
      have f0 := hzf 0
      have f1 := hzf 1
      have f2 := hzf 2
      have f3 := hzf 3
      clear hzc hzf
      obtain ⟨W5, hW5⟩ : ∃ W5, W5 = ((((w3.setCell ⟨w.heap.size + 1, 0, none⟩ (.slice none 0 0)).setCell ⟨w.heap.size + 1, 1, none⟩ (.slice none 0 0)).setCell ⟨w.heap.size + 1, 2, none⟩ (.int .i64 0)).setCell ⟨w.heap.size + 1, 3, none⟩ (.int .i64 0)) := ⟨_, rfl⟩
      have y0 : W5.cell? ⟨w.heap.size + 1, 0, none⟩ = some (.slice none 0 0) := by rw [hW5, World.cell?_setCell_other _ _ _ _ (by simp), World.cell?_setCell_other _ _ _ _ (by simp), World.cell?_setCell_other _ _ _ _ (by simp), World.cell?_setCell_same' _ _ _ (by rw [z0]; rfl)]
      have y1 : W5.cell? ⟨w.heap.size + 1, 1, none⟩ = some (.slice none 0 0) := by rw [hW5, World.cell?_setCell_other _ _ _ _ (by simp), World.cell?_setCell_other _ _ _ _ (by simp), World.cell?_setCell_same' _ _ _ (by rw [World.cell?_setCell_other _ _ _ _ (by simp), z1]; rfl)]
      have y2 : W5.cell? ⟨w.heap.size + 1, 2, none⟩ = some (.int .i64 0) := by rw [hW5, World.cell?_setCell_other _ _ _ _ (by simp), World.cell?_setCell_same' _ _ _ (by rw [World.cell?_setCell_other _ _ _ _ (by simp), World.cell?_setCell_other _ _ _ _ (by simp), z2]; rfl)]
      have y3 : W5.cell? ⟨w.heap.size + 1, 3, none⟩ = some (.int .i64 0) := by rw [hW5, World.cell?_setCell_same' _ _ _ (by rw [World.cell?_setCell_other _ _ _ _ (by simp), World.cell?_setCell_other _ _ _ _ (by simp), World.cell?_setCell_other _ _ _ _ (by simp), z3]; rfl)]
      have hT5 := touch4 w3 (w.heap.size + 1) (.slice none 0 0) (.slice none 0 0) (.int .i64 0) (.int .i64 0)
      rw [← hW5] at hT5
      have hs5 : W5.heap.size = w3.heap.size := by rw [hW5]; simp [World.setCell]
      have hWW : Below w.heap.size w W5 := hW3.trans (hT5.below (by omega) (fun k hk => by rw [hk]; omega))
      go_wp2
      try rw [← hW5]
      exact bodyPost_ret (v := .tuple #[.agg #[.slice none 0 0, .slice none 0 0, .int .i64 0, .int .i64 0], .bool false]) (by simp [results, Tryz.results9, go_sem, y0, y1, y2, y3]) rfl (unhide HNO _ hWW (fun hc => unhide HN hc.2))
    | true =>
      obtain ⟨hty, rfl, rfl⟩ : TidyOk bs ∧ o = openOf bs ∧ xs = tidyOps bs := by
        rcases unhide HT with ⟨_, h1, h2, h3⟩ | ⟨h, _⟩
        · exact ⟨h1, h2, h3⟩
        · cases h
      have HTY := hide hty
      obtain ⟨out, hrun, hlen, hftl, _⟩ := tidy_done (unhide HOK) hty
      obtain ⟨va, vc, rfl, hcoat⟩ := (unhide HCO).form (goodOps_tidy bs)
      have hx5 := tidyOps_length bs
      obtain ⟨q, hq⟩ : ∃ q, q = (tidyOps bs).length := ⟨_, rfl⟩
      rw [← hq] at hx5 ⊢
      have HQ := hide hq.symm
      have HCA := hide hcoat
      have HRUN := hide hrun
      have hob := openOf_bounds (unhide HOK)
      clear hty hcoat HT hq hrun hlen hftl HCO
      go_wp2_with (refine wpList_load_row rfl 57 _ rfl w1.heap.size rfl 57 A (0, 0) _ (unhide HR3) Tryz.underlying57 rfl (unhide HSZ) ?_)
      refine (unhide HAL1 va vc (tidyOps bs) q (unhide HQ) (by omega) _ (unhide HCA)).mono ?_
      rintro e w4 ⟨⟨m2, r3, rfl, hyes, hno⟩, hB4⟩
      obtain rfl : r3 = true := by
        cases r3 with
        | true => rfl
        | false => exact absurd ⟨out, unhide HRUN⟩ (hno rfl)
      obtain ⟨hct2, hrun2⟩ := hyes rfl
      have hs4 := hB4.size
      have hW4 := hW3.trans (hB4.mono hW3.size)
      have HB4 := hide ((unhide HB3).trans (hB4.mono (by omega)))
      have hrow4 := (hB4.block w1.heap.size (by omega)).trans (unhide HR3)
      have hst := store_row Tryz.prog w4 w1.heap.size 57 A (ccA m2) hrow4 (by rw [ccA_size, hAs]) (ccA_one m2)
      have hrow5 : (w4.setRow w1.heap.size (ccA m2)).heap[w1.heap.size]? = some (.cells (ccA m2) 57 (0, 0)) := setRow_heap _ _ _ _ _ _ hrow4
      have hW5' := Below.setRow hW4 (g := w1.heap.size) (by omega) (ccA m2)
      have HB5' := hide (Below.setRow (unhide HB4) (g := w1.heap.size) (by omega) (ccA m2))
      have hs5' : (w4.setRow w1.heap.size (ccA m2)).heap.size = w4.heap.size := setRow_size _ _ _
      generalize w4.setRow w1.heap.size (ccA m2) = w5 at hst hrow5 hW5' HB5' hs5'
      have hok2 := hrun2.ok (unhide HOK)
      have hcb : (ccBs m2 bs.length).length = bs.length := ccBs_length _ _
      have HMEM := hide (fun W sq oo => memberOf_any m2 (ccBs m2 bs.length) bs.length hcb hct2 rfl hok2 sq oo W)
      have HTOP0 := hide (fun W => top_any m2 bs.length hct2 hc12.2 W)
      have HU : Hid (usedAll m2 bs.length = usedOf (ccBs m2 bs.length)) := by
        have := usedOf_cc (m := m2) (bs := ccBs m2 bs.length) (by rw [hcb])
        rw [hcb] at this
        exact this
      have htp2 := hok2.top
      obtain ⟨T, hT⟩ : ∃ T, T = topOf (usedOf (ccBs m2 bs.length)) := ⟨_, rfl⟩
      have HTS : Hid (topSeq (ccBs m2 bs.length) = T.1) := by rw [hT]; rfl
      have hT0 : 0 ≤ T.1 := by have := unhide HTS; omega
      have hT9 : T.1 ≤ 1000000000 := by have := unhide HTS; omega
      have HTOP : Hid (∀ W, Calls Tryz.prog 32 #[.agg (ccA m2)] W fun e w' => e = .returned (.agg #[.int .i64 T.1, .int .i64 T.2]) ∧ Below W.heap.size W w') := fun W => by
        have := unhide HTOP0 W
        rw [unhide HU, ← hT] at this
        exact this
      have hi98 := sizeCC m2
      have hAs2 := ccA_size m2
      obtain ⟨A2, hA2⟩ : ∃ A2, A2 = ccA m2 := ⟨_, rfl⟩
      rw [← hA2] at hst hrow5 HMEM HTOP hi98 hAs2 ⊢
      obtain ⟨oo, hoo⟩ : ∃ oo, oo = openOf bs := ⟨_, rfl⟩
      rw [← hoo] at hob ⊢
      have HOO := hide hoo
      have HI98 := hide hi98
      have HROW5 := hide hrow5
      clear hoo hA2 hyes hno hct2 hB4 hok2 HTOP0 HU htp2 hT hrow5 hrow4 HR3 HAL1 HCA HRUN hcb hi98
      go_upto_region 8 with fail
      clear hst
      obtain ⟨cs, rfl⟩ : ∃ cs : List Value, A2 = cs.toArray := ⟨A2.toList, by simp⟩
      have hi97 : (Tryz.prog.info? 57).map (·.size) = some cs.length := by simpa using unhide HI98
      have hrow5 := unhide HROW5
      have HSW : Hid (∀ W, Below w5.heap.size w5 W → W.rangeAt w1.heap.size 0 cs) := by
        intro W hW j v hv
        have hr := (hW.block w1.heap.size (by omega)).trans hrow5
        rw [Nat.zero_add, cell_of_row _ _ j _ _ _ hr]
        simpa using hv
      have HR2' := hide hrun2
      have HBD : Hid (Below w5.heap.size w5 w5.drew) := (Below.refl _ _).drew
      have hmix : Tryz.prog.follows .mixedOrders = true := by kernel_rfl
      have HWR : Hid (IntKind.i64.wrap (T.1 + 1) = T.1 + 1) := by
        unfold Hid
        simp [IntKind.wrap, IntKind.bits, IntKind.signed]
        omega
      have hfld := run_field_np
      clear hrun2 hrow5
      refine wp_region_held_drew (S := fun W => W.rangeAt w1.heap.size 0 cs) hmix (unhide HSW _ (unhide HBD)) (fun hHeld => ?_)
      refine wpAnyH_take (i := 0) (v := .agg cs.toArray) rfl (by kernel_rfl) (by kernel_rfl) (by kernel_rfl) (fun _ _ _ h => h) (yieldsIf_load_mid (by rfl) _ _ rfl _ _ rfl cs _ (fun W hS => hS) Tryz.underlying57 rfl hi97) hHeld ?_
      simp only [Act.put, List.setIfInBounds_toArray, List.set_cons_zero, List.set_cons_succ]
      refine wpAnyH_take (i := 1) (v := .agg cs.toArray) rfl (by kernel_rfl) (by kernel_rfl) (by kernel_rfl) (fun _ _ _ h => h) (yieldsIf_load_mid (by rfl) _ _ rfl _ _ rfl cs _ (fun W hS => hS) Tryz.underlying57 rfl hi97) hHeld ?_
      simp only [Act.put, List.setIfInBounds_toArray, List.set_cons_zero, List.set_cons_succ]
      refine wpAnyH_take (i := 5) (v := .int .i64 oo) rfl (by kernel_rfl) (by kernel_rfl) (by kernel_rfl) (fun _ _ _ h => h) (Or.inl ⟨by rfl, ?_⟩) hHeld ?_
      · (intro W hSW; clear hSW; go_simp)
      simp only [Act.put, List.setIfInBounds_toArray, List.set_cons_zero, List.set_cons_succ]
      refine wpAnyH_ready (rs := [2]) (by kernel_rfl) (by simp) ?_
      refine AllReadyH.cons rfl (fun K hK => ?_) AllReadyH.nil
      go_simp
      refine (unhide HTOP w5.drew).mono ?_
      rintro e w6 ⟨rfl, hB6⟩
      have HB6 := hide ((unhide HBD).trans hB6)
      clear hB6
      refine hK.out _ _ ?_ (fun hHeld2 => ?_)
      · exact unhide HSW _ (unhide HB6)
      clear hK K hHeld
      have hHeld := hHeld2
      clear hHeld2
      try simp only [Act.put, List.setIfInBounds_toArray, List.set_cons_zero, List.set_cons_succ]
      refine wpAnyH_take (i := 3) (v := .int .i64 T.1) rfl (by kernel_rfl) (by kernel_rfl) (by kernel_rfl) (fun _ _ _ h => h) (Or.inl ⟨by rfl, ?_⟩) hHeld ?_
      · (intro W hSW; clear hSW; go_simp)
      simp only [Act.put, List.setIfInBounds_toArray, List.set_cons_zero, List.set_cons_succ]
      refine wpAnyH_take (i := 4) (v := .int .i64 (T.1 + 1)) rfl (by kernel_rfl) (by kernel_rfl) (by kernel_rfl) (fun _ _ _ h => h) (Or.inl ⟨by rfl, ?_⟩) hHeld ?_
      · (intro W hSW; clear hSW; go_simp; exact unhide HWR)
      simp only [Act.put, List.setIfInBounds_toArray, List.set_cons_zero, List.set_cons_succ]
      refine wpAnyH_ready (rs := [6]) (by kernel_rfl) (by simp) ?_
      refine AllReadyH.cons rfl (fun K hK => ?_) AllReadyH.nil
      go_simp
      refine (unhide HMEM w6 (T.1 + 1) oo).mono ?_
      rintro e w9 ⟨g, ma2, mn2, mc2, L', rr, rfl, hMI, hF, hB9⟩
      have hs6 := (unhide HB6).size
      have hs9 := hB9.size
      have HB9 := hide ((unhide HB6).trans (hB9.mono (by omega)))
      have HF9 := hide hF
      have HMI := hide hMI
      have hW9 := hW5'.trans ((unhide HB9).mono hW5'.size)
      clear hB9 hF hMI
      refine hK.out _ _ ?_ (fun hHeld2 => ?_)
      · exact unhide HSW _ (unhide HB9)
      clear hK K hHeld
      have hHeld := hHeld2
      clear hHeld2
      try simp only [Act.put, List.setIfInBounds_toArray, List.set_cons_zero, List.set_cons_succ]
      obtain ⟨hzc, hzf⟩ := unhide HZR w9 ((unhide HB5').trans ((unhide HB9).mono (by omega)))
      have z0 := hzc 0
      have z1 := hzc 1
      have z2 := hzc 2
      have z3 := hzc 3
      simp at z0 z1 z2 z3
      have f0 := hzf 0
      have f1 := hzf 1
      have f2 := hzf 2
      have f3 := hzf 3
      clear hzc hzf
      obtain ⟨W5, hW5⟩ : ∃ W5, W5 = ((((w9.setCell ⟨w.heap.size + 1, 0, none⟩ (.slice (some ⟨g, 0, none⟩) bs.length bs.length)).setCell ⟨w.heap.size + 1, 1, none⟩ (.slice ma2 mn2 mc2)).setCell ⟨w.heap.size + 1, 2, none⟩ (.int .i64 (T.1 + 1))).setCell ⟨w.heap.size + 1, 3, none⟩ (.int .i64 oo)) := ⟨_, rfl⟩
      have y0 : W5.cell? ⟨w.heap.size + 1, 0, none⟩ = some (.slice (some ⟨g, 0, none⟩) bs.length bs.length) := by rw [hW5, World.cell?_setCell_other _ _ _ _ (by simp), World.cell?_setCell_other _ _ _ _ (by simp), World.cell?_setCell_other _ _ _ _ (by simp), World.cell?_setCell_same' _ _ _ (by rw [z0]; rfl)]
      have y1 : W5.cell? ⟨w.heap.size + 1, 1, none⟩ = some (.slice ma2 mn2 mc2) := by rw [hW5, World.cell?_setCell_other _ _ _ _ (by simp), World.cell?_setCell_other _ _ _ _ (by simp), World.cell?_setCell_same' _ _ _ (by rw [World.cell?_setCell_other _ _ _ _ (by simp), z1]; rfl)]
      have y2 : W5.cell? ⟨w.heap.size + 1, 2, none⟩ = some (.int .i64 (T.1 + 1)) := by rw [hW5, World.cell?_setCell_other _ _ _ _ (by simp), World.cell?_setCell_same' _ _ _ (by rw [World.cell?_setCell_other _ _ _ _ (by simp), World.cell?_setCell_other _ _ _ _ (by simp), z2]; rfl)]
      have y3 : W5.cell? ⟨w.heap.size + 1, 3, none⟩ = some (.int .i64 oo) := by rw [hW5, World.cell?_setCell_same' _ _ _ (by rw [World.cell?_setCell_other _ _ _ _ (by simp), World.cell?_setCell_other _ _ _ _ (by simp), World.cell?_setCell_other _ _ _ _ (by simp), z3]; rfl)]
      have hT5 := touch4 w9 (w.heap.size + 1) (.slice (some ⟨g, 0, none⟩) bs.length bs.length) (.slice ma2 mn2 mc2) (.int .i64 (T.1 + 1)) (.int .i64 oo)
      rw [← hW5] at hT5
      have hs5 : W5.heap.size = w9.heap.size := by rw [hW5]; simp [World.setCell]
      have hWW : Below w.heap.size w W5 := hW9.trans (hT5.below (by omega) (fun k hk => by rw [hk]; omega))
      refine wpAnyH_ready (rs := [7]) (by kernel_rfl) (by simp) ?_
      refine AllReadyH.cons rfl (fun K hK => ?_) AllReadyH.nil
      go_simp
      refine hK.out _ _ ?_ (fun hHeld2 => ?_)
      · (have hh := unhide HSW _ (unhide HB9); intro j v hv; rw [World.cell?_setCell_other _ _ _ _ (by simp <;> omega), World.cell?_setCell_other _ _ _ _ (by simp <;> omega), World.cell?_setCell_other _ _ _ _ (by simp <;> omega), World.cell?_setCell_other _ _ _ _ (by simp <;> omega)]; exact hh j v hv)
      clear hK K hHeld
      have hHeld := hHeld2
      clear hHeld2
      try simp only [Act.put, List.setIfInBounds_toArray, List.set_cons_zero, List.set_cons_succ]
      refine wpAnyH_ready (rs := [8]) (by kernel_rfl) (by simp) ?_
      refine AllReadyH.cons rfl (fun K hK => ?_) AllReadyH.nil
      go_simp
      refine hK.out _ _ ?_ (fun hHeld2 => ?_)
      · exact hHeld
      clear hK K hHeld
      have hHeld := hHeld2
      clear hHeld2
      try simp only [Act.put, List.setIfInBounds_toArray, List.set_cons_zero, List.set_cons_succ]
      refine wpAnyH_done (by kernel_rfl) ?_ _
      have HFF : Hid (FtlOwn W5 w.heap.size W5.heap.size (some ⟨g, 0, none⟩) bs.length bs.length (ccBs m2 bs.length) ma2 mn2 L') := by rw [hs5]; exact ((unhide HF9).touch hT5 (fun k hk => by rw [hk]; omega)).lower (by omega)
      clear hHeld hT5 HMEM HTOP HSW
      try rw [← hW5]
      go_wp2
      exact bodyPost_ret (v := .tuple #[.agg #[.slice (some ⟨g, 0, none⟩) bs.length bs.length, .slice ma2 mn2 mc2, .int .i64 (T.1 + 1), .int .i64 oo], .bool true]) (by simp [results, Tryz.results9, go_sem, y0, y1, y2, y3]) rfl ⟨⟨some ⟨g, 0, none⟩, bs.length, bs.length, ma2, mn2, mc2, ⟨ccBs m2 bs.length, L', T.1 + 1, oo⟩, true, rfl, .inl ⟨rfl, unhide HOK, unhide HTY, unhide HR2', ⟨rr, unhide HMI⟩, by rw [unhide HTS], unhide HOO⟩, unhide HFF⟩, hWW⟩
end Go.Proofs.YtjgcjeaplckbbaaGreat

/- What the library's contract of strings.Repeat asks of this program: its numbers. -/
namespace Go.Proofs.YtjgcjeaplckbbaaGreat
open Go.Shelf
def rep_ren : Go.Shelf.Ren := ⟨fun | 105 => 93 | 212 => 101 | 99 => 102 | 165 => 103 | 166 => 104 | 170 => 105 | 169 => 106 | 263 => 108 | 264 => 109 | 206 => 110 | 240 => 111 | 241 => 112 | 276 => 115 | 277 => 116 | n => n, fun | 9 => 9 | 3 => 3 | 4 => 4 | 20 => 20 | 0 => 0 | 46 => 129 | 109 => 153 | 5 => 5 | 72 => 158 | 76 => 162 | 51 => 165 | 146 => 166 | 53 => 127 | 148 => 168 | 70 => 156 | 37 => 22 | 75 => 161 | 127 => 170 | 164 => 174 | 80 => 49 | n => n, fun | n => n⟩
theorem rep_lays : Go.Proofs.Lays.n105 Tryz.prog rep_ren := {
  mixed := by kernel_rfl
  f99 := Tryz.func102.trans (congrArg some (by kernel_rfl))
  f105 := Tryz.func93.trans (congrArg some (by kernel_rfl))
  f165 := Tryz.func103.trans (congrArg some (by kernel_rfl))
  f166 := Tryz.func104.trans (congrArg some (by kernel_rfl))
  f169 := Tryz.func106.trans (congrArg some (by kernel_rfl))
  f170 := Tryz.func105.trans (congrArg some (by kernel_rfl))
  f206 := Tryz.func110.trans (congrArg some (by kernel_rfl))
  f212 := Tryz.func101.trans (congrArg some (by kernel_rfl))
  f240 := Tryz.func111.trans (congrArg some (by kernel_rfl))
  f241 := Tryz.func112.trans (congrArg some (by kernel_rfl))
  f263 := Tryz.func108.trans (congrArg some (by kernel_rfl))
  f264 := Tryz.func109.trans (congrArg some (by kernel_rfl))
  f276 := Tryz.func115.trans (congrArg some (by kernel_rfl))
  f277 := Tryz.func116.trans (congrArg some (by kernel_rfl))
  t0 := Tryz.underlying0
  a0 := Tryz.isAgg0
  z0 := Tryz.sizeOf0
  v0 := Tryz.zeroValue0
  t3 := Tryz.underlying3
  a3 := Tryz.isAgg3
  z3 := Tryz.sizeOf3
  v3 := Tryz.zeroValue3
  t4 := Tryz.underlying4
  a4 := Tryz.isAgg4
  z4 := Tryz.sizeOf4
  v4 := Tryz.zeroValue4
  t5 := Tryz.underlying5
  a5 := Tryz.isAgg5
  z5 := Tryz.sizeOf5
  v5 := Tryz.zeroValue5
  t9 := Tryz.underlying9
  a9 := Tryz.isAgg9
  z9 := Tryz.sizeOf9
  v9 := Tryz.zeroValue9
  t20 := Tryz.underlying20
  a20 := Tryz.isAgg20
  z20 := Tryz.sizeOf20
  v20 := Tryz.zeroValue20
  t37 := Tryz.underlying22
  a37 := Tryz.isAgg22
  z37 := Tryz.sizeOf22
  v37 := Tryz.zeroValue22
  t46 := Tryz.underlying129
  a46 := Tryz.isAgg129
  z46 := Tryz.sizeOf129
  v46 := Tryz.zeroValue129
  t51 := Tryz.underlying165
  a51 := Tryz.isAgg165
  z51 := Tryz.sizeOf165
  v51 := Tryz.zeroValue165
  t53 := Tryz.underlying127
  a53 := Tryz.isAgg127
  z53 := Tryz.sizeOf127
  v53 := Tryz.zeroValue127
  t70 := Tryz.underlying156
  a70 := Tryz.isAgg156
  z70 := Tryz.sizeOf156
  v70 := Tryz.zeroValue156
  t72 := Tryz.underlying158
  a72 := Tryz.isAgg158
  z72 := Tryz.sizeOf158
  v72 := Tryz.zeroValue158
  t75 := Tryz.underlying161
  a75 := Tryz.isAgg161
  z75 := Tryz.sizeOf161
  v75 := Tryz.zeroValue161
  t76 := Tryz.underlying162
  a76 := Tryz.isAgg162
  z76 := Tryz.sizeOf162
  v76 := Tryz.zeroValue162
  t109 := Tryz.underlying153
  a109 := Tryz.isAgg153
  z109 := Tryz.sizeOf153
  v109 := Tryz.zeroValue153
  t127 := Tryz.underlying170
  a127 := Tryz.isAgg170
  z127 := Tryz.sizeOf170
  v127 := Tryz.zeroValue170
  t146 := Tryz.underlying166
  a146 := Tryz.isAgg166
  z146 := Tryz.sizeOf166
  v146 := Tryz.zeroValue166
  t148 := Tryz.underlying168
  a148 := Tryz.isAgg168
  z148 := Tryz.sizeOf168
  v148 := Tryz.zeroValue168
  t164 := Tryz.underlying174
  a164 := Tryz.isAgg174
  z164 := Tryz.sizeOf174
  v164 := Tryz.zeroValue174 }
theorem rep_extra : Builder.Extra Tryz.prog rep_ren := {
  sizeBuilder := by kernel_rfl
  liesBuilder := by kernel_rfl
  t5 := Tryz.underlying5
  a5 := Tryz.isAgg5
  z5 := Tryz.sizeOf5
  v5 := Tryz.zeroValue5
  infoByte := by kernel_rfl
  cellsByte := by kernel_rfl
  sizeByte := by kernel_rfl
  neB5 := by decide }
end Go.Proofs.YtjgcjeaplckbbaaGreat

/- What is read of a log: the program's dataAt and PageAt. -/
namespace Go.Proofs.YtjgcjeaplckbbaaGreat
open Go.RowKit
set_option linter.unusedVariables false
set_option linter.unusedSimpArgs false

theorem repeat4 (w : World) : Calls Tryz.prog 93 #[.string ⟨#[0]⟩, .int .i64 4] w fun e w' => e = .returned (.string zeros4) ∧ Below w.heap.size w w' := by
  refine (Any.strings_Repeat rep_lays rep_extra ⟨#[0]⟩ 4 w (by omega) (by decide)).mono ?_
  rintro e w1 ⟨rfl, hB⟩
  exact ⟨by rfl, hB⟩

theorem blankData_any (w : World) : Calls Tryz.prog 70 #[] w fun e w' => e = .returned (.string zeros4) ∧ Below w.heap.size w w' := by
  go_enter Tryz.func70, Tryz.ntmps70
  go_wp2_with fail
  refine (repeat4 _).mono ?_
  rintro e w1 ⟨rfl, hB⟩
  go_wp2
  go_ret
  exact ⟨rfl, hB⟩

set_option maxRecDepth 100000 in
set_option maxHeartbeats 1000000 in
theorem dataAt_any (A : Array Value) (m : CC) (bs : List Bk) (hbs : ccBs m bs.length = bs) (hAp : ∀ b k j, b < 12 → k < 4 → j < 4 → A[1 + b * 17 + 1 + k * 4 + j]? = some (pgV (m.page b k) j)) (L : List Int) (seq o : Int) (hok : FtlOk bs L seq o) (x : Int) (hx : x ∈ L) (w : World) :
    Calls Tryz.prog 35 #[.agg A, .int .i64 x] w fun e w' => e = .returned (.string (dataOf bs x)) ∧ Below w.heap.size w w' := by
  have hb0 : ∀ o, Below w.heap.size w (w.alloc o) := fun o => (Below.refl _ w).alloc (Nat.le_refl _) _
  have hpl := hok.places x hx
  by_cases h0 : x < 0
  · obtain rfl : x = -1 := by omega
    have HD := hide (dataOf_none (bs := bs) h0)
    clear hok hx hpl hAp hbs
    go_enter Tryz.func35, Tryz.ntmps35
    go_wp2_with fail
    refine (blankData_any _).mono ?_
    rintro e w1 ⟨rfl, hB⟩
    go_wp2
    go_ret
    exact ⟨by rw [unhide HD]; rfl, (hb0 _).trans (hB.mono (by simp))⟩
  · have hc := hok.chip.count
    obtain ⟨q, t, y, p, hq, ht, hqb, ht4, hy, hp⟩ := hok.placed hx (by omega)
    have HD := hide (dataOf_at (bs := bs) (by omega) hq ht hy hp)
    have hcd := hAp q t 3 (by omega) ht4 (by omega)
    have hpg : m.page q t = p := by
      have e := ccBs_at m hqb
      rw [hbs, hy] at e
      cases e
      have e2 := ccPs_at m q ht4
      rw [hp] at e2
      cases e2
      rfl
    rw [hpg] at hcd
    have hcw : ∀ ty, (w.alloc (.cells A ty)).cell? ⟨w.heap.size, 1 + q * 17 + 1 + t * 4 + 3, none⟩ = some (.string p.data) := fun ty => (cell_of_row _ _ _ _ _ _ (Go.Deep.blk_alloc_new _ _)).trans hcd
    have hq12 : (q : Int) < 12 := by omega
    have ht4' : (t : Int) < 4 := by omega
    have hx48 : x < 48 := by omega
    have hx0 : 0 ≤ x := by omega
    have hne : (x == -1) = false := by simp; omega
    clear hok hx hpl hAp hbs hcd hpg hy hp h0 hc hqb
    go_enter Tryz.func35, Tryz.ntmps35
    go_wp2
    go_ret
    exact ⟨by rw [unhide HD]; rfl, hb0 _⟩

set_option maxRecDepth 100000 in
set_option maxHeartbeats 1000000 in
theorem implPageAt_any (a : Option Addr) (c : Nat) (bs : List Bk) (n : Nat) (hl : bs.length = n) (ma : Option Addr) (mc : Nat) (L : List Int) (mn : Nat) (hL : L.length = mn) (seq o lg : Int) (w : World) (h : BlocksAt w a bs) (hn : Lens 9223372036854775807 bs) (hI : IntsAt w ma L) (hmn : mn ≤ 9223372036854775807) :
    Calls Tryz.prog 11 #[.agg #[.slice a n c, .slice ma mn mc, .int .i64 seq, .int .i64 o], .int .i64 lg] w fun e w' => ∃ (d : ByteArray) (r : Bool), e = .returned (.tuple #[.string d, .bool r]) ∧ PageIs bs L seq o lg d r ∧ Below w.heap.size w w' := by
  have hb0 : ∀ o, Below w.heap.size w (w.alloc o) := fun o => (Below.refl _ w).alloc (Nat.le_refl _) _
  have hmix : Tryz.prog.follows .mixedOrders = true := by kernel_rfl
  go_enter Tryz.func11, Tryz.ntmps11
  go_wp2_with fail
  refine (rightCells_any a c bs n hl ma mc L mn hL seq o _ (h.below (hb0 _) (Nat.le_refl _)) hn (hI.below (hb0 _) (Nat.le_refl _)) hmn).mono ?_
  rintro e w1 ⟨⟨m, r, rfl, hr, hm⟩, hB1⟩
  have hW1 : Below w.heap.size w w1 := (hb0 _).trans (hB1.mono (by simp))
  have hs1 := hB1.size
  simp at hs1
  have hx1 : ∀ o', (w1.alloc o').cell? ⟨w.heap.size, 1, none⟩ = some (.slice ma mn mc) := fun o' => by
    rw [cell_alloc_lt _ _ _ _ (by omega), hB1.cell (p := ⟨w.heap.size, 1, none⟩) (by simp)]
    simp
  have hsc := store_cc m w1
  have hAs := ccA_size m
  have hA0 := ccA_count m
  have HSZ := hide (sizeCC m)
  have HAP := hide (fun b k j hb hk hj => ccA_page m (b := b) (k := k) (j := j) hb hk hj)
  have HR := hide hr
  have HM := hide hm
  have HI := hide (hI.below hW1 (Nat.le_refl _))
  have HL := hide hl
  have HLL := hide hL
  generalize ccA m = A at hsc hAs hA0 HSZ HAP
  have HA0 := hide hA0
  clear hr hm hA0 h hn hB1 hb0 hI hl hL
  cases r with
  | false =>
    go_wp2
    exact bodyPost_ret (v := .tuple #[.string ⟨#[]⟩, .bool false]) (by simp [results, Tryz.results11, go_sem]) rfl ⟨_, _, rfl, .inr ⟨(fun hc => by have := (unhide HR).2 hc.1; cases this), rfl, rfl⟩, hW1.alloc hW1.size _⟩
  | true =>
    have hok := (unhide HR).1 (by trivial)
    have hc12 : 4 ≤ n ∧ n ≤ 12 := by have := hok.chip.count; have := unhide HL; omega
    have hmn4 : (mn : Int) = 4 * ((n : Int) - 3) := by have := hok.len; have := unhide HLL; have := unhide HL; omega
    obtain ⟨hct, hbss⟩ := unhide HM (by trivial)
    have hA0 := unhide HA0
    rw [hct, unhide HL] at hA0
    have hc0 : (w1.alloc (.cells A 57)).cell? ⟨w1.heap.size, 0, none⟩ = some (.int .i64 (n : Int)) := (cell_of_row _ _ 0 _ _ _ (Go.Deep.blk_alloc_new _ _)).trans hA0
    have HS := hide hbss
    have HO := hide hok
    have HMN := hide hmn4
    obtain ⟨w2, hw2⟩ : ∃ w2, w2 = w1.alloc (.cells A 57) := ⟨_, rfl⟩
    have hx2 := hx1 (.cells A 57)
    rw [← hw2] at hc0 hsc hx2
    have hs2 : w1.heap.size < w2.heap.size := by rw [hw2]; simp
    have HLD : Hid (∀ j, j < 205 → w2.cell? ⟨w1.heap.size, 0 + j, none⟩ = A[j]?) := fun j hj => by rw [hw2, Nat.zero_add]; exact cell_of_row _ _ j _ _ _ (Go.Deep.blk_alloc_new _ _)
    have hW2 : Below w.heap.size w w2 := by rw [hw2]; exact hW1.alloc hW1.size _
    have HI2 : Hid (IntsAt w2 ma L) := by rw [hw2]; exact (unhide HI).below ((Below.refl _ w1).alloc (Nat.le_refl _) _) (Nat.le_refl _)
    clear hok hA0 HA0 HM hct hbss hw2 hx1 HI hW1 hmn4
    go_wp2_with fail
    refine (implRoomFor_any (n : Int) _).mono ?_
    rintro e w3 ⟨rfl, rfl⟩
    rw [roomI_in (by omega), ← unhide HMN]
    have hmn36 : mn ≤ 36 := by have := unhide HMN; omega
    go_wp2_with fail
    refine (within_any _ _ _ _).mono ?_
    rintro e w4 ⟨rfl, rfl⟩
    by_cases hin : 0 ≤ lg ∧ lg ≤ (mn : Int) - 1
    · obtain ⟨k, rfl⟩ := Int.eq_ofNat_of_zero_le hin.1
      obtain ⟨x, hx⟩ := getElem?_ex (l := L) (k := k) (by have := unhide HLL; omega)
      have hd : decide ((0 : Int) ≤ (k : Int) ∧ (k : Int) ≤ (mn : Int) - 1) = true := by simpa using hin
      rw [hd]
      have hkm : (k : Int) < (mn : Int) := by omega
      obtain ⟨b1, o1, rfl, hcx⟩ := (unhide HI2) k x hx
      have hb1 : b1 < w4.heap.size := World.block_lt_of_cell? _ _ hcx
      have HDA : Hid (∀ W, Calls Tryz.prog 35 #[.agg A, .int .i64 x] W fun e w' => e = .returned (.string (dataOf bs x)) ∧ Below W.heap.size W w') := fun W => dataAt_any A m bs (unhide HS) (unhide HAP) L seq o (unhide HO) x (List.mem_of_getElem? hx) W
      have HX := hide hx
      have HIN := hide hin
      obtain ⟨D, hD⟩ : ∃ D, D = dataOf bs x := ⟨_, rfl⟩
      rw [← hD] at HDA
      have HDD := hide hD
      clear hx hin hd hc0 hsc hD
      go_wp2_with fail
      refine wp_region_grown (Below w4.heap.size w4) hmix (by kernel_rfl) (below_drawn w4) ?_
      refine wpQuiet_val rfl (.agg A) (fun W hC => quietAt_load_mid 57 _ rfl w1.heap.size 0 rfl A 205 hAs (fun j hj => (hC.cell (p := ⟨w1.heap.size, 0 + j, none⟩) (by show w1.heap.size < _; omega)).trans (unhide HLD j hj)) _ Tryz.underlying57 rfl sizeCC') ?_
      simp only [Act.put, List.setIfInBounds_toArray, List.set_cons_zero, List.set_cons_succ]
      go_big_quiet_step (exact fun _ => rfl)
      refine wpQuiet_val rfl (.slice (some ⟨b1, o1, none⟩) mn mc) (fun W hC => ?_) ?_
      · have hcl := (hC.cell (p := ⟨w.heap.size, 1, none⟩) (by show w.heap.size < _; omega)).trans hx2
        go_simp
      simp only [Act.put, List.setIfInBounds_toArray, List.set_cons_zero, List.set_cons_succ]
      go_big_quiet_step (exact fun _ => rfl)
      go_big_quiet_step (exact fun _ => rfl)
      refine wpQuiet_val rfl (.int .i64 x) (fun W hC => ?_) ?_
      · have hcl := (hC.cell (p := ⟨b1, o1 + k, none⟩) hb1).trans hcx
        go_simp
      simp only [Act.put, List.setIfInBounds_toArray, List.set_cons_zero, List.set_cons_succ]
      refine wpQuiet_val rfl (.string D) (fun W hC => ?_) ?_
      · go_simp
        refine (unhide HDA W).mono ?_
        rintro e w' ⟨rfl, hB'⟩
        exact ⟨rfl, hC.trans (hB'.mono hC.size)⟩
      simp only [Act.put, List.setIfInBounds_toArray, List.set_cons_zero, List.set_cons_succ]
      go_big_quiet_step (exact fun _ => rfl)
      go_big_quiet_step (exact fun _ => rfl)
      refine wpQuiet_nil ?_
      intro w8 hC8
      have hW8 := hW2.trans (hC8.mono hW2.size)
      clear hC8 hx2 hcx HDA
      go_wp2
      exact bodyPost_ret (v := .tuple #[.string D, .bool true]) (by simp [results, Tryz.results11, go_sem]) rfl ⟨_, _, rfl, .inl ⟨⟨unhide HO, (unhide HIN).1, by rw [unhide HLL]; exact (unhide HIN).2⟩, rfl, x, by simpa using unhide HX, unhide HDD⟩, hW8⟩
    · have hd : decide ((0 : Int) ≤ lg ∧ lg ≤ (mn : Int) - 1) = false := by simpa using hin
      rw [hd]
      clear hc0 hsc hx2
      go_wp2
      exact bodyPost_ret (v := .tuple #[.string ⟨#[]⟩, .bool false]) (by simp [results, Tryz.results11, go_sem]) rfl ⟨_, _, rfl, .inr ⟨fun hc => hin (by rw [← unhide HLL]; exact hc.2), rfl, rfl⟩, hW2⟩
end Go.Proofs.YtjgcjeaplckbbaaGreat

/- Whether a member is right: the program's FtlOk. -/
namespace Go.Proofs.YtjgcjeaplckbbaaGreat
open Go.RowKit
set_option linter.unusedVariables false
set_option linter.unusedSimpArgs false

set_option maxRecDepth 100000 in
set_option maxHeartbeats 1000000 in
theorem implFtlOk_any (a : Option Addr) (c : Nat) (bs : List Bk) (n : Nat) (hl : bs.length = n) (ma : Option Addr) (mc : Nat) (L : List Int) (mn : Nat) (hL : L.length = mn) (seq o : Int) (w : World) (h : BlocksAt w a bs) (hn : Lens 9223372036854775807 bs) (hI : IntsAt w ma L) (hmn : mn ≤ 9223372036854775807) :
    Calls Tryz.prog 10 #[.agg #[.slice a n c, .slice ma mn mc, .int .i64 seq, .int .i64 o]] w fun e w' => RetIff (FtlOk bs L seq o) e ∧ Below w.heap.size w w' := by
  have hb0 : ∀ o, Below w.heap.size w (w.alloc o) := fun o => (Below.refl _ w).alloc (Nat.le_refl _) _
  go_enter Tryz.func10, Tryz.ntmps10
  go_wp2_with fail
  refine (rightCells_any a c bs n hl ma mc L mn hL seq o _ (h.below (hb0 _) (Nat.le_refl _)) hn (hI.below (hb0 _) (Nat.le_refl _)) hmn).mono ?_
  rintro e w1 ⟨⟨m, r, rfl, hr, _⟩, hB⟩
  have HR := hide hr
  have hsc := store_cc m w1
  have hAs := ccA_size m
  clear hr h hI hn
  generalize ccA m = A at hsc hAs
  go_wp2
  go_ret
  exact ⟨⟨r, rfl, unhide HR⟩, ((hb0 _).trans (hB.mono (by simp))).alloc (by have := hB.size; simp at this; omega) _⟩
end Go.Proofs.YtjgcjeaplckbbaaGreat
