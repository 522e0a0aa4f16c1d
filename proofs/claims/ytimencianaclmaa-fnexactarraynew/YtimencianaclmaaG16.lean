/- 4 texts in one. -/
import Derived.Test.YtimencianaclmaaG12
import Derived.WalkKit
import Derived.Outline
import Derived.Deep.AppendLies
import Derived.Test.YtimencianaclmaaG02
import Derived.Test.YtimencianaclmaaG07
import Derived.Test.YtimencianaclmaaG11
import Derived.Test.YtimencianaclmaaG15
import Derived.Deep.MidRow
import Derived.Deep.RegionHeld3
import Derived.Test.YtimencianaclmaaG13
import Derived.Deep.DeepCutAuto

/- A list of numbers is copied: slices.Clone. -/
namespace Go.Proofs.Ytimencianaclmaa
open Go.RowKit
set_option linter.unusedVariables false
set_option linter.unusedSimpArgs false

theorem equalIn_nil {P : Program} {t e : TypeId} (d : Nat) (x : Addr) (n c : Nat) (ht : P.underlying t = some (.slice e)) (W : World) : (Op.equalIn (d + 1) t (.slice (some x) n c) (.slice none 0 0)).run P W = .ok false W := by
  simp [Op.equalIn, run_underlying ht]
theorem nil_ne {P : Program} {t e : TypeId} (x : Addr) (n c : Nat) (ht : P.underlying t = some (.slice e)) (W : World) : (binOp BinOp.eql t (.slice (some x) n c) (.slice none 0 0)).run P W = .ok (.bool false) W := by
  have h := equalIn_nil 9999 x n c ht W
  simp only [binOp]
  simp [Op.equal, Op.maxDepth, h]

set_option maxRecDepth 100000 in
set_option maxHeartbeats 1000000 in
theorem clone_any (ma : Option Addr) (mc : Nat) (L : List Int) (mn : Nat) (hL : L.length = mn) (h1 : 1 ≤ mn) (h36 : mn ≤ 1048576) (w : World) (hI : IntsAt w ma L) :
    Calls Try.prog 151 #[.slice ma mn mc] w fun e w' => ∃ v, e = .returned v ∧ OwnInts w' 2 w.heap.size v L ∧ Below w.heap.size w w' := by
  obtain ⟨i0, hi, hz0, hz1, hz2⟩ := info_parts infoInt64I
  obtain ⟨x, hx⟩ := getElem?_ex (l := L) (k := 0) (by omega)
  obtain ⟨b1, o1, rfl, _⟩ := hI 0 x hx
  obtain ⟨X, hX⟩ : ∃ X, X = ints L := ⟨_, rfl⟩
  have hXl : X.length = mn * 1 := by rw [hX, ints_length]; omega
  have hX1 : ∀ u ∈ X, u.oneCell' = true := fun u hu => by rw [hX] at hu; simp [ints] at hu; obtain ⟨y, _, rfl⟩ := hu; rfl
  have HI := hide (hI.below ((Below.refl _ w).alloc (Nat.le_refl _) (.cells #[] 2)) (Nat.le_refl _))
  have HXN : Hid (∀ j u, X[j]? = some u → (w.alloc (.cells #[] 2)).cell? ((⟨b1, o1, none⟩ : Addr).add j) = some u) := fun j u hu => by
    rw [hX] at hu
    simp only [ints, List.getElem?_map, Option.map_eq_some_iff] at hu
    obtain ⟨y, hy, rfl⟩ := hu
    obtain ⟨b2, o2, e2, hcy⟩ := (unhide HI) j y hy
    cases e2
    rw [Go.WideShapes.add_plain]
    exact hcy
  have HX := hide hX
  have HL := hide hL
  have HR : Hid ((w.alloc (.cells #[] 2)).ownsRow w.heap.size 2 1 (.slice (some ⟨w.heap.size, 0, none⟩) 0 0) 0 []) := by
    have := World.ownsRow_lit (base := w.heap.size) (e := 2) (size := 1) w #[] 0 (Nat.le_refl _) (by unfold maxLen; omega) rfl
    refine hide ?_
    simpa using this
  have hnil : ∀ W : World, (binOp BinOp.eql 41 (.slice (some ⟨b1, o1, none⟩) mn mc) (.slice none 0 0)).run Try.prog W = .ok (.bool false) W := nil_ne _ _ _ Try.underlying41
  clear hI hx hL hX
  go_enter Try.func151, Try.ntmps151
  go_wp2_with (refine wpList_append_lies _ rfl (.tmp 5) (.tmp 6) 41 rfl w.heap.size 2 i0 _ 1 8 Try.underlying41 hi hz0 hz1 hz2 rfl (by decide) (.slice (some ⟨w.heap.size, 0, none⟩) 0 0) 0 [] (by simp [Act.eval]) (unhide HR) ⟨b1, o1, none⟩ mn mc X (by simp [Act.eval]) hXl (unhide HXN) hX1 (by omega) (by unfold maxLen; omega) (by omega) (by simp) _ rfl ?_; intro g1 cap wE hown hgrow hat hlt1)
  go_ret
  refine ⟨_, rfl, ?_, ?_⟩
  · unfold OwnInts
    rw [unhide HL, ← unhide HX]
    simpa using hown
  · exact Below.grown ((Below.refl _ w).alloc (Nat.le_refl _) _) hgrow (by simp) (fun j e => ((unhide HR).lt j e).1)
end Go.Proofs.Ytimencianaclmaa

/- A member is copied, and made of cells: the program's copied and memberOf. -/
namespace Go.Proofs.Ytimencianaclmaa
open Go.RowKit
set_option linter.unusedVariables false
set_option linter.unusedSimpArgs false

theorem touch4 (w : World) (P : Nat) (v0 v1 v2 v3 : Value) : Touch (fun k => k = P) w ((((w.setCell ⟨P, 0, none⟩ v0).setCell ⟨P, 1, none⟩ v1).setCell ⟨P, 2, none⟩ v2).setCell ⟨P, 3, none⟩ v3) := by
  have h0 : Touch (fun k => k = P) w w := Touch.refl _ _
  have h1 := Touch.setCell (p := ⟨P, 0, none⟩) h0 rfl v0
  have h2 := Touch.setCell (p := ⟨P, 1, none⟩) h1 rfl v1
  have h3 := Touch.setCell (p := ⟨P, 2, none⟩) h2 rfl v2
  exact Touch.setCell (p := ⟨P, 3, none⟩) h3 rfl v3
theorem FtlOwn.lower {w : World} {B B' T : Nat} {a : Option Addr} {n c : Nat} {out : List Bk} {ma : Option Addr} {mn : Nat} {L : List Int} (h : FtlOwn w B T a n c out ma mn L) (hB : B' ≤ B) : FtlOwn w B' T a n c out ma mn L := by
  obtain ⟨h0, h1, h2, h6, C, K, h3, h4, h5⟩ := h
  refine ⟨h0, h1, ?_, h6, C, K, by omega, h4, h5⟩
  rcases h2 with h2 | ⟨g, q1, q2, q3⟩
  · exact .inl h2
  · exact .inr ⟨g, q1, by omega, q3⟩
theorem FtlOwn.higher {w : World} {B T T' : Nat} {a : Option Addr} {n c : Nat} {out : List Bk} {ma : Option Addr} {mn : Nat} {L : List Int} (h : FtlOwn w B T a n c out ma mn L) (hT : T ≤ T') : FtlOwn w B T' a n c out ma mn L := by
  obtain ⟨h0, h1, h2, h6, C, K, h3, h4, h5, h7⟩ := h
  exact ⟨h0, h1, h2, fun g hg => by have := h6 g hg; omega, C, K, h3, h4, by omega, h7⟩
/-- A chip and a map, each made by a call of its own. -/
theorem FtlOwn.made {w : World} {B C K : Nat} {g : Nat} {H : Nat → Nat} {n : Nat} {out : List Bk} {v : Value} {mn : Nat} {L : List Int} (hl : out.length = n) (hO : OwnBlocks w 38 28 g H n out) (hBC : B ≤ C) (hg : C ≤ g) (hgK : g < K) (hH : ∀ i, i < n → H i < K) (hK : K ≤ w.heap.size)
    (hI : OwnInts w 2 B v L) (hL : L.length = mn) (hap : ∀ k, v.ownBlock = some k → ¬ (C ≤ k ∧ k < K)) : ∃ ma mc, v = .slice ma mn mc ∧ FtlOwn w B w.heap.size (some ⟨g, 0, none⟩) n n out ma mn L := by
  obtain ⟨ma, mc, rfl, hIA, hM⟩ := hI.form
  rw [hL] at hM
  refine ⟨ma, mc, by rw [hL], hL, hIA, hM, fun k hk => ?_, C, K, hBC, ⟨hl, .inr ⟨g, H, rfl, hg, hgK, fun i hi => ⟨hO.ahead i (by omega), hH i hi⟩, hO⟩⟩, hK, fun k hk => hap k (by rw [hk]; rfl)⟩
  rcases hM with ⟨e, _⟩ | ⟨k', e, _, h3, _⟩
  · rw [e] at hk; cases hk
  · rw [hk] at e; cases e; exact h3

set_option maxRecDepth 100000 in
set_option maxHeartbeats 4000000 in
theorem copied_any (va : Value) (hva : ∃ x y z, va = .slice x y z) (m : CC) (bs : List Bk) (n : Nat) (hl : bs.length = n) (hct : m.count = n) (hbs : ccBs m n = bs) (ma : Option Addr) (mc : Nat) (L : List Int) (mn : Nat) (hL : L.length = mn) (seq o : Int) (hok : FtlOk bs L seq o) (w : World) (hI : IntsAt w ma L) :
    Calls Try.prog 100 #[.agg #[va, .slice ma mn mc, .int .i64 seq, .int .i64 o], .agg (ccA m)] w fun e w' => ∃ g ma2 mc2, e = .returned (.agg #[.slice (some ⟨g, 0, none⟩) n n, .slice ma2 mn mc2, .int .i64 seq, .int .i64 o]) ∧ FtlOwn w' w.heap.size w'.heap.size (some ⟨g, 0, none⟩) n n bs ma2 mn L ∧ Below w.heap.size w w' := by
  obtain ⟨vx, vy, vz, rfl⟩ := hva
  have hlen := hok.len
  have hc := hok.chip.count
  have hm4 : 1 ≤ mn ∧ mn ≤ 1048576 := by omega
  have hCA := ccA_size m
  obtain ⟨cs, hcs⟩ : ∃ cs, cs = (ccA m).toList := ⟨_, rfl⟩
  have hcs2 : ccA m = cs.toArray := by rw [hcs]
  have hcl : cs.length = 205 := by rw [hcs]; simp [ccA_size]
  have HCH : Hid (∀ W, Calls Try.prog 71 #[.agg cs.toArray] W fun e w' => ∃ g H, e = .returned (.agg #[.slice (some ⟨g, 0, none⟩) n n]) ∧ W.heap.size ≤ g ∧ OwnBlocks w' 38 28 g H n bs ∧ Below W.heap.size W w') := fun W => by
    have := chip_any m n hct (by omega) W
    rw [hbs, hcs2] at this
    exact this
  have hu97 := Try.underlying109
  have hi97 : (Try.prog.info? 109).map (·.size) = some cs.length := by rw [hcl]; exact sizeCC'
  have HL := hide hL
  have HLB := hide hl
  have HI := hide hI
  rw [hcs2]
  clear hcs hcs2 hCA hbs hct hok hI hL hl hlen hc
  go_enter Try.func100, Try.ntmps100
  go_wp2_with fail
  obtain ⟨w0, hw0⟩ : ∃ w0, w0 = ((w.alloc (.cells #[.slice vx vy vz, .slice ma mn mc, .int .i64 seq, .int .i64 o] 44)).alloc (.cells cs.toArray 109)).alloc (.cells #[.slice none 0 0, .slice none 0 0, .int .i64 0, .int .i64 0] 44) := ⟨_, rfl⟩
  have hs0 : w0.heap.size = w.heap.size + 3 := by rw [hw0]; simp
  have hB0 : Below w.heap.size w w0 := by rw [hw0]; exact (((Below.refl _ w).alloc (Nat.le_refl _) _).alloc (by simp) _).alloc (by simp; omega) _
  obtain ⟨R0, R1, R2⟩ := heap3 w (.cells #[.slice vx vy vz, .slice ma mn mc, .int .i64 seq, .int .i64 o] 44) (.cells cs.toArray 109) (.cells #[.slice none 0 0, .slice none 0 0, .int .i64 0, .int .i64 0] 44)
  rw [← hw0] at R0 R1 R2 ⊢
  have k1 := cell_of_row _ _ 1 _ _ _ R0
  have k2 := cell_of_row _ _ 2 _ _ _ R0
  have k3 := cell_of_row _ _ 3 _ _ _ R0
  simp at k1 k2 k3
  have HRG : Hid (∀ W : World, (∀ b o, b < w.heap.size + 1 + 1 → W.cell? ⟨b, o, none⟩ = w0.cell? ⟨b, o, none⟩) → W.rangeAt (w.heap.size + 1) 0 cs) := fun W hW j v hv => by
    rw [hW _ _ (by omega), Nat.zero_add, cell_of_row _ _ j _ _ _ R1]
    simpa using hv
  have HZR : Hid (∀ W, Below w0.heap.size w0 W → (∀ i, W.cell? ⟨w.heap.size + 1 + 1, i, none⟩ = (#[Value.slice none 0 0, .slice none 0 0, .int .i64 0, .int .i64 0])[i]?) ∧ ∀ i, W.frozen? ⟨w.heap.size + 1 + 1, i, none⟩ = false) := fun W hW => by
    have hr := (hW.block (w.heap.size + 1 + 1) (by omega)).trans R2
    exact ⟨fun i => cell_of_row _ _ i _ _ _ hr, fun i => frozen_of_row _ _ i _ _ hr⟩
  have HCL : Hid (∀ W, Below w0.heap.size w0 W → Calls Try.prog 151 #[.slice ma mn mc] W fun e w' => ∃ v, e = .returned v ∧ OwnInts w' 2 W.heap.size v L ∧ Below W.heap.size W w') := fun W hW => clone_any ma mc L mn (unhide HL) hm4.1 hm4.2 W (((unhide HI).below hB0 (Nat.le_refl _)).below hW (Nat.le_refl _))
  have HBD : Hid (Below w0.heap.size w0 w0.drew) := (Below.refl _ _).drew
  have HS0 := hide hs0
  have hsl : w.heap.size + 1 + 1 < w0.heap.size := by omega
  clear hw0 R0 R1 R2 hs0
  have hmix : Try.prog.follows .mixedOrders = true := by kernel_rfl
  refine wp_region_held_drew (S := fun W => W.rangeAt (w.heap.size + 1) 0 cs ∧ ∀ b o, b < w.heap.size + 1 + 1 → W.cell? ⟨b, o, none⟩ = w0.cell? ⟨b, o, none⟩) hmix ⟨unhide HRG _ (fun b o hb => rfl), fun b o hb => rfl⟩ (fun hHeld => ?_)
  refine wpAnyH_take (i := 0) (v := .agg cs.toArray) rfl (by kernel_rfl) (by kernel_rfl) (by kernel_rfl) (fun _ _ _ h => h) (yieldsIf_load_mid (by rfl) _ _ rfl _ _ rfl cs _ (fun W hS => hS.1) hu97 rfl hi97) hHeld ?_
  simp only [Act.put, List.setIfInBounds_toArray, List.set_cons_zero, List.set_cons_succ]
  refine wpAnyH_take (i := 2) (v := .pointer (some ⟨w.heap.size, 1, none⟩)) rfl (by kernel_rfl) (by kernel_rfl) (by kernel_rfl) (fun _ _ _ h => h) (Or.inl ⟨by rfl, ?_⟩) hHeld ?_
  · (intro W hSW; have hSW2 := hSW.2; clear hSW; go_simp)
  simp only [Act.put, List.setIfInBounds_toArray, List.set_cons_zero, List.set_cons_succ]
  refine wpAnyH_take (i := 3) (v := .slice ma mn mc) rfl (by kernel_rfl) (by kernel_rfl) (by kernel_rfl) (fun _ _ _ h => h) (Or.inl ⟨by rfl, ?_⟩) hHeld ?_
  · (intro W hSW; have hSW2 := hSW.2; clear hSW; go_simp)
  simp only [Act.put, List.setIfInBounds_toArray, List.set_cons_zero, List.set_cons_succ]
  refine wpAnyH_take (i := 5) (v := .pointer (some ⟨w.heap.size, 2, none⟩)) rfl (by kernel_rfl) (by kernel_rfl) (by kernel_rfl) (fun _ _ _ h => h) (Or.inl ⟨by rfl, ?_⟩) hHeld ?_
  · (intro W hSW; have hSW2 := hSW.2; clear hSW; go_simp)
  simp only [Act.put, List.setIfInBounds_toArray, List.set_cons_zero, List.set_cons_succ]
  refine wpAnyH_take (i := 6) (v := .int .i64 seq) rfl (by kernel_rfl) (by kernel_rfl) (by kernel_rfl) (fun _ _ _ h => h) (Or.inl ⟨by rfl, ?_⟩) hHeld ?_
  · (intro W hSW; have hSW2 := hSW.2; clear hSW; go_simp)
  simp only [Act.put, List.setIfInBounds_toArray, List.set_cons_zero, List.set_cons_succ]
  refine wpAnyH_take (i := 7) (v := .pointer (some ⟨w.heap.size, 3, none⟩)) rfl (by kernel_rfl) (by kernel_rfl) (by kernel_rfl) (fun _ _ _ h => h) (Or.inl ⟨by rfl, ?_⟩) hHeld ?_
  · (intro W hSW; have hSW2 := hSW.2; clear hSW; go_simp)
  simp only [Act.put, List.setIfInBounds_toArray, List.set_cons_zero, List.set_cons_succ]
  refine wpAnyH_take (i := 8) (v := .int .i64 o) rfl (by kernel_rfl) (by kernel_rfl) (by kernel_rfl) (fun _ _ _ h => h) (Or.inl ⟨by rfl, ?_⟩) hHeld ?_
  · (intro W hSW; have hSW2 := hSW.2; clear hSW; go_simp)
  simp only [Act.put, List.setIfInBounds_toArray, List.set_cons_zero, List.set_cons_succ]
  refine wpAnyH_ready (rs := [1]) (by kernel_rfl) (by simp) ?_
  refine AllReadyH.cons rfl (fun K hK => ?_) AllReadyH.nil
  · go_simp
    refine (unhide HCH w0.drew).mono ?_
    rintro e wC ⟨g, H, rfl, hg, hO, hB⟩
    have HBC := hide ((unhide HBD).trans hB)
    have hsC := (unhide HBC).size
    have HOC := hide (And.intro (show w0.heap.size ≤ g from hg) hO)
    clear hg hO hB
    try go_wp2_with fail
    refine hK.out _ _ ?_ (fun hHeld2 => ?_)
    · (refine (fun H => ⟨unhide HRG _ H, H⟩) ?_; intro b o hb; exact (unhide HBC).cell (p := ⟨b, o, none⟩) (by show b < _; omega))
    clear hK K hHeld
    have hHeld := hHeld2
    clear hHeld2
    try simp only [Act.put, List.setIfInBounds_toArray, List.set_cons_zero, List.set_cons_succ]
    refine wpAnyH_ready (rs := [4]) (by kernel_rfl) (by simp) ?_
    refine AllReadyH.cons rfl (fun K hK => ?_) AllReadyH.nil
    go_simp
    refine (unhide HCL _ (unhide HBC)).mono ?_
    rintro e wF ⟨v, rfl, hv, hB⟩
    have hsF := hB.size
    have HBF := hide ((unhide HBC).trans (hB.mono hsC))
    obtain ⟨hg, hO⟩ := unhide HOC
    obtain ⟨ma2, mc2, rfl, hF2⟩ := FtlOwn.made (B := w0.heap.size) (C := w0.heap.size) (K := wC.heap.size) (unhide HLB) (hO.below hB (Nat.le_refl _)) (Nat.le_refl _) hg hO.row.lt (fun i hi => hO.lt (by rw [unhide HLB]; exact hi)) hsF (hv.lower hsC) (unhide HL) (fun k hk => by have := (hv.lt k hk).1; omega)
    have HF2 := hide hF2
    obtain ⟨hzc, hzf⟩ := unhide HZR wF (unhide HBF)
    have z0 := hzc 0
    have z1 := hzc 1
    have z2 := hzc 2
    have z3 := hzc 3
    simp at z0 z1 z2 z3
    have f0 := hzf 0
    have f1 := hzf 1
    have f2 := hzf 2
    have f3 := hzf 3
    clear hv hB hg hO hzc hzf hF2 HOC HCH HCL HZR
    try go_wp2_with fail
    refine hK.out _ _ ?_ (fun hHeld2 => ?_)
    · (refine (fun H => ⟨unhide HRG _ H, H⟩) ?_; intro b o hb; exact (unhide HBF).cell (p := ⟨b, o, none⟩) (by show b < _; omega))
    clear hK K hHeld
    have hHeld := hHeld2
    clear hHeld2
    try simp only [Act.put, List.setIfInBounds_toArray, List.set_cons_zero, List.set_cons_succ]
    refine wpAnyH_take (i := 9) (v := .agg #[.slice (some ⟨g, 0, none⟩) n n, .slice ma2 mn mc2, .int .i64 seq, .int .i64 o]) rfl (by kernel_rfl) (by kernel_rfl) (by kernel_rfl) (fun _ _ _ h => h) (Or.inl ⟨by rfl, ?_⟩) hHeld ?_
    · (intro W hSW; have hSW2 := hSW.2; clear hSW; go_simp)
    simp only [Act.put, List.setIfInBounds_toArray, List.set_cons_zero, List.set_cons_succ]
    refine wpAnyH_ready (rs := [10]) (by kernel_rfl) (by simp) ?_
    refine AllReadyH.cons rfl (fun K hK => ?_) AllReadyH.nil
    go_simp
    refine hK.out _ _ ?_ (fun hHeld2 => ?_)
    · (refine (fun H => ⟨unhide HRG _ H, H⟩) ?_; intro b o hb; rw [World.cell?_setCell_other _ _ _ _ (by simp <;> omega), World.cell?_setCell_other _ _ _ _ (by simp <;> omega), World.cell?_setCell_other _ _ _ _ (by simp <;> omega), World.cell?_setCell_other _ _ _ _ (by simp <;> omega)]; exact (unhide HBF).cell (p := ⟨b, o, none⟩) (by show b < _; omega))
    clear hK K hHeld
    have hHeld := hHeld2
    clear hHeld2
    try simp only [Act.put, List.setIfInBounds_toArray, List.set_cons_zero, List.set_cons_succ]
    refine wpAnyH_done (by kernel_rfl) ?_ _
    have hT5 : Touch (· = w.heap.size + 1 + 1) wF ((((wF.setCell ⟨w.heap.size + 1 + 1, 0, none⟩ (.slice (some ⟨g, 0, none⟩) n n)).setCell ⟨w.heap.size + 1 + 1, 1, none⟩ (.slice ma2 mn mc2)).setCell ⟨w.heap.size + 1 + 1, 2, none⟩ (.int .i64 seq)).setCell ⟨w.heap.size + 1 + 1, 3, none⟩ (.int .i64 o)) := touch4 wF (w.heap.size + 1 + 1) _ _ _ _
    obtain ⟨W5, hW5⟩ : ∃ W5, W5 = (((wF.setCell ⟨w.heap.size + 1 + 1, 0, none⟩ (.slice (some ⟨g, 0, none⟩) n n)).setCell ⟨w.heap.size + 1 + 1, 1, none⟩ (.slice ma2 mn mc2)).setCell ⟨w.heap.size + 1 + 1, 2, none⟩ (.int .i64 seq)).setCell ⟨w.heap.size + 1 + 1, 3, none⟩ (.int .i64 o) := ⟨_, rfl⟩
    have y0 : W5.cell? ⟨w.heap.size + 1 + 1, 0, none⟩ = some (.slice (some ⟨g, 0, none⟩) n n) := by rw [hW5, World.cell?_setCell_other _ _ _ _ (by simp), World.cell?_setCell_other _ _ _ _ (by simp), World.cell?_setCell_other _ _ _ _ (by simp), World.cell?_setCell_same' _ _ _ (by rw [z0]; rfl)]
    have y1 : W5.cell? ⟨w.heap.size + 1 + 1, 1, none⟩ = some (.slice ma2 mn mc2) := by rw [hW5, World.cell?_setCell_other _ _ _ _ (by simp), World.cell?_setCell_other _ _ _ _ (by simp), World.cell?_setCell_same' _ _ _ (by rw [World.cell?_setCell_other _ _ _ _ (by simp), z1]; rfl)]
    have y2 : W5.cell? ⟨w.heap.size + 1 + 1, 2, none⟩ = some (.int .i64 seq) := by rw [hW5, World.cell?_setCell_other _ _ _ _ (by simp), World.cell?_setCell_same' _ _ _ (by rw [World.cell?_setCell_other _ _ _ _ (by simp), World.cell?_setCell_other _ _ _ _ (by simp), z2]; rfl)]
    have y3 : W5.cell? ⟨w.heap.size + 1 + 1, 3, none⟩ = some (.int .i64 o) := by rw [hW5, World.cell?_setCell_same' _ _ _ (by rw [World.cell?_setCell_other _ _ _ _ (by simp), World.cell?_setCell_other _ _ _ _ (by simp), World.cell?_setCell_other _ _ _ _ (by simp), z3]; rfl)]
    have hs5 : W5.heap.size = wF.heap.size := by rw [hW5]; simp [World.setCell]
    rw [← hW5] at hT5 ⊢
    have HFF : Hid (FtlOwn W5 w.heap.size W5.heap.size (some ⟨g, 0, none⟩) n n bs ma2 mn L) := by rw [hs5]; exact ((unhide HF2).touch hT5 (fun k hk => by rw [hk]; exact hsl)).lower (by omega)
    have hWW : Below w.heap.size w W5 := (hB0.trans ((unhide HBF).mono hB0.size)).trans (hT5.below (by omega) (fun k hk => by rw [hk]; omega))
    clear hW5 hT5 z0 z1 z2 z3 f0 f1 f2 f3 k1 k2 k3 hHeld
    go_wp2
    exact bodyPost_ret (v := .agg #[.slice (some ⟨g, 0, none⟩) n n, .slice ma2 mn mc2, .int .i64 seq, .int .i64 o]) (by simp [results, Try.results100, go_sem, y0, y1, y2, y3]) rfl ⟨g, ma2, mc2, rfl, unhide HFF, hWW⟩
end Go.Proofs.Ytimencianaclmaa

/- The program's workers: told. -/
namespace Go.Proofs.Ytimencianaclmaa
open Go.RowKit
set_option linter.unusedVariables false
set_option linter.unusedSimpArgs false

set_option maxRecDepth 100000 in
set_option maxHeartbeats 4000000 in
theorem told_any (g : Nat) (m : CC) (bs : List Bk) (n : Nat) (hl : bs.length = n) (hct : m.count = n) (hbs : ccBs m n = bs) (va : Value) (hva : ∃ x y z, va = .slice x y z) (ma : Option Addr) (mn mc : Nat) (L : List Int) (hL : L.length = mn) (seq o : Int) (hok : FtlOk bs L seq o) (w : World) (h : WorkAt w g m va ma mn mc seq o) (hI : IntsAt w ma L) :
    Calls Try.prog 167 #[.pointer (some ⟨g, 0, none⟩), .bool false] w fun e w' => ∃ k ma2 mc2, e = .returned (.agg #[.slice (some ⟨k, 0, none⟩) n n, .slice ma2 mn mc2, .int .i64 seq, .int .i64 o]) ∧ FtlOwn w' w.heap.size w'.heap.size (some ⟨k, 0, none⟩) n n bs ma2 mn L ∧ Below w.heap.size w w' := by
  have hcop := copied_any va hva m bs n hl hct hbs ma mc L mn hL seq o hok
  obtain ⟨vx, vy, vz, rfl⟩ := hva
  have hgl := h.lt
  obtain ⟨w0, hw0⟩ : ∃ w0, w0 = w.alloc (.cells #[.slice none 0 0, .slice none 0 0, .int .i64 0, .int .i64 0] 44) := ⟨_, rfl⟩
  have hs0 : w0.heap.size = w.heap.size + 1 := by rw [hw0]; simp
  have hB0 : Below w.heap.size w w0 := by rw [hw0]; exact (Below.refl _ w).alloc (Nat.le_refl _) _
  have hr0 : w0.heap[w.heap.size]? = some (.cells #[.slice none 0 0, .slice none 0 0, .int .i64 0, .int .i64 0] 44 (0, 0)) := by rw [hw0]; exact World.alloc_heap_new w _
  have hW0 := h.below hB0 hgl
  obtain ⟨cs, hcs⟩ : ∃ cs, cs = (ccA m).toList := ⟨_, rfl⟩
  have hcs2 : ccA m = cs.toArray := by rw [hcs]
  have hcl : cs.length = 205 := by rw [hcs]; simp [ccA_size]
  have hi97 : (Try.prog.info? 109).map (·.size) = some cs.length := by rw [hcl]; exact sizeCC'
  have HSW : Hid (∀ W, Below w0.heap.size w0 W → W.rangeAt g 0 cs ∧ W.cell? ⟨g, 205, none⟩ = some (.slice vx vy vz) ∧ W.cell? ⟨g, 206, none⟩ = some (.slice ma mn mc) ∧ W.cell? ⟨g, 207, none⟩ = some (.int .i64 seq) ∧ W.cell? ⟨g, 208, none⟩ = some (.int .i64 o)) := fun W hW => by
    have hh := hW0.below hW (by omega)
    refine ⟨fun j v hv => ?_, hh.chip, hh.map, hh.seq, hh.opn⟩
    have hj : j < 205 := by
      rw [← hcl]
      exact (List.getElem?_eq_some_iff.mp hv).1
    rw [Nat.zero_add, hh.cells j hj, hcs2]
    simpa using hv
  have HZR : Hid (∀ W, Below w0.heap.size w0 W → (∀ i, W.cell? ⟨w.heap.size, i, none⟩ = (#[Value.slice none 0 0, .slice none 0 0, .int .i64 0, .int .i64 0])[i]?) ∧ ∀ i, W.frozen? ⟨w.heap.size, i, none⟩ = false) := fun W hW => by
    have hr := (hW.block w.heap.size (by omega)).trans hr0
    exact ⟨fun i => cell_of_row _ _ i _ _ _ hr, fun i => frozen_of_row _ _ i _ _ hr⟩
  have HCOP := hide (fun W (hW : Below w0.heap.size w0 W) => hcop W ((hI.below hB0 (Nat.le_refl _)).below hW (Nat.le_refl _)))
  rw [hcs2] at HCOP
  clear hcop hr0 hW0 hcs hcs2 hcl h hI hok hL hl hct hbs
  go_enter Try.func167, Try.ntmps167
  go_upto_region 5 with fail
  rw [← hw0]
  clear hw0
  have HBD : Hid (Below w0.heap.size w0 w0.drew) := (Below.refl _ _).drew
  have hmix : Try.prog.follows .mixedOrders = true := by kernel_rfl
  refine wp_region_held_drew (S := fun W => W.rangeAt g 0 cs ∧ W.cell? ⟨g, 205, none⟩ = some (.slice vx vy vz) ∧ W.cell? ⟨g, 206, none⟩ = some (.slice ma mn mc) ∧ W.cell? ⟨g, 207, none⟩ = some (.int .i64 seq) ∧ W.cell? ⟨g, 208, none⟩ = some (.int .i64 o)) hmix (unhide HSW _ (unhide HBD)) (fun hHeld => ?_)
  refine wpAnyH_take (i := 0) (v := .pointer (some ⟨g, 0, none⟩)) rfl (by kernel_rfl) (by kernel_rfl) (by kernel_rfl) (fun _ _ _ h => h) (Or.inl ⟨by rfl, ?_⟩) hHeld ?_
  · (intro W hSW; obtain ⟨-, s0, s1, s2, s3⟩ := hSW; go_simp)
  simp only [Act.put, List.setIfInBounds_toArray, List.set_cons_zero, List.set_cons_succ]
  refine wpAnyH_take (i := 1) (v := .pointer (some ⟨g, 0, none⟩)) rfl (by kernel_rfl) (by kernel_rfl) (by kernel_rfl) (fun _ _ _ h => h) (Or.inl ⟨by rfl, ?_⟩) hHeld ?_
  · (intro W hSW; obtain ⟨-, s0, s1, s2, s3⟩ := hSW; go_simp)
  simp only [Act.put, List.setIfInBounds_toArray, List.set_cons_zero, List.set_cons_succ]
  refine wpAnyH_take (i := 2) (v := .pointer (some ⟨g, 205, none⟩)) rfl (by kernel_rfl) (by kernel_rfl) (by kernel_rfl) (fun _ _ _ h => h) (Or.inl ⟨by rfl, ?_⟩) hHeld ?_
  · (intro W hSW; obtain ⟨-, s0, s1, s2, s3⟩ := hSW; go_simp)
  simp only [Act.put, List.setIfInBounds_toArray, List.set_cons_zero, List.set_cons_succ]
  refine wpAnyH_take (i := 3) (v := .agg #[.slice vx vy vz, .slice ma mn mc, .int .i64 seq, .int .i64 o]) rfl (by kernel_rfl) (by kernel_rfl) (by kernel_rfl) (fun _ _ _ h => h) (Or.inl ⟨by rfl, ?_⟩) hHeld ?_
  · (intro W hSW; obtain ⟨-, s0, s1, s2, s3⟩ := hSW; go_simp)
  simp only [Act.put, List.setIfInBounds_toArray, List.set_cons_zero, List.set_cons_succ]
  refine wpAnyH_take (i := 4) (v := .pointer (some ⟨g, 0, none⟩)) rfl (by kernel_rfl) (by kernel_rfl) (by kernel_rfl) (fun _ _ _ h => h) (Or.inl ⟨by rfl, ?_⟩) hHeld ?_
  · (intro W hSW; obtain ⟨-, s0, s1, s2, s3⟩ := hSW; go_simp)
  simp only [Act.put, List.setIfInBounds_toArray, List.set_cons_zero, List.set_cons_succ]
  refine wpAnyH_take (i := 5) (v := .pointer (some ⟨g, 0, none⟩)) rfl (by kernel_rfl) (by kernel_rfl) (by kernel_rfl) (fun _ _ _ h => h) (Or.inl ⟨by rfl, ?_⟩) hHeld ?_
  · (intro W hSW; obtain ⟨-, s0, s1, s2, s3⟩ := hSW; go_simp)
  simp only [Act.put, List.setIfInBounds_toArray, List.set_cons_zero, List.set_cons_succ]
  refine wpAnyH_take (i := 6) (v := .pointer (some ⟨g, 0, none⟩)) rfl (by kernel_rfl) (by kernel_rfl) (by kernel_rfl) (fun _ _ _ h => h) (Or.inl ⟨by rfl, ?_⟩) hHeld ?_
  · (intro W hSW; obtain ⟨-, s0, s1, s2, s3⟩ := hSW; go_simp)
  simp only [Act.put, List.setIfInBounds_toArray, List.set_cons_zero, List.set_cons_succ]
  refine wpAnyH_take (i := 7) (v := .agg cs.toArray) rfl (by kernel_rfl) (by kernel_rfl) (by kernel_rfl) (fun _ _ _ h => h) (yieldsIf_load_mid (by rfl) _ _ rfl _ _ rfl cs _ (fun W hS => hS.1) Try.underlying109 rfl hi97) hHeld ?_
  simp only [Act.put, List.setIfInBounds_toArray, List.set_cons_zero, List.set_cons_succ]
  refine wpAnyH_ready (rs := [8]) (by kernel_rfl) (by simp) ?_
  refine AllReadyH.cons rfl (fun K hK => ?_) AllReadyH.nil
  go_simp
  refine (unhide HCOP w0.drew (unhide HBD)).mono ?_
  rintro e wC ⟨k, ma2, mc2, rfl, hF, hB⟩
  have HBC := hide ((unhide HBD).trans hB)
  have hsC := (unhide HBC).size
  have HF2 := hide hF
  clear hF hB
  try go_wp2_with fail
  refine hK.out _ _ ?_ (fun hHeld2 => ?_)
  · exact unhide HSW _ (unhide HBC)
  clear hK K hHeld
  have hHeld := hHeld2
  clear hHeld2
  try simp only [Act.put, List.setIfInBounds_toArray, List.set_cons_zero, List.set_cons_succ]
  obtain ⟨hzc, hzf⟩ := unhide HZR wC (unhide HBC)
  have z0 := hzc 0
  have z1 := hzc 1
  have z2 := hzc 2
  have z3 := hzc 3
  simp at z0 z1 z2 z3
  have f0 := hzf 0
  have f1 := hzf 1
  have f2 := hzf 2
  have f3 := hzf 3
  clear hzc hzf
  refine wpAnyH_ready (rs := [9]) (by kernel_rfl) (by simp) ?_
  refine AllReadyH.cons rfl (fun K hK => ?_) AllReadyH.nil
  go_simp
  refine hK.out _ _ ?_ (fun hHeld2 => ?_)
  · (obtain ⟨q, q0, q1, q2, q3⟩ := unhide HSW _ (unhide HBC); exact ⟨fun j v hv => by rw [World.cell?_setCell_other _ _ _ _ (by simp <;> omega), World.cell?_setCell_other _ _ _ _ (by simp <;> omega), World.cell?_setCell_other _ _ _ _ (by simp <;> omega), World.cell?_setCell_other _ _ _ _ (by simp <;> omega)]; exact q j v hv, by rw [World.cell?_setCell_other _ _ _ _ (by simp <;> omega), World.cell?_setCell_other _ _ _ _ (by simp <;> omega), World.cell?_setCell_other _ _ _ _ (by simp <;> omega), World.cell?_setCell_other _ _ _ _ (by simp <;> omega)]; exact q0, by rw [World.cell?_setCell_other _ _ _ _ (by simp <;> omega), World.cell?_setCell_other _ _ _ _ (by simp <;> omega), World.cell?_setCell_other _ _ _ _ (by simp <;> omega), World.cell?_setCell_other _ _ _ _ (by simp <;> omega)]; exact q1, by rw [World.cell?_setCell_other _ _ _ _ (by simp <;> omega), World.cell?_setCell_other _ _ _ _ (by simp <;> omega), World.cell?_setCell_other _ _ _ _ (by simp <;> omega), World.cell?_setCell_other _ _ _ _ (by simp <;> omega)]; exact q2, by rw [World.cell?_setCell_other _ _ _ _ (by simp <;> omega), World.cell?_setCell_other _ _ _ _ (by simp <;> omega), World.cell?_setCell_other _ _ _ _ (by simp <;> omega), World.cell?_setCell_other _ _ _ _ (by simp <;> omega)]; exact q3⟩)
  clear hK K hHeld
  have hHeld := hHeld2
  clear hHeld2
  try simp only [Act.put, List.setIfInBounds_toArray, List.set_cons_zero, List.set_cons_succ]
  refine wpAnyH_done (by kernel_rfl) ?_ _
  obtain ⟨W5, hW5⟩ : ∃ W5, W5 = ((((wC.setCell ⟨w.heap.size, 0, none⟩ (.slice (some ⟨k, 0, none⟩) n n)).setCell ⟨w.heap.size, 1, none⟩ (.slice ma2 mn mc2)).setCell ⟨w.heap.size, 2, none⟩ (.int .i64 seq)).setCell ⟨w.heap.size, 3, none⟩ (.int .i64 o)) := ⟨_, rfl⟩
  have y0 : W5.cell? ⟨w.heap.size, 0, none⟩ = some (.slice (some ⟨k, 0, none⟩) n n) := by rw [hW5, World.cell?_setCell_other _ _ _ _ (by simp), World.cell?_setCell_other _ _ _ _ (by simp), World.cell?_setCell_other _ _ _ _ (by simp), World.cell?_setCell_same' _ _ _ (by rw [z0]; rfl)]
  have y1 : W5.cell? ⟨w.heap.size, 1, none⟩ = some (.slice ma2 mn mc2) := by rw [hW5, World.cell?_setCell_other _ _ _ _ (by simp), World.cell?_setCell_other _ _ _ _ (by simp), World.cell?_setCell_same' _ _ _ (by rw [World.cell?_setCell_other _ _ _ _ (by simp), z1]; rfl)]
  have y2 : W5.cell? ⟨w.heap.size, 2, none⟩ = some (.int .i64 seq) := by rw [hW5, World.cell?_setCell_other _ _ _ _ (by simp), World.cell?_setCell_same' _ _ _ (by rw [World.cell?_setCell_other _ _ _ _ (by simp), World.cell?_setCell_other _ _ _ _ (by simp), z2]; rfl)]
  have y3 : W5.cell? ⟨w.heap.size, 3, none⟩ = some (.int .i64 o) := by rw [hW5, World.cell?_setCell_same' _ _ _ (by rw [World.cell?_setCell_other _ _ _ _ (by simp), World.cell?_setCell_other _ _ _ _ (by simp), World.cell?_setCell_other _ _ _ _ (by simp), z3]; rfl)]
  have hT5 := touch4 wC w.heap.size (.slice (some ⟨k, 0, none⟩) n n) (.slice ma2 mn mc2) (.int .i64 seq) (.int .i64 o)
  rw [← hW5] at hT5
  have hs5 : W5.heap.size = wC.heap.size := by rw [hW5]; simp [World.setCell]
  have hWW : Below w.heap.size w W5 := (hB0.trans ((unhide HBC).mono hB0.size)).trans (hT5.below (by omega) (fun k hk => by rw [hk]; omega))
  have HFF : Hid (FtlOwn W5 w.heap.size W5.heap.size (some ⟨k, 0, none⟩) n n bs ma2 mn L) := by rw [hs5]; exact ((unhide HF2).touch hT5 (fun k hk => by rw [hk]; simp; omega)).lower (by simp; omega)
  try rw [← hW5]
  clear hT5 z0 z1 z2 z3 f0 f1 f2 f3 hHeld
  clear hW5
  go_wp2
  exact bodyPost_ret (v := .agg #[.slice (some ⟨k, 0, none⟩) n n, .slice ma2 mn mc2, .int .i64 seq, .int .i64 o]) (by simp [results, Try.results167, go_sem, y0, y1, y2, y3]) rfl ⟨k, ma2, mc2, rfl, unhide HFF, hWW⟩
end Go.Proofs.Ytimencianaclmaa

/- Many writes, one by one: in plain lists. No program is named here. -/
namespace Go.Proofs.Ytimencianaclmaa
open Go.RowKit
set_option linter.unusedVariables false
set_option linter.unusedSimpArgs false

/-- A member, in plain lists. -/
structure Mb where
  bs : List Bk
  L : List Int
  seq : Int
  o : Int
def Mb.Ok (m : Mb) : Prop := FtlOk m.bs m.L m.seq m.o
def Mb.zero : Mb := ⟨[], [], 0, 0⟩
def WrM (m : Mb) (x : Int × ByteArray) (m' : Mb) (code : Int) : Prop := WrittenIs m.bs m.L m.seq m.o x.1 x.2 m'.bs m'.L m'.seq m'.o code
theorem WrM.one {m : Mb} {x : Int × ByteArray} {m1 m2 : Mb} {c1 c2 : Int} (h : WrM m x m1 c1) (k : WrM m x m2 c2) : m1 = m2 ∧ c1 = c2 := by
  obtain ⟨e1, e2, e3, e4, e5⟩ := WrittenIs.one h k
  obtain ⟨b1, l1, s1, o1⟩ := m1
  obtain ⟨b2, l2, s2, o2⟩ := m2
  simp only at e1 e2 e3 e4
  subst e1 e2 e3 e4
  exact ⟨rfl, e5⟩
/-- Writes that are all taken. -/
def Steps : List (Int × ByteArray) → Mb → Mb → Prop
  | [], m, m' => m' = m
  | x :: xs, m, m' => ∃ mid, WrM m x mid 0 ∧ Steps xs mid m'
theorem Steps.one : ∀ {xs : List (Int × ByteArray)} {m m1 m2 : Mb}, Steps xs m m1 → Steps xs m m2 → m1 = m2 := by
  intro xs
  induction xs with
  | nil => intro m m1 m2 h k; exact h.trans k.symm
  | cons x xs ih =>
    rintro m m1 m2 ⟨a, h1, h2⟩ ⟨b, k1, k2⟩
    obtain ⟨rfl, _⟩ := h1.one k1
    exact ih h2 k2
theorem steps_append : ∀ {xs ys : List (Int × ByteArray)} {m m' : Mb}, Steps (xs ++ ys) m m' ↔ ∃ mid, Steps xs m mid ∧ Steps ys mid m' := by
  intro xs
  induction xs with
  | nil =>
    intro ys m m'
    exact ⟨fun h => ⟨m, rfl, h⟩, fun ⟨mid, h1, h2⟩ => by cases h1; exact h2⟩
  | cons x xs ih =>
    intro ys m m'
    constructor
    · rintro ⟨a, h1, h2⟩
      obtain ⟨mid, k1, k2⟩ := ih.1 h2
      exact ⟨mid, ⟨a, h1, k1⟩, k2⟩
    · rintro ⟨mid, ⟨a, h1, k1⟩, k2⟩
      exact ⟨a, h1, ih.2 ⟨mid, k1, k2⟩⟩
theorem steps_snoc {xs : List (Int × ByteArray)} {k : Nat} {x : Int × ByteArray} (hx : xs[k]? = some x) {m mid m' : Mb} (h : Steps (xs.take k) m mid) (hw : WrM mid x m' 0) : Steps (xs.take (k + 1)) m m' := by
  obtain ⟨hk, rfl⟩ := List.getElem?_eq_some_iff.1 hx
  rw [List.take_succ_eq_append_getElem hk]
  exact steps_append.2 ⟨mid, h, m', hw, rfl⟩
theorem Steps.at : ∀ {xs : List (Int × ByteArray)} {m m' : Mb} {k : Nat} {x : Int × ByteArray}, Steps xs m m' → xs[k]? = some x → ∃ a b, Steps (xs.take k) m a ∧ WrM a x b 0 := by
  intro xs m m' k x h hx
  obtain ⟨hk, rfl⟩ := List.getElem?_eq_some_iff.1 hx
  have e : xs = xs.take k ++ (xs[k] :: xs.drop (k + 1)) := by simp
  rw [e] at h
  obtain ⟨mid, h1, b, h2, _⟩ := steps_append.1 h
  exact ⟨mid, b, h1, h2⟩
/-- A write that is not taken, behind others that are. -/
def Stops (xs : List (Int × ByteArray)) (m : Mb) (code : Int) : Prop := code ≠ 0 ∧ ∃ k x mid m', xs[k]? = some x ∧ Steps (xs.take k) m mid ∧ WrM mid x m' code
theorem Stops.not {xs : List (Int × ByteArray)} {m m' : Mb} {code : Int} (h : Stops xs m code) (k : Steps xs m m') : False := by
  obtain ⟨h0, i, x, mid, m2, hx, h1, h2⟩ := h
  obtain ⟨a, b, k1, k2⟩ := k.at hx
  obtain rfl := h1.one k1
  exact h0 (h2.one k2).2
theorem Stops.one {xs : List (Int × ByteArray)} {m : Mb} {c1 c2 : Int} (h : Stops xs m c1) (k : Stops xs m c2) : c1 = c2 := by
  obtain ⟨h0, i, x, mid, m2, hx, h1, h2⟩ := h
  obtain ⟨k0, j, y, mid', m3, hy, k1, k2⟩ := k
  rcases Nat.lt_trichotomy i j with hlt | rfl | hlt
  · exfalso
    obtain ⟨a, b, q1, q2⟩ := k1.at (k := i) (x := x) (by rw [List.getElem?_take, if_pos hlt]; exact hx)
    rw [List.take_take, Nat.min_eq_left (by omega)] at q1
    obtain rfl := h1.one q1
    exact h0 (h2.one q2).2
  · rw [hx] at hy
    cases hy
    obtain rfl := h1.one k1
    exact (h2.one k2).2
  · exfalso
    obtain ⟨a, b, q1, q2⟩ := h1.at (k := j) (x := y) (by rw [List.getElem?_take, if_pos hlt]; exact hy)
    rw [List.take_take, Nat.min_eq_left (by omega)] at q1
    obtain rfl := k1.one q1
    exact k0 (k2.one q2).2
/-- May these be written together? -/
def manyOk (lgs : List Int) (ds : List ByteArray) : Prop := lgs.length = ds.length ∧ lgs.length ≤ 100
/-- What WrittenAll answers. -/
def WAllIs (m : Mb) (lgs : List Int) (ds : List ByteArray) (m' : Mb) (code : Int) : Prop :=
  (¬ m.Ok ∧ m' = Mb.zero ∧ code = 1) ∨ (m.Ok ∧ ¬ manyOk lgs ds ∧ m' = m ∧ code = 2) ∨ (m.Ok ∧ manyOk lgs ds ∧ m' = m ∧ Stops (lgs.zip ds) m code) ∨ (m.Ok ∧ manyOk lgs ds ∧ Steps (lgs.zip ds) m m' ∧ code = 0)
theorem WAllIs.one {m : Mb} {lgs : List Int} {ds : List ByteArray} {m1 m2 : Mb} {c1 c2 : Int} (h : WAllIs m lgs ds m1 c1) (k : WAllIs m lgs ds m2 c2) : m1 = m2 ∧ c1 = c2 := by
  rcases h with ⟨h0, rfl, rfl⟩ | ⟨h0, h1, rfl, rfl⟩ | ⟨h0, h1, rfl, h2⟩ | ⟨h0, h1, h2, rfl⟩
  · rcases k with ⟨_, rfl, rfl⟩ | ⟨k0, _⟩ | ⟨k0, _⟩ | ⟨k0, _⟩
    · exact ⟨rfl, rfl⟩
    · exact absurd k0 h0
    · exact absurd k0 h0
    · exact absurd k0 h0
  · rcases k with ⟨k0, _⟩ | ⟨_, _, rfl, rfl⟩ | ⟨_, k1, _⟩ | ⟨_, k1, _⟩
    · exact absurd h0 k0
    · exact ⟨rfl, rfl⟩
    · exact absurd k1 h1
    · exact absurd k1 h1
  · rcases k with ⟨k0, _⟩ | ⟨_, k1, _⟩ | ⟨_, _, rfl, k2⟩ | ⟨_, _, k2, _⟩
    · exact absurd h0 k0
    · exact absurd h1 k1
    · exact ⟨rfl, h2.one k2⟩
    · exact (h2.not k2).elim
  · rcases k with ⟨k0, _⟩ | ⟨_, k1, _⟩ | ⟨_, _, _, k2⟩ | ⟨_, _, k2, rfl⟩
    · exact absurd h0 k0
    · exact absurd h1 k1
    · exact (k2.not h2).elim
    · exact ⟨h2.one k2, rfl⟩
/-- Of what is written no list is long. -/
def Mb.Short (m : Mb) : Prop := Lens 1048576 m.bs ∧ m.bs.length ≤ 12 ∧ m.L.length ≤ 36
theorem Mb.Ok.short {m : Mb} (h : m.Ok) : m.Short := ⟨lens_of_ok h.chip, h.chip.count.2, h.len36⟩
theorem WrM.short {m : Mb} {x : Int × ByteArray} {m' : Mb} {code : Int} (h : WrM m x m' code) : m'.Short := WrittenIs.short h
theorem Steps.short : ∀ {xs : List (Int × ByteArray)} {m m' : Mb}, Steps xs m m' → m.Short → m'.Short := by
  intro xs
  induction xs with
  | nil => intro m m' h k; cases h; exact k
  | cons x xs ih =>
    rintro m m' ⟨a, h1, h2⟩ _
    exact ih h2 h1.short
theorem Mb.short_zero : Mb.zero.Short := ⟨⟨by simp [Mb.zero], fun b hb => by simp [Mb.zero] at hb⟩, by simp [Mb.zero], by simp [Mb.zero]⟩
theorem WAllIs.short {m : Mb} {lgs : List Int} {ds : List ByteArray} {m' : Mb} {code : Int} (h : WAllIs m lgs ds m' code) : m'.Short := by
  rcases h with ⟨_, rfl, _⟩ | ⟨h0, _, rfl, _⟩ | ⟨h0, _, rfl, _⟩ | ⟨h0, _, h2, _⟩
  · exact Mb.short_zero
  · exact h0.short
  · exact h0.short
  · exact h2.short h0.short
end Go.Proofs.Ytimencianaclmaa
