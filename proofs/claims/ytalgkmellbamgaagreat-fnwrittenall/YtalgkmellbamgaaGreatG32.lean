/- 4 texts in one. -/
import Derived.Test.YtalgkmellbamgaaGreatG19
import Derived.WalkKit
import Derived.Outline
import Derived.Deep.AppendLies
import Derived.Test.YtalgkmellbamgaaGreatG03
import Derived.Test.YtalgkmellbamgaaGreatG25
import Derived.Test.YtalgkmellbamgaaGreatG28
import Derived.Test.YtalgkmellbamgaaGreatG18
import Derived.Deep.MidRow
import Derived.Deep.RegionHeld3
import Derived.Deep.DeepCutAuto
import Derived.Test.YtalgkmellbamgaaGreatG31

/- A list of numbers is copied: slices.Clone. -/
namespace Go.Proofs.YtalgkmellbamgaaGreat
open Go.RowKit
set_option linter.unusedVariables false
set_option linter.unusedSimpArgs false

theorem equalIn_nil {P : Program} {t e : TypeId} (d : Nat) (x : Addr) (n c : Nat) (ht : P.underlying t = some (.slice e)) (W : World) : (Op.equalIn (d + 1) t (.slice (some x) n c) (.slice none 0 0)).run P W = .ok false W := by
  simp [Op.equalIn, run_underlying ht]
theorem nil_ne {P : Program} {t e : TypeId} (x : Addr) (n c : Nat) (ht : P.underlying t = some (.slice e)) (W : World) : (binOp BinOp.eql t (.slice (some x) n c) (.slice none 0 0)).run P W = .ok (.bool false) W := by
  have h := equalIn_nil 9999 x n c ht W
  simp only [binOp]
  simp [Op.equal, Op.maxDepth, h]

set_option maxRecDepth 100000 in
set_option maxHeartbeats 1000000 in
theorem clone_any (ma : Option Addr) (mc : Nat) (L : List Int) (mn : Nat) (hL : L.length = mn) (h1 : 1 ≤ mn) (h36 : mn ≤ 1048576) (w : World) (hI : IntsAt w ma L) :
    Calls Tryz.prog 68 #[.slice ma mn mc] w fun e w' => ∃ v, e = .returned v ∧ OwnInts w' 2 w.heap.size v L ∧ Below w.heap.size w w' := by
  obtain ⟨i0, hi, hz0, hz1, hz2⟩ := info_parts infoInt64I
  obtain ⟨x, hx⟩ := getElem?_ex (l := L) (k := 0) (by omega)
  obtain ⟨b1, o1, rfl, _⟩ := hI 0 x hx
  obtain ⟨X, hX⟩ : ∃ X, X = ints L := ⟨_, rfl⟩
  have hXl : X.length = mn * 1 := by rw [hX, ints_length]; omega
  have hX1 : ∀ u ∈ X, u.oneCell' = true := fun u hu => by rw [hX] at hu; simp [ints] at hu; obtain ⟨y, _, rfl⟩ := hu; rfl
  have HI := hide (hI.below ((Below.refl _ w).alloc (Nat.le_refl _) (.cells #[] 2)) (Nat.le_refl _))
  have HXN : Hid (∀ j u, X[j]? = some u → (w.alloc (.cells #[] 2)).cell? ((⟨b1, o1, none⟩ : Addr).add j) = some u) := fun j u hu => by
    rw [hX] at hu
    simp only [ints, List.getElem?_map, Option.map_eq_some_iff] at hu
    obtain ⟨y, hy, rfl⟩ := hu
    obtain ⟨b2, o2, e2, hcy⟩ := (unhide HI) j y hy
    cases e2
    rw [Go.WideShapes.add_plain]
    exact hcy
  have HX := hide hX
  have HL := hide hL
  have HR : Hid ((w.alloc (.cells #[] 2)).ownsRow w.heap.size 2 1 (.slice (some ⟨w.heap.size, 0, none⟩) 0 0) 0 []) := by
    have := World.ownsRow_lit (base := w.heap.size) (e := 2) (size := 1) w #[] 0 (Nat.le_refl _) (by unfold maxLen; omega) rfl
    refine hide ?_
    simpa using this
  have hnil : ∀ W : World, (binOp BinOp.eql 27 (.slice (some ⟨b1, o1, none⟩) mn mc) (.slice none 0 0)).run Tryz.prog W = .ok (.bool false) W := nil_ne _ _ _ Tryz.underlying27
  clear hI hx hL hX
  go_enter Tryz.func68, Tryz.ntmps68
  go_wp2_with (refine wpList_append_lies _ rfl (.tmp 5) (.tmp 6) 27 rfl w.heap.size 2 i0 _ 1 8 Tryz.underlying27 hi hz0 hz1 hz2 rfl (by decide) (.slice (some ⟨w.heap.size, 0, none⟩) 0 0) 0 [] (by simp [Act.eval]) (unhide HR) ⟨b1, o1, none⟩ mn mc X (by simp [Act.eval]) hXl (unhide HXN) hX1 (by omega) (by unfold maxLen; omega) (by omega) (by simp) _ rfl ?_; intro g1 cap wE hown hgrow hat hlt1)
  go_ret
  refine ⟨_, rfl, ?_, ?_⟩
  · unfold OwnInts
    rw [unhide HL, ← unhide HX]
    simpa using hown
  · exact Below.grown ((Below.refl _ w).alloc (Nat.le_refl _) _) hgrow (by simp) (fun j e => ((unhide HR).lt j e).1)
end Go.Proofs.YtalgkmellbamgaaGreat

/- A member is copied, and made of cells: the program's copied and memberOf. -/
namespace Go.Proofs.YtalgkmellbamgaaGreat
open Go.RowKit
set_option linter.unusedVariables false
set_option linter.unusedSimpArgs false

theorem touch4 (w : World) (P : Nat) (v0 v1 v2 v3 : Value) : Touch (fun k => k = P) w ((((w.setCell ⟨P, 0, none⟩ v0).setCell ⟨P, 1, none⟩ v1).setCell ⟨P, 2, none⟩ v2).setCell ⟨P, 3, none⟩ v3) := by
  have h0 : Touch (fun k => k = P) w w := Touch.refl _ _
  have h1 := Touch.setCell (p := ⟨P, 0, none⟩) h0 rfl v0
  have h2 := Touch.setCell (p := ⟨P, 1, none⟩) h1 rfl v1
  have h3 := Touch.setCell (p := ⟨P, 2, none⟩) h2 rfl v2
  exact Touch.setCell (p := ⟨P, 3, none⟩) h3 rfl v3
theorem FtlOwn.lower {w : World} {B B' T : Nat} {a : Option Addr} {n c : Nat} {out : List Bk} {ma : Option Addr} {mn : Nat} {L : List Int} (h : FtlOwn w B T a n c out ma mn L) (hB : B' ≤ B) : FtlOwn w B' T a n c out ma mn L := by
  obtain ⟨h0, h1, h2, h6, C, K, h3, h4, h5⟩ := h
  refine ⟨h0, h1, ?_, h6, C, K, by omega, h4, h5⟩
  rcases h2 with h2 | ⟨g, q1, q2, q3⟩
  · exact .inl h2
  · exact .inr ⟨g, q1, by omega, q3⟩
theorem FtlOwn.higher {w : World} {B T T' : Nat} {a : Option Addr} {n c : Nat} {out : List Bk} {ma : Option Addr} {mn : Nat} {L : List Int} (h : FtlOwn w B T a n c out ma mn L) (hT : T ≤ T') : FtlOwn w B T' a n c out ma mn L := by
  obtain ⟨h0, h1, h2, h6, C, K, h3, h4, h5, h7⟩ := h
  exact ⟨h0, h1, h2, fun g hg => by have := h6 g hg; omega, C, K, h3, h4, by omega, h7⟩
/-- A chip and a map, each made by a call of its own. -/
theorem FtlOwn.made {w : World} {B C K : Nat} {g : Nat} {H : Nat → Nat} {n : Nat} {out : List Bk} {v : Value} {mn : Nat} {L : List Int} (hl : out.length = n) (hO : OwnBlocks w 120 59 g H n out) (hBC : B ≤ C) (hg : C ≤ g) (hgK : g < K) (hH : ∀ i, i < n → H i < K) (hK : K ≤ w.heap.size)
    (hI : OwnInts w 2 B v L) (hL : L.length = mn) (hap : ∀ k, v.ownBlock = some k → ¬ (C ≤ k ∧ k < K)) : ∃ ma mc, v = .slice ma mn mc ∧ FtlOwn w B w.heap.size (some ⟨g, 0, none⟩) n n out ma mn L := by
  obtain ⟨ma, mc, rfl, hIA, hM⟩ := hI.form
  rw [hL] at hM
  refine ⟨ma, mc, by rw [hL], hL, hIA, hM, fun k hk => ?_, C, K, hBC, ⟨hl, .inr ⟨g, H, rfl, hg, hgK, fun i hi => ⟨hO.ahead i (by omega), hH i hi⟩, hO⟩⟩, hK, fun k hk => hap k (by rw [hk]; rfl)⟩
  rcases hM with ⟨e, _⟩ | ⟨k', e, _, h3, _⟩
  · rw [e] at hk; cases hk
  · rw [hk] at e; cases e; exact h3

set_option maxRecDepth 100000 in
set_option maxHeartbeats 4000000 in
theorem copied_any (va : Value) (hva : ∃ x y z, va = .slice x y z) (m : CC) (bs : List Bk) (n : Nat) (hl : bs.length = n) (hct : m.count = n) (hbs : ccBs m n = bs) (ma : Option Addr) (mc : Nat) (L : List Int) (mn : Nat) (hL : L.length = mn) (seq o : Int) (hok : FtlOk bs L seq o) (w : World) (hI : IntsAt w ma L) :
    Calls Tryz.prog 32 #[.agg #[va, .slice ma mn mc, .int .i64 seq, .int .i64 o], .agg (ccA m)] w fun e w' => ∃ g ma2 mc2, e = .returned (.agg #[.slice (some ⟨g, 0, none⟩) n n, .slice ma2 mn mc2, .int .i64 seq, .int .i64 o]) ∧ FtlOwn w' w.heap.size w'.heap.size (some ⟨g, 0, none⟩) n n bs ma2 mn L ∧ Below w.heap.size w w' := by
  obtain ⟨vx, vy, vz, rfl⟩ := hva
  have hlen := hok.len
  have hc := hok.chip.count
  have hm4 : 1 ≤ mn ∧ mn ≤ 1048576 := by omega
  have hCA := ccA_size m
  obtain ⟨cs, hcs⟩ : ∃ cs, cs = (ccA m).toList := ⟨_, rfl⟩
  have hcs2 : ccA m = cs.toArray := by rw [hcs]
  have hcl : cs.length = 205 := by rw [hcs]; simp [ccA_size]
  have HCH : Hid (∀ W, Calls Tryz.prog 67 #[.agg cs.toArray] W fun e w' => ∃ g H, e = .returned (.agg #[.slice (some ⟨g, 0, none⟩) n n]) ∧ W.heap.size ≤ g ∧ OwnBlocks w' 120 59 g H n bs ∧ Below W.heap.size W w') := fun W => by
    have := chip_any m n hct (by omega) W
    rw [hbs, hcs2] at this
    exact this
  have hu97 := Tryz.underlying65
  have hi97 : (Tryz.prog.info? 65).map (·.size) = some cs.length := by rw [hcl]; exact sizeCC'
  have HL := hide hL
  have HLB := hide hl
  have HI := hide hI
  rw [hcs2]
  clear hcs hcs2 hCA hbs hct hok hI hL hl hlen hc
  go_enter Tryz.func32, Tryz.ntmps32
  go_wp2_with fail
  obtain ⟨w0, hw0⟩ : ∃ w0, w0 = ((w.alloc (.cells #[.slice vx vy vz, .slice ma mn mc, .int .i64 seq, .int .i64 o] 29)).alloc (.cells cs.toArray 65)).alloc (.cells #[.slice none 0 0, .slice none 0 0, .int .i64 0, .int .i64 0] 29) := ⟨_, rfl⟩
  have hs0 : w0.heap.size = w.heap.size + 3 := by rw [hw0]; simp
  have hB0 : Below w.heap.size w w0 := by rw [hw0]; exact (((Below.refl _ w).alloc (Nat.le_refl _) _).alloc (by simp) _).alloc (by simp; omega) _
  obtain ⟨R0, R1, R2⟩ := heap3 w (.cells #[.slice vx vy vz, .slice ma mn mc, .int .i64 seq, .int .i64 o] 29) (.cells cs.toArray 65) (.cells #[.slice none 0 0, .slice none 0 0, .int .i64 0, .int .i64 0] 29)
  rw [← hw0] at R0 R1 R2 ⊢
  have k1 := cell_of_row _ _ 1 _ _ _ R0
  have k2 := cell_of_row _ _ 2 _ _ _ R0
  have k3 := cell_of_row _ _ 3 _ _ _ R0
  simp at k1 k2 k3
  have HRG : Hid (∀ W : World, (∀ b o, b < w.heap.size + 1 + 1 → W.cell? ⟨b, o, none⟩ = w0.cell? ⟨b, o, none⟩) → W.rangeAt (w.heap.size + 1) 0 cs) := fun W hW j v hv => by
    rw [hW _ _ (by omega), Nat.zero_add, cell_of_row _ _ j _ _ _ R1]
    simpa using hv
  have HZR : Hid (∀ W, Below w0.heap.size w0 W → (∀ i, W.cell? ⟨w.heap.size + 1 + 1, i, none⟩ = (#[Value.slice none 0 0, .slice none 0 0, .int .i64 0, .int .i64 0])[i]?) ∧ ∀ i, W.frozen? ⟨w.heap.size + 1 + 1, i, none⟩ = false) := fun W hW => by
    have hr := (hW.block (w.heap.size + 1 + 1) (by omega)).trans R2
    exact ⟨fun i => cell_of_row _ _ i _ _ _ hr, fun i => frozen_of_row _ _ i _ _ hr⟩
  have HCL : Hid (∀ W, Below w0.heap.size w0 W → Calls Tryz.prog 68 #[.slice ma mn mc] W fun e w' => ∃ v, e = .returned v ∧ OwnInts w' 2 W.heap.size v L ∧ Below W.heap.size W w') := fun W hW => clone_any ma mc L mn (unhide HL) hm4.1 hm4.2 W (((unhide HI).below hB0 (Nat.le_refl _)).below hW (Nat.le_refl _))
  have HBD : Hid (Below w0.heap.size w0 w0.drew) := (Below.refl _ _).drew
  have HS0 := hide hs0
  have hsl : w.heap.size + 1 + 1 < w0.heap.size := by omega
  clear hw0 R0 R1 R2 hs0
  have hmix : Tryz.prog.follows .mixedOrders = true := by kernel_rfl
  refine wp_region_held_drew (S := fun W => W.rangeAt (w.heap.size + 1) 0 cs ∧ ∀ b o, b < w.heap.size + 1 + 1 → W.cell? ⟨b, o, none⟩ = w0.cell? ⟨b, o, none⟩) hmix ⟨unhide HRG _ (fun b o hb => rfl), fun b o hb => rfl⟩ (fun hHeld => ?_)
  refine wpAnyH_take (i := 0) (v := .agg cs.toArray) rfl (by kernel_rfl) (by kernel_rfl) (by kernel_rfl) (fun _ _ _ h => h) (yieldsIf_load_mid (by rfl) _ _ rfl _ _ rfl cs _ (fun W hS => hS.1) hu97 rfl hi97) hHeld ?_
  simp only [Act.put, List.setIfInBounds_toArray, List.set_cons_zero, List.set_cons_succ]
  refine wpAnyH_take (i := 2) (v := .pointer (some ⟨w.heap.size, 1, none⟩)) rfl (by kernel_rfl) (by kernel_rfl) (by kernel_rfl) (fun _ _ _ h => h) (Or.inl ⟨by rfl, ?_⟩) hHeld ?_
  · (intro W hSW; have hSW2 := hSW.2; clear hSW; go_simp)
  simp only [Act.put, List.setIfInBounds_toArray, List.set_cons_zero, List.set_cons_succ]
  refine wpAnyH_take (i := 3) (v := .slice ma mn mc) rfl (by kernel_rfl) (by kernel_rfl) (by kernel_rfl) (fun _ _ _ h => h) (Or.inl ⟨by rfl, ?_⟩) hHeld ?_
  · (intro W hSW; have hSW2 := hSW.2; clear hSW; go_simp)
  simp only [Act.put, List.setIfInBounds_toArray, List.set_cons_zero, List.set_cons_succ]
  refine wpAnyH_take (i := 5) (v := .pointer (some ⟨w.heap.size, 2, none⟩)) rfl (by kernel_rfl) (by kernel_rfl) (by kernel_rfl) (fun _ _ _ h => h) (Or.inl ⟨by rfl, ?_⟩) hHeld ?_
  · (intro W hSW; have hSW2 := hSW.2; clear hSW; go_simp)
  simp only [Act.put, List.setIfInBounds_toArray, List.set_cons_zero, List.set_cons_succ]
  refine wpAnyH_take (i := 6) (v := .int .i64 seq) rfl (by kernel_rfl) (by kernel_rfl) (by kernel_rfl) (fun _ _ _ h => h) (Or.inl ⟨by rfl, ?_⟩) hHeld ?_
  · (intro W hSW; have hSW2 := hSW.2; clear hSW; go_simp)
  simp only [Act.put, List.setIfInBounds_toArray, List.set_cons_zero, List.set_cons_succ]
  refine wpAnyH_take (i := 7) (v := .pointer (some ⟨w.heap.size, 3, none⟩)) rfl (by kernel_rfl) (by kernel_rfl) (by kernel_rfl) (fun _ _ _ h => h) (Or.inl ⟨by rfl, ?_⟩) hHeld ?_
  · (intro W hSW; have hSW2 := hSW.2; clear hSW; go_simp)
  simp only [Act.put, List.setIfInBounds_toArray, List.set_cons_zero, List.set_cons_succ]
  refine wpAnyH_take (i := 8) (v := .int .i64 o) rfl (by kernel_rfl) (by kernel_rfl) (by kernel_rfl) (fun _ _ _ h => h) (Or.inl ⟨by rfl, ?_⟩) hHeld ?_
  · (intro W hSW; have hSW2 := hSW.2; clear hSW; go_simp)
  simp only [Act.put, List.setIfInBounds_toArray, List.set_cons_zero, List.set_cons_succ]
  refine wpAnyH_ready (rs := [1]) (by kernel_rfl) (by simp) ?_
  refine AllReadyH.cons rfl (fun K hK => ?_) AllReadyH.nil
  · go_simp
    refine (unhide HCH w0.drew).mono ?_
    rintro e wC ⟨g, H, rfl, hg, hO, hB⟩
    have HBC := hide ((unhide HBD).trans hB)
    have hsC := (unhide HBC).size
    have HOC := hide (And.intro (show w0.heap.size ≤ g from hg) hO)
    clear hg hO hB
    try go_wp2_with fail
    refine hK.out _ _ ?_ (fun hHeld2 => ?_)
    · (refine (fun H => ⟨unhide HRG _ H, H⟩) ?_; intro b o hb; exact (unhide HBC).cell (p := ⟨b, o, none⟩) (by show b < _; omega))
    clear hK K hHeld
    have hHeld := hHeld2
    clear hHeld2
    try simp only [Act.put, List.setIfInBounds_toArray, List.set_cons_zero, List.set_cons_succ]
    refine wpAnyH_ready (rs := [4]) (by kernel_rfl) (by simp) ?_
    refine AllReadyH.cons rfl (fun K hK => ?_) AllReadyH.nil
    go_simp
    refine (unhide HCL _ (unhide HBC)).mono ?_
    rintro e wF ⟨v, rfl, hv, hB⟩
    have hsF := hB.size
    have HBF := hide ((unhide HBC).trans (hB.mono hsC))
    obtain ⟨hg, hO⟩ := unhide HOC
    obtain ⟨ma2, mc2, rfl, hF2⟩ := FtlOwn.made (B := w0.heap.size) (C := w0.heap.size) (K := wC.heap.size) (unhide HLB) (hO.below hB (Nat.le_refl _)) (Nat.le_refl _) hg hO.row.lt (fun i hi => hO.lt (by rw [unhide HLB]; exact hi)) hsF (hv.lower hsC) (unhide HL) (fun k hk => by have := (hv.lt k hk).1; omega)
    have HF2 := hide hF2
    obtain ⟨hzc, hzf⟩ := unhide HZR wF (unhide HBF)
    have z0 := hzc 0
    have z1 := hzc 1
    have z2 := hzc 2
    have z3 := hzc 3
    simp at z0 z1 z2 z3
    have f0 := hzf 0
    have f1 := hzf 1
    have f2 := hzf 2
    have f3 := hzf 3
    clear hv hB hg hO hzc hzf hF2 HOC HCH HCL HZR
    try go_wp2_with fail
    refine hK.out _ _ ?_ (fun hHeld2 => ?_)
    · (refine (fun H => ⟨unhide HRG _ H, H⟩) ?_; intro b o hb; exact (unhide HBF).cell (p := ⟨b, o, none⟩) (by show b < _; omega))
    clear hK K hHeld
    have hHeld := hHeld2
    clear hHeld2
    try simp only [Act.put, List.setIfInBounds_toArray, List.set_cons_zero, List.set_cons_succ]
    refine wpAnyH_take (i := 9) (v := .agg #[.slice (some ⟨g, 0, none⟩) n n, .slice ma2 mn mc2, .int .i64 seq, .int .i64 o]) rfl (by kernel_rfl) (by kernel_rfl) (by kernel_rfl) (fun _ _ _ h => h) (Or.inl ⟨by rfl, ?_⟩) hHeld ?_
    · (intro W hSW; have hSW2 := hSW.2; clear hSW; go_simp)
    simp only [Act.put, List.setIfInBounds_toArray, List.set_cons_zero, List.set_cons_succ]
    refine wpAnyH_ready (rs := [10]) (by kernel_rfl) (by simp) ?_
    refine AllReadyH.cons rfl (fun K hK => ?_) AllReadyH.nil
    go_simp
    refine hK.out _ _ ?_ (fun hHeld2 => ?_)
    · (refine (fun H => ⟨unhide HRG _ H, H⟩) ?_; intro b o hb; rw [World.cell?_setCell_other _ _ _ _ (by simp <;> omega), World.cell?_setCell_other _ _ _ _ (by simp <;> omega), World.cell?_setCell_other _ _ _ _ (by simp <;> omega), World.cell?_setCell_other _ _ _ _ (by simp <;> omega)]; exact (unhide HBF).cell (p := ⟨b, o, none⟩) (by show b < _; omega))
    clear hK K hHeld
    have hHeld := hHeld2
    clear hHeld2
    try simp only [Act.put, List.setIfInBounds_toArray, List.set_cons_zero, List.set_cons_succ]
    refine wpAnyH_done (by kernel_rfl) ?_ _
    have hT5 : Touch (· = w.heap.size + 1 + 1) wF ((((wF.setCell ⟨w.heap.size + 1 + 1, 0, none⟩ (.slice (some ⟨g, 0, none⟩) n n)).setCell ⟨w.heap.size + 1 + 1, 1, none⟩ (.slice ma2 mn mc2)).setCell ⟨w.heap.size + 1 + 1, 2, none⟩ (.int .i64 seq)).setCell ⟨w.heap.size + 1 + 1, 3, none⟩ (.int .i64 o)) := touch4 wF (w.heap.size + 1 + 1) _ _ _ _
    obtain ⟨W5, hW5⟩ : ∃ W5, W5 = (((wF.setCell ⟨w.heap.size + 1 + 1, 0, none⟩ (.slice (some ⟨g, 0, none⟩) n n)).setCell ⟨w.heap.size + 1 + 1, 1, none⟩ (.slice ma2 mn mc2)).setCell ⟨w.heap.size + 1 + 1, 2, none⟩ (.int .i64 seq)).setCell ⟨w.heap.size + 1 + 1, 3, none⟩ (.int .i64 o) := ⟨_, rfl⟩
    have y0 : W5.cell? ⟨w.heap.size + 1 + 1, 0, none⟩ = some (.slice (some ⟨g, 0, none⟩) n n) := by rw [hW5, World.cell?_setCell_other _ _ _ _ (by simp), World.cell?_setCell_other _ _ _ _ (by simp), World.cell?_setCell_other _ _ _ _ (by simp), World.cell?_setCell_same' _ _ _ (by rw [z0]; rfl)]
    have y1 : W5.cell? ⟨w.heap.size + 1 + 1, 1, none⟩ = some (.slice ma2 mn mc2) := by rw [hW5, World.cell?_setCell_other _ _ _ _ (by simp), World.cell?_setCell_other _ _ _ _ (by simp), World.cell?_setCell_same' _ _ _ (by rw [World.cell?_setCell_other _ _ _ _ (by simp), z1]; rfl)]
    have y2 : W5.cell? ⟨w.heap.size + 1 + 1, 2, none⟩ = some (.int .i64 seq) := by rw [hW5, World.cell?_setCell_other _ _ _ _ (by simp), World.cell?_setCell_same' _ _ _ (by rw [World.cell?_setCell_other _ _ _ _ (by simp), World.cell?_setCell_other _ _ _ _ (by simp), z2]; rfl)]
    have y3 : W5.cell? ⟨w.heap.size + 1 + 1, 3, none⟩ = some (.int .i64 o) := by rw [hW5, World.cell?_setCell_same' _ _ _ (by rw [World.cell?_setCell_other _ _ _ _ (by simp), World.cell?_setCell_other _ _ _ _ (by simp), World.cell?_setCell_other _ _ _ _ (by simp), z3]; rfl)]
    have hs5 : W5.heap.size = wF.heap.size := by rw [hW5]; simp [World.setCell]
    rw [← hW5] at hT5 ⊢
    have HFF : Hid (FtlOwn W5 w.heap.size W5.heap.size (some ⟨g, 0, none⟩) n n bs ma2 mn L) := by rw [hs5]; exact ((unhide HF2).touch hT5 (fun k hk => by rw [hk]; exact hsl)).lower (by omega)
    have hWW : Below w.heap.size w W5 := (hB0.trans ((unhide HBF).mono hB0.size)).trans (hT5.below (by omega) (fun k hk => by rw [hk]; omega))
    clear hW5 hT5 z0 z1 z2 z3 f0 f1 f2 f3 k1 k2 k3 hHeld
    go_wp2
    exact bodyPost_ret (v := .agg #[.slice (some ⟨g, 0, none⟩) n n, .slice ma2 mn mc2, .int .i64 seq, .int .i64 o]) (by simp [results, Tryz.results32, go_sem, y0, y1, y2, y3]) rfl ⟨g, ma2, mc2, rfl, unhide HFF, hWW⟩
end Go.Proofs.YtalgkmellbamgaaGreat

/- A member is made of cells: the program's memberOf. -/
namespace Go.Proofs.YtalgkmellbamgaaGreat
open Go.RowKit
set_option linter.unusedVariables false
set_option linter.unusedSimpArgs false

set_option maxRecDepth 100000 in
set_option maxHeartbeats 2000000 in
theorem memberOf_any (m : CC) (bs : List Bk) (n : Nat) (hl : bs.length = n) (hct : m.count = n) (hbs : ccBs m n = bs) (hok : ChipOk bs) (seq o : Int) (w : World) :
    Calls Tryz.prog 35 #[.agg (ccA m), .int .i64 seq, .int .i64 o] w fun e w' => ∃ g ma2 mn2 mc2 L' r, e = .returned (.agg #[.slice (some ⟨g, 0, none⟩) n n, .slice ma2 mn2 mc2, .int .i64 seq, .int .i64 o]) ∧ MapIs bs r L' ∧ FtlOwn w' w.heap.size w'.heap.size (some ⟨g, 0, none⟩) n n bs ma2 mn2 L' ∧ Below w.heap.size w w' := by
  have hc := hok.count
  have hn4 : 4 ≤ n ∧ n ≤ 12 := by omega
  have HNP := hide (fun W => newestPlaces_any m n hct hn4.1 hn4.2 bs hl hbs hok W)
  have HCH := hide (fun W => chip_any m n hct hn4.2 W)
  rw [hbs] at HCH
  have HSZ := hide (sizeCC m)
  have HLB := hide hl
  obtain ⟨A, hA⟩ : ∃ A, A = ccA m := ⟨_, rfl⟩
  rw [← hA] at HNP HCH HSZ ⊢
  clear hA hok hbs hct hl hc
  go_enter Tryz.func35, Tryz.ntmps35
  obtain ⟨w0, hw0⟩ : ∃ w0, w0 = (w.alloc (.cells A 65)).alloc (.cells #[.slice none 0 0, .slice none 0 0, .int .i64 0, .int .i64 0] 29) := ⟨_, rfl⟩
  have hs0 : w0.heap.size = w.heap.size + 1 + 1 := by rw [hw0]; simp
  have hB0 : Below w.heap.size w w0 := by rw [hw0]; exact ((Below.refl _ w).alloc (Nat.le_refl _) _).alloc (by simp) _
  have hR0 : w0.heap[w.heap.size]? = some (.cells A 65 (0, 0)) := by rw [hw0]; exact (Below.heap_alloc _ _ _ (by simp)).trans (World.alloc_heap_new _ _)
  have hr0 : w0.heap[w.heap.size + 1]? = some (.cells #[.slice none 0 0, .slice none 0 0, .int .i64 0, .int .i64 0] 29 (0, 0)) := by rw [hw0]; exact heap_alloc2_new _ _ _
  have HR0 := hide hR0
  have HZ0 := hide hr0
  have HS0 := hide hs0
  have hsl : w.heap.size + 1 < w0.heap.size := by omega
  clear hR0 hr0 hs0
  go_upto_region 1 with fail
  rw [← hw0]
  clear hw0
  go_wp2_with (refine wpList_load_row rfl 65 _ rfl w.heap.size rfl 65 A (0, 0) _ (unhide HR0) Tryz.underlying65 rfl (unhide HSZ) ?_)
  refine (unhide HNP _).mono ?_
  rintro e w1 ⟨⟨v, r, L', rfl, hMI, hv⟩, hB1⟩
  have hs1 := hB1.size
  have HR1 := hide ((hB1.block w.heap.size (by omega)).trans (unhide HR0))
  have HZ1 := hide ((hB1.block (w.heap.size + 1) hsl).trans (unhide HZ0))
  have HV := hide hv
  have HMI := hide hMI
  have HB1 := hide hB1
  have HVS : Hid (∃ x y z, v = .slice x y z) := by obtain ⟨x, y, e, _⟩ := hv.form; exact ⟨x, _, y, e⟩
  obtain ⟨vx, vy, vz, rfl⟩ := unhide HVS
  clear hv hMI hB1 HNP HR0 HZ0
  go_wp2_with (refine wpList_load_row rfl 65 _ rfl w.heap.size rfl 65 A (0, 0) _ (unhide HR1) Tryz.underlying65 rfl (unhide HSZ) ?_)
  refine (unhide HCH _).mono ?_
  rintro e wF ⟨g, H, rfl, hg, hO, hB⟩
  have hsF := hB.size
  have HBF := hide ((unhide HB1).trans (hB.mono hs1))
  have hrF := (hB.block (w.heap.size + 1) (by omega)).trans (unhide HZ1)
  obtain ⟨ma2, mc2, e9, hF2⟩ := FtlOwn.made (B := w0.heap.size) (C := w1.heap.size) (K := wF.heap.size) (mn := L'.length) (unhide HLB) hO hs1 hg hO.row.lt (fun i hi => hO.lt (by rw [unhide HLB]; exact hi)) (Nat.le_refl _) ((unhide HV).kept hB) rfl (fun k hk => by have := ((unhide HV).lt k hk).2; omega)
  injection e9 with x1 x2 x3
  subst x1 x2 x3
  have HF2 := hide hF2
  have z0 := cell_of_row _ _ 0 _ _ _ hrF
  have z1 := cell_of_row _ _ 1 _ _ _ hrF
  have z2 := cell_of_row _ _ 2 _ _ _ hrF
  have z3 := cell_of_row _ _ 3 _ _ _ hrF
  simp at z0 z1 z2 z3
  have f0 := frozen_of_row _ _ 0 _ _ hrF
  have f1 := frozen_of_row _ _ 1 _ _ hrF
  have f2 := frozen_of_row _ _ 2 _ _ hrF
  have f3 := frozen_of_row _ _ 3 _ _ hrF
  obtain ⟨mn2, hmn2⟩ : ∃ mn2, mn2 = L'.length := ⟨_, rfl⟩
  rw [← hmn2] at HF2 ⊢
  clear hmn2
  have hT5 := touch4 wF (w.heap.size + 1) (.slice (some ⟨g, 0, none⟩) n n) (.slice vx mn2 vz) (.int .i64 seq) (.int .i64 o)
  obtain ⟨W5, hW5⟩ : ∃ W5, W5 = (((wF.setCell ⟨w.heap.size + 1, 0, none⟩ (.slice (some ⟨g, 0, none⟩) n n)).setCell ⟨w.heap.size + 1, 1, none⟩ (.slice vx mn2 vz)).setCell ⟨w.heap.size + 1, 2, none⟩ (.int .i64 seq)).setCell ⟨w.heap.size + 1, 3, none⟩ (.int .i64 o) := ⟨_, rfl⟩
  have y0 : W5.cell? ⟨w.heap.size + 1, 0, none⟩ = some (.slice (some ⟨g, 0, none⟩) n n) := by rw [hW5, World.cell?_setCell_other _ _ _ _ (by simp), World.cell?_setCell_other _ _ _ _ (by simp), World.cell?_setCell_other _ _ _ _ (by simp), World.cell?_setCell_same' _ _ _ (by rw [z0]; rfl)]
  have y1 : W5.cell? ⟨w.heap.size + 1, 1, none⟩ = some (.slice vx mn2 vz) := by rw [hW5, World.cell?_setCell_other _ _ _ _ (by simp), World.cell?_setCell_other _ _ _ _ (by simp), World.cell?_setCell_same' _ _ _ (by rw [World.cell?_setCell_other _ _ _ _ (by simp), z1]; rfl)]
  have y2 : W5.cell? ⟨w.heap.size + 1, 2, none⟩ = some (.int .i64 seq) := by rw [hW5, World.cell?_setCell_other _ _ _ _ (by simp), World.cell?_setCell_same' _ _ _ (by rw [World.cell?_setCell_other _ _ _ _ (by simp), World.cell?_setCell_other _ _ _ _ (by simp), z2]; rfl)]
  have y3 : W5.cell? ⟨w.heap.size + 1, 3, none⟩ = some (.int .i64 o) := by rw [hW5, World.cell?_setCell_same' _ _ _ (by rw [World.cell?_setCell_other _ _ _ _ (by simp), World.cell?_setCell_other _ _ _ _ (by simp), World.cell?_setCell_other _ _ _ _ (by simp), z3]; rfl)]
  have hs5 : W5.heap.size = wF.heap.size := by rw [hW5]; simp [World.setCell]
  rw [← hW5] at hT5
  have HFF : Hid (FtlOwn W5 w.heap.size W5.heap.size (some ⟨g, 0, none⟩) n n bs vx mn2 L') := by rw [hs5]; exact ((unhide HF2).touch hT5 (fun k hk => by rw [hk]; exact hsl)).lower (by omega)
  have hWW : Below w.heap.size w W5 := (hB0.trans ((unhide HBF).mono hB0.size)).trans (hT5.below (by omega) (fun k hk => by rw [hk]; omega))
  clear hT5 hF2 hO hB hrF HR1 HZ1 HCH
  go_wp2
  try rw [← hW5]
  exact bodyPost_ret (v := .agg #[.slice (some ⟨g, 0, none⟩) n n, .slice vx mn2 vz, .int .i64 seq, .int .i64 o]) (by simp [results, Tryz.results35, go_sem, y0, y1, y2, y3]) rfl ⟨g, vx, mn2, vz, L', r, rfl, unhide HMI, unhide HFF, hWW⟩
end Go.Proofs.YtalgkmellbamgaaGreat

/- The program's Did. -/
namespace Go.Proofs.YtalgkmellbamgaaGreat
open Go.RowKit
set_option linter.unusedVariables false
set_option linter.unusedSimpArgs false

theorem OpStep.good {bs : List Bk} {x : Opn} {out : List Bk} (h : OpStep bs x out) : goodOp x := by
  rcases h with ⟨h, _⟩ | ⟨h, _, h2⟩
  · exact .inl h
  · exact .inr ⟨h, h2⟩
theorem Runs.good {xs : List Opn} : ∀ {bs out : List Bk}, Runs bs xs out → ∀ x ∈ xs, goodOp x := by
  induction xs with
  | nil => intro bs out _ x hx; cases hx
  | cons y ys ih =>
    rintro bs out ⟨mid, h1, h2⟩ x hx
    rcases List.mem_cons.1 hx with rfl | hx
    · exact h1.good
    · exact ih h2 x hx
theorem DidIs.lens {bs : List Bk} {xs : List Opn} {out : List Bk} {r : Bool} (h : DidIs bs xs out r) : Lens 1048576 out := by
  rcases h with ⟨_, h1, _, h2⟩ | ⟨_, rfl, _⟩
  · exact lens_of_ok (h2.ok h1)
  · exact ⟨by simp, fun b hb => by simp at hb⟩

end Go.Proofs.YtalgkmellbamgaaGreat
