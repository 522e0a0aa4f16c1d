/- A new member: in plain words, the model's FtlNew and the program's. -/
import Derived.Test.YtaelbmilicfkhaaNewIO
import Derived.Test.YtaelbmilicfkhaaFtlA
import Derived.Test.YtaelbmilicfkhaaNewI
import Derived.Test.YtaelbmilicfkhaaMapC
import Derived.Test.YtaelbmilicfkhaaFtlP
import Derived.Test.YtaelbmilicfkhaaHasSeq
namespace Go.Proofs.Ytaelbmilicfkhaa
open Go.RowKit
set_option linter.unusedVariables false
set_option linter.unusedSimpArgs false

def newBs (n : Nat) : List Bk := List.replicate n zeroBk
theorem newBs_length (n : Nat) : (newBs n).length = n := by simp [newBs]
theorem newBs_block {n : Nat} {b : Bk} (h : b ∈ newBs n) : b = zeroBk := List.eq_of_mem_replicate h
theorem zeroBk_page {k : Nat} {p : Pg} (h : zeroBk.pages[k]? = some p) : p = zeroPg := by
  have hm := List.mem_of_getElem? h
  simp [zeroBk] at hm
  exact hm
theorem seqs_newBs (n : Nat) : seqs (newBs n) = [] := by
  refine List.eq_nil_iff_forall_not_mem.2 (fun s hs => ?_)
  obtain ⟨i, b, k, p, hb, hp, hu, _⟩ := seqs_mem hs
  rw [newBs_block (List.mem_of_getElem? hb)] at hp
  rw [zeroBk_page hp] at hu
  cases hu
theorem chipOk_newBs {n : Nat} (h1 : 4 ≤ n) (h2 : n ≤ 12) : ChipOk (newBs n) := by
  refine ⟨by rw [newBs_length]; exact ⟨h1, h2⟩, fun b hb => ?_, by rw [seqs_newBs]; exact List.nodup_nil⟩
  rw [newBs_block hb]
  exact ⟨by simp [zeroBk], rfl, fun k p hp => by rw [zeroBk_page hp]; rfl, fun k p q hq hp hu => by rw [zeroBk_page hp] at hu; cases hu⟩
theorem usedOf_newBs (n : Nat) : usedOf (newBs n) = [] := by
  refine List.eq_nil_iff_forall_not_mem.2 (fun x hx => ?_)
  obtain ⟨b, k, hb, hk, _, hu⟩ := mem_usedAll hx
  obtain ⟨y, hy⟩ := getElem?_ex (l := newBs n) (k := b) hb
  have e := newBs_block (List.mem_of_getElem? hy)
  obtain ⟨p, hp⟩ := getElem?_ex (l := y.pages) (k := k) (by rw [e]; simpa [zeroBk] using hk)
  rw [mOf_page hy hp] at hu
  rw [e] at hp
  rw [zeroBk_page hp] at hu
  cases hu
def newMap (n : Nat) : List Int := List.replicate (4 * (n - 3)) (-1)
theorem newMap_is {n : Nat} {r : Bool} {L : List Int} (h : MapIs (newBs n) r L) : r = true ∧ L = newMap n := by
  have hf : Fits (newBs n) := fun x hx => by rw [usedOf_newBs] at hx; cases hx
  have hr := h.1.2 hf
  refine ⟨hr, ?_⟩
  have := h.2
  rw [hr] at this
  rw [this]
  simp only [if_true]
  rw [usedOf_newBs, placesOf_nil]
  unfold roomOf newMap
  rw [newBs_length]
theorem lensNewF {n : Nat} (h : n ≤ 12) : Lens 1048576 (newBs n) := ⟨by rw [newBs_length]; omega, fun b hb => by rw [newBs_block hb]; simp [zeroBk]⟩

/-- What FtlNew answers. -/
def FtlNewIs (b : Int) (out : List Bk) (L : List Int) (seq o : Int) (r : Bool) : Prop :=
  ((4 ≤ b ∧ b ≤ 12) ∧ out = newBs b.toNat ∧ L = newMap b.toNat ∧ seq = 1 ∧ o = 0 ∧ r = true) ∨ (¬ (4 ≤ b ∧ b ≤ 12) ∧ out = [] ∧ L = [] ∧ seq = 0 ∧ o = 0 ∧ r = false)
theorem FtlNewIs.one {b : Int} {out out' : List Bk} {L L' : List Int} {seq seq' o o' : Int} {r r' : Bool} (h : FtlNewIs b out L seq o r) (k : FtlNewIs b out' L' seq' o' r') : out = out' ∧ L = L' ∧ seq = seq' ∧ o = o' ∧ r = r' := by
  rcases h with ⟨h0, rfl, rfl, rfl, rfl, rfl⟩ | ⟨h0, rfl, rfl, rfl, rfl, rfl⟩
  · rcases k with ⟨_, rfl, rfl, rfl, rfl, rfl⟩ | ⟨k0, _⟩
    · exact ⟨rfl, rfl, rfl, rfl, rfl⟩
    · exact absurd h0 k0
  · rcases k with ⟨k0, _⟩ | ⟨_, rfl, rfl, rfl, rfl, rfl⟩
    · exact absurd k0 h0
    · exact ⟨rfl, rfl, rfl, rfl, rfl⟩
theorem FtlNewIs.lens {b : Int} {out : List Bk} {L : List Int} {seq o : Int} {r : Bool} (h : FtlNewIs b out L seq o r) : Lens 1048576 out ∧ L.length ≤ 36 := by
  rcases h with ⟨h0, rfl, rfl, _⟩ | ⟨_, rfl, rfl, _⟩
  · exact ⟨lensNewF (by omega), by simp [newMap]; omega⟩
  · exact ⟨⟨by simp, fun b hb => by cases hb⟩, by simp⟩

theorem MineFrom.lowerN {w : World} {a : Option Addr} {n B B' : Nat} (h : MineFrom w a n B) (hB : B' ≤ B) : MineFrom w a n B' := by
  rcases h with h | ⟨g, ha, h1, h2, h3⟩
  · exact .inl h
  · exact .inr ⟨g, ha, by omega, h2, h3⟩
theorem FtlOwn.lowerN {w : World} {B B' T T' : Nat} {a : Option Addr} {n c : Nat} {out : List Bk} {ma : Option Addr} {mn : Nat} {L : List Int} (h : FtlOwn w B T a n c out ma mn L) (hB : B' ≤ B) (hT : T ≤ T') : FtlOwn w B' T' a n c out ma mn L := by
  obtain ⟨h0, h1, h2, h6, C, K, h3, h4, h5⟩ := h
  exact ⟨h0, h1, MineFrom.lowerN h2 hB, fun g hg => Nat.lt_of_lt_of_le (h6 g hg) hT, C, K, by omega, h4, by omega, h5.2⟩
/-- A row that holds a member of nothing holds no block of four pages, no page, no number but 0: so a list that is read elsewhere lies elsewhere. -/
theorem zeroFtl_cell {w : World} {B : Nat} {ty : TypeId} (hr : w.heap[B]? = some (.cells #[.slice none 0 0, .slice none 0 0, .int .i64 0, .int .i64 0] ty (0, 0))) {i : Nat} {v : Value} (h : w.cell? ⟨B, i, none⟩ = some v) : v = .slice none 0 0 ∨ v = .int .i64 0 := by
  rw [cell_of_row _ _ i _ _ _ hr] at h
  match i with
  | 0 => simp at h; exact .inl h.symm
  | 1 => simp at h; exact .inl h.symm
  | 2 => simp at h; exact .inr h.symm
  | 3 => simp at h; exact .inr h.symm
  | i + 4 => simp at h
theorem blocksAt_apart {w w' : World} {B : Nat} {ty : TypeId} {a : Option Addr} {bs : List Bk} (hr : w.heap[B]? = some (.cells #[.slice none 0 0, .slice none 0 0, .int .i64 0, .int .i64 0] ty (0, 0))) (h : BlocksAt w a bs) (h4 : ∀ b ∈ bs, b.pages.length = 4) (hT : Touch (· = B) w w') : BlocksAt w' a bs := by
  intro i b hb
  obtain ⟨g, o, pa, pc, ha, c0, c1, hp⟩ := h i b hb
  have hl := h4 b (List.mem_of_getElem? hb)
  have hg : g ≠ B := by
    rintro rfl
    rcases zeroFtl_cell hr c1 with e | e
    · injection e with _ e2 _
      omega
    · cases e
  have hc : ∀ j, w'.cell? ⟨g, j, none⟩ = w.cell? ⟨g, j, none⟩ := fun j => World.cell?_of_block (w := w) (a := ⟨g, j, none⟩) (hT.block g (World.block_lt_of_cell? _ _ c0) hg)
  refine ⟨g, o, pa, pc, ha, (hc _).trans c0, (hc _).trans c1, fun k p hk => ?_⟩
  obtain ⟨g2, o2, ha2, d0, d1, d2, d3⟩ := hp k p hk
  have hg2 : g2 ≠ B := by
    rintro rfl
    rcases zeroFtl_cell hr d0 with e | e <;> cases e
  have hc2 : ∀ j, w'.cell? ⟨g2, j, none⟩ = w.cell? ⟨g2, j, none⟩ := fun j => World.cell?_of_block (w := w) (a := ⟨g2, j, none⟩) (hT.block g2 (World.block_lt_of_cell? _ _ d0) hg2)
  exact ⟨g2, o2, ha2, (hc2 _).trans d0, (hc2 _).trans d1, (hc2 _).trans d2, (hc2 _).trans d3⟩
theorem intsAt_apart {w w' : World} {B : Nat} {ty : TypeId} {a : Option Addr} {L : List Int} (hr : w.heap[B]? = some (.cells #[.slice none 0 0, .slice none 0 0, .int .i64 0, .int .i64 0] ty (0, 0))) (h : IntsAt w a L) (h0 : ∀ x ∈ L, x ≠ 0) (hT : Touch (· = B) w w') : IntsAt w' a L := by
  intro i x hx
  obtain ⟨b, o, ha, c⟩ := h i x hx
  have hb : b ≠ B := by
    rintro rfl
    rcases zeroFtl_cell hr c with e | e
    · cases e
    · exact h0 x (List.mem_of_getElem? hx) (by cases e; rfl)
  exact ⟨b, o, ha, (World.cell?_of_block (w := w) (a := ⟨b, o + i, none⟩) (hT.block b (World.block_lt_of_cell? _ _ c) hb)).trans c⟩
theorem touchN4 (w : World) (B : Nat) (v0 v1 v2 v3 : Value) : Touch (· = B) w ((((w.setCell ⟨B, 0, none⟩ v0).setCell ⟨B, 1, none⟩ v1).setCell ⟨B, 2, none⟩ v2).setCell ⟨B, 3, none⟩ v3) := by
  have h0 := Touch.refl (fun k => k = B) w
  have h1 := Touch.setCell h0 (p := ⟨B, 0, none⟩) (by rfl) v0
  have h2 := Touch.setCell h1 (p := ⟨B, 1, none⟩) (by rfl) v1
  have h3 := Touch.setCell h2 (p := ⟨B, 2, none⟩) (by rfl) v2
  exact Touch.setCell h3 (p := ⟨B, 3, none⟩) (by rfl) v3

set_option maxRecDepth 100000 in
set_option maxHeartbeats 2000000 in
theorem specFtlNew_mine (b : Int) (w : World) :
    Calls Try.prog 17 #[.int .i64 b] w fun e w' => ∃ (a : Option Addr) (n c : Nat) (ma : Option Addr) (mn mc : Nat) (out : List Bk) (L : List Int) (seq o : Int) (r : Bool), e = .returned (.tuple #[.agg #[.slice a n c, .slice ma mn mc, .int .i64 seq, .int .i64 o], .bool r]) ∧ FtlNewIs b out L seq o r ∧ out.length = n ∧ L.length = mn ∧ BlocksAt w' a out ∧ IntsAt w' ma L ∧ MineFrom w' ma mn w.heap.size ∧ Below w.heap.size w w' := by
  have hb0 : ∀ o, Below w.heap.size w (w.alloc o) := fun o => (Below.refl _ w).alloc (Nat.le_refl _) _
  by_cases hin : 4 ≤ b ∧ b ≤ 12
  · obtain ⟨n, rfl⟩ := Int.eq_ofNat_of_zero_le (show 0 ≤ b by omega)
    have h1 : 4 ≤ n := by omega
    have h2 : n ≤ 12 := by omega
    go_enter Try.func17, Try.ntmps17
    go_wp2_with fail
    refine (specChipNew_yes n _ h1 h2).mono ?_
    rintro e w1 ⟨a, c, rfl, hA, hB1⟩
    have hs1 := hB1.size
    simp at hs1
    have hr1 := (hB1.block w.heap.size (by simp)).trans (World.alloc_heap_new w _)
    have hW1 : Below w.heap.size w w1 := (hb0 _).trans (hB1.mono (by simp))
    have HA := hide hA
    have HR1 := hide hr1
    clear hA hB1 hr1 hb0
    have hb1 : ∀ o, Below w1.heap.size w1 (w1.alloc o) := fun o => (Below.refl _ w1).alloc (Nat.le_refl _) _
    go_wp2_with fail
    refine (l2Map_any a c (newBs n) n (newBs_length n) (chipOk_newBs h1 h2) _ ((unhide HA).below (hb1 _) (Nat.le_refl _))).mono ?_
    rintro e w2 ⟨⟨v, r, L, rfl, hM, hv⟩, hB2⟩
    obtain ⟨rfl, rfl⟩ := newMap_is hM
    obtain ⟨ma, mc, rfl, hI, hMine⟩ := hv.form
    have hs2 := hB2.size
    simp at hs2
    have hB12 := (hb1 _).trans (hB2.mono (by simp))
    have hr2 := (hB12.block w.heap.size (by omega)).trans (unhide HR1)
    have hc2 : w2.cell? ⟨w1.heap.size, 0, none⟩ = some (.slice a n c) := by
      rw [hB2.cell (p := ⟨w1.heap.size, 0, none⟩) (by simp)]
      simp
    have q0 := cell_of_row _ _ 0 _ _ _ hr2
    have q1 := cell_of_row _ _ 1 _ _ _ hr2
    have q2 := cell_of_row _ _ 2 _ _ _ hr2
    have q3 := cell_of_row _ _ 3 _ _ _ hr2
    have f0 := frozen_of_row _ _ 0 _ _ hr2
    have f1 := frozen_of_row _ _ 1 _ _ hr2
    have f2 := frozen_of_row _ _ 2 _ _ hr2
    have f3 := frozen_of_row _ _ 3 _ _ hr2
    simp at q0 q1 q2 q3
    have hW2 := hW1.trans (hB12.mono hW1.size)
    have HA2 := hide ((unhide HA).below hB12 (Nat.le_refl _))
    have HI := hide hI
    obtain ⟨mn, hmn⟩ : ∃ mn, (newMap n).length = mn := ⟨_, rfl⟩
    rw [hmn] at hMine ⊢
    have HMN := hide hmn
    simp only [World.size_alloc] at hMine
    have HMI := hide hMine
    have HR2 := hide hr2
    clear hv hM hB2 hB12 hr2 hI hmn HA HR1 hb1 hW1 hMine
    go_wp2
    refine bodyPost_ret (v := .tuple #[.agg #[.slice a n c, .slice ma mn mc, .int .i64 1, .int .i64 0], .bool true]) (by simp [results, Try.results17, go_sem, q0, q1, q2, q3]) rfl ⟨a, n, c, ma, mn, mc, newBs n, newMap n, 1, 0, true, rfl, .inl ⟨by omega, by simp, by simp, rfl, rfl, rfl⟩, newBs_length n, unhide HMN, ?_, ?_, ?_, ?_⟩
    · exact blocksAt_apart (unhide HR2) (unhide HA2) (fun b hb => by rw [newBs_block hb]; rfl) (touchN4 _ _ _ _ _ _)
    · exact intsAt_apart (unhide HR2) (unhide HI) (fun x hx => by rw [List.eq_of_mem_replicate hx]; decide) (touchN4 _ _ _ _ _ _)
    · exact MineFrom.lowerN ((unhide HMI).touch' (touchN4 _ _ _ _ _ _) (fun g hg he => by
        rcases unhide HMI with ⟨e, _⟩ | ⟨g', e, h1, _⟩
        · rw [hg] at e; cases e
        · rw [hg] at e; cases e; omega)) (by omega)
    · exact hW2.trans ((touchN4 _ _ _ _ _ _).below hW2.size (fun k hk => by rw [hk]; exact Nat.le_refl _))
  · go_enter Try.func17, Try.ntmps17
    go_wp2_with fail
    refine (specChipNew_no b _ hin).mono ?_
    rintro e w1 ⟨rfl, hB1⟩
    have hs1 := hB1.size
    simp at hs1
    have hr1 := (hB1.block w.heap.size (by simp)).trans (World.alloc_heap_new w _)
    have hW1 : Below w.heap.size w w1 := (hb0 _).trans (hB1.mono (by simp))
    have q0 := fun o' => (cell_alloc_lt w1 o' w.heap.size 0 (by omega)).trans (cell_of_row _ _ 0 _ _ _ hr1)
    have q1 := fun o' => (cell_alloc_lt w1 o' w.heap.size 1 (by omega)).trans (cell_of_row _ _ 1 _ _ _ hr1)
    have q2 := fun o' => (cell_alloc_lt w1 o' w.heap.size 2 (by omega)).trans (cell_of_row _ _ 2 _ _ _ hr1)
    have q3 := fun o' => (cell_alloc_lt w1 o' w.heap.size 3 (by omega)).trans (cell_of_row _ _ 3 _ _ _ hr1)
    have f0 := fun o' => (frozen_alloc_lt w1 o' w.heap.size 0 (by omega)).trans (frozen_of_row _ _ 0 _ _ hr1)
    have f1 := fun o' => (frozen_alloc_lt w1 o' w.heap.size 1 (by omega)).trans (frozen_of_row _ _ 1 _ _ hr1)
    have f2 := fun o' => (frozen_alloc_lt w1 o' w.heap.size 2 (by omega)).trans (frozen_of_row _ _ 2 _ _ hr1)
    have f3 := fun o' => (frozen_alloc_lt w1 o' w.heap.size 3 (by omega)).trans (frozen_of_row _ _ 3 _ _ hr1)
    simp at q0 q1 q2 q3
    clear hB1 hr1 hb0
    go_wp2
    refine bodyPost_ret (v := .tuple #[.agg #[.slice none 0 0, .slice none 0 0, .int .i64 0, .int .i64 0], .bool false]) (by simp [results, Try.results17, go_sem, q0, q1, q2, q3]) rfl ⟨none, 0, 0, none, 0, 0, [], [], 0, 0, false, rfl, .inr ⟨hin, rfl, rfl, rfl, rfl, rfl⟩, rfl, rfl, fun i x hx => by simp at hx, fun i x hx => by simp at hx, .inl ⟨rfl, rfl⟩, ?_⟩
    exact (hW1.alloc hW1.size _).trans ((touchN4 _ _ _ _ _ _).below (by simp; omega) (fun k hk => by rw [hk]; exact Nat.le_refl _))

theorem specFtlNew_any (b : Int) (w : World) :
    Calls Try.prog 17 #[.int .i64 b] w fun e w' => ∃ (a : Option Addr) (n c : Nat) (ma : Option Addr) (mn mc : Nat) (out : List Bk) (L : List Int) (seq o : Int) (r : Bool), e = .returned (.tuple #[.agg #[.slice a n c, .slice ma mn mc, .int .i64 seq, .int .i64 o], .bool r]) ∧ FtlNewIs b out L seq o r ∧ out.length = n ∧ L.length = mn ∧ BlocksAt w' a out ∧ IntsAt w' ma L ∧ Below w.heap.size w w' := by
  refine (specFtlNew_mine b w).mono ?_
  rintro e w' ⟨a, n, c, ma, mn, mc, out, L, seq, o, r, h1, h2, h3, h4, h5, h6, _, h7⟩
  exact ⟨a, n, c, ma, mn, mc, out, L, seq, o, r, h1, h2, h3, h4, h5, h6, h7⟩

set_option maxRecDepth 100000 in
set_option maxHeartbeats 2000000 in
theorem implFtlNew_own (b : Int) (w : World) :
    Calls Try.prog 16 #[.int .i64 b] w fun e w' => ∃ (a : Option Addr) (n c : Nat) (ma : Option Addr) (mn mc : Nat) (out : List Bk) (L : List Int) (seq o : Int) (r : Bool), e = .returned (.tuple #[.agg #[.slice a n c, .slice ma mn mc, .int .i64 seq, .int .i64 o], .bool r]) ∧ FtlNewIs b out L seq o r ∧ FtlOwn w' w.heap.size w'.heap.size a n c out ma mn L ∧ Below w.heap.size w w' := by
  have hb0 : ∀ o, Below w.heap.size w (w.alloc o) := fun o => (Below.refl _ w).alloc (Nat.le_refl _) _
  by_cases hin : 4 ≤ b ∧ b ≤ 12
  · obtain ⟨n, rfl⟩ := Int.eq_ofNat_of_zero_le (show 0 ≤ b by omega)
    have h1 : 4 ≤ n := by omega
    have h2 : n ≤ 12 := by omega
    go_enter Try.func16, Try.ntmps16
    go_wp2_with fail
    refine (implChipNew_yes n _ h1 h2).mono ?_
    rintro e w1 ⟨g, H, rfl, hg, hO, hB1⟩
    have hs1 := hB1.size
    simp at hs1 hg
    have hr1 := (hB1.block w.heap.size (by simp)).trans (World.alloc_heap_new w _)
    have hW1 : Below w.heap.size w w1 := (hb0 _).trans (hB1.mono (by simp))
    have hC1 : ChipOwn w1 (w.heap.size + 1) w1.heap.size (some ⟨g, 0, none⟩) n n (newBs n) := ⟨newBs_length n, .inr ⟨g, H, rfl, hg, hO.row.lt, fun i hi => ⟨hO.ahead i (by simpa using hi), hO.lt (by simpa using hi)⟩, hO⟩⟩
    have HC1 := hide hC1
    have HR1 := hide hr1
    clear hO hB1 hr1 hb0 hC1 hg
    have hb1 : ∀ o, Below w1.heap.size w1 (w1.alloc o) := fun o => (Below.refl _ w1).alloc (Nat.le_refl _) _
    go_wp2_with fail
    refine (implMapOf_any (some ⟨g, 0, none⟩) n (newBs n) n (newBs_length n) _ ((unhide HC1).blocksAt.below (hb1 _) (Nat.le_refl _)) ⟨by rw [newBs_length]; omega, fun b hb => by rw [newBs_block hb]; simp [zeroBk]⟩).mono ?_
    rintro e w2 ⟨⟨v, r, L, rfl, hM, hv⟩, hB2⟩
    have hM' : MapIs (newBs n) r L := by
      rcases hM with ⟨_, h⟩ | ⟨h, _⟩
      · exact h
      · exact absurd (chipOk_newBs h1 h2) h
    obtain ⟨rfl, rfl⟩ := newMap_is hM'
    obtain ⟨ma, mc, rfl, hI, hMine⟩ := hv.form
    simp only [World.size_alloc] at hMine
    have hs2 := hB2.size
    simp at hs2
    have hB12 := (hb1 _).trans (hB2.mono (by simp))
    have hr2 := (hB12.block w.heap.size (by omega)).trans (unhide HR1)
    have hc2 : w2.cell? ⟨w1.heap.size, 0, none⟩ = some (.slice (some ⟨g, 0, none⟩) n n) := by
      rw [hB2.cell (p := ⟨w1.heap.size, 0, none⟩) (by simp)]
      simp
    have q0 := cell_of_row _ _ 0 _ _ _ hr2
    have q1 := cell_of_row _ _ 1 _ _ _ hr2
    have q2 := cell_of_row _ _ 2 _ _ _ hr2
    have q3 := cell_of_row _ _ 3 _ _ _ hr2
    have f0 := frozen_of_row _ _ 0 _ _ hr2
    have f1 := frozen_of_row _ _ 1 _ _ hr2
    have f2 := frozen_of_row _ _ 2 _ _ hr2
    have f3 := frozen_of_row _ _ 3 _ _ hr2
    simp at q0 q1 q2 q3
    have hW2 := hW1.trans (hB12.mono hW1.size)
    obtain ⟨mn, hmn⟩ : ∃ mn, (newMap n).length = mn := ⟨_, rfl⟩
    rw [hmn] at hMine ⊢
    have HF : Hid (FtlOwn w2 (w.heap.size + 1) w2.heap.size (some ⟨g, 0, none⟩) n n (newBs n) ma mn (newMap n)) := ⟨hmn, hI, MineFrom.lowerN hMine (by omega), fun g' hg' => by
      rcases hMine with ⟨e, _⟩ | ⟨g'', e, _, h3, _⟩
      · rw [hg'] at e; cases e
      · rw [hg'] at e; cases e; exact h3, w.heap.size + 1, w1.heap.size, Nat.le_refl _, (unhide HC1).below hB12, by omega, fun g' hg' hh => by
      rcases hMine with ⟨e, _⟩ | ⟨g'', e, h3, _⟩
      · rw [hg'] at e; cases e
      · rw [hg'] at e; cases e; omega⟩
    clear hv hM hM' hB2 hB12 hr2 hI hmn HC1 HR1 hb1 hW1 hMine
    go_wp2
    refine bodyPost_ret (v := .tuple #[.agg #[.slice (some ⟨g, 0, none⟩) n n, .slice ma mn mc, .int .i64 1, .int .i64 0], .bool true]) (by simp [results, Try.results16, go_sem, q0, q1, q2, q3]) rfl ⟨some ⟨g, 0, none⟩, n, n, ma, mn, mc, newBs n, newMap n, 1, 0, true, rfl, .inl ⟨by omega, by simp, by simp, rfl, rfl, rfl⟩, ?_, ?_⟩
    · exact FtlOwn.lowerN ((unhide HF).touch (touchN4 _ _ _ _ _ _) (fun k hk => by rw [hk]; omega)) (by omega) (by simp [World.setCell])
    · exact hW2.trans ((touchN4 _ _ _ _ _ _).below hW2.size (fun k hk => by rw [hk]; exact Nat.le_refl _))
  · go_enter Try.func16, Try.ntmps16
    go_wp2_with fail
    refine (implChipNew_no b _ hin).mono ?_
    rintro e w1 ⟨rfl, hB1⟩
    have hs1 := hB1.size
    simp at hs1
    have hr1 := (hB1.block w.heap.size (by simp)).trans (World.alloc_heap_new w _)
    have hW1 : Below w.heap.size w w1 := (hb0 _).trans (hB1.mono (by simp))
    have q0 := fun o' => (cell_alloc_lt w1 o' w.heap.size 0 (by omega)).trans (cell_of_row _ _ 0 _ _ _ hr1)
    have q1 := fun o' => (cell_alloc_lt w1 o' w.heap.size 1 (by omega)).trans (cell_of_row _ _ 1 _ _ _ hr1)
    have q2 := fun o' => (cell_alloc_lt w1 o' w.heap.size 2 (by omega)).trans (cell_of_row _ _ 2 _ _ _ hr1)
    have q3 := fun o' => (cell_alloc_lt w1 o' w.heap.size 3 (by omega)).trans (cell_of_row _ _ 3 _ _ _ hr1)
    have f0 := fun o' => (frozen_alloc_lt w1 o' w.heap.size 0 (by omega)).trans (frozen_of_row _ _ 0 _ _ hr1)
    have f1 := fun o' => (frozen_alloc_lt w1 o' w.heap.size 1 (by omega)).trans (frozen_of_row _ _ 1 _ _ hr1)
    have f2 := fun o' => (frozen_alloc_lt w1 o' w.heap.size 2 (by omega)).trans (frozen_of_row _ _ 2 _ _ hr1)
    have f3 := fun o' => (frozen_alloc_lt w1 o' w.heap.size 3 (by omega)).trans (frozen_of_row _ _ 3 _ _ hr1)
    simp at q0 q1 q2 q3
    clear hB1 hr1 hb0
    go_wp2
    refine bodyPost_ret (v := .tuple #[.agg #[.slice none 0 0, .slice none 0 0, .int .i64 0, .int .i64 0], .bool false]) (by simp [results, Try.results16, go_sem, q0, q1, q2, q3]) rfl ⟨none, 0, 0, none, 0, 0, [], [], 0, 0, false, rfl, .inr ⟨hin, rfl, rfl, rfl, rfl, rfl⟩, ⟨rfl, fun i x hx => by simp at hx, .inl ⟨rfl, rfl⟩, (fun g hg => by cases hg), w.heap.size, w.heap.size, Nat.le_refl _, ⟨rfl, .inl ⟨rfl, rfl, rfl⟩⟩, ?_, fun g hg => by cases hg⟩, ?_⟩
    · simp [World.setCell]; omega
    · exact (hW1.alloc hW1.size _).trans ((touchN4 _ _ _ _ _ _).below (by simp; omega) (fun k hk => by rw [hk]; exact Nat.le_refl _))
end Go.Proofs.Ytaelbmilicfkhaa
