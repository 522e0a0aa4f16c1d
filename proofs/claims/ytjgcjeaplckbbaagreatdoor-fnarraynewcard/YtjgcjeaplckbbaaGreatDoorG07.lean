/- 9 texts in one. -/
import Derived.Test.YtjgcjeaplckbbaaGreatDoorG03
import Derived.Test.YtjgcjeaplckbbaaGreatDoorG06
import Derived.Test.YtjgcjeaplckbbaaGreatDoorG02
import Derived.Test.YtjgcjeaplckbbaaGreatDoorG04
import Derived.Test.YtjgcjeaplckbbaaGreatDoorG01
import Derived.Test.YtjgcjeaplckbbaaGreatDoorG05
import Derived.WalkKit
import Derived.Outline

/- MapOf, the model's and the program's. -/
namespace Go.Proofs.YtjgcjeaplckbbaaGreatDoor
open Go.RowKit
set_option linter.unusedVariables false
set_option linter.unusedSimpArgs false

/-- What MapOf answers. -/
def MapOfIs (bs : List Bk) (r : Bool) (L : List Int) : Prop := (ChipOk bs ∧ MapIs bs r L) ∨ (¬ ChipOk bs ∧ r = false ∧ L = [])
theorem MapOfIs.one {bs : List Bk} {r s : Bool} {L M : List Int} (h : MapOfIs bs r L) (k : MapOfIs bs s M) : r = s ∧ L = M := by
  rcases h with ⟨h1, h2⟩ | ⟨h1, rfl, rfl⟩
  · rcases k with ⟨_, k2⟩ | ⟨k1, _⟩
    · exact h2.one k2
    · exact absurd h1 k1
  · rcases k with ⟨k1, _⟩ | ⟨_, rfl, rfl⟩
    · exact absurd k1 h1
    · exact ⟨rfl, rfl⟩
theorem MapOfIs.length {bs : List Bk} {r : Bool} {L : List Int} (h : MapOfIs bs r L) : L.length ≤ 36 := by
  rcases h with ⟨h1, h2⟩ | ⟨_, _, rfl⟩
  · exact h2.length h1.count.2
  · simp
def MapOfRet (bs : List Bk) (t : TypeId) (B : Nat) (e : Ending) (w' : World) : Prop := ∃ (v : Value) (r : Bool) (L : List Int), e = .returned (.tuple #[v, .bool r]) ∧ MapOfIs bs r L ∧ OwnInts w' t B v L


end Go.Proofs.YtjgcjeaplckbbaaGreatDoor

/- What a right member is, as plain lists say it. No program is named here. -/
namespace Go.Proofs.YtjgcjeaplckbbaaGreatDoor
open Go.RowKit
set_option linter.unusedVariables false
set_option linter.unusedSimpArgs false

/-- The greatest number so far, and its place. -/
def topStep (cur : Int × Int) (x : Int × Pg) : Int × Int := if cur.1 < x.2.seq then (x.2.seq, x.1) else cur
def topOf (xs : List (Int × Pg)) : Int × Int := xs.foldl topStep (0, 0)
theorem topOf_snoc (xs : List (Int × Pg)) (x : Int × Pg) : topOf (xs ++ [x]) = topStep (topOf xs) x := by simp [topOf]
theorem topOf_bounds (xs : List (Int × Pg)) (h : ∀ x ∈ xs, x.2.seq ≤ 1000000000) : 0 ≤ (topOf xs).1 ∧ (topOf xs).1 ≤ 1000000000 := by
  suffices H : ∀ (xs : List (Int × Pg)) (c : Int × Int), 0 ≤ c.1 → c.1 ≤ 1000000000 → (∀ x ∈ xs, x.2.seq ≤ 1000000000) → 0 ≤ (xs.foldl topStep c).1 ∧ (xs.foldl topStep c).1 ≤ 1000000000 from H xs (0, 0) (Int.le_refl _) (by decide) h
  intro xs
  induction xs with
  | nil => intro c h0 h1 _; exact ⟨h0, h1⟩
  | cons x xs ih =>
    intro c h0 h1 hx
    have h2 := hx x (by simp)
    simp only [List.foldl_cons]
    refine ih _ ?_ ?_ (fun y hy => hx y (by simp [hy]))
    · unfold topStep; split <;> (try simp) <;> omega
    · unfold topStep; split <;> (try simp) <;> omega
def topSeq (bs : List Bk) : Int := (topOf (usedOf bs)).1
theorem ChipOk.top {bs : List Bk} (h : ChipOk bs) : 0 ≤ topSeq bs ∧ topSeq bs ≤ 1000000000 :=
  topOf_bounds _ (fun x hx => (h.usedRight hx).2.2.2.1)

def freeB (b : Bk) : Bool := !pu b 0
def fullB (b : Bk) : Bool := pu b 0 && pu b 1 && pu b 2 && pu b 3
/-- Begun, and not full. -/
def halfB (b : Bk) : Bool := pu b 0 && !fullB b
theorem NextIs.kinds {b : Bk} {r : Int} (h : NextIs (pu b) 4 r) : decide (r = 0) = freeB b ∧ decide (0 < r) = halfB b ∧ decide (r < 0) = fullB b := by
  unfold halfB freeB fullB
  rcases h with ⟨k, hk, rfl, h1, h2⟩ | ⟨rfl, h1⟩
  · have h4 : k = 0 ∨ k = 1 ∨ k = 2 ∨ k = 3 := by omega
    rcases h4 with rfl | rfl | rfl | rfl
    · simp [h1]
    · have := h2 0 (by omega); simp [h1, this]
    · have a0 := h2 0 (by omega); have a1 := h2 1 (by omega); simp [h1, a0, a1]
    · have a0 := h2 0 (by omega); have a1 := h2 1 (by omega); have a2 := h2 2 (by omega); simp [h1, a0, a1, a2]
  · have a0 := h1 0 (by omega); have a1 := h1 1 (by omega); have a2 := h1 2 (by omega); have a3 := h1 3 (by omega)
    simp [a0, a1, a2, a3]

/-- No block of the first k but the open one is begun only; one of them is free. -/
def noHalf (bs : List Bk) (o : Int) (k : Nat) : Prop := ∀ i x, i < k → bs[i]? = some x → (i : Int) ≠ o → halfB x = false
def oneFree (bs : List Bk) (o : Int) (k : Nat) : Prop := ∃ i x, i < k ∧ bs[i]? = some x ∧ (i : Int) ≠ o ∧ freeB x = true
def Settled (bs : List Bk) (o : Int) : Prop := noHalf bs o bs.length ∧ oneFree bs o bs.length
theorem noHalf_succ {bs : List Bk} {o : Int} {k : Nat} {x : Bk} (hx : bs[k]? = some x) : noHalf bs o (k + 1) ↔ noHalf bs o k ∧ ((k : Int) ≠ o → halfB x = false) := by
  constructor
  · intro h
    exact ⟨fun i y hi hy hn => h i y (by omega) hy hn, fun hn => h k x (by omega) hx hn⟩
  · rintro ⟨h1, h2⟩ i y hi hy hn
    by_cases e : i = k
    · subst e; rw [hx] at hy; cases hy; exact h2 hn
    · exact h1 i y (by omega) hy hn
theorem oneFree_succ {bs : List Bk} {o : Int} {k : Nat} {x : Bk} (hx : bs[k]? = some x) : oneFree bs o (k + 1) ↔ oneFree bs o k ∨ ((k : Int) ≠ o ∧ freeB x = true) := by
  constructor
  · rintro ⟨i, y, hi, hy, hn, hf⟩
    by_cases e : i = k
    · subst e; rw [hx] at hy; cases hy; exact .inr ⟨hn, hf⟩
    · exact .inl ⟨i, y, by omega, hy, hn, hf⟩
  · rintro (⟨i, y, hi, hy, hn, hf⟩ | ⟨hn, hf⟩)
    · exact ⟨i, y, by omega, hy, hn, hf⟩
    · exact ⟨k, x, by omega, hx, hn, hf⟩

/-- A right member. -/
structure FtlOk (bs : List Bk) (L : List Int) (seq o : Int) : Prop where
  chip : ChipOk bs
  fits : Fits bs
  map : L = placesOf (usedOf bs) (roomOf bs)
  seq : topSeq bs + 1 ≤ seq ∧ seq ≤ 1000000000
  opn : 0 ≤ o ∧ o ≤ (bs.length : Int) - 1
  settled : Settled bs o
end Go.Proofs.YtjgcjeaplckbbaaGreatDoor

/- A new member: in plain words, the model's FtlNew and the program's. -/
namespace Go.Proofs.YtjgcjeaplckbbaaGreatDoor
open Go.RowKit
set_option linter.unusedVariables false
set_option linter.unusedSimpArgs false

def newBs (n : Nat) : List Bk := List.replicate n zeroBk
theorem newBs_length (n : Nat) : (newBs n).length = n := by simp [newBs]
theorem newBs_block {n : Nat} {b : Bk} (h : b ∈ newBs n) : b = zeroBk := List.eq_of_mem_replicate h
theorem zeroBk_page {k : Nat} {p : Pg} (h : zeroBk.pages[k]? = some p) : p = zeroPg := by
  have hm := List.mem_of_getElem? h
  simp [zeroBk] at hm
  exact hm
theorem seqs_newBs (n : Nat) : seqs (newBs n) = [] := by
  refine List.eq_nil_iff_forall_not_mem.2 (fun s hs => ?_)
  obtain ⟨i, b, k, p, hb, hp, hu, _⟩ := seqs_mem hs
  rw [newBs_block (List.mem_of_getElem? hb)] at hp
  rw [zeroBk_page hp] at hu
  cases hu
theorem chipOk_newBs {n : Nat} (h1 : 4 ≤ n) (h2 : n ≤ 12) : ChipOk (newBs n) := by
  refine ⟨by rw [newBs_length]; exact ⟨h1, h2⟩, fun b hb => ?_, by rw [seqs_newBs]; exact List.nodup_nil⟩
  rw [newBs_block hb]
  exact ⟨by simp [zeroBk], rfl, fun k p hp => by rw [zeroBk_page hp]; rfl, fun k p q hq hp hu => by rw [zeroBk_page hp] at hu; cases hu⟩
theorem usedOf_newBs (n : Nat) : usedOf (newBs n) = [] := by
  refine List.eq_nil_iff_forall_not_mem.2 (fun x hx => ?_)
  obtain ⟨b, k, hb, hk, _, hu⟩ := mem_usedAll hx
  obtain ⟨y, hy⟩ := getElem?_ex (l := newBs n) (k := b) hb
  have e := newBs_block (List.mem_of_getElem? hy)
  obtain ⟨p, hp⟩ := getElem?_ex (l := y.pages) (k := k) (by rw [e]; simpa [zeroBk] using hk)
  rw [mOf_page hy hp] at hu
  rw [e] at hp
  rw [zeroBk_page hp] at hu
  cases hu
def newMap (n : Nat) : List Int := List.replicate (4 * (n - 3)) (-1)
theorem newMap_is {n : Nat} {r : Bool} {L : List Int} (h : MapIs (newBs n) r L) : r = true ∧ L = newMap n := by
  have hf : Fits (newBs n) := fun x hx => by rw [usedOf_newBs] at hx; cases hx
  have hr := h.1.2 hf
  refine ⟨hr, ?_⟩
  have := h.2
  rw [hr] at this
  rw [this]
  simp only [if_true]
  rw [usedOf_newBs, placesOf_nil]
  unfold roomOf newMap
  rw [newBs_length]
theorem lensNewF {n : Nat} (h : n ≤ 12) : Lens 1048576 (newBs n) := ⟨by rw [newBs_length]; omega, fun b hb => by rw [newBs_block hb]; simp [zeroBk]⟩

/-- What FtlNew answers. -/
def FtlNewIs (b : Int) (out : List Bk) (L : List Int) (seq o : Int) (r : Bool) : Prop :=
  ((4 ≤ b ∧ b ≤ 12) ∧ out = newBs b.toNat ∧ L = newMap b.toNat ∧ seq = 1 ∧ o = 0 ∧ r = true) ∨ (¬ (4 ≤ b ∧ b ≤ 12) ∧ out = [] ∧ L = [] ∧ seq = 0 ∧ o = 0 ∧ r = false)
theorem FtlNewIs.one {b : Int} {out out' : List Bk} {L L' : List Int} {seq seq' o o' : Int} {r r' : Bool} (h : FtlNewIs b out L seq o r) (k : FtlNewIs b out' L' seq' o' r') : out = out' ∧ L = L' ∧ seq = seq' ∧ o = o' ∧ r = r' := by
  rcases h with ⟨h0, rfl, rfl, rfl, rfl, rfl⟩ | ⟨h0, rfl, rfl, rfl, rfl, rfl⟩
  · rcases k with ⟨_, rfl, rfl, rfl, rfl, rfl⟩ | ⟨k0, _⟩
    · exact ⟨rfl, rfl, rfl, rfl, rfl⟩
    · exact absurd h0 k0
  · rcases k with ⟨k0, _⟩ | ⟨_, rfl, rfl, rfl, rfl, rfl⟩
    · exact absurd k0 h0
    · exact ⟨rfl, rfl, rfl, rfl, rfl⟩
theorem FtlNewIs.lens {b : Int} {out : List Bk} {L : List Int} {seq o : Int} {r : Bool} (h : FtlNewIs b out L seq o r) : Lens 1048576 out ∧ L.length ≤ 36 := by
  rcases h with ⟨h0, rfl, rfl, _⟩ | ⟨_, rfl, rfl, _⟩
  · exact ⟨lensNewF (by omega), by simp [newMap]; omega⟩
  · exact ⟨⟨by simp, fun b hb => by cases hb⟩, by simp⟩

theorem MineFrom.lowerN {w : World} {a : Option Addr} {n B B' : Nat} (h : MineFrom w a n B) (hB : B' ≤ B) : MineFrom w a n B' := by
  rcases h with h | ⟨g, ha, h1, h2, h3⟩
  · exact .inl h
  · exact .inr ⟨g, ha, by omega, h2, h3⟩
theorem FtlOwn.lowerN {w : World} {B B' T T' : Nat} {a : Option Addr} {n c : Nat} {out : List Bk} {ma : Option Addr} {mn : Nat} {L : List Int} (h : FtlOwn w B T a n c out ma mn L) (hB : B' ≤ B) (hT : T ≤ T') : FtlOwn w B' T' a n c out ma mn L := by
  obtain ⟨h0, h1, h2, h6, C, K, h3, h4, h5⟩ := h
  exact ⟨h0, h1, MineFrom.lowerN h2 hB, fun g hg => Nat.lt_of_lt_of_le (h6 g hg) hT, C, K, by omega, h4, by omega, h5.2⟩
/-- A row that holds a member of nothing holds no block of four pages, no page, no number but 0: so a list that is read elsewhere lies elsewhere. -/
theorem zeroFtl_cell {w : World} {B : Nat} {ty : TypeId} (hr : w.heap[B]? = some (.cells #[.slice none 0 0, .slice none 0 0, .int .i64 0, .int .i64 0] ty (0, 0))) {i : Nat} {v : Value} (h : w.cell? ⟨B, i, none⟩ = some v) : v = .slice none 0 0 ∨ v = .int .i64 0 := by
  rw [cell_of_row _ _ i _ _ _ hr] at h
  match i with
  | 0 => simp at h; exact .inl h.symm
  | 1 => simp at h; exact .inl h.symm
  | 2 => simp at h; exact .inr h.symm
  | 3 => simp at h; exact .inr h.symm
  | i + 4 => simp at h
theorem blocksAt_apart {w w' : World} {B : Nat} {ty : TypeId} {a : Option Addr} {bs : List Bk} (hr : w.heap[B]? = some (.cells #[.slice none 0 0, .slice none 0 0, .int .i64 0, .int .i64 0] ty (0, 0))) (h : BlocksAt w a bs) (h4 : ∀ b ∈ bs, b.pages.length = 4) (hT : Touch (· = B) w w') : BlocksAt w' a bs := by
  intro i b hb
  obtain ⟨g, o, pa, pc, ha, c0, c1, hp⟩ := h i b hb
  have hl := h4 b (List.mem_of_getElem? hb)
  have hg : g ≠ B := by
    rintro rfl
    rcases zeroFtl_cell hr c1 with e | e
    · injection e with _ e2 _
      omega
    · cases e
  have hc : ∀ j, w'.cell? ⟨g, j, none⟩ = w.cell? ⟨g, j, none⟩ := fun j => World.cell?_of_block (w := w) (a := ⟨g, j, none⟩) (hT.block g (World.block_lt_of_cell? _ _ c0) hg)
  refine ⟨g, o, pa, pc, ha, (hc _).trans c0, (hc _).trans c1, fun k p hk => ?_⟩
  obtain ⟨g2, o2, ha2, d0, d1, d2, d3⟩ := hp k p hk
  have hg2 : g2 ≠ B := by
    rintro rfl
    rcases zeroFtl_cell hr d0 with e | e <;> cases e
  have hc2 : ∀ j, w'.cell? ⟨g2, j, none⟩ = w.cell? ⟨g2, j, none⟩ := fun j => World.cell?_of_block (w := w) (a := ⟨g2, j, none⟩) (hT.block g2 (World.block_lt_of_cell? _ _ d0) hg2)
  exact ⟨g2, o2, ha2, (hc2 _).trans d0, (hc2 _).trans d1, (hc2 _).trans d2, (hc2 _).trans d3⟩
theorem intsAt_apart {w w' : World} {B : Nat} {ty : TypeId} {a : Option Addr} {L : List Int} (hr : w.heap[B]? = some (.cells #[.slice none 0 0, .slice none 0 0, .int .i64 0, .int .i64 0] ty (0, 0))) (h : IntsAt w a L) (h0 : ∀ x ∈ L, x ≠ 0) (hT : Touch (· = B) w w') : IntsAt w' a L := by
  intro i x hx
  obtain ⟨b, o, ha, c⟩ := h i x hx
  have hb : b ≠ B := by
    rintro rfl
    rcases zeroFtl_cell hr c with e | e
    · cases e
    · exact h0 x (List.mem_of_getElem? hx) (by cases e; rfl)
  exact ⟨b, o, ha, (World.cell?_of_block (w := w) (a := ⟨b, o + i, none⟩) (hT.block b (World.block_lt_of_cell? _ _ c) hb)).trans c⟩
theorem touchN4 (w : World) (B : Nat) (v0 v1 v2 v3 : Value) : Touch (· = B) w ((((w.setCell ⟨B, 0, none⟩ v0).setCell ⟨B, 1, none⟩ v1).setCell ⟨B, 2, none⟩ v2).setCell ⟨B, 3, none⟩ v3) := by
  have h0 := Touch.refl (fun k => k = B) w
  have h1 := Touch.setCell h0 (p := ⟨B, 0, none⟩) (by rfl) v0
  have h2 := Touch.setCell h1 (p := ⟨B, 1, none⟩) (by rfl) v1
  have h3 := Touch.setCell h2 (p := ⟨B, 2, none⟩) (by rfl) v2
  exact Touch.setCell h3 (p := ⟨B, 3, none⟩) (by rfl) v3

set_option maxRecDepth 100000 in
set_option maxHeartbeats 2000000 in
theorem specFtlNew_mine (b : Int) (w : World) :
    Calls Tryz.prog 53 #[.int .i64 b] w fun e w' => ∃ (a : Option Addr) (n c : Nat) (ma : Option Addr) (mn mc : Nat) (out : List Bk) (L : List Int) (seq o : Int) (r : Bool), e = .returned (.tuple #[.agg #[.slice a n c, .slice ma mn mc, .int .i64 seq, .int .i64 o], .bool r]) ∧ FtlNewIs b out L seq o r ∧ out.length = n ∧ L.length = mn ∧ BlocksAt w' a out ∧ IntsAt w' ma L ∧ MineFrom w' ma mn w.heap.size ∧ Below w.heap.size w w' := by
  have hb0 : ∀ o, Below w.heap.size w (w.alloc o) := fun o => (Below.refl _ w).alloc (Nat.le_refl _) _
  by_cases hin : 4 ≤ b ∧ b ≤ 12
  · obtain ⟨n, rfl⟩ := Int.eq_ofNat_of_zero_le (show 0 ≤ b by omega)
    have h1 : 4 ≤ n := by omega
    have h2 : n ≤ 12 := by omega
    go_enter Tryz.func53, Tryz.ntmps53
    go_wp2_with fail
    refine (specChipNew_yes n _ h1 h2).mono ?_
    rintro e w1 ⟨a, c, rfl, hA, hB1⟩
    have hs1 := hB1.size
    simp at hs1
    have hr1 := (hB1.block w.heap.size (by simp)).trans (World.alloc_heap_new w _)
    have hW1 : Below w.heap.size w w1 := (hb0 _).trans (hB1.mono (by simp))
    have HA := hide hA
    have HR1 := hide hr1
    clear hA hB1 hr1 hb0
    have hb1 : ∀ o, Below w1.heap.size w1 (w1.alloc o) := fun o => (Below.refl _ w1).alloc (Nat.le_refl _) _
    go_wp2_with fail
    refine (l2Map_any a c (newBs n) n (newBs_length n) (chipOk_newBs h1 h2) _ ((unhide HA).below (hb1 _) (Nat.le_refl _))).mono ?_
    rintro e w2 ⟨⟨v, r, L, rfl, hM, hv⟩, hB2⟩
    obtain ⟨rfl, rfl⟩ := newMap_is hM
    obtain ⟨ma, mc, rfl, hI, hMine⟩ := hv.form
    have hs2 := hB2.size
    simp at hs2
    have hB12 := (hb1 _).trans (hB2.mono (by simp))
    have hr2 := (hB12.block w.heap.size (by omega)).trans (unhide HR1)
    have hc2 : w2.cell? ⟨w1.heap.size, 0, none⟩ = some (.slice a n c) := by
      rw [hB2.cell (p := ⟨w1.heap.size, 0, none⟩) (by simp)]
      simp
    have q0 := cell_of_row _ _ 0 _ _ _ hr2
    have q1 := cell_of_row _ _ 1 _ _ _ hr2
    have q2 := cell_of_row _ _ 2 _ _ _ hr2
    have q3 := cell_of_row _ _ 3 _ _ _ hr2
    have f0 := frozen_of_row _ _ 0 _ _ hr2
    have f1 := frozen_of_row _ _ 1 _ _ hr2
    have f2 := frozen_of_row _ _ 2 _ _ hr2
    have f3 := frozen_of_row _ _ 3 _ _ hr2
    simp at q0 q1 q2 q3
    have hW2 := hW1.trans (hB12.mono hW1.size)
    have HA2 := hide ((unhide HA).below hB12 (Nat.le_refl _))
    have HI := hide hI
    obtain ⟨mn, hmn⟩ : ∃ mn, (newMap n).length = mn := ⟨_, rfl⟩
    rw [hmn] at hMine ⊢
    have HMN := hide hmn
    simp only [World.size_alloc] at hMine
    have HMI := hide hMine
    have HR2 := hide hr2
    clear hv hM hB2 hB12 hr2 hI hmn HA HR1 hb1 hW1 hMine
    go_wp2
    refine bodyPost_ret (v := .tuple #[.agg #[.slice a n c, .slice ma mn mc, .int .i64 1, .int .i64 0], .bool true]) (by simp [results, Tryz.results53, go_sem, q0, q1, q2, q3]) rfl ⟨a, n, c, ma, mn, mc, newBs n, newMap n, 1, 0, true, rfl, .inl ⟨by omega, by simp, by simp, rfl, rfl, rfl⟩, newBs_length n, unhide HMN, ?_, ?_, ?_, ?_⟩
    · exact blocksAt_apart (unhide HR2) (unhide HA2) (fun b hb => by rw [newBs_block hb]; rfl) (touchN4 _ _ _ _ _ _)
    · exact intsAt_apart (unhide HR2) (unhide HI) (fun x hx => by rw [List.eq_of_mem_replicate hx]; decide) (touchN4 _ _ _ _ _ _)
    · exact MineFrom.lowerN ((unhide HMI).touch' (touchN4 _ _ _ _ _ _) (fun g hg he => by
        rcases unhide HMI with ⟨e, _⟩ | ⟨g', e, h1, _⟩
        · rw [hg] at e; cases e
        · rw [hg] at e; cases e; omega)) (by omega)
    · exact hW2.trans ((touchN4 _ _ _ _ _ _).below hW2.size (fun k hk => by rw [hk]; exact Nat.le_refl _))
  · go_enter Tryz.func53, Tryz.ntmps53
    go_wp2_with fail
    refine (specChipNew_no b _ hin).mono ?_
    rintro e w1 ⟨rfl, hB1⟩
    have hs1 := hB1.size
    simp at hs1
    have hr1 := (hB1.block w.heap.size (by simp)).trans (World.alloc_heap_new w _)
    have hW1 : Below w.heap.size w w1 := (hb0 _).trans (hB1.mono (by simp))
    have q0 := fun o' => (cell_alloc_lt w1 o' w.heap.size 0 (by omega)).trans (cell_of_row _ _ 0 _ _ _ hr1)
    have q1 := fun o' => (cell_alloc_lt w1 o' w.heap.size 1 (by omega)).trans (cell_of_row _ _ 1 _ _ _ hr1)
    have q2 := fun o' => (cell_alloc_lt w1 o' w.heap.size 2 (by omega)).trans (cell_of_row _ _ 2 _ _ _ hr1)
    have q3 := fun o' => (cell_alloc_lt w1 o' w.heap.size 3 (by omega)).trans (cell_of_row _ _ 3 _ _ _ hr1)
    have f0 := fun o' => (frozen_alloc_lt w1 o' w.heap.size 0 (by omega)).trans (frozen_of_row _ _ 0 _ _ hr1)
    have f1 := fun o' => (frozen_alloc_lt w1 o' w.heap.size 1 (by omega)).trans (frozen_of_row _ _ 1 _ _ hr1)
    have f2 := fun o' => (frozen_alloc_lt w1 o' w.heap.size 2 (by omega)).trans (frozen_of_row _ _ 2 _ _ hr1)
    have f3 := fun o' => (frozen_alloc_lt w1 o' w.heap.size 3 (by omega)).trans (frozen_of_row _ _ 3 _ _ hr1)
    simp at q0 q1 q2 q3
    clear hB1 hr1 hb0
    go_wp2
    refine bodyPost_ret (v := .tuple #[.agg #[.slice none 0 0, .slice none 0 0, .int .i64 0, .int .i64 0], .bool false]) (by simp [results, Tryz.results53, go_sem, q0, q1, q2, q3]) rfl ⟨none, 0, 0, none, 0, 0, [], [], 0, 0, false, rfl, .inr ⟨hin, rfl, rfl, rfl, rfl, rfl⟩, rfl, rfl, fun i x hx => by simp at hx, fun i x hx => by simp at hx, .inl ⟨rfl, rfl⟩, ?_⟩
    exact (hW1.alloc hW1.size _).trans ((touchN4 _ _ _ _ _ _).below (by simp; omega) (fun k hk => by rw [hk]; exact Nat.le_refl _))

theorem specFtlNew_any (b : Int) (w : World) :
    Calls Tryz.prog 53 #[.int .i64 b] w fun e w' => ∃ (a : Option Addr) (n c : Nat) (ma : Option Addr) (mn mc : Nat) (out : List Bk) (L : List Int) (seq o : Int) (r : Bool), e = .returned (.tuple #[.agg #[.slice a n c, .slice ma mn mc, .int .i64 seq, .int .i64 o], .bool r]) ∧ FtlNewIs b out L seq o r ∧ out.length = n ∧ L.length = mn ∧ BlocksAt w' a out ∧ IntsAt w' ma L ∧ Below w.heap.size w w' := by
  refine (specFtlNew_mine b w).mono ?_
  rintro e w' ⟨a, n, c, ma, mn, mc, out, L, seq, o, r, h1, h2, h3, h4, h5, h6, _, h7⟩
  exact ⟨a, n, c, ma, mn, mc, out, L, seq, o, r, h1, h2, h3, h4, h5, h6, h7⟩

end Go.Proofs.YtjgcjeaplckbbaaGreatDoor

/- The program's workers: newWorker and settle. -/
namespace Go.Proofs.YtjgcjeaplckbbaaGreatDoor
open Go.RowKit
set_option linter.unusedVariables false
set_option linter.unusedSimpArgs false

/-- A worker lies in block g: the cells of its chip, and its member but for the chip. -/
structure WorkAt (w : World) (g : Nat) (m : CC) (va : Value) (ma : Option Addr) (mn mc : Nat) (seq o : Int) : Prop where
  cells : ∀ j, j < 205 → w.cell? ⟨g, j, none⟩ = (ccA m)[j]?
  chip : w.cell? ⟨g, 205, none⟩ = some va
  map : w.cell? ⟨g, 206, none⟩ = some (.slice ma mn mc)
  seq : w.cell? ⟨g, 207, none⟩ = some (.int .i64 seq)
  opn : w.cell? ⟨g, 208, none⟩ = some (.int .i64 o)
  free : ∀ j, w.frozen? ⟨g, j, none⟩ = false
theorem WorkAt.lt {w : World} {g : Nat} {m : CC} {va : Value} {ma : Option Addr} {mn mc : Nat} {seq o : Int} (h : WorkAt w g m va ma mn mc seq o) : g < w.heap.size := World.block_lt_of_cell? _ _ h.chip
theorem WorkAt.of_block {w w' : World} {g : Nat} {m : CC} {va : Value} {ma : Option Addr} {mn mc : Nat} {seq o : Int} (h : WorkAt w g m va ma mn mc seq o) (e : w'.heap[g]? = w.heap[g]?) : WorkAt w' g m va ma mn mc seq o := by
  have hc : ∀ j, w'.cell? ⟨g, j, none⟩ = w.cell? ⟨g, j, none⟩ := fun j => World.cell?_of_block (w := w) (a := ⟨g, j, none⟩) e
  exact ⟨fun j hj => (hc j).trans (h.cells j hj), (hc _).trans h.chip, (hc _).trans h.map, (hc _).trans h.seq, (hc _).trans h.opn, fun j => (by simp only [World.frozen?, e] : w'.frozen? ⟨g, j, none⟩ = w.frozen? ⟨g, j, none⟩).trans (h.free j)⟩
theorem WorkAt.below {w w' : World} {g : Nat} {m : CC} {va : Value} {ma : Option Addr} {mn mc : Nat} {seq o : Int} (h : WorkAt w g m va ma mn mc seq o) {B : Nat} (hb : Below B w w') (hg : g < B) : WorkAt w' g m va ma mn mc seq o := h.of_block (hb.block g hg)

set_option maxRecDepth 100000 in
set_option maxHeartbeats 2000000 in
theorem settle_any (g : Nat) (m : CC) (bs : List Bk) (n : Nat) (hl : bs.length = n) (hct : m.count = n) (hbs : ccBs m n = bs) (hok : ChipOk bs) (va : Value) (hva : ∃ x y z, va = .slice x y z) (ma : Option Addr) (mn mc : Nat) (seq0 o0 seq o : Int) (w : World) (h : WorkAt w g m va ma mn mc seq0 o0) :
    Calls Tryz.prog 100 #[.pointer (some ⟨g, 0, none⟩), .int .i64 seq, .int .i64 o] w fun e w' => e = .returned (.tuple #[]) ∧ ∃ ma2 mn2 mc2 L r, WorkAt w' g m (.slice none 0 0) ma2 mn2 mc2 seq o ∧ MapIs bs r L ∧ L.length = mn2 ∧ IntsAt w' ma2 L ∧ MineFrom w' ma2 mn2 w.heap.size ∧ Touch (· = g) w w' := by
  obtain ⟨vx, vy, vz, rfl⟩ := hva
  have hc := hok.count
  have hn4 : 4 ≤ n ∧ n ≤ 12 := by omega
  have HNP := hide (fun W => newestPlaces_any m n hct hn4.1 hn4.2 bs hl hbs hok W)
  have hgl := h.lt
  have HC : Hid (∀ j, j < 205 → w.cell? ⟨g, 0 + j, none⟩ = (ccA m)[j]?) := fun j hj => by rw [Nat.zero_add]; exact h.cells j hj
  have H := hide h
  have HAS := hide (ccA_size m)
  obtain ⟨A, hA⟩ : ∃ A, A = ccA m := ⟨_, rfl⟩
  have HA := hide hA
  rw [← hA] at HNP HC HAS
  clear hA h hok hbs hct hl hc
  go_enter Tryz.func100, Tryz.ntmps100
  go_wp2_with (refine wpList_load_mid rfl 128 _ rfl g 0 rfl A 205 (unhide HAS) (unhide HC) _ Tryz.underlying128 rfl sizeCC' ?_)
  refine (unhide HNP _).mono ?_
  rintro e w1 ⟨⟨v, r, L, rfl, hM, hv⟩, hB⟩
  obtain ⟨a2, c2, rfl, hI, hmine⟩ := hv.form
  have hW := (unhide H).below hB hgl
  have hs1 := hB.size
  have z0 := hW.chip
  have z1 := hW.map
  have z2 := hW.seq
  have z3 := hW.opn
  have f0 := hW.free 205
  have f1 := hW.free 206
  have f2 := hW.free 207
  have f3 := hW.free 208
  have HW := hide hW
  have HI := hide hI
  have HMN := hide hmine
  have HMI := hide hM
  have HB := hide hB
  obtain ⟨ln, hln⟩ : ∃ ln, ln = L.length := ⟨_, rfl⟩
  rw [← hln] at HMN ⊢
  have HLN := hide hln.symm
  obtain ⟨W5, hW5⟩ : ∃ W5, W5 = (((w1.setCell ⟨g, 205, none⟩ (.slice none 0 0)).setCell ⟨g, 206, none⟩ (.slice a2 ln c2)).setCell ⟨g, 207, none⟩ (.int .i64 seq)).setCell ⟨g, 208, none⟩ (.int .i64 o) := ⟨_, rfl⟩
  have y0 : W5.cell? ⟨g, 205, none⟩ = some (.slice none 0 0) := by rw [hW5, World.cell?_setCell_other _ _ _ _ (by simp), World.cell?_setCell_other _ _ _ _ (by simp), World.cell?_setCell_other _ _ _ _ (by simp), World.cell?_setCell_same' _ _ _ (by rw [z0]; rfl)]
  have y1 : W5.cell? ⟨g, 206, none⟩ = some (.slice a2 ln c2) := by rw [hW5, World.cell?_setCell_other _ _ _ _ (by simp), World.cell?_setCell_other _ _ _ _ (by simp), World.cell?_setCell_same' _ _ _ (by rw [World.cell?_setCell_other _ _ _ _ (by simp), z1]; rfl)]
  have y2 : W5.cell? ⟨g, 207, none⟩ = some (.int .i64 seq) := by rw [hW5, World.cell?_setCell_other _ _ _ _ (by simp), World.cell?_setCell_same' _ _ _ (by rw [World.cell?_setCell_other _ _ _ _ (by simp), World.cell?_setCell_other _ _ _ _ (by simp), z2]; rfl)]
  have y3 : W5.cell? ⟨g, 208, none⟩ = some (.int .i64 o) := by rw [hW5, World.cell?_setCell_same' _ _ _ (by rw [World.cell?_setCell_other _ _ _ _ (by simp), World.cell?_setCell_other _ _ _ _ (by simp), World.cell?_setCell_other _ _ _ _ (by simp), z3]; rfl)]
  have hblk : ∀ k, k ≠ g → W5.heap[k]? = w1.heap[k]? := fun k hk => by
    rw [hW5, Go.Deep.blk_setCell_other _ _ _ _ hk, Go.Deep.blk_setCell_other _ _ _ _ hk, Go.Deep.blk_setCell_other _ _ _ _ hk, Go.Deep.blk_setCell_other _ _ _ _ hk]
  have hs5 : W5.heap.size = w1.heap.size := by rw [hW5]; simp [World.setCell]
  have hT0 : Touch (fun k => k = g) w w1 := Touch.of_below hB
  have hT5 : Touch (fun k => k = g) w W5 := by
    rw [hW5]
    exact Touch.setCell (p := ⟨g, 208, none⟩) (Touch.setCell (p := ⟨g, 207, none⟩) (Touch.setCell (p := ⟨g, 206, none⟩) (Touch.setCell (p := ⟨g, 205, none⟩) hT0 rfl _) rfl _) rfl _) rfl _
  have hcl : ∀ j, j < 205 → W5.cell? ⟨g, j, none⟩ = (ccA m)[j]? := fun j hj => by
    rw [hW5, World.cell?_setCell_other _ _ _ _ (by simp <;> omega), World.cell?_setCell_other _ _ _ _ (by simp <;> omega), World.cell?_setCell_other _ _ _ _ (by simp <;> omega), World.cell?_setCell_other _ _ _ _ (by simp <;> omega)]
    exact (unhide HW).cells j hj
  have hfr : ∀ j, W5.frozen? ⟨g, j, none⟩ = false := fun j => by rw [hW5]; simpa using (unhide HW).free j
  have HWF : Hid (WorkAt W5 g m (.slice none 0 0) a2 ln c2 seq o) := ⟨hcl, y0, y1, y2, y3, hfr⟩
  have HIF : Hid (IntsAt W5 a2 L) := fun i x hx => by
    obtain ⟨b, oo, hb, hcx⟩ := (unhide HI) i x hx
    have hbg : b ≠ g := by
      rcases unhide HMN with ⟨e, _⟩ | ⟨g', e, h1, _⟩
      · rw [e] at hb; cases hb
      · rw [e] at hb; cases hb; omega
    exact ⟨b, oo, hb, (World.cell?_of_block (w := w1) (a := ⟨b, oo + i, none⟩) (hblk b hbg)).trans hcx⟩
  have HMF : Hid (MineFrom W5 a2 ln w.heap.size) := by
    rcases unhide HMN with h | ⟨g', e, h1, h2, h3⟩
    · exact .inl h
    · exact .inr ⟨g', e, h1, by rw [hs5]; exact h2, h3.of_block (hblk g' (by omega))⟩
  have HT5 := hide hT5
  clear y0 y1 y2 y3 hblk hT0 hT5 hcl hfr hv hmine hM hB hI hW hln
  go_wp2
  try rw [← hW5]
  exact bodyPost_end (v := .tuple #[]) (by simp [results, Tryz.results100, go_sem]) rfl ⟨rfl, a2, ln, c2, L, r, unhide HWF, unhide HMI, unhide HLN, unhide HIF, unhide HMF, unhide HT5⟩
end Go.Proofs.YtjgcjeaplckbbaaGreatDoor

/- How many pages of a block are the newest of their log, as plain lists say it. No program is named here. -/
namespace Go.Proofs.YtjgcjeaplckbbaaGreatDoor
open Go.RowKit
set_option linter.unusedVariables false
set_option linter.unusedSimpArgs false

def hit (blk x : Int) : Bool := decide (0 ≤ x) && decide (x / 4 = blk)
def validIn (L : List Int) (blk : Int) : Nat := (L.filter (hit blk)).length
theorem validIn_nil (blk : Int) : validIn [] blk = 0 := rfl
theorem validIn_snoc (L : List Int) (x blk : Int) : validIn (L ++ [x]) blk = validIn L blk + if hit blk x = true then 1 else 0 := by
  unfold validIn
  rw [List.filter_append, List.length_append]
  cases h : hit blk x <;> simp [h]
theorem take_succ_of {α : Type} {L : List α} {k : Nat} {x : α} (hx : L[k]? = some x) : L.take (k + 1) = L.take k ++ [x] := by rw [List.take_add_one, hx]; rfl
theorem validIn_take {L : List Int} {k : Nat} {x : Int} (hx : L[k]? = some x) (blk : Int) : validIn (L.take (k + 1)) blk = validIn (L.take k) blk + if hit blk x = true then 1 else 0 := by
  rw [take_succ_of hx, validIn_snoc]
theorem validIn_le (L : List Int) (blk : Int) : validIn L blk ≤ L.length := List.length_filter_le _ _
/-- The places that are named. -/
def namedOf (L : List Int) : List Int := L.filter fun x => decide (x ≠ -1)
theorem namedOf_take {L : List Int} {k : Nat} {x : Int} (hx : L[k]? = some x) : namedOf (L.take (k + 1)) = namedOf (L.take k) ++ if x = -1 then [] else [x] := by
  rw [take_succ_of hx]
  unfold namedOf
  rw [List.filter_append]
  by_cases e : x = -1 <;> simp [e]
theorem namedOf_length (L : List Int) : (namedOf L).length ≤ L.length := List.length_filter_le _ _
theorem namedOf_prefix (L : List Int) (k : Nat) : namedOf (L.take k) <+: namedOf L := by
  unfold namedOf
  exact List.IsPrefix.filter _ (List.take_prefix k L)
theorem validIn_named (L : List Int) (blk : Int) : validIn (namedOf L) blk = validIn L blk := by
  unfold validIn namedOf
  rw [List.filter_filter]
  congr 1
  refine List.filter_congr (fun x _ => ?_)
  by_cases e : x = -1
  · subst e; simp [hit]
  · simp [e]

theorem FtlOk.places {bs : List Bk} {L : List Int} {seq o : Int} (h : FtlOk bs L seq o) : ∀ x ∈ L, x = -1 ∨ (0 ≤ x ∧ x < 4 * (bs.length : Int)) := by
  intro x hx
  rw [h.map] at hx
  unfold placesOf at hx
  simp only [List.mem_map, List.mem_range] at hx
  obtain ⟨i, hi, rfl⟩ := hx
  cases e : newestAt (usedOf bs) (i : Int) with
  | none => left; rfl
  | some y =>
    right
    obtain ⟨hm, _⟩ := newestAt_mem e
    obtain ⟨_, _, _, _, _, b, k, z, hb, _, hk, hy, _⟩ := h.chip.usedRight hm
    have hlt := (List.getElem?_eq_some_iff.1 hb).1
    simp only [placeIn]
    rw [hy]
    omega
theorem FtlOk.len {bs : List Bk} {L : List Int} {seq o : Int} (h : FtlOk bs L seq o) : L.length = 4 * (bs.length - 3) := by
  rw [h.map, placesOf_length]; rfl
theorem FtlOk.len36 {bs : List Bk} {L : List Int} {seq o : Int} (h : FtlOk bs L seq o) : L.length ≤ 36 := by
  have := h.len; have := h.chip.count; omega

/-- What ValidOf answers. -/
def ValidIs (bs : List Bk) (L : List Int) (seq o blk r : Int) : Prop :=
  ((FtlOk bs L seq o ∧ 0 ≤ blk ∧ blk ≤ (bs.length : Int) - 1) ∧ r = (validIn L blk : Int)) ∨ (¬ (FtlOk bs L seq o ∧ 0 ≤ blk ∧ blk ≤ (bs.length : Int) - 1) ∧ r = -1)
theorem ValidIs.one {bs : List Bk} {L : List Int} {seq o blk r s : Int} (h : ValidIs bs L seq o blk r) (k : ValidIs bs L seq o blk s) : r = s := by
  rcases h with ⟨h1, rfl⟩ | ⟨h1, rfl⟩
  · rcases k with ⟨_, rfl⟩ | ⟨k1, _⟩
    · rfl
    · exact absurd h1 k1
  · rcases k with ⟨k1, _⟩ | ⟨_, rfl⟩
    · exact absurd k1 h1
    · rfl
end Go.Proofs.YtjgcjeaplckbbaaGreatDoor

/- The block that is emptied, as plain lists say it. No program is named here. -/
namespace Go.Proofs.YtjgcjeaplckbbaaGreatDoor
open Go.RowKit
set_option linter.unusedVariables false
set_option linter.unusedSimpArgs false

def wearAt (bs : List Bk) (i : Int) : Int := (bs[i.toNat]?.map (·.wear)).getD 0
theorem wearAt_of {bs : List Bk} {k : Nat} {x : Bk} (hx : bs[k]? = some x) : wearAt bs (k : Int) = x.wear := by simp [wearAt, hx]
/-- Is block i, of the wear x, to be emptied rather than best? -/
def beats (bs : List Bk) (L : List Int) (best : Int) (i : Int) (x : Int) : Bool :=
  decide (best < 0) || decide (validIn L i < validIn L best) || (decide (validIn L i = validIn L best) && decide (x < wearAt bs best))
theorem beats_neg {bs : List Bk} {L : List Int} {best i x : Int} (h : best < 0) : beats bs L best i x = true := by simp [beats, h]
theorem beats_few {bs : List Bk} {L : List Int} {best i x : Int} (h : validIn L i < validIn L best) : beats bs L best i x = true := by simp [beats, h]
theorem beats_wear {bs : List Bk} {L : List Int} {best i x y : Int} (h : validIn L i = validIn L best) (hy : wearAt bs best = y) (hw : x < y) : beats bs L best i x = true := by simp [beats, h, hy, hw]
theorem beats_worn {bs : List Bk} {L : List Int} {best i x y : Int} (h0 : 0 ≤ best) (h : validIn L i = validIn L best) (hy : wearAt bs best = y) (hw : y ≤ x) : beats bs L best i x = false := by
  have h1 : ¬ best < 0 := by omega
  have h2 : ¬ x < y := by omega
  simp [beats, h, hy, h1, h2]
theorem beats_more {bs : List Bk} {L : List Int} {best i x : Int} (h0 : 0 ≤ best) (h : validIn L best < validIn L i) : beats bs L best i x = false := by
  have h1 : ¬ best < 0 := by omega
  have h2 : ¬ validIn L i < validIn L best := by omega
  have h3 : ¬ validIn L i = validIn L best := by omega
  simp [beats, h1, h2, h3]
def vicStep (bs : List Bk) (L : List Int) (o : Int) (best : Int) (i : Nat) : Int :=
  match bs[i]? with
  | none => best
  | some x => if (i : Int) = o ∨ fullB x = false then best else if beats bs L best (i : Int) x.wear = true then (i : Int) else best
def vicTo (bs : List Bk) (L : List Int) (o : Int) (k : Nat) : Int := (List.range k).foldl (vicStep bs L o) (-1)
theorem vicTo_succ (bs : List Bk) (L : List Int) (o : Int) (k : Nat) : vicTo bs L o (k + 1) = vicStep bs L o (vicTo bs L o k) k := by simp [vicTo, List.range_succ]
theorem vicTo_bounds (bs : List Bk) (L : List Int) (o : Int) (k : Nat) : -1 ≤ vicTo bs L o k ∧ vicTo bs L o k < (k : Int) := by
  induction k with
  | zero => exact ⟨Int.le_refl _, by show (-1 : Int) < 0; decide⟩
  | succ k ih =>
    rw [vicTo_succ]
    unfold vicStep
    split
    · omega
    · split
      · omega
      · split <;> omega
theorem vicTo_skip {bs : List Bk} {L : List Int} {o : Int} {k : Nat} {x : Bk} (hx : bs[k]? = some x) (h : (k : Int) = o ∨ fullB x = false) : vicTo bs L o (k + 1) = vicTo bs L o k := by
  rw [vicTo_succ]; unfold vicStep; rw [hx]; simp only; rw [if_pos h]
theorem vicTo_take {bs : List Bk} {L : List Int} {o : Int} {k : Nat} {x : Bk} (hx : bs[k]? = some x) (h1 : (k : Int) ≠ o) (h2 : fullB x = true) (hb : beats bs L (vicTo bs L o k) (k : Int) x.wear = true) : vicTo bs L o (k + 1) = (k : Int) := by
  rw [vicTo_succ]; unfold vicStep; rw [hx]; simp only; rw [if_neg (by rw [h2]; simp [h1]), if_pos hb]
theorem vicTo_keep {bs : List Bk} {L : List Int} {o : Int} {k : Nat} {x : Bk} (hx : bs[k]? = some x) (h1 : (k : Int) ≠ o) (h2 : fullB x = true) (hb : beats bs L (vicTo bs L o k) (k : Int) x.wear = false) : vicTo bs L o (k + 1) = vicTo bs L o k := by
  rw [vicTo_succ]; unfold vicStep; rw [hx]; simp only; rw [if_neg (by rw [h2]; simp [h1]), if_neg (by rw [hb]; simp)]
/-- The victim of a member. -/
def vicOf (bs : List Bk) (L : List Int) (o : Int) : Int := vicTo bs L o bs.length

/-- What VictimOf answers. -/
def VictimIs (bs : List Bk) (L : List Int) (seq o r : Int) : Prop := (FtlOk bs L seq o ∧ r = vicOf bs L o) ∨ (¬ FtlOk bs L seq o ∧ r = -1)
theorem VictimIs.one {bs : List Bk} {L : List Int} {seq o r s : Int} (h : VictimIs bs L seq o r) (k : VictimIs bs L seq o s) : r = s := by
  rcases h with ⟨h1, rfl⟩ | ⟨h1, rfl⟩
  · rcases k with ⟨_, rfl⟩ | ⟨k1, _⟩
    · rfl
    · exact absurd h1 k1
  · rcases k with ⟨k1, _⟩ | ⟨_, rfl⟩
    · exact absurd k1 h1
    · rfl
end Go.Proofs.YtjgcjeaplckbbaaGreatDoor

/- Ops as they lie in memory, and rows of them that a call has made itself: no program is named here. -/
namespace Go.Proofs.YtjgcjeaplckbbaaGreatDoor
open Go.RowKit
set_option linter.unusedVariables false
set_option linter.unusedSimpArgs false

structure Opn where
  kind : Int
  block : Int
  page : Pg

/-- The ops xs lie, one behind the other, from the address a on. -/
def OpsAt (w : World) (a : Option Addr) (xs : List Opn) : Prop :=
  ∀ i x, xs[i]? = some x → ∃ b o, a = some ⟨b, o, none⟩ ∧ w.cell? ⟨b, o + i * 6, none⟩ = some (.int .i64 x.kind) ∧ w.cell? ⟨b, o + i * 6 + 1, none⟩ = some (.int .i64 x.block) ∧ w.cell? ⟨b, o + i * 6 + 2, none⟩ = some (.bool x.page.used) ∧
    w.cell? ⟨b, o + i * 6 + 3, none⟩ = some (.int .i64 x.page.log) ∧ w.cell? ⟨b, o + i * 6 + 4, none⟩ = some (.int .i64 x.page.seq) ∧ w.cell? ⟨b, o + i * 6 + 5, none⟩ = some (.string x.page.data)

theorem OpsAt.below {w w' : World} {a : Option Addr} {xs : List Opn} (h : OpsAt w a xs) {B : Nat} (hb : Below B w w') (hB : w.heap.size ≤ B) : OpsAt w' a xs := by
  intro i x hx
  obtain ⟨b, o, ha, h0, h1, h2, h3, h4, h5⟩ := h i x hx
  have hlt : b < B := Nat.lt_of_lt_of_le (World.block_lt_of_cell? _ _ h0) hB
  have e : ∀ j, w'.cell? ⟨b, j, none⟩ = w.cell? ⟨b, j, none⟩ := fun j => hb.cell (p := ⟨b, j, none⟩) hlt
  exact ⟨b, o, ha, (e _).trans h0, (e _).trans h1, (e _).trans h2, (e _).trans h3, (e _).trans h4, (e _).trans h5⟩

def zeroOp : Opn := ⟨0, 0, zeroPg⟩
def opV (x : Opn) : Nat → Value
  | 0 => .int .i64 x.kind
  | 1 => .int .i64 x.block
  | j + 2 => pgV x.page j
/-- What stands in cell i of a row of ops (zero ops behind the last). -/
def opsF (xs : List Opn) (i : Nat) : Value := opV ((xs[i / 6]?).getD zeroOp) (i % 6)
theorem opsF_at {xs : List Opn} {k : Nat} {x : Opn} (h : xs[k]? = some x) (j : Nat) (hj : j < 6) : opsF xs (k * 6 + j) = opV x j := by
  unfold opsF
  rw [show (k * 6 + j) / 6 = k by omega, show (k * 6 + j) % 6 = j by omega, h]
  rfl
def OwnOps (w : World) (t : TypeId) (b : Nat) (n : Nat) (xs : List Opn) : Prop := w.rowIs b t (n * 6) (opsF xs)
theorem OwnOps.opsAt {w : World} {t : TypeId} {b n : Nat} {xs : List Opn} (h : OwnOps w t b n xs) (hn : xs.length ≤ n) : OpsAt w (some ⟨b, 0, none⟩) xs := by
  intro i x hx
  have hi := (List.getElem?_eq_some_iff.1 hx).1
  have c : ∀ j, j < 6 → w.cell? ⟨b, 0 + i * 6 + j, none⟩ = some (opV x j) := fun j hj => by
    rw [Nat.zero_add, World.rowIs.cell h (i := i * 6 + j) (by omega), opsF_at hx j hj]
  exact ⟨b, 0, rfl, c 0 (by omega), c 1 (by omega), c 2 (by omega), c 3 (by omega), c 4 (by omega), c 5 (by omega)⟩
theorem OwnOps.below {w w' : World} {t : TypeId} {b n : Nat} {xs : List Opn} (h : OwnOps w t b n xs) {B : Nat} (hb : Below B w w') (hB : b < B) : OwnOps w' t b n xs :=
  World.rowIs.of_block h (hb.block b hB)
theorem OwnOps.cells {w : World} {t : TypeId} {b n : Nat} {xs : List Opn} (h : OwnOps w t b n xs) {k : Nat} (hk : k < n) : ∀ j, j < 6 → ∃ v, w.cell? ⟨b, k * 6 + j, none⟩ = some v :=
  fun j hj => ⟨_, World.rowIs.cell h (by omega)⟩
theorem OwnOps.made (w : World) (t : TypeId) (n : Nat) : OwnOps (w.alloc (.cells (madeCells #[.int .i64 0, .int .i64 0, .bool false, .int .i64 0, .int .i64 0, .string ByteArray.empty] (n * 6)) t)) t w.heap.size n [] := by
  refine ⟨_, Go.Deep.blk_alloc_new _ _, size_madeCells _ _, fun i hi => ?_⟩
  simp only [madeCells, Array.getElem?_map, Array.getElem?_range, hi, if_true, Option.map_some]
  unfold opsF
  have h6 : i % 6 = 0 ∨ i % 6 = 1 ∨ i % 6 = 2 ∨ i % 6 = 3 ∨ i % 6 = 4 ∨ i % 6 = 5 := by omega
  rcases h6 with e | e | e | e | e | e <;> simp [e, opV, pgV, zeroOp, zeroPg]
theorem opsF_put {xs : List Opn} {k : Nat} {x : Opn} (ys : List Opn) (hy : ys[k]? = some x) (hother : ∀ i, i ≠ k → ys[i]? = xs[i]?) (j : Nat) :
    (if j = k * 6 + 5 then Value.string x.page.data else if j = k * 6 + 4 then .int .i64 x.page.seq else if j = k * 6 + 3 then .int .i64 x.page.log else if j = k * 6 + 2 then .bool x.page.used else if j = k * 6 + 1 then .int .i64 x.block else if j = k * 6 then .int .i64 x.kind else opsF xs j) = opsF ys j := by
  by_cases e5 : j = k * 6 + 5
  · subst e5; rw [if_pos rfl, opsF_at hy 5 (by omega)]; rfl
  rw [if_neg e5]
  by_cases e4 : j = k * 6 + 4
  · subst e4; rw [if_pos rfl, opsF_at hy 4 (by omega)]; rfl
  rw [if_neg e4]
  by_cases e3 : j = k * 6 + 3
  · subst e3; rw [if_pos rfl, opsF_at hy 3 (by omega)]; rfl
  rw [if_neg e3]
  by_cases e2 : j = k * 6 + 2
  · subst e2; rw [if_pos rfl, opsF_at hy 2 (by omega)]; rfl
  rw [if_neg e2]
  by_cases e1 : j = k * 6 + 1
  · subst e1; rw [if_pos rfl, opsF_at hy 1 (by omega)]; rfl
  rw [if_neg e1]
  by_cases e0 : j = k * 6
  · subst e0; rw [if_pos rfl, show k * 6 = k * 6 + 0 by omega, opsF_at hy 0 (by omega)]; rfl
  rw [if_neg e0]
  unfold opsF
  rw [hother (j / 6) (by omega)]
theorem take_put {xs : List Opn} {k : Nat} {x : Opn} (h : xs[k]? = some x) : (xs.take (k + 1))[k]? = some x ∧ ∀ i, i ≠ k → (xs.take (k + 1))[i]? = (xs.take k)[i]? := by
  refine ⟨by rw [List.getElem?_take, if_pos (by omega)]; exact h, fun i hi => ?_⟩
  rw [List.getElem?_take, List.getElem?_take]
  by_cases hlt : i < k
  · rw [if_pos hlt, if_pos (by omega)]
  · rw [if_neg hlt, if_neg (by omega)]
/-- Six cells are written: op k is x. -/
theorem OwnOps.put {w : World} {t : TypeId} {b n k : Nat} {xs ys : List Opn} {x : Opn} (h : OwnOps w t b n xs) (hy : ys[k]? = some x) (hother : ∀ i, i ≠ k → ys[i]? = xs[i]?) :
    OwnOps ((((((w.setCell ⟨b, k * 6, none⟩ (.int .i64 x.kind)).setCell ⟨b, k * 6 + 1, none⟩ (.int .i64 x.block)).setCell ⟨b, k * 6 + 2, none⟩ (.bool x.page.used)).setCell ⟨b, k * 6 + 3, none⟩ (.int .i64 x.page.log)).setCell ⟨b, k * 6 + 4, none⟩ (.int .i64 x.page.seq)).setCell ⟨b, k * 6 + 5, none⟩ (.string x.page.data)) t b n ys :=
  ((((((World.rowIs.set h (k * 6) _).set (k * 6 + 1) _).set (k * 6 + 2) _).set (k * 6 + 3) _).set (k * 6 + 4) _).set (k * 6 + 5) _).congr (fun j _ => opsF_put ys hy hother j)

/-- No text of an op is longer than a machine's number can say. -/
def OpTexts (xs : List Opn) : Prop := ∀ x ∈ xs, x.page.data.size ≤ 9223372036854775807
end Go.Proofs.YtjgcjeaplckbbaaGreatDoor

/- The ops of a write, as plain lists say them. No program is named here. -/
namespace Go.Proofs.YtjgcjeaplckbbaaGreatDoor
open Go.RowKit
set_option linter.unusedVariables false
set_option linter.unusedSimpArgs false

/-- Is the free block f to be taken rather than best? -/
def fresher (bs : List Bk) (but best f : Int) : Bool := decide (f ≠ but) && (decide (best < 0) || decide (wearAt bs f < wearAt bs best))
def freshStep (bs : List Bk) (but best f : Int) : Int := if fresher bs but best f = true then f else best
def freshIn (bs : List Bk) (but : Int) (L : List Int) : Int := L.foldl (freshStep bs but) (-1)
/-- The free block, but one, that is worn the least. -/
def freshOf (bs : List Bk) (but : Int) : Int := freshIn bs but (freeTo bs bs.length)
theorem freshIn_take {bs : List Bk} {but : Int} {L : List Int} {k : Nat} {x : Int} (hx : L[k]? = some x) : freshIn bs but (L.take (k + 1)) = freshStep bs but (freshIn bs but (L.take k)) x := by
  rw [take_succ_of hx]; simp [freshIn]
theorem freshStep_yes {bs : List Bk} {but best f : Int} (h : fresher bs but best f = true) : freshStep bs but best f = f := by simp [freshStep, h]
theorem freshStep_no {bs : List Bk} {but best f : Int} (h : fresher bs but best f = false) : freshStep bs but best f = best := by simp [freshStep, h]
theorem mem_freeTo {bs : List Bk} {k : Nat} {x : Int} (h : x ∈ freeTo bs k) : ∃ i : Nat, i < k ∧ x = (i : Int) ∧ begun bs i = false := by
  unfold freeTo at h
  simp only [List.mem_map, List.mem_filter, List.mem_range] at h
  obtain ⟨i, ⟨hi, hb⟩, rfl⟩ := h
  exact ⟨i, hi, rfl, by simpa using hb⟩
theorem freeTo_mem {bs : List Bk} {k i : Nat} (hi : i < k) (hb : begun bs i = false) : (i : Int) ∈ freeTo bs k := by
  unfold freeTo
  simp only [List.mem_map, List.mem_filter, List.mem_range]
  exact ⟨i, ⟨hi, by simpa using hb⟩, rfl⟩
theorem freeTo_nodup (bs : List Bk) (k : Nat) : (freeTo bs k).Nodup := by
  unfold freeTo
  refine List.Pairwise.map _ (fun a b h => ?_) (List.Pairwise.filter _ List.nodup_range)
  intro e
  exact h (by omega)
theorem freshIn_some (bs : List Bk) (but : Int) (L : List Int) : ∀ b, (L.foldl (freshStep bs but) b = b) ∨ (L.foldl (freshStep bs but) b ∈ L ∧ L.foldl (freshStep bs but) b ≠ but) := by
  induction L with
  | nil => intro b; exact .inl rfl
  | cons x L ih =>
    intro b
    simp only [List.foldl_cons]
    rcases ih (freshStep bs but b x) with h | ⟨h1, h2⟩
    · rw [h]
      by_cases hf : fresher bs but b x = true
      · rw [freshStep_yes hf]
        refine .inr ⟨by simp, ?_⟩
        unfold fresher at hf
        simp at hf
        exact hf.1
      · rw [freshStep_no (by simpa using hf)]; exact .inl rfl
    · exact .inr ⟨by simp [h1], h2⟩
theorem freshIn_neg {bs : List Bk} {but : Int} {L : List Int} (h0 : ∀ x ∈ L, 0 ≤ x) : (freshIn bs but L < 0 ↔ ∀ x ∈ L, x = but) := by
  suffices H : ∀ (L : List Int) (b : Int), (∀ x ∈ L, 0 ≤ x) → (L.foldl (freshStep bs but) b < 0 ↔ b < 0 ∧ ∀ x ∈ L, x = but) by
    have := H L (-1) h0
    unfold freshIn
    rw [this]
    simp
  intro L
  induction L with
  | nil => intro b _; simp
  | cons x L ih =>
    intro b h0
    simp only [List.foldl_cons]
    rw [ih _ (fun y hy => h0 y (by simp [hy]))]
    have hx := h0 x (by simp)
    by_cases hf : fresher bs but b x = true
    · rw [freshStep_yes hf]
      constructor
      · rintro ⟨h, _⟩; omega
      · rintro ⟨_, h⟩
        unfold fresher at hf
        simp at hf
        exact absurd (h x (by simp)) hf.1
    · rw [freshStep_no (by simpa using hf)]
      constructor
      · rintro ⟨h1, h2⟩
        refine ⟨h1, fun y hy => ?_⟩
        rcases List.mem_cons.1 hy with rfl | hy
        · by_cases e : y = but
          · exact e
          · exfalso; exact hf (by unfold fresher; simp [e, h1])
        · exact h2 y hy
      · rintro ⟨h1, h2⟩
        exact ⟨h1, fun y hy => h2 y (by simp [hy])⟩

/-- The least worn of a list that has one at least, the first of those alike. -/
def leastStep (bs : List Bk) (m y : Int) : Int := if wearAt bs y < wearAt bs m then y else m
def leastIn (bs : List Bk) : List Int → Int
  | [] => 0
  | x :: xs => xs.foldl (leastStep bs) x
theorem leastIn_fresh {bs : List Bk} {L : List Int} (h0 : ∀ x ∈ L, 0 ≤ x) (hL : L ≠ []) : leastIn bs L = freshIn bs (-1) L := by
  cases L with
  | nil => exact absurd rfl hL
  | cons x xs =>
    unfold leastIn freshIn
    simp only [List.foldl_cons]
    have e : freshStep bs (-1) (-1) x = x := freshStep_yes (by have := h0 x (by simp); unfold fresher; simp; omega)
    rw [e]
    have hx := h0 x (by simp)
    have hxs : ∀ y ∈ xs, 0 ≤ y := fun y hy => h0 y (by simp [hy])
    clear e h0 hL
    induction xs generalizing x with
    | nil => rfl
    | cons y ys ih =>
      simp only [List.foldl_cons]
      have hy := hxs y (by simp)
      have hn : ¬ x < 0 := by omega
      have hn1 : ¬ y = -1 := by omega
      have e2 : freshStep bs (-1) x y = leastStep bs x y := by
        unfold freshStep leastStep fresher
        simp [hn, hn1]
      rw [e2]
      refine ih _ ?_ (fun z hz => hxs z (by simp [hz]))
      unfold leastStep
      split <;> omega
theorem leastIn_take {bs : List Bk} {L : List Int} {k : Nat} {x : Int} (hk : 0 < k) (hx : L[k]? = some x) : leastIn bs (L.take (k + 1)) = leastStep bs (leastIn bs (L.take k)) x := by
  rw [take_succ_of hx]
  cases L with
  | nil => simp at hx
  | cons y ys =>
    obtain ⟨j, rfl⟩ : ∃ j, k = j + 1 := ⟨k - 1, by omega⟩
    simp [leastIn]
theorem leastIn_one {bs : List Bk} {L : List Int} {x : Int} (hx : L[0]? = some x) : leastIn bs (L.take 1) = x := by
  cases L with
  | nil => simp at hx
  | cons y ys => simp at hx; simp [leastIn, hx]
theorem leastIn_mem {bs : List Bk} {L : List Int} (hL : L ≠ []) : leastIn bs L ∈ L := by
  cases L with
  | nil => exact absurd rfl hL
  | cons x xs =>
    clear hL
    show xs.foldl (leastStep bs) x ∈ x :: xs
    induction xs generalizing x with
    | nil => simp
    | cons y ys ih =>
      simp only [List.foldl_cons]
      have := ih (leastStep bs x y)
      rcases List.mem_cons.1 this with h | h
      · rw [h]; unfold leastStep; split <;> simp
      · exact List.mem_cons_of_mem _ (List.mem_cons_of_mem _ h)
/-- Is there one free block alone? -/
theorem fresh_alone {bs : List Bk} (hL : freeTo bs bs.length ≠ []) : (freshOf bs (freshOf bs (-1)) < 0 ↔ (freeTo bs bs.length).length = 1) := by
  have h0 : ∀ x ∈ freeTo bs bs.length, 0 ≤ x := fun x hx => by obtain ⟨i, _, rfl, _⟩ := mem_freeTo hx; omega
  have hm : freshOf bs (-1) ∈ freeTo bs bs.length := by
    unfold freshOf
    rw [← leastIn_fresh h0 hL]
    exact leastIn_mem hL
  have hd := freeTo_nodup bs bs.length
  unfold freshOf at hm ⊢
  rw [freshIn_neg h0]
  generalize freshIn bs (-1) (freeTo bs bs.length) = f at hm ⊢
  generalize freeTo bs bs.length = L at hL h0 hm hd ⊢
  constructor
  · intro h
    match L, hL, hd, h with
    | [x], _, _, _ => rfl
    | x :: y :: t, _, hd, h =>
      exfalso
      have h1 := h x (by simp)
      have h2 := h y (by simp)
      simp at hd
      exact hd.1.1 (h1.trans h2.symm)
  · intro h
    match L, h, hm with
    | [x], _, hm =>
      intro y hy
      simp at hy hm
      exact hy.trans hm.symm

theorem begun_pu {bs : List Bk} {i : Nat} {x : Bk} (hx : bs[i]? = some x) : begun bs i = pu x 0 := by simp [begun, hx]
theorem Settled.some {bs : List Bk} {o : Int} (h : Settled bs o) : freeTo bs bs.length ≠ [] := by
  obtain ⟨i, x, hi, hx, _, hf⟩ := h.2
  intro e
  have := freeTo_mem hi (show begun bs i = false by rw [begun_pu hx]; unfold freeB at hf; simpa using hf)
  rw [e] at this
  simp at this
theorem FtlOk.fresh {bs : List Bk} {L : List Int} {seq o : Int} (h : FtlOk bs L seq o) : ∃ (i : Nat) (x : Bk), freshOf bs (-1) = (i : Int) ∧ bs[i]? = .some x ∧ freeB x = true ∧ i < bs.length ∧ leastIn bs (freeTo bs bs.length) = (i : Int) := by
  have hL := h.settled.some
  have h0 : ∀ x ∈ freeTo bs bs.length, 0 ≤ x := fun x hx => by obtain ⟨i, _, rfl, _⟩ := mem_freeTo hx; omega
  have hm := leastIn_mem (bs := bs) hL
  have e := leastIn_fresh (bs := bs) h0 hL
  obtain ⟨i, hi, hx, hb⟩ := mem_freeTo hm
  obtain ⟨y, hy⟩ := getElem?_ex (l := bs) (k := i) hi
  refine ⟨i, y, e.symm.trans hx, hy, ?_, hi, hx⟩
  rw [begun_pu hy] at hb
  unfold freeB
  simp [hb]

theorem vicTo_full {bs : List Bk} {L : List Int} {o : Int} {i : Nat} {x : Bk} (hx : bs[i]? = some x) (hn : (i : Int) ≠ o) (hf : fullB x = true) : ∀ k, i < k → 0 ≤ vicTo bs L o k := by
  intro k
  induction k with
  | zero => intro h; omega
  | succ k ih =>
    intro hk
    by_cases e : i = k
    · subst e
      by_cases hb : beats bs L (vicTo bs L o i) (i : Int) x.wear = true
      · rw [vicTo_take hx hn hf hb]; omega
      · rw [vicTo_keep hx hn hf (by simpa using hb)]
        have h1 : ¬ vicTo bs L o i < 0 := fun h => hb (beats_neg h)
        omega
    · have h0 := ih (by omega)
      rw [vicTo_succ]
      unfold vicStep
      split
      · exact h0
      · split
        · exact h0
        · split
          · omega
          · exact h0
theorem fullB_pu {x : Bk} (h : fullB x = true) : pu x 0 = true := by unfold fullB at h; simp at h; exact h.1.1.1
theorem FtlOk.victim {bs : List Bk} {L : List Int} {seq o : Int} (h : FtlOk bs L seq o) {x : Bk} (hx : bs[o.toNat]? = some x) (hf : fullB x = true) : 0 ≤ vicOf bs L (freshOf bs (-1)) ∧ vicOf bs L (freshOf bs (-1)) < (bs.length : Int) := by
  refine ⟨?_, (vicTo_bounds bs L _ bs.length).2⟩
  obtain ⟨i, y, e, hy, hfy, _⟩ := h.fresh
  have ho := h.opn
  refine vicTo_full (i := o.toNat) hx ?_ hf _ (by omega)
  rw [e]
  intro e2
  have e3 : o.toNat = i := by omega
  rw [e3, hy] at hx
  cases hx
  have := fullB_pu hf
  unfold freeB at hfy
  rw [this] at hfy
  cases hfy

/-- Page k of block v. -/
def pageIn (bs : List Bk) (v : Int) (k : Nat) : Pg := (mOf bs).page v.toNat k
theorem pageIn_of {bs : List Bk} {v : Nat} {x : Bk} (hx : bs[v]? = some x) {k : Nat} {p : Pg} (hp : x.pages[k]? = some p) : pageIn bs (v : Int) k = p := by
  unfold pageIn
  rw [Int.toNat_natCast]
  exact mOf_page hx hp
/-- Is page k of block v the newest of its log? -/
def movesAt (bs : List Bk) (L : List Int) (v : Int) (k : Nat) : Bool := (pageIn bs v k).used && decide (L[(pageIn bs v k).log.toNat]? = some (v * 4 + (k : Int)))
theorem FtlOk.moves {bs : List Bk} {L : List Int} {seq o : Int} (h : FtlOk bs L seq o) {v : Int} (hv : 0 ≤ v) {k : Nat} (hk : k < 4) : movesAt bs L v k = decide ((v * 4 + (k : Int)) ∈ L) := by
  rw [Bool.eq_iff_iff]
  unfold movesAt
  simp only [Bool.and_eq_true, decide_eq_true_eq]
  constructor
  · rintro ⟨_, h2⟩
    exact List.mem_of_getElem? h2
  · intro hm
    have hm2 := hm
    rw [h.map] at hm
    unfold placesOf at hm
    simp only [List.mem_map, List.mem_range] at hm
    obtain ⟨i, hi, he⟩ := hm
    cases e : newestAt (usedOf bs) (i : Int) with
    | none => rw [e] at he; simp only [placeIn] at he; omega
    | some y =>
      rw [e] at he
      simp only [placeIn] at he
      obtain ⟨hmm, hlg⟩ := newestAt_mem e
      obtain ⟨_, _, _, _, _, b, k', z, hb, hp, hk', hy, hu⟩ := h.chip.usedRight hmm
      have e1 : v.toNat = b := by omega
      have e2 : k' = k := by omega
      subst e2
      have e3 : pageIn bs v k' = y.2 := by unfold pageIn; rw [e1]; exact mOf_page hb hp
      rw [e3]
      refine ⟨hu, ?_⟩
      rw [hlg, Int.toNat_natCast, h.map, placesOf_at _ _ hi, e]
      simp only [placeIn, he]
/-- The newest pages of the first k of block v, as they are written into another. -/
def movedTo (bs : List Bk) (L : List Int) (v into seq : Int) : Nat → List Opn
  | 0 => []
  | k + 1 => movedTo bs L v into seq k ++ if movesAt bs L v k then [⟨1, into, { pageIn bs v k with seq := seq + ((movedTo bs L v into seq k).length : Int) }⟩] else []
theorem movedTo_length (bs : List Bk) (L : List Int) (v into seq : Int) (k : Nat) : (movedTo bs L v into seq k).length ≤ k := by
  induction k with
  | zero => simp [movedTo]
  | succ k ih =>
    simp only [movedTo, List.length_append]
    split
    · simp; omega
    · simp; omega
/-- A block is emptied: its newest pages are written into another, and it is erased. -/
def moveOps (bs : List Bk) (L : List Int) (v into seq : Int) : List Opn := movedTo bs L v into seq 4 ++ [⟨2, v, zeroPg⟩]
theorem moveOps_length (bs : List Bk) (L : List Int) (v into seq : Int) : (moveOps bs L v into seq).length = (movedTo bs L v into seq 4).length + 1 := by simp [moveOps]
def fullAt (bs : List Bk) (o : Int) : Bool := ((bs[o.toNat]?).map fullB).getD false
theorem fullAt_of {bs : List Bk} {o : Int} {x : Bk} (hx : bs[o.toNat]? = some x) : fullAt bs o = fullB x := by simp [fullAt, hx]
/-- The ops of a write of a right member. -/
def writeOps (bs : List Bk) (L : List Int) (seq o log : Int) (data : ByteArray) : List Opn :=
  if fullAt bs o = true then
    if freshOf bs (freshOf bs (-1)) < 0 then moveOps bs L (vicOf bs L (freshOf bs (-1))) (freshOf bs (-1)) seq ++ [⟨1, freshOf bs (-1), ⟨true, log, seq + ((movedTo bs L (vicOf bs L (freshOf bs (-1))) (freshOf bs (-1)) seq 4).length : Int), data⟩⟩]
    else [⟨1, freshOf bs (-1), ⟨true, log, seq, data⟩⟩]
  else [⟨1, o, ⟨true, log, seq, data⟩⟩]
theorem writeOps_length (bs : List Bk) (L : List Int) (seq o log : Int) (data : ByteArray) : 1 ≤ (writeOps bs L seq o log data).length ∧ (writeOps bs L seq o log data).length ≤ 6 := by
  have h := movedTo_length bs L (vicOf bs L (freshOf bs (-1))) (freshOf bs (-1)) seq 4
  unfold writeOps moveOps
  split
  · split <;> simp <;> omega
  · simp
/-- Is there a block that is worn out? -/
def wornTo (bs : List Bk) (k : Nat) : Prop := ∃ i x, i < k ∧ bs[i]? = some x ∧ x.wear = 1000000000
def worn (bs : List Bk) : Prop := wornTo bs bs.length
theorem wornTo_succ {bs : List Bk} {k : Nat} {x : Bk} (hx : bs[k]? = some x) : wornTo bs (k + 1) ↔ wornTo bs k ∨ x.wear = 1000000000 := by
  constructor
  · rintro ⟨i, y, hi, hy, hw⟩
    by_cases e : i = k
    · subst e; rw [hx] at hy; cases hy; exact .inr hw
    · exact .inl ⟨i, y, by omega, hy, hw⟩
  · rintro (⟨i, y, hi, hy, hw⟩ | hw)
    · exact ⟨i, y, by omega, hy, hw⟩
    · exact ⟨k, x, by omega, hx, hw⟩
def formOk (bs : List Bk) (log : Int) (data : ByteArray) : Prop := 0 ≤ log ∧ log < (roomOf bs : Int) ∧ data.size = 4
def roomy (bs : List Bk) (seq : Int) : Prop := ¬ worn bs ∧ seq ≤ 999999990
/-- What OpsOf answers. -/
def OpsOfIs (bs : List Bk) (L : List Int) (seq o log : Int) (data : ByteArray) (xs : List Opn) (r : Bool) : Prop :=
  (r = true ∧ (FtlOk bs L seq o ∧ formOk bs log data ∧ roomy bs seq) ∧ xs = writeOps bs L seq o log data) ∨ (r = false ∧ xs = [] ∧ ¬ (FtlOk bs L seq o ∧ formOk bs log data ∧ roomy bs seq))
theorem OpsOfIs.one {bs : List Bk} {L : List Int} {seq o log : Int} {data : ByteArray} {x1 x2 : List Opn} {r1 r2 : Bool} (h : OpsOfIs bs L seq o log data x1 r1) (k : OpsOfIs bs L seq o log data x2 r2) : x1 = x2 ∧ r1 = r2 := by
  rcases h with ⟨rfl, h1, rfl⟩ | ⟨rfl, rfl, h1⟩
  · rcases k with ⟨rfl, _, rfl⟩ | ⟨_, _, k1⟩
    · exact ⟨rfl, rfl⟩
    · exact absurd h1 k1
  · rcases k with ⟨_, k1, _⟩ | ⟨rfl, rfl, _⟩
    · exact absurd k1 h1
    · exact ⟨rfl, rfl⟩
theorem OpsOfIs.length {bs : List Bk} {L : List Int} {seq o log : Int} {data : ByteArray} {xs : List Opn} {r : Bool} (h : OpsOfIs bs L seq o log data xs r) : xs.length ≤ 6 := by
  rcases h with ⟨_, _, rfl⟩ | ⟨_, rfl, _⟩
  · exact (writeOps_length ..).2
  · simp
end Go.Proofs.YtjgcjeaplckbbaaGreatDoor

/- The program's erased cells. -/
namespace Go.Proofs.YtjgcjeaplckbbaaGreatDoor
open Go.RowKit
set_option linter.unusedVariables false
set_option linter.unusedSimpArgs false

/-- One block's cells are written anew. -/
theorem ccA_setBlock (m : CC) (b : Nat) (x : Int) (f : Nat → Pg) (hb : b < 12) :
    ((ccA m).toList.take (1 + b * 17) ++ (bcA x f).toList ++ (ccA m).toList.drop (1 + b * 17 + 17)).toArray = ccA ((m.setWear b x).setPages b f) := by
  have hl : (ccA m).toList.length = 205 := by rw [Array.length_toList, ccA_size]
  have hp : (bcA x f).toList.length = 17 := by rw [Array.length_toList, bcA_size]
  have ht : ((ccA m).toList.take (1 + b * 17)).length = 1 + b * 17 := by rw [List.length_take, hl]; omega
  apply Array.ext_getElem?
  intro i
  rw [List.getElem?_toArray]
  have hF : ∀ i, i < 205 → ¬ (1 + b * 17 ≤ i ∧ i < 1 + b * 17 + 17) → ccF ((m.setWear b x).setPages b f) i = ccF m i := by
    intro i hi hn
    unfold ccF CC.setPages CC.setWear
    by_cases h0 : i = 0
    · simp [h0]
    · simp only [if_neg h0]
      by_cases h1 : (i - 1) % 17 = 0
      · simp only [if_pos h1]
        rw [if_neg (by omega)]
      · simp only [if_neg h1]
        rw [if_neg (by omega)]
  by_cases hi : i < 205
  · rw [ccA_get _ hi]
    by_cases h1 : i < 1 + b * 17
    · rw [List.getElem?_append_left (by rw [List.length_append, ht, hp]; omega), List.getElem?_append_left (by rw [ht]; exact h1), List.getElem?_take_of_lt h1, Array.getElem?_toList, ccA_get _ hi, hF i hi (by omega)]
    · by_cases h2 : i < 1 + b * 17 + 17
      · rw [List.getElem?_append_left (by rw [List.length_append, ht, hp]; omega), List.getElem?_append_right (by rw [ht]; omega), ht, Array.getElem?_toList]
        have := ccA_block ((m.setWear b x).setPages b f) (b := b) (i := i - (1 + b * 17)) hb (by omega)
        rw [show 1 + b * 17 + (i - (1 + b * 17)) = i by omega, ccA_get _ hi] at this
        rw [this]
        simp [CC.setPages, CC.setWear]
      · rw [List.getElem?_append_right (by rw [List.length_append, ht, hp]; omega), List.length_append, ht, hp, List.getElem?_drop, show 1 + b * 17 + 17 + (i - (1 + b * 17 + 17)) = i by omega, Array.getElem?_toList, ccA_get _ hi, hF i hi (by omega)]
  · rw [List.getElem?_eq_none (by simp only [List.length_append, ht, hp, List.length_drop, hl]; omega), Array.getElem?_eq_none (by simp [ccA_size]; omega)]

theorem bcF_one (x : Int) (f : Nat → Pg) (i : Nat) : (bcF x f i).oneCell' = true := by
  unfold bcF
  split
  · rfl
  · exact pgV_one _ _
theorem bcA_one (x : Int) (f : Nat → Pg) : ∀ v ∈ (bcA x f).toList, v.oneCell' = true := by
  intro v hv
  have hv' : v ∈ bcA x f := by simpa using hv
  obtain ⟨i, hi, rfl⟩ := Array.mem_iff_getElem.1 hv'
  simp only [bcA, Array.getElem_ofFn]
  exact bcF_one _ _ _

theorem store_block (P : Program) (W : World) (g : Nat) (t : TypeId) (m : CC) (b : Nat) (x : Int) (f : Nat → Pg) (hb : b < 12) (hg : W.heap[g]? = some (.cells (ccA m) t (0, 0))) :
    (storeCells ⟨g, 1 + b * 17, none⟩ (bcA x f).toList).run P W = .ok () (W.setRow g (ccA ((m.setWear b x).setPages b f))) := by
  have hst := run_storeCells_at P g (1 + b * 17) t (bcA x f).toList 0 (ccA m) W hg (by rw [Array.length_toList, bcA_size, ccA_size]; omega) (bcA_one _ _)
  rw [Nat.add_zero, Array.length_toList, bcA_size, ccA_setBlock m b x f hb] at hst
  exact hst

set_option maxRecDepth 100000 in
set_option maxHeartbeats 1000000 in
theorem erased_out (m : CC) (n : Nat) (hm : m.count = n) (hn : n ≤ 12) (blk : Int) (h : ¬ (0 ≤ blk ∧ blk ≤ (n : Int) - 1)) (w : World) :
    Calls Tryz.prog 207 #[.agg (ccA m), .int .i64 blk] w fun e w' => e = .returned (.tuple #[.agg (ccA m), .int .i64 2]) ∧ Below w.heap.size w w' := by
  have hA0 := ccA_count m
  rw [hm] at hA0
  have hAs := ccA_size m
  have h1 := ccA_one m
  have HSZ := hide (sizeCC m)
  generalize ccA m = A at *
  have HA0 := hide hA0
  have H1 := hide h1
  clear hA0 h1
  go_enter Tryz.func207, Tryz.ntmps207
  go_wp2_with (refine wpList_load_row rfl 128 _ rfl w.heap.size rfl 128 A (0, 0) _ (by rw [Below.heap_alloc _ _ _ (by simp)]; exact Go.Deep.blk_alloc_new _ _) Tryz.underlying128 rfl (unhide HSZ) ?_)
  refine (has_any A (n : Int) (unhide HA0) (by omega) (by omega) blk _).mono ?_
  rintro e w2 ⟨rfl, hB2⟩
  have hd : decide ((0 : Int) ≤ blk ∧ blk ≤ (n : Int) - 1) = false := by simpa using h
  rw [hd]
  have hs2 := hB2.size
  simp at hs2
  have hb1 : w2.heap[w.heap.size]? = some (.cells A 128 (0, 0)) := by
    rw [hB2.block _ (by simp; omega), Below.heap_alloc _ _ _ (by simp)]
    exact Go.Deep.blk_alloc_new _ _
  have hb2 : w2.heap[w.heap.size + 1]? = some (.cells Tryz.zeroCells128 128 (0, 0)) := by
    rw [hB2.block _ (by simp)]
    exact heap_alloc2_new _ _ _
  have hst := store_row Tryz.prog w2 (w.heap.size + 1) 128 Tryz.zeroCells128 A hb2 (by rw [zeroCC_size, hAs]) (unhide H1)
  have hld := run_loadVar_row (P := Tryz.prog) (w2.setRow (w.heap.size + 1) A) (w.heap.size + 1) 128 128 A (0, 0) _ (setRow_heap _ _ _ _ _ _ hb2) Tryz.underlying128 rfl (unhide HSZ)
  have hW2 : Below w.heap.size w w2 := (((Below.refl _ w).alloc (Nat.le_refl _) _).alloc (by simp) _).trans (hB2.mono (by simp; omega))
  have hW3 := Below.setRow hW2 (g := w.heap.size + 1) (by omega) A
  generalize w2.setRow (w.heap.size + 1) A = W3 at hst hld hW3
  have HL := hide hld
  have HB1 := hide hb1
  clear hld hb1 hb2 hB2 hd h hW2
  go_wp2_with (refine wpList_load_row rfl 128 _ rfl w.heap.size rfl 128 A (0, 0) _ (unhide HB1) Tryz.underlying128 rfl (unhide HSZ) ?_)
  exact bodyPost_ret (results_cell_slot 4 128 5 Tryz.results207 _ _ _ _ _ rfl (unhide HL) rfl) rfl ⟨rfl, hW3⟩

theorem bcA_zero (x : Int) : bcA x (fun _ => zeroPg) = #[.int .i64 x, .bool false, .int .i64 0, .int .i64 0, .string ByteArray.empty, .bool false, .int .i64 0, .int .i64 0, .string ByteArray.empty, .bool false, .int .i64 0, .int .i64 0, .string ByteArray.empty, .bool false, .int .i64 0, .int .i64 0, .string ByteArray.empty] := by
  apply Array.ext
  · rw [bcA_size]; rfl
  · intro i h1 h2
    have h3 : i < 17 := by rw [bcA_size] at h1; exact h1
    have h4 : i = 0 ∨ i = 1 ∨ i = 2 ∨ i = 3 ∨ i = 4 ∨ i = 5 ∨ i = 6 ∨ i = 7 ∨ i = 8 ∨ i = 9 ∨ i = 10 ∨ i = 11 ∨ i = 12 ∨ i = 13 ∨ i = 14 ∨ i = 15 ∨ i = 16 := by omega
    rcases h4 with rfl | rfl | rfl | rfl | rfl | rfl | rfl | rfl | rfl | rfl | rfl | rfl | rfl | rfl | rfl | rfl | rfl <;> simp [bcA, bcF, pgV, zeroPg]

theorem wpList_store_agg {P : Program} {ops : Array Oper} {rest : List Oper} {o : Oper} {a : Act} {w : World} {Q : Exit → Act → World → Prop} (hgd : o.guard = none) (ty : TypeId) (x y : Operand) (ho : o.op = .store ty x y)
    (g off : Nat) (B : Array Value) (hx : a.eval x = .pointer (some ⟨g, off, none⟩)) (hy : a.eval y = .agg B) (W' : World) (hr : (storeCells ⟨g, off, none⟩ B.toList).run P w = .ok () W') (hi : (P.info? ty).map (·.size) = some B.size)
    (h : wpList P ops Q rest (a.put o.dst undef) W') : wpList P ops Q (o :: rest) a w := by
  have hsv : (storeVar ty ⟨g, off, none⟩ (.agg B)).run P w = .ok () W' := by
    cases hq : P.info? ty with
    | none => simp [hq] at hi
    | some i =>
      have hs : i.size = B.size := by simpa [hq] using hi
      simp [storeVar, Value.cells, Sem.run_bind, sizeOf, typeInfo, hq, hs, hr]
  refine wpList_plain hgd fun _ hK => ?_
  unfold Oper.wp execOp
  simp only [ho, hx, hy, Instr.storeAt, Instr.sureAddr, Sem.run_bind, Sem.run_pure, Result.andThen_ok, hsv]
  exact hK _ _ h

set_option maxRecDepth 100000 in
set_option maxHeartbeats 1000000 in
theorem erased_in (m : CC) (n : Nat) (hm : m.count = n) (hn : n ≤ 12) (k : Nat) (hk : k < n) (hw0 : 0 ≤ m.wear k) (hw1 : m.wear k ≤ 1000000000) (w : World) :
    Calls Tryz.prog 207 #[.agg (ccA m), .int .i64 (k : Int)] w fun e w' =>
      ((m.wear k = 1000000000 ∧ e = .returned (.tuple #[.agg (ccA m), .int .i64 4])) ∨ (m.wear k ≠ 1000000000 ∧ e = .returned (.tuple #[.agg (ccA ((m.setWear k (m.wear k + 1)).setPages k (fun _ => zeroPg))), .int .i64 0]))) ∧ Below w.heap.size w w' := by
  have hA0 := ccA_count m
  rw [hm] at hA0
  have hAs := ccA_size m
  have h1 := ccA_one m
  have hAw := ccA_wear m (b := k) (by omega)
  have HSZ := hide (sizeCC m)
  have HSB := hide (fun P W g t x f hg => store_block P W g t m k x f (by omega) hg)
  obtain ⟨A, hA⟩ : ∃ A, A = ccA m := ⟨_, rfl⟩
  rw [← hA] at hA0 hAs h1 hAw HSZ HSB ⊢
  have HA0 := hide hA0
  have H1 := hide h1
  have HAW := hide hAw
  clear hA0 h1 hAw hA
  obtain ⟨x, hx⟩ : ∃ x, x = m.wear k := ⟨_, rfl⟩
  rw [← hx] at hw0 hw1 HAW ⊢
  have HX := hide hx
  clear hx
  go_enter Tryz.func207, Tryz.ntmps207
  go_wp2_with (refine wpList_load_row rfl 128 _ rfl w.heap.size rfl 128 A (0, 0) _ (by rw [Below.heap_alloc _ _ _ (by simp)]; exact Go.Deep.blk_alloc_new _ _) Tryz.underlying128 rfl (unhide HSZ) ?_)
  refine (has_any A (n : Int) (unhide HA0) (by omega) (by omega) (k : Int) _).mono ?_
  rintro e w2 ⟨rfl, hB2⟩
  have hd : decide ((0 : Int) ≤ (k : Int) ∧ (k : Int) ≤ (n : Int) - 1) = true := by simp; omega
  rw [hd]
  have hs2 := hB2.size
  simp at hs2
  have hb1 : w2.heap[w.heap.size]? = some (.cells A 128 (0, 0)) := by
    rw [hB2.block _ (by simp; omega), Below.heap_alloc _ _ _ (by simp)]
    exact Go.Deep.blk_alloc_new _ _
  have hb2 : w2.heap[w.heap.size + 1]? = some (.cells Tryz.zeroCells128 128 (0, 0)) := by
    rw [hB2.block _ (by simp)]
    exact heap_alloc2_new _ _ _
  have hcw : w2.cell? ⟨w.heap.size, 1 + k * 17, none⟩ = some (.int .i64 x) := (cell_of_row _ _ _ _ _ _ hb1).trans (unhide HAW)
  have hW2 : Below w.heap.size w w2 := (((Below.refl _ w).alloc (Nat.le_refl _) _).alloc (by simp) _).trans (hB2.mono (by simp; omega))
  have hki : (k : Int) < 12 := by omega
  clear hd hB2
  by_cases hx9 : x = 1000000000
  · have hst := store_row Tryz.prog w2 (w.heap.size + 1) 128 Tryz.zeroCells128 A hb2 (by rw [zeroCC_size, hAs]) (unhide H1)
    have hld := run_loadVar_row (P := Tryz.prog) (w2.setRow (w.heap.size + 1) A) (w.heap.size + 1) 128 128 A (0, 0) _ (setRow_heap _ _ _ _ _ _ hb2) Tryz.underlying128 rfl (unhide HSZ)
    have hW3 := Below.setRow hW2 (g := w.heap.size + 1) (by omega) A
    generalize w2.setRow (w.heap.size + 1) A = W3 at hst hld hW3
    have HL := hide hld
    have HB1 := hide hb1
    clear hld hb1 hb2
    go_wp2_with (refine wpList_load_row rfl 128 _ rfl w.heap.size rfl 128 A (0, 0) _ (unhide HB1) Tryz.underlying128 rfl (unhide HSZ) ?_)
    exact bodyPost_ret (results_cell_slot 4 128 5 Tryz.results207 _ _ _ _ _ rfl (unhide HL) rfl) rfl ⟨.inl ⟨hx9, rfl⟩, hW3⟩
  · have hne : (x == 1000000000) = false := by simpa using hx9
    have hsb := unhide HSB Tryz.prog w2 w.heap.size 128 (x + 1) (fun _ => zeroPg) hb1
    obtain ⟨m2, hm2⟩ : ∃ m2, m2 = (m.setWear k (x + 1)).setPages k (fun _ => zeroPg) := ⟨_, rfl⟩
    rw [← hm2, bcA_zero] at hsb
    have h21 := ccA_one m2
    have hs22 := ccA_size m2
    have HSZ2 := hide (sizeCC m2)
    obtain ⟨A2, hA2⟩ : ∃ A2, A2 = ccA m2 := ⟨_, rfl⟩
    rw [← hA2] at hsb h21 hs22 HSZ2
    have hr3 : (w2.setRow w.heap.size A2).heap[w.heap.size]? = some (.cells A2 128 (0, 0)) := setRow_heap _ _ _ _ _ _ hb1
    have hz3 : (w2.setRow w.heap.size A2).heap[w.heap.size + 1]? = some (.cells Tryz.zeroCells128 128 (0, 0)) := by rw [setRow_other _ _ _ _ (by omega)]; exact hb2
    have hW3 := Below.setRow hW2 (g := w.heap.size) (Nat.le_refl _) A2
    generalize w2.setRow w.heap.size A2 = W3 at hsb hr3 hz3 hW3
    have hst := store_row Tryz.prog W3 (w.heap.size + 1) 128 Tryz.zeroCells128 A2 hz3 (by rw [zeroCC_size, hs22]) h21
    have hld := run_loadVar_row (P := Tryz.prog) (W3.setRow (w.heap.size + 1) A2) (w.heap.size + 1) 128 128 A2 (0, 0) _ (setRow_heap _ _ _ _ _ _ hz3) Tryz.underlying128 rfl (unhide HSZ2)
    have hW4 := Below.setRow hW3 (g := w.heap.size + 1) (by omega) A2
    generalize W3.setRow (w.heap.size + 1) A2 = W4 at hst hld hW4
    have HL := hide hld
    have HR3 := hide hr3
    have HSB2 := hide hsb
    have HE : Hid (A2 = ccA ((m.setWear k (x + 1)).setPages k (fun _ => zeroPg))) := by rw [hA2, hm2]; rfl
    clear hb1 hb2 hz3 hr3 hld hsb h21 hA2 hm2 hW2 hW3
    go_wp2_with (first
      | (refine wpList_store_agg rfl 125 _ _ rfl w.heap.size (1 + k * 17) #[.int .i64 (x + 1), .bool false, .int .i64 0, .int .i64 0, .string ByteArray.empty, .bool false, .int .i64 0, .int .i64 0, .string ByteArray.empty, .bool false, .int .i64 0, .int .i64 0, .string ByteArray.empty, .bool false, .int .i64 0, .int .i64 0, .string ByteArray.empty] rfl rfl W3 (unhide HSB2) sizeBC ?_)
      | (refine wpList_load_row rfl 128 _ rfl w.heap.size rfl 128 A2 (0, 0) _ (unhide HR3) Tryz.underlying128 rfl (unhide HSZ2) ?_))
    exact bodyPost_ret (v := .tuple #[.agg A2, .int .i64 0]) (results_cell_slot 4 128 5 Tryz.results207 _ _ _ _ _ rfl (unhide HL) rfl) rfl ⟨.inr ⟨hx9, by rw [unhide HE]⟩, hW4⟩
end Go.Proofs.YtjgcjeaplckbbaaGreatDoor
