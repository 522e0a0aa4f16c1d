/- 7 texts in one. -/
import Derived.Test.YtjgcjeaplckbbaaGreatG02
import Derived.Test.YtjgcjeaplckbbaaGreatG08
import Derived.WalkKit
import Derived.Outline
import Derived.Test.YtjgcjeaplckbbaaGreatG03
import Derived.Test.YtjgcjeaplckbbaaGreatG15
import Derived.Test.YtjgcjeaplckbbaaGreatG14
import Derived.Test.YtjgcjeaplckbbaaGreatG09
import Derived.Test.YtjgcjeaplckbbaaGreatG10
import Derived.Deep.RegionHeld3
import Derived.Deep.DeepCutAuto
import Derived.Test.YtjgcjeaplckbbaaGreatG05
import Derived.Laws.IdiomStrings

/- The program's FreeOf. -/
namespace Go.Proofs.YtjgcjeaplckbbaaGreat
open Go.RowKit
set_option linter.unusedVariables false
set_option linter.unusedSimpArgs false

theorem infoInt64I : (Tryz.prog.info? 2).map (fun i => (i.zero, i.size, i.bytes)) = some (some (.int .i64 0), 1, 8) := by kernel_rfl

set_option maxRecDepth 100000 in
set_option maxHeartbeats 1000000 in
theorem free_any (x : Int) (f : Nat → Pg) (w : World) :
    Calls Tryz.prog 76 #[.agg (bcA x f)] w fun e w' => e = .returned (.bool (!(f 0).used)) ∧ Below w.heap.size w w' := by
  have hb0 : ∀ o, Below w.heap.size w (w.alloc o) := fun o => (Below.refl _ w).alloc (Nat.le_refl _) _
  go_enter Tryz.func76, Tryz.ntmps76
  go_wp2_with (refine wpList_load_row rfl 54 _ rfl w.heap.size rfl 54 (bcA x f) (0, 0) _ (Go.Deep.blk_alloc_new _ _) Tryz.underlying54 rfl (by rw [bcA_size]; exact sizeBC) ?_)
  refine (next_any x f _).mono ?_
  rintro e w1 ⟨r, rfl, hr, hB⟩
  have hd : (r == 0) = !(f 0).used := by
    rcases hr with ⟨k, hk, rfl, h1, h2⟩ | ⟨rfl, h1⟩
    · cases k with
      | zero => simp only at h1; simp [h1]
      | succ k => have := h2 0 (by omega); simp only at this; simp [this]; omega
    · have := h1 0 (by omega); simp only at this; simp [this]
  have HD := hide hd
  clear hr hd
  generalize bcA x f = A at *
  go_wp2
  go_ret
  exact ⟨by rw [← unhide HD]; simp, (hb0 _).trans (hB.mono (by simp))⟩

set_option maxRecDepth 100000 in
set_option maxHeartbeats 1000000 in
theorem freeBlocks_any (A : Array Value) (m : CC) (n : Nat) (hA0 : A[0]? = some (.int .i64 (n : Int))) (hAb : ∀ b i, b < 12 → i < 17 → A[1 + b * 17 + i]? = (bcA (m.wear b) (m.page b))[i]?) (hn : n ≤ 12) (w : World) :
    Calls Tryz.prog 47 #[.agg A] w fun e w' => ∃ v, e = .returned v ∧ OwnInts w' 2 (w.heap.size + 1) v (freeTo (ccBs m n) n) ∧ Below w.heap.size w w' := by
  have HAB := hide hAb
  clear hAb
  go_enter Tryz.func47, Tryz.ntmps47
  go_wp2
  go_loopw [3, 7] (fun v i wr => ∃ k : Nat, k ≤ n ∧ i = .int .i64 k ∧ OwnInts wr 2 (w.heap.size + 1) v (freeTo (ccBs m n) k) ∧ Below (w.heap.size + 1) (w.alloc (.cells A 57)) wr) (fun _ i _ => n - (intOf i).toNat)
  case atStart =>
    refine ⟨0, Nat.zero_le _, rfl, ?_, Below.refl _ _⟩
    have := World.ownsRow_nil (w.alloc (.cells A 57)) (w.heap.size + 1) 2 1
    simpa [OwnInts, ints, freeTo] using this
  case round =>
    obtain ⟨k, hk, rfl, hO, hB⟩ := hrel
    have hsz := hB.size
    simp at hsz
    by_cases hlt : k < n
    · have hblk : ∀ j, j < 17 → wr.cell? ⟨w.heap.size, 1 + k * 17 + j, none⟩ = (bcA (m.wear k) (m.page k))[j]? := fun j hj => by
        rw [hB.cell (p := ⟨w.heap.size, 1 + k * 17 + j, none⟩) (by simp), cell_of_row _ _ _ _ _ _ (Go.Deep.blk_alloc_new _ _)]
        exact unhide HAB k j (by omega) hj
      have HB := hide hblk
      have hki : (k : Int) < 12 := by omega
      have hbg : begun (ccBs m n) k = (m.page k 0).used := by
        have e0 : pagesF (ccPs m k) 0 = m.page k 0 := rfl
        simp [begun, ccBs_at m hlt, pu, e0]
      have hst := freeTo_succ (ccBs m n) k
      have hln := freeTo_length (ccBs m n) k
      rw [hbg] at hst
      have HO := hide hO
      have HS := hide hst
      clear hO hst hbg hblk hA0
      go_wp2_with (refine wpList_load_mid rfl 54 _ rfl w.heap.size (1 + k * 17) rfl (bcA (m.wear k) (m.page k)) 17 (bcA_size _ _) (unhide HB) _ Tryz.underlying54 rfl sizeBC ?_)
      refine (free_any _ _ _).mono ?_
      rintro e w2 ⟨rfl, hB2⟩
      have hs2 := hB2.size
      have hBB : Below (w.heap.size + 1) (w.alloc (.cells A 57)) w2 := hB.trans (hB2.mono (by omega))
      have HO2 := hide ((unhide HO).kept hB2)
      have HS2 := HS
      clear HB HS HO hB2 hB
      generalize bcA (m.wear k) (m.page k) = A2 at *
      cases hu : (m.page k 0).used with
      | true =>
        rw [hu] at HS2
        clear hu
        simp only [Bool.not_true]
        go_wp2
        go_roundw
        case rel =>
          refine ⟨k + 1, by omega, by go_num, ?_, hBB⟩
          rw [unhide HS2]
          simpa using unhide HO2
        case measure => simp [intOf]; omega
      | false =>
        rw [hu] at HS2
        clear hu
        simp only [Bool.not_false]
        obtain ⟨i0, hi, hz0, hz1, hz2⟩ := info_parts infoInt64I
        obtain ⟨X, hX⟩ : ∃ X, X = ints (freeTo (ccBs m n) k) := ⟨_, rfl⟩
        obtain ⟨q, hm⟩ : ∃ q, q = (freeTo (ccBs m n) k).length := ⟨_, rfl⟩
        have hR : w2.ownsRow (w.heap.size + 1) 2 1 u3 q X := by rw [hX, hm]; exact unhide HO2
        rw [← hm] at hln
        have HX := hide (And.intro hX hm)
        clear hX hm
        go_wp2_with (refine wpList_append_lies _ rfl (.tmp 15) (.tmp 17) 27 rfl (w.heap.size + 1) 2 i0 _ 1 8 Tryz.underlying27 hi hz0 hz1 hz2 rfl (by decide) u3 q X (by simp [Act.eval]) (by exact hR.alloc _) ⟨w2.heap.size, 0, none⟩ 1 1 [.int .i64 (k : Int)] (by simp [Act.eval]) rfl (World.news_of_block (cs := #[.int .i64 (k : Int)]) (t := 2) (fr := (0, 0)) (by exact Go.Deep.blk_alloc_new _ _)) (by simp [Value.oneCell']) (by omega) (by unfold maxLen; omega) (by omega) (by simp; omega) (w2.heap.size + 1) (by simp) ?_; intro g1 cap w3 hown hgrow hat hlt1)
        go_roundw
        case rel =>
          refine ⟨k + 1, by omega, by go_num, ?_, ?_⟩
          · rw [unhide HS2]
            obtain ⟨e1, e2⟩ := unhide HX
            rw [e1, e2] at hown
            rw [e2]
            simpa [OwnInts, ints] using hown
          · refine Below.grown (hBB.alloc (by omega) _) hgrow (by simp; omega) (fun j e => ?_)
            exact (hR.lt j e).1
        case measure => simp [intOf]; omega
    · have hk' : k = n := by omega
      subst hk'
      have HO := hide hO
      clear hO
      go_wp2
      go_ret
      exact ⟨_, rfl, unhide HO, ((Below.refl _ w).alloc (Nat.le_refl _) _).trans (hB.mono (by omega))⟩

end Go.Proofs.YtjgcjeaplckbbaaGreat

/- MapOf, the model's and the program's. -/
namespace Go.Proofs.YtjgcjeaplckbbaaGreat
open Go.RowKit
set_option linter.unusedVariables false
set_option linter.unusedSimpArgs false

/-- What MapOf answers. -/
def MapOfIs (bs : List Bk) (r : Bool) (L : List Int) : Prop := (ChipOk bs ∧ MapIs bs r L) ∨ (¬ ChipOk bs ∧ r = false ∧ L = [])
theorem MapOfIs.one {bs : List Bk} {r s : Bool} {L M : List Int} (h : MapOfIs bs r L) (k : MapOfIs bs s M) : r = s ∧ L = M := by
  rcases h with ⟨h1, h2⟩ | ⟨h1, rfl, rfl⟩
  · rcases k with ⟨_, k2⟩ | ⟨k1, _⟩
    · exact h2.one k2
    · exact absurd h1 k1
  · rcases k with ⟨k1, _⟩ | ⟨_, rfl, rfl⟩
    · exact absurd k1 h1
    · exact ⟨rfl, rfl⟩
theorem MapOfIs.length {bs : List Bk} {r : Bool} {L : List Int} (h : MapOfIs bs r L) : L.length ≤ 36 := by
  rcases h with ⟨h1, h2⟩ | ⟨_, _, rfl⟩
  · exact h2.length h1.count.2
  · simp
def MapOfRet (bs : List Bk) (t : TypeId) (B : Nat) (e : Ending) (w' : World) : Prop := ∃ (v : Value) (r : Bool) (L : List Int), e = .returned (.tuple #[v, .bool r]) ∧ MapOfIs bs r L ∧ OwnInts w' t B v L


end Go.Proofs.YtjgcjeaplckbbaaGreat

/- A new member: in plain words, the model's FtlNew and the program's. -/
namespace Go.Proofs.YtjgcjeaplckbbaaGreat
open Go.RowKit
set_option linter.unusedVariables false
set_option linter.unusedSimpArgs false

def newBs (n : Nat) : List Bk := List.replicate n zeroBk
theorem newBs_length (n : Nat) : (newBs n).length = n := by simp [newBs]
theorem newBs_block {n : Nat} {b : Bk} (h : b ∈ newBs n) : b = zeroBk := List.eq_of_mem_replicate h
theorem zeroBk_page {k : Nat} {p : Pg} (h : zeroBk.pages[k]? = some p) : p = zeroPg := by
  have hm := List.mem_of_getElem? h
  simp [zeroBk] at hm
  exact hm
theorem seqs_newBs (n : Nat) : seqs (newBs n) = [] := by
  refine List.eq_nil_iff_forall_not_mem.2 (fun s hs => ?_)
  obtain ⟨i, b, k, p, hb, hp, hu, _⟩ := seqs_mem hs
  rw [newBs_block (List.mem_of_getElem? hb)] at hp
  rw [zeroBk_page hp] at hu
  cases hu
theorem chipOk_newBs {n : Nat} (h1 : 4 ≤ n) (h2 : n ≤ 12) : ChipOk (newBs n) := by
  refine ⟨by rw [newBs_length]; exact ⟨h1, h2⟩, fun b hb => ?_, by rw [seqs_newBs]; exact List.nodup_nil⟩
  rw [newBs_block hb]
  exact ⟨by simp [zeroBk], rfl, fun k p hp => by rw [zeroBk_page hp]; rfl, fun k p q hq hp hu => by rw [zeroBk_page hp] at hu; cases hu⟩
theorem usedOf_newBs (n : Nat) : usedOf (newBs n) = [] := by
  refine List.eq_nil_iff_forall_not_mem.2 (fun x hx => ?_)
  obtain ⟨b, k, hb, hk, _, hu⟩ := mem_usedAll hx
  obtain ⟨y, hy⟩ := getElem?_ex (l := newBs n) (k := b) hb
  have e := newBs_block (List.mem_of_getElem? hy)
  obtain ⟨p, hp⟩ := getElem?_ex (l := y.pages) (k := k) (by rw [e]; simpa [zeroBk] using hk)
  rw [mOf_page hy hp] at hu
  rw [e] at hp
  rw [zeroBk_page hp] at hu
  cases hu
def newMap (n : Nat) : List Int := List.replicate (4 * (n - 3)) (-1)
theorem newMap_is {n : Nat} {r : Bool} {L : List Int} (h : MapIs (newBs n) r L) : r = true ∧ L = newMap n := by
  have hf : Fits (newBs n) := fun x hx => by rw [usedOf_newBs] at hx; cases hx
  have hr := h.1.2 hf
  refine ⟨hr, ?_⟩
  have := h.2
  rw [hr] at this
  rw [this]
  simp only [if_true]
  rw [usedOf_newBs, placesOf_nil]
  unfold roomOf newMap
  rw [newBs_length]
theorem lensNewF {n : Nat} (h : n ≤ 12) : Lens 1048576 (newBs n) := ⟨by rw [newBs_length]; omega, fun b hb => by rw [newBs_block hb]; simp [zeroBk]⟩

/-- What FtlNew answers. -/
def FtlNewIs (b : Int) (out : List Bk) (L : List Int) (seq o : Int) (r : Bool) : Prop :=
  ((4 ≤ b ∧ b ≤ 12) ∧ out = newBs b.toNat ∧ L = newMap b.toNat ∧ seq = 1 ∧ o = 0 ∧ r = true) ∨ (¬ (4 ≤ b ∧ b ≤ 12) ∧ out = [] ∧ L = [] ∧ seq = 0 ∧ o = 0 ∧ r = false)
theorem FtlNewIs.one {b : Int} {out out' : List Bk} {L L' : List Int} {seq seq' o o' : Int} {r r' : Bool} (h : FtlNewIs b out L seq o r) (k : FtlNewIs b out' L' seq' o' r') : out = out' ∧ L = L' ∧ seq = seq' ∧ o = o' ∧ r = r' := by
  rcases h with ⟨h0, rfl, rfl, rfl, rfl, rfl⟩ | ⟨h0, rfl, rfl, rfl, rfl, rfl⟩
  · rcases k with ⟨_, rfl, rfl, rfl, rfl, rfl⟩ | ⟨k0, _⟩
    · exact ⟨rfl, rfl, rfl, rfl, rfl⟩
    · exact absurd h0 k0
  · rcases k with ⟨k0, _⟩ | ⟨_, rfl, rfl, rfl, rfl, rfl⟩
    · exact absurd k0 h0
    · exact ⟨rfl, rfl, rfl, rfl, rfl⟩
theorem FtlNewIs.lens {b : Int} {out : List Bk} {L : List Int} {seq o : Int} {r : Bool} (h : FtlNewIs b out L seq o r) : Lens 1048576 out ∧ L.length ≤ 36 := by
  rcases h with ⟨h0, rfl, rfl, _⟩ | ⟨_, rfl, rfl, _⟩
  · exact ⟨lensNewF (by omega), by simp [newMap]; omega⟩
  · exact ⟨⟨by simp, fun b hb => by cases hb⟩, by simp⟩

theorem MineFrom.lowerN {w : World} {a : Option Addr} {n B B' : Nat} (h : MineFrom w a n B) (hB : B' ≤ B) : MineFrom w a n B' := by
  rcases h with h | ⟨g, ha, h1, h2, h3⟩
  · exact .inl h
  · exact .inr ⟨g, ha, by omega, h2, h3⟩
theorem FtlOwn.lowerN {w : World} {B B' T T' : Nat} {a : Option Addr} {n c : Nat} {out : List Bk} {ma : Option Addr} {mn : Nat} {L : List Int} (h : FtlOwn w B T a n c out ma mn L) (hB : B' ≤ B) (hT : T ≤ T') : FtlOwn w B' T' a n c out ma mn L := by
  obtain ⟨h0, h1, h2, h6, C, K, h3, h4, h5⟩ := h
  exact ⟨h0, h1, MineFrom.lowerN h2 hB, fun g hg => Nat.lt_of_lt_of_le (h6 g hg) hT, C, K, by omega, h4, by omega, h5.2⟩
/-- A row that holds a member of nothing holds no block of four pages, no page, no number but 0: so a list that is read elsewhere lies elsewhere. -/
theorem zeroFtl_cell {w : World} {B : Nat} {ty : TypeId} (hr : w.heap[B]? = some (.cells #[.slice none 0 0, .slice none 0 0, .int .i64 0, .int .i64 0] ty (0, 0))) {i : Nat} {v : Value} (h : w.cell? ⟨B, i, none⟩ = some v) : v = .slice none 0 0 ∨ v = .int .i64 0 := by
  rw [cell_of_row _ _ i _ _ _ hr] at h
  match i with
  | 0 => simp at h; exact .inl h.symm
  | 1 => simp at h; exact .inl h.symm
  | 2 => simp at h; exact .inr h.symm
  | 3 => simp at h; exact .inr h.symm
  | i + 4 => simp at h
theorem blocksAt_apart {w w' : World} {B : Nat} {ty : TypeId} {a : Option Addr} {bs : List Bk} (hr : w.heap[B]? = some (.cells #[.slice none 0 0, .slice none 0 0, .int .i64 0, .int .i64 0] ty (0, 0))) (h : BlocksAt w a bs) (h4 : ∀ b ∈ bs, b.pages.length = 4) (hT : Touch (· = B) w w') : BlocksAt w' a bs := by
  intro i b hb
  obtain ⟨g, o, pa, pc, ha, c0, c1, hp⟩ := h i b hb
  have hl := h4 b (List.mem_of_getElem? hb)
  have hg : g ≠ B := by
    rintro rfl
    rcases zeroFtl_cell hr c1 with e | e
    · injection e with _ e2 _
      omega
    · cases e
  have hc : ∀ j, w'.cell? ⟨g, j, none⟩ = w.cell? ⟨g, j, none⟩ := fun j => World.cell?_of_block (w := w) (a := ⟨g, j, none⟩) (hT.block g (World.block_lt_of_cell? _ _ c0) hg)
  refine ⟨g, o, pa, pc, ha, (hc _).trans c0, (hc _).trans c1, fun k p hk => ?_⟩
  obtain ⟨g2, o2, ha2, d0, d1, d2, d3⟩ := hp k p hk
  have hg2 : g2 ≠ B := by
    rintro rfl
    rcases zeroFtl_cell hr d0 with e | e <;> cases e
  have hc2 : ∀ j, w'.cell? ⟨g2, j, none⟩ = w.cell? ⟨g2, j, none⟩ := fun j => World.cell?_of_block (w := w) (a := ⟨g2, j, none⟩) (hT.block g2 (World.block_lt_of_cell? _ _ d0) hg2)
  exact ⟨g2, o2, ha2, (hc2 _).trans d0, (hc2 _).trans d1, (hc2 _).trans d2, (hc2 _).trans d3⟩
theorem intsAt_apart {w w' : World} {B : Nat} {ty : TypeId} {a : Option Addr} {L : List Int} (hr : w.heap[B]? = some (.cells #[.slice none 0 0, .slice none 0 0, .int .i64 0, .int .i64 0] ty (0, 0))) (h : IntsAt w a L) (h0 : ∀ x ∈ L, x ≠ 0) (hT : Touch (· = B) w w') : IntsAt w' a L := by
  intro i x hx
  obtain ⟨b, o, ha, c⟩ := h i x hx
  have hb : b ≠ B := by
    rintro rfl
    rcases zeroFtl_cell hr c with e | e
    · cases e
    · exact h0 x (List.mem_of_getElem? hx) (by cases e; rfl)
  exact ⟨b, o, ha, (World.cell?_of_block (w := w) (a := ⟨b, o + i, none⟩) (hT.block b (World.block_lt_of_cell? _ _ c) hb)).trans c⟩
theorem touchN4 (w : World) (B : Nat) (v0 v1 v2 v3 : Value) : Touch (· = B) w ((((w.setCell ⟨B, 0, none⟩ v0).setCell ⟨B, 1, none⟩ v1).setCell ⟨B, 2, none⟩ v2).setCell ⟨B, 3, none⟩ v3) := by
  have h0 := Touch.refl (fun k => k = B) w
  have h1 := Touch.setCell h0 (p := ⟨B, 0, none⟩) (by rfl) v0
  have h2 := Touch.setCell h1 (p := ⟨B, 1, none⟩) (by rfl) v1
  have h3 := Touch.setCell h2 (p := ⟨B, 2, none⟩) (by rfl) v2
  exact Touch.setCell h3 (p := ⟨B, 3, none⟩) (by rfl) v3

set_option maxRecDepth 100000 in
set_option maxHeartbeats 2000000 in
theorem specFtlNew_mine (b : Int) (w : World) :
    Calls Tryz.prog 36 #[.int .i64 b] w fun e w' => ∃ (a : Option Addr) (n c : Nat) (ma : Option Addr) (mn mc : Nat) (out : List Bk) (L : List Int) (seq o : Int) (r : Bool), e = .returned (.tuple #[.agg #[.slice a n c, .slice ma mn mc, .int .i64 seq, .int .i64 o], .bool r]) ∧ FtlNewIs b out L seq o r ∧ out.length = n ∧ L.length = mn ∧ BlocksAt w' a out ∧ IntsAt w' ma L ∧ MineFrom w' ma mn w.heap.size ∧ Below w.heap.size w w' := by
  have hb0 : ∀ o, Below w.heap.size w (w.alloc o) := fun o => (Below.refl _ w).alloc (Nat.le_refl _) _
  by_cases hin : 4 ≤ b ∧ b ≤ 12
  · obtain ⟨n, rfl⟩ := Int.eq_ofNat_of_zero_le (show 0 ≤ b by omega)
    have h1 : 4 ≤ n := by omega
    have h2 : n ≤ 12 := by omega
    go_enter Tryz.func36, Tryz.ntmps36
    go_wp2_with fail
    refine (specChipNew_yes n _ h1 h2).mono ?_
    rintro e w1 ⟨a, c, rfl, hA, hB1⟩
    have hs1 := hB1.size
    simp at hs1
    have hr1 := (hB1.block w.heap.size (by simp)).trans (World.alloc_heap_new w _)
    have hW1 : Below w.heap.size w w1 := (hb0 _).trans (hB1.mono (by simp))
    have HA := hide hA
    have HR1 := hide hr1
    clear hA hB1 hr1 hb0
    have hb1 : ∀ o, Below w1.heap.size w1 (w1.alloc o) := fun o => (Below.refl _ w1).alloc (Nat.le_refl _) _
    go_wp2_with fail
    refine (l2Map_any a c (newBs n) n (newBs_length n) (chipOk_newBs h1 h2) _ ((unhide HA).below (hb1 _) (Nat.le_refl _))).mono ?_
    rintro e w2 ⟨⟨v, r, L, rfl, hM, hv⟩, hB2⟩
    obtain ⟨rfl, rfl⟩ := newMap_is hM
    obtain ⟨ma, mc, rfl, hI, hMine⟩ := hv.form
    have hs2 := hB2.size
    simp at hs2
    have hB12 := (hb1 _).trans (hB2.mono (by simp))
    have hr2 := (hB12.block w.heap.size (by omega)).trans (unhide HR1)
    have hc2 : w2.cell? ⟨w1.heap.size, 0, none⟩ = some (.slice a n c) := by
      rw [hB2.cell (p := ⟨w1.heap.size, 0, none⟩) (by simp)]
      simp
    have q0 := cell_of_row _ _ 0 _ _ _ hr2
    have q1 := cell_of_row _ _ 1 _ _ _ hr2
    have q2 := cell_of_row _ _ 2 _ _ _ hr2
    have q3 := cell_of_row _ _ 3 _ _ _ hr2
    have f0 := frozen_of_row _ _ 0 _ _ hr2
    have f1 := frozen_of_row _ _ 1 _ _ hr2
    have f2 := frozen_of_row _ _ 2 _ _ hr2
    have f3 := frozen_of_row _ _ 3 _ _ hr2
    simp at q0 q1 q2 q3
    have hW2 := hW1.trans (hB12.mono hW1.size)
    have HA2 := hide ((unhide HA).below hB12 (Nat.le_refl _))
    have HI := hide hI
    obtain ⟨mn, hmn⟩ : ∃ mn, (newMap n).length = mn := ⟨_, rfl⟩
    rw [hmn] at hMine ⊢
    have HMN := hide hmn
    simp only [World.size_alloc] at hMine
    have HMI := hide hMine
    have HR2 := hide hr2
    clear hv hM hB2 hB12 hr2 hI hmn HA HR1 hb1 hW1 hMine
    go_wp2
    refine bodyPost_ret (v := .tuple #[.agg #[.slice a n c, .slice ma mn mc, .int .i64 1, .int .i64 0], .bool true]) (by simp [results, Tryz.results36, go_sem, q0, q1, q2, q3]) rfl ⟨a, n, c, ma, mn, mc, newBs n, newMap n, 1, 0, true, rfl, .inl ⟨by omega, by simp, by simp, rfl, rfl, rfl⟩, newBs_length n, unhide HMN, ?_, ?_, ?_, ?_⟩
    · exact blocksAt_apart (unhide HR2) (unhide HA2) (fun b hb => by rw [newBs_block hb]; rfl) (touchN4 _ _ _ _ _ _)
    · exact intsAt_apart (unhide HR2) (unhide HI) (fun x hx => by rw [List.eq_of_mem_replicate hx]; decide) (touchN4 _ _ _ _ _ _)
    · exact MineFrom.lowerN ((unhide HMI).touch' (touchN4 _ _ _ _ _ _) (fun g hg he => by
        rcases unhide HMI with ⟨e, _⟩ | ⟨g', e, h1, _⟩
        · rw [hg] at e; cases e
        · rw [hg] at e; cases e; omega)) (by omega)
    · exact hW2.trans ((touchN4 _ _ _ _ _ _).below hW2.size (fun k hk => by rw [hk]; exact Nat.le_refl _))
  · go_enter Tryz.func36, Tryz.ntmps36
    go_wp2_with fail
    refine (specChipNew_no b _ hin).mono ?_
    rintro e w1 ⟨rfl, hB1⟩
    have hs1 := hB1.size
    simp at hs1
    have hr1 := (hB1.block w.heap.size (by simp)).trans (World.alloc_heap_new w _)
    have hW1 : Below w.heap.size w w1 := (hb0 _).trans (hB1.mono (by simp))
    have q0 := fun o' => (cell_alloc_lt w1 o' w.heap.size 0 (by omega)).trans (cell_of_row _ _ 0 _ _ _ hr1)
    have q1 := fun o' => (cell_alloc_lt w1 o' w.heap.size 1 (by omega)).trans (cell_of_row _ _ 1 _ _ _ hr1)
    have q2 := fun o' => (cell_alloc_lt w1 o' w.heap.size 2 (by omega)).trans (cell_of_row _ _ 2 _ _ _ hr1)
    have q3 := fun o' => (cell_alloc_lt w1 o' w.heap.size 3 (by omega)).trans (cell_of_row _ _ 3 _ _ _ hr1)
    have f0 := fun o' => (frozen_alloc_lt w1 o' w.heap.size 0 (by omega)).trans (frozen_of_row _ _ 0 _ _ hr1)
    have f1 := fun o' => (frozen_alloc_lt w1 o' w.heap.size 1 (by omega)).trans (frozen_of_row _ _ 1 _ _ hr1)
    have f2 := fun o' => (frozen_alloc_lt w1 o' w.heap.size 2 (by omega)).trans (frozen_of_row _ _ 2 _ _ hr1)
    have f3 := fun o' => (frozen_alloc_lt w1 o' w.heap.size 3 (by omega)).trans (frozen_of_row _ _ 3 _ _ hr1)
    simp at q0 q1 q2 q3
    clear hB1 hr1 hb0
    go_wp2
    refine bodyPost_ret (v := .tuple #[.agg #[.slice none 0 0, .slice none 0 0, .int .i64 0, .int .i64 0], .bool false]) (by simp [results, Tryz.results36, go_sem, q0, q1, q2, q3]) rfl ⟨none, 0, 0, none, 0, 0, [], [], 0, 0, false, rfl, .inr ⟨hin, rfl, rfl, rfl, rfl, rfl⟩, rfl, rfl, fun i x hx => by simp at hx, fun i x hx => by simp at hx, .inl ⟨rfl, rfl⟩, ?_⟩
    exact (hW1.alloc hW1.size _).trans ((touchN4 _ _ _ _ _ _).below (by simp; omega) (fun k hk => by rw [hk]; exact Nat.le_refl _))

theorem specFtlNew_any (b : Int) (w : World) :
    Calls Tryz.prog 36 #[.int .i64 b] w fun e w' => ∃ (a : Option Addr) (n c : Nat) (ma : Option Addr) (mn mc : Nat) (out : List Bk) (L : List Int) (seq o : Int) (r : Bool), e = .returned (.tuple #[.agg #[.slice a n c, .slice ma mn mc, .int .i64 seq, .int .i64 o], .bool r]) ∧ FtlNewIs b out L seq o r ∧ out.length = n ∧ L.length = mn ∧ BlocksAt w' a out ∧ IntsAt w' ma L ∧ Below w.heap.size w w' := by
  refine (specFtlNew_mine b w).mono ?_
  rintro e w' ⟨a, n, c, ma, mn, mc, out, L, seq, o, r, h1, h2, h3, h4, h5, h6, _, h7⟩
  exact ⟨a, n, c, ma, mn, mc, out, L, seq, o, r, h1, h2, h3, h4, h5, h6, h7⟩

end Go.Proofs.YtjgcjeaplckbbaaGreat

/- For the members that the laws draw: what a draw and a store leave of them. -/
namespace Go.Proofs.YtjgcjeaplckbbaaGreat
open Go.RowKit
set_option linter.unusedVariables false
set_option linter.unusedSimpArgs false

/-- What is drawn turns no chip. -/
theorem RdAt.blocks {w w' : World} {r : Nat} (h : RdAt w r) {b : Option Addr} {bs : List Bk} (hA : BlocksAt w b bs) (hT : Touch (· = r) w w') : BlocksAt w' b bs := by
  obtain ⟨a, n, c, p, h0, h1, ⟨_, hz⟩, _⟩ := h
  have hint : ∀ {i : Nat} {v : Int}, w.cell? ⟨r, i, none⟩ = some (.int .i64 v) → i = 1 := by
    intro i v hv
    match i with
    | 0 => rw [h0] at hv; cases hv
    | 1 => rfl
    | i + 2 => rw [hz i] at hv; cases hv
  have hsl : ∀ {i : Nat} {x : Option Addr} {y z : Nat}, w.cell? ⟨r, i, none⟩ = some (.slice x y z) → i = 0 := by
    intro i x y z hv
    match i with
    | 0 => rfl
    | 1 => rw [h1] at hv; cases hv
    | i + 2 => rw [hz i] at hv; cases hv
  have hbo : ∀ {i : Nat} {x : Bool}, w.cell? ⟨r, i, none⟩ = some (.bool x) → False := by
    intro i x hv
    match i with
    | 0 => rw [h0] at hv; cases hv
    | 1 => rw [h1] at hv; cases hv
    | i + 2 => rw [hz i] at hv; cases hv
  intro i x hb
  obtain ⟨g, o, pa, pc, ha, c0, c1, hp⟩ := hA i x hb
  have hg : g ≠ r := by
    rintro rfl
    have e0 := hint c0
    have e1 := hsl c1
    omega
  have hc : ∀ j, w'.cell? ⟨g, j, none⟩ = w.cell? ⟨g, j, none⟩ := fun j => World.cell?_of_block (w := w) (a := ⟨g, j, none⟩) (hT.block g (World.block_lt_of_cell? _ _ c0) hg)
  refine ⟨g, o, pa, pc, ha, (hc _).trans c0, (hc _).trans c1, fun k p hk => ?_⟩
  obtain ⟨g2, o2, ha2, d0, d1, d2, d3⟩ := hp k p hk
  have hg2 : g2 ≠ r := by
    rintro rfl
    exact hbo d0
  have hc2 : ∀ j, w'.cell? ⟨g2, j, none⟩ = w.cell? ⟨g2, j, none⟩ := fun j => World.cell?_of_block (w := w) (a := ⟨g2, j, none⟩) (hT.block g2 (World.block_lt_of_cell? _ _ d0) hg2)
  exact ⟨g2, o2, ha2, (hc2 _).trans d0, (hc2 _).trans d1, (hc2 _).trans d2, (hc2 _).trans d3⟩
theorem OffRow.touch {w w' : World} {r : Nat} {ma : Option Addr} {L : List Int} (h : OffRow r ma) (hI : IntsAt w ma L) (hT : Touch (· = r) w w') : IntsAt w' ma L := h.ints hI (fun k hk hl => hT.block k hl hk)
theorem MbAt.drawn {w w' : World} {r : Nat} (hR : RdAt w r) {a : Option Addr} {n : Nat} {ma : Option Addr} {mn B : Nat} {m : Mb} (h : MbAt w a n ma mn B m) (hr : r < B) (hT : Touch (· = r) w w') : MbAt w' a n ma mn B m :=
  have hO := OffRow.above h.mine hr
  ⟨h.bs, h.L, hR.blocks h.blocks hT, hO.touch h.ints hT, hO.mine h.mine (fun k hk hl => hT.block k hl hk) hT.size⟩
/-- A number is written where a number stands: the chip has other numbers, its form is the same. -/
theorem blocksAt_store {w : World} {a : Option Addr} {bs : List Bk} (h : BlocksAt w a bs) {t : Addr} {y : Int} (ht : w.cell? t = some (.int .i64 y)) (x : Int) :
    ∃ bs' : List Bk, bs'.length = bs.length ∧ (∀ (i : Nat) (b' : Bk), bs'[i]? = some b' → ∃ b : Bk, bs[i]? = some b ∧ b'.pages.length = b.pages.length) ∧ BlocksAt (w.setCell t (.int .i64 x)) a bs' := by
  have key : ∀ i, i < bs.length → ∃ b' : Bk, ∃ b, bs[i]? = some b ∧ b'.pages.length = b.pages.length ∧ ∃ g o pa pc, a = some ⟨g, o, none⟩ ∧
    (w.setCell t (.int .i64 x)).cell? ⟨g, o + i * 2, none⟩ = some (.int .i64 b'.wear) ∧ (w.setCell t (.int .i64 x)).cell? ⟨g, o + i * 2 + 1, none⟩ = some (.slice pa b'.pages.length pc) ∧ PagesAt (w.setCell t (.int .i64 x)) pa b'.pages := by
    intro i hi
    obtain ⟨b, hb⟩ := getElem?_ex hi
    obtain ⟨g, o, pa, pc, ha, c0, c1, hA⟩ := h i b hb
    obtain ⟨z, hz⟩ := turn_int ht x c0
    obtain ⟨ps, hpl, hps⟩ := list_of (P := fun j (p' : Pg) => ∃ q qo, pa = some ⟨q, qo, none⟩ ∧ (w.setCell t (.int .i64 x)).cell? ⟨q, qo + j * 4, none⟩ = some (.bool p'.used) ∧ (w.setCell t (.int .i64 x)).cell? ⟨q, qo + j * 4 + 1, none⟩ = some (.int .i64 p'.log) ∧ (w.setCell t (.int .i64 x)).cell? ⟨q, qo + j * 4 + 2, none⟩ = some (.int .i64 p'.seq) ∧ (w.setCell t (.int .i64 x)).cell? ⟨q, qo + j * 4 + 3, none⟩ = some (.string p'.data)) b.pages.length (fun j hj => by
      obtain ⟨p, hp⟩ := getElem?_ex hj
      obtain ⟨q, qo, hq, d0, d1, d2, d3⟩ := hA j p hp
      obtain ⟨z1, hz1⟩ := turn_int ht x d1
      obtain ⟨z2, hz2⟩ := turn_int ht x d2
      exact ⟨⟨p.used, z1, z2, p.data⟩, q, qo, hq, keep_int ht x d0 (fun _ _ e => by cases e), hz1, hz2, keep_int ht x d3 (fun _ _ e => by cases e)⟩)
    refine ⟨⟨z, ps⟩, b, hb, hpl, g, o, pa, pc, ha, hz, ?_, fun j p hp => hps j p hp⟩
    show _ = some (Value.slice pa ps.length pc)
    rw [hpl]
    exact keep_int ht x c1 (fun _ _ e => by cases e)
  obtain ⟨l, hl, hP⟩ := list_of bs.length key
  refine ⟨l, hl, fun i b' hb' => ?_, fun i b' hb' => ?_⟩
  · obtain ⟨b, hb, h1, _⟩ := hP i b' hb'
    exact ⟨b, hb, h1⟩
  · obtain ⟨b, hb, _, h2⟩ := hP i b' hb'
    exact h2
theorem BoxAt.setO {w : World} {P : Nat} {a : Option Addr} {n c : Nat} {ma : Option Addr} {mn mc : Nat} {seq o : Int} (h : BoxAt w P a n c ma mn mc seq o) (o' : Int) : BoxAt (w.setCell ⟨P, 3, none⟩ (.int .i64 o')) P a n c ma mn mc seq o' := by
  refine ⟨fun i => ?_, fun i => by simpa using h.2 i⟩
  by_cases e : i = 3
  · subst e
    rw [World.cell?_setCell_same' _ _ _ (by rw [h.cells.2.2.2]; rfl)]
    rfl
  · rw [World.cell?_setCell_other _ _ _ _ (by simp), h.1 i]
    match i with
    | 0 => rfl
    | 1 => rfl
    | 2 => rfl
    | 3 => exact absurd rfl e
    | i + 4 => simp
theorem BoxAt.setS {w : World} {P : Nat} {a : Option Addr} {n c : Nat} {ma : Option Addr} {mn mc : Nat} {seq o : Int} (h : BoxAt w P a n c ma mn mc seq o) (s' : Int) : BoxAt (w.setCell ⟨P, 2, none⟩ (.int .i64 s')) P a n c ma mn mc s' o := by
  refine ⟨fun i => ?_, fun i => by simpa using h.2 i⟩
  by_cases e : i = 2
  · subst e
    rw [World.cell?_setCell_same' _ _ _ (by rw [h.cells.2.2.1]; rfl)]
    rfl
  · rw [World.cell?_setCell_other _ _ _ _ (by simp), h.1 i]
    match i with
    | 0 => rfl
    | 1 => rfl
    | 2 => exact absurd rfl e
    | 3 => rfl
    | i + 4 => simp
theorem setCell_block (w : World) (P j : Nat) (v : Value) : ∀ k, k ≠ P → (w.setCell ⟨P, j, none⟩ v).heap[k]? = w.heap[k]? := fun k hk => Go.Deep.blk_setCell_other _ _ _ _ hk
/-- A store into the member's variable, of its last number or its open block. -/
theorem MbAt.setO {w : World} {P : Nat} {a1 : Option Addr} {n1 c1 : Nat} {ma1 : Option Addr} {mn1 mc1 : Nat} {seq1 o1 : Int} (hP : BoxAt w P a1 n1 c1 ma1 mn1 mc1 seq1 o1) {a : Option Addr} {n : Nat} {ma : Option Addr} {mn B : Nat} {m : Mb} (h : MbAt w a n ma mn B m) (hO : OffRow P ma) (j : Nat) (v : Value) {m' : Mb} (e1 : m'.bs = m.bs) (e2 : m'.L = m.L) : MbAt (w.setCell ⟨P, j, none⟩ v) a n ma mn B m' :=
  ⟨by rw [e1]; exact h.bs, by rw [e2]; exact h.L, by rw [e1]; exact hP.blocks h.blocks (fun k hk _ => setCell_block _ _ _ _ k hk), by rw [e2]; exact hO.ints h.ints (fun k hk _ => setCell_block _ _ _ _ k hk), hO.mine h.mine (fun k hk _ => setCell_block _ _ _ _ k hk) (by simp [World.setCell])⟩
/-- A store into the first place of its map. -/
theorem MbAt.setMap {w : World} {g : Nat} {a : Option Addr} {n : Nat} {mn B : Nat} {m : Mb} (h : MbAt w a n (some ⟨g, 0, none⟩) mn B m) {y : Int} (hc : w.cell? ⟨g, 0, none⟩ = some (.int .i64 y)) (x : Int) (hs : m.Short) : ∃ m' : Mb, MbAt (w.setCell ⟨g, 0, none⟩ (.int .i64 x)) a n (some ⟨g, 0, none⟩) mn B m' ∧ m'.Short ∧ m'.seq = m.seq ∧ m'.o = m.o := by
  obtain ⟨bs', hl, hp, hA⟩ := blocksAt_store h.blocks hc x
  have hI : IntsAt (w.setCell ⟨g, 0, none⟩ (.int .i64 x)) (some ⟨g, 0, none⟩) (m.L.set 0 x) := by
    intro i z hz
    refine ⟨g, 0, rfl, ?_⟩
    rw [List.getElem?_set] at hz
    by_cases e : 0 = i
    · subst e
      rw [if_pos rfl] at hz
      split at hz
      · cases hz
        exact World.cell?_setCell_same' _ _ _ (by rw [hc]; rfl)
      · cases hz
    · rw [if_neg e] at hz
      obtain ⟨b, o, ha, hcc⟩ := h.ints i z hz
      cases ha
      rw [World.cell?_setCell_other _ _ _ _ (by simp)]
      exact hcc
  refine ⟨⟨bs', m.L.set 0 x, m.seq, m.o⟩, ⟨hl.trans h.bs, by simp [h.L], hA, hI, ?_⟩, ⟨⟨by rw [hl]; exact hs.1.1, fun b hb => ?_⟩, by rw [hl]; exact hs.2.1, by simp; exact hs.2.2⟩, rfl, rfl⟩
  · rcases h.mine with ⟨e, _⟩ | ⟨g', e, h1, h2, h3⟩
    · cases e
    · cases e
      refine .inr ⟨g, rfl, h1, by simpa [World.setCell] using h2, ?_⟩
      intro i hi
      obtain ⟨⟨z, hz⟩, hf⟩ := h3 i hi
      exact ⟨turn_int hc x hz, by simpa using hf⟩
  · obtain ⟨i, hi, rfl⟩ := List.getElem_of_mem hb
    obtain ⟨b', hb', e⟩ := hp i _ (List.getElem?_eq_getElem hi)
    rw [e]
    exact hs.1.2 _ (List.mem_of_getElem? hb')
end Go.Proofs.YtjgcjeaplckbbaaGreat

/- The members that the laws draw: ftl. -/
namespace Go.Proofs.YtjgcjeaplckbbaaGreat
open Go.RowKit
set_option linter.unusedVariables false
set_option linter.unusedSimpArgs false

set_option maxHeartbeats 1000000 in
/-- below, for whatever number from 1 on. -/
theorem belowAny (r : Nat) (m : Int) (w : World) (h : RdAt w r) (hm2 : m ≤ 1000000000000) :
    Calls Tryz.prog 16 #[.pointer (some ⟨r, 0, none⟩), .int .i64 m] w fun e w' => ∃ x : Int, e = .returned (.int .i64 x) ∧ 0 ≤ x ∧ (x = 0 ∨ x < m) ∧ RdAt w' r ∧ Touch (· = r) w w' := by
  by_cases hm : 1 < m
  · refine (below_any r m w h hm hm2).mono ?_
    rintro e w' ⟨x, rfl, h0, h1, hR, hT⟩
    exact ⟨x, rfl, h0, .inr h1, hR, hT⟩
  · have HR := hide h
    clear h
    go_enter Tryz.func16, Tryz.ntmps16
    go_wp2
    go_ret
    exact ⟨0, rfl, by omega, .inl rfl, unhide HR, Touch.refl _ _⟩
/-- How the walk stands behind a write that was drawn. -/
def DrawnW (w : World) (r P : Nat) (wx : World) : Prop :=
  ∃ (a6 : Option Addr) (n6 c6 : Nat) (ma6 : Option Addr) (mn6 mc6 : Nat) (mk : Mb), BoxAt wx P a6 n6 c6 ma6 mn6 mc6 mk.seq mk.o ∧ BoxAt wx w.heap.size none 0 0 none 0 0 0 0 ∧ MbAt wx a6 n6 ma6 mn6 (w.heap.size + 1) mk ∧ OffRow P ma6 ∧ mk.Short ∧ RdAt wx r ∧ Touch (· = r) w wx
theorem BoxAt.zeroBlocks {w : World} {P : Nat} (h : BoxAt w P none 0 0 none 0 0 0 0) : True := trivial

set_option maxRecDepth 100000 in
set_option maxHeartbeats 4000000 in
theorem ftl_any (r : Nat) (most : Int) (w : World) (h : RdAt w r) (hm0 : 0 ≤ most) (hm9 : most ≤ 1000) :
    Calls Tryz.prog 13 #[.pointer (some ⟨r, 0, none⟩), .int .i64 most] w fun e w' => ∃ a n c ma mn mc m, e = .returned (.agg #[.slice a n c, .slice ma mn mc, .int .i64 (Mb.seq m), .int .i64 m.o]) ∧ MbAt w' a n ma mn w.heap.size m ∧ m.Short ∧ RdAt w' r ∧ Touch (· = r) w w' := by
  have hrl := h.lt
  obtain ⟨w0, hw0⟩ : ∃ w0, w0 = w.alloc (.cells #[.slice none 0 0, .slice none 0 0, .int .i64 0, .int .i64 0] 29) := ⟨_, rfl⟩
  have hB0 : Below w.heap.size w w0 := by rw [hw0]; exact (Below.refl _ w).alloc (Nat.le_refl _) _
  have hs0 : w0.heap.size = w.heap.size + 1 := by rw [hw0]; simp
  have HZ0 : Hid (BoxAt w0 w.heap.size none 0 0 none 0 0 0 0) := by rw [hw0]; exact BoxAt.alloc _ _ _ _ _ _ _ _ _ _
  have HR0 := hide (h.below hB0)
  have hTT0 : Touch (· = r) w w0 := Touch.of_below hB0
  clear h hB0
  go_enter Tryz.func13, Tryz.ntmps13
  go_wp2_with fail
  rw [← hw0]
  clear hw0
  refine (below_any r 3 _ (unhide HR0) (by omega) (by omega)).mono ?_
  rintro e w1 ⟨x, rfl, hx0, hx1, hR1, hT1⟩
  have hs1 := hT1.size
  have HR1 := hide hR1
  have hTT1 := hTT0.trans hT1
  have HZ1 := hide ((unhide HZ0).touch hT1 (by omega))
  clear hR1 hT1 HR0 HZ0 hTT0
  go_wp2_with fail
  refine (specFtlNew_mine (4 + x) _).mono ?_
  rintro e w2 ⟨a, n, c, ma, mn, mc, out, L, seq, o, rr, rfl, hNew, hol, hLl, hA2, hI2, hM2, hB2⟩
  have hs2 := hB2.size
  have HR2 := hide ((unhide HR1).below hB2)
  have HZ2 := hide ((unhide HZ1).below hB2 (by omega))
  have hTT2 := hTT1.trans (Touch.of_below hB2)
  have hlens := hNew.lens
  have hout : out.length ≤ 12 ∧ L.length ≤ 36 := ⟨by
    rcases hNew with ⟨_, rfl, _⟩ | ⟨_, rfl, _⟩
    · rw [newBs_length]; omega
    · simp, hlens.2⟩
  have HSH : Hid ((⟨out, L, seq, o⟩ : Mb).Short) := ⟨hlens.1, hout.1, hout.2⟩
  have HM2 : Hid (MbAt w2 a n ma mn (w.heap.size + 1) ⟨out, L, seq, o⟩) := ⟨hol, hLl, hA2, hI2, hM2.lower (by omega)⟩
  obtain ⟨P, hP⟩ : ∃ P, P = w2.heap.size := ⟨_, rfl⟩
  obtain ⟨w3, hw3⟩ : ∃ w3, w3 = w2.alloc (.cells #[.slice a n c, .slice ma mn mc, .int .i64 seq, .int .i64 o] 29) := ⟨_, rfl⟩
  have hB3 : Below w2.heap.size w2 w3 := by rw [hw3]; exact (Below.refl _ _).alloc (Nat.le_refl _) _
  have HX3 : Hid (BoxAt w3 w2.heap.size a n c ma mn mc seq o) := by rw [hw3]; exact BoxAt.alloc _ _ _ _ _ _ _ _ _ _
  have HO3 : Hid (OffRow w2.heap.size ma) := OffRow.under (unhide HM2).mine (Nat.le_refl _)
  have HM3 := hide ((unhide HM2).below hB3)
  have HR3 := hide ((unhide HR2).below hB3)
  have HZ3 := hide ((unhide HZ2).below hB3 (by omega))
  have hTT3 := hTT2.trans (Touch.of_below hB3)
  have hs3 : w2.heap.size < w3.heap.size := (unhide HX3).lt
  have hrw : r < w2.heap.size := by omega
  clear hNew hol hLl hA2 hI2 hM2 hB2 HR1 HZ1 hTT1 HR2 HZ2 hTT2 HM2 hB3 hlens hout hP
  go_wp2_with fail
  rw [← hw3]
  clear hw3
  refine (specRoomFor_any (4 + x) _).mono ?_
  rintro e w3' ⟨rfl, rfl⟩
  rw [roomI_in (by omega)]
  go_wp2_with fail
  refine (belowAny r (4 * (4 + x - 3)) _ (unhide HR3) (by omega)).mono ?_
  rintro e w4 ⟨y, rfl, hy0, hy1, hR4, hT4⟩
  have hy12 : y < 12 := by rcases hy1 with h | h <;> omega
  have hs4 := hT4.size
  have HX4 := hide ((unhide HX3).touch hT4 (by omega))
  have HZ4 := hide ((unhide HZ3).touch hT4 (by omega))
  have HM4 := hide ((unhide HM3).drawn (unhide HR3) (by omega) hT4)
  have HR4 := hide hR4
  have hTT4 := hTT3.trans hT4
  clear hR4 hT4 HX3 HZ3 HM3 HR3 hTT3 hy1
  go_wp2_with fail
  refine (belowAny r (most + 1) _ (unhide HR4) (by omega)).mono ?_
  rintro e w5 ⟨k0, rfl, hk0, hk1, hR5, hT5⟩
  have hs5 := hT5.size
  have HX5 := hide ((unhide HX4).touch hT5 (by omega))
  have HZ5 := hide ((unhide HZ4).touch hT5 (by omega))
  have HM5 := hide ((unhide HM4).drawn (unhide HR4) (by omega) hT5)
  have HR5 := hide hR5
  have hTT5 := hTT4.trans hT5
  have hk9 : k0 ≤ 1000 := by rcases hk1 with h | h <;> omega
  obtain ⟨k0, rfl⟩ := Int.eq_ofNat_of_zero_le hk0
  have HD5 : Hid (DrawnW w r w2.heap.size w5) := ⟨a, n, c, ma, mn, mc, ⟨out, L, seq, o⟩, unhide HX5, unhide HZ5, unhide HM5, unhide HO3, unhide HSH, unhide HR5, hTT5⟩
  clear hR5 hT5 HX4 HZ4 HM4 HR4 hTT4 HX5 HZ5 HM5 HR5 hTT5 hk1 HSH
  go_wp2
  go_loopw [9] (fun vi wr => ∃ k : Nat, vi = .int .i64 k ∧ k ≤ 1000 ∧ DrawnW w r w2.heap.size wr ∧ w5.heap.size ≤ wr.heap.size) (fun vi _ => (intOf vi).toNat)
  case atStart => exact ⟨k0, rfl, by omega, unhide HD5, Nat.le_refl _⟩
  case round =>
    clear HD5
    obtain ⟨k, rfl, hk, hD, hsr⟩ := hrel
    obtain ⟨wz, rfl⟩ : ∃ wz, wz = wr := ⟨_, rfl⟩
    obtain ⟨a6, n6, c6, ma6, mn6, mc6, mk, hbox, hres, hmb, hoff, hsh, hR, hTz⟩ := hD
    obtain ⟨y0, y1, y2, y3⟩ := hbox.cells
    obtain ⟨q0, q1, q2, q3⟩ := hbox.free
    have HBX := hide hbox
    have HRS := hide hres
    have HMK := hide hmb
    have HOF := hide hoff
    have HSH := hide hsh
    have HRz := hide hR
    have HTz := hide hTz
    have hPl := hbox.lt
    have hn6 : mn6 ≤ 1048576 := by have := hsh.2.2; have := hmb.L; omega
    clear hbox hres hmb hoff hsh hR hTz
    by_cases hlt : 0 < k
    · have hki : (0 : Int) < (k : Int) := by omega
      have HRd : Hid (RdAt wz.drew r) := (unhide HRz)
      have HTd : Hid (Touch (· = r) wz wz.drew) := (Touch.refl _ wz).drew
      go_wp2_with fail
      go_region_with (first
        | (go_at_call 16
           refine (belowAny r (1 + y) _ (unhide HRd) (by omega)).mono ?_
           rintro e wb ⟨yb, rfl, hyb0, hyb1, hRb, hTb⟩
           have HTb : Hid (Touch (· = r) wz wb) := (unhide HTd).trans hTb
           have HRb := hide hRb
           have yb0 := ((unhide HTb).cell (b := w2.heap.size) (o := 0) hPl (by show ¬ w2.heap.size = r; omega)).trans y0
           have yb1 := ((unhide HTb).cell (b := w2.heap.size) (o := 1) hPl (by show ¬ w2.heap.size = r; omega)).trans y1
           have yb2 := ((unhide HTb).cell (b := w2.heap.size) (o := 2) hPl (by show ¬ w2.heap.size = r; omega)).trans y2
           have yb3 := ((unhide HTb).cell (b := w2.heap.size) (o := 3) hPl (by show ¬ w2.heap.size = r; omega)).trans y3
           clear hRb hTb)
        | (go_at_call 17
           refine (data_any r _ (unhide HRb)).mono ?_
           rintro e wd ⟨xd, rfl, hxd, hRd2, hTd2⟩
           have HTd2 : Hid (Touch (· = r) wz wd) := (unhide HTb).trans hTd2
           have HRd2 := hide hRd2
           have yd0 := ((unhide HTd2).cell (b := w2.heap.size) (o := 0) hPl (by show ¬ w2.heap.size = r; omega)).trans y0
           have yd1 := ((unhide HTd2).cell (b := w2.heap.size) (o := 1) hPl (by show ¬ w2.heap.size = r; omega)).trans y1
           have yd2 := ((unhide HTd2).cell (b := w2.heap.size) (o := 2) hPl (by show ¬ w2.heap.size = r; omega)).trans y2
           have yd3 := ((unhide HTd2).cell (b := w2.heap.size) (o := 3) hPl (by show ¬ w2.heap.size = r; omega)).trans y3
           have hxd2 : xd.size ≤ 1048576 := by omega
           clear hRd2 hTd2)
        | (go_at_call 38
           refine (specWritten_any a6 c6 mk.bs n6 (unhide HMK).bs ma6 mc6 mk.L mn6 (unhide HMK).L mk.seq mk.o yb xd _ ((unhide HMK).drawn (unhide HRz) (by omega) (unhide HTd2)).blocks (unhide HSH).1 ((unhide HMK).drawn (unhide HRz) (by omega) (unhide HTd2)).ints hn6 hxd2).mono ?_
           rintro e wp ⟨a8, n8, c8, ma8, mn8, mc8, bs8, L8, s8, o8, code, rfl, hWI, hbl, hLl, hA8, hI8, hM8, hB8⟩
           have hsd := (unhide HTd2).size
           have HTp : Hid (Touch (· = r) wz wp) := (unhide HTd2).trans (Touch.of_below hB8)
           have HRp : Hid (RdAt wp r) := (unhide HRd2).below hB8
           have HMp : Hid (MbAt wp a8 n8 ma8 mn8 wd.heap.size ⟨bs8, L8, s8, o8⟩) := ⟨hbl, hLl, hA8, hI8, hM8⟩
           have HSp : Hid ((⟨bs8, L8, s8, o8⟩ : Mb).Short) := hWI.short
           have HBp := hide ((unhide HBX).touch (unhide HTp) (by omega))
           have yp0 := (unhide HBp).cells.1
           have yp1 := (unhide HBp).cells.2.1
           have yp2 := (unhide HBp).cells.2.2.1
           have yp3 := (unhide HBp).cells.2.2.2
           have qp0 := (unhide HBp).2 0
           have qp1 := (unhide HBp).2 1
           have qp2 := (unhide HBp).2 2
           have qp3 := (unhide HBp).2 3
           clear hWI hbl hLl hA8 hI8 hM8 hB8))
      all_goals (
        have hO8 : OffRow w2.heap.size ma8 := OffRow.above (unhide HMp).mine (by omega)
        have hsp := (unhide HTp).size
        have hRp0 := unhide HRS
        have hDn : DrawnW w r w2.heap.size (set4B wp w2.heap.size (.slice a8 n8 c8) (.slice ma8 mn8 mc8) (.int .i64 s8) (.int .i64 o8)) :=
          ⟨a8, n8, c8, ma8, mn8, mc8, ⟨bs8, L8, s8, o8⟩, (unhide HBp).store _ _ _ _ _ _ _ _, ((hRp0.touch (unhide HTp) (by omega)).touch (set4B_touch _ _ _ _ _ _) (by omega)), (((unhide HMp).stored (unhide HBp) hO8 _ _ _ _).lower (by omega)), hO8, unhide HSp, (unhide HRp).past (set4B_below (Below.refl w2.heap.size wp) (Nat.le_refl _) _ _ _ _) (by omega), ((unhide HTz).trans (unhide HTp)).past (set4B_below (Below.refl w2.heap.size wp) (Nat.le_refl _) _ _ _ _) (by omega)⟩
        have HDn := hide hDn
        clear y0 y1 y2 y3 q0 q1 q2 q3 yb0 yb1 yb2 yb3 yd0 yd1 yd2 yd3 hDn hRp0
        go_wp2
        go_roundw
        case rel =>
          exact ⟨k - 1, by first | go_num | (congr 1; omega), by omega, unhide HDn, by simp [World.setCell]; omega⟩
        case measure => simp [intOf]; omega)
    · have hki : ¬ (0 : Int) < (k : Int) := by omega
      go_wp2_with fail
      refine (below_any r 40 _ (unhide HRz) (by omega) (by omega)).mono ?_
      rintro e w6 ⟨x6, rfl, hx60, hx61, hR6, hT6⟩
      have hs6 := hT6.size
      have HB6 := hide ((unhide HBX).touch hT6 (by omega))
      have HZ6 := hide ((unhide HRS).touch hT6 (by omega))
      have HM6 := hide ((unhide HMK).drawn (unhide HRz) (by omega) hT6)
      have HR6 := hide hR6
      have HTT6 := hide ((unhide HTz).trans hT6)
      have hP6 : w2.heap.size < w6.heap.size := by omega
      clear hR6 hT6 HBX HRS HMK HRz HTz y0 y1 y2 y3 q0 q1 q2 q3
      by_cases e37 : x6 = 37
      · subst e37
        go_wp2_with fail
        refine (off_any r 0 3 _ (unhide HR6) (by omega) (by omega) (by omega)).mono ?_
        rintro e w8 ⟨z, rfl, hR8, hT8⟩
        have hs8 := hT8.size
        have HB8 := hide ((unhide HB6).touch hT8 (by omega))
        have HZ8 := hide ((unhide HZ6).touch hT8 (by omega))
        have HM8 := hide ((unhide HM6).drawn (unhide HR6) (by omega) hT8)
        have HR8 := hide hR8
        have HT8 := hide ((unhide HTT6).trans hT8)
        clear hR8 hT8
        obtain ⟨W9, hW9⟩ : ∃ W9, W9 = w8.setCell ⟨w2.heap.size, 3, none⟩ (.int .i64 z) := ⟨_, rfl⟩
        have HBf : Hid (BoxAt W9 w2.heap.size a6 n6 c6 ma6 mn6 mc6 mk.seq z) := by rw [hW9]; exact (unhide HB8).setO z
        have HMf : Hid (MbAt W9 a6 n6 ma6 mn6 (w.heap.size + 1) ⟨mk.bs, mk.L, mk.seq, z⟩) := by rw [hW9]; exact MbAt.setO (unhide HB8) (unhide HM8) (unhide HOF) 3 _ rfl rfl
        have HZf : Hid (BoxAt W9 w.heap.size none 0 0 none 0 0 0 0) := by rw [hW9]; exact (unhide HZ8).of_block (setCell_block _ _ _ _ _ (by omega))
        have HRf : Hid (RdAt W9 r) := by rw [hW9]; exact (unhide HR8).past ((Below.refl w2.heap.size w8).setCell (Nat.le_refl _) _) hrw
        have HTf : Hid (Touch (· = r) w W9) := by rw [hW9]; exact (unhide HT8).past ((Below.refl w2.heap.size w8).setCell (Nat.le_refl _) _) (by omega)
        have HSf : Hid ((⟨mk.bs, mk.L, mk.seq, z⟩ : Mb).Short) := unhide HSH
        obtain ⟨u0, u1, u2, u3⟩ := (unhide HB8).cells
        obtain ⟨g0, g1, g2, g3⟩ := (unhide HB8).free
        go_upto_region 16 with fail
        rw [← hW9]
        clear hW9 u0 u1 u2 u3 g0 g1 g2 g3
        obtain ⟨W5, hW5⟩ : ∃ W5, W5 = set4B W9 w.heap.size (.slice a6 n6 c6) (.slice ma6 mn6 mc6) (.int .i64 mk.seq) (.int .i64 z) := ⟨_, rfl⟩
        have hY := (unhide HZf).store a6 n6 c6 ma6 mn6 mc6 mk.seq z
        have hF := (unhide HMf).stored (unhide HZf) (OffRow.above (unhide HMf).mine (Nat.lt_succ_self _)) (.slice a6 n6 c6) (.slice ma6 mn6 mc6) (.int .i64 mk.seq) (.int .i64 z)
        have hRf := (unhide HRf).past (set4B_below (Below.refl w.heap.size W9) (Nat.le_refl _) (.slice a6 n6 c6) (.slice ma6 mn6 mc6) (.int .i64 mk.seq) (.int .i64 z)) hrl
        have hTf := (unhide HTf).past (set4B_below (Below.refl w.heap.size W9) (Nat.le_refl _) (.slice a6 n6 c6) (.slice ma6 mn6 mc6) (.int .i64 mk.seq) (.int .i64 z)) (Nat.le_refl _)
        rw [← hW5] at hY hF hRf hTf
        obtain ⟨x0, x1, x2, x3⟩ := (unhide HBf).cells
        obtain ⟨z0, z1, z2, z3⟩ := (unhide HZf).cells
        obtain ⟨f0, f1, f2, f3⟩ := (unhide HZf).free
        obtain ⟨v0, v1, v2, v3⟩ := hY.cells
        have HF := hide hF
        have HRF := hide hRf
        have HTF := hide hTf
        clear hY hF hRf hTf
        unfold set4B at hW5
        go_wp2
        try rw [← hW5]
        exact bodyPost_ret (v := .agg #[.slice a6 n6 c6, .slice ma6 mn6 mc6, .int .i64 mk.seq, .int .i64 z]) (by simp [results, Tryz.results13, go_sem, v0, v1, v2, v3]) rfl ⟨a6, n6, c6, ma6, mn6, mc6, ⟨mk.bs, mk.L, mk.seq, z⟩, rfl, (unhide HF).lower (by omega), unhide HSf, unhide HRF, unhide HTF⟩
      have b37 : (x6 == 37) = false := by simpa using e37
      by_cases e38 : x6 = 38
      · subst e38
        go_wp2_with fail
        refine (off_any r 1 20 _ (unhide HR6) (by omega) (by omega) (by omega)).mono ?_
        rintro e w8 ⟨z, rfl, hR8, hT8⟩
        have hs8 := hT8.size
        have HB8 := hide ((unhide HB6).touch hT8 (by omega))
        have HZ8 := hide ((unhide HZ6).touch hT8 (by omega))
        have HM8 := hide ((unhide HM6).drawn (unhide HR6) (by omega) hT8)
        have HR8 := hide hR8
        have HT8 := hide ((unhide HTT6).trans hT8)
        clear hR8 hT8
        obtain ⟨W9, hW9⟩ : ∃ W9, W9 = w8.setCell ⟨w2.heap.size, 2, none⟩ (.int .i64 z) := ⟨_, rfl⟩
        have HBf : Hid (BoxAt W9 w2.heap.size a6 n6 c6 ma6 mn6 mc6 z mk.o) := by rw [hW9]; exact (unhide HB8).setS z
        have HMf : Hid (MbAt W9 a6 n6 ma6 mn6 (w.heap.size + 1) ⟨mk.bs, mk.L, z, mk.o⟩) := by rw [hW9]; exact MbAt.setO (unhide HB8) (unhide HM8) (unhide HOF) 2 _ rfl rfl
        have HZf : Hid (BoxAt W9 w.heap.size none 0 0 none 0 0 0 0) := by rw [hW9]; exact (unhide HZ8).of_block (setCell_block _ _ _ _ _ (by omega))
        have HRf : Hid (RdAt W9 r) := by rw [hW9]; exact (unhide HR8).past ((Below.refl w2.heap.size w8).setCell (Nat.le_refl _) _) hrw
        have HTf : Hid (Touch (· = r) w W9) := by rw [hW9]; exact (unhide HT8).past ((Below.refl w2.heap.size w8).setCell (Nat.le_refl _) _) (by omega)
        have HSf : Hid ((⟨mk.bs, mk.L, z, mk.o⟩ : Mb).Short) := unhide HSH
        obtain ⟨u0, u1, u2, u3⟩ := (unhide HB8).cells
        obtain ⟨g0, g1, g2, g3⟩ := (unhide HB8).free
        go_upto_region 16 with fail
        rw [← hW9]
        clear hW9 u0 u1 u2 u3 g0 g1 g2 g3
        obtain ⟨W5, hW5⟩ : ∃ W5, W5 = set4B W9 w.heap.size (.slice a6 n6 c6) (.slice ma6 mn6 mc6) (.int .i64 z) (.int .i64 mk.o) := ⟨_, rfl⟩
        have hY := (unhide HZf).store a6 n6 c6 ma6 mn6 mc6 z mk.o
        have hF := (unhide HMf).stored (unhide HZf) (OffRow.above (unhide HMf).mine (Nat.lt_succ_self _)) (.slice a6 n6 c6) (.slice ma6 mn6 mc6) (.int .i64 z) (.int .i64 mk.o)
        have hRf := (unhide HRf).past (set4B_below (Below.refl w.heap.size W9) (Nat.le_refl _) (.slice a6 n6 c6) (.slice ma6 mn6 mc6) (.int .i64 z) (.int .i64 mk.o)) hrl
        have hTf := (unhide HTf).past (set4B_below (Below.refl w.heap.size W9) (Nat.le_refl _) (.slice a6 n6 c6) (.slice ma6 mn6 mc6) (.int .i64 z) (.int .i64 mk.o)) (Nat.le_refl _)
        rw [← hW5] at hY hF hRf hTf
        obtain ⟨x0, x1, x2, x3⟩ := (unhide HBf).cells
        obtain ⟨z0, z1, z2, z3⟩ := (unhide HZf).cells
        obtain ⟨f0, f1, f2, f3⟩ := (unhide HZf).free
        obtain ⟨v0, v1, v2, v3⟩ := hY.cells
        have HF := hide hF
        have HRF := hide hRf
        have HTF := hide hTf
        clear hY hF hRf hTf
        unfold set4B at hW5
        go_wp2
        try rw [← hW5]
        exact bodyPost_ret (v := .agg #[.slice a6 n6 c6, .slice ma6 mn6 mc6, .int .i64 z, .int .i64 mk.o]) (by simp [results, Tryz.results13, go_sem, v0, v1, v2, v3]) rfl ⟨a6, n6, c6, ma6, mn6, mc6, ⟨mk.bs, mk.L, z, mk.o⟩, rfl, (unhide HF).lower (by omega), unhide HSf, unhide HRF, unhide HTF⟩
      have b38 : (x6 == 38) = false := by simpa using e38
      by_cases e39 : x6 = 39 ∧ 0 < mn6
      · obtain ⟨rfl, hmn⟩ := e39
        obtain ⟨g, rfl, hgB, hg6⟩ : ∃ g, ma6 = some ⟨g, 0, none⟩ ∧ w.heap.size + 1 ≤ g ∧ g < w6.heap.size := by
          rcases (unhide HM6).mine with ⟨_, h⟩ | ⟨g, h, h1, h2, _⟩
          · omega
          · exact ⟨g, h, h1, h2⟩
        have hgP : g ≠ w2.heap.size := unhide HOF g 0 rfl
        have hmi : (0 : Int) < (mn6 : Int) := by omega
        obtain ⟨u0, u1, u2, u3⟩ := (unhide HB6).cells
        have HR6d : Hid (RdAt w6.drew r) := (unhide HR6)
        have HT6d : Hid (Touch (· = r) w6 w6.drew) := (Touch.refl _ w6).drew
        obtain ⟨yq, hyq⟩ := getElem?_ex (l := mk.L) (k := 0) (by have := (unhide HM6).L; omega)
        have fg6 : w6.frozen? ⟨g, 0, none⟩ = false := by
          rcases (unhide HM6).mine with ⟨_, h⟩ | ⟨g', h, h1, h2, h3⟩
          · omega
          · cases h
            have := (h3 0 hmn).2
            simpa using this
        have cg6 : w6.cell? ⟨g, 0, none⟩ = some (.int .i64 yq) := by
          obtain ⟨b, o, hb, hc⟩ := (unhide HM6).ints 0 yq hyq
          cases hb
          exact hc
        go_wp2_with fail
        go_region_with (first
          | (go_at_call 15
             refine (off_any r (-1) 9 _ (unhide HR6d) (by omega) (by omega) (by omega)).mono ?_
             rintro e w8 ⟨z, rfl, hR8, hT8⟩
             have hT68 := (unhide HT6d).trans hT8
             have u81 := (hT68.cell (b := w2.heap.size) (o := 1) hP6 (by show ¬ w2.heap.size = r; omega)).trans u1
             have cg8 := (hT68.cell (b := g) (o := 0) hg6 (by show ¬ g = r; omega)).trans cg6
             have fg8 := (hT68.frozen (b := g) (o := 0) hg6 (by show ¬ g = r; omega)).trans fg6
             have hs8 := hT68.size
             have HB8 := hide ((unhide HB6).touch hT68 (by omega))
             have HZ8 := hide ((unhide HZ6).touch hT68 (by omega))
             have HM8 := hide ((unhide HM6).drawn (unhide HR6) (by omega) hT68)
             have HR8 := hide hR8
             have HT8 := hide ((unhide HTT6).trans hT68)
             clear hR8 hT8 hT68))
        all_goals (
          obtain ⟨m', hM', hS', es, eo⟩ := (unhide HM8).setMap cg8 z (unhide HSH)
          obtain ⟨W9, hW9⟩ : ∃ W9, W9 = w8.setCell ⟨g, 0, none⟩ (.int .i64 z) := ⟨_, rfl⟩
          rw [← hW9] at hM'
          have HMf : Hid (MbAt W9 a6 n6 (some ⟨g, 0, none⟩) mn6 (w.heap.size + 1) m') := hM'
          have HSf : Hid m'.Short := hS'
          have HBf : Hid (BoxAt W9 w2.heap.size a6 n6 c6 (some ⟨g, 0, none⟩) mn6 mc6 m'.seq m'.o) := by rw [hW9, es, eo]; exact (unhide HB8).of_block (setCell_block _ _ _ _ _ (by omega))
          have HZf : Hid (BoxAt W9 w.heap.size none 0 0 none 0 0 0 0) := by rw [hW9]; exact (unhide HZ8).of_block (setCell_block _ _ _ _ _ (by omega))
          have HRf : Hid (RdAt W9 r) := by rw [hW9]; exact (unhide HR8).past ((Below.refl (w.heap.size + 1) w8).setCell hgB _) (by omega)
          have HTf : Hid (Touch (· = r) w W9) := by rw [hW9]; exact (unhide HT8).past ((Below.refl w.heap.size w8).setCell (by show w.heap.size ≤ g; omega) _) (Nat.le_refl _)
          have HES := hide (And.intro es eo)
          clear hM' hS' es eo u0 u1 u2 u3
          go_upto_region 16 with fail
          rw [← hW9]
          clear hW9 cg8 fg8 u81 cg6 fg6
          obtain ⟨W5, hW5⟩ : ∃ W5, W5 = set4B W9 w.heap.size (.slice a6 n6 c6) (.slice (some ⟨g, 0, none⟩) mn6 mc6) (.int .i64 m'.seq) (.int .i64 m'.o) := ⟨_, rfl⟩
          have hY := (unhide HZf).store a6 n6 c6 (some ⟨g, 0, none⟩) mn6 mc6 m'.seq m'.o
          have hF := (unhide HMf).stored (unhide HZf) (OffRow.above (unhide HMf).mine (Nat.lt_succ_self _)) (.slice a6 n6 c6) (.slice (some ⟨g, 0, none⟩) mn6 mc6) (.int .i64 m'.seq) (.int .i64 m'.o)
          have hRf := (unhide HRf).past (set4B_below (Below.refl w.heap.size W9) (Nat.le_refl _) (.slice a6 n6 c6) (.slice (some ⟨g, 0, none⟩) mn6 mc6) (.int .i64 m'.seq) (.int .i64 m'.o)) hrl
          have hTf := (unhide HTf).past (set4B_below (Below.refl w.heap.size W9) (Nat.le_refl _) (.slice a6 n6 c6) (.slice (some ⟨g, 0, none⟩) mn6 mc6) (.int .i64 m'.seq) (.int .i64 m'.o)) (Nat.le_refl _)
          rw [← hW5] at hY hF hRf hTf
          obtain ⟨x0, x1, x2, x3⟩ := (unhide HBf).cells
          obtain ⟨z0, z1, z2, z3⟩ := (unhide HZf).cells
          obtain ⟨f0, f1, f2, f3⟩ := (unhide HZf).free
          obtain ⟨v0, v1, v2, v3⟩ := hY.cells
          have HF := hide hF
          have HRF := hide hRf
          have HTF := hide hTf
          clear hY hF hRf hTf
          unfold set4B at hW5
          go_wp2
          try rw [← hW5]
          exact bodyPost_ret (v := .agg #[.slice a6 n6 c6, .slice (some ⟨g, 0, none⟩) mn6 mc6, .int .i64 m'.seq, .int .i64 m'.o]) (by simp [results, Tryz.results13, go_sem, v0, v1, v2, v3]) rfl ⟨a6, n6, c6, (some ⟨g, 0, none⟩), mn6, mc6, m', rfl, (unhide HF).lower (by omega), unhide HSf, unhide HRF, unhide HTF⟩
          )
      · have HBf := HB6
        have HZf := HZ6
        have HMf := HM6
        have HRf := HR6
        have HTf := HTT6
        have HSf : Hid mk.Short := unhide HSH
        have h39 : (x6 == 39) = false ∨ ((x6 == 39) = true ∧ ¬ (0 : Int) < (mn6 : Int)) := by
          by_cases e : x6 = 39
          · right; exact ⟨by simpa using e, fun h => e39 ⟨e, by omega⟩⟩
          · left; simpa using e
        clear e39 HB6 HZ6 HM6 HR6 HTT6
        rcases h39 with b39 | ⟨b39, hmi⟩
        all_goals (
          obtain ⟨W5, hW5⟩ : ∃ W5, W5 = set4B w6 w.heap.size (.slice a6 n6 c6) (.slice ma6 mn6 mc6) (.int .i64 mk.seq) (.int .i64 mk.o) := ⟨_, rfl⟩
          have hY := (unhide HZf).store a6 n6 c6 ma6 mn6 mc6 mk.seq mk.o
          have hF := (unhide HMf).stored (unhide HZf) (OffRow.above (unhide HMf).mine (Nat.lt_succ_self _)) (.slice a6 n6 c6) (.slice ma6 mn6 mc6) (.int .i64 mk.seq) (.int .i64 mk.o)
          have hRf := (unhide HRf).past (set4B_below (Below.refl w.heap.size w6) (Nat.le_refl _) (.slice a6 n6 c6) (.slice ma6 mn6 mc6) (.int .i64 mk.seq) (.int .i64 mk.o)) hrl
          have hTf := (unhide HTf).past (set4B_below (Below.refl w.heap.size w6) (Nat.le_refl _) (.slice a6 n6 c6) (.slice ma6 mn6 mc6) (.int .i64 mk.seq) (.int .i64 mk.o)) (Nat.le_refl _)
          rw [← hW5] at hY hF hRf hTf
          obtain ⟨x0, x1, x2, x3⟩ := (unhide HBf).cells
          obtain ⟨z0, z1, z2, z3⟩ := (unhide HZf).cells
          obtain ⟨f0, f1, f2, f3⟩ := (unhide HZf).free
          obtain ⟨v0, v1, v2, v3⟩ := hY.cells
          have HF := hide hF
          have HRF := hide hRf
          have HTF := hide hTf
          clear hY hF hRf hTf
          unfold set4B at hW5
          go_wp2
          try rw [← hW5]
          exact bodyPost_ret (v := .agg #[.slice a6 n6 c6, .slice ma6 mn6 mc6, .int .i64 mk.seq, .int .i64 mk.o]) (by simp [results, Tryz.results13, go_sem, v0, v1, v2, v3]) rfl ⟨a6, n6, c6, ma6, mn6, mc6, mk, rfl, (unhide HF).lower (by omega), unhide HSf, unhide HRF, unhide HTF⟩
          )
end Go.Proofs.YtjgcjeaplckbbaaGreat

/- What is read of a log: in plain words, and the model's l2Page and PageAt. -/
namespace Go.Proofs.YtjgcjeaplckbbaaGreat
open Go.RowKit
set_option linter.unusedVariables false
set_option linter.unusedSimpArgs false

def zeros4 : ByteArray := ⟨#[0, 0, 0, 0]⟩
/-- What stands at a place. -/
def pageOf (bs : List Bk) (x : Int) : Pg := pagesF ((bs[(x / 4).toNat]?.map (·.pages)).getD []) (x % 4).toNat
def dataOf (bs : List Bk) (x : Int) : ByteArray := if x < 0 then zeros4 else (pageOf bs x).data
theorem pageOf_at {bs : List Bk} {x : Int} {b k : Nat} {y : Bk} {p : Pg} (hb : x / 4 = (b : Int)) (hk : x % 4 = (k : Int)) (hy : bs[b]? = some y) (hp : y.pages[k]? = some p) : pageOf bs x = p := by
  unfold pageOf
  rw [hb, hk]
  simp [hy, pagesF, hp]
theorem dataOf_at {bs : List Bk} {x : Int} {b k : Nat} {y : Bk} {p : Pg} (h0 : 0 ≤ x) (hb : x / 4 = (b : Int)) (hk : x % 4 = (k : Int)) (hy : bs[b]? = some y) (hp : y.pages[k]? = some p) : dataOf bs x = p.data := by
  unfold dataOf
  rw [if_neg (by omega), pageOf_at hb hk hy hp]
theorem dataOf_none {bs : List Bk} {x : Int} (h : x < 0) : dataOf bs x = zeros4 := if_pos h
/-- What PageAt answers. -/
def PageIs (bs : List Bk) (L : List Int) (seq o lg : Int) (d : ByteArray) (r : Bool) : Prop :=
  ((FtlOk bs L seq o ∧ 0 ≤ lg ∧ lg ≤ (L.length : Int) - 1) ∧ r = true ∧ ∃ x, L[lg.toNat]? = some x ∧ d = dataOf bs x) ∨ (¬ (FtlOk bs L seq o ∧ 0 ≤ lg ∧ lg ≤ (L.length : Int) - 1) ∧ r = false ∧ d = ByteArray.empty)
theorem PageIs.one {bs : List Bk} {L : List Int} {seq o lg : Int} {d e : ByteArray} {r s : Bool} (h : PageIs bs L seq o lg d r) (k : PageIs bs L seq o lg e s) : d = e ∧ r = s := by
  rcases h with ⟨h1, rfl, x, hx, rfl⟩ | ⟨h1, rfl, rfl⟩
  · rcases k with ⟨_, rfl, y, hy, rfl⟩ | ⟨k1, _⟩
    · rw [hx] at hy; cases hy; exact ⟨rfl, rfl⟩
    · exact absurd h1 k1
  · rcases k with ⟨k1, _⟩ | ⟨_, rfl, rfl⟩
    · exact absurd k1 h1
    · exact ⟨rfl, rfl⟩

/-- The page at a place that the map of a right member names. -/
theorem FtlOk.placed {bs : List Bk} {L : List Int} {seq o : Int} (h : FtlOk bs L seq o) {x : Int} (hx : x ∈ L) (h0 : 0 ≤ x) : ∃ (b k : Nat) (y : Bk) (p : Pg), x / 4 = (b : Int) ∧ x % 4 = (k : Int) ∧ b < bs.length ∧ k < 4 ∧ bs[b]? = some y ∧ y.pages[k]? = some p := by
  have hp := h.places x hx
  have hc := h.chip.count
  obtain ⟨y, hy⟩ := getElem?_ex (l := bs) (k := (x / 4).toNat) (by omega)
  have h4 := (h.chip.block y (List.mem_of_getElem? hy)).four
  obtain ⟨p, hp'⟩ := getElem?_ex (l := y.pages) (k := (x % 4).toNat) (by omega)
  exact ⟨(x / 4).toNat, (x % 4).toNat, y, p, by omega, by omega, by omega, by omega, hy, hp'⟩

theorem infoByteP : (Tryz.prog.info? 5).map (fun i => (i.zero, i.size, i.bytes)) = some (some (.int .u8 0), 1, 1) := by kernel_rfl
theorem make_bytes4P (w : World) : (Instr.makeSlice 22 (.int .i64 4) (.int .i64 4)).run Tryz.prog w = .ok (.slice (some ⟨w.heap.size, 0, none⟩) 4 4) (w.alloc (.cells #[.int .u8 0, .int .u8 0, .int .u8 0, .int .u8 0] 5)) := by
  obtain ⟨i, hi, hz⟩ := Option.map_eq_some_iff.1 infoByteP
  simp only [Prod.mk.injEq] at hz
  obtain ⟨hz0, hz1, hz2⟩ := hz
  have h := run_make (P := Tryz.prog) w 22 5 i _ Tryz.underlying22 hi hz0 .i64 .i64 4 4 (by omega) (Int.le_refl _) (by rw [hz2]; omega) (by omega)
  rw [hz1] at h
  have e : madeCells (Value.int .u8 0).cells (4 * 1) = #[.int .u8 0, .int .u8 0, .int .u8 0, .int .u8 0] := by kernel_rfl
  simpa [e] using h
theorem bytes4_string (w : World) : (convert 22 9 (.slice (some ⟨w.heap.size, 0, none⟩) 4 4)).run Tryz.prog (w.alloc (.cells #[.int .u8 0, .int .u8 0, .int .u8 0, .int .u8 0] 5)) = .ok (.string zeros4) (w.alloc (.cells #[.int .u8 0, .int .u8 0, .int .u8 0, .int .u8 0] 5)) := by
  have h := run_convert_bytes_back (P := Tryz.prog) (w.alloc (.cells #[.int .u8 0, .int .u8 0, .int .u8 0, .int .u8 0] 5)) 22 9 5 ⟨w.heap.size, 0, none⟩ 4 [0, 0, 0, 0] Tryz.underlying22 Tryz.underlying5 Tryz.underlying9 (fun j hj => by
    rw [Go.WideShapes.add_plain, Nat.zero_add, World.cell?_alloc_mark]
    have h4 : j = 0 ∨ j = 1 ∨ j = 2 ∨ j = 3 := by simp at hj; omega
    rcases h4 with rfl | rfl | rfl | rfl <;> rfl)
  exact h


end Go.Proofs.YtjgcjeaplckbbaaGreat

/- The newest pages of a chip, told as a set; what programming and erasing do to them. No program is named here. -/
namespace Go.Proofs.YtjgcjeaplckbbaaGreat
open Go.RowKit
set_option linter.unusedVariables false
set_option linter.unusedSimpArgs false

theorem usedOf_iff {bs : List Bk} (h : ChipOk bs) {x : Int × Pg} : x ∈ usedOf bs ↔ ∃ (b k : Nat) (y : Bk), bs[b]? = some y ∧ y.pages[k]? = some x.2 ∧ k < 4 ∧ x.1 = (b : Int) * 4 + (k : Int) ∧ x.2.used = true := by
  constructor
  · intro hx
    exact (h.usedRight hx).2.2.2.2.2
  · rintro ⟨b, k, y, hy, hp, hk, e, hu⟩
    have := mem_usedOf hy hp hk hu
    rw [← e] at this
    exact this
theorem ccBs_mOf {bs : List Bk} (h : ChipOk bs) : ccBs (mOf bs) bs.length = bs := by
  refine List.ext_getElem? (fun i => ?_)
  by_cases hi : i < bs.length
  · rw [ccBs_at _ hi]
    obtain ⟨y, hy⟩ := getElem?_ex (l := bs) (k := i) hi
    rw [hy]
    have h4 := (h.block y (List.mem_of_getElem? hy)).four
    obtain ⟨yw, ps⟩ := y
    match ps, h4 with
    | [p0, p1, p2, p3], _ =>
      have e0 := mOf_page hy (k := 0) (p := p0) rfl
      have e1 := mOf_page hy (k := 1) (p := p1) rfl
      have e2 := mOf_page hy (k := 2) (p := p2) rfl
      have e3 := mOf_page hy (k := 3) (p := p3) rfl
      unfold ccPs
      rw [e0, e1, e2, e3]
      simp [mOf, hy]
  · rw [List.getElem?_eq_none (by rw [ccBs_length]; omega), List.getElem?_eq_none (by omega)]
theorem usedOf_distinct {bs : List Bk} (h : ChipOk bs) {y z : Int × Pg} (hy : y ∈ usedOf bs) (hz : z ∈ usedOf bs) (e : y.2.seq = z.2.seq) : y = z := by
  have hn : (usedSeqs (usedOf bs)).Nodup := by
    unfold usedOf
    rw [usedSeqs_all, ccBs_mOf h]
    exact h.nodup
  unfold usedSeqs at hn
  obtain ⟨i, hi, rfl⟩ := List.getElem_of_mem hy
  obtain ⟨j, hj, rfl⟩ := List.getElem_of_mem hz
  have hp := List.pairwise_iff_getElem.1 (List.pairwise_map.1 hn)
  rcases Nat.lt_trichotomy i j with hlt | rfl | hlt
  · exact absurd e (hp i j hi hj hlt)
  · rfl
  · exact absurd e.symm (hp j i hj hi hlt)

/-- The newest page of a log is none, or the one of the greatest number. -/
theorem newestAt_is (log : Int) (xs : List (Int × Pg)) : (newestAt xs log = none ∧ ∀ z ∈ xs, z.2.log ≠ log) ∨ ∃ y, newestAt xs log = some y ∧ y ∈ xs ∧ y.2.log = log ∧ ∀ z ∈ xs, z.2.log = log → z.2.seq ≤ y.2.seq := by
  suffices H : ∀ n (xs : List (Int × Pg)), xs.length = n → ((newestAt xs log = none ∧ ∀ z ∈ xs, z.2.log ≠ log) ∨ ∃ y, newestAt xs log = some y ∧ y ∈ xs ∧ y.2.log = log ∧ ∀ z ∈ xs, z.2.log = log → z.2.seq ≤ y.2.seq) from H _ xs rfl
  intro n
  induction n with
  | zero =>
    intro xs hl
    have : xs = [] := List.length_eq_zero_iff.1 hl
    subst this
    exact .inl ⟨rfl, fun z hz => by simp at hz⟩
  | succ n ih =>
    intro xs hl
    obtain ⟨ys, x, rfl⟩ : ∃ ys x, xs = ys ++ [x] := ⟨xs.dropLast, xs.getLast (by intro e; subst e; cases hl), (List.dropLast_concat_getLast _).symm⟩
    rw [newestAt_snoc]
    unfold pick
    have hm : ∀ z, z ∈ ys ++ [x] ↔ z ∈ ys ∨ z = x := fun z => by simp
    rcases ih ys (by simpa using hl) with ⟨h1, h2⟩ | ⟨y, h1, h2, h3, h4⟩
    · by_cases hx : x.2.log = log
      · rw [if_pos ⟨hx, by rw [h1]; rfl⟩]
        refine .inr ⟨x, rfl, (hm x).2 (.inr rfl), hx, fun z hz hzl => ?_⟩
        rcases (hm z).1 hz with hz | rfl
        · exact absurd hzl (h2 z hz)
        · exact Int.le_refl _
      · rw [if_neg (fun h => hx h.1)]
        refine .inl ⟨h1, fun z hz => ?_⟩
        rcases (hm z).1 hz with hz | rfl
        · exact h2 z hz
        · exact hx
    · by_cases hx : x.2.log = log ∧ y.2.seq < x.2.seq
      · rw [if_pos ⟨hx.1, by rw [h1]; simpa [newer] using hx.2⟩]
        refine .inr ⟨x, rfl, (hm x).2 (.inr rfl), hx.1, fun z hz hzl => ?_⟩
        rcases (hm z).1 hz with hz | rfl
        · have := h4 z hz hzl; omega
        · exact Int.le_refl _
      · rw [if_neg (fun h => hx ⟨h.1, by have := h.2; rw [h1] at this; simpa [newer] using this⟩)]
        refine .inr ⟨y, h1, (hm y).2 (.inl h2), h3, fun z hz hzl => ?_⟩
        rcases (hm z).1 hz with hz | rfl
        · exact h4 z hz hzl
        · have : ¬ y.2.seq < z.2.seq := fun h => hx ⟨hzl, h⟩
          omega
theorem newestAt_of {bs : List Bk} (h : ChipOk bs) {log : Int} {y : Int × Pg} (hy : y ∈ usedOf bs) (hl : y.2.log = log) (hm : ∀ z ∈ usedOf bs, z.2.log = log → z.2.seq ≤ y.2.seq) : newestAt (usedOf bs) log = some y := by
  rcases newestAt_is log (usedOf bs) with ⟨_, h2⟩ | ⟨z, h1, h2, h3, h4⟩
  · exact absurd hl (h2 y hy)
  · have e1 := hm z h2 h3
    have e2 := h4 y hy hl
    rw [h1, usedOf_distinct h h2 hy (by omega)]
theorem newestAt_no {xs : List (Int × Pg)} {log : Int} (h : ∀ z ∈ xs, z.2.log ≠ log) : newestAt xs log = none := by
  rcases newestAt_is log xs with ⟨h1, _⟩ | ⟨y, _, h2, h3, _⟩
  · exact h1
  · exact absurd h3 (h y h2)
/-- A page more, newer than all. -/
theorem newest_more {bs bs' : List Bk} (h' : ChipOk bs') (h : ChipOk bs) {q : Int × Pg} (hm : ∀ x, x ∈ usedOf bs' ↔ x ∈ usedOf bs ∨ x = q) (hs : ∀ x ∈ usedOf bs, x.2.seq < q.2.seq) (log : Int) :
    newestAt (usedOf bs') log = if q.2.log = log then some q else newestAt (usedOf bs) log := by
  by_cases hq : q.2.log = log
  · rw [if_pos hq]
    refine newestAt_of h' ((hm q).2 (.inr rfl)) hq (fun z hz hzl => ?_)
    rcases (hm z).1 hz with hz | rfl
    · have := hs z hz; omega
    · exact Int.le_refl _
  · rw [if_neg hq]
    rcases newestAt_is log (usedOf bs) with ⟨h1, h2⟩ | ⟨y, h1, h2, h3, h4⟩
    · rw [h1]
      refine newestAt_no (fun z hz => ?_)
      rcases (hm z).1 hz with hz | rfl
      · exact h2 z hz
      · exact hq
    · rw [h1]
      refine newestAt_of h' ((hm y).2 (.inl h2)) h3 (fun z hz hzl => ?_)
      rcases (hm z).1 hz with hz | rfl
      · exact h4 z hz hzl
      · exact absurd hzl hq
/-- Pages less, none of which is the newest of this log. -/
theorem newest_less {bs bs' : List Bk} (h' : ChipOk bs') (h : ChipOk bs) {P : Int × Pg → Prop} (hm : ∀ x, x ∈ usedOf bs' ↔ x ∈ usedOf bs ∧ ¬ P x) {log : Int} (hno : ∀ y, newestAt (usedOf bs) log = some y → ¬ P y) :
    newestAt (usedOf bs') log = newestAt (usedOf bs) log := by
  rcases newestAt_is log (usedOf bs) with ⟨h1, h2⟩ | ⟨y, h1, h2, h3, h4⟩
  · rw [h1]
    exact newestAt_no (fun z hz => h2 z ((hm z).1 hz).1)
  · rw [h1]
    exact newestAt_of h' ((hm y).2 ⟨h2, hno y h1⟩) h3 (fun z hz hzl => h4 z ((hm z).1 hz).1 hzl)

/-- The pages of a chip behind one that was programmed. -/
theorem used_prog {bs : List Bk} {f : Nat} {wf : Int} {ps : List Pg} {p : Pg} (h : ChipOk bs) (h' : ChipOk (bs.set f ⟨wf, padded (ps ++ [p])⟩)) (hx : bs[f]? = some ⟨wf, padded ps⟩) (hlt : ps.length < 4) (hp : p.used = true) (x : Int × Pg) :
    x ∈ usedOf (bs.set f ⟨wf, padded (ps ++ [p])⟩) ↔ x ∈ usedOf bs ∨ x = ((f : Int) * 4 + (ps.length : Int), p) := by
  have hf := (List.getElem?_eq_some_iff.1 hx).1
  rw [usedOf_iff h', usedOf_iff h]
  constructor
  · rintro ⟨b, k, y, hy, hk, h4, e, hu⟩
    by_cases hb : b = f
    · subst hb
      rw [List.getElem?_set_self hf] at hy
      cases hy
      have hk : (padded (ps ++ [p]))[k]? = some x.2 := hk
      rcases Nat.lt_trichotomy k ps.length with hlk | rfl | hgk
      · rw [padded_at (by simp; omega), List.getElem?_append_left hlk] at hk
        exact .inl ⟨b, k, _, hx, by show (padded ps)[k]? = _; rw [padded_at hlk]; exact hk, h4, e, hu⟩
      · rw [padded_at (by simp), List.getElem?_append_right (Nat.le_refl _)] at hk
        simp at hk
        refine .inr (Prod.ext e hk.symm)
      · rw [padded_rest (by simp; omega) h4] at hk
        injection hk with hk
        rw [← hk] at hu
        cases hu
    · rw [List.getElem?_set_ne (fun h => hb h.symm)] at hy
      exact .inl ⟨b, k, y, hy, hk, h4, e, hu⟩
  · rintro (⟨b, k, y, hy, hk, h4, e, hu⟩ | rfl)
    · by_cases hb : b = f
      · subst hb
        rw [hx] at hy
        cases hy
        have hk : (padded ps)[k]? = some x.2 := hk
        by_cases hlk : k < ps.length
        · rw [padded_at hlk] at hk
          refine ⟨b, k, _, List.getElem?_set_self hf, ?_, h4, e, hu⟩
          show (padded (ps ++ [p]))[k]? = _
          rw [padded_at (by simp; omega), List.getElem?_append_left hlk]
          exact hk
        · rw [padded_rest (by omega) h4] at hk
          injection hk with hk
          rw [← hk] at hu
          cases hu
      · exact ⟨b, k, y, by rw [List.getElem?_set_ne (fun h => hb h.symm)]; exact hy, hk, h4, e, hu⟩
    · refine ⟨f, ps.length, _, List.getElem?_set_self hf, ?_, hlt, rfl, hp⟩
      show (padded (ps ++ [p]))[ps.length]? = _
      rw [padded_at (by simp), List.getElem?_append_right (Nat.le_refl _)]
      simp
/-- The pages of a chip behind a block that was erased. -/
theorem used_erase {bs : List Bk} {v : Nat} {wv : Int} (h : ChipOk bs) (h' : ChipOk (bs.set v ⟨wv, zeroBk.pages⟩)) (hv : v < bs.length) (x : Int × Pg) :
    x ∈ usedOf (bs.set v ⟨wv, zeroBk.pages⟩) ↔ x ∈ usedOf bs ∧ ¬ x.1 / 4 = (v : Int) := by
  rw [usedOf_iff h', usedOf_iff h]
  constructor
  · rintro ⟨b, k, y, hy, hk, h4, e, hu⟩
    by_cases hb : b = v
    · subst hb
      rw [List.getElem?_set_self hv] at hy
      cases hy
      have hm := List.mem_of_getElem? hk
      simp [zeroBk] at hm
      rw [hm] at hu
      cases hu
    · rw [List.getElem?_set_ne (fun h => hb h.symm)] at hy
      exact ⟨⟨b, k, y, hy, hk, h4, e, hu⟩, by omega⟩
  · rintro ⟨⟨b, k, y, hy, hk, h4, e, hu⟩, hne⟩
    have hb : ¬ b = v := fun hb => hne (by subst hb; omega)
    exact ⟨b, k, y, by rw [List.getElem?_set_ne (fun h => hb h.symm)]; exact hy, hk, h4, e, hu⟩
theorem topOf_le {xs : List (Int × Pg)} {B : Int} (h : ∀ x ∈ xs, x.2.seq ≤ B) (h0 : 0 ≤ B) : (topOf xs).1 ≤ B := by
  suffices H : ∀ (xs : List (Int × Pg)) (c : Int × Int), c.1 ≤ B → (∀ x ∈ xs, x.2.seq ≤ B) → (xs.foldl topStep c).1 ≤ B from H xs (0, 0) h0 h
  intro xs
  induction xs with
  | nil => intro c hc _; exact hc
  | cons y ys ih =>
    intro c hc hx
    simp only [List.foldl_cons]
    refine ih _ ?_ (fun x hx2 => hx x (by simp [hx2]))
    unfold topStep
    split
    · exact hx y (by simp)
    · exact hc
/-- What is read of a log. -/
def readOf (bs : List Bk) (log : Int) : ByteArray := ((newestAt (usedOf bs) log).map (·.2.data)).getD zeros4
theorem readOf_map {bs : List Bk} (h : ChipOk bs) {i : Nat} (hi : i < roomOf bs) {x : Int} (hx : (placesOf (usedOf bs) (roomOf bs))[i]? = some x) : dataOf bs x = readOf bs (i : Int) := by
  rw [placesOf_at _ _ hi] at hx
  cases hx
  unfold readOf
  cases e : newestAt (usedOf bs) (i : Int) with
  | none => simp [placeIn, dataOf]
  | some y =>
    obtain ⟨hm, hlg⟩ := newestAt_mem e
    obtain ⟨b, k, z, hz, hp, hk, ey, hu⟩ := (usedOf_iff h).1 hm
    simp only [placeIn, Option.map_some, Option.getD_some]
    exact dataOf_at (b := b) (k := k) (by omega) (by omega) (by omega) hz hp
theorem FtlOk.read {bs : List Bk} {L : List Int} {seq o : Int} (h : FtlOk bs L seq o) {i : Nat} {x : Int} (hx : L[i]? = some x) : dataOf bs x = readOf bs (i : Int) := by
  have hi := (List.getElem?_eq_some_iff.1 hx).1
  rw [h.map] at hx
  refine readOf_map h.chip ?_ hx
  have := h.map
  rw [this, placesOf_length] at hi
  exact hi
end Go.Proofs.YtjgcjeaplckbbaaGreat
