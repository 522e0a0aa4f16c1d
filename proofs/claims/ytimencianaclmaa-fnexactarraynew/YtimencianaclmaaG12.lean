/- 4 texts in one. -/
import Derived.Test.YtimencianaclmaaG06
import Derived.Test.YtimencianaclmaaG11
import Derived.WalkKit
import Derived.Outline
import Derived.Test.YtimencianaclmaaG07
import Derived.Test.YtimencianaclmaaG04
import Derived.Test.YtimencianaclmaaG05
import Derived.Test.YtimencianaclmaaG02
import Derived.Test.YtimencianaclmaaG10

/- The program's FreeOf. -/
namespace Go.Proofs.Ytimencianaclmaa
open Go.RowKit
set_option linter.unusedVariables false
set_option linter.unusedSimpArgs false

theorem infoInt64I : (Try.prog.info? 2).map (fun i => (i.zero, i.size, i.bytes)) = some (some (.int .i64 0), 1, 8) := by kernel_rfl

set_option maxRecDepth 100000 in
set_option maxHeartbeats 1000000 in
theorem free_any (x : Int) (f : Nat → Pg) (w : World) :
    Calls Try.prog 137 #[.agg (bcA x f)] w fun e w' => e = .returned (.bool (!(f 0).used)) ∧ Below w.heap.size w w' := by
  have hb0 : ∀ o, Below w.heap.size w (w.alloc o) := fun o => (Below.refl _ w).alloc (Nat.le_refl _) _
  go_enter Try.func137, Try.ntmps137
  go_wp2_with (refine wpList_load_row rfl 106 _ rfl w.heap.size rfl 106 (bcA x f) (0, 0) _ (Go.Deep.blk_alloc_new _ _) Try.underlying106 rfl (by rw [bcA_size]; exact sizeBC) ?_)
  refine (next_any x f _).mono ?_
  rintro e w1 ⟨r, rfl, hr, hB⟩
  have hd : (r == 0) = !(f 0).used := by
    rcases hr with ⟨k, hk, rfl, h1, h2⟩ | ⟨rfl, h1⟩
    · cases k with
      | zero => simp only at h1; simp [h1]
      | succ k => have := h2 0 (by omega); simp only at this; simp [this]; omega
    · have := h1 0 (by omega); simp only at this; simp [this]
  have HD := hide hd
  clear hr hd
  generalize bcA x f = A at *
  go_wp2
  go_ret
  exact ⟨by rw [← unhide HD]; simp, (hb0 _).trans (hB.mono (by simp))⟩

set_option maxRecDepth 100000 in
set_option maxHeartbeats 1000000 in
theorem freeBlocks_any (A : Array Value) (m : CC) (n : Nat) (hA0 : A[0]? = some (.int .i64 (n : Int))) (hAb : ∀ b i, b < 12 → i < 17 → A[1 + b * 17 + i]? = (bcA (m.wear b) (m.page b))[i]?) (hn : n ≤ 12) (w : World) :
    Calls Try.prog 81 #[.agg A] w fun e w' => ∃ v, e = .returned v ∧ OwnInts w' 2 (w.heap.size + 1) v (freeTo (ccBs m n) n) ∧ Below w.heap.size w w' := by
  have HAB := hide hAb
  clear hAb
  go_enter Try.func81, Try.ntmps81
  go_wp2
  go_loopw [3, 7] (fun v i wr => ∃ k : Nat, k ≤ n ∧ i = .int .i64 k ∧ OwnInts wr 2 (w.heap.size + 1) v (freeTo (ccBs m n) k) ∧ Below (w.heap.size + 1) (w.alloc (.cells A 109)) wr) (fun _ i _ => n - (intOf i).toNat)
  case atStart =>
    refine ⟨0, Nat.zero_le _, rfl, ?_, Below.refl _ _⟩
    have := World.ownsRow_nil (w.alloc (.cells A 109)) (w.heap.size + 1) 2 1
    simpa [OwnInts, ints, freeTo] using this
  case round =>
    obtain ⟨k, hk, rfl, hO, hB⟩ := hrel
    have hsz := hB.size
    simp at hsz
    by_cases hlt : k < n
    · have hblk : ∀ j, j < 17 → wr.cell? ⟨w.heap.size, 1 + k * 17 + j, none⟩ = (bcA (m.wear k) (m.page k))[j]? := fun j hj => by
        rw [hB.cell (p := ⟨w.heap.size, 1 + k * 17 + j, none⟩) (by simp), cell_of_row _ _ _ _ _ _ (Go.Deep.blk_alloc_new _ _)]
        exact unhide HAB k j (by omega) hj
      have HB := hide hblk
      have hki : (k : Int) < 12 := by omega
      have hbg : begun (ccBs m n) k = (m.page k 0).used := by
        have e0 : pagesF (ccPs m k) 0 = m.page k 0 := rfl
        simp [begun, ccBs_at m hlt, pu, e0]
      have hst := freeTo_succ (ccBs m n) k
      have hln := freeTo_length (ccBs m n) k
      rw [hbg] at hst
      have HO := hide hO
      have HS := hide hst
      clear hO hst hbg hblk hA0
      go_wp2_with (refine wpList_load_mid rfl 106 _ rfl w.heap.size (1 + k * 17) rfl (bcA (m.wear k) (m.page k)) 17 (bcA_size _ _) (unhide HB) _ Try.underlying106 rfl sizeBC ?_)
      refine (free_any _ _ _).mono ?_
      rintro e w2 ⟨rfl, hB2⟩
      have hs2 := hB2.size
      have hBB : Below (w.heap.size + 1) (w.alloc (.cells A 109)) w2 := hB.trans (hB2.mono (by omega))
      have HO2 := hide ((unhide HO).kept hB2)
      have HS2 := HS
      clear HB HS HO hB2 hB
      generalize bcA (m.wear k) (m.page k) = A2 at *
      cases hu : (m.page k 0).used with
      | true =>
        rw [hu] at HS2
        clear hu
        simp only [Bool.not_true]
        go_wp2
        go_roundw
        case rel =>
          refine ⟨k + 1, by omega, by go_num, ?_, hBB⟩
          rw [unhide HS2]
          simpa using unhide HO2
        case measure => simp [intOf]; omega
      | false =>
        rw [hu] at HS2
        clear hu
        simp only [Bool.not_false]
        obtain ⟨i0, hi, hz0, hz1, hz2⟩ := info_parts infoInt64I
        obtain ⟨X, hX⟩ : ∃ X, X = ints (freeTo (ccBs m n) k) := ⟨_, rfl⟩
        obtain ⟨q, hm⟩ : ∃ q, q = (freeTo (ccBs m n) k).length := ⟨_, rfl⟩
        have hR : w2.ownsRow (w.heap.size + 1) 2 1 u3 q X := by rw [hX, hm]; exact unhide HO2
        rw [← hm] at hln
        have HX := hide (And.intro hX hm)
        clear hX hm
        go_wp2_with (refine wpList_append_lies _ rfl (.tmp 15) (.tmp 17) 41 rfl (w.heap.size + 1) 2 i0 _ 1 8 Try.underlying41 hi hz0 hz1 hz2 rfl (by decide) u3 q X (by simp [Act.eval]) (by exact hR.alloc _) ⟨w2.heap.size, 0, none⟩ 1 1 [.int .i64 (k : Int)] (by simp [Act.eval]) rfl (World.news_of_block (cs := #[.int .i64 (k : Int)]) (t := 2) (fr := (0, 0)) (by exact Go.Deep.blk_alloc_new _ _)) (by simp [Value.oneCell']) (by omega) (by unfold maxLen; omega) (by omega) (by simp; omega) (w2.heap.size + 1) (by simp) ?_; intro g1 cap w3 hown hgrow hat hlt1)
        go_roundw
        case rel =>
          refine ⟨k + 1, by omega, by go_num, ?_, ?_⟩
          · rw [unhide HS2]
            obtain ⟨e1, e2⟩ := unhide HX
            rw [e1, e2] at hown
            rw [e2]
            simpa [OwnInts, ints] using hown
          · refine Below.grown (hBB.alloc (by omega) _) hgrow (by simp; omega) (fun j e => ?_)
            exact (hR.lt j e).1
        case measure => simp [intOf]; omega
    · have hk' : k = n := by omega
      subst hk'
      have HO := hide hO
      clear hO
      go_wp2
      go_ret
      exact ⟨_, rfl, unhide HO, ((Below.refl _ w).alloc (Nat.le_refl _) _).trans (hB.mono (by omega))⟩

set_option maxRecDepth 100000 in
set_option maxHeartbeats 1000000 in
theorem implFreeOf_any (a : Option Addr) (c : Nat) (bs : List Bk) (n : Nat) (hl : bs.length = n) (w : World) (h : BlocksAt w a bs) (hn : Lens 9223372036854775807 bs) :
    Calls Try.prog 23 #[.agg #[.slice a n c]] w fun e w' => ∃ v L, e = .returned v ∧ FreeIs bs L ∧ OwnInts w' 2 w.heap.size v L ∧ Below w.heap.size w w' := by
  subst hl
  have hb0 : ∀ o, Below w.heap.size w (w.alloc o) := fun o => (Below.refl _ w).alloc (Nat.le_refl _) _
  go_enter Try.func23, Try.ntmps23
  go_wp2_with fail
  refine (cellsOf_any a c bs _ (h.below (hb0 _) (Nat.le_refl _)) hn).mono ?_
  rintro e w1 ⟨⟨m, r, rfl, hr, hm⟩, hB1⟩
  have hW1 : Below w.heap.size w w1 := (hb0 _).trans (hB1.mono (by simp))
  have hs1 := hB1.size
  simp at hs1
  have hsc := store_cc m w1
  have hAs := ccA_size m
  have hA0 := ccA_count m
  have hAb := fun b i hb hi => ccA_block m (b := b) (i := i) hb hi
  have HSZ := hide (sizeCC m)
  have HR := hide hr
  have HM := hide hm
  generalize ccA m = A at hsc hAs hA0 hAb HSZ
  have HA0 := hide hA0
  have HAB := hide hAb
  clear hr hm hA0 hAb h hn hB1 hb0
  cases r with
  | false =>
    go_wp2
    go_ret
    refine ⟨_, [], rfl, .inr ⟨(fun hc => by have := (unhide HR).2 hc; cases this), rfl⟩, ?_, hW1.alloc hW1.size _⟩
    exact World.ownsRow_nil _ _ _ _
  | true =>
    have hok := (unhide HR).1 rfl
    have hc12 := hok.count
    obtain ⟨hct, hbss⟩ := unhide HM rfl
    have HO := hide hok
    have HS := hide hbss
    have hA0 := unhide HA0
    rw [hct] at hA0
    have HA0' := hide hA0
    clear hok hbss hA0 HA0 HM
    go_wp2_with fail
    refine wp_load_row 109 _ rfl w1.heap.size rfl 109 A (0, 0) _ (Go.Deep.blk_alloc_new _ _) Try.underlying109 rfl (unhide HSZ) ?_
    clear hsc
    go_wp2_with fail
    refine (freeBlocks_any A m bs.length (unhide HA0') (unhide HAB) (by omega) _).mono ?_
    rintro e w2 ⟨v, rfl, hv, hB2⟩
    have HV := hide hv
    have hW2 : Below w.heap.size w w2 := (hW1.alloc hW1.size _).trans (hB2.mono (by simp; omega))
    clear hv hB2
    go_wp2
    go_ret
    refine ⟨_, freeTo bs bs.length, rfl, .inl ⟨unhide HO, rfl⟩, ?_, hW2⟩
    have hV := unhide HV
    rw [unhide HS] at hV
    obtain ⟨q1, q2⟩ := hV
    refine ⟨q1, ?_⟩
    rcases q2 with q | ⟨g, cap, cur, e1, e2, e3⟩
    · exact .inl q
    · exact .inr ⟨g, cap, cur, e1, by have := hW1.size; simp at e2; omega, e3⟩
end Go.Proofs.Ytimencianaclmaa

/- MapOf, the model's and the program's. -/
namespace Go.Proofs.Ytimencianaclmaa
open Go.RowKit
set_option linter.unusedVariables false
set_option linter.unusedSimpArgs false

/-- What MapOf answers. -/
def MapOfIs (bs : List Bk) (r : Bool) (L : List Int) : Prop := (ChipOk bs ∧ MapIs bs r L) ∨ (¬ ChipOk bs ∧ r = false ∧ L = [])
theorem MapOfIs.one {bs : List Bk} {r s : Bool} {L M : List Int} (h : MapOfIs bs r L) (k : MapOfIs bs s M) : r = s ∧ L = M := by
  rcases h with ⟨h1, h2⟩ | ⟨h1, rfl, rfl⟩
  · rcases k with ⟨_, k2⟩ | ⟨k1, _⟩
    · exact h2.one k2
    · exact absurd h1 k1
  · rcases k with ⟨k1, _⟩ | ⟨_, rfl, rfl⟩
    · exact absurd k1 h1
    · exact ⟨rfl, rfl⟩
theorem MapOfIs.length {bs : List Bk} {r : Bool} {L : List Int} (h : MapOfIs bs r L) : L.length ≤ 36 := by
  rcases h with ⟨h1, h2⟩ | ⟨_, _, rfl⟩
  · exact h2.length h1.count.2
  · simp
def MapOfRet (bs : List Bk) (t : TypeId) (B : Nat) (e : Ending) (w' : World) : Prop := ∃ (v : Value) (r : Bool) (L : List Int), e = .returned (.tuple #[v, .bool r]) ∧ MapOfIs bs r L ∧ OwnInts w' t B v L


set_option maxRecDepth 100000 in
set_option maxHeartbeats 1000000 in
theorem implMapOf_any (a : Option Addr) (c : Nat) (bs : List Bk) (n : Nat) (hl : bs.length = n) (w : World) (h : BlocksAt w a bs) (hn : Lens 9223372036854775807 bs) :
    Calls Try.prog 39 #[.agg #[.slice a n c]] w fun e w' => MapOfRet bs 2 w.heap.size e w' ∧ Below w.heap.size w w' := by
  subst hl
  have hb0 : ∀ o, Below w.heap.size w (w.alloc o) := fun o => (Below.refl _ w).alloc (Nat.le_refl _) _
  go_enter Try.func39, Try.ntmps39
  go_wp2_with fail
  refine (cellsOf_any a c bs _ (h.below (hb0 _) (Nat.le_refl _)) hn).mono ?_
  rintro e w1 ⟨⟨m, r, rfl, hr, hm⟩, hB1⟩
  have hW1 : Below w.heap.size w w1 := (hb0 _).trans (hB1.mono (by simp))
  have hs1 := hB1.size
  simp at hs1
  have hsc := store_cc m w1
  have hAs := ccA_size m
  have HSZ := hide (sizeCC m)
  have HR := hide hr
  have HM := hide hm
  obtain ⟨A, hA⟩ : ∃ A, A = ccA m := ⟨_, rfl⟩
  rw [← hA] at hsc hAs HSZ ⊢
  have HAE := hide hA
  clear hr hm h hn hB1 hb0 hA
  cases r with
  | false =>
    go_wp2
    go_ret2
    exact ⟨⟨_, false, [], rfl, .inr ⟨(fun hc => by have := (unhide HR).2 hc; cases this), rfl, rfl⟩, World.ownsRow_nil _ _ _ _⟩, hW1.alloc hW1.size _⟩
  | true =>
    have hok := (unhide HR).1 rfl
    have hc12 := hok.count
    obtain ⟨hct, hbss⟩ := unhide HM rfl
    have HO := hide hok
    have HS := hide hbss
    have HC := hide hct
    clear hok hbss hct HM
    go_wp2_with fail
    refine wp_load_row 109 _ rfl w1.heap.size rfl 109 A (0, 0) _ (Go.Deep.blk_alloc_new _ _) Try.underlying109 rfl (unhide HSZ) ?_
    clear hsc
    go_wp2_with fail
    rw [unhide HAE]
    refine (newestPlaces_any m bs.length (unhide HC) hc12.1 hc12.2 bs rfl (unhide HS) (unhide HO) _).mono ?_
    rintro e w2 ⟨⟨v, r, L, rfl, hM, hv⟩, hB2⟩
    have HV := hide hv
    have HM := hide hM
    have hW2 : Below w.heap.size w w2 := (hW1.alloc hW1.size _).trans (hB2.mono (by simp; omega))
    clear hv hB2 hM
    generalize ccA m = A2 at *
    go_wp2
    go_ret2
    exact ⟨⟨_, r, L, rfl, .inl ⟨unhide HO, unhide HM⟩, (unhide HV).lower (by simp; omega)⟩, hW2⟩
end Go.Proofs.Ytimencianaclmaa

/- What a right member is, as plain lists say it. No program is named here. -/
namespace Go.Proofs.Ytimencianaclmaa
open Go.RowKit
set_option linter.unusedVariables false
set_option linter.unusedSimpArgs false

/-- The greatest number so far, and its place. -/
def topStep (cur : Int × Int) (x : Int × Pg) : Int × Int := if cur.1 < x.2.seq then (x.2.seq, x.1) else cur
def topOf (xs : List (Int × Pg)) : Int × Int := xs.foldl topStep (0, 0)
theorem topOf_snoc (xs : List (Int × Pg)) (x : Int × Pg) : topOf (xs ++ [x]) = topStep (topOf xs) x := by simp [topOf]
theorem topOf_bounds (xs : List (Int × Pg)) (h : ∀ x ∈ xs, x.2.seq ≤ 1000000000) : 0 ≤ (topOf xs).1 ∧ (topOf xs).1 ≤ 1000000000 := by
  suffices H : ∀ (xs : List (Int × Pg)) (c : Int × Int), 0 ≤ c.1 → c.1 ≤ 1000000000 → (∀ x ∈ xs, x.2.seq ≤ 1000000000) → 0 ≤ (xs.foldl topStep c).1 ∧ (xs.foldl topStep c).1 ≤ 1000000000 from H xs (0, 0) (Int.le_refl _) (by decide) h
  intro xs
  induction xs with
  | nil => intro c h0 h1 _; exact ⟨h0, h1⟩
  | cons x xs ih =>
    intro c h0 h1 hx
    have h2 := hx x (by simp)
    simp only [List.foldl_cons]
    refine ih _ ?_ ?_ (fun y hy => hx y (by simp [hy]))
    · unfold topStep; split <;> (try simp) <;> omega
    · unfold topStep; split <;> (try simp) <;> omega
def topSeq (bs : List Bk) : Int := (topOf (usedOf bs)).1
theorem ChipOk.top {bs : List Bk} (h : ChipOk bs) : 0 ≤ topSeq bs ∧ topSeq bs ≤ 1000000000 :=
  topOf_bounds _ (fun x hx => (h.usedRight hx).2.2.2.1)

def freeB (b : Bk) : Bool := !pu b 0
def fullB (b : Bk) : Bool := pu b 0 && pu b 1 && pu b 2 && pu b 3
/-- Begun, and not full. -/
def halfB (b : Bk) : Bool := pu b 0 && !fullB b
theorem NextIs.kinds {b : Bk} {r : Int} (h : NextIs (pu b) 4 r) : decide (r = 0) = freeB b ∧ decide (0 < r) = halfB b ∧ decide (r < 0) = fullB b := by
  unfold halfB freeB fullB
  rcases h with ⟨k, hk, rfl, h1, h2⟩ | ⟨rfl, h1⟩
  · have h4 : k = 0 ∨ k = 1 ∨ k = 2 ∨ k = 3 := by omega
    rcases h4 with rfl | rfl | rfl | rfl
    · simp [h1]
    · have := h2 0 (by omega); simp [h1, this]
    · have a0 := h2 0 (by omega); have a1 := h2 1 (by omega); simp [h1, a0, a1]
    · have a0 := h2 0 (by omega); have a1 := h2 1 (by omega); have a2 := h2 2 (by omega); simp [h1, a0, a1, a2]
  · have a0 := h1 0 (by omega); have a1 := h1 1 (by omega); have a2 := h1 2 (by omega); have a3 := h1 3 (by omega)
    simp [a0, a1, a2, a3]

/-- No block of the first k but the open one is begun only; one of them is free. -/
def noHalf (bs : List Bk) (o : Int) (k : Nat) : Prop := ∀ i x, i < k → bs[i]? = some x → (i : Int) ≠ o → halfB x = false
def oneFree (bs : List Bk) (o : Int) (k : Nat) : Prop := ∃ i x, i < k ∧ bs[i]? = some x ∧ (i : Int) ≠ o ∧ freeB x = true
def Settled (bs : List Bk) (o : Int) : Prop := noHalf bs o bs.length ∧ oneFree bs o bs.length
theorem noHalf_succ {bs : List Bk} {o : Int} {k : Nat} {x : Bk} (hx : bs[k]? = some x) : noHalf bs o (k + 1) ↔ noHalf bs o k ∧ ((k : Int) ≠ o → halfB x = false) := by
  constructor
  · intro h
    exact ⟨fun i y hi hy hn => h i y (by omega) hy hn, fun hn => h k x (by omega) hx hn⟩
  · rintro ⟨h1, h2⟩ i y hi hy hn
    by_cases e : i = k
    · subst e; rw [hx] at hy; cases hy; exact h2 hn
    · exact h1 i y (by omega) hy hn
theorem oneFree_succ {bs : List Bk} {o : Int} {k : Nat} {x : Bk} (hx : bs[k]? = some x) : oneFree bs o (k + 1) ↔ oneFree bs o k ∨ ((k : Int) ≠ o ∧ freeB x = true) := by
  constructor
  · rintro ⟨i, y, hi, hy, hn, hf⟩
    by_cases e : i = k
    · subst e; rw [hx] at hy; cases hy; exact .inr ⟨hn, hf⟩
    · exact .inl ⟨i, y, by omega, hy, hn, hf⟩
  · rintro (⟨i, y, hi, hy, hn, hf⟩ | ⟨hn, hf⟩)
    · exact ⟨i, y, by omega, hy, hn, hf⟩
    · exact ⟨k, x, by omega, hx, hn, hf⟩

/-- A right member. -/
structure FtlOk (bs : List Bk) (L : List Int) (seq o : Int) : Prop where
  chip : ChipOk bs
  fits : Fits bs
  map : L = placesOf (usedOf bs) (roomOf bs)
  seq : topSeq bs + 1 ≤ seq ∧ seq ≤ 1000000000
  opn : 0 ≤ o ∧ o ≤ (bs.length : Int) - 1
  settled : Settled bs o
end Go.Proofs.Ytimencianaclmaa

/- A new member: in plain words, the model's FtlNew and the program's. -/
namespace Go.Proofs.Ytimencianaclmaa
open Go.RowKit
set_option linter.unusedVariables false
set_option linter.unusedSimpArgs false

def newBs (n : Nat) : List Bk := List.replicate n zeroBk
theorem newBs_length (n : Nat) : (newBs n).length = n := by simp [newBs]
theorem newBs_block {n : Nat} {b : Bk} (h : b ∈ newBs n) : b = zeroBk := List.eq_of_mem_replicate h
theorem zeroBk_page {k : Nat} {p : Pg} (h : zeroBk.pages[k]? = some p) : p = zeroPg := by
  have hm := List.mem_of_getElem? h
  simp [zeroBk] at hm
  exact hm
theorem seqs_newBs (n : Nat) : seqs (newBs n) = [] := by
  refine List.eq_nil_iff_forall_not_mem.2 (fun s hs => ?_)
  obtain ⟨i, b, k, p, hb, hp, hu, _⟩ := seqs_mem hs
  rw [newBs_block (List.mem_of_getElem? hb)] at hp
  rw [zeroBk_page hp] at hu
  cases hu
theorem chipOk_newBs {n : Nat} (h1 : 4 ≤ n) (h2 : n ≤ 12) : ChipOk (newBs n) := by
  refine ⟨by rw [newBs_length]; exact ⟨h1, h2⟩, fun b hb => ?_, by rw [seqs_newBs]; exact List.nodup_nil⟩
  rw [newBs_block hb]
  exact ⟨by simp [zeroBk], rfl, fun k p hp => by rw [zeroBk_page hp]; rfl, fun k p q hq hp hu => by rw [zeroBk_page hp] at hu; cases hu⟩
theorem usedOf_newBs (n : Nat) : usedOf (newBs n) = [] := by
  refine List.eq_nil_iff_forall_not_mem.2 (fun x hx => ?_)
  obtain ⟨b, k, hb, hk, _, hu⟩ := mem_usedAll hx
  obtain ⟨y, hy⟩ := getElem?_ex (l := newBs n) (k := b) hb
  have e := newBs_block (List.mem_of_getElem? hy)
  obtain ⟨p, hp⟩ := getElem?_ex (l := y.pages) (k := k) (by rw [e]; simpa [zeroBk] using hk)
  rw [mOf_page hy hp] at hu
  rw [e] at hp
  rw [zeroBk_page hp] at hu
  cases hu
def newMap (n : Nat) : List Int := List.replicate (4 * (n - 3)) (-1)
theorem newMap_is {n : Nat} {r : Bool} {L : List Int} (h : MapIs (newBs n) r L) : r = true ∧ L = newMap n := by
  have hf : Fits (newBs n) := fun x hx => by rw [usedOf_newBs] at hx; cases hx
  have hr := h.1.2 hf
  refine ⟨hr, ?_⟩
  have := h.2
  rw [hr] at this
  rw [this]
  simp only [if_true]
  rw [usedOf_newBs, placesOf_nil]
  unfold roomOf newMap
  rw [newBs_length]
theorem lensNewF {n : Nat} (h : n ≤ 12) : Lens 1048576 (newBs n) := ⟨by rw [newBs_length]; omega, fun b hb => by rw [newBs_block hb]; simp [zeroBk]⟩

/-- What FtlNew answers. -/
def FtlNewIs (b : Int) (out : List Bk) (L : List Int) (seq o : Int) (r : Bool) : Prop :=
  ((4 ≤ b ∧ b ≤ 12) ∧ out = newBs b.toNat ∧ L = newMap b.toNat ∧ seq = 1 ∧ o = 0 ∧ r = true) ∨ (¬ (4 ≤ b ∧ b ≤ 12) ∧ out = [] ∧ L = [] ∧ seq = 0 ∧ o = 0 ∧ r = false)
theorem FtlNewIs.one {b : Int} {out out' : List Bk} {L L' : List Int} {seq seq' o o' : Int} {r r' : Bool} (h : FtlNewIs b out L seq o r) (k : FtlNewIs b out' L' seq' o' r') : out = out' ∧ L = L' ∧ seq = seq' ∧ o = o' ∧ r = r' := by
  rcases h with ⟨h0, rfl, rfl, rfl, rfl, rfl⟩ | ⟨h0, rfl, rfl, rfl, rfl, rfl⟩
  · rcases k with ⟨_, rfl, rfl, rfl, rfl, rfl⟩ | ⟨k0, _⟩
    · exact ⟨rfl, rfl, rfl, rfl, rfl⟩
    · exact absurd h0 k0
  · rcases k with ⟨k0, _⟩ | ⟨_, rfl, rfl, rfl, rfl, rfl⟩
    · exact absurd k0 h0
    · exact ⟨rfl, rfl, rfl, rfl, rfl⟩
theorem FtlNewIs.lens {b : Int} {out : List Bk} {L : List Int} {seq o : Int} {r : Bool} (h : FtlNewIs b out L seq o r) : Lens 1048576 out ∧ L.length ≤ 36 := by
  rcases h with ⟨h0, rfl, rfl, _⟩ | ⟨_, rfl, rfl, _⟩
  · exact ⟨lensNewF (by omega), by simp [newMap]; omega⟩
  · exact ⟨⟨by simp, fun b hb => by cases hb⟩, by simp⟩

theorem MineFrom.lowerN {w : World} {a : Option Addr} {n B B' : Nat} (h : MineFrom w a n B) (hB : B' ≤ B) : MineFrom w a n B' := by
  rcases h with h | ⟨g, ha, h1, h2, h3⟩
  · exact .inl h
  · exact .inr ⟨g, ha, by omega, h2, h3⟩
theorem FtlOwn.lowerN {w : World} {B B' T T' : Nat} {a : Option Addr} {n c : Nat} {out : List Bk} {ma : Option Addr} {mn : Nat} {L : List Int} (h : FtlOwn w B T a n c out ma mn L) (hB : B' ≤ B) (hT : T ≤ T') : FtlOwn w B' T' a n c out ma mn L := by
  obtain ⟨h0, h1, h2, h6, C, K, h3, h4, h5⟩ := h
  exact ⟨h0, h1, MineFrom.lowerN h2 hB, fun g hg => Nat.lt_of_lt_of_le (h6 g hg) hT, C, K, by omega, h4, by omega, h5.2⟩
/-- A row that holds a member of nothing holds no block of four pages, no page, no number but 0: so a list that is read elsewhere lies elsewhere. -/
theorem zeroFtl_cell {w : World} {B : Nat} {ty : TypeId} (hr : w.heap[B]? = some (.cells #[.slice none 0 0, .slice none 0 0, .int .i64 0, .int .i64 0] ty (0, 0))) {i : Nat} {v : Value} (h : w.cell? ⟨B, i, none⟩ = some v) : v = .slice none 0 0 ∨ v = .int .i64 0 := by
  rw [cell_of_row _ _ i _ _ _ hr] at h
  match i with
  | 0 => simp at h; exact .inl h.symm
  | 1 => simp at h; exact .inl h.symm
  | 2 => simp at h; exact .inr h.symm
  | 3 => simp at h; exact .inr h.symm
  | i + 4 => simp at h
theorem blocksAt_apart {w w' : World} {B : Nat} {ty : TypeId} {a : Option Addr} {bs : List Bk} (hr : w.heap[B]? = some (.cells #[.slice none 0 0, .slice none 0 0, .int .i64 0, .int .i64 0] ty (0, 0))) (h : BlocksAt w a bs) (h4 : ∀ b ∈ bs, b.pages.length = 4) (hT : Touch (· = B) w w') : BlocksAt w' a bs := by
  intro i b hb
  obtain ⟨g, o, pa, pc, ha, c0, c1, hp⟩ := h i b hb
  have hl := h4 b (List.mem_of_getElem? hb)
  have hg : g ≠ B := by
    rintro rfl
    rcases zeroFtl_cell hr c1 with e | e
    · injection e with _ e2 _
      omega
    · cases e
  have hc : ∀ j, w'.cell? ⟨g, j, none⟩ = w.cell? ⟨g, j, none⟩ := fun j => World.cell?_of_block (w := w) (a := ⟨g, j, none⟩) (hT.block g (World.block_lt_of_cell? _ _ c0) hg)
  refine ⟨g, o, pa, pc, ha, (hc _).trans c0, (hc _).trans c1, fun k p hk => ?_⟩
  obtain ⟨g2, o2, ha2, d0, d1, d2, d3⟩ := hp k p hk
  have hg2 : g2 ≠ B := by
    rintro rfl
    rcases zeroFtl_cell hr d0 with e | e <;> cases e
  have hc2 : ∀ j, w'.cell? ⟨g2, j, none⟩ = w.cell? ⟨g2, j, none⟩ := fun j => World.cell?_of_block (w := w) (a := ⟨g2, j, none⟩) (hT.block g2 (World.block_lt_of_cell? _ _ d0) hg2)
  exact ⟨g2, o2, ha2, (hc2 _).trans d0, (hc2 _).trans d1, (hc2 _).trans d2, (hc2 _).trans d3⟩
theorem intsAt_apart {w w' : World} {B : Nat} {ty : TypeId} {a : Option Addr} {L : List Int} (hr : w.heap[B]? = some (.cells #[.slice none 0 0, .slice none 0 0, .int .i64 0, .int .i64 0] ty (0, 0))) (h : IntsAt w a L) (h0 : ∀ x ∈ L, x ≠ 0) (hT : Touch (· = B) w w') : IntsAt w' a L := by
  intro i x hx
  obtain ⟨b, o, ha, c⟩ := h i x hx
  have hb : b ≠ B := by
    rintro rfl
    rcases zeroFtl_cell hr c with e | e
    · cases e
    · exact h0 x (List.mem_of_getElem? hx) (by cases e; rfl)
  exact ⟨b, o, ha, (World.cell?_of_block (w := w) (a := ⟨b, o + i, none⟩) (hT.block b (World.block_lt_of_cell? _ _ c) hb)).trans c⟩
theorem touchN4 (w : World) (B : Nat) (v0 v1 v2 v3 : Value) : Touch (· = B) w ((((w.setCell ⟨B, 0, none⟩ v0).setCell ⟨B, 1, none⟩ v1).setCell ⟨B, 2, none⟩ v2).setCell ⟨B, 3, none⟩ v3) := by
  have h0 := Touch.refl (fun k => k = B) w
  have h1 := Touch.setCell h0 (p := ⟨B, 0, none⟩) (by rfl) v0
  have h2 := Touch.setCell h1 (p := ⟨B, 1, none⟩) (by rfl) v1
  have h3 := Touch.setCell h2 (p := ⟨B, 2, none⟩) (by rfl) v2
  exact Touch.setCell h3 (p := ⟨B, 3, none⟩) (by rfl) v3

set_option maxRecDepth 100000 in
set_option maxHeartbeats 2000000 in
theorem specFtlNew_mine (b : Int) (w : World) :
    Calls Try.prog 118 #[.int .i64 b] w fun e w' => ∃ (a : Option Addr) (n c : Nat) (ma : Option Addr) (mn mc : Nat) (out : List Bk) (L : List Int) (seq o : Int) (r : Bool), e = .returned (.tuple #[.agg #[.slice a n c, .slice ma mn mc, .int .i64 seq, .int .i64 o], .bool r]) ∧ FtlNewIs b out L seq o r ∧ out.length = n ∧ L.length = mn ∧ BlocksAt w' a out ∧ IntsAt w' ma L ∧ MineFrom w' ma mn w.heap.size ∧ Below w.heap.size w w' := by
  have hb0 : ∀ o, Below w.heap.size w (w.alloc o) := fun o => (Below.refl _ w).alloc (Nat.le_refl _) _
  by_cases hin : 4 ≤ b ∧ b ≤ 12
  · obtain ⟨n, rfl⟩ := Int.eq_ofNat_of_zero_le (show 0 ≤ b by omega)
    have h1 : 4 ≤ n := by omega
    have h2 : n ≤ 12 := by omega
    go_enter Try.func118, Try.ntmps118
    go_wp2_with fail
    refine (specChipNew_yes n _ h1 h2).mono ?_
    rintro e w1 ⟨a, c, rfl, hA, hB1⟩
    have hs1 := hB1.size
    simp at hs1
    have hr1 := (hB1.block w.heap.size (by simp)).trans (World.alloc_heap_new w _)
    have hW1 : Below w.heap.size w w1 := (hb0 _).trans (hB1.mono (by simp))
    have HA := hide hA
    have HR1 := hide hr1
    clear hA hB1 hr1 hb0
    have hb1 : ∀ o, Below w1.heap.size w1 (w1.alloc o) := fun o => (Below.refl _ w1).alloc (Nat.le_refl _) _
    go_wp2_with fail
    refine (l2Map_any a c (newBs n) n (newBs_length n) (chipOk_newBs h1 h2) _ ((unhide HA).below (hb1 _) (Nat.le_refl _))).mono ?_
    rintro e w2 ⟨⟨v, r, L, rfl, hM, hv⟩, hB2⟩
    obtain ⟨rfl, rfl⟩ := newMap_is hM
    obtain ⟨ma, mc, rfl, hI, hMine⟩ := hv.form
    have hs2 := hB2.size
    simp at hs2
    have hB12 := (hb1 _).trans (hB2.mono (by simp))
    have hr2 := (hB12.block w.heap.size (by omega)).trans (unhide HR1)
    have hc2 : w2.cell? ⟨w1.heap.size, 0, none⟩ = some (.slice a n c) := by
      rw [hB2.cell (p := ⟨w1.heap.size, 0, none⟩) (by simp)]
      simp
    have q0 := cell_of_row _ _ 0 _ _ _ hr2
    have q1 := cell_of_row _ _ 1 _ _ _ hr2
    have q2 := cell_of_row _ _ 2 _ _ _ hr2
    have q3 := cell_of_row _ _ 3 _ _ _ hr2
    have f0 := frozen_of_row _ _ 0 _ _ hr2
    have f1 := frozen_of_row _ _ 1 _ _ hr2
    have f2 := frozen_of_row _ _ 2 _ _ hr2
    have f3 := frozen_of_row _ _ 3 _ _ hr2
    simp at q0 q1 q2 q3
    have hW2 := hW1.trans (hB12.mono hW1.size)
    have HA2 := hide ((unhide HA).below hB12 (Nat.le_refl _))
    have HI := hide hI
    obtain ⟨mn, hmn⟩ : ∃ mn, (newMap n).length = mn := ⟨_, rfl⟩
    rw [hmn] at hMine ⊢
    have HMN := hide hmn
    simp only [World.size_alloc] at hMine
    have HMI := hide hMine
    have HR2 := hide hr2
    clear hv hM hB2 hB12 hr2 hI hmn HA HR1 hb1 hW1 hMine
    go_wp2
    refine bodyPost_ret (v := .tuple #[.agg #[.slice a n c, .slice ma mn mc, .int .i64 1, .int .i64 0], .bool true]) (by simp [results, Try.results118, go_sem, q0, q1, q2, q3]) rfl ⟨a, n, c, ma, mn, mc, newBs n, newMap n, 1, 0, true, rfl, .inl ⟨by omega, by simp, by simp, rfl, rfl, rfl⟩, newBs_length n, unhide HMN, ?_, ?_, ?_, ?_⟩
    · exact blocksAt_apart (unhide HR2) (unhide HA2) (fun b hb => by rw [newBs_block hb]; rfl) (touchN4 _ _ _ _ _ _)
    · exact intsAt_apart (unhide HR2) (unhide HI) (fun x hx => by rw [List.eq_of_mem_replicate hx]; decide) (touchN4 _ _ _ _ _ _)
    · exact MineFrom.lowerN ((unhide HMI).touch' (touchN4 _ _ _ _ _ _) (fun g hg he => by
        rcases unhide HMI with ⟨e, _⟩ | ⟨g', e, h1, _⟩
        · rw [hg] at e; cases e
        · rw [hg] at e; cases e; omega)) (by omega)
    · exact hW2.trans ((touchN4 _ _ _ _ _ _).below hW2.size (fun k hk => by rw [hk]; exact Nat.le_refl _))
  · go_enter Try.func118, Try.ntmps118
    go_wp2_with fail
    refine (specChipNew_no b _ hin).mono ?_
    rintro e w1 ⟨rfl, hB1⟩
    have hs1 := hB1.size
    simp at hs1
    have hr1 := (hB1.block w.heap.size (by simp)).trans (World.alloc_heap_new w _)
    have hW1 : Below w.heap.size w w1 := (hb0 _).trans (hB1.mono (by simp))
    have q0 := fun o' => (cell_alloc_lt w1 o' w.heap.size 0 (by omega)).trans (cell_of_row _ _ 0 _ _ _ hr1)
    have q1 := fun o' => (cell_alloc_lt w1 o' w.heap.size 1 (by omega)).trans (cell_of_row _ _ 1 _ _ _ hr1)
    have q2 := fun o' => (cell_alloc_lt w1 o' w.heap.size 2 (by omega)).trans (cell_of_row _ _ 2 _ _ _ hr1)
    have q3 := fun o' => (cell_alloc_lt w1 o' w.heap.size 3 (by omega)).trans (cell_of_row _ _ 3 _ _ _ hr1)
    have f0 := fun o' => (frozen_alloc_lt w1 o' w.heap.size 0 (by omega)).trans (frozen_of_row _ _ 0 _ _ hr1)
    have f1 := fun o' => (frozen_alloc_lt w1 o' w.heap.size 1 (by omega)).trans (frozen_of_row _ _ 1 _ _ hr1)
    have f2 := fun o' => (frozen_alloc_lt w1 o' w.heap.size 2 (by omega)).trans (frozen_of_row _ _ 2 _ _ hr1)
    have f3 := fun o' => (frozen_alloc_lt w1 o' w.heap.size 3 (by omega)).trans (frozen_of_row _ _ 3 _ _ hr1)
    simp at q0 q1 q2 q3
    clear hB1 hr1 hb0
    go_wp2
    refine bodyPost_ret (v := .tuple #[.agg #[.slice none 0 0, .slice none 0 0, .int .i64 0, .int .i64 0], .bool false]) (by simp [results, Try.results118, go_sem, q0, q1, q2, q3]) rfl ⟨none, 0, 0, none, 0, 0, [], [], 0, 0, false, rfl, .inr ⟨hin, rfl, rfl, rfl, rfl, rfl⟩, rfl, rfl, fun i x hx => by simp at hx, fun i x hx => by simp at hx, .inl ⟨rfl, rfl⟩, ?_⟩
    exact (hW1.alloc hW1.size _).trans ((touchN4 _ _ _ _ _ _).below (by simp; omega) (fun k hk => by rw [hk]; exact Nat.le_refl _))

theorem specFtlNew_any (b : Int) (w : World) :
    Calls Try.prog 118 #[.int .i64 b] w fun e w' => ∃ (a : Option Addr) (n c : Nat) (ma : Option Addr) (mn mc : Nat) (out : List Bk) (L : List Int) (seq o : Int) (r : Bool), e = .returned (.tuple #[.agg #[.slice a n c, .slice ma mn mc, .int .i64 seq, .int .i64 o], .bool r]) ∧ FtlNewIs b out L seq o r ∧ out.length = n ∧ L.length = mn ∧ BlocksAt w' a out ∧ IntsAt w' ma L ∧ Below w.heap.size w w' := by
  refine (specFtlNew_mine b w).mono ?_
  rintro e w' ⟨a, n, c, ma, mn, mc, out, L, seq, o, r, h1, h2, h3, h4, h5, h6, _, h7⟩
  exact ⟨a, n, c, ma, mn, mc, out, L, seq, o, r, h1, h2, h3, h4, h5, h6, h7⟩

end Go.Proofs.Ytimencianaclmaa
