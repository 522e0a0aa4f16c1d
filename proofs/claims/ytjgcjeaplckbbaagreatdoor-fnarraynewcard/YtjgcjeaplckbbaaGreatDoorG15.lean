/- 3 texts in one. -/
import Derived.Test.YtjgcjeaplckbbaaGreatDoorG13
import Derived.Test.YtjgcjeaplckbbaaGreatDoorG14
import Derived.Test.YtjgcjeaplckbbaaGreatDoorG12
import Derived.Test.YtjgcjeaplckbbaaGreatDoorG02
import Derived.Test.YtjgcjeaplckbbaaGreatDoorG11
import Derived.WalkKit
import Derived.Outline
import Derived.BigQuiet
import Derived.Deep.AppendLies
import Derived.Deep.MidRow
import Derived.Deep.RegionHeld3

/- The program's crews that are up: pages, what they are together. -/
namespace Go.Proofs.YtjgcjeaplckbbaaGreatDoor
open Go.RowKit
set_option linter.unusedVariables false
set_option linter.unusedSimpArgs false

/-- A worker that is idle, at block g. -/
def WorkMan (w : World) (g n : Nat) (mb : Mb) : Prop := ∃ m va ma mn mc, WorkAt w g m va ma mn mc (Mb.seq mb) mb.o ∧ (∃ x y z, va = .slice x y z) ∧ mb.bs.length = n ∧ m.count = n ∧ ccBs m n = mb.bs ∧ mb.L.length = mn ∧ FtlOk mb.bs mb.L (Mb.seq mb) mb.o ∧ IntsAt w ma mb.L
theorem WorkMan.below {w w' : World} {g n : Nat} {mb : Mb} (h : WorkMan w g n mb) (hb : Below w.heap.size w w') : WorkMan w' g n mb := by
  obtain ⟨m, va, ma, mn, mc, h1, h2, h3, h4, h5, h6, h7, h8⟩ := h
  exact ⟨m, va, ma, mn, mc, h1.below hb h1.lt, h2, h3, h4, h5, h6, h7, h8.below hb (Nat.le_refl _)⟩

structure CrewUp (w : World) (c : Nat) (L : List Int) (k n : Nat) (ms : List Mb) (wa : Option Addr) (wc bt be W cap : Nat) : Prop where
  weights : w.cell? ⟨c, 0, none⟩ = some (.slice wa k wc)
  members : w.cell? ⟨c, 1, none⟩ = some (.int .i64 (k : Int))
  place : w.cell? ⟨c, 2, none⟩ = some (.func (.func 99) #[] #[.pointer (some ⟨bt, 0, none⟩), .pointer (some ⟨be, 0, none⟩)])
  taken : Taken w bt be L
  blocks : w.cell? ⟨c, 3, none⟩ = some (.int .i64 (n : Int))
  lost : w.cell? ⟨c, 4, none⟩ = some (.int .i64 (-1))
  down : w.cell? ⟨c, 5, none⟩ = some (.bool false)
  workers : w.cell? ⟨c, 6, none⟩ = some (.slice (some ⟨W, 0, none⟩) k cap)
  log : w.cell? ⟨c, 7, none⟩ = some (.slice none 0 0)
  works : ∀ (i : Nat) m, ms[i]? = some m → ∃ g, w.cell? ⟨W, i, none⟩ = some (.pointer (some ⟨g, 0, none⟩)) ∧ WorkMan w g n m
  pos : 0 < L.length
theorem CrewUp.below {w w' : World} {c : Nat} {L : List Int} {k n : Nat} {ms : List Mb} {wa : Option Addr} {wc bt be W cap : Nat} (h : CrewUp w c L k n ms wa wc bt be W cap) (hb : Below w.heap.size w w') : CrewUp w' c L k n ms wa wc bt be W cap := by
  have hc : ∀ (b j : Nat) v, w.cell? ⟨b, j, none⟩ = some v → w'.cell? ⟨b, j, none⟩ = some v := fun b j v e => (hb.cell (p := ⟨b, j, none⟩) (World.block_lt_of_cell? _ _ e)).trans e
  exact ⟨hc _ _ _ h.weights, hc _ _ _ h.members, hc _ _ _ h.place, h.taken.below h.pos hb (Nat.le_refl _), hc _ _ _ h.blocks, hc _ _ _ h.lost, hc _ _ _ h.down, hc _ _ _ h.workers, hc _ _ _ h.log, fun i m hm => by
    obtain ⟨g, e, hw⟩ := h.works i m hm
    exact ⟨g, hc _ _ _ e, hw.below hb⟩, h.pos⟩

set_option maxRecDepth 100000 in
set_option maxHeartbeats 2000000 in
theorem page_any (g n : Nat) (mb : Mb) (s : Nat) (hs : s < mb.L.length) (w : World) (h : WorkMan w g n mb) :
    Calls Tryz.prog 144 #[.pointer (some ⟨g, 0, none⟩), .int .i64 (s : Int)] w fun e w' => e = .returned (.string (pageM mb s)) ∧ Below w.heap.size w w' := by
  obtain ⟨m, va, ma, mn, mc, hW, hva, hbl, hct, hbs, hLn, hok, hI⟩ := h
  obtain ⟨x, hx⟩ := getElem?_ex (l := mb.L) (k := s) hs
  obtain ⟨b1, o1, rfl, hcx⟩ := hI s x hx
  have hb1 : b1 < w.heap.size := World.block_lt_of_cell? _ _ hcx
  have hgl := hW.lt
  have hmap := hW.map
  obtain ⟨D, hD⟩ : ∃ D, D = pageM mb s := ⟨_, rfl⟩
  have hDx : D = dataOf mb.bs x := by rw [hD]; unfold pageM; rw [hx]; rfl
  have HAP := hide (fun b k j hb hk hj => ccA_page m (b := b) (k := k) (j := j) hb hk hj)
  have hAs : (ccA m).size = 205 := ccA_size m
  have HLD : Hid (∀ j, j < 205 → w.cell? ⟨g, 0 + j, none⟩ = (ccA m)[j]?) := fun j hj => by rw [Nat.zero_add]; exact hW.cells j hj
  generalize ccA m = A at HAP hAs HLD
  have HDA : Hid (∀ W, Calls Tryz.prog 73 #[.agg A, .int .i64 x] W fun e w' => e = .returned (.string D) ∧ Below W.heap.size W w') := fun W => by
    rw [hDx]; exact dataAt_any A m mb.bs (by rw [hbl]; exact hbs) (unhide HAP) mb.L mb.seq mb.o hok x (List.mem_of_getElem? hx) W
  have hmix : Tryz.prog.follows .mixedOrders = true := by kernel_rfl
  have hsl : (s : Int) < (mn : Int) := by omega
  rw [← hD]
  clear hD hDx hx hI hok hbs hct hbl hva hW hLn hs HAP
  go_enter Tryz.func144, Tryz.ntmps144
  go_upto_region 1 with fail
  refine wp_region_grown (Below w.heap.size w) hmix (by kernel_rfl) (below_drawn w) ?_
  go_big_quiet_step (exact fun _ => rfl)
  go_big_quiet_step (exact fun _ => rfl)
  go_big_quiet_step (exact fun _ => rfl)
  refine wpQuiet_val rfl (.agg A) (fun W hC => quietAt_load_mid 128 _ rfl g 0 rfl A 205 hAs (fun j hj => (hC.cell (p := ⟨g, 0 + j, none⟩) hgl).trans (unhide HLD j hj)) _ Tryz.underlying128 rfl sizeCC') ?_
  simp only [Act.put, List.setIfInBounds_toArray, List.set_cons_zero, List.set_cons_succ]
  go_big_quiet_step (exact fun _ => rfl)
  go_big_quiet_step (exact fun _ => rfl)
  go_big_quiet_step (exact fun _ => rfl)
  go_big_quiet_step (exact fun _ => rfl)
  refine wpQuiet_val rfl (.slice (some ⟨b1, o1, none⟩) mn mc) (fun W hC => ?_) ?_
  · have hcl := (hC.cell (p := ⟨g, 206, none⟩) hgl).trans hmap
    go_simp
  simp only [Act.put, List.setIfInBounds_toArray, List.set_cons_zero, List.set_cons_succ]
  go_big_quiet_step (exact fun _ => rfl)
  go_big_quiet_step (exact fun _ => rfl)
  refine wpQuiet_val rfl (.int .i64 x) (fun W hC => ?_) ?_
  · have hcl := (hC.cell (p := ⟨b1, o1 + s, none⟩) hb1).trans hcx
    go_simp
  simp only [Act.put, List.setIfInBounds_toArray, List.set_cons_zero, List.set_cons_succ]
  refine wpQuiet_val rfl (.string D) (fun W hC => ?_) ?_
  · go_simp
    refine (unhide HDA W).mono ?_
    rintro e w' ⟨rfl, hB'⟩
    exact ⟨rfl, hC.trans (hB'.mono hC.size)⟩
  simp only [Act.put, List.setIfInBounds_toArray, List.set_cons_zero, List.set_cons_succ]
  go_big_quiet_step (exact fun _ => rfl)
  refine wpQuiet_nil ?_
  intro w8 hC8
  clear hcx HDA HLD hmap
  go_wp2
  exact bodyPost_ret (v := .string D) (by simp [results, Tryz.results144, go_sem]) rfl ⟨rfl, hC8⟩

set_option maxRecDepth 100000 in
set_option maxHeartbeats 4000000 in
theorem together_any (c : Nat) (L : List Int) (k n : Nat) (hk : L.length = k) (ms : List Mb) (wa : Option Addr) (wc bt be W cap : Nat) (s : Nat) (ho : UpOk L n ms) (hs : s < 4 * (n - 3)) (w : World) (h : CrewUp w c L k n ms wa wc bt be W cap) :
    Calls Tryz.prog 133 #[.pointer (some ⟨c, 0, none⟩), .int .i64 (s : Int)] w fun e w' => e = .returned (.string (xorT (pagesM ms s))) ∧ Below w.heap.size w w' := by
  have hwk := h.workers
  have hcl : c < w.heap.size := World.block_lt_of_cell? _ _ hwk
  have hk35 : 3 ≤ k ∧ k ≤ 5 := by have := ho.k35; omega
  have hml : ms.length = k := by rw [ho.len, hk]
  have HWK : Hid (∀ W', Below w.heap.size w W' → ∀ (i : Nat) m, ms[i]? = some m → ∃ g, W'.cell? ⟨W, i, none⟩ = some (.pointer (some ⟨g, 0, none⟩)) ∧ WorkMan W' g n m) := fun W' hW => (h.below hW).works
  have HPG : Hid (∀ m, m ∈ ms → s < m.L.length) := fun m hm => by have := (ho.each m hm).2.2.1; omega
  have HXO := hide (ho.xorOk hs)
  have HML := hide hml
  clear h ho hs hk hml
  obtain ⟨i0, hi, hz0, hz1, hz2⟩ := info_got infoText
  go_enter Tryz.func133, Tryz.ntmps133
  go_wp2
  go_loopw [5, 15] (fun v i wr => ∃ j : Nat, j ≤ k ∧ i = .int .i64 (j : Int) ∧ OwnTexts wr 9 w.heap.size v ((pagesM ms s).take j) ∧ Below w.heap.size w wr) (fun _ i _ => k - (intOf i).toNat)
  case atStart => exact ⟨0, Nat.zero_le _, rfl, World.ownsRow_nil _ _ _ _, Below.refl _ _⟩
  case round =>
    obtain ⟨j, hj, rfl, hO, hB⟩ := hrel
    have hsB := hB.size
    have HO := hide hO
    by_cases hlt : j < k
    · obtain ⟨m, hm⟩ := getElem?_ex (l := ms) (k := j) (by have := unhide HML; omega)
      obtain ⟨g, hg, hW⟩ := unhide HWK wr hB j m hm
      have HW := hide hW
      have hsm := unhide HPG m (List.mem_of_getElem? hm)
      have hpm : (pagesM ms s)[j]? = some (pageM m s) := by unfold pagesM; rw [List.getElem?_map, hm]; rfl
      have htl : ((pagesM ms s).take j).length = j := by rw [List.length_take, pagesM_length]; have := unhide HML; omega
      obtain ⟨T, hT⟩ : ∃ T, T = (pagesM ms s).take j := ⟨_, rfl⟩
      have htk : (pagesM ms s).take (j + 1) = T ++ [pageM m s] := by rw [List.take_add_one, hpm, hT]; rfl
      rw [← hT] at htl hO
      obtain ⟨y, hy⟩ : ∃ y, y = pageM m s := ⟨_, rfl⟩
      rw [← hy] at htk
      have HY := hide hy
      have HTK := hide htk
      have HTL := hide htl
      have HOO := hide hO
      clear hm hW hO HO hpm hT hy htk htl
      go_wp2_with fail
      refine (page_any g n m s hsm wr (unhide HW)).mono ?_
      rintro e w4 ⟨rfl, hB4⟩
      have hs4 := hB4.size
      have hO4 := (unhide HOO).below hB4
      rw [← unhide HY]
      obtain ⟨X, hX⟩ : ∃ X, X = texts T := ⟨_, rfl⟩
      have hRw : w4.ownsRow w.heap.size 9 1 u5 j X := by rw [hX, ← unhide HTL]; exact hO4
      have HX := hide hX
      have hB4w := hB.trans (hB4.mono hsB)
      clear hX hO4 hB4
      go_wp2_with (refine wpList_append_lies _ rfl (.tmp 21) (.tmp 25) 46 rfl w.heap.size 9 i0 _ 1 16 Tryz.underlying46 hi hz0 hz1 hz2 rfl (by decide) u5 j X (by simp [Act.eval]) (by exact hRw.alloc _) ⟨w4.heap.size, 0, none⟩ 1 1 [.string y] (by simp [Act.eval]) rfl (World.news_of_block (cs := #[.string y]) (t := 9) (fr := (0, 0)) (by exact Go.Deep.blk_alloc_new _ _)) (by simp [Value.oneCell']) (by omega) (by unfold maxLen; omega) (by omega) (by simp; omega) (w4.heap.size + 1) (by simp) ?_; intro g1 cap1 w5 hown hgrow hat hlt1)
      have hBel : Below w.heap.size w w5 := Below.grown (hB4w.alloc (by omega) _) hgrow (by simp; omega) (fun q e => (hRw.lt q e).1)
      have hO5 : OwnTexts w5 9 w.heap.size (.slice (some ⟨g1, 0, none⟩) (j + 1) cap1) ((pagesM ms s).take (j + 1)) := by
        rw [unhide HTK]
        unfold OwnTexts
        have e1 : (T ++ [y]).length = j + 1 := by rw [List.length_append, unhide HTL]; rfl
        have e2 : texts (T ++ [y]) = X ++ [.string y] := by rw [unhide HX]; simp [texts]
        rw [e1, e2]
        exact hown
      exact ⟨⟨j + 1, by omega, by simp, hO5, hBel⟩, by simp [intOf]; omega⟩
    · have hjk : j = k := by omega
      subst hjk
      have hO2 : OwnTexts wr 9 w.heap.size u5 (pagesM ms s) := by
        have h := unhide HO
        rwa [List.take_of_length_le (by rw [pagesM_length, unhide HML]; exact Nat.le_refl _)] at h
      obtain ⟨a, cc, hv, hTX, -⟩ := hO2.form
      rw [pagesM_length, unhide HML] at hv
      subst hv
      have HTX := hide hTX
      clear hO hO2 hTX HO
      go_wp2_with fail
      refine (implXor_any a cc (pagesM ms s) j (by rw [pagesM_length, unhide HML]) wr (unhide HTX) (by omega) (fun t ht => by have := (unhide HXO).2 t ht; omega)).mono ?_
      rintro e w6 ⟨hsay, hB6⟩
      have hW6 := hB.trans (hB6.mono hsB)
      rw [hsay]
      clear hB6 hsay
      go_wp2
      go_ret
      exact ⟨rfl, hW6⟩
end Go.Proofs.YtjgcjeaplckbbaaGreatDoor

/- The program's crews that are up: how many blocks, whether all stripes are even. -/
namespace Go.Proofs.YtjgcjeaplckbbaaGreatDoor
open Go.RowKit
set_option linter.unusedVariables false
set_option linter.unusedSimpArgs false

theorem stripes_any (c n : Nat) (h4 : 4 ≤ n) (h12 : n ≤ 12) (w : World) (h : w.cell? ⟨c, 3, none⟩ = some (.int .i64 (n : Int))) :
    Calls Tryz.prog 68 #[.pointer (some ⟨c, 0, none⟩)] w fun e w' => e = .returned (.int .i64 (4 * ((n : Int) - 3))) ∧ w' = w := by
  go_enter Tryz.func68, Tryz.ntmps68
  go_wp2_with fail
  refine (implRoomFor_any (n : Int) _).mono ?_
  rintro e w1 ⟨rfl, rfl⟩
  rw [roomI_in (by omega)]
  go_wp2
  go_ret
  exact ⟨rfl, rfl⟩

/-- How many blocks an array has. -/
def sizeN (k n : Nat) : Nat := 4 * (n - 3) * (k - 1)
theorem sizeN_le {k n : Nat} (h5 : k ≤ 5) (h12 : n ≤ 12) : sizeN k n ≤ 144 := by
  unfold sizeN
  have h1 : 4 * (n - 3) ≤ 36 := by omega
  have h2 : k - 1 ≤ 4 := by omega
  exact Nat.mul_le_mul h1 h2
theorem sizeN_int {k n : Nat} (h3 : 3 ≤ k) (h4 : 4 ≤ n) : 4 * ((n : Int) - 3) * ((k : Int) - 1) = (sizeN k n : Int) := by
  unfold sizeN
  rw [Int.natCast_mul, Int.natCast_mul, Int.natCast_sub (by omega), Int.natCast_sub (by omega)]
  rfl

set_option maxRecDepth 100000 in
set_option maxHeartbeats 2000000 in
theorem size_any (c k n : Nat) (h3 : 3 ≤ k) (h5 : k ≤ 5) (h4 : 4 ≤ n) (h12 : n ≤ 12) (w : World) (h : w.cell? ⟨c, 3, none⟩ = some (.int .i64 (n : Int))) (h1 : w.cell? ⟨c, 1, none⟩ = some (.int .i64 (k : Int))) :
    Calls Tryz.prog 55 #[.pointer (some ⟨c, 0, none⟩)] w fun e w' => e = .returned (.int .i64 (sizeN k n : Int)) ∧ Below w.heap.size w w' := by
  have hcl : c < w.heap.size := World.block_lt_of_cell? _ _ h
  have hmix : Tryz.prog.follows .mixedOrders = true := by kernel_rfl
  have hS := sizeN_int h3 h4
  have hSl := sizeN_le h5 h12
  obtain ⟨q, hq⟩ : ∃ q : Int, q = 4 * ((n : Int) - 3) := ⟨_, rfl⟩
  have hST : Hid (∀ W, Below w.heap.size w W → Calls Tryz.prog 68 #[.pointer (some ⟨c, 0, none⟩)] W fun e w' => e = .returned (.int .i64 q) ∧ w' = W) := fun W hW => by rw [hq]; exact stripes_any c n h4 h12 W ((hW.cell (p := ⟨c, 3, none⟩) hcl).trans h)
  have hq36 : 0 ≤ q ∧ q ≤ 36 := by omega
  rw [← hq] at hS
  have HS := hide hS
  obtain ⟨N, hN⟩ : ∃ N, N = sizeN k n := ⟨_, rfl⟩
  rw [← hN] at hS hSl HS ⊢
  clear hN hq hS h
  go_enter Tryz.func55, Tryz.ntmps55
  go_upto_region 1 with fail
  refine wp_region_grown (Below w.heap.size w) hmix (by kernel_rfl) (below_drawn w) ?_
  go_big_quiet_step (exact fun _ => rfl)
  refine wpQuiet_val rfl (.int .i64 q) (fun W hC => ?_) ?_
  · go_simp
    refine (unhide hST W hC).mono ?_
    rintro e w' ⟨rfl, rfl⟩
    exact ⟨rfl, hC⟩
  simp only [Act.put, List.setIfInBounds_toArray, List.set_cons_zero, List.set_cons_succ]
  go_big_quiet_step (exact fun _ => rfl)
  go_big_quiet_step (exact fun _ => rfl)
  go_big_quiet_step (exact fun _ => rfl)
  go_big_quiet_step (exact fun _ => rfl)
  refine wpQuiet_val rfl (.int .i64 (k : Int)) (fun W hC => ?_) ?_
  · have hcl := (hC.cell (p := ⟨c, 1, none⟩) hcl).trans h1
    go_simp
  simp only [Act.put, List.setIfInBounds_toArray, List.set_cons_zero, List.set_cons_succ]
  go_big_quiet_step (exact fun _ => rfl)
  refine wpQuiet_val rfl (.int .i64 (N : Int)) (fun W hC => ?_) ?_
  · have hs := unhide HS
    have hb : -9223372036854775808 ≤ q * ((k : Int) - 1) ∧ q * ((k : Int) - 1) < 9223372036854775808 := by rw [hs]; omega
    go_simp
    simp [IntKind.wrap, IntKind.bits, IntKind.signed]
    omega
  simp only [Act.put, List.setIfInBounds_toArray, List.set_cons_zero, List.set_cons_succ]
  go_big_quiet_step (exact fun _ => rfl)
  refine wpQuiet_nil ?_
  intro w8 hC8
  clear hST h1
  go_wp2
  exact bodyPost_ret (v := .int .i64 (N : Int)) (by simp [results, Tryz.results55, go_sem]) rfl ⟨rfl, hC8⟩

set_option maxHeartbeats 1000000 in
theorem even_any (c : Nat) (L : List Int) (k n : Nat) (hk : L.length = k) (ms : List Mb) (wa : Option Addr) (wc bt be W cap : Nat) (s : Nat) (ho : UpOk L n ms) (hs : s < 4 * (n - 3)) (w : World) (h : CrewUp w c L k n ms wa wc bt be W cap) :
    Calls Tryz.prog 69 #[.pointer (some ⟨c, 0, none⟩), .int .i64 (s : Int)] w fun e w' => e = .returned (.bool ((xorT (pagesM ms s)).toList == zeros4.toList)) ∧ Below w.heap.size w w' := by
  have HT := hide (together_any c L k n hk ms wa wc bt be W cap s ho hs w h)
  obtain ⟨X, hX⟩ : ∃ X, X = xorT (pagesM ms s) := ⟨_, rfl⟩
  rw [← hX] at HT ⊢
  clear h ho hX
  go_enter Tryz.func69, Tryz.ntmps69
  go_wp2_with fail
  refine (unhide HT).mono ?_
  rintro e w1 ⟨rfl, hB1⟩
  go_wp2_with fail
  refine (blankData_any _).mono ?_
  rintro e w2 ⟨rfl, hB2⟩
  have hW2 := hB1.trans (hB2.mono hB1.size)
  go_wp2
  go_ret
  exact ⟨rfl, hW2⟩

set_option maxHeartbeats 1000000 in
theorem allEven_any (c : Nat) (L : List Int) (k n : Nat) (hk : L.length = k) (ms : List Mb) (wa : Option Addr) (wc bt be W cap : Nat) (ho : UpOk L n ms) (he : EvenAll n ms) (w : World) (h : CrewUp w c L k n ms wa wc bt be W cap) :
    Calls Tryz.prog 108 #[.pointer (some ⟨c, 0, none⟩)] w fun e w' => e = .returned (.bool true) ∧ Below w.heap.size w w' := by
  have hl := h.lost
  have hb := h.blocks
  have hn4 := ho.n4
  have hn12 := ho.n12
  have HE : Hid (∀ (s : Nat) W', s < 4 * (n - 3) → Below w.heap.size w W' → Calls Tryz.prog 69 #[.pointer (some ⟨c, 0, none⟩), .int .i64 (s : Int)] W' fun e w' => e = .returned (.bool true) ∧ Below W'.heap.size W' w') := fun s W' hs hW => by
    have h2 := even_any c L k n hk ms wa wc bt be W cap s ho hs W' (h.below hW)
    rw [he s hs, show (zeros4.toList == zeros4.toList) = true by simp] at h2
    exact h2
  clear h ho he
  go_enter Tryz.func108, Tryz.ntmps108
  go_wp2_with fail
  refine (stripes_any c n hn4 hn12 w hb).mono ?_
  rintro e w1 ⟨rfl, rfl⟩
  clear hb hl
  go_wp2
  go_loopw [11] (fun i wr => ∃ j : Nat, j ≤ 4 * (n - 3) ∧ i = .int .i64 (j : Int) ∧ Below w1.heap.size w1 wr) (fun i _ => 4 * (n - 3) - (intOf i).toNat)
  case atStart => exact ⟨0, Nat.zero_le _, rfl, Below.refl _ _⟩
  case round =>
    obtain ⟨j, hj, rfl, hB⟩ := hrel
    by_cases hlt : j < 4 * (n - 3)
    · have HC := hide (unhide HE j wr hlt hB)
      go_wp2_with fail
      refine (unhide HC).mono ?_
      rintro e w2 ⟨rfl, hB2⟩
      have hW2 := hB.trans (hB2.mono hB.size)
      go_wp2_with fail
      exact ⟨⟨j + 1, by omega, by simp, hW2⟩, by simp [intOf]; omega⟩
    · go_wp2
      go_ret
      exact ⟨rfl, hB⟩
end Go.Proofs.YtjgcjeaplckbbaaGreatDoor

/- The program's workerOf and gathered: a crew of an array that is up. -/
namespace Go.Proofs.YtjgcjeaplckbbaaGreatDoor
open Go.RowKit
set_option linter.unusedVariables false
set_option linter.unusedSimpArgs false

theorem list_set_all (l : List Value) : ∀ (off : Nat) (Z : Array Value) (j : Nat), ((l.zipIdx off).foldl (fun (cs : Array Value) (x : Value × Nat) => cs.setIfInBounds x.2 x.1) Z)[j]? = if off ≤ j ∧ j < off + l.length ∧ j < Z.size then l[j - off]? else Z[j]? := by
  induction l with
  | nil => intro off Z j; rw [if_neg (by simp; omega)]; rfl
  | cons v l ih =>
    intro off Z j
    rw [List.zipIdx_cons, List.foldl_cons, ih, Array.size_setIfInBounds, Array.getElem?_setIfInBounds]
    simp only [List.length_cons]
    by_cases h1 : off + 1 ≤ j ∧ j < off + 1 + l.length ∧ j < Z.size
    · rw [if_pos h1, if_pos (by omega), show j - off = (j - (off + 1)) + 1 by omega, List.getElem?_cons_succ]
    · rw [if_neg h1]
      by_cases h2 : off = j
      · subst h2
        by_cases h3 : off < Z.size
        · rw [if_pos rfl, if_pos h3, if_pos ⟨Nat.le_refl _, by omega, h3⟩, Nat.sub_self]; rfl
        · rw [if_pos rfl, if_neg h3, if_neg (by omega), Array.getElem?_eq_none (by omega)]
      · rw [if_neg h2, if_neg (by omega)]
theorem array_set_all (A Z : Array Value) (off n : Nat) (hn : A.size = n) (j : Nat) : (Array.foldl (fun (cs : Array Value) (x : Value × Nat) => cs.setIfInBounds x.2 x.1) Z (A.zipIdx off) 0 n)[j]? = if off ≤ j ∧ j < off + n ∧ j < Z.size then A[j - off]? else Z[j]? := by
  have h := list_set_all A.toList off Z j
  have e : Array.foldl (fun (cs : Array Value) (x : Value × Nat) => cs.setIfInBounds x.2 x.1) Z (A.zipIdx off) 0 n = (A.toList.zipIdx off).foldl (fun (cs : Array Value) (x : Value × Nat) => cs.setIfInBounds x.2 x.1) Z := by
    have hs : (A.zipIdx off).size = n := by simp [hn]
    rw [← hs, ← Array.foldl_toList, Array.toList_zipIdx]
  rw [e, h, Array.length_toList, hn]
  simp only [Array.getElem?_toList]

theorem list_set_size (l : List Value) : ∀ (off : Nat) (Z : Array Value), ((l.zipIdx off).foldl (fun (cs : Array Value) (x : Value × Nat) => cs.setIfInBounds x.2 x.1) Z).size = Z.size := by
  induction l with
  | nil => intro off Z; rfl
  | cons v l ih => intro off Z; rw [List.zipIdx_cons, List.foldl_cons, ih, Array.size_setIfInBounds]
theorem array_set_size (A Z : Array Value) (off n : Nat) (hn : A.size = n) : (Array.foldl (fun (cs : Array Value) (x : Value × Nat) => cs.setIfInBounds x.2 x.1) Z (A.zipIdx off) 0 n).size = Z.size := by
  have hs : (A.zipIdx off).size = n := by simp [hn]
  rw [← hs, ← Array.foldl_toList, Array.toList_zipIdx, list_set_size]
theorem workZero : Tryz.zeroCells164.size = 211 := by kernel_rfl
theorem workBuilt (A : Array Value) (hA : A.size = 205) (v0 v1 v2 v3 : Value) (B : Array Value) (hB : B = (((((Array.foldl (fun (cs : Array Value) (x : Value × Nat) => cs.setIfInBounds x.2 x.1) Tryz.zeroCells164 A.zipIdx 0 205).setIfInBounds 205 v0).setIfInBounds 206 v1).setIfInBounds 207 v2).setIfInBounds 208 v3)) :
    (∀ j, j < 205 → B[j]? = A[j]?) ∧ B[205]? = some v0 ∧ B[206]? = some v1 ∧ B[207]? = some v2 ∧ B[208]? = some v3 := by
  have hs := array_set_size A Tryz.zeroCells164 0 205 hA
  rw [workZero] at hs
  have hg := array_set_all A Tryz.zeroCells164 0 205 hA
  obtain ⟨F, hF⟩ : ∃ F, F = Array.foldl (fun (cs : Array Value) (x : Value × Nat) => cs.setIfInBounds x.2 x.1) Tryz.zeroCells164 A.zipIdx 0 205 := ⟨_, rfl⟩
  rw [← hF] at hs hB hg
  subst hB
  refine ⟨fun j hj => ?_, ?_, ?_, ?_, ?_⟩
  · rw [Array.getElem?_setIfInBounds, if_neg (by omega), Array.getElem?_setIfInBounds, if_neg (by omega), Array.getElem?_setIfInBounds, if_neg (by omega), Array.getElem?_setIfInBounds, if_neg (by omega), hg, if_pos ⟨Nat.zero_le _, by omega, by rw [workZero]; omega⟩, Nat.sub_zero]
  · simp [Array.getElem?_setIfInBounds, hs]
  · simp [Array.getElem?_setIfInBounds, hs]
  · simp [Array.getElem?_setIfInBounds, hs]
  · simp [Array.getElem?_setIfInBounds, hs]

set_option maxRecDepth 100000 in
set_option maxHeartbeats 2000000 in
theorem workerOf_up (a : Option Addr) (c : Nat) (m : Mb) (nb : Nat) (hl : m.bs.length = nb) (ma : Option Addr) (mc mn : Nat) (hL : m.L.length = mn) (hok : m.Ok) (w : World) (h : BlocksAt w a m.bs) (hI : IntsAt w ma m.L) :
    Calls Tryz.prog 164 #[.agg #[.slice a nb c, .slice ma mn mc, .int .i64 (Mb.seq m), .int .i64 m.o], .bool false] w fun e w' => ∃ g cc, e = .returned (.tuple #[.pointer (some ⟨g, 0, none⟩), .bool true]) ∧ w.heap.size ≤ g ∧ g < w'.heap.size ∧ WorkAt w' g cc (.slice a nb c) ma mn mc (Mb.seq m) m.o ∧ cc.count = nb ∧ ccBs cc nb = m.bs ∧ Below w.heap.size w w' := by
  have hsh := Mb.Ok.short hok
  have hn9 : Lens 9223372036854775807 m.bs := ⟨by have := hsh.1.1; omega, fun b hb => by have := hsh.1.2 b hb; omega⟩
  have hmn : mn ≤ 9223372036854775807 := by have := hsh.2.2; omega
  have hb0 : ∀ o, Below w.heap.size w (w.alloc o) := fun o => (Below.refl _ w).alloc (Nat.le_refl _) _
  have HR := hide (fun o => rightCells_any a c m.bs nb hl ma mc m.L mn hL (Mb.seq m) m.o (w.alloc o) (h.below (hb0 o) (Nat.le_refl _)) hn9 (hI.below (hb0 o) (Nat.le_refl _)) hmn)
  have HOK : Hid (FtlOk m.bs m.L (Mb.seq m) m.o) := hok
  have HL := hide hl
  clear h hI hok hsh hn9 hl hL
  go_enter Tryz.func164, Tryz.ntmps164
  go_wp2_with fail
  refine (unhide HR _).mono ?_
  rintro e w1 ⟨⟨cc, r, rfl, hr, hm⟩, hB1⟩
  obtain rfl : r = true := hr.2 (unhide HOK)
  obtain ⟨hct, hbs⟩ := hm rfl
  rw [unhide HL] at hct hbs
  have hW1 : Below w.heap.size w w1 := (hb0 _).trans (hB1.mono (by simp))
  have hs1 := hB1.size
  simp at hs1
  have hr1 := (hB1.block w.heap.size (by simp)).trans (World.alloc_heap_new w _)
  have hl1 : w.heap.size < w1.heap.size := by omega
  have x0 := fun o' => (cell_alloc_lt w1 o' w.heap.size 0 hl1).trans (cell_of_row _ _ 0 _ _ _ hr1)
  have x1 := fun o' => (cell_alloc_lt w1 o' w.heap.size 1 hl1).trans (cell_of_row _ _ 1 _ _ _ hr1)
  have x2 := fun o' => (cell_alloc_lt w1 o' w.heap.size 2 hl1).trans (cell_of_row _ _ 2 _ _ _ hr1)
  have x3 := fun o' => (cell_alloc_lt w1 o' w.heap.size 3 hl1).trans (cell_of_row _ _ 3 _ _ _ hr1)
  simp at x0 x1 x2 x3
  have hsc := store_cc cc w1
  have HAS : Hid (∀ j, j < 205 → (ccA cc)[j]? = (ccA cc)[j]?) := fun j hj => rfl
  have hAs := ccA_size cc
  have HSZ := hide (sizeCC cc)
  have HFIN : Hid (∃ A, A = ccA cc) := ⟨_, rfl⟩
  clear hr hm hb0 HR hr1
  obtain ⟨A, hA⟩ : ∃ A, A = ccA cc := ⟨_, rfl⟩
  rw [← hA] at hsc hAs HSZ ⊢
  have HA := hide hA
  clear hA
  go_wp2_with fail
  refine wp_load_row 128 _ rfl w1.heap.size rfl 128 A (0, 0) _ (World.alloc_heap_new w1 _) Tryz.underlying128 rfl (unhide HSZ) ?_
  go_wp2_with fail
  case inl =>
    rename_i h
    exact absurd h (by rw [array_set_size A _ 0 205 hAs, workZero]; omega)
  obtain ⟨B, hB⟩ : ∃ B, B = (((((Array.foldl (fun (cs : Array Value) (x : Value × Nat) => cs.setIfInBounds x.2 x.1) Tryz.zeroCells164 A.zipIdx 0 205).setIfInBounds 205 (.slice a nb c)).setIfInBounds 206 (.slice ma mn mc)).setIfInBounds 207 (.int .i64 m.seq)).setIfInBounds 208 (.int .i64 m.o)) := ⟨_, rfl⟩
  obtain ⟨b0, b1, b2, b3, b4⟩ := workBuilt A hAs _ _ _ _ B hB
  rw [← hB]
  have hr := heap_alloc2_new w1 (.cells A 128) (.cells B 164)
  refine bodyPost_ret (v := .tuple #[.pointer (some ⟨w1.heap.size + 1, 0, none⟩), .bool true]) (by simp [results, Tryz.results164, go_sem]) rfl ⟨w1.heap.size + 1, cc, rfl, by omega, by simp, ⟨fun j hj => ?_, ?_, ?_, ?_, ?_, fun j => frozen_of_row _ _ j _ _ hr⟩, hct, hbs, (hW1.alloc hW1.size _).alloc (by simp; omega) _⟩
  · rw [cell_of_row _ _ j _ _ _ hr, b0 j hj, unhide HA]
  · rw [cell_of_row _ _ 205 _ _ _ hr]; exact b1
  · rw [cell_of_row _ _ 206 _ _ _ hr]; exact b2
  · rw [cell_of_row _ _ 207 _ _ _ hr]; exact b3
  · rw [cell_of_row _ _ 208 _ _ _ hr]; exact b4
end Go.Proofs.YtjgcjeaplckbbaaGreatDoor
