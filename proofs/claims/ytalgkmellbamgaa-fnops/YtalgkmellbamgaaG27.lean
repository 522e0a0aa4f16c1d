/- 4 texts in one. -/
import Derived.Shelf.Strings.Repeat
import Derived.Test.YtalgkmellbamgaaProg
import Derived.Test.YtalgkmellbamgaaG25
import Derived.Test.YtalgkmellbamgaaG26
import Derived.BigQuiet
import Derived.Test.YtalgkmellbamgaaG18

/- What the library's contract of strings.Repeat asks of this program: its numbers. -/
namespace Go.Proofs.Ytalgkmellbamgaa
open Go.Shelf
def rep_ren : Go.Shelf.Ren := ⟨fun | 105 => 152 | 212 => 164 | 99 => 165 | 165 => 166 | 166 => 167 | 170 => 168 | 169 => 169 | 263 => 171 | 264 => 172 | 206 => 173 | 240 => 174 | 241 => 175 | 276 => 176 | 277 => 177 | n => n, fun | 9 => 9 | 3 => 3 | 4 => 4 | 20 => 20 | 0 => 0 | 46 => 192 | 109 => 207 | 5 => 5 | 72 => 212 | 76 => 216 | 51 => 218 | 146 => 219 | 53 => 190 | 148 => 221 | 70 => 210 | 37 => 22 | 75 => 215 | 127 => 223 | 164 => 224 | 80 => 90 | n => n, fun | n => n⟩
theorem rep_lays : Go.Proofs.Lays.n105 Try.prog rep_ren := {
  mixed := by kernel_rfl
  f99 := Try.func165.trans (congrArg some (by kernel_rfl))
  f105 := Try.func152.trans (congrArg some (by kernel_rfl))
  f165 := Try.func166.trans (congrArg some (by kernel_rfl))
  f166 := Try.func167.trans (congrArg some (by kernel_rfl))
  f169 := Try.func169.trans (congrArg some (by kernel_rfl))
  f170 := Try.func168.trans (congrArg some (by kernel_rfl))
  f206 := Try.func173.trans (congrArg some (by kernel_rfl))
  f212 := Try.func164.trans (congrArg some (by kernel_rfl))
  f240 := Try.func174.trans (congrArg some (by kernel_rfl))
  f241 := Try.func175.trans (congrArg some (by kernel_rfl))
  f263 := Try.func171.trans (congrArg some (by kernel_rfl))
  f264 := Try.func172.trans (congrArg some (by kernel_rfl))
  f276 := Try.func176.trans (congrArg some (by kernel_rfl))
  f277 := Try.func177.trans (congrArg some (by kernel_rfl))
  t0 := Try.underlying0
  a0 := Try.isAgg0
  z0 := Try.sizeOf0
  v0 := Try.zeroValue0
  t3 := Try.underlying3
  a3 := Try.isAgg3
  z3 := Try.sizeOf3
  v3 := Try.zeroValue3
  t4 := Try.underlying4
  a4 := Try.isAgg4
  z4 := Try.sizeOf4
  v4 := Try.zeroValue4
  t5 := Try.underlying5
  a5 := Try.isAgg5
  z5 := Try.sizeOf5
  v5 := Try.zeroValue5
  t9 := Try.underlying9
  a9 := Try.isAgg9
  z9 := Try.sizeOf9
  v9 := Try.zeroValue9
  t20 := Try.underlying20
  a20 := Try.isAgg20
  z20 := Try.sizeOf20
  v20 := Try.zeroValue20
  t37 := Try.underlying22
  a37 := Try.isAgg22
  z37 := Try.sizeOf22
  v37 := Try.zeroValue22
  t46 := Try.underlying192
  a46 := Try.isAgg192
  z46 := Try.sizeOf192
  v46 := Try.zeroValue192
  t51 := Try.underlying218
  a51 := Try.isAgg218
  z51 := Try.sizeOf218
  v51 := Try.zeroValue218
  t53 := Try.underlying190
  a53 := Try.isAgg190
  z53 := Try.sizeOf190
  v53 := Try.zeroValue190
  t70 := Try.underlying210
  a70 := Try.isAgg210
  z70 := Try.sizeOf210
  v70 := Try.zeroValue210
  t72 := Try.underlying212
  a72 := Try.isAgg212
  z72 := Try.sizeOf212
  v72 := Try.zeroValue212
  t75 := Try.underlying215
  a75 := Try.isAgg215
  z75 := Try.sizeOf215
  v75 := Try.zeroValue215
  t76 := Try.underlying216
  a76 := Try.isAgg216
  z76 := Try.sizeOf216
  v76 := Try.zeroValue216
  t109 := Try.underlying207
  a109 := Try.isAgg207
  z109 := Try.sizeOf207
  v109 := Try.zeroValue207
  t127 := Try.underlying223
  a127 := Try.isAgg223
  z127 := Try.sizeOf223
  v127 := Try.zeroValue223
  t146 := Try.underlying219
  a146 := Try.isAgg219
  z146 := Try.sizeOf219
  v146 := Try.zeroValue219
  t148 := Try.underlying221
  a148 := Try.isAgg221
  z148 := Try.sizeOf221
  v148 := Try.zeroValue221
  t164 := Try.underlying224
  a164 := Try.isAgg224
  z164 := Try.sizeOf224
  v164 := Try.zeroValue224 }
theorem rep_extra : Builder.Extra Try.prog rep_ren := {
  sizeBuilder := by kernel_rfl
  liesBuilder := by kernel_rfl
  t5 := Try.underlying5
  a5 := Try.isAgg5
  z5 := Try.sizeOf5
  v5 := Try.zeroValue5
  infoByte := by kernel_rfl
  cellsByte := by kernel_rfl
  sizeByte := by kernel_rfl
  neB5 := by decide }
end Go.Proofs.Ytalgkmellbamgaa

/- What is read of a log: the program's dataAt and PageAt. -/
namespace Go.Proofs.Ytalgkmellbamgaa
open Go.RowKit
set_option linter.unusedVariables false
set_option linter.unusedSimpArgs false

theorem repeat4 (w : World) : Calls Try.prog 152 #[.string ⟨#[0]⟩, .int .i64 4] w fun e w' => e = .returned (.string zeros4) ∧ Below w.heap.size w w' := by
  refine (Any.strings_Repeat rep_lays rep_extra ⟨#[0]⟩ 4 w (by omega) (by decide)).mono ?_
  rintro e w1 ⟨rfl, hB⟩
  exact ⟨by rfl, hB⟩

theorem blankData_any (w : World) : Calls Try.prog 125 #[] w fun e w' => e = .returned (.string zeros4) ∧ Below w.heap.size w w' := by
  go_enter Try.func125, Try.ntmps125
  go_wp2_with fail
  refine (repeat4 _).mono ?_
  rintro e w1 ⟨rfl, hB⟩
  go_wp2
  go_ret
  exact ⟨rfl, hB⟩

set_option maxRecDepth 100000 in
set_option maxHeartbeats 1000000 in
theorem dataAt_any (A : Array Value) (m : CC) (bs : List Bk) (hbs : ccBs m bs.length = bs) (hAp : ∀ b k j, b < 12 → k < 4 → j < 4 → A[1 + b * 17 + 1 + k * 4 + j]? = some (pgV (m.page b k) j)) (L : List Int) (seq o : Int) (hok : FtlOk bs L seq o) (x : Int) (hx : x ∈ L) (w : World) :
    Calls Try.prog 77 #[.agg A, .int .i64 x] w fun e w' => e = .returned (.string (dataOf bs x)) ∧ Below w.heap.size w w' := by
  have hb0 : ∀ o, Below w.heap.size w (w.alloc o) := fun o => (Below.refl _ w).alloc (Nat.le_refl _) _
  have hpl := hok.places x hx
  by_cases h0 : x < 0
  · obtain rfl : x = -1 := by omega
    have HD := hide (dataOf_none (bs := bs) h0)
    clear hok hx hpl hAp hbs
    go_enter Try.func77, Try.ntmps77
    go_wp2_with fail
    refine (blankData_any _).mono ?_
    rintro e w1 ⟨rfl, hB⟩
    go_wp2
    go_ret
    exact ⟨by rw [unhide HD]; rfl, (hb0 _).trans (hB.mono (by simp))⟩
  · have hc := hok.chip.count
    obtain ⟨q, t, y, p, hq, ht, hqb, ht4, hy, hp⟩ := hok.placed hx (by omega)
    have HD := hide (dataOf_at (bs := bs) (by omega) hq ht hy hp)
    have hcd := hAp q t 3 (by omega) ht4 (by omega)
    have hpg : m.page q t = p := by
      have e := ccBs_at m hqb
      rw [hbs, hy] at e
      cases e
      have e2 := ccPs_at m q ht4
      rw [hp] at e2
      cases e2
      rfl
    rw [hpg] at hcd
    have hcw : ∀ ty, (w.alloc (.cells A ty)).cell? ⟨w.heap.size, 1 + q * 17 + 1 + t * 4 + 3, none⟩ = some (.string p.data) := fun ty => (cell_of_row _ _ _ _ _ _ (Go.Deep.blk_alloc_new _ _)).trans hcd
    have hq12 : (q : Int) < 12 := by omega
    have ht4' : (t : Int) < 4 := by omega
    have hx48 : x < 48 := by omega
    have hx0 : 0 ≤ x := by omega
    have hne : (x == -1) = false := by simp; omega
    clear hok hx hpl hAp hbs hcd hpg hy hp h0 hc hqb
    go_enter Try.func77, Try.ntmps77
    go_wp2
    go_ret
    exact ⟨by rw [unhide HD]; rfl, hb0 _⟩

set_option maxRecDepth 100000 in
set_option maxHeartbeats 1000000 in
theorem implPageAt_any (a : Option Addr) (c : Nat) (bs : List Bk) (n : Nat) (hl : bs.length = n) (ma : Option Addr) (mc : Nat) (L : List Int) (mn : Nat) (hL : L.length = mn) (seq o lg : Int) (w : World) (h : BlocksAt w a bs) (hn : Lens 9223372036854775807 bs) (hI : IntsAt w ma L) (hmn : mn ≤ 9223372036854775807) :
    Calls Try.prog 24 #[.agg #[.slice a n c, .slice ma mn mc, .int .i64 seq, .int .i64 o], .int .i64 lg] w fun e w' => ∃ (d : ByteArray) (r : Bool), e = .returned (.tuple #[.string d, .bool r]) ∧ PageIs bs L seq o lg d r ∧ Below w.heap.size w w' := by
  have hb0 : ∀ o, Below w.heap.size w (w.alloc o) := fun o => (Below.refl _ w).alloc (Nat.le_refl _) _
  have hmix : Try.prog.follows .mixedOrders = true := by kernel_rfl
  go_enter Try.func24, Try.ntmps24
  go_wp2_with fail
  refine (rightCells_any a c bs n hl ma mc L mn hL seq o _ (h.below (hb0 _) (Nat.le_refl _)) hn (hI.below (hb0 _) (Nat.le_refl _)) hmn).mono ?_
  rintro e w1 ⟨⟨m, r, rfl, hr, hm⟩, hB1⟩
  have hW1 : Below w.heap.size w w1 := (hb0 _).trans (hB1.mono (by simp))
  have hs1 := hB1.size
  simp at hs1
  have hx1 : ∀ o', (w1.alloc o').cell? ⟨w.heap.size, 1, none⟩ = some (.slice ma mn mc) := fun o' => by
    rw [cell_alloc_lt _ _ _ _ (by omega), hB1.cell (p := ⟨w.heap.size, 1, none⟩) (by simp)]
    simp
  have hsc := store_cc m w1
  have hAs := ccA_size m
  have hA0 := ccA_count m
  have HSZ := hide (sizeCC m)
  have HAP := hide (fun b k j hb hk hj => ccA_page m (b := b) (k := k) (j := j) hb hk hj)
  have HR := hide hr
  have HM := hide hm
  have HI := hide (hI.below hW1 (Nat.le_refl _))
  have HL := hide hl
  have HLL := hide hL
  generalize ccA m = A at hsc hAs hA0 HSZ HAP
  have HA0 := hide hA0
  clear hr hm hA0 h hn hB1 hb0 hI hl hL
  cases r with
  | false =>
    go_wp2
    exact bodyPost_ret (v := .tuple #[.string ⟨#[]⟩, .bool false]) (by simp [results, Try.results24, go_sem]) rfl ⟨_, _, rfl, .inr ⟨(fun hc => by have := (unhide HR).2 hc.1; cases this), rfl, rfl⟩, hW1.alloc hW1.size _⟩
  | true =>
    have hok := (unhide HR).1 (by trivial)
    have hc12 : 4 ≤ n ∧ n ≤ 12 := by have := hok.chip.count; have := unhide HL; omega
    have hmn4 : (mn : Int) = 4 * ((n : Int) - 3) := by have := hok.len; have := unhide HLL; have := unhide HL; omega
    obtain ⟨hct, hbss⟩ := unhide HM (by trivial)
    have hA0 := unhide HA0
    rw [hct, unhide HL] at hA0
    have hc0 : (w1.alloc (.cells A 97)).cell? ⟨w1.heap.size, 0, none⟩ = some (.int .i64 (n : Int)) := (cell_of_row _ _ 0 _ _ _ (Go.Deep.blk_alloc_new _ _)).trans hA0
    have HS := hide hbss
    have HO := hide hok
    have HMN := hide hmn4
    obtain ⟨w2, hw2⟩ : ∃ w2, w2 = w1.alloc (.cells A 97) := ⟨_, rfl⟩
    have hx2 := hx1 (.cells A 97)
    rw [← hw2] at hc0 hsc hx2
    have hs2 : w1.heap.size < w2.heap.size := by rw [hw2]; simp
    have HLD : Hid (∀ j, j < 205 → w2.cell? ⟨w1.heap.size, 0 + j, none⟩ = A[j]?) := fun j hj => by rw [hw2, Nat.zero_add]; exact cell_of_row _ _ j _ _ _ (Go.Deep.blk_alloc_new _ _)
    have hW2 : Below w.heap.size w w2 := by rw [hw2]; exact hW1.alloc hW1.size _
    have HI2 : Hid (IntsAt w2 ma L) := by rw [hw2]; exact (unhide HI).below ((Below.refl _ w1).alloc (Nat.le_refl _) _) (Nat.le_refl _)
    clear hok hA0 HA0 HM hct hbss hw2 hx1 HI hW1 hmn4
    go_wp2_with fail
    refine (implRoomFor_any (n : Int) _).mono ?_
    rintro e w3 ⟨rfl, rfl⟩
    rw [roomI_in (by omega), ← unhide HMN]
    have hmn36 : mn ≤ 36 := by have := unhide HMN; omega
    go_wp2_with fail
    refine (within_any _ _ _ _).mono ?_
    rintro e w4 ⟨rfl, rfl⟩
    by_cases hin : 0 ≤ lg ∧ lg ≤ (mn : Int) - 1
    · obtain ⟨k, rfl⟩ := Int.eq_ofNat_of_zero_le hin.1
      obtain ⟨x, hx⟩ := getElem?_ex (l := L) (k := k) (by have := unhide HLL; omega)
      have hd : decide ((0 : Int) ≤ (k : Int) ∧ (k : Int) ≤ (mn : Int) - 1) = true := by simpa using hin
      rw [hd]
      have hkm : (k : Int) < (mn : Int) := by omega
      obtain ⟨b1, o1, rfl, hcx⟩ := (unhide HI2) k x hx
      have hb1 : b1 < w4.heap.size := World.block_lt_of_cell? _ _ hcx
      have HDA : Hid (∀ W, Calls Try.prog 77 #[.agg A, .int .i64 x] W fun e w' => e = .returned (.string (dataOf bs x)) ∧ Below W.heap.size W w') := fun W => dataAt_any A m bs (unhide HS) (unhide HAP) L seq o (unhide HO) x (List.mem_of_getElem? hx) W
      have HX := hide hx
      have HIN := hide hin
      obtain ⟨D, hD⟩ : ∃ D, D = dataOf bs x := ⟨_, rfl⟩
      rw [← hD] at HDA
      have HDD := hide hD
      clear hx hin hd hc0 hsc hD
      go_wp2_with fail
      refine wp_region_grown (Below w4.heap.size w4) hmix (by kernel_rfl) (below_drawn w4) ?_
      refine wpQuiet_val rfl (.agg A) (fun W hC => quietAt_load_mid 97 _ rfl w1.heap.size 0 rfl A 205 hAs (fun j hj => (hC.cell (p := ⟨w1.heap.size, 0 + j, none⟩) (by show w1.heap.size < _; omega)).trans (unhide HLD j hj)) _ Try.underlying97 rfl sizeCC') ?_
      simp only [Act.put, List.setIfInBounds_toArray, List.set_cons_zero, List.set_cons_succ]
      go_big_quiet_step (exact fun _ => rfl)
      refine wpQuiet_val rfl (.slice (some ⟨b1, o1, none⟩) mn mc) (fun W hC => ?_) ?_
      · have hcl := (hC.cell (p := ⟨w.heap.size, 1, none⟩) (by show w.heap.size < _; omega)).trans hx2
        go_simp
      simp only [Act.put, List.setIfInBounds_toArray, List.set_cons_zero, List.set_cons_succ]
      go_big_quiet_step (exact fun _ => rfl)
      go_big_quiet_step (exact fun _ => rfl)
      refine wpQuiet_val rfl (.int .i64 x) (fun W hC => ?_) ?_
      · have hcl := (hC.cell (p := ⟨b1, o1 + k, none⟩) hb1).trans hcx
        go_simp
      simp only [Act.put, List.setIfInBounds_toArray, List.set_cons_zero, List.set_cons_succ]
      refine wpQuiet_val rfl (.string D) (fun W hC => ?_) ?_
      · go_simp
        refine (unhide HDA W).mono ?_
        rintro e w' ⟨rfl, hB'⟩
        exact ⟨rfl, hC.trans (hB'.mono hC.size)⟩
      simp only [Act.put, List.setIfInBounds_toArray, List.set_cons_zero, List.set_cons_succ]
      go_big_quiet_step (exact fun _ => rfl)
      go_big_quiet_step (exact fun _ => rfl)
      refine wpQuiet_nil ?_
      intro w8 hC8
      have hW8 := hW2.trans (hC8.mono hW2.size)
      clear hC8 hx2 hcx HDA
      go_wp2
      exact bodyPost_ret (v := .tuple #[.string D, .bool true]) (by simp [results, Try.results24, go_sem]) rfl ⟨_, _, rfl, .inl ⟨⟨unhide HO, (unhide HIN).1, by rw [unhide HLL]; exact (unhide HIN).2⟩, rfl, x, by simpa using unhide HX, unhide HDD⟩, hW8⟩
    · have hd : decide ((0 : Int) ≤ lg ∧ lg ≤ (mn : Int) - 1) = false := by simpa using hin
      rw [hd]
      clear hc0 hsc hx2
      go_wp2
      exact bodyPost_ret (v := .tuple #[.string ⟨#[]⟩, .bool false]) (by simp [results, Try.results24, go_sem]) rfl ⟨_, _, rfl, .inr ⟨fun hc => hin (by rw [← unhide HLL]; exact hc.2), rfl, rfl⟩, hW2⟩
end Go.Proofs.Ytalgkmellbamgaa

/- Whether a member is right: the program's FtlOk. -/
namespace Go.Proofs.Ytalgkmellbamgaa
open Go.RowKit
set_option linter.unusedVariables false
set_option linter.unusedSimpArgs false

set_option maxRecDepth 100000 in
set_option maxHeartbeats 1000000 in
theorem implFtlOk_any (a : Option Addr) (c : Nat) (bs : List Bk) (n : Nat) (hl : bs.length = n) (ma : Option Addr) (mc : Nat) (L : List Int) (mn : Nat) (hL : L.length = mn) (seq o : Int) (w : World) (h : BlocksAt w a bs) (hn : Lens 9223372036854775807 bs) (hI : IntsAt w ma L) (hmn : mn ≤ 9223372036854775807) :
    Calls Try.prog 26 #[.agg #[.slice a n c, .slice ma mn mc, .int .i64 seq, .int .i64 o]] w fun e w' => RetIff (FtlOk bs L seq o) e ∧ Below w.heap.size w w' := by
  have hb0 : ∀ o, Below w.heap.size w (w.alloc o) := fun o => (Below.refl _ w).alloc (Nat.le_refl _) _
  go_enter Try.func26, Try.ntmps26
  go_wp2_with fail
  refine (rightCells_any a c bs n hl ma mc L mn hL seq o _ (h.below (hb0 _) (Nat.le_refl _)) hn (hI.below (hb0 _) (Nat.le_refl _)) hmn).mono ?_
  rintro e w1 ⟨⟨m, r, rfl, hr, _⟩, hB⟩
  have HR := hide hr
  have hsc := store_cc m w1
  have hAs := ccA_size m
  clear hr h hI hn
  generalize ccA m = A at hsc hAs
  go_wp2
  go_ret
  exact ⟨⟨r, rfl, unhide HR⟩, ((hb0 _).trans (hB.mono (by simp))).alloc (by have := hB.size; simp at this; omega) _⟩
end Go.Proofs.Ytalgkmellbamgaa

/- The newest pages of a chip, told as a set; what programming and erasing do to them. No program is named here. -/
namespace Go.Proofs.Ytalgkmellbamgaa
open Go.RowKit
set_option linter.unusedVariables false
set_option linter.unusedSimpArgs false

theorem usedOf_iff {bs : List Bk} (h : ChipOk bs) {x : Int × Pg} : x ∈ usedOf bs ↔ ∃ (b k : Nat) (y : Bk), bs[b]? = some y ∧ y.pages[k]? = some x.2 ∧ k < 4 ∧ x.1 = (b : Int) * 4 + (k : Int) ∧ x.2.used = true := by
  constructor
  · intro hx
    exact (h.usedRight hx).2.2.2.2.2
  · rintro ⟨b, k, y, hy, hp, hk, e, hu⟩
    have := mem_usedOf hy hp hk hu
    rw [← e] at this
    exact this
theorem ccBs_mOf {bs : List Bk} (h : ChipOk bs) : ccBs (mOf bs) bs.length = bs := by
  refine List.ext_getElem? (fun i => ?_)
  by_cases hi : i < bs.length
  · rw [ccBs_at _ hi]
    obtain ⟨y, hy⟩ := getElem?_ex (l := bs) (k := i) hi
    rw [hy]
    have h4 := (h.block y (List.mem_of_getElem? hy)).four
    obtain ⟨yw, ps⟩ := y
    match ps, h4 with
    | [p0, p1, p2, p3], _ =>
      have e0 := mOf_page hy (k := 0) (p := p0) rfl
      have e1 := mOf_page hy (k := 1) (p := p1) rfl
      have e2 := mOf_page hy (k := 2) (p := p2) rfl
      have e3 := mOf_page hy (k := 3) (p := p3) rfl
      unfold ccPs
      rw [e0, e1, e2, e3]
      simp [mOf, hy]
  · rw [List.getElem?_eq_none (by rw [ccBs_length]; omega), List.getElem?_eq_none (by omega)]
theorem usedOf_distinct {bs : List Bk} (h : ChipOk bs) {y z : Int × Pg} (hy : y ∈ usedOf bs) (hz : z ∈ usedOf bs) (e : y.2.seq = z.2.seq) : y = z := by
  have hn : (usedSeqs (usedOf bs)).Nodup := by
    unfold usedOf
    rw [usedSeqs_all, ccBs_mOf h]
    exact h.nodup
  unfold usedSeqs at hn
  obtain ⟨i, hi, rfl⟩ := List.getElem_of_mem hy
  obtain ⟨j, hj, rfl⟩ := List.getElem_of_mem hz
  have hp := List.pairwise_iff_getElem.1 (List.pairwise_map.1 hn)
  rcases Nat.lt_trichotomy i j with hlt | rfl | hlt
  · exact absurd e (hp i j hi hj hlt)
  · rfl
  · exact absurd e.symm (hp j i hj hi hlt)

/-- The newest page of a log is none, or the one of the greatest number. -/
theorem newestAt_is (log : Int) (xs : List (Int × Pg)) : (newestAt xs log = none ∧ ∀ z ∈ xs, z.2.log ≠ log) ∨ ∃ y, newestAt xs log = some y ∧ y ∈ xs ∧ y.2.log = log ∧ ∀ z ∈ xs, z.2.log = log → z.2.seq ≤ y.2.seq := by
  suffices H : ∀ n (xs : List (Int × Pg)), xs.length = n → ((newestAt xs log = none ∧ ∀ z ∈ xs, z.2.log ≠ log) ∨ ∃ y, newestAt xs log = some y ∧ y ∈ xs ∧ y.2.log = log ∧ ∀ z ∈ xs, z.2.log = log → z.2.seq ≤ y.2.seq) from H _ xs rfl
  intro n
  induction n with
  | zero =>
    intro xs hl
    have : xs = [] := List.length_eq_zero_iff.1 hl
    subst this
    exact .inl ⟨rfl, fun z hz => by simp at hz⟩
  | succ n ih =>
    intro xs hl
    obtain ⟨ys, x, rfl⟩ : ∃ ys x, xs = ys ++ [x] := ⟨xs.dropLast, xs.getLast (by intro e; subst e; cases hl), (List.dropLast_concat_getLast _).symm⟩
    rw [newestAt_snoc]
    unfold pick
    have hm : ∀ z, z ∈ ys ++ [x] ↔ z ∈ ys ∨ z = x := fun z => by simp
    rcases ih ys (by simpa using hl) with ⟨h1, h2⟩ | ⟨y, h1, h2, h3, h4⟩
    · by_cases hx : x.2.log = log
      · rw [if_pos ⟨hx, by rw [h1]; rfl⟩]
        refine .inr ⟨x, rfl, (hm x).2 (.inr rfl), hx, fun z hz hzl => ?_⟩
        rcases (hm z).1 hz with hz | rfl
        · exact absurd hzl (h2 z hz)
        · exact Int.le_refl _
      · rw [if_neg (fun h => hx h.1)]
        refine .inl ⟨h1, fun z hz => ?_⟩
        rcases (hm z).1 hz with hz | rfl
        · exact h2 z hz
        · exact hx
    · by_cases hx : x.2.log = log ∧ y.2.seq < x.2.seq
      · rw [if_pos ⟨hx.1, by rw [h1]; simpa [newer] using hx.2⟩]
        refine .inr ⟨x, rfl, (hm x).2 (.inr rfl), hx.1, fun z hz hzl => ?_⟩
        rcases (hm z).1 hz with hz | rfl
        · have := h4 z hz hzl; omega
        · exact Int.le_refl _
      · rw [if_neg (fun h => hx ⟨h.1, by have := h.2; rw [h1] at this; simpa [newer] using this⟩)]
        refine .inr ⟨y, h1, (hm y).2 (.inl h2), h3, fun z hz hzl => ?_⟩
        rcases (hm z).1 hz with hz | rfl
        · exact h4 z hz hzl
        · have : ¬ y.2.seq < z.2.seq := fun h => hx ⟨hzl, h⟩
          omega
theorem newestAt_of {bs : List Bk} (h : ChipOk bs) {log : Int} {y : Int × Pg} (hy : y ∈ usedOf bs) (hl : y.2.log = log) (hm : ∀ z ∈ usedOf bs, z.2.log = log → z.2.seq ≤ y.2.seq) : newestAt (usedOf bs) log = some y := by
  rcases newestAt_is log (usedOf bs) with ⟨_, h2⟩ | ⟨z, h1, h2, h3, h4⟩
  · exact absurd hl (h2 y hy)
  · have e1 := hm z h2 h3
    have e2 := h4 y hy hl
    rw [h1, usedOf_distinct h h2 hy (by omega)]
theorem newestAt_no {xs : List (Int × Pg)} {log : Int} (h : ∀ z ∈ xs, z.2.log ≠ log) : newestAt xs log = none := by
  rcases newestAt_is log xs with ⟨h1, _⟩ | ⟨y, _, h2, h3, _⟩
  · exact h1
  · exact absurd h3 (h y h2)
/-- A page more, newer than all. -/
theorem newest_more {bs bs' : List Bk} (h' : ChipOk bs') (h : ChipOk bs) {q : Int × Pg} (hm : ∀ x, x ∈ usedOf bs' ↔ x ∈ usedOf bs ∨ x = q) (hs : ∀ x ∈ usedOf bs, x.2.seq < q.2.seq) (log : Int) :
    newestAt (usedOf bs') log = if q.2.log = log then some q else newestAt (usedOf bs) log := by
  by_cases hq : q.2.log = log
  · rw [if_pos hq]
    refine newestAt_of h' ((hm q).2 (.inr rfl)) hq (fun z hz hzl => ?_)
    rcases (hm z).1 hz with hz | rfl
    · have := hs z hz; omega
    · exact Int.le_refl _
  · rw [if_neg hq]
    rcases newestAt_is log (usedOf bs) with ⟨h1, h2⟩ | ⟨y, h1, h2, h3, h4⟩
    · rw [h1]
      refine newestAt_no (fun z hz => ?_)
      rcases (hm z).1 hz with hz | rfl
      · exact h2 z hz
      · exact hq
    · rw [h1]
      refine newestAt_of h' ((hm y).2 (.inl h2)) h3 (fun z hz hzl => ?_)
      rcases (hm z).1 hz with hz | rfl
      · exact h4 z hz hzl
      · exact absurd hzl hq
/-- Pages less, none of which is the newest of this log. -/
theorem newest_less {bs bs' : List Bk} (h' : ChipOk bs') (h : ChipOk bs) {P : Int × Pg → Prop} (hm : ∀ x, x ∈ usedOf bs' ↔ x ∈ usedOf bs ∧ ¬ P x) {log : Int} (hno : ∀ y, newestAt (usedOf bs) log = some y → ¬ P y) :
    newestAt (usedOf bs') log = newestAt (usedOf bs) log := by
  rcases newestAt_is log (usedOf bs) with ⟨h1, h2⟩ | ⟨y, h1, h2, h3, h4⟩
  · rw [h1]
    exact newestAt_no (fun z hz => h2 z ((hm z).1 hz).1)
  · rw [h1]
    exact newestAt_of h' ((hm y).2 ⟨h2, hno y h1⟩) h3 (fun z hz hzl => h4 z ((hm z).1 hz).1 hzl)

/-- The pages of a chip behind one that was programmed. -/
theorem used_prog {bs : List Bk} {f : Nat} {wf : Int} {ps : List Pg} {p : Pg} (h : ChipOk bs) (h' : ChipOk (bs.set f ⟨wf, padded (ps ++ [p])⟩)) (hx : bs[f]? = some ⟨wf, padded ps⟩) (hlt : ps.length < 4) (hp : p.used = true) (x : Int × Pg) :
    x ∈ usedOf (bs.set f ⟨wf, padded (ps ++ [p])⟩) ↔ x ∈ usedOf bs ∨ x = ((f : Int) * 4 + (ps.length : Int), p) := by
  have hf := (List.getElem?_eq_some_iff.1 hx).1
  rw [usedOf_iff h', usedOf_iff h]
  constructor
  · rintro ⟨b, k, y, hy, hk, h4, e, hu⟩
    by_cases hb : b = f
    · subst hb
      rw [List.getElem?_set_self hf] at hy
      cases hy
      have hk : (padded (ps ++ [p]))[k]? = some x.2 := hk
      rcases Nat.lt_trichotomy k ps.length with hlk | rfl | hgk
      · rw [padded_at (by simp; omega), List.getElem?_append_left hlk] at hk
        exact .inl ⟨b, k, _, hx, by show (padded ps)[k]? = _; rw [padded_at hlk]; exact hk, h4, e, hu⟩
      · rw [padded_at (by simp), List.getElem?_append_right (Nat.le_refl _)] at hk
        simp at hk
        refine .inr (Prod.ext e hk.symm)
      · rw [padded_rest (by simp; omega) h4] at hk
        injection hk with hk
        rw [← hk] at hu
        cases hu
    · rw [List.getElem?_set_ne (fun h => hb h.symm)] at hy
      exact .inl ⟨b, k, y, hy, hk, h4, e, hu⟩
  · rintro (⟨b, k, y, hy, hk, h4, e, hu⟩ | rfl)
    · by_cases hb : b = f
      · subst hb
        rw [hx] at hy
        cases hy
        have hk : (padded ps)[k]? = some x.2 := hk
        by_cases hlk : k < ps.length
        · rw [padded_at hlk] at hk
          refine ⟨b, k, _, List.getElem?_set_self hf, ?_, h4, e, hu⟩
          show (padded (ps ++ [p]))[k]? = _
          rw [padded_at (by simp; omega), List.getElem?_append_left hlk]
          exact hk
        · rw [padded_rest (by omega) h4] at hk
          injection hk with hk
          rw [← hk] at hu
          cases hu
      · exact ⟨b, k, y, by rw [List.getElem?_set_ne (fun h => hb h.symm)]; exact hy, hk, h4, e, hu⟩
    · refine ⟨f, ps.length, _, List.getElem?_set_self hf, ?_, hlt, rfl, hp⟩
      show (padded (ps ++ [p]))[ps.length]? = _
      rw [padded_at (by simp), List.getElem?_append_right (Nat.le_refl _)]
      simp
/-- The pages of a chip behind a block that was erased. -/
theorem used_erase {bs : List Bk} {v : Nat} {wv : Int} (h : ChipOk bs) (h' : ChipOk (bs.set v ⟨wv, zeroBk.pages⟩)) (hv : v < bs.length) (x : Int × Pg) :
    x ∈ usedOf (bs.set v ⟨wv, zeroBk.pages⟩) ↔ x ∈ usedOf bs ∧ ¬ x.1 / 4 = (v : Int) := by
  rw [usedOf_iff h', usedOf_iff h]
  constructor
  · rintro ⟨b, k, y, hy, hk, h4, e, hu⟩
    by_cases hb : b = v
    · subst hb
      rw [List.getElem?_set_self hv] at hy
      cases hy
      have hm := List.mem_of_getElem? hk
      simp [zeroBk] at hm
      rw [hm] at hu
      cases hu
    · rw [List.getElem?_set_ne (fun h => hb h.symm)] at hy
      exact ⟨⟨b, k, y, hy, hk, h4, e, hu⟩, by omega⟩
  · rintro ⟨⟨b, k, y, hy, hk, h4, e, hu⟩, hne⟩
    have hb : ¬ b = v := fun hb => hne (by subst hb; omega)
    exact ⟨b, k, y, by rw [List.getElem?_set_ne (fun h => hb h.symm)]; exact hy, hk, h4, e, hu⟩
theorem topOf_le {xs : List (Int × Pg)} {B : Int} (h : ∀ x ∈ xs, x.2.seq ≤ B) (h0 : 0 ≤ B) : (topOf xs).1 ≤ B := by
  suffices H : ∀ (xs : List (Int × Pg)) (c : Int × Int), c.1 ≤ B → (∀ x ∈ xs, x.2.seq ≤ B) → (xs.foldl topStep c).1 ≤ B from H xs (0, 0) h0 h
  intro xs
  induction xs with
  | nil => intro c hc _; exact hc
  | cons y ys ih =>
    intro c hc hx
    simp only [List.foldl_cons]
    refine ih _ ?_ (fun x hx2 => hx x (by simp [hx2]))
    unfold topStep
    split
    · exact hx y (by simp)
    · exact hc
/-- What is read of a log. -/
def readOf (bs : List Bk) (log : Int) : ByteArray := ((newestAt (usedOf bs) log).map (·.2.data)).getD zeros4
theorem readOf_map {bs : List Bk} (h : ChipOk bs) {i : Nat} (hi : i < roomOf bs) {x : Int} (hx : (placesOf (usedOf bs) (roomOf bs))[i]? = some x) : dataOf bs x = readOf bs (i : Int) := by
  rw [placesOf_at _ _ hi] at hx
  cases hx
  unfold readOf
  cases e : newestAt (usedOf bs) (i : Int) with
  | none => simp [placeIn, dataOf]
  | some y =>
    obtain ⟨hm, hlg⟩ := newestAt_mem e
    obtain ⟨b, k, z, hz, hp, hk, ey, hu⟩ := (usedOf_iff h).1 hm
    simp only [placeIn, Option.map_some, Option.getD_some]
    exact dataOf_at (b := b) (k := k) (by omega) (by omega) (by omega) hz hp
theorem FtlOk.read {bs : List Bk} {L : List Int} {seq o : Int} (h : FtlOk bs L seq o) {i : Nat} {x : Int} (hx : L[i]? = some x) : dataOf bs x = readOf bs (i : Int) := by
  have hi := (List.getElem?_eq_some_iff.1 hx).1
  rw [h.map] at hx
  refine readOf_map h.chip ?_ hx
  have := h.map
  rw [this, placesOf_length] at hi
  exact hi
end Go.Proofs.Ytalgkmellbamgaa
