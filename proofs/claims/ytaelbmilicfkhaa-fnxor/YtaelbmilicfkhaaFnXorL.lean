/- Whatever the code that is drawn from, the law FnXor answers true: texts together are the same backwards, one twice is nothing, each is all the others and what they are together; the program's Xor is the model's there. No condition. -/
import Derived.Test.YtaelbmilicfkhaaRows
import Derived.Test.YtaelbmilicfkhaaXorM
import Derived.Test.YtaelbmilicfkhaaDrX
import Derived.Deep.RegionLaw
import Derived.Test.YtaelbmilicfkhaaAppA
import Derived.Test.YtaelbmilicfkhaaOpenI
import Derived.Test.YtaelbmilicfkhaaLaw0
import Derived.WalkKit
import Derived.ProofKit
import Derived.OpenShut
import Derived.ChangeOld
import Derived.Below
namespace Go.Proofs.Ytaelbmilicfkhaa.fnXor
open Go.ChangeShapes Go.WideShapes Go.ChangeAt Go.RowKit
set_option linter.unusedVariables false
set_option linter.unusedSimpArgs false

theorem xorSays_eq {T : List ByteArray} {e : Ending} (h : XorSays T e) : e = .returned (.tuple #[.string (xorT T), .bool (decide (XorOk T))]) := h

theorem drop_rev {T : List ByteArray} {k : Nat} {x : ByteArray} (hk : 0 < k) (hx : T[k - 1]? = some x) : (T.drop k).reverse ++ [x] = (T.drop (k - 1)).reverse := by
  have h1 := (List.getElem?_eq_some_iff.1 hx)
  obtain ⟨h2, h3⟩ := h1
  rw [List.drop_eq_getElem_cons h2, h3, show k - 1 + 1 = k by omega, List.reverse_cons]

set_option maxRecDepth 100000 in
set_option maxHeartbeats 2000000 in
theorem walk (a : Option Addr) (n c : Nat) (w : World) (h : CodeAt w a n) (hn : n ≤ 9223372036854775807) :
    Calls Try.prog 6 #[.slice a n c] w fun e w' => e = .returned (.bool true) ∧ Below w.heap.size w w' := by
  have HC := hide h
  clear h
  go_enter Try.func6, Try.ntmps6
  go_wp2_with fail
  refine (big_any a n c _ hn).mono ?_
  rintro e w0 ⟨rfl, rfl⟩
  by_cases hbig : (1048576 : Int) < (n : Int)
  · have hd : decide ((1048576 : Int) < (n : Int)) = true := by simpa using hbig
    rw [hd]
    clear hd
    go_wp2
    go_ret
    exact ⟨rfl, Below.refl _ _⟩
  · have hd : decide ((1048576 : Int) < (n : Int)) = false := by simpa using hbig
    have hbig' : n ≤ 1048576 := by omega
    rw [hd]
    clear hd hbig
    go_wp2_with fail
    refine (drawXor_any a n c _ (unhide HC) hbig').mono ?_
    rintro e w1 ⟨v, T, rfl, hO, hT6, hs4, hB1⟩
    obtain ⟨ta, tc, rfl, hTA, htc⟩ := hO.form
    have hsz : ∀ s ∈ T, s.size ≤ 1048576 := fun s hs => by have := hs4 s hs; omega
    have HSZ := hide hsz
    have HT1 := hide hTA
    have hW1 := hB1
    obtain ⟨m, hm⟩ : ∃ m, m = T.length := ⟨_, rfl⟩
    have HM := hide hm
    rw [← hm] at hT6 htc ⊢
    clear hO hTA hB1 HC hm hsz hs4
    go_wp2_with fail
    refine (implXor_any _ _ T m (unhide HM).symm _ (unhide HT1) (by omega) (unhide HSZ)).mono ?_
    rintro e w2 ⟨hr, hB2⟩
    obtain rfl := xorSays_eq hr
    have HT2 := hide ((unhide HT1).below hB2 (Nat.le_refl _))
    have hW2 := hW1.trans (hB2.mono hW1.size)
    clear hr hB2 HT1
    go_wp2_with fail
    refine (specXor_any _ _ T m (unhide HM).symm _ (unhide HT2) (by omega) (unhide HSZ)).mono ?_
    rintro e w3 ⟨hr, hB3⟩
    obtain rfl := xorSays_eq hr
    have HT3 := hide ((unhide HT2).below hB3 (Nat.le_refl _))
    have hW3 := hW2.trans (hB3.mono hW2.size)
    clear hr hB3 HT2
    have hne2 : (decide (XorOk T) != decide (XorOk T)) = false := by simp
    have heq2 : (decide (XorOk T) == decide (XorOk T)) = true := by simp
    by_cases hok : XorOk T
    · have HOK := hide hok
      have hm15 : 1 ≤ m ∧ m ≤ 5 := by have := hok.1; rw [← unhide HM] at this; exact this
      rw [decide_eq_true hok] at hne2 heq2 ⊢
      obtain ⟨S, hS⟩ : ∃ S, S = xorT T := ⟨_, rfl⟩
      have HS := hide hS
      rw [← hS]
      obtain ⟨i0, hi, hz0, hz1, hz2⟩ := info_got infoText
      clear hok hS
      go_wp2
      go_loopw [8, 9] (fun v i wr => ∃ k : Nat, k ≤ m ∧ i = .int .i64 ((k : Int) - 1) ∧ OwnTexts wr 9 w3.heap.size v (T.drop k).reverse ∧ Below w3.heap.size w3 wr) (fun _ i _ => (intOf i + 1).toNat)
      case atStart => exact ⟨m, Nat.le_refl _, rfl, by rw [unhide HM, List.drop_length]; exact OwnTexts.nil w3 9 w3.heap.size (Nat.le_refl _), (Below.refl _ _).alloc (Nat.le_refl _) _⟩
      case round =>
        obtain ⟨k, hk, rfl, hO, hB⟩ := hrel
        by_cases hk0 : 0 < k
        · obtain ⟨x, hx⟩ := getElem?_ex (l := T) (k := k - 1) (by have := unhide HM; omega)
          obtain ⟨b1, o1, rfl, g1⟩ := ((unhide HT3).below hB (Nat.le_refl _)) (k - 1) x hx
          have hk1 : (k : Int) - 1 = ((k - 1 : Nat) : Int) := by omega
          rw [hk1]
          obtain ⟨X, hX⟩ : ∃ X, X = texts (T.drop k).reverse := ⟨_, rfl⟩
          obtain ⟨q, hq⟩ : ∃ q, q = (T.drop k).reverse.length := ⟨_, rfl⟩
          have hRw : wr.ownsRow w3.heap.size 9 1 u8 q X := by rw [hX, hq]; exact hO
          have hq5 : q ≤ 5 := by rw [hq, List.length_reverse, List.length_drop, ← unhide HM]; omega
          have HX := hide (And.intro hX hq)
          have HDR := hide (drop_rev hk0 hx)
          have hszr := hB.size
          clear hX hq hO hx hk1
          go_wp2_with (refine wpList_append_lies _ rfl (.tmp 60) (.tmp 65) 53 rfl w3.heap.size 9 i0 _ 1 16 Try.underlying53 hi hz0 hz1 hz2 rfl (by decide) u8 q X (by simp [Act.eval]) (by exact hRw.alloc _) ⟨wr.heap.size, 0, none⟩ 1 1 [.string x] (by simp [Act.eval]) rfl (World.news_of_block (cs := #[.string x]) (t := 9) (fr := (0, 0)) (by exact Go.Deep.blk_alloc_new _ _)) (by simp [Value.oneCell']) (by omega) (by unfold maxLen; omega) (by omega) (by simp; omega) (wr.heap.size + 1) (by simp) ?_; intro g1' cap w5 hown hgrow hat hlt1)
          go_roundw
          case rel =>
            have hBel : Below w3.heap.size _ w5 := Below.grown (hB.alloc hB.size _) hgrow (by simp; omega) (fun j e => (hRw.lt j e).1)
            refine ⟨k - 1, by omega, by simp, ?_, hBel⟩
            obtain ⟨e1, e2⟩ := unhide HX
            rw [e1] at hown
            rw [← unhide HDR]
            unfold OwnTexts
            simpa [texts, e2] using hown
          case measure => simp [intOf] <;> omega
        · have hk00 : k = 0 := by omega
          subst hk00
          rw [List.drop_zero] at hO
          obtain ⟨ba, bc, rfl, hBA, _⟩ := hO.form
          have hback := xor_back (unhide HOK)
          have hrl : T.reverse.length = m := by rw [List.length_reverse, ← unhide HM]
          have HRL := hide hrl
          have HBA := hide hBA
          have HT4 := hide ((unhide HT3).below hB (Nat.le_refl _))
          have hW4 := hW3.trans (hB.mono hW3.size)
          have HBK := hide hback
          rw [hrl]
          clear hO hBA hback hrl
          go_wp2_with fail
          refine (implXor_any _ _ T.reverse m (unhide HRL) _ (unhide HBA) (by omega) (fun s hs => unhide HSZ s (by simpa using hs))).mono ?_
          rintro e w5 ⟨hr, hB5⟩
          obtain rfl := xorSays_eq hr
          rw [(unhide HBK).2, decide_eq_true (unhide HBK).1, ← unhide HS]
          have HT5 := hide ((unhide HT4).below hB5 (Nat.le_refl _))
          have hW5 := hW4.trans (hB5.mono hW4.size)
          clear hr hB5 HT4 HBA HBK
          have hS4 : S.size = 4 := by rw [unhide HS, xorT_ok (unhide HOK)]; rfl
          have htw := xor_twice hS4
          have HTW := hide htw
          have hB6 : ∀ o, Below w5.heap.size w5 (w5.alloc o) := fun o => (Below.refl _ _).alloc (Nat.le_refl _) _
          have hSS : TextsAt (w5.alloc (.cells #[.string S, .string S] 9)) (some ⟨w5.heap.size, 0, none⟩) [S, S] := by
            intro i x hx
            have hi2 := (List.getElem?_eq_some_iff.1 hx).1
            have h2 : i = 0 ∨ i = 1 := by simp at hi2; omega
            refine ⟨_, _, rfl, ?_⟩
            rcases h2 with rfl | rfl <;> simp_all
          have HSS := hide hSS
          clear htw hSS
          go_wp2_with fail
          refine (implXor_any _ _ [S, S] 2 rfl _ (unhide HSS) (by omega) (fun s hs => by simp at hs; rw [hs]; omega)).mono ?_
          rintro e w6 ⟨hr, hB7⟩
          obtain rfl := xorSays_eq hr
          rw [(unhide HTW).2, decide_eq_true (unhide HTW).1]
          have hB67 := (hB6 (.cells #[.string S, .string S] 9)).trans (hB7.mono (by simp))
          have HT6 := hide ((unhide HT5).below hB67 (Nat.le_refl _))
          have hW6 := hW5.trans (hB67.mono hW5.size)
          clear hr hB7 hB67 HT5 HSS HTW hB6
          go_wp2
          go_loopw [14] (fun i wr => ∃ k : Nat, k ≤ m ∧ i = .int .i64 k ∧ Below w6.heap.size w6 wr) (fun i _ => m - (intOf i).toNat)
          case atStart => exact ⟨0, Nat.zero_le _, rfl, Below.refl _ _⟩
          case round =>
            obtain ⟨k, hk, rfl, hB8⟩ := hrel
            by_cases hkm : k < m
            · by_cases h1m : 1 < m
              · obtain ⟨x, hx⟩ := getElem?_ex (l := T) (k := k) (by have := unhide HM; omega)
                have hTA := (unhide HT6).below hB8 (Nat.le_refl _)
                obtain ⟨b1, o1, rfl, g1⟩ := hTA k x hx
                have hb1 : b1 < wr.heap.size := World.block_lt_of_cell? _ _ g1
                have HTA := hide hTA
                have HX := hide hx
                clear hx hTA
                have hkt : k ≤ tc := by omega
                have hkt1 : k + 1 ≤ tc := by omega
                have hkm1 : k + 1 ≤ m := by omega
                have hnat : ((k : Int) + 1).toNat = k + 1 := by omega
                have hwrap : IntKind.i64.wrap ((k : Int) + 1) = (k : Int) + 1 := by simp [IntKind.wrap, IntKind.bits, IntKind.signed]; omega
                have hk1i : (k : Int) + 1 ≤ (m : Int) := by omega
                have hk0i : 0 ≤ (k : Int) + 1 := by omega
                obtain ⟨X1, hX1⟩ : ∃ X, X = texts (T.take k) := ⟨_, rfl⟩
                obtain ⟨X2, hX2⟩ : ∃ X, X = texts (T.drop (k + 1)) := ⟨_, rfl⟩
                have hl1 : X1.length = k * 1 := by rw [hX1, texts_length, List.length_take]; have := unhide HM; omega
                have hl2 : X2.length = (m - (k + 1)) * 1 := by rw [hX2, texts_length, List.length_drop, ← unhide HM]; omega
                have ho1 : ∀ u ∈ X1, u.oneCell' = true := by rw [hX1]; intro u hu; obtain ⟨y, _, rfl⟩ := List.mem_map.1 hu; rfl
                have ho2 : ∀ u ∈ X2, u.oneCell' = true := by rw [hX2]; intro u hu; obtain ⟨y, _, rfl⟩ := List.mem_map.1 hu; rfl
                have hn1 : ∀ j u, X1[j]? = some u → wr.cell? ⟨b1, o1 + j, none⟩ = some u := by
                  intro j u hu
                  rw [hX1] at hu
                  simp only [texts, List.getElem?_map, Option.map_eq_some_iff] at hu
                  obtain ⟨y, hy, rfl⟩ := hu
                  rw [List.getElem?_take] at hy
                  split at hy
                  · obtain ⟨b2, o2, e2, hc2⟩ := unhide HTA j y hy
                    cases e2
                    exact hc2
                  · cases hy
                have hn2 : ∀ j u, X2[j]? = some u → wr.cell? ⟨b1, o1 + (k + 1) + j, none⟩ = some u := by
                  intro j u hu
                  rw [hX2] at hu
                  simp only [texts, List.getElem?_map, Option.map_eq_some_iff] at hu
                  obtain ⟨y, hy, rfl⟩ := hu
                  rw [List.getElem?_drop] at hy
                  obtain ⟨b2, o2, e2, hc2⟩ := unhide HTA (k + 1 + j) y hy
                  cases e2
                  rw [show o1 + (k + 1) + j = o1 + (k + 1 + j) by omega]
                  exact hc2
                have hadd : ∀ (o j : Nat), (⟨b1, o, none⟩ : Addr).add j = ⟨b1, o + j, none⟩ := fun o j => Go.WideShapes.add_plain _ _ _
                have hn1' : ∀ (ob : Obj) j u, X1[j]? = some u → (wr.alloc ob).drew.cell? ((⟨b1, o1, none⟩ : Addr).add j) = some u := fun ob j u hu => by
                  rw [hadd, cell_drew, cell_alloc_lt _ _ _ _ hb1]; exact hn1 j u hu
                have HX12 := hide (And.intro hX1 hX2)
                have HN1 := hide hn1'
                have HN2 := hide hn2
                have HADD := hide hadd
                have hown1 : (wr.alloc (.cells #[.string S] 9)).drew.ownsRow wr.heap.size 9 1 (.slice (some ⟨wr.heap.size, 0, none⟩) 1 1) 1 [.string S] := World.ownsRow_lit (base := wr.heap.size) (e := 9) (size := 1) wr #[.string S] 1 (Nat.le_refl _) (by unfold maxLen; omega) rfl
                have HO1 := hide hown1
                clear hX1 hX2 hn1 hn2 hn1' hadd hown1 g1
                by_cases htce : tc = k + 1
                · have hmk : m - tc = 0 := by omega
                  have HMK := hide hmk
                  have hl2' : X2.length = 0 * 1 := by omega
                  have hrev : k + 1 = tc := htce.symm
                  clear htce hmk
                  go_wp2
                  go_region_law (first
                    | (refine step_append_all rfl (.tmp 98) (.tmp 101) 53 rfl wr.heap.size 9 i0 _ 1 16 Try.underlying53 hi hz0 hz1 hz2 rfl (by decide) (.slice (some ⟨wr.heap.size, 0, none⟩) 1 1) 1 [.string S] (by simp [Act.eval]) (by exact unhide HO1) (by omega) ⟨b1, o1, none⟩ k tc X1 (by simp [Act.eval]) hl1 (by exact unhide HN1 _) ho1 (by unfold maxLen; omega) (by omega) (by simp) (wr.heap.size + 1) (by simp) ?_
                       intro g2 cap2 w7 hown2 hgrow2 hat2 hlt2)
                    | (refine step_append_all rfl (.tmp 102) (.tmp 106) 53 rfl wr.heap.size 9 i0 _ 1 16 Try.underlying53 hi hz0 hz1 hz2 rfl (by decide) (.slice (some ⟨g2, 0, none⟩) (1 + k) cap2) (1 + k) ([.string S] ++ X1) (by simp [Act.eval]) (by exact hown2) (by omega) ⟨b1, o1, none⟩ 0 0 X2 (by simp [Act.eval]) hl2' (by intro j u hu; have := (List.getElem?_eq_some_iff.1 hu).1; omega) ho2 (by unfold maxLen; omega) (by omega) (by have := hgrow2.size; simp at this; omega) w7.heap.size rfl ?_
                       intro g3 cap3 w8 hown3 hgrow3 hat3 hlt3))
                  all_goals (
                    have hmm : 1 + k + 0 = m := by omega
                    rw [hmm] at hown3
                    have hmm2 : 1 + k = m := by omega
                    rw [hmm2]
                    have hBr : Below wr.heap.size wr w8 := Below.grown (Below.grown ((Below.refl wr.heap.size wr).alloc (Nat.le_refl _) _).drew hgrow2 (by simp) (fun j e => by simp [Value.ownBlock] at e; omega)) hgrow3 (by have := hgrow2.size; simp at this; omega) (fun j e => (hown2.lt j e).1)
                    have hTX : T = T.take k ++ x :: T.drop (k + 1) := by
                      have h2 := (List.getElem?_eq_some_iff.1 (unhide HX))
                      obtain ⟨h3, h4⟩ := h2
                      rw [← h4, ← List.drop_eq_getElem_cons h3, List.take_append_drop]
                    have hrest := xor_rest (A := T.take k) (B := T.drop (k + 1)) (x := x) (by rw [← hTX]; exact unhide HOK)
                    rw [← hTX, ← unhide HS] at hrest
                    obtain ⟨R, hR⟩ : ∃ R, R = S :: T.take k ++ T.drop (k + 1) := ⟨_, rfl⟩
                    rw [← hR] at hrest
                    have hRl : R.length = m := by rw [hR]; simp; have := unhide HM; omega
                    have hRv : texts R = [.string S] ++ X1 ++ X2 := by rw [hR, (unhide HX12).1, (unhide HX12).2]; simp [texts]
                    have hOR : TextsAt w8 (some ⟨g3, 0, none⟩) R := by
                      intro j y hy
                      have hj := (List.getElem?_eq_some_iff.1 hy).1
                      refine ⟨g3, 0, rfl, ?_⟩
                      rw [Nat.zero_add, World.ownsRow.cellAt hown3 j (by omega), ← hRv]
                      simp [texts, hy]
                    have hRs : ∀ s ∈ R, s.size ≤ 1048576 := fun s hs => by have := hrest.1.2 s hs; omega
                    have HOR := hide hOR
                    have HRS := hide hRs
                    have HRE := hide hrest
                    have HRL := hide hRl
                    have hTA8 := (unhide HTA).below hBr (Nat.le_refl _)
                    have HTA8 := hide hTA8
                    have hB9 := hB8.trans (hBr.mono hB8.size)
                    clear hTX hrest hR hRl hRv hOR hRs hTA8 hown2 hown3 hgrow2 hgrow3 hat2 hat3 hlt2 hlt3 hmm hmm2 hl1 hl2 ho1 ho2
                    go_wp2_with fail
                    refine (implXor_any _ _ R m (unhide HRL) _ (unhide HOR) (by omega) (unhide HRS)).mono ?_
                    rintro e w9 ⟨hr, hB10⟩
                    obtain rfl := xorSays_eq hr
                    rw [(unhide HRE).2, decide_eq_true (unhide HRE).1]
                    obtain ⟨b2, o2, e2, g2'⟩ := ((unhide HTA8).below hB10 (Nat.le_refl _)) k x (unhide HX)
                    cases e2
                    have hB11 := hB9.trans (hB10.mono hB9.size)
                    clear hr hB10
                    go_wp2
                    go_roundw
                    case rel => exact ⟨k + 1, by omega, by go_num, hB11⟩
                    case measure => simp [intOf]; omega)
                · go_wp2
                  go_region_law (first
                    | (refine step_append_all rfl (.tmp 98) (.tmp 101) 53 rfl wr.heap.size 9 i0 _ 1 16 Try.underlying53 hi hz0 hz1 hz2 rfl (by decide) (.slice (some ⟨wr.heap.size, 0, none⟩) 1 1) 1 [.string S] (by simp [Act.eval]) (by exact unhide HO1) (by omega) ⟨b1, o1, none⟩ k tc X1 (by simp [Act.eval]) hl1 (by exact unhide HN1 _) ho1 (by unfold maxLen; omega) (by omega) (by simp) (wr.heap.size + 1) (by simp) ?_
                       intro g2 cap2 w7 hown2 hgrow2 hat2 hlt2)
                    | (refine step_append_all rfl (.tmp 102) (.tmp 106) 53 rfl wr.heap.size 9 i0 _ 1 16 Try.underlying53 hi hz0 hz1 hz2 rfl (by decide) (.slice (some ⟨g2, 0, none⟩) (1 + k) cap2) (1 + k) ([.string S] ++ X1) (by simp [Act.eval]) (by exact hown2) (by omega) ⟨b1, o1 + (k + 1), none⟩ (m - (k + 1)) (tc - (k + 1)) X2 (by simp [Act.eval]) hl2 (by intro j u hu; rw [unhide HADD, hgrow2.cell_far ⟨b1, _, none⟩ (by simp; omega) (by simp [Value.ownBlock]; omega), cell_drew, cell_alloc_lt _ _ _ _ hb1]; exact unhide HN2 j u hu) ho2 (by unfold maxLen; omega) (by omega) (by have := hgrow2.size; simp at this; omega) w7.heap.size rfl ?_
                       intro g3 cap3 w8 hown3 hgrow3 hat3 hlt3))
                  all_goals (
                    have hmm : 1 + k + (m - (k + 1)) = m := by omega
                    rw [hmm] at hown3 ⊢
                    have hBr : Below wr.heap.size wr w8 := Below.grown (Below.grown ((Below.refl wr.heap.size wr).alloc (Nat.le_refl _) _).drew hgrow2 (by simp) (fun j e => by simp [Value.ownBlock] at e; omega)) hgrow3 (by have := hgrow2.size; simp at this; omega) (fun j e => (hown2.lt j e).1)
                    have hTX : T = T.take k ++ x :: T.drop (k + 1) := by
                      have h2 := (List.getElem?_eq_some_iff.1 (unhide HX))
                      obtain ⟨h3, h4⟩ := h2
                      rw [← h4, ← List.drop_eq_getElem_cons h3, List.take_append_drop]
                    have hrest := xor_rest (A := T.take k) (B := T.drop (k + 1)) (x := x) (by rw [← hTX]; exact unhide HOK)
                    rw [← hTX, ← unhide HS] at hrest
                    obtain ⟨R, hR⟩ : ∃ R, R = S :: T.take k ++ T.drop (k + 1) := ⟨_, rfl⟩
                    rw [← hR] at hrest
                    have hRl : R.length = m := by rw [hR]; simp; have := unhide HM; omega
                    have hRv : texts R = [.string S] ++ X1 ++ X2 := by rw [hR, (unhide HX12).1, (unhide HX12).2]; simp [texts]
                    have hOR : TextsAt w8 (some ⟨g3, 0, none⟩) R := by
                      intro j y hy
                      have hj := (List.getElem?_eq_some_iff.1 hy).1
                      refine ⟨g3, 0, rfl, ?_⟩
                      rw [Nat.zero_add, World.ownsRow.cellAt hown3 j (by omega), ← hRv]
                      simp [texts, hy]
                    have hRs : ∀ s ∈ R, s.size ≤ 1048576 := fun s hs => by have := hrest.1.2 s hs; omega
                    have HOR := hide hOR
                    have HRS := hide hRs
                    have HRE := hide hrest
                    have HRL := hide hRl
                    have hTA8 := (unhide HTA).below hBr (Nat.le_refl _)
                    have HTA8 := hide hTA8
                    have hB9 := hB8.trans (hBr.mono hB8.size)
                    clear hTX hrest hR hRl hRv hOR hRs hTA8 hown2 hown3 hgrow2 hgrow3 hat2 hat3 hlt2 hlt3 hmm hl1 hl2 ho1 ho2
                    go_wp2_with fail
                    refine (implXor_any _ _ R m (unhide HRL) _ (unhide HOR) (by omega) (unhide HRS)).mono ?_
                    rintro e w9 ⟨hr, hB10⟩
                    obtain rfl := xorSays_eq hr
                    rw [(unhide HRE).2, decide_eq_true (unhide HRE).1]
                    obtain ⟨b2, o2, e2, g2'⟩ := ((unhide HTA8).below hB10 (Nat.le_refl _)) k x (unhide HX)
                    cases e2
                    have hB11 := hB9.trans (hB10.mono hB9.size)
                    clear hr hB10
                    go_wp2
                    go_roundw
                    case rel => exact ⟨k + 1, by omega, by go_num, hB11⟩
                    case measure => simp [intOf]; omega)
              · have hm1 : m = 1 := by omega
                go_wp2
                go_ret
                exact ⟨rfl, hW6.trans (hB8.mono hW6.size)⟩
            · go_wp2
              go_ret
              exact ⟨rfl, hW6.trans (hB8.mono hW6.size)⟩
    · rw [decide_eq_false hok] at hne2 heq2 ⊢
      go_wp2
      go_ret
      exact ⟨rfl, hW3⟩

set_option maxRecDepth 100000 in
theorem lifted (os : Os) (started : os.Started) (H : Type) (enc : TypeId × Value → H) :
    ReturnsInHanded {} Try.checked os 6 .any (Rows.fnXorSpec.pre6 enc Try.prog Try.f6 Rows.fnXorRow.domain false) (Rows.fnXorSpec.post enc Try.prog Try.f6 false true false false) := by
  refine returnsInHanded_of_change (C := Try.checked) own started (by kernel_rfl) Try.func6
    (ChangeSpec.witness6 (enc := enc) (C := Try.checked) false ⟨#[], #[.slice none 0 0], []⟩ 8 (by kernel_rfl) (by kernel_rfl) (by kernel_rfl) (by kernel_rfl)) ?_
  intro W base args ds gs before hval0 hW hcnd _
  have hval : ∀ (j : Nat) t v, Try.f6.params[j]? = some t → args[j]? = some v → Value.okWide Try.prog W .any base t v := hval0
  have hW' := hW
  obtain ⟨p, q, hA0, hV, rfl, hfz, hnd⟩ := hW
  have hA : DataW.TrodAll enc Try.prog W 0 (fun _ => true) true Try.f6.params.toList args.toList ds p := hA0
  rw [Try.params6] at hA hval
  obtain ⟨v0, vs0, d0, ds0, p0, q0, hargs, rfl, rfl, h0, r0⟩ := trodAll_cons hA
  obtain ⟨rfl, rfl, rfl⟩ := trodAll_nil r0
  obtain rfl : args = #[v0] := by cases args; simp_all
  obtain ⟨rfl, rfl⟩ := trodVars_none hV
  have k0 := h0
  have lt0 : ∀ x ∈ p0, x.block < W.heap.size := by obtain ⟨m, hm⟩ := k0; exact DataW.trod_lt m _ _ _ hm
  obtain ⟨a, n, c, rfl, hL, hlen⟩ := open_code Try.underlying22 Try.underlying5 (by kernel_rfl) (hval 0 22 v0 rfl rfl) h0

  clear hA0 hval0
  refine (walk a n c W hL hlen).mono fun e W' ⟨he, bel⟩ => ?_
  subst he
  exact ⟨_, rfl, _, _, _, [], _, [], hW', trodAll_mk1 (shut_bool Try.underlying4 _), (trodAll_cons_mk (Below.trod laidOut (by kernel_rfl) (of_decide_eq_true (by kernel_rfl)) k0 bel lt0) trodAll_mk0), rfl, bel.frame _, fun h => by cases h⟩

theorem over : Rows.fnXorRow.holds Try.pinned (OpenSpec.ofChange Rows.fnXorSpec) :=
  OpenClaim.holds_of_wide 6 Try.f6 rfl rfl rfl rfl rfl rfl rfl ⟨rfl, rfl, rfl, rfl, rfl⟩ rfl rfl rfl rfl rfl (by kernel_rfl) Try.func6 (by kernel_rfl)
    (of_decide_eq_true (by kernel_rfl)) (by unfold Func.isWrapper; first | (rw [if_pos (by decide +kernel)]; kernel_rfl) | (rw [if_neg (by decide +kernel)]; exact ⟨rfl, rfl⟩))
    (fun os started H enc _ => lifted os started H enc)

end Go.Proofs.Ytaelbmilicfkhaa.fnXor
namespace Go.Proofs.Ytaelbmilicfkhaa
theorem fnxor_holds : Rows.FnXorSaid := fnXor.over
end Go.Proofs.Ytaelbmilicfkhaa
