/- Drawn lists of texts. -/
import Derived.Test.YtaelbmilicfkhaaChecked
import Derived.Test.YtaelbmilicfkhaaTextO
import Derived.WalkKit
import Derived.Outline
namespace Go.Proofs.Ytaelbmilicfkhaa
open Go.RowKit
set_option linter.unusedVariables false
set_option linter.unusedSimpArgs false

set_option maxRecDepth 100000 in
set_option maxHeartbeats 1000000 in
theorem drawXor_any (a : Option Addr) (n c : Nat) (w : World) (h : CodeAt w a n) (hn : n ≤ 1048576) :
    Calls Try.prog 38 #[.slice a n c] w fun e w' => ∃ v T, e = .returned v ∧ OwnTexts w' 9 w.heap.size v T ∧ T.length ≤ 6 ∧ (∀ s ∈ T, s.size ≤ 4) ∧ Below w.heap.size w w' := by
  go_enter Try.func38, Try.ntmps38
  go_wp2_with fail
  refine (l1Open_any a n c _ h hn).mono ?_
  rintro e w1 ⟨rfl, hR, hB⟩
  have HR := hide hR
  have hr1 := hR.lt
  have hB1 : ∀ o, Below w1.heap.size w1 (w1.alloc o) := fun o => (Below.refl _ _).alloc (Nat.le_refl _) _
  clear h hR
  go_wp2_with fail
  refine (below_any w.heap.size 6 _ ((unhide HR).below (hB1 _)) (by omega) (by omega)).mono ?_
  rintro e w2 ⟨x, rfl, hx0, hx1, hR2, hT2⟩
  have HR2 := hide hR2
  have hO2 : OwnTexts w2 9 w1.heap.size (.slice (some ⟨w1.heap.size, 0, none⟩) 0 0) [] := (OwnTexts.nil w1 9 w1.heap.size (Nat.le_refl _)).touch hr1 hT2
  have HO2 := hide hO2
  have hT2' := (Touch.of_below (hB1 _)).trans hT2
  clear HR hR2 hO2 hT2 hB1
  obtain ⟨N, rfl⟩ := Int.eq_ofNat_of_zero_le hx0
  go_wp2
  go_loopw [4, 5] (fun v i wr => ∃ (k : Nat) (T : List ByteArray), i = .int .i64 k ∧ k + T.length = N ∧ (∀ s ∈ T, s.size ≤ 4) ∧ OwnTexts wr 9 w1.heap.size v T ∧ RdAt wr w.heap.size ∧ Touch (· = w.heap.size) w1 wr) (fun _ i _ => (intOf i).toNat)
  case atStart => exact ⟨N, [], by simp, by simp, by simp, unhide HO2, unhide HR2, hT2'⟩
  case round =>
    obtain ⟨k, T, rfl, hkl, hs4, hO, hR3, hT3⟩ := hrel
    have HO := hide hO
    have HR3 := hide hR3
    have HS4 := hide hs4
    have hsz := hT3.size
    clear hO hR3 HO2 HR2 hs4
    obtain ⟨i0, hi, hz0, hz1, hz2⟩ := info_got infoText
    by_cases hk : 0 < k
    · go_wp2_with fail
      refine (data_any w.heap.size _ (unhide HR3)).mono ?_
      rintro e w4 ⟨y, rfl, hy4, hR4, hT4⟩
      have HR4 := hide hR4
      have hO4 := (unhide HO).touch hr1 hT4
      have hsz4 := hT4.size
      obtain ⟨X, hX⟩ : ∃ X, X = texts T := ⟨_, rfl⟩
      obtain ⟨m, hm⟩ : ∃ m, m = T.length := ⟨_, rfl⟩
      have hRw : w4.ownsRow w1.heap.size 9 1 u4 m X := by rw [hX, hm]; exact hO4
      have hm5 : m ≤ 5 := by omega
      have HX := hide (And.intro hX hm)
      have hT5 := hT3.trans hT4
      clear hX hm hR4 HR3 HO hO4 hT3 hT4
      go_wp2_with (refine wpList_append_lies _ rfl (.tmp 15) (.tmp 18) 53 rfl w1.heap.size 9 i0 _ 1 16 Try.underlying53 hi hz0 hz1 hz2 rfl (by decide) u4 m X (by simp [Act.eval]) (by exact hRw.alloc _) ⟨w4.heap.size, 0, none⟩ 1 1 [.string y] (by simp [Act.eval]) rfl (World.news_of_block (cs := #[.string y]) (t := 9) (fr := (0, 0)) (by exact Go.Deep.blk_alloc_new _ _)) (by simp [Value.oneCell']) (by omega) (by unfold maxLen; omega) (by omega) (by simp; omega) (w4.heap.size + 1) (by simp) ?_; intro g1 cap w5 hown hgrow hat hlt1)
      go_roundw
      case rel =>
        have hBel : Below w1.heap.size _ w5 := Below.grown (Below.refl _ _) hgrow (by simp; omega) (fun j e => (hRw.lt j e).1)
        refine ⟨k - 1, T ++ [y], by rw [show ((k - 1 : Nat) : Int) = (k : Int) - 1 by omega], by simp; omega, ?_, ?_, ((unhide HR4).below ((Below.refl _ _).alloc (Nat.le_refl _) _)).past hBel hr1, (hT5.alloc _).past hBel (Nat.le_refl _)⟩
        · intro s hs
          simp at hs
          rcases hs with hs | rfl
          · exact unhide HS4 s hs
          · omega
        · obtain ⟨e1, e2⟩ := unhide HX
          rw [e1, e2] at hown
          rw [e2]
          simpa [OwnTexts, texts] using hown
      case measure => simp [intOf]; omega
    · have hk0 : k = 0 := by omega
      subst hk0
      go_wp2_with fail
      refine (once_any w.heap.size 12 _ (unhide HR3) (by omega) (by omega)).mono ?_
      rintro e w4 ⟨z, rfl, hR4, hT4⟩
      have hO4 := (unhide HO).touch hr1 hT4
      have hT5 := hT3.trans hT4
      have hfin : ∀ (W : World), Touch (· = w.heap.size) w1 W → Below w.heap.size w W := fun _ hT => hB.trans (hT.below hB.size (fun k hk => by subst hk; exact Nat.le_refl _))
      have up : ∀ (W : World) (v : Value) (T : List ByteArray), OwnTexts W 9 w1.heap.size v T → OwnTexts W 9 w.heap.size v T := fun _ _ _ hO => by
        refine ⟨hO.1, ?_⟩
        rcases hO.2 with q | ⟨g, cap, cur, e1, e2, e3⟩
        · exact .inl q
        · exact .inr ⟨g, cap, cur, e1, by have := hB.size; omega, e3⟩
      have HUP := hide up
      have HFIN := hide hfin
      have HO4 := hide hO4
      clear HR3 HO hR4 hT3 hT4 up hfin
      cases hb : (z == (12 : Int) - 1) with
      | false =>
        clear hO4
        go_wp2
        go_ret
        exact ⟨_, T, rfl, unhide HUP _ _ _ (unhide HO4), by omega, unhide HS4, unhide HFIN _ hT5⟩
      | true =>
        obtain ⟨X, hX⟩ : ∃ X, X = texts T := ⟨_, rfl⟩
        obtain ⟨m, hm⟩ : ∃ m, m = T.length := ⟨_, rfl⟩
        have hRw : w4.ownsRow w1.heap.size 9 1 u4 m X := by rw [hX, hm]; exact hO4
        have hm5 : m ≤ 5 := by omega
        have HX := hide (And.intro hX hm)
        have hsz5 := hT5.size
        clear hX hm hO4 HO4
        go_wp2_with (refine wpList_append_lies _ rfl (.tmp 22) (.tmp 23) 53 rfl w1.heap.size 9 i0 _ 1 16 Try.underlying53 hi hz0 hz1 hz2 rfl (by decide) u4 m X (by simp [Act.eval]) (by exact hRw.alloc _) ⟨w4.heap.size, 0, none⟩ 1 1 [.string ⟨#[97, 98, 99]⟩] (by simp [Act.eval]) rfl (World.news_of_block (cs := #[.string ⟨#[97, 98, 99]⟩]) (t := 9) (fr := (0, 0)) (by exact Go.Deep.blk_alloc_new _ _)) (by simp [Value.oneCell']) (by omega) (by unfold maxLen; omega) (by omega) (by simp; omega) (w4.heap.size + 1) (by simp) ?_; intro g1 cap w5 hown hgrow hat hlt1)
        go_ret
        have hBel : Below w1.heap.size _ w5 := Below.grown (Below.refl _ _) hgrow (by simp; omega) (fun j e => (hRw.lt j e).1)
        refine ⟨_, T ++ [⟨#[97, 98, 99]⟩], rfl, unhide HUP _ _ _ ?_, by simp; omega, ?_, unhide HFIN _ ((hT5.alloc _).past hBel (Nat.le_refl _))⟩
        · obtain ⟨e1, e2⟩ := unhide HX
          rw [e1, e2] at hown
          simpa [OwnTexts, texts, e2] using hown
        · intro s hs
          simp at hs
          rcases hs with hs | rfl
          · exact unhide HS4 s hs
          · show (3 : Nat) ≤ 4
            omega

end Go.Proofs.Ytaelbmilicfkhaa
