/- What chapter 5's laws draw. -/
import Derived.Test.YtaelbmilicfkhaaChecked
import Derived.Test.YtaelbmilicfkhaaWts
import Derived.Test.YtaelbmilicfkhaaDr0
import Derived.WalkKit
import Derived.Outline
namespace Go.Proofs.Ytaelbmilicfkhaa
open Go.RowKit
set_option linter.unusedVariables false
set_option linter.unusedSimpArgs false

/-- A drawn list, as it lies: told for a length by name. -/
def DrawnAt (w : World) (a : Option Addr) (n : Nat) (L : List Int) : Prop := IntsAt w a L ∧ L.length = n ∧ 2 ≤ n ∧ n ≤ 5

theorem DrawnAt.below {w w' : World} {a : Option Addr} {n B : Nat} {L : List Int} (h : DrawnAt w a n L) (hb : Below B w w') (hB : w.heap.size ≤ B) : DrawnAt w' a n L := ⟨h.1.below hb hB, h.2⟩

set_option maxHeartbeats 1000000 in
theorem drawParityOf_any (a : Option Addr) (n c : Nat) (w : World) (h : CodeAt w a n) (hn : n ≤ 1048576) :
    Calls Try.prog 35 #[.slice a n c] w fun e w' => ∃ g len cap z L, e = .returned (.tuple #[.slice (some ⟨g, 0, none⟩) len cap, .int .i64 z]) ∧ DrawnAt w' (some ⟨g, 0, none⟩) len L ∧ Below w.heap.size w w' := by
  go_enter Try.func35, Try.ntmps35
  go_wp2_with fail
  refine (l1Open_any a n c _ h hn).mono ?_
  rintro e w1 ⟨rfl, hR, hB⟩
  have HR := hide hR
  have hsz := hB.size
  clear h hR
  go_wp2_with fail
  refine (weights_any w.heap.size _ (unhide HR)).mono ?_
  rintro e w2 ⟨v, L, rfl, ⟨g, cap, rfl, hg, hgl, hI, hl2, hl5⟩, hR2, hT2⟩
  have HR2 := hide hR2
  have HI := hide hI
  have hB2 := hB.trans (hT2.below hsz (fun k hk => by subst hk; exact Nat.le_refl _))
  have hrl := hR2.lt
  have hr1 := (unhide HR).lt
  obtain ⟨m, hm⟩ : ∃ m, m = L.length := ⟨_, rfl⟩
  have HM := hide hm
  rw [← hm] at hl2 hl5 ⊢
  clear hR2 hI HR hT2 hB hm
  go_wp2_with fail
  refine (once_any w.heap.size 8 _ (unhide HR2) (by omega) (by omega)).mono ?_
  rintro e w3 ⟨x, rfl, hR3, hT3⟩
  have HR3 := hide hR3
  have HI3 := hide ((unhide HI).touch (by omega) hT3)
  have hB3 := hB2.trans (hT3.below hB2.size (fun k hk => by subst hk; exact Nat.le_refl _))
  have hs3 := hT3.size
  clear hR3 HR2 HI hT3
  cases hb : (x == (8 : Int) - 1) with
  | false =>
    go_wp2_with fail
    refine (below_any w.heap.size 40 _ (unhide HR3) (by omega) (by omega)).mono ?_
    rintro e w4 ⟨y, rfl, hy0, hy1, hR4, hT4⟩
    have HI4 := hide ((unhide HI3).touch (by omega) hT4)
    have hB4 := hB3.trans (hT4.below hB3.size (fun k hk => by subst hk; exact Nat.le_refl _))
    clear hR4 HR3 HI3 hT4
    go_wp2
    go_ret2
    exact ⟨g, m, cap, _, L, rfl, ⟨unhide HI4, (unhide HM).symm, hl2, hl5⟩, hB4⟩
  | true =>
    go_wp2_with fail
    refine (off_any w.heap.size 0 1000000000 _ (unhide HR3) (by omega) (by omega) (by omega)).mono ?_
    rintro e w4 ⟨y, rfl, hR4, hT4⟩
    have HI4 := hide ((unhide HI3).touch (by omega) hT4)
    have hB4 := hB3.trans (hT4.below hB3.size (fun k hk => by subst hk; exact Nat.le_refl _))
    clear hR4 HR3 HI3 hT4
    go_wp2
    go_ret2
    exact ⟨g, m, cap, _, L, rfl, ⟨unhide HI4, (unhide HM).symm, hl2, hl5⟩, hB4⟩

set_option maxHeartbeats 1000000 in
theorem drawPlaceOf_any (a : Option Addr) (n c : Nat) (w : World) (h : CodeAt w a n) (hn : n ≤ 1048576) :
    Calls Try.prog 26 #[.slice a n c] w fun e w' => ∃ g len cap z L, e = .returned (.tuple #[.slice (some ⟨g, 0, none⟩) len cap, .int .i64 z]) ∧ DrawnAt w' (some ⟨g, 0, none⟩) len L ∧ Below w.heap.size w w' := by
  go_enter Try.func26, Try.ntmps26
  go_wp2_with fail
  refine (drawParityOf_any a n c _ h hn).mono ?_
  rintro e w1 ⟨g, len, cap, z, L, rfl, hD, hB⟩
  have HD := hide hD
  clear h hD
  go_wp2
  go_ret2
  exact ⟨g, len, cap, z, L, rfl, unhide HD, hB⟩

set_option maxHeartbeats 1000000 in
theorem drawLbaOf_any (a : Option Addr) (n c : Nat) (w : World) (h : CodeAt w a n) (hn : n ≤ 1048576) :
    Calls Try.prog 33 #[.slice a n c] w fun e w' => ∃ g len cap y z L, e = .returned (.tuple #[.slice (some ⟨g, 0, none⟩) len cap, .int .i64 y, .int .i64 z]) ∧ DrawnAt w' (some ⟨g, 0, none⟩) len L ∧ Below w.heap.size w w' := by
  go_enter Try.func33, Try.ntmps33
  go_wp2_with fail
  refine (l1Open_any a n c _ h hn).mono ?_
  rintro e w1 ⟨rfl, hR, hB⟩
  have HR := hide hR
  have hsz := hB.size
  clear h hR
  go_wp2_with fail
  refine (weights_any w.heap.size _ (unhide HR)).mono ?_
  rintro e w2 ⟨v, L, rfl, ⟨g, cap, rfl, hg, hgl, hI, hl2, hl5⟩, hR2, hT2⟩
  have HR2 := hide hR2
  have HI := hide hI
  have hB2 := hB.trans (hT2.below hsz (fun k hk => by subst hk; exact Nat.le_refl _))
  have hrl := hR2.lt
  have hr1 := (unhide HR).lt
  obtain ⟨m, hm⟩ : ∃ m, m = L.length := ⟨_, rfl⟩
  have HM := hide hm
  rw [← hm] at hl2 hl5 ⊢
  clear hR2 hI HR hT2 hB hm
  go_wp2_with fail
  refine (off_any w.heap.size 0 ((m : Int) - 1) _ (unhide HR2) (by omega) (by omega) (by omega)).mono ?_
  rintro e w3 ⟨x, rfl, hR3, hT3⟩
  have HR3 := hide hR3
  have HI3 := hide ((unhide HI).touch (by omega) hT3)
  have hB3 := hB2.trans (hT3.below hB2.size (fun k hk => by subst hk; exact Nat.le_refl _))
  have hs3 := hT3.size
  clear hR3 HR2 HI hT3
  go_wp2_with fail
  refine (below_any w.heap.size 40 _ (unhide HR3) (by omega) (by omega)).mono ?_
  rintro e w4 ⟨y, rfl, hy0, hy1, hR4, hT4⟩
  have HI4 := hide ((unhide HI3).touch (by omega) hT4)
  have hB4 := hB3.trans (hT4.below hB3.size (fun k hk => by subst hk; exact Nat.le_refl _))
  clear hR4 HR3 HI3 hT4
  go_wp2
  exact bodyPost_ret (v := .tuple #[.slice (some ⟨g, 0, none⟩) m cap, .int .i64 x, .int .i64 y]) (by simp [results, Try.results33, go_sem]) rfl ⟨g, m, cap, _, _, L, rfl, ⟨unhide HI4, (unhide HM).symm, hl2, hl5⟩, hB4⟩

end Go.Proofs.Ytaelbmilicfkhaa
