/- The laws' own measure of an argument: it answers a number not above the one that it was given; not below nought only where no list is longer than that. -/
import Derived.Test.YtageolbmplhgaaaChecked
import Derived.Test.YtageolbmplhgaaaMem
import Derived.WalkKit
import Derived.Outline
namespace Go.Proofs.Ytageolbmplhgaaa
open Go.RowKit
set_option linter.unusedVariables false

theorem szPage_any (u : Bool) (l s left : Int) (d : ByteArray) (w : World) (h0 : 0 ≤ left) (h1 : left ≤ 1048576) (hd : d.size ≤ 9223372036854775807) :
    Calls Try.prog 26 #[.agg #[.bool u, .int .i64 l, .int .i64 s, .string d], .int .i64 left] w fun e w' => ∃ n : Int, e = .returned (.int .i64 n) ∧ n ≤ left ∧ Below w.heap.size w w' := by
  by_cases hc : left - d.size < 0
  · go_enter Try.func26, Try.ntmps26
    go_wp2
    go_ret
    exact ⟨_, rfl, by omega, (Below.refl _ _).alloc (Nat.le_refl _) _⟩
  · go_enter Try.func26, Try.ntmps26
    go_wp2
    go_ret
    exact ⟨_, rfl, by omega, (Below.refl _ _).alloc (Nat.le_refl _) _⟩

set_option maxHeartbeats 1000000 in
theorem szPageS_any (a : Option Addr) (c : Nat) (ps : List Pg) (left : Int) (w : World) (h : PagesAt w a ps) (hn : ps.length ≤ 9223372036854775807) (ht : ∀ p ∈ ps, p.data.size ≤ 9223372036854775807) (h0 : 0 ≤ left) (h1 : left ≤ 1048576) :
    Calls Try.prog 105 #[.slice a ps.length c, .int .i64 left] w fun e w' => ∃ n : Int, e = .returned (.int .i64 n) ∧ n ≤ left ∧ (0 ≤ n → ps.length ≤ 1048576) ∧ Below w.heap.size w w' := by
  by_cases hc : left - ps.length < 0
  · go_enter Try.func105, Try.ntmps105
    go_wp2
    go_ret
    exact ⟨_, rfl, by omega, by omega, Below.refl _ _⟩
  · have hl : ps.length ≤ 1048576 := by omega
    go_enter Try.func105, Try.ntmps105
    go_wp2
    go_loopw [1, 5] (fun v i wr => ∃ (k : Nat) (m : Int), k ≤ ps.length ∧ i = .int .i64 k ∧ v = .int .i64 m ∧ 0 ≤ m ∧ m ≤ left ∧ Below w.heap.size w wr) (fun _ i _ => ps.length - (intOf i).toNat)
    case atStart => exact ⟨0, _, Nat.zero_le _, rfl, rfl, by omega, by omega, Below.refl _ _⟩
    case round =>
      obtain ⟨k, m, hk, rfl, rfl, hm0, hm1, hB⟩ := hrel
      by_cases hlt : k < ps.length
      · obtain ⟨p, hp⟩ := getElem?_ex hlt
        obtain ⟨b1, o1, rfl, g10, g11, g12, g13⟩ := (h.below hB (Nat.le_refl _)) k p hp
        have hd := ht p (List.mem_of_getElem? hp)
        clear hp h
        go_wp2_with fail
        refine (szPage_any _ _ _ _ _ _ hm0 (by omega) hd).mono ?_
        rintro e w1 ⟨n, rfl, hn1, hb⟩
        by_cases hneg : n < 0
        · go_wp2
          go_ret
          exact ⟨_, rfl, by omega, by omega, hB.trans (hb.mono hB.size)⟩
        · go_wp2
          go_roundw
          case rel => exact ⟨k + 1, n, by omega, by go_num, rfl, by omega, by omega, hB.trans (hb.mono hB.size)⟩
          case measure => simp [intOf]; omega
      · go_wp2
        go_ret
        exact ⟨_, rfl, hm1, fun _ => hl, hB⟩

theorem szBlock_any (x : Int) (a : Option Addr) (c : Nat) (ps : List Pg) (left : Int) (w : World) (h : PagesAt w a ps) (hn : ps.length ≤ 9223372036854775807) (ht : ∀ p ∈ ps, p.data.size ≤ 9223372036854775807) (h0 : 0 ≤ left) (h1 : left ≤ 1048576) :
    Calls Try.prog 87 #[.agg #[.int .i64 x, .slice a ps.length c], .int .i64 left] w fun e w' => ∃ n : Int, e = .returned (.int .i64 n) ∧ n ≤ left ∧ (0 ≤ n → ps.length ≤ 1048576) ∧ Below w.heap.size w w' := by
  go_enter Try.func87, Try.ntmps87
  go_wp2_with fail
  have hb0 : ∀ o1, Below w.heap.size w (w.alloc o1) := fun o1 => (Below.refl _ w).alloc (Nat.le_refl _) _
  refine (szPageS_any a c ps left _ (h.below (hb0 _) (Nat.le_refl _)) hn ht h0 h1).mono ?_
  rintro e w1 ⟨n, rfl, hn1, hn2, hb⟩
  clear h
  by_cases hneg : n < 0
  · go_wp2
    go_ret
    exact ⟨_, rfl, by omega, by omega, (hb0 _).trans (hb.mono (by simp))⟩
  · go_wp2
    go_ret
    exact ⟨_, rfl, by omega, hn2, (hb0 _).trans (hb.mono (by simp))⟩

set_option maxHeartbeats 1000000 in
theorem szBlockS_any (a : Option Addr) (c : Nat) (bs : List Bk) (left : Int) (w : World) (h : BlocksAt w a bs) (hn : Lens 9223372036854775807 bs) (ht : Texts bs) (h0 : 0 ≤ left) (h1 : left ≤ 1048576) :
    Calls Try.prog 54 #[.slice a bs.length c, .int .i64 left] w fun e w' => ∃ n : Int, e = .returned (.int .i64 n) ∧ n ≤ left ∧ (0 ≤ n → Lens 1048576 bs) ∧ Below w.heap.size w w' := by
  have hn1 := hn.1
  by_cases hc : left - bs.length < 0
  · go_enter Try.func54, Try.ntmps54
    go_wp2
    go_ret
    exact ⟨_, rfl, by omega, by omega, Below.refl _ _⟩
  · have hl : bs.length ≤ 1048576 := by omega
    go_enter Try.func54, Try.ntmps54
    go_wp2
    go_loopw [1, 5] (fun v i wr => ∃ (k : Nat) (m : Int), k ≤ bs.length ∧ i = .int .i64 k ∧ v = .int .i64 m ∧ 0 ≤ m ∧ m ≤ left ∧ (∀ j b, j < k → bs[j]? = some b → b.pages.length ≤ 1048576) ∧ Below w.heap.size w wr) (fun _ i _ => bs.length - (intOf i).toNat)
    case atStart => exact ⟨0, _, Nat.zero_le _, rfl, rfl, by omega, by omega, fun _ _ hj => absurd hj (Nat.not_lt_zero _), Below.refl _ _⟩
    case round =>
      obtain ⟨k, m, hk, rfl, rfl, hm0, hm1, hall, hB⟩ := hrel
      by_cases hlt : k < bs.length
      · obtain ⟨p, hp⟩ := getElem?_ex hlt
        obtain ⟨b1, o1, pa, pc, rfl, g10, g11, q⟩ := (h.below hB (Nat.le_refl _)) k p hp
        have hd := ht.at hp
        have hpl := hn.at hp
        have HP := hide hp
        have HA := hide hall
        clear hp h hall
        go_wp2_with fail
        refine (szBlock_any _ _ _ _ _ _ q hpl hd hm0 (by omega)).mono ?_
        rintro e w1 ⟨n, rfl, hn1, hn2, hb⟩
        have HN := hide hn2
        clear q hn2
        by_cases hneg : n < 0
        · go_wp2
          go_ret
          exact ⟨_, rfl, by omega, by omega, hB.trans (hb.mono hB.size)⟩
        · go_wp2
          go_roundw
          case rel =>
            refine ⟨k + 1, n, by omega, by go_num, rfl, by omega, by omega, ?_, hB.trans (hb.mono hB.size)⟩
            intro j b hj hbj
            by_cases e : j = k
            · subst e
              rw [unhide HP] at hbj
              cases hbj
              exact unhide HN (by omega)
            · exact unhide HA j b (by omega) hbj
          case measure => simp [intOf]; omega
      · have hfin : Lens 1048576 bs := ⟨hl, fun b hb => by
          obtain ⟨j, hj, rfl⟩ := List.getElem_of_mem hb
          exact hall j _ (by omega) (by simp [hj])⟩
        have HA := hide hall
        clear hall
        go_wp2
        go_ret
        exact ⟨_, rfl, hm1, fun _ => hfin, hB⟩

theorem szChip_any (a : Option Addr) (c : Nat) (bs : List Bk) (left : Int) (w : World) (h : BlocksAt w a bs) (hn : Lens 9223372036854775807 bs) (ht : Texts bs) (h0 : 0 ≤ left) (h1 : left ≤ 1048576) :
    Calls Try.prog 15 #[.agg #[.slice a bs.length c], .int .i64 left] w fun e w' => ∃ n : Int, e = .returned (.int .i64 n) ∧ n ≤ left ∧ (0 ≤ n → Lens 1048576 bs) ∧ Below w.heap.size w w' := by
  go_enter Try.func15, Try.ntmps15
  go_wp2_with fail
  have hb0 : ∀ o1, Below w.heap.size w (w.alloc o1) := fun o1 => (Below.refl _ w).alloc (Nat.le_refl _) _
  refine (szBlockS_any a c bs left _ (h.below (hb0 _) (Nat.le_refl _)) hn ht h0 h1).mono ?_
  rintro e w1 ⟨n, rfl, hn1, hn2, hb⟩
  have HN := hide hn2
  clear h hn2
  by_cases hneg : n < 0
  · go_wp2
    go_ret
    exact ⟨_, rfl, by omega, by omega, (hb0 _).trans (hb.mono (by simp))⟩
  · go_wp2
    go_ret
    exact ⟨_, rfl, by omega, unhide HN, (hb0 _).trans (hb.mono (by simp))⟩
end Go.Proofs.Ytageolbmplhgaaa
