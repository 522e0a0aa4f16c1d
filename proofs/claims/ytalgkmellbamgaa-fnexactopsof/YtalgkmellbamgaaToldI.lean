/- Ops as the program tells them: told and toldOps. -/
import Derived.Test.YtalgkmellbamgaaEmpI
import Derived.Test.YtalgkmellbamgaaOpT
import Derived.WalkKit
import Derived.Outline
import Derived.Deep.MidRow
namespace Go.Proofs.Ytalgkmellbamgaa
open Go.RowKit
set_option linter.unusedVariables false
set_option linter.unusedSimpArgs false

theorem isZero_eq {p : Pg} (h : isZero p = true) : p = zeroPg := by
  obtain ⟨u, l, s, d⟩ := p
  unfold isZero at h
  simp only [Bool.and_eq_true, Bool.not_eq_true', decide_eq_true_eq] at h
  obtain ⟨⟨⟨rfl, rfl⟩, rfl⟩, hd⟩ := h
  have : d = ByteArray.empty := by
    obtain ⟨a⟩ := d
    have e : a = #[] := Array.eq_empty_of_size_eq_zero hd
    rw [e]; rfl
  rw [this]
  rfl

set_option maxHeartbeats 1000000 in
theorem toldProg_any (b : Int) (u : Bool) (l s : Int) (d : ByteArray) (w : World) :
    Calls Try.prog 193 #[.agg #[.int .i64 b, .bool u, .int .i64 l, .int .i64 s, .string d]] w fun e w' => e = .returned (.agg #[.int .i64 1, .int .i64 b, .bool u, .int .i64 l, .int .i64 s, .string d]) ∧ Below w.heap.size w w' := by
  go_enter Try.func193, Try.ntmps193
  go_wp2
  refine bodyPost_ret (v := .agg #[.int .i64 1, .int .i64 b, .bool u, .int .i64 l, .int .i64 s, .string d]) (by simp [results, Try.results193, go_sem]) rfl ⟨rfl, ?_⟩
  exact ((Below.refl _ w).alloc (Nat.le_refl _) _).alloc (by simp) _

set_option maxHeartbeats 1000000 in
theorem toldEra_any (b : Int) (w : World) :
    Calls Try.prog 194 #[.agg #[.int .i64 b]] w fun e w' => e = .returned (.agg #[.int .i64 2, .int .i64 b, .bool false, .int .i64 0, .int .i64 0, .string ⟨#[]⟩]) ∧ Below w.heap.size w w' := by
  go_enter Try.func194, Try.ntmps194
  go_wp2
  refine bodyPost_ret (v := .agg #[.int .i64 2, .int .i64 b, .bool false, .int .i64 0, .int .i64 0, .string ⟨#[]⟩]) (by simp [results, Try.results194, go_sem]) rfl ⟨rfl, ?_⟩
  exact ((Below.refl _ w).alloc (Nat.le_refl _) _).alloc (by simp) _

set_option maxRecDepth 100000 in
set_option maxHeartbeats 1000000 in
theorem toldOps_any (a : Option Addr) (c : Nat) (xs : List Opn) (n : Nat) (hl : xs.length = n) (w : World) (h : CoAt w a xs) (hn : n ≤ 1048576) :
    Calls Try.prog 86 #[.slice a n c] w fun e w' => e = .returned (.slice (some ⟨w.heap.size, 0, none⟩) n n) ∧ OwnOps w' 63 w.heap.size n xs ∧ Below w.heap.size w w' := by
  have hmk := make_ops n hn
  have HL := hide hl
  clear hl
  go_enter Try.func86, Try.ntmps86
  go_wp2
  clear hmk
  go_loopw [11] (fun i wr => ∃ k : Nat, k ≤ n ∧ i = .int .i64 k ∧ OwnOps wr 63 w.heap.size n (xs.take k) ∧ Below w.heap.size w wr) (fun i _ => n - (intOf i).toNat)
  case atStart => exact ⟨0, Nat.zero_le _, rfl, by simpa using OwnOps.made w _ _, (Below.refl _ _).alloc (Nat.le_refl _) _⟩
  case round =>
    obtain ⟨k, hk, rfl, hO, hB⟩ := hrel
    by_cases hlt : k < n
    · obtain ⟨x, hx⟩ := getElem?_ex (l := xs) (k := k) (by have := unhide HL; omega)
      obtain ⟨b1, o1, v, rfl, g0, hv⟩ := (h.below hB (Nat.le_refl _)) k x hx
      have HX := hide hx
      have HO := hide hO
      obtain ⟨V, hV⟩ : ∃ V : Array Value, V = #[.int .i64 x.kind, .int .i64 x.block, .bool x.page.used, .int .i64 x.page.log, .int .i64 x.page.seq, .string x.page.data] := ⟨_, rfl⟩
      have hV6 : V.size = 6 := by rw [hV]; rfl
      have HTH : Hid (∀ w1, OwnOps w1 63 w.heap.size n (xs.take k) → w1.there w.heap.size (k * 6) V.size) := fun w1 hO1 j hj => ⟨by obtain ⟨v, hv⟩ := hO1.cells hlt j (by omega); rw [hv]; rfl, World.rowIs.frozen hO1 _⟩
      have HSZ : Hid ((Try.prog.info? 63).map (·.size) = some V.size) := by rw [hV6]; exact sizeOp
      have HON : Hid (V.all (·.oneCell') = true) := by rw [hV]; exact all_oneCell_toArray (fun v hv => by simp at hv; rcases hv with rfl | rfl | rfl | rfl | rfl | rfl <;> rfl)
      have hkn : (k : Int) < (n : Int) := by omega
      clear hx h hO hV6
      rcases hv with ⟨hk1, hv⟩ | ⟨hk2, hz, hv⟩
      · subst hv
        have HV : Hid (V = #[.int .i64 1, .int .i64 x.block, .bool x.page.used, .int .i64 x.page.log, .int .i64 x.page.seq, .string x.page.data]) := by rw [hV, hk1]; rfl
        have HV0 := hide hV
        clear hV hk1
        unfold progV at g0
        go_wp2_with fail
        refine (toldProg_any _ _ _ _ _ _).mono ?_
        rintro e w1 ⟨rfl, hc⟩
        have hO1 : OwnOps w1 63 w.heap.size n (xs.take k) := (unhide HO).below hc (World.rowIs.lt (unhide HO))
        have HTH1 := hide (unhide HTH w1 hO1)
        have HO1 := hide hO1
        clear hO1 HO HTH g0
        go_wp2_with (refine wpList_store_mid rfl 63 _ _ rfl w.heap.size (k * 6) V rfl (by rw [unhide HV]; rfl) (unhide HTH1) (unhide HSZ) (unhide HON) ?_)
        rw [unhide HV0]
        simp only [World.setCells]
        go_roundw
        case rel =>
          refine ⟨k + 1, by omega, by go_num, (unhide HO1).put (take_put (unhide HX)).1 (take_put (unhide HX)).2, ?_⟩
          exact ((((((hB.trans (hc.mono hB.size)).setCell (Nat.le_refl _) _).setCell (Nat.le_refl _) _).setCell (Nat.le_refl _) _).setCell (Nat.le_refl _) _).setCell (Nat.le_refl _) _).setCell (Nat.le_refl _) _
        case measure => simp [intOf]; omega
      · subst hv
        have HV : Hid (V = #[.int .i64 2, .int .i64 x.block, .bool false, .int .i64 0, .int .i64 0, .string ⟨#[]⟩]) := by rw [hV, hk2, isZero_eq hz]; rfl
        have HV0 := hide hV
        clear hV hk2 hz
        unfold eraV at g0
        go_wp2_with fail
        refine (toldEra_any _ _).mono ?_
        rintro e w1 ⟨rfl, hc⟩
        have hO1 : OwnOps w1 63 w.heap.size n (xs.take k) := (unhide HO).below hc (World.rowIs.lt (unhide HO))
        have HTH1 := hide (unhide HTH w1 hO1)
        have HO1 := hide hO1
        clear hO1 HO HTH g0
        go_wp2_with (refine wpList_store_mid rfl 63 _ _ rfl w.heap.size (k * 6) V rfl (by rw [unhide HV]; rfl) (unhide HTH1) (unhide HSZ) (unhide HON) ?_)
        rw [unhide HV0]
        simp only [World.setCells]
        go_roundw
        case rel =>
          refine ⟨k + 1, by omega, by go_num, (unhide HO1).put (take_put (unhide HX)).1 (take_put (unhide HX)).2, ?_⟩
          exact ((((((hB.trans (hc.mono hB.size)).setCell (Nat.le_refl _) _).setCell (Nat.le_refl _) _).setCell (Nat.le_refl _) _).setCell (Nat.le_refl _) _).setCell (Nat.le_refl _) _).setCell (Nat.le_refl _) _
        case measure => simp [intOf]; omega
    · have hk' : k = xs.length := by have := unhide HL; omega
      subst hk'
      rw [List.take_length] at hO
      have HO := hide hO
      clear hO h
      go_wp2
      go_ret
      exact ⟨rfl, unhide HO, hB⟩
end Go.Proofs.Ytalgkmellbamgaa
