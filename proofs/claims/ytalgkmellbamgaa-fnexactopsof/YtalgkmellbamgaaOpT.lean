/- Ops: the laws' own copy, comparison and measure of them. -/
import Derived.Test.YtalgkmellbamgaaOpM
import Derived.Test.YtalgkmellbamgaaTo
import Derived.Test.YtalgkmellbamgaaEq
import Derived.Test.YtalgkmellbamgaaSz
import Derived.Test.YtalgkmellbamgaaHasSeq
import Derived.Deep.MidRow
namespace Go.Proofs.Ytalgkmellbamgaa
open Go.RowKit
set_option linter.unusedVariables false
set_option linter.unusedSimpArgs false

theorem infoOp : (Try.prog.info? 63).map (fun i => (i.zero, i.size, i.bytes)) = some (some (.agg #[.int .i64 0, .int .i64 0, .bool false, .int .i64 0, .int .i64 0, .string ByteArray.empty]), 6, 56) := by kernel_rfl

theorem sizeOp : (Try.prog.info? 63).map (·.size) = some 6 := by kernel_rfl

theorem make_ops (n : Nat) (hn : n ≤ 1048576) (w : World) :
    (Instr.makeSlice 55 (.int .i64 (n : Int)) (.int .i64 (n : Int))).run Try.prog w = .ok (.slice (some ⟨w.heap.size, 0, none⟩) n n) (w.alloc (.cells (madeCells #[.int .i64 0, .int .i64 0, .bool false, .int .i64 0, .int .i64 0, .string ByteArray.empty] (n * 6)) 63)) := by
  obtain ⟨i, hi, hz⟩ := Option.map_eq_some_iff.1 infoOp
  simp only [Prod.mk.injEq] at hz
  obtain ⟨hz0, hz1, hz2⟩ := hz
  have h := run_make (P := Try.prog) w 55 63 i _ Try.underlying55 hi hz0 .i64 .i64 (n : Int) (n : Int) (by omega) (Int.le_refl _) (by rw [hz2]; omega) (by omega)
  rw [hz1] at h
  simpa [Value.cells] using h

set_option maxHeartbeats 1000000 in
theorem toCOp_any (k b : Int) (u : Bool) (l s : Int) (d : ByteArray) (w : World) :
    Calls Try.prog 106 #[.agg #[.int .i64 k, .int .i64 b, .bool u, .int .i64 l, .int .i64 s, .string d]] w fun e w' => e = .returned (.agg #[.int .i64 k, .int .i64 b, .bool u, .int .i64 l, .int .i64 s, .string d]) ∧ Below w.heap.size w w' := by
  go_enter Try.func106, Try.ntmps106
  go_wp2_with fail
  have hb0 : ∀ o1 o2 o3, Below w.heap.size w (((w.alloc o1).alloc o2).alloc o3) := fun o1 o2 o3 => (((Below.refl _ w).alloc (Nat.le_refl _) _).alloc (by simp) _).alloc (by simp; omega) _
  refine (toPage_any u l s d _).mono ?_
  rintro e w1 ⟨rfl, hB1⟩
  obtain ⟨_, r1, r2⟩ := heap3 w (.cells #[.int .i64 k, .int .i64 b, .bool u, .int .i64 l, .int .i64 s, .string d] 147) (.cells #[.int .i64 0, .int .i64 0, .bool false, .int .i64 0, .int .i64 0, .string ⟨#[]⟩] 63) (.cells #[.int .i64 k, .int .i64 b, .bool false, .int .i64 0, .int .i64 0, .string ⟨#[]⟩] 63)
  have r1 := (hB1.block _ (by simp)).trans r1
  have r2 := (hB1.block _ (by simp)).trans r2
  have q0 := cell_of_row _ _ 0 _ _ _ r1
  have g0 := frozen_of_row _ _ 0 _ _ r1
  have s0 := cell_of_row _ _ 0 _ _ _ r2
  have t0 := frozen_of_row _ _ 0 _ _ r2
  have q1 := cell_of_row _ _ 1 _ _ _ r1
  have g1 := frozen_of_row _ _ 1 _ _ r1
  have s1 := cell_of_row _ _ 1 _ _ _ r2
  have t1 := frozen_of_row _ _ 1 _ _ r2
  have q2 := cell_of_row _ _ 2 _ _ _ r1
  have g2 := frozen_of_row _ _ 2 _ _ r1
  have s2 := cell_of_row _ _ 2 _ _ _ r2
  have t2 := frozen_of_row _ _ 2 _ _ r2
  have q3 := cell_of_row _ _ 3 _ _ _ r1
  have g3 := frozen_of_row _ _ 3 _ _ r1
  have s3 := cell_of_row _ _ 3 _ _ _ r2
  have t3 := frozen_of_row _ _ 3 _ _ r2
  have q4 := cell_of_row _ _ 4 _ _ _ r1
  have g4 := frozen_of_row _ _ 4 _ _ r1
  have s4 := cell_of_row _ _ 4 _ _ _ r2
  have t4 := frozen_of_row _ _ 4 _ _ r2
  have q5 := cell_of_row _ _ 5 _ _ _ r1
  have g5 := frozen_of_row _ _ 5 _ _ r1
  have s5 := cell_of_row _ _ 5 _ _ _ r2
  have t5 := frozen_of_row _ _ 5 _ _ r2
  simp at q0 q1 q2 q3 q4 q5 s0 s1 s2 s3 s4 s5
  have hW1 : Below w.heap.size w w1 := (hb0 _ _ _).trans (hB1.mono (by simp; omega))
  clear r1 r2 hB1 hb0
  go_wp2
  refine bodyPost_ret (v := .agg #[.int .i64 k, .int .i64 b, .bool u, .int .i64 l, .int .i64 s, .string d]) (by simp [results, Try.results106, go_sem, q0, q1, q2, q3, q4, q5]) rfl ⟨rfl, ?_⟩
  exact ((((((((((hW1).setCell (by show w.heap.size ≤ w.heap.size + 1 + 1; omega) _).setCell (by show w.heap.size ≤ w.heap.size + 1 + 1; omega) _).setCell (by show w.heap.size ≤ w.heap.size + 1 + 1; omega) _).setCell (by show w.heap.size ≤ w.heap.size + 1 + 1; omega) _).setCell (by show w.heap.size ≤ w.heap.size + 1; omega) _).setCell (by show w.heap.size ≤ w.heap.size + 1; omega) _).setCell (by show w.heap.size ≤ w.heap.size + 1; omega) _).setCell (by show w.heap.size ≤ w.heap.size + 1; omega) _).setCell (by show w.heap.size ≤ w.heap.size + 1; omega) _).setCell (by show w.heap.size ≤ w.heap.size + 1; omega) _

set_option maxRecDepth 100000 in
set_option maxHeartbeats 1000000 in
theorem toCOpS_any (a : Option Addr) (c : Nat) (xs : List Opn) (n : Nat) (hl : xs.length = n) (w : World) (h : OpsAt w a xs) (hn : n ≤ 1048576) :
    Calls Try.prog 51 #[.slice a n c] w fun e w' => e = .returned (.slice (some ⟨w.heap.size, 0, none⟩) n n) ∧ OwnOps w' 63 w.heap.size n xs ∧ Below w.heap.size w w' := by
  have hmk := make_ops n hn
  have HL := hide hl
  clear hl
  go_enter Try.func51, Try.ntmps51
  go_wp2
  clear hmk
  go_loopw [4] (fun i wr => ∃ k : Nat, k ≤ n ∧ i = .int .i64 k ∧ OwnOps wr 63 w.heap.size n (xs.take k) ∧ Below w.heap.size w wr) (fun i _ => n - (intOf i).toNat)
  case atStart => exact ⟨0, Nat.zero_le _, rfl, by simpa using OwnOps.made w _ _, (Below.refl _ _).alloc (Nat.le_refl _) _⟩
  case round =>
    obtain ⟨k, hk, rfl, hO, hB⟩ := hrel
    by_cases hlt : k < n
    · obtain ⟨x, hx⟩ := getElem?_ex (l := xs) (k := k) (by have := unhide HL; omega)
      obtain ⟨b1, o1, rfl, g0, g1, g2, g3, g4, g5⟩ := (h.below hB (Nat.le_refl _)) k x hx
      have HX := hide hx
      have HO := hide hO
      clear hx h hO
      go_wp2_with fail
      refine (toCOp_any _ _ _ _ _ _ _).mono ?_
      rintro e w1 ⟨rfl, hc⟩
      clear g0 g1 g2 g3 g4 g5
      have hO1 : OwnOps w1 63 w.heap.size n (xs.take k) := (unhide HO).below hc (World.rowIs.lt (unhide HO))
      obtain ⟨V, hV⟩ : ∃ V : Array Value, V = #[.int .i64 x.kind, .int .i64 x.block, .bool x.page.used, .int .i64 x.page.log, .int .i64 x.page.seq, .string x.page.data] := ⟨_, rfl⟩
      have hV6 : V.size = 6 := by rw [hV]; rfl
      have HTH : Hid (w1.there w.heap.size (k * 6) V.size) := fun j hj => ⟨by obtain ⟨v, hv⟩ := hO1.cells hlt j (by omega); rw [hv]; rfl, World.rowIs.frozen hO1 _⟩
      have HSZ : Hid ((Try.prog.info? 63).map (·.size) = some V.size) := by rw [hV6]; exact sizeOp
      have HON : Hid (V.all (·.oneCell') = true) := by rw [hV]; exact all_oneCell_toArray (fun v hv => by simp at hv; rcases hv with rfl | rfl | rfl | rfl | rfl | rfl <;> rfl)
      have HV := hide hV
      have HO1 := hide hO1
      clear hO1 HO hV hV6
      go_wp2_with (refine wpList_store_mid rfl 63 _ _ rfl w.heap.size (k * 6) V rfl (by rw [unhide HV]; rfl) (unhide HTH) (unhide HSZ) (unhide HON) ?_)
      rw [unhide HV]
      simp only [World.setCells]
      go_roundw
      case rel =>
        refine ⟨k + 1, by omega, by go_num, (unhide HO1).put (take_put (unhide HX)).1 (take_put (unhide HX)).2, ?_⟩
        exact ((((((hB.trans (hc.mono hB.size)).setCell (Nat.le_refl _) _).setCell (Nat.le_refl _) _).setCell (Nat.le_refl _) _).setCell (Nat.le_refl _) _).setCell (Nat.le_refl _) _).setCell (Nat.le_refl _) _
      case measure => simp [intOf]; omega
    · have hk' : k = xs.length := by have := unhide HL; omega
      subst hk'
      rw [List.take_length] at hO
      have HO := hide hO
      clear hO h
      go_wp2
      go_ret
      exact ⟨rfl, unhide HO, hB⟩

set_option maxHeartbeats 1000000 in
theorem eqCOp_same (k b : Int) (u : Bool) (l s : Int) (d : ByteArray) (w : World) :
    Calls Try.prog 99 #[.agg #[.int .i64 k, .int .i64 b, .bool u, .int .i64 l, .int .i64 s, .string d], .agg #[.int .i64 k, .int .i64 b, .bool u, .int .i64 l, .int .i64 s, .string d]] w fun e w' => e = .returned (.bool true) ∧ Below w.heap.size w w' := by
  have hne1 : (k != k) = false := by simp
  have hne2 : (b != b) = false := by simp
  have hb0 : ∀ o1 o2, Below w.heap.size w ((w.alloc o1).alloc o2) := fun o1 o2 => ((Below.refl _ w).alloc (Nat.le_refl _) _).alloc (by simp) _
  go_enter Try.func99, Try.ntmps99
  go_wp2_with fail
  refine (eqPage_same u l s d _).mono ?_
  rintro e w1 ⟨rfl, hB⟩
  go_wp2
  go_ret
  exact ⟨rfl, (hb0 _ _).trans (hB.mono (by simp; omega))⟩

set_option maxRecDepth 100000 in
set_option maxHeartbeats 1000000 in
theorem eqCOpS_same (a1 a2 : Option Addr) (c1 c2 : Nat) (xs : List Opn) (n : Nat) (hl : xs.length = n) (w : World) (h1 : OpsAt w a1 xs) (h2 : OpsAt w a2 xs) (hn : n ≤ 1048576) :
    Calls Try.prog 43 #[.slice a1 n c1, .slice a2 n c2] w fun e w' => e = .returned (.bool true) ∧ Below w.heap.size w w' := by
  have HL := hide hl
  clear hl
  go_enter Try.func43, Try.ntmps43
  go_wp2
  go_loopw [5] (fun i wr => ∃ k : Nat, k ≤ n ∧ i = .int .i64 k ∧ Below w.heap.size w wr) (fun i _ => n - (intOf i).toNat)
  case atStart => exact ⟨0, Nat.zero_le _, rfl, Below.refl _ _⟩
  case round =>
    obtain ⟨k, hk, rfl, hB⟩ := hrel
    by_cases hlt : k < n
    · obtain ⟨x, hx⟩ := getElem?_ex (l := xs) (k := k) (by have := unhide HL; omega)
      obtain ⟨b1, o1, rfl, g10, g11, g12, g13, g14, g15⟩ := (h1.below hB (Nat.le_refl _)) k x hx
      obtain ⟨b2, o2, rfl, g20, g21, g22, g23, g24, g25⟩ := (h2.below hB (Nat.le_refl _)) k x hx
      have hb1 : b1 < wr.heap.size := World.block_lt_of_cell? _ _ g10
      have hb2 : b2 < wr.heap.size := World.block_lt_of_cell? _ _ g20
      clear hx h1 h2
      go_wp2
      go_region_held3 (fun W => ∀ b o, b < wr.heap.size → W.cell? ⟨b, o, none⟩ = wr.cell? ⟨b, o, none⟩) (first | (intro b o hb; simp; done) | (intro b o hb; rw [hc.cell (p := ⟨b, o, none⟩) hb]; rfl))
        (first | (go_at_call 99; refine (eqCOp_same _ _ _ _ _ _ _).mono ?_; rintro e w1 ⟨rfl, hc⟩))
      go_wp2
      go_roundw
      case rel => exact ⟨k + 1, by omega, by go_num, hB.drew.trans (hc.mono hB.size)⟩
      case measure => simp [intOf]; omega
    · go_wp2
      go_ret
      exact ⟨rfl, hB⟩

set_option maxHeartbeats 1000000 in
theorem szCOp_any (k b : Int) (u : Bool) (l s left : Int) (d : ByteArray) (w : World) (h0 : 0 ≤ left) (h1 : left ≤ 1048576) (hd : d.size ≤ 9223372036854775807) :
    Calls Try.prog 104 #[.agg #[.int .i64 k, .int .i64 b, .bool u, .int .i64 l, .int .i64 s, .string d], .int .i64 left] w fun e w' => ∃ n : Int, e = .returned (.int .i64 n) ∧ n ≤ left ∧ Below w.heap.size w w' := by
  have hb0 : ∀ o, Below w.heap.size w (w.alloc o) := fun o => (Below.refl _ w).alloc (Nat.le_refl _) _
  go_enter Try.func104, Try.ntmps104
  go_wp2_with fail
  refine (szPage_any u l s left d _ h0 h1 hd).mono ?_
  rintro e w1 ⟨n, rfl, hn, hB⟩
  by_cases hneg : n < 0
  · go_wp2
    go_ret
    exact ⟨_, rfl, by omega, (hb0 _).trans (hB.mono (by simp))⟩
  · go_wp2
    go_ret
    exact ⟨_, rfl, by omega, (hb0 _).trans (hB.mono (by simp))⟩

set_option maxRecDepth 100000 in
set_option maxHeartbeats 1000000 in
theorem szCOpS_any (a : Option Addr) (c : Nat) (xs : List Opn) (n : Nat) (hl : xs.length = n) (left : Int) (w : World) (h : OpsAt w a xs) (hn : n ≤ 9223372036854775807) (ht : OpTexts xs) (h0 : 0 ≤ left) (h1 : left ≤ 1048576) :
    Calls Try.prog 49 #[.slice a n c, .int .i64 left] w fun e w' => ∃ r : Int, e = .returned (.int .i64 r) ∧ r ≤ left ∧ (0 ≤ r → n ≤ 1048576) ∧ Below w.heap.size w w' := by
  have HL := hide hl
  clear hl
  by_cases hc : left - n < 0
  · go_enter Try.func49, Try.ntmps49
    go_wp2
    go_ret
    exact ⟨_, rfl, by omega, by omega, Below.refl _ _⟩
  · have hl : n ≤ 1048576 := by omega
    go_enter Try.func49, Try.ntmps49
    go_wp2
    go_loopw [1, 5] (fun v i wr => ∃ (k : Nat) (m : Int), k ≤ n ∧ i = .int .i64 k ∧ v = .int .i64 m ∧ 0 ≤ m ∧ m ≤ left ∧ Below w.heap.size w wr) (fun _ i _ => n - (intOf i).toNat)
    case atStart => exact ⟨0, _, Nat.zero_le _, rfl, rfl, by omega, by omega, Below.refl _ _⟩
    case round =>
      obtain ⟨k, m, hk, rfl, rfl, hm0, hm1, hB⟩ := hrel
      by_cases hlt : k < n
      · obtain ⟨x, hx⟩ := getElem?_ex (l := xs) (k := k) (by have := unhide HL; omega)
        obtain ⟨b1, o1, rfl, g0, g1, g2, g3, g4, g5⟩ := (h.below hB (Nat.le_refl _)) k x hx
        have hd := ht x (List.mem_of_getElem? hx)
        clear hx h
        go_wp2_with fail
        refine (szCOp_any _ _ _ _ _ _ _ _ hm0 (by omega) hd).mono ?_
        rintro e w1 ⟨r, rfl, hn1, hb⟩
        by_cases hneg : r < 0
        · go_wp2
          go_ret
          exact ⟨_, rfl, by omega, by omega, hB.trans (hb.mono hB.size)⟩
        · go_wp2
          go_roundw
          case rel => exact ⟨k + 1, r, by omega, by go_num, rfl, by omega, by omega, hB.trans (hb.mono hB.size)⟩
          case measure => simp [intOf]; omega
      · go_wp2
        go_ret
        exact ⟨_, rfl, hm1, fun _ => hl, hB⟩
end Go.Proofs.Ytalgkmellbamgaa
