/- Whether all blocks but the open one are settled: the program's settledBut. Whether two lists are the same: slices.Equal. -/
import Derived.Test.YtageolbmplhgaaaFtlP
import Derived.Test.YtageolbmplhgaaaFreeI
import Derived.Test.YtageolbmplhgaaaMapS
import Derived.BigQuiet
namespace Go.Proofs.Ytageolbmplhgaaa
open Go.RowKit
set_option linter.unusedVariables false
set_option linter.unusedSimpArgs false

/-- A struct or an array is read out of the middle of a row, by an operation whose guard says yes. -/
theorem wpList_load_mid_g {P : Program} {ops : Array Oper} {rest : List Oper} {o : Oper} {a : Act} {w : World} {Q : Exit → Act → World → Prop} (hw : Region.wanted o (yielded ops a.tmps) = true) (ty : TypeId) (x : Operand) (ho : o.op = .load ty x)
    (g off : Nat) (hx : a.eval x = .pointer (some ⟨g, off, none⟩)) (A : Array Value) (s : Nat) (hA : A.size = s) (hc : ∀ j, j < s → w.cell? ⟨g, off + j, none⟩ = A[j]?) (d : TypeDesc)
    (hu : P.underlying ty = some d) (hd : (match d with | .struct _ | .array _ _ => true | _ => false) = true) (hi : (P.info? ty).map (·.size) = some s)
    (h : wpList P ops Q rest (a.put o.dst (.agg A)) w) : wpList P ops Q (o :: rest) a w :=
  BigFrame.wpList_want hw fun _ hK => wp_load_mid ty x ho g off hx A s hA hc d hu hd hi (hK _ _ h)

theorem pu_cc (m : CC) {n k t : Nat} (hk : k < n) (ht : t < 4) {x : Bk} (hx : (ccBs m n)[k]? = some x) : pu x t = (m.page k t).used := by
  rw [ccBs_at m hk] at hx
  cases hx
  show (pagesF (ccPs m k) t).used = _
  simp only [pagesF]
  rw [ccPs_at m k ht]
  rfl

set_option maxRecDepth 100000 in
set_option maxHeartbeats 1000000 in
theorem begun_any (x : Int) (f : Nat → Pg) (b : Bk) (hb : ∀ t, t < 4 → pu b t = (f t).used) (w : World) :
    Calls Try.prog 110 #[.agg (bcA x f)] w fun e w' => e = .returned (.bool (halfB b)) ∧ Below w.heap.size w w' := by
  have hb0 : ∀ o, Below w.heap.size w (w.alloc o) := fun o => (Below.refl _ w).alloc (Nat.le_refl _) _
  go_enter Try.func110, Try.ntmps110
  go_wp2_with (refine wpList_load_row rfl 81 _ rfl w.heap.size rfl 81 (bcA x f) (0, 0) _ (Go.Deep.blk_alloc_new _ _) Try.underlying81 rfl (by rw [bcA_size]; exact sizeBC) ?_)
  refine (next_any x f _).mono ?_
  rintro e w1 ⟨r, rfl, hr, hB⟩
  have hd := (NextIs.kinds (hr.congr (fun k hk => (hb k hk).symm))).2.1
  have HD := hide hd
  clear hr hd
  generalize bcA x f = A at *
  go_wp2
  go_ret
  exact ⟨by rw [← unhide HD]; simp, (hb0 _).trans (hB.mono (by simp))⟩

set_option maxRecDepth 100000 in
set_option maxHeartbeats 1000000 in
theorem full_any (x : Int) (f : Nat → Pg) (b : Bk) (hb : ∀ t, t < 4 → pu b t = (f t).used) (w : World) :
    Calls Try.prog 102 #[.agg (bcA x f)] w fun e w' => e = .returned (.bool (fullB b)) ∧ Below w.heap.size w w' := by
  have hb0 : ∀ o, Below w.heap.size w (w.alloc o) := fun o => (Below.refl _ w).alloc (Nat.le_refl _) _
  go_enter Try.func102, Try.ntmps102
  go_wp2_with (refine wpList_load_row rfl 81 _ rfl w.heap.size rfl 81 (bcA x f) (0, 0) _ (Go.Deep.blk_alloc_new _ _) Try.underlying81 rfl (by rw [bcA_size]; exact sizeBC) ?_)
  refine (next_any x f _).mono ?_
  rintro e w1 ⟨r, rfl, hr, hB⟩
  have hd := (NextIs.kinds (hr.congr (fun k hk => (hb k hk).symm))).2.2
  have HD := hide hd
  clear hr hd
  generalize bcA x f = A at *
  go_wp2
  go_ret
  exact ⟨by rw [← unhide HD]; simp, (hb0 _).trans (hB.mono (by simp))⟩

set_option maxRecDepth 100000 in
set_option maxHeartbeats 1000000 in
theorem settledBut_any (A : Array Value) (m : CC) (bs : List Bk) (n : Nat) (hl : bs.length = n) (hbs : ccBs m n = bs) (hA0 : A[0]? = some (.int .i64 (n : Int))) (hAb : ∀ b i, b < 12 → i < 17 → A[1 + b * 17 + i]? = (bcA (m.wear b) (m.page b))[i]?) (hn : n ≤ 12) (o : Int) (w : World) :
    Calls Try.prog 100 #[.agg A, .int .i64 o] w fun e w' => RetIff (Settled bs o) e ∧ Below w.heap.size w w' := by
  have HAB := hide hAb
  have HBS := hide hbs
  have HL := hide hl
  clear hAb hbs hl
  go_enter Try.func100, Try.ntmps100
  go_wp2
  go_loopw [5, 9] (fun v i wr => ∃ (k : Nat) (r : Bool), k ≤ n ∧ i = .int .i64 k ∧ v = .bool r ∧ (r = true ↔ oneFree bs o k) ∧ noHalf bs o k ∧ Below (w.heap.size + 1) (w.alloc (.cells A 84)) wr) (fun _ i _ => n - (intOf i).toNat)
  case atStart =>
    refine ⟨0, false, Nat.zero_le _, rfl, rfl, ?_, fun i x hi => absurd hi (Nat.not_lt_zero _), Below.refl _ _⟩
    simp only [Bool.false_eq_true, false_iff]
    rintro ⟨i, x, hi, _⟩
    omega
  case round =>
    obtain ⟨k, r, hk, rfl, rfl, hO, hH, hB⟩ := hrel
    have hsz := hB.size
    simp at hsz
    have hWw : Below w.heap.size w wr := ((Below.refl _ w).alloc (Nat.le_refl _) _).trans (hB.mono (by omega))
    by_cases hlt : k < n
    · have hblk : ∀ j, j < 17 → wr.cell? ⟨w.heap.size, 1 + k * 17 + j, none⟩ = (bcA (m.wear k) (m.page k))[j]? := fun j hj => by
        rw [hB.cell (p := ⟨w.heap.size, 1 + k * 17 + j, none⟩) (by simp), cell_of_row _ _ _ _ _ _ (Go.Deep.blk_alloc_new _ _)]
        exact unhide HAB k j (by omega) hj
      have HB := hide hblk
      have hki : (k : Int) < 12 := by omega
      obtain ⟨x, hx⟩ := getElem?_ex (l := bs) (k := k) (by have := unhide HL; omega)
      have hpu : ∀ t, t < 4 → pu x t = (m.page k t).used := fun t ht => pu_cc m (n := n) hlt ht (by rw [unhide HBS]; exact hx)
      have hno := noHalf_succ (o := o) hx
      have hof := oneFree_succ (o := o) hx
      have HPU := hide hpu
      have HNO := hide hno
      have HOF := hide hof
      have HO := hide hO
      have HH := hide hH
      have HX := hide hx
      clear hpu hno hof hO hH hblk hA0 hx
      by_cases heq : (k : Int) = o
      · subst heq
        go_wp2
        go_roundw
        case rel =>
          refine ⟨k + 1, r, by omega, by go_num, rfl, ?_, ?_, hB⟩
          · rw [unhide HOF, unhide HO]; simp
          · rw [unhide HNO]; exact ⟨unhide HH, fun h => absurd rfl h⟩
        case measure => simp [intOf]; omega
      · have heq' : ((k : Int) == o) = false := by simpa using heq
        go_wp2_with (refine wpList_load_mid rfl 81 _ rfl w.heap.size (1 + k * 17) rfl (bcA (m.wear k) (m.page k)) 17 (bcA_size _ _) (unhide HB) _ Try.underlying81 rfl sizeBC ?_)
        refine (begun_any _ _ x (unhide HPU) _).mono ?_
        rintro e w2 ⟨rfl, hB2⟩
        have hs2 := hB2.size
        have hBB : Below (w.heap.size + 1) (w.alloc (.cells A 84)) w2 := hB.trans (hB2.mono (by omega))
        have hWw2 : Below w.heap.size w w2 := hWw.trans (hB2.mono hWw.size)
        have hblk2 : ∀ j, j < 17 → w2.cell? ⟨w.heap.size, 1 + k * 17 + j, none⟩ = (bcA (m.wear k) (m.page k))[j]? := fun j hj => (hB2.cell (p := ⟨w.heap.size, 1 + k * 17 + j, none⟩) (by show w.heap.size < _; omega)).trans (unhide HB j hj)
        have HB2 := hide hblk2
        clear HB hB2 hB hWw hblk2
        cases hh : halfB x with
        | true =>
          generalize bcA (m.wear k) (m.page k) = A2 at *
          go_wp2
          go_ret
          refine ⟨RetIff.no (fun hs => ?_), hWw2⟩
          have := hs.1 k x (by have := unhide HL; omega) (unhide HX) heq
          rw [hh] at this
          cases this
        | false =>
          cases r with
          | true =>
            generalize bcA (m.wear k) (m.page k) = A2 at *
            go_wp2
            go_roundw
            case rel =>
              refine ⟨k + 1, true, by omega, by go_num, rfl, ?_, ?_, hBB⟩
              · rw [unhide HOF]; exact ⟨fun _ => .inl (by have := unhide HO; simpa using this), fun _ => rfl⟩
              · rw [unhide HNO]; exact ⟨unhide HH, fun _ => hh⟩
            case measure => simp [intOf]; omega
          | false =>
            have hfr : freeB x = !(m.page k 0).used := by unfold freeB; rw [unhide HPU 0 (by omega)]
            go_wp2_with (refine wpList_load_mid_g rfl 81 _ rfl w.heap.size (1 + k * 17) rfl (bcA (m.wear k) (m.page k)) 17 (bcA_size _ _) (unhide HB2) _ Try.underlying81 rfl sizeBC ?_)
            refine (free_any _ _ _).mono ?_
            rintro e w3 ⟨rfl, hB3⟩
            rw [← hfr]
            have HFR := hide hfr
            have hBB3 : Below (w.heap.size + 1) (w.alloc (.cells A 84)) w3 := hBB.trans (hB3.mono (by omega))
            clear hfr HB2 hB3 hBB
            generalize bcA (m.wear k) (m.page k) = A2 at *
            go_wp2
            go_roundw
            case rel =>
              refine ⟨k + 1, freeB x, by omega, by go_num, rfl, ?_, ?_, hBB3⟩
              · rw [unhide HOF]
                constructor
                · intro h; exact .inr ⟨heq, h⟩
                · rintro (h | h)
                  · have := (unhide HO).2 h; cases this
                  · exact h.2
              · rw [unhide HNO]; exact ⟨unhide HH, fun _ => hh⟩
            case measure => simp [intOf]; omega
    · have hk' : k = n := by omega
      subst hk'
      have HO := hide hO
      have HH := hide hH
      clear hO hH
      go_wp2
      go_ret
      refine ⟨⟨r, rfl, ?_⟩, hWw⟩
      rw [unhide HO]
      unfold Settled
      rw [unhide HL]
      exact ⟨fun h => ⟨unhide HH, h⟩, fun h => h.2⟩

set_option maxRecDepth 100000 in
set_option maxHeartbeats 1000000 in
theorem slicesEqual_any (a b : Option Addr) (ca cb : Nat) (L M : List Int) (nL nM : Nat) (hL : L.length = nL) (hM : M.length = nM) (w : World) (h1 : IntsAt w a L) (h2 : IntsAt w b M) (hl1 : nL ≤ 9223372036854775807) (hl2 : nM ≤ 9223372036854775807) :
    Calls Try.prog 98 #[.slice a nL ca, .slice b nM cb] w fun e w' => RetIff (L = M) e ∧ Below w.heap.size w w' := by
  by_cases hlen : nL = nM
  · subst hlen
    go_enter Try.func98, Try.ntmps98
    go_wp2
    go_loopw [13] (fun i wr => ∃ k : Nat, k ≤ nL ∧ i = .int .i64 k ∧ (∀ j, j < k → L[j]? = M[j]?) ∧ Below w.heap.size w wr) (fun i _ => nL - (intOf i).toNat)
    case atStart => exact ⟨0, Nat.zero_le _, rfl, fun j hj => absurd hj (Nat.not_lt_zero _), Below.refl _ _⟩
    case round =>
      obtain ⟨k, hk, rfl, hall, hB⟩ := hrel
      by_cases hlt : k < nL
      · obtain ⟨x, hx⟩ := getElem?_ex (l := L) (k := k) (by omega)
        obtain ⟨y, hy⟩ := getElem?_ex (l := M) (k := k) (by omega)
        obtain ⟨b1, o1, rfl, c1⟩ := (h1.below hB (Nat.le_refl _)) k x hx
        obtain ⟨b2, o2, rfl, c2⟩ := (h2.below hB (Nat.le_refl _)) k y hy
        have HA := hide hall
        have HX := hide hx
        have HY := hide hy
        have HL := hide (And.intro hL hM)
        clear hall hx hy h1 h2 hL hM
        by_cases hxy : x = y
        · subst hxy
          have hne : (x != x) = false := by simp
          go_wp2_with fail
          go_quiet (fail)
          go_wp2
          go_roundw
          case rel =>
            refine ⟨k + 1, by omega, by go_num, fun j hj => ?_, Below.drewN hB _⟩
            by_cases e : j = k
            · subst e; rw [unhide HX, unhide HY]
            · exact unhide HA j (by omega)
          case measure => simp [intOf]; omega
        · have hne : (x != y) = true := by simpa using hxy
          go_wp2_with fail
          go_quiet (fail)
          go_wp2
          go_ret
          refine ⟨RetIff.no (fun e => ?_), Below.drewN hB _⟩
          have := unhide HX
          rw [e, unhide HY] at this
          cases this
          exact hxy rfl
      · obtain rfl : k = nL := by omega
        have HA := hide hall
        have HL := hide (And.intro hL hM)
        clear hall h1 h2 hL hM
        go_wp2
        go_ret
        refine ⟨RetIff.yes (List.ext_getElem? (fun j => ?_)), hB⟩
        by_cases hj : j < k
        · exact unhide HA j hj
        · rw [List.getElem?_eq_none (by have := (unhide HL).1; omega), List.getElem?_eq_none (by have := (unhide HL).2; omega)]
  · have hne : ((nL : Int) != (nM : Int)) = true := by simp; omega
    have HL := hide (And.intro hL hM)
    clear h1 h2 hL hM
    go_enter Try.func98, Try.ntmps98
    go_wp2
    go_ret
    refine ⟨RetIff.no (fun e => hlen ?_), Below.refl _ _⟩
    rw [← (unhide HL).1, ← (unhide HL).2, e]
end Go.Proofs.Ytageolbmplhgaaa
