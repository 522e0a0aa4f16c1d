/- The program's answer whether a block held in arrays is right; whether a number is in a list. -/
import Derived.Test.YtaelbmilicfkhaaChecked
import Derived.Test.YtaelbmilicfkhaaNewI
import Derived.Test.YtaelbmilicfkhaaIntA
import Derived.Test.YtaelbmilicfkhaaSpecOk
import Derived.WalkKit
import Derived.Outline
namespace Go.Proofs.Ytaelbmilicfkhaa
open Go.RowKit
set_option linter.unusedVariables false
set_option linter.unusedSimpArgs false

set_option maxHeartbeats 1000000 in
theorem isRightUsed_any (p : Pg) (w : World) : Calls Try.prog 85 #[.agg #[.bool p.used, .int .i64 p.log, .int .i64 p.seq, .string p.data]] w fun e w' => e = .returned (.bool (rightUsed p)) ∧ Below w.heap.size w w' := by
  obtain ⟨u, l, s, d⟩ := p
  have hB : ∀ o, Below w.heap.size w (w.alloc o) := fun o => (Below.refl _ w).alloc (Nat.le_refl _) _
  cases u with
  | false =>
    go_enter Try.func85, Try.ntmps85
    go_wp2
    go_ret
    exact ⟨ret_bool (by simp [rightUsed]), hB _⟩
  | true =>
    by_cases h1 : 0 ≤ l ∧ l ≤ 39
    · by_cases h2 : 1 ≤ s ∧ s ≤ 1000000000
      · have e1 : decide (0 ≤ l ∧ l ≤ 39) = true := by simpa using h1
        have e2 : decide (1 ≤ s ∧ s ≤ 1000000000) = true := by simpa using h2
        go_enter Try.func85, Try.ntmps85
        go_wp2_with (go_at_call 55; refine (within_any _ _ _ _).mono ?_; rintro e w1 ⟨rfl, rfl⟩)
        go_ret
        exact ⟨ret_bool (by simp [rightUsed, h1, h2, size_four]), hB _⟩
      · have e1 : decide (0 ≤ l ∧ l ≤ 39) = true := by simpa using h1
        have e2 : decide (1 ≤ s ∧ s ≤ 1000000000) = false := by simpa using h2
        go_enter Try.func85, Try.ntmps85
        go_wp2_with (go_at_call 55; refine (within_any _ _ _ _).mono ?_; rintro e w1 ⟨rfl, rfl⟩)
        go_ret
        exact ⟨ret_bool (by simp [rightUsed]; omega), hB _⟩
    · have e1 : decide (0 ≤ l ∧ l ≤ 39) = false := by simpa using h1
      go_enter Try.func85, Try.ntmps85
      go_wp2_with (go_at_call 55; refine (within_any _ _ _ _).mono ?_; rintro e w1 ⟨rfl, rfl⟩)
      go_ret
      exact ⟨ret_bool (by simp [rightUsed]; omega), hB _⟩

/-- The block is right, as its arrays say it. -/
structure BcOk (x : Int) (f : Nat → Pg) : Prop where
  wear : 0 ≤ x ∧ x ≤ 1000000000
  page : ∀ k, k < 4 → pgOk (f k) = true
  order : ∀ k, k + 1 < 4 → (f (k + 1)).used = true → (f k).used = true

theorem sizePages : (Try.prog.info? 69).map (·.size) = some 16 := by kernel_rfl

set_option maxRecDepth 100000 in
set_option maxHeartbeats 4000000 in
theorem right_any (x : Int) (f : Nat → Pg) (w : World) : Calls Try.prog 76 #[.agg (bcA x f)] w fun e w' => RetIff (BcOk x f) e ∧ Below w.heap.size w w' := by
  go_enter Try.func76, Try.ntmps76
  go_wp2_with (refine wpList_load_mid rfl 69 _ rfl w.heap.size 1 rfl (paA f) 16 (paA_size f) (fun j hj => by simp; rw [bcA_page x f hj, paA_get f hj]) _ Try.underlying69 rfl sizePages ?_)
  go_loopw [3, 8] (fun v i wr => ∃ (k : Nat) (en : Bool), k ≤ 4 ∧ i = .int .i64 k ∧ v = .bool en ∧ (∀ t, t < k → pgOk (f t) = true) ∧ (en = false → ∀ t, t < k → (f t).used = true) ∧ (en = true → ∃ t, t < k ∧ (f t).used = false) ∧ (∀ t, t + 1 < k → (f (t + 1)).used = true → (f t).used = true) ∧ Below (w.heap.size + 1) (w.alloc (.cells (bcA x f) 71)) wr) (fun _ i _ => 4 - (intOf i).toNat)
  case atStart => exact ⟨0, false, by omega, rfl, rfl, fun t ht => absurd ht (Nat.not_lt_zero _), fun _ t ht => absurd ht (Nat.not_lt_zero _), (fun h => by cases h), fun t ht => absurd ht (Nat.not_lt_zero _), Below.refl _ _⟩
  case round =>
    obtain ⟨k, en, hk, rfl, rfl, h1, h2, h3, h4, hB⟩ := hrel
    have hsz := hB.size
    simp at hsz
    have hout : ∀ W, Below wr.heap.size wr W → Below w.heap.size w W := fun W hW => ((((Below.refl _ w).alloc (Nat.le_refl _) _).trans (hB.mono (by omega))).trans (hW.mono (by omega)))
    by_cases hlt : k < 4
    · have hidx := fun W => run_index_pages (P := Try.prog) W 69 68 f k hlt Try.underlying69 _ Try.underlying68 rfl sizePage
      obtain ⟨p, hp⟩ : ∃ p, f k = p := ⟨_, rfl⟩
      rw [hp] at hidx
      obtain ⟨u, l, s, d⟩ := p
      simp only at hidx
      have HP := hide hp
      have H1 := hide h1
      have H2 := hide h2
      have H3 := hide h3
      have H4 := hide h4
      clear h1 h2 h3 h4 hp
      have hup : BcOk x f → ∀ n t, t + n < 4 → (f (t + n)).used = true → (f t).used = true := fun hx n => by
        induction n with
        | zero => intro t _ h; exact h
        | succ n ih => intro t ht h; exact ih t (by omega) (hx.order (t + n) (by omega) h)
      have HUP := hide hup
      clear hup
      cases u with
      | false =>
        by_cases hl : l = 0
        · subst hl
          by_cases hs : s = 0
          · subst hs
            by_cases hd : d = ByteArray.empty
            · subst hd
              go_wp2
              go_roundw
              case rel =>
                refine ⟨k + 1, true, by omega, by go_num, rfl, fun t ht => ?_, (fun h => by cases h), fun _ => ⟨k, by omega, by rw [unhide HP]⟩, fun t ht hu => ?_, (hB.alloc (by omega) _)⟩
                · by_cases e : t = k
                  · subst e; rw [unhide HP]; rfl
                  · exact unhide H1 t (by omega)
                · by_cases e : t + 1 = k
                  · rw [e, unhide HP] at hu; cases hu
                  · exact unhide H4 t (by omega) hu
              case measure => simp [intOf]; omega
            · have hno : pgOk ⟨false, 0, 0, d⟩ = false := by simp [pgOk, isZero, hd]
              have hd' : d.toList.isEmpty = false := by rw [isEmpty_size]; simpa using hd
              go_wp2
              go_ret
              refine ⟨RetIff.no ?_, hout _ ((Below.refl _ _).alloc (Nat.le_refl _) _)⟩
              intro hx
              have := hx.page k hlt
              rw [unhide HP, hno] at this
              cases this
          · have hno : pgOk ⟨false, 0, s, d⟩ = false := by simp [pgOk, isZero, hs]
            have hs' : (s == 0) = false := by simpa using hs
            go_wp2
            go_ret
            refine ⟨RetIff.no ?_, hout _ ((Below.refl _ _).alloc (Nat.le_refl _) _)⟩
            intro hx
            have := hx.page k hlt
            rw [unhide HP, hno] at this
            cases this
        · have hno : pgOk ⟨false, l, s, d⟩ = false := by simp [pgOk, isZero, hl]
          have hl' : (l == 0) = false := by simpa using hl
          go_wp2
          go_ret
          refine ⟨RetIff.no ?_, hout _ ((Below.refl _ _).alloc (Nat.le_refl _) _)⟩
          intro hx
          have := hx.page k hlt
          rw [unhide HP, hno] at this
          cases this
      | true =>
        cases en with
        | true =>
          go_wp2
          go_ret
          refine ⟨RetIff.no ?_, hout _ ((Below.refl _ _).alloc (Nat.le_refl _) _)⟩
          intro hx
          obtain ⟨t, ht, hu⟩ := unhide H3 (by first | rfl | trivial)
          have := unhide HUP hx (k - t) t (by omega) (by rw [show t + (k - t) = k by omega, unhide HP])
          rw [hu] at this
          cases this
        | false =>
          go_wp2_with fail
          refine (isRightUsed_any ⟨true, l, s, d⟩ _).mono ?_
          rintro e w1 ⟨rfl, hB1⟩
          have hB2 : Below wr.heap.size wr w1 := ((Below.refl _ wr).alloc (Nat.le_refl _) _).trans (hB1.mono (by simp))
          have HB2 := hide hB2
          clear hB1 hB2
          have hpk : pgOk ⟨true, l, s, d⟩ = rightUsed ⟨true, l, s, d⟩ := by simp [pgOk]
          have HPK := hide hpk
          clear hpk
          cases hr : rightUsed ⟨true, l, s, d⟩ with
          | false =>
            go_wp2
            go_ret
            refine ⟨RetIff.no ?_, hout _ (unhide HB2)⟩
            intro hx
            have := hx.page k hlt
            rw [unhide HP, unhide HPK, hr] at this
            cases this
          | true =>
            go_wp2
            go_roundw
            case rel =>
              refine ⟨k + 1, false, by omega, by go_num, rfl, fun t ht => ?_, fun _ t ht => ?_, (fun h => by cases h), fun t ht hu => ?_, hB.trans ((unhide HB2).mono (by omega))⟩
              · by_cases e : t = k
                · subst e; rw [unhide HP, unhide HPK]; exact hr
                · exact unhide H1 t (by omega)
              · by_cases e : t = k
                · subst e; rw [unhide HP]
                · exact unhide H2 (by first | rfl | trivial) t (by omega)
              · exact unhide H2 (by first | rfl | trivial) t (by omega)
            case measure => simp [intOf]; omega
    · have hk4 : k = 4 := by omega
      subst hk4
      have hcx : wr.cell? ⟨w.heap.size, 0, none⟩ = some (.int .i64 x) := by
        rw [hB.cell (p := ⟨w.heap.size, 0, none⟩) (by simp)]
        simp
        rw [bcA_get x f (by omega)]
        rfl
      have H1 := hide h1
      have H4 := hide h4
      clear h1 h2 h3 h4
      go_wp2_with fail
      refine (within_any _ _ _ _).mono ?_
      rintro e w1 ⟨rfl, rfl⟩
      go_wp2
      go_ret
      refine ⟨⟨decide (0 ≤ x) && decide (x ≤ 1000000000), rfl, ?_⟩, hout _ (Below.refl _ _)⟩
      simp
      exact ⟨fun h => ⟨h, fun k hk => unhide H1 k hk, fun k hk hu => unhide H4 k hk hu⟩, fun h => h.wear⟩
set_option maxRecDepth 100000 in
set_option maxHeartbeats 1000000 in
theorem index_any (a : Option Addr) (c : Nat) (L : List Int) (s : Int) (w : World) (h : IntsAt w a L) (hn : L.length ≤ 1048576) :
    Calls Try.prog 95 #[.slice a L.length c, .int .i64 s] w fun e w' => ∃ r : Int, e = .returned (.int .i64 r) ∧ (0 ≤ r ↔ s ∈ L) ∧ w' = w := by
  go_enter Try.func95, Try.ntmps95
  go_wp2
  go_loop [8] (fun i => ∃ k : Nat, k ≤ L.length ∧ i = .int .i64 k ∧ ∀ j x, j < k → L[j]? = some x → x ≠ s) (fun i => L.length - (intOf i).toNat)
  case atStart => exact ⟨0, Nat.zero_le _, rfl, fun j x hj => absurd hj (Nat.not_lt_zero _)⟩
  case round =>
    obtain ⟨k, hk, rfl, hno⟩ := hrel
    have HN := hide hno
    clear hno
    by_cases hlt : k < L.length
    · obtain ⟨x, hx⟩ := getElem?_ex hlt
      obtain ⟨b, o, rfl, g⟩ := h k x hx
      have HX := hide hx
      clear hx h
      by_cases e : s = x
      · have e' : (s == x) = true := by simpa using e
        have HE := hide e
        clear e
        go_wp2
        go_ret
        exact ⟨_, rfl, ⟨fun _ => by rw [unhide HE]; exact List.mem_of_getElem? (unhide HX), fun _ => by omega⟩, rfl⟩
      · have e' : (s == x) = false := by simpa using e
        have HE := hide e
        clear e
        go_wp2
        go_round
        case rel =>
          refine ⟨k + 1, by omega, by go_num, fun j y hj hy => ?_⟩
          by_cases ej : j = k
          · subst ej; rw [unhide HX] at hy; cases hy; exact fun h => unhide HE h.symm
          · exact unhide HN j y (by omega) hy
        case measure => simp [intOf]; omega
    · go_wp2
      go_ret
      refine ⟨-1, rfl, ⟨fun h => by omega, fun hm => ?_⟩, rfl⟩
      obtain ⟨j, hj, e⟩ := List.getElem_of_mem hm
      exact absurd e (unhide HN j _ (by omega) (by simp [hj]))

theorem contains_any (a : Option Addr) (c : Nat) (L : List Int) (s : Int) (w : World) (h : IntsAt w a L) (hn : L.length ≤ 1048576) :
    Calls Try.prog 86 #[.slice a L.length c, .int .i64 s] w fun e w' => e = .returned (.bool (decide (s ∈ L))) ∧ w' = w := by
  go_enter Try.func86, Try.ntmps86
  go_wp2_with fail
  refine (index_any a c L s w h hn).mono ?_
  rintro e w1 ⟨r, rfl, hr, rfl⟩
  have HR := hide hr
  clear hr h
  by_cases h0 : 0 ≤ r
  · go_wp2
    go_ret
    exact ⟨ret_bool (by simp [(unhide HR).1 h0]), rfl⟩
  · go_wp2
    go_ret
    have hnm : ¬ s ∈ L := fun hm => by have := (unhide HR).2 hm; omega
    exact ⟨ret_bool (by simp [hnm] <;> omega), rfl⟩
end Go.Proofs.Ytaelbmilicfkhaa
