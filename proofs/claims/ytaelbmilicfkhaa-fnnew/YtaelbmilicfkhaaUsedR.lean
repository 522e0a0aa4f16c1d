/- The walk over the used pages, for whom asks something of each of them. -/
import Derived.Test.YtaelbmilicfkhaaUsed
namespace Go.Proofs.Ytaelbmilicfkhaa
open Go.RowKit Go.Shelf
set_option linter.unusedVariables false
set_option linter.unusedSimpArgs false
attribute [local go_sem] Oper.semAt_some

set_option maxRecDepth 100000 in
set_option maxHeartbeats 4000000 in
theorem used1R_in (Rx : Int × Pg → Prop) (F : Fence) (n : Nat) (h122 : F.fn 88) (hro : F.round = none) (hn : 1 ≤ n) (l Bx c : Nat) (m : CC) (hm : m.count = c) (hc : c ≤ 12) (J Jx : List (Int × Pg) → World → Prop)
    (hRx : ∀ b k : Nat, b < c → k < 4 → (m.page b k).used = true → Rx ((b : Int) * 4 + (k : Int), m.page b k)) (hY : ∀ pre x W, Rx x → J pre W → pre.length < 48 → YieldAt F (n - 1) Try.prog l (encU x) W fun e W' =>
      (e = .returned (.bool true) ∧ J (pre ++ [x]) W' ∧ KeepB Bx W W') ∨ (e = .returned (.bool false) ∧ Jx (pre ++ [x]) W'))
    (W : World) (hn0 : Bx < W.heap.size) (hJA : AbidesFrom W.heap.size J) (hbox : ∀ i, W.cell? ⟨Bx, i, none⟩ = (ccA m)[i]?) (h0 : J [] W) :
    CallsIn F n Try.prog 88 #[.func (.yield l) #[] #[], .pointer (some ⟨Bx, 0, none⟩)] W fun e W' => (∃ v, e = .returned v) ∧
      ((∃ ys, ys = usedAll m c ∧ J ys W') ∨ (∃ pre, pre <+: usedAll m c ∧ Jx pre W')) := by
  have hc0 := ccA_count m
  rw [hm] at hc0
  have HY := hide hY
  have HRX := hide hRx
  have HJAB := hide hJA
  clear hY hJA hRx
  refine callsIn_of_wp Try.func88 rfl h122 ?_ hro
  simp only [Try.ntmps88, List.size_toArray, List.length_cons, List.length_nil, Nat.reduceAdd, Nat.reduceSub, Array.replicate_succ, Array.replicate_zero, List.push_toArray, List.append_toArray, List.nil_append, List.cons_append]
  gi_wp2
  gi_loopw [8] (fun i wr => ∃ b : Nat, b ≤ c ∧ i = .int .i64 b ∧ J (usedAll m b) wr ∧ KeepB Bx W wr) (fun i _ => c - (intOf i).toNat)
  case atStart => exact ⟨0, Nat.zero_le _, rfl, h0, KeepB.refl _ _⟩
  case round =>
    obtain ⟨b, hb, rfl, hJs, hnx⟩ := hrel
    clear hc0
    by_cases hlt : b < c
    · have hboxr : ∀ i, wr.cell? ⟨Bx, i, none⟩ = (ccA m)[i]? := fun i => (hnx.cell i).trans (hbox i)
      have hpa : ∀ j, j < 16 → wr.cell? ⟨Bx, 1 + b * 17 + 1 + j, none⟩ = (paA (m.page b))[j]? := fun j hj => by rw [hboxr]; exact ccA_pages m (by omega) hj
      have HPA := hide hpa
      have HBR := hide hboxr
      clear hpa hboxr hbox
      gi_wp2_with (refine wpListIn_load_mid rfl 69 _ rfl Bx (1 + b * 17 + 1) rfl (paA (m.page b)) 16 (paA_size _) (unhide HPA) _ Try.underlying69 rfl sizePages ?_)
      clear HPA HBR
      gi_loopw [16] (fun i wr => ∃ k : Nat, k ≤ 4 ∧ i = .int .i64 k ∧ J (usedAll m b ++ usedB m b k) wr ∧ KeepB Bx W wr) (fun i _ => 4 - (intOf i).toNat)
      case atStart => exact ⟨0, by omega, rfl, by simpa [usedB] using hJs, hnx⟩
      case round =>
        obtain ⟨k, hk, rfl, hJk, hnk⟩ := hrel
        have hbl : Bx < wr.heap.size := Nat.lt_of_lt_of_le hn0 hnk.1
        have hszk := hnk.1
        have HNK := hide hnk
        clear hnk
        by_cases hlt2 : k < 4
        · have hk4 : (k : Int) < 4 := by omega
          have hidx := fun W => run_index_pages (P := Try.prog) W 69 68 (m.page b) k hlt2 Try.underlying69 _ Try.underlying68 rfl sizePage
          obtain ⟨p, hp⟩ : ∃ p, m.page b k = p := ⟨_, rfl⟩
          have hsu := usedB_succ m b k
          have hrx := unhide HRX b k (by omega) hlt2
          rw [hp] at hidx hsu hrx
          obtain ⟨u, lg, s, d⟩ := p
          simp only at hidx hrx
          have HRXP := hide hrx
          clear hrx
          have hlen : (usedAll m b ++ usedB m b k).length < 48 := by
            rw [List.length_append]
            have h1 := usedAll_length m b
            have h2 := usedB_length m b k
            omega
          have HSU := hide hsu
          clear hsu hp hm
          have hpre := used_le m (b := b) (k := k + 1) (n := c) hlt (by omega)
          have HPRE := hide hpre
          clear hpre
          have hJa : ∀ o, J (usedAll m b ++ usedB m b k) (wr.alloc o) := fun o => unhide HJAB _ _ _ none hJk (World.grownBy_alloc wr o none) (fun r e => by cases e)
          have HJA := hide hJa
          clear hJa
          cases u with
          | false =>
            clear hJk hJs hnx h0 hlen hszk
            gi_wp2
            refine ⟨fun _ h => (by cases h), ?_⟩
            gi_wp2
            go_roundw
            case rel =>
              refine ⟨k + 1, by omega, by go_num, ?_, (unhide HNK).trans (KeepB.alloc _ _ hbl)⟩
              rw [unhide HSU]
              simp only [Bool.false_eq_true, if_false, List.append_nil]
              exact unhide HJA _
            case measure => simp [intOf]; omega
          | true =>
            obtain ⟨fn, tmps, assign, body, hy, hR⟩ := unhide HY (usedAll m b ++ usedB m b k) ((b : Int) * 4 + (k : Int), ⟨true, lg, s, d⟩) (wr.alloc (.cells #[.bool true, .int .i64 lg, .int .i64 s, .string d] 68)) (unhide HRXP rfl) (unhide HJA _) hlen
            dsimp only [encU] at hy
            have HR := hide hR
            clear hR
            gi_wp2
            refine (unhide HR).mono ?_
            rintro e W3 (⟨rfl, hJ3, hk3⟩ | ⟨rfl, hJx3⟩)
            · have HK3 := hide hk3
              clear hk3
              gi_wp2
              go_roundw
              case rel =>
                refine ⟨k + 1, by omega, by go_num, ?_, ((unhide HNK).trans (KeepB.alloc _ _ hbl)).trans (unhide HK3)⟩
                rw [unhide HSU, ← List.append_assoc]
                exact hJ3
              case measure => simp [intOf]; omega
            · gi_wp2
              refine bodyPost_ret (results_none rfl _ _ _) rfl ?_
              refine ⟨⟨_, rfl⟩, .inr ⟨_, ?_, hJx3⟩⟩
              have := unhide HPRE
              rw [unhide HSU, ← List.append_assoc] at this
              exact this
        · obtain rfl : k = 4 := by omega
          gi_wp2
          go_roundw
          case rel => exact ⟨b + 1, by omega, by go_num, by rw [usedAll_succ]; exact hJk, unhide HNK⟩
          case measure => simp [intOf]; omega
    · obtain rfl : b = c := by omega
      gi_wp2
      go_end0
      exact ⟨⟨_, rfl⟩, .inl ⟨_, rfl, hJs⟩⟩

theorem usedR_stops (Rx : Int × Pg → Prop) (F : Fence) (n : Nat) (h122 : F.fn 88) (hro : F.round = none) (hn : 1 ≤ n) (Bx c : Nat) (m : CC) (hm : m.count = c) (hc : c ≤ 12) (hRx : ∀ b k : Nat, b < c → k < 4 → (m.page b k).used = true → Rx ((b : Int) * 4 + (k : Int), m.page b k)) (w : World) (hBx : Bx < w.heap.size) (hbox : ∀ i, w.cell? ⟨Bx, i, none⟩ = (ccA m)[i]?) :
    SeqStopsK F n Try.prog 88 #[.pointer (some ⟨Bx, 0, none⟩)] (fun x : {x : Int × Pg // Rx x} => encU x.val) (KeepB Bx) (fun ys => ys.map (·.val) = usedAll m c) (fun pre => pre.map (·.val) <+: usedAll m c) 48 w := by
  intro l J Jx W hW hJA _ hY h0
  refine (used1R_in Rx F n h122 hro hn l Bx c m hm hc (fun p W => ∃ q : List {x : Int × Pg // Rx x}, q.map (·.val) = p ∧ J q W) (fun p W => ∃ q : List {x : Int × Pg // Rx x}, q.map (·.val) = p ∧ Jx q W) hRx ?_ W (Nat.lt_of_lt_of_le hBx hW.size) ?_ (fun i => (hW.cell (p := ⟨Bx, i, none⟩) hBx).trans (hbox i)) ⟨[], rfl, h0⟩).mono ?_
  · rintro pre x W1 hx ⟨q, rfl, hq⟩ hl
    obtain ⟨fn, tmps, assign, body, hy, hR⟩ := hY q ⟨x, hx⟩ W1 hq (by simpa using hl)
    refine ⟨fn, tmps, assign, body, hy, hR.mono ?_⟩
    rintro e W' (⟨rfl, h1, h2⟩ | ⟨rfl, h1⟩)
    · exact .inl ⟨rfl, ⟨_, by simp, h1⟩, h2⟩
    · exact .inr ⟨rfl, ⟨_, by simp, h1⟩⟩
  · rintro p W W' row ⟨q, hq, hJ⟩ hg hr
    exact ⟨q, hq, hJA q W W' row hJ hg hr⟩
  · rintro e W' ⟨hv, h⟩
    refine ⟨hv, ?_⟩
    rcases h with ⟨ys, rfl, q, hq, hJ⟩ | ⟨pre, hp, q, rfl, hJ⟩
    · exact .inl ⟨q, hq, hJ⟩
    · exact .inr ⟨q, hp, hJ⟩
end Go.Proofs.Ytaelbmilicfkhaa
