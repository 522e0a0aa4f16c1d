/- Whatever the member, the log and the data, the law FnExactOpsOf answers true: the program's OpsOf is the model's, ops and flag, it leaves the member as it was, and its answer owns its memory. No condition. -/
import Derived.Test.YtalgkmellbamgaaUsed
import Derived.Test.YtalgkmellbamgaaValP
import Derived.Test.YtalgkmellbamgaaMapP
import Derived.Test.YtalgkmellbamgaaChecked
import Derived.Maps.OwnIn
import Derived.Maps.Views
import Derived.Test.YtalgkmellbamgaaIntA
import Derived.Test.YtalgkmellbamgaaOwn
import Derived.WalkKit
import Derived.Outline
import Derived.Test.YtalgkmellbamgaaRoomF
import Derived.Test.YtalgkmellbamgaaDiffer
import Derived.Test.YtalgkmellbamgaaMapS
import Derived.Test.YtalgkmellbamgaaHasSeq
import Derived.Test.YtalgkmellbamgaaFtlP
import Derived.Test.YtalgkmellbamgaaSetI
import Derived.Test.YtalgkmellbamgaaQt
import Derived.Test.YtalgkmellbamgaaFreeI
import Derived.Test.YtalgkmellbamgaaVicP
import Derived.BigQuiet
import Derived.Deep.RegionHeld3
import Derived.Laws.BytesArg
import Derived.Test.YtalgkmellbamgaaOpT
import Derived.Test.YtalgkmellbamgaaOwnI
import Derived.ProofKit
import Derived.Below
import Derived.Test.YtalgkmellbamgaaMem
import Derived.Deep.SlicePairs
import Derived.Deep.Fields
import Derived.Lib.SmallJoins
import Derived.ChangeArms
import Derived.OpenShut
import Derived.ChangeOld
import Derived.Test.YtalgkmellbamgaaEq
import Derived.Test.YtalgkmellbamgaaSz
import Derived.Test.YtalgkmellbamgaaTo
import Derived.Test.YtalgkmellbamgaaFreeP
import Derived.SliceStrings
import Derived.Test.YtalgkmellbamgaaLeastI
import Derived.Test.YtalgkmellbamgaaToldI
import Derived.Test.YtalgkmellbamgaaOpsS
import Derived.Deep.DeepCutAuto
import Derived.Test.YtalgkmellbamgaaRows
import Derived.ChangeMaps5
/- The walk over the used pages, for whom asks something of each of them. -/
namespace Go.Proofs.Ytalgkmellbamgaa
open Go.RowKit Go.Shelf
set_option linter.unusedVariables false
set_option linter.unusedSimpArgs false
attribute [local go_sem] Oper.semAt_some

set_option maxRecDepth 100000 in
set_option maxHeartbeats 4000000 in
theorem used1R_in (Rx : Int × Pg → Prop) (F : Fence) (n : Nat) (h122 : F.fn 159) (hro : F.round = none) (hn : 1 ≤ n) (l Bx c : Nat) (m : CC) (hm : m.count = c) (hc : c ≤ 12) (J Jx : List (Int × Pg) → World → Prop)
    (hRx : ∀ b k : Nat, b < c → k < 4 → (m.page b k).used = true → Rx ((b : Int) * 4 + (k : Int), m.page b k)) (hY : ∀ pre x W, Rx x → J pre W → pre.length < 48 → YieldAt F (n - 1) Try.prog l (encU x) W fun e W' =>
      (e = .returned (.bool true) ∧ J (pre ++ [x]) W' ∧ KeepB Bx W W') ∨ (e = .returned (.bool false) ∧ Jx (pre ++ [x]) W'))
    (W : World) (hn0 : Bx < W.heap.size) (hJA : AbidesFrom W.heap.size J) (hbox : ∀ i, W.cell? ⟨Bx, i, none⟩ = (ccA m)[i]?) (h0 : J [] W) :
    CallsIn F n Try.prog 159 #[.func (.yield l) #[] #[], .pointer (some ⟨Bx, 0, none⟩)] W fun e W' => (∃ v, e = .returned v) ∧
      ((∃ ys, ys = usedAll m c ∧ J ys W') ∨ (∃ pre, pre <+: usedAll m c ∧ Jx pre W')) := by
  have hc0 := ccA_count m
  rw [hm] at hc0
  have HY := hide hY
  have HRX := hide hRx
  have HJAB := hide hJA
  clear hY hJA hRx
  refine callsIn_of_wp Try.func159 rfl h122 ?_ hro
  simp only [Try.ntmps159, List.size_toArray, List.length_cons, List.length_nil, Nat.reduceAdd, Nat.reduceSub, Array.replicate_succ, Array.replicate_zero, List.push_toArray, List.append_toArray, List.nil_append, List.cons_append]
  gi_wp2
  gi_loopw [8] (fun i wr => ∃ b : Nat, b ≤ c ∧ i = .int .i64 b ∧ J (usedAll m b) wr ∧ KeepB Bx W wr) (fun i _ => c - (intOf i).toNat)
  case atStart => exact ⟨0, Nat.zero_le _, rfl, h0, KeepB.refl _ _⟩
  case round =>
    obtain ⟨b, hb, rfl, hJs, hnx⟩ := hrel
    clear hc0
    by_cases hlt : b < c
    · have hboxr : ∀ i, wr.cell? ⟨Bx, i, none⟩ = (ccA m)[i]? := fun i => (hnx.cell i).trans (hbox i)
      have hpa : ∀ j, j < 16 → wr.cell? ⟨Bx, 1 + b * 17 + 1 + j, none⟩ = (paA (m.page b))[j]? := fun j hj => by rw [hboxr]; exact ccA_pages m (by omega) hj
      have HPA := hide hpa
      have HBR := hide hboxr
      clear hpa hboxr hbox
      gi_wp2_with (refine wpListIn_load_mid rfl 92 _ rfl Bx (1 + b * 17 + 1) rfl (paA (m.page b)) 16 (paA_size _) (unhide HPA) _ Try.underlying92 rfl sizePages ?_)
      clear HPA HBR
      gi_loopw [16] (fun i wr => ∃ k : Nat, k ≤ 4 ∧ i = .int .i64 k ∧ J (usedAll m b ++ usedB m b k) wr ∧ KeepB Bx W wr) (fun i _ => 4 - (intOf i).toNat)
      case atStart => exact ⟨0, by omega, rfl, by simpa [usedB] using hJs, hnx⟩
      case round =>
        obtain ⟨k, hk, rfl, hJk, hnk⟩ := hrel
        have hbl : Bx < wr.heap.size := Nat.lt_of_lt_of_le hn0 hnk.1
        have hszk := hnk.1
        have HNK := hide hnk
        clear hnk
        by_cases hlt2 : k < 4
        · have hk4 : (k : Int) < 4 := by omega
          have hidx := fun W => run_index_pages (P := Try.prog) W 92 28 (m.page b) k hlt2 Try.underlying92 _ Try.underlying28 rfl sizePage
          obtain ⟨p, hp⟩ : ∃ p, m.page b k = p := ⟨_, rfl⟩
          have hsu := usedB_succ m b k
          have hrx := unhide HRX b k (by omega) hlt2
          rw [hp] at hidx hsu hrx
          obtain ⟨u, lg, s, d⟩ := p
          simp only at hidx hrx
          have HRXP := hide hrx
          clear hrx
          have hlen : (usedAll m b ++ usedB m b k).length < 48 := by
            rw [List.length_append]
            have h1 := usedAll_length m b
            have h2 := usedB_length m b k
            omega
          have HSU := hide hsu
          clear hsu hp hm
          have hpre := used_le m (b := b) (k := k + 1) (n := c) hlt (by omega)
          have HPRE := hide hpre
          clear hpre
          have hJa : ∀ o, J (usedAll m b ++ usedB m b k) (wr.alloc o) := fun o => unhide HJAB _ _ _ none hJk (World.grownBy_alloc wr o none) (fun r e => by cases e)
          have HJA := hide hJa
          clear hJa
          cases u with
          | false =>
            clear hJk hJs hnx h0 hlen hszk
            gi_wp2
            refine ⟨fun _ h => (by cases h), ?_⟩
            gi_wp2
            go_roundw
            case rel =>
              refine ⟨k + 1, by omega, by go_num, ?_, (unhide HNK).trans (KeepB.alloc _ _ hbl)⟩
              rw [unhide HSU]
              simp only [Bool.false_eq_true, if_false, List.append_nil]
              exact unhide HJA _
            case measure => simp [intOf]; omega
          | true =>
            obtain ⟨fn, tmps, assign, body, hy, hR⟩ := unhide HY (usedAll m b ++ usedB m b k) ((b : Int) * 4 + (k : Int), ⟨true, lg, s, d⟩) (wr.alloc (.cells #[.bool true, .int .i64 lg, .int .i64 s, .string d] 28)) (unhide HRXP rfl) (unhide HJA _) hlen
            dsimp only [encU] at hy
            have HR := hide hR
            clear hR
            gi_wp2
            refine (unhide HR).mono ?_
            rintro e W3 (⟨rfl, hJ3, hk3⟩ | ⟨rfl, hJx3⟩)
            · have HK3 := hide hk3
              clear hk3
              gi_wp2
              go_roundw
              case rel =>
                refine ⟨k + 1, by omega, by go_num, ?_, ((unhide HNK).trans (KeepB.alloc _ _ hbl)).trans (unhide HK3)⟩
                rw [unhide HSU, ← List.append_assoc]
                exact hJ3
              case measure => simp [intOf]; omega
            · gi_wp2
              refine bodyPost_ret (results_none rfl _ _ _) rfl ?_
              refine ⟨⟨_, rfl⟩, .inr ⟨_, ?_, hJx3⟩⟩
              have := unhide HPRE
              rw [unhide HSU, ← List.append_assoc] at this
              exact this
        · obtain rfl : k = 4 := by omega
          gi_wp2
          go_roundw
          case rel => exact ⟨b + 1, by omega, by go_num, by rw [usedAll_succ]; exact hJk, unhide HNK⟩
          case measure => simp [intOf]; omega
    · obtain rfl : b = c := by omega
      gi_wp2
      go_end0
      exact ⟨⟨_, rfl⟩, .inl ⟨_, rfl, hJs⟩⟩

theorem usedR_stops (Rx : Int × Pg → Prop) (F : Fence) (n : Nat) (h122 : F.fn 159) (hro : F.round = none) (hn : 1 ≤ n) (Bx c : Nat) (m : CC) (hm : m.count = c) (hc : c ≤ 12) (hRx : ∀ b k : Nat, b < c → k < 4 → (m.page b k).used = true → Rx ((b : Int) * 4 + (k : Int), m.page b k)) (w : World) (hBx : Bx < w.heap.size) (hbox : ∀ i, w.cell? ⟨Bx, i, none⟩ = (ccA m)[i]?) :
    SeqStopsK F n Try.prog 159 #[.pointer (some ⟨Bx, 0, none⟩)] (fun x : {x : Int × Pg // Rx x} => encU x.val) (KeepB Bx) (fun ys => ys.map (·.val) = usedAll m c) (fun pre => pre.map (·.val) <+: usedAll m c) 48 w := by
  intro l J Jx W hW hJA _ hY h0
  refine (used1R_in Rx F n h122 hro hn l Bx c m hm hc (fun p W => ∃ q : List {x : Int × Pg // Rx x}, q.map (·.val) = p ∧ J q W) (fun p W => ∃ q : List {x : Int × Pg // Rx x}, q.map (·.val) = p ∧ Jx q W) hRx ?_ W (Nat.lt_of_lt_of_le hBx hW.size) ?_ (fun i => (hW.cell (p := ⟨Bx, i, none⟩) hBx).trans (hbox i)) ⟨[], rfl, h0⟩).mono ?_
  · rintro pre x W1 hx ⟨q, rfl, hq⟩ hl
    obtain ⟨fn, tmps, assign, body, hy, hR⟩ := hY q ⟨x, hx⟩ W1 hq (by simpa using hl)
    refine ⟨fn, tmps, assign, body, hy, hR.mono ?_⟩
    rintro e W' (⟨rfl, h1, h2⟩ | ⟨rfl, h1⟩)
    · exact .inl ⟨rfl, ⟨_, by simp, h1⟩, h2⟩
    · exact .inr ⟨rfl, ⟨_, by simp, h1⟩⟩
  · rintro p W W' row ⟨q, hq, hJ⟩ hg hr
    exact ⟨q, hq, hJA q W W' row hJ hg hr⟩
  · rintro e W' ⟨hv, h⟩
    refine ⟨hv, ?_⟩
    rcases h with ⟨ys, rfl, q, hq, hJ⟩ | ⟨pre, hp, q, rfl, hJ⟩
    · exact .inl ⟨q, hq, hJ⟩
    · exact .inr ⟨q, hp, hJ⟩
end Go.Proofs.Ytalgkmellbamgaa

/- The walk over the places that a map names: the program's namedPlaces, for whom asks something of each of them. -/
namespace Go.Proofs.Ytalgkmellbamgaa
open Go.RowKit Go.Shelf
set_option linter.unusedVariables false
set_option linter.unusedSimpArgs false
attribute [local go_sem] Oper.semAt_some

/-- The rows of S are as they were. -/
def KeepS (S : Nat → Prop) (W W' : World) : Prop := W.heap.size ≤ W'.heap.size ∧ ∀ k, S k → W'.heap[k]? = W.heap[k]?
theorem KeepS.refl (S : Nat → Prop) (W : World) : KeepS S W W := ⟨Nat.le_refl _, fun _ _ => rfl⟩
theorem KeepS.trans {S : Nat → Prop} {A B C : World} (h : KeepS S A B) (k : KeepS S B C) : KeepS S A C := ⟨Nat.le_trans h.1 k.1, fun i hi => (k.2 i hi).trans (h.2 i hi)⟩
theorem KeepS.cell {S : Nat → Prop} {A B : World} (h : KeepS S A B) {b : Nat} (hb : S b) (i : Nat) : B.cell? ⟨b, i, none⟩ = A.cell? ⟨b, i, none⟩ := World.cell?_of_block (w := A) (h.2 b hb)
theorem KeepS.alloc {S : Nat → Prop} (W : World) (o : Obj) (h : ∀ k, S k → k < W.heap.size) : KeepS S W (W.alloc o) := ⟨by simp, fun k hk => Below.heap_alloc _ _ _ (h k hk)⟩
theorem KeepS.setCell {S : Nat → Prop} (W : World) (a : Addr) (v : Value) (h : ¬ S a.block) : KeepS S W (W.setCell a v) := ⟨by simp [World.setCell], fun k hk => Below.heap_setCell _ _ _ _ (fun e => h (by rw [← e]; exact hk))⟩
theorem keepS_b {S : Nat → Prop} {w : World} (hn : ∀ k, S k → k < w.heap.size) (W : World) (l : Nat) (o o' : Obj) (hl : w.heap.size ≤ l) (_ : W.heap[l]? = some o) (_ : o.isCells = false) (_ : o.isWalk = false) : KeepS S W (W.putObj l o') :=
  ⟨by simp, fun k hk => World.putObj_heap_other (by have := hn k hk; omega)⟩
theorem IntsAt.keepS {S : Nat → Prop} {W W' : World} {a : Option Addr} {L : List Int} (h : IntsAt W a L) (hk : KeepS S W W') (hS : ∀ b o, a = some ⟨b, o, none⟩ → 0 < L.length → S b) : IntsAt W' a L := by
  intro i x hx
  obtain ⟨b, o, ha, hc⟩ := h i x hx
  exact ⟨b, o, ha, (hk.cell (hS b o ha (by have := (List.getElem?_eq_some_iff.1 hx).1; omega)) _).trans hc⟩

def encI (x : Int) : Array Value := #[.int .i64 x]

set_option maxRecDepth 100000 in
set_option maxHeartbeats 4000000 in
theorem named1_in (Rx : Int → Prop) (S : Nat → Prop) (F : Fence) (n : Nat) (hF : F.fn 153) (hro : F.round = none) (hn : 1 ≤ n) (l Bx : Nat) (hSx : S Bx) (a : Option Addr) (c : Nat) (L : List Int) (nn : Nat) (hnn : L.length = nn) (hsm : nn ≤ 1048576) (J Jx : List Int → World → Prop)
    (hRx : ∀ x ∈ L, x ≠ -1 → Rx x) (hY : ∀ pre x W, Rx x → J pre W → pre.length < nn → YieldAt F (n - 1) Try.prog l (encI x) W fun e W' =>
      (e = .returned (.bool true) ∧ J (pre ++ [x]) W' ∧ KeepS S W W') ∨ (e = .returned (.bool false) ∧ Jx (pre ++ [x]) W'))
    (W : World) (hbox : W.cell? ⟨Bx, 0, none⟩ = some (.slice a nn c)) (hI : IntsAt W a L) (hSa : ∀ b o, a = some ⟨b, o, none⟩ → 0 < L.length → S b) (h0 : J [] W) :
    CallsIn F n Try.prog 153 #[.func (.yield l) #[] #[], .pointer (some ⟨Bx, 0, none⟩)] W fun e W' => (∃ v, e = .returned v) ∧
      ((∃ ys, ys = namedOf L ∧ J ys W') ∨ (∃ pre, pre <+: namedOf L ∧ Jx pre W')) := by
  have HY := hide hY
  have HRX := hide hRx
  have HI := hide hI
  have HN := hide hnn
  have HSA := hide hSa
  clear hY hRx hI hnn hSa
  refine callsIn_of_wp Try.func153 rfl hF ?_ hro
  simp only [Try.ntmps153, List.size_toArray, List.length_cons, List.length_nil, Nat.reduceAdd, Nat.reduceSub, Array.replicate_succ, Array.replicate_zero, List.push_toArray, List.append_toArray, List.nil_append, List.cons_append]
  gi_wp2
  clear hbox
  gi_loopw [7] (fun i wr => ∃ k : Nat, k ≤ nn ∧ i = .int .i64 k ∧ J (namedOf (L.take k)) wr ∧ KeepS S W wr) (fun i _ => nn - (intOf i).toNat)
  case atStart => exact ⟨0, Nat.zero_le _, rfl, h0, KeepS.refl _ _⟩
  case round =>
    obtain ⟨k, hk, rfl, hJs, hnx⟩ := hrel
    by_cases hlt : k < nn
    · obtain ⟨x, hx⟩ := getElem?_ex (l := L) (k := k) (by have := unhide HN; omega)
      obtain ⟨b1, o1, rfl, c1⟩ := ((unhide HI).keepS hnx (unhide HSA)) k x hx
      have hst := namedOf_take hx
      have hlen : (namedOf (L.take k)).length < nn := by
        have := namedOf_length (L.take k)
        rw [List.length_take] at this
        omega
      have hpre := namedOf_prefix L (k + 1)
      have hrx := unhide HRX x (List.mem_of_getElem? hx)
      have HST := hide hst
      have HPRE := hide hpre
      have HRXP := hide hrx
      have HNX := hide hnx
      clear hst hpre hrx hx hnx
      by_cases hxm : x = -1
      · have hne : (x != -1) = false := by simpa using hxm
        clear hlen
        gi_wp2
        refine ⟨fun _ h => (by cases h), ?_⟩
        gi_wp2
        go_roundw
        case rel =>
          refine ⟨k + 1, by omega, by go_num, ?_, unhide HNX⟩
          rw [unhide HST, if_pos hxm, List.append_nil]
          exact hJs
        case measure => simp [intOf]; omega
      · have hne : (x != -1) = true := by simpa using hxm
        obtain ⟨fn, tmps, assign, body, hy, hR⟩ := unhide HY (namedOf (L.take k)) x wr (unhide HRXP hxm) hJs hlen
        dsimp only [encI] at hy
        have HR := hide hR
        clear hR
        gi_wp2
        refine (unhide HR).mono ?_
        rintro e W3 (⟨rfl, hJ3, hk3⟩ | ⟨rfl, hJx3⟩)
        · have HK3 := hide hk3
          clear hk3
          gi_wp2
          go_roundw
          case rel =>
            refine ⟨k + 1, by omega, by go_num, ?_, (unhide HNX).trans (unhide HK3)⟩
            rw [unhide HST, if_neg hxm]
            exact hJ3
          case measure => simp [intOf]; omega
        · gi_wp2
          refine bodyPost_ret (results_none rfl _ _ _) rfl ?_
          refine ⟨⟨_, rfl⟩, .inr ⟨_, ?_, hJx3⟩⟩
          have := unhide HPRE
          rw [unhide HST, if_neg hxm] at this
          exact this
    · obtain rfl : k = nn := by omega
      have e : L.take k = L := by rw [← unhide HN]; exact List.take_length
      rw [e] at hJs
      gi_wp2
      go_end0
      exact ⟨⟨_, rfl⟩, .inl ⟨_, rfl, hJs⟩⟩

set_option maxHeartbeats 1000000 in
theorem namedPlaces_in (F : Fence) (n : Nat) (hF : F.fn 128) (hro : F.round = none) (a : Option Addr) (nn c : Nat) (w : World) :
    CallsIn F n Try.prog 128 #[.slice a nn c] w fun e w' => e = .returned (.func (.func 153) #[] #[.pointer (some ⟨w.heap.size, 0, none⟩)]) ∧ w' = w.alloc (.cells #[.slice a nn c] 41) := by
  refine callsIn_of_wp Try.func128 rfl hF ?_ hro
  simp only [Try.ntmps128, List.size_toArray, List.length_cons, List.length_nil, Nat.reduceAdd, Nat.reduceSub, Array.replicate_succ, Array.replicate_zero, List.push_toArray, List.append_toArray, List.nil_append, List.cons_append]
  gi_wp2
  go_ret
  exact ⟨rfl, rfl⟩

theorem named_stops (Rx : Int → Prop) (S : Nat → Prop) (F : Fence) (n : Nat) (hF : F.fn 153) (hro : F.round = none) (hn : 1 ≤ n) (Bx : Nat) (hSx : S Bx) (a : Option Addr) (c : Nat) (L : List Int) (nn : Nat) (hnn : L.length = nn) (hsm : nn ≤ 1048576) (hRx : ∀ x ∈ L, x ≠ -1 → Rx x)
    (w : World) (hS : ∀ k, S k → k < w.heap.size) (hbox : w.cell? ⟨Bx, 0, none⟩ = some (.slice a nn c)) (hI : IntsAt w a L) (hSa : ∀ b o, a = some ⟨b, o, none⟩ → 0 < L.length → S b) :
    SeqStopsK F n Try.prog 153 #[.pointer (some ⟨Bx, 0, none⟩)] (fun x : {x : Int // Rx x} => encI x.val) (KeepS S) (fun ys => ys.map (·.val) = namedOf L) (fun pre => pre.map (·.val) <+: namedOf L) nn w := by
  intro l J Jx W hW hJA _ hY h0
  refine (named1_in Rx S F n hF hro hn l Bx hSx a c L nn hnn hsm (fun p W => ∃ q : List {x : Int // Rx x}, q.map (·.val) = p ∧ J q W) (fun p W => ∃ q : List {x : Int // Rx x}, q.map (·.val) = p ∧ Jx q W) hRx ?_ W ((hW.cell (p := ⟨Bx, 0, none⟩) (hS Bx hSx)).trans hbox) (hI.below hW (Nat.le_refl _)) hSa ⟨[], rfl, h0⟩).mono ?_
  · rintro pre x W1 hx ⟨q, rfl, hq⟩ hl
    obtain ⟨fn, tmps, assign, body, hy, hR⟩ := hY q ⟨x, hx⟩ W1 hq (by simpa using hl)
    refine ⟨fn, tmps, assign, body, hy, hR.mono ?_⟩
    rintro e W' (⟨rfl, h1, h2⟩ | ⟨rfl, h1⟩)
    · exact .inl ⟨rfl, ⟨_, by simp, h1⟩, h2⟩
    · exact .inr ⟨rfl, ⟨_, by simp, h1⟩⟩
  · rintro e W' ⟨hv, h⟩
    refine ⟨hv, ?_⟩
    rcases h with ⟨ys, rfl, q, hq, hJ⟩ | ⟨pre, hp, q, rfl, hJ⟩
    · exact .inl ⟨q, hq, hJ⟩
    · exact .inr ⟨q, hp, hJ⟩
end Go.Proofs.Ytalgkmellbamgaa

/- A map of numbers and places by logs, which the call itself has made: what it holds is said by the pages that came. -/
namespace Go.Proofs.Ytalgkmellbamgaa
open Go.RowKit Go.Maps
set_option linter.unusedVariables false
set_option linter.unusedSimpArgs false

def npD (s p : Int) : DataW Unit := .agg [.lit (.int .i64 s), .lit (.int .i64 p)]
def npElem (v : Value) : Option (DataW Unit × List MemPlace) :=
  match v with
  | .agg A => match A.toList with
    | [.int .i64 s, .int .i64 p] => some (npD s p, [])
    | _ => none
  | _ => none
theorem npElem_mk (s p : Int) : npElem (.agg #[.int .i64 s, .int .i64 p]) = some (npD s p, []) := rfl
theorem npElem_inv {v : Value} {z : DataW Unit × List MemPlace} (h : npElem v = some z) : ∃ s p : Int, v = .agg #[.int .i64 s, .int .i64 p] ∧ z = (npD s p, []) := by
  unfold npElem at h
  split at h
  · rename_i A
    split at h
    · rename_i s p e
      cases h
      refine ⟨s, p, ?_, rfl⟩
      congr 1
      exact Array.toList_inj.1 (by rw [e])
    · cases h
  · cases h
theorem npD_inj {s p s' p' : Int} (h : npD s p = npD s' p') : s = s' ∧ p = p' := by
  simp [npD] at h
  exact h

def npOf : Option (Int × Pg) → Int × Int
  | none => (0, 0)
  | some y => (y.2.seq, y.1)

theorem i64_keyed : Keyed Try.prog 2 := int_keyed Try.underlying2
theorem zeroNp (w : World) : (zeroValue 160).run Try.prog w = .ok (.agg #[.int .i64 0, .int .i64 0]) w := by kernel_rfl

/-- The map in block b holds, of each log, the newest of the pages xs. -/
def NpIs (W : World) (b n : Nat) (xs : List (Int × Pg)) : Prop :=
  ∃ D : DataW Unit, W.ownsMap Try.prog 2 npElem b n D ∧ IsMap D ∧ ∀ k : Int, 0 ≤ k → k ≤ 39 → D.atKey (.int .i64 k) (npD 0 0) = npD (npOf (newestAt xs k)).1 (npOf (newestAt xs k)).2 ∧ Maps.has D (.int .i64 k) = (newestAt xs k).isSome

theorem NpIs.lt {W : World} {b n : Nat} {xs : List (Int × Pg)} (h : NpIs W b n xs) : b < W.heap.size := by
  obtain ⟨D, h1, _⟩ := h
  exact h1.lt
theorem NpIs.made (w : World) : NpIs (w.alloc (.map #[] 0)) w.heap.size 0 [] :=
  ⟨_, World.ownsMap_made _ _ _ _, isMap_empty, fun k _ _ => ⟨rfl, rfl⟩⟩
theorem NpIs.kept {W W' : World} {b n : Nat} {xs : List (Int × Pg)} {row : Option Nat} (h : NpIs W b n xs) (hg : W.grownBy W' row) (hne : some b ≠ row) : NpIs W' b n xs := by
  obtain ⟨D, h1, h2⟩ := h
  exact ⟨D, h1.kept hg hne, h2⟩
theorem NpIs.mono {W : World} {b n n' : Nat} {xs : List (Int × Pg)} (h : NpIs W b n xs) (hn : n ≤ n') : NpIs W b n' xs := by
  obtain ⟨D, h1, h2⟩ := h
  exact ⟨D, h1.mono hn, h2⟩
theorem isKeyLit_int (k : Int) : WideAt.IsKeyLit (.int .i64 k) := by simp [WideAt.IsKeyLit]

theorem NpIs.step {W W' : World} {b n n' : Nat} {xs : List (Int × Pg)} {x : Int × Pg} {l : Int} (hl : x.2.log = l) {D : DataW Unit} (hM : IsMap D)
    (hD : ∀ k : Int, 0 ≤ k → k ≤ 39 → D.atKey (.int .i64 k) (npD 0 0) = npD (npOf (newestAt xs k)).1 (npOf (newestAt xs k)).2 ∧ Maps.has D (.int .i64 k) = (newestAt xs k).isSome)
    (hO : W'.ownsMap Try.prog 2 npElem b n' (D.put (.int .i64 l) (npD x.2.seq x.1))) (hn : newer (newestAt xs l) x.2.seq = true) : NpIs W' b n' (xs ++ [x]) := by
  refine ⟨_, hO, hM.put _ _, fun k h0 h1 => ?_⟩
  rw [newestAt_snoc]
  by_cases e : k = l
  · subst e
    rw [atKey_put_same hM (isKeyLit_int _), has_put_same hM (isKeyLit_int _)]
    unfold pick
    rw [if_pos ⟨hl, hn⟩]
    exact ⟨rfl, rfl⟩
  · have hne : (Lit.int .i64 k) ≠ .int .i64 l := by intro h; cases h; exact e rfl
    rw [atKey_put_other hne, has_put_other hne]
    unfold pick
    rw [if_neg (fun h => e (by rw [← h.1, hl]))]
    exact hD k h0 h1
theorem NpIs.same {W : World} {b n : Nat} {xs : List (Int × Pg)} (h : NpIs W b n xs) {x : Int × Pg} {l : Int} (hl : x.2.log = l) (hn : ¬ newer (newestAt xs l) x.2.seq = true) : NpIs W b n (xs ++ [x]) := by
  obtain ⟨D, h1, h2, h3⟩ := h
  refine ⟨D, h1, h2, fun k k0 k1 => ?_⟩
  rw [newestAt_snoc]
  unfold pick
  rw [if_neg (fun hc => hn (by rw [← hl, hc.1]; exact hc.2))]
  exact h3 k k0 k1

theorem keyOf_log {k : Int} (h0 : 0 ≤ k) (h1 : k ≤ 39) : keyOf Try.prog 2 (.int .i64 k) = some (.int .i64 k) := keyOf_int_mk Try.underlying2 (WalkArith.wf_i64 (by omega))

section
variable {F : Fence} {nF : Nat} (w : World) {ops : Array Oper} {rest : List Oper} {o : Oper} {a : Act} {Q : Exit → Act → World → Prop}
theorem wpListIn_lookup_np (hg : o.guard = none) (m x : Operand) (hop : o.op = Op.lookup 174 m x false) (b n : Nat) (xs : List (Int × Pg)) (hm : a.eval m = .map (some b)) (hN : NpIs w b n xs)
    (k : Int) (h0 : 0 ≤ k) (h1 : k ≤ 39) (hx : a.eval x = .int .i64 k)
    (hK : wpListIn F nF Try.prog ops Q rest (a.put o.dst (.agg #[.int .i64 (npOf (newestAt xs k)).1, .int .i64 (npOf (newestAt xs k)).2])) w) : wpListIn F nF Try.prog ops Q (o :: rest) a w := by
  refine wpListIn_plain hg fun K' hK' => ?_
  obtain ⟨D, hown, hM, hD⟩ := hN
  obtain ⟨v, ps, hrun, hv⟩ := hown.lookup i64_keyed Try.underlying174 (zeroNp w) (npElem_mk 0 0) (keyOf_log h0 h1)
  obtain ⟨s, p, rfl, hz⟩ := npElem_inv hv
  rw [(hD k h0 h1).1] at hz
  obtain ⟨e1, e2⟩ := npD_inj (congrArg Prod.fst hz)
  rw [e1, e2] at hK
  unfold Oper.wpIn
  refine ⟨by simp [Oper.about, hop], ?_⟩
  rw [Oper.semAt_plain F _ _ (by rw [hop]; intro c hc'; cases hc')]
  simp [execOp, hop, hm, hx, hrun, Result.andThen]
  exact hK' _ _ hK
theorem wpListIn_lookup_ok_np (hg : o.guard = none) (m x : Operand) (hop : o.op = Op.lookup 174 m x true) (b n : Nat) (xs : List (Int × Pg)) (hm : a.eval m = .map (some b)) (hN : NpIs w b n xs)
    (k : Int) (h0 : 0 ≤ k) (h1 : k ≤ 39) (hx : a.eval x = .int .i64 k)
    (hK : wpListIn F nF Try.prog ops Q rest (a.put o.dst (.tuple #[.agg #[.int .i64 (npOf (newestAt xs k)).1, .int .i64 (npOf (newestAt xs k)).2], .bool (newestAt xs k).isSome])) w) : wpListIn F nF Try.prog ops Q (o :: rest) a w := by
  obtain ⟨D, hown, hM, hD⟩ := hN
  refine wpListIn_lookup_own_ok w hg m x _ hop _ _ i64_keyed Try.underlying174 npElem (zeroNp w) _ _ (npElem_mk 0 0) b n D hm hown _ _ hx (keyOf_log h0 h1) (fun v ps hv => ?_)
  obtain ⟨s, p, rfl, hz⟩ := npElem_inv hv
  rw [(hD k h0 h1).1] at hz
  obtain ⟨e1, e2⟩ := npD_inj (congrArg Prod.fst hz)
  rw [e1, e2] at hK
  rw [(hD k h0 h1).2]
  exact hK
theorem wpListIn_update_np (hg : o.guard = none) (m x v : Operand) (hop : o.op = Op.mapUpdate 174 m x v) (b n : Nat) (xs : List (Int × Pg)) (hm : a.eval m = .map (some b)) (hN : NpIs w b n xs) (hn : n < maxLen)
    (y : Int × Pg) (h0 : 0 ≤ y.2.log) (h1 : y.2.log ≤ 39) (hx : a.eval x = .int .i64 y.2.log) (hv : a.eval v = .agg #[.int .i64 y.2.seq, .int .i64 y.1]) (hnw : newer (newestAt xs y.2.log) y.2.seq = true)
    (hK : ∀ w', NpIs w' b (n + 1) (xs ++ [y]) → w.grownBy w' (some b) → wpListIn F nF Try.prog ops Q rest (a.put o.dst undef) w') : wpListIn F nF Try.prog ops Q (o :: rest) a w := by
  obtain ⟨D, hown, hM, hD⟩ := hN
  refine wpListIn_mapUpdate_own w hg m x v _ hop _ _ i64_keyed Try.underlying174 npElem b n D hm hown hn _ _ _ hx hv (keyOf_log h0 h1) _ _ (npElem_mk _ _) (fun w' h2 h3 => ?_)
  exact hK w' (NpIs.step (W := w) (n := n) rfl hM hD h2 hnw) h3
end
end Go.Proofs.Ytalgkmellbamgaa

/- Lists of int64: the laws' own copy and comparison. -/
namespace Go.Proofs.Ytalgkmellbamgaa
open Go.RowKit
set_option linter.unusedVariables false
set_option linter.unusedSimpArgs false

set_option maxHeartbeats 1000000 in
theorem eqInt64S_same (a1 a2 : Option Addr) (c1 c2 : Nat) (L : List Int) (n : Nat) (hl : L.length = n) (w : World) (h1 : IntsAt w a1 L) (h2 : IntsAt w a2 L) (hn : n ≤ 1048576) :
    Calls Try.prog 100 #[.slice a1 n c1, .slice a2 n c2] w fun e w' => e = .returned (.bool true) ∧ Below w.heap.size w w' := by
  go_enter Try.func100, Try.ntmps100
  go_wp2
  go_loopw [5] (fun i wr => ∃ k : Nat, k ≤ n ∧ i = .int .i64 k ∧ Below w.heap.size w wr) (fun i _ => n - (intOf i).toNat)
  case atStart => exact ⟨0, Nat.zero_le _, rfl, Below.refl _ _⟩
  case round =>
    obtain ⟨k, hk, rfl, hB⟩ := hrel
    by_cases hlt : k < n
    · obtain ⟨x, hx⟩ := getElem?_ex (l := L) (k := k) (by omega)
      obtain ⟨b1, o1, rfl, g1⟩ := (h1.below hB (Nat.le_refl _)) k x hx
      obtain ⟨b2, o2, rfl, g2⟩ := (h2.below hB (Nat.le_refl _)) k x hx
      have hne : (x != x) = false := by simp
      clear hx h1 h2 hl
      go_wp2
      go_region
      all_goals (
        go_wp2
        go_roundw
        case rel => exact ⟨k + 1, by omega, by go_num, hB.drew⟩
        case measure => simp [intOf]; omega)
    · go_wp2
      go_ret
      exact ⟨rfl, hB⟩

theorem infoInt : (Try.prog.info? 2).map (fun i => (i.zero, i.size, i.bytes)) = some (some (.int .i64 0), 1, 8) := by kernel_rfl

theorem make_ints (n : Nat) (hn : n ≤ 1048576) (w : World) :
    (Instr.makeSlice 41 (.int .i64 (n : Int)) (.int .i64 (n : Int))).run Try.prog w = .ok (.slice (some ⟨w.heap.size, 0, none⟩) n n) (w.alloc (.cells (madeCells #[.int .i64 0] n) 2)) := by
  obtain ⟨i, hi, hz⟩ := Option.map_eq_some_iff.1 infoInt
  simp only [Prod.mk.injEq] at hz
  obtain ⟨hz0, hz1, hz2⟩ := hz
  have h := run_make (P := Try.prog) w 41 2 i _ Try.underlying41 hi hz0 .i64 .i64 (n : Int) (n : Int) (by omega) (Int.le_refl _) (by rw [hz2]; omega) (by omega)
  rw [hz1] at h
  simpa [Value.cells] using h

set_option maxHeartbeats 1000000 in
theorem toInt64S_any (a : Option Addr) (c : Nat) (L : List Int) (n : Nat) (hl : L.length = n) (w : World) (h : IntsAt w a L) (hn : n ≤ 1048576) :
    Calls Try.prog 98 #[.slice a n c] w fun e w' => e = .returned (.slice (some ⟨w.heap.size, 0, none⟩) n n) ∧ RowInts w' 2 w.heap.size n L ∧ Below w.heap.size w w' := by
  have hmk := make_ints n hn
  go_enter Try.func98, Try.ntmps98
  go_wp2
  clear hmk
  go_loopw [4] (fun i wr => ∃ k : Nat, k ≤ n ∧ i = .int .i64 k ∧ RowInts wr 2 w.heap.size n (L.take k) ∧ Below w.heap.size w wr) (fun i _ => n - (intOf i).toNat)
  case atStart => exact ⟨0, Nat.zero_le _, rfl, by simpa using RowInts.made w _ _, (Below.refl _ _).alloc (Nat.le_refl _) _⟩
  case round =>
    obtain ⟨k, hk, rfl, hO, hB⟩ := hrel
    by_cases hlt : k < n
    · obtain ⟨x, hx⟩ := getElem?_ex (l := L) (k := k) (by omega)
      obtain ⟨b1, o1, rfl, g1⟩ := (h.below hB (Nat.le_refl _)) k x hx
      have c0 := World.rowIs.cell hO (i := k) hlt
      have f0 := World.rowIs.frozen hO
      have HX := hide hx
      have HO := hide hO
      clear hx h hO hl
      go_wp2
      go_roundw
      case rel => exact ⟨k + 1, by omega, by go_num, (unhide HO).put (unhide HX), hB.setCell (Nat.le_refl _) _⟩
      case measure => simp [intOf]; omega
    · have hk' : k = L.length := by omega
      subst hk'
      rw [List.take_length] at hO
      have HO := hide hO
      clear hO h
      go_wp2
      go_ret
      exact ⟨rfl, unhide HO, hB⟩

end Go.Proofs.Ytalgkmellbamgaa

/- The program's map of the newest pages. -/
namespace Go.Proofs.Ytalgkmellbamgaa
open Go.RowKit Go.Shelf
set_option linter.unusedVariables false
set_option linter.unusedSimpArgs false
attribute [local go_sem] Oper.semAt_some

def RightU (x : Int × Pg) : Prop := 0 ≤ x.2.log ∧ x.2.log ≤ 39 ∧ 1 ≤ x.2.seq ∧ x.2.seq ≤ 1000000000
abbrev RU := {x : Int × Pg // RightU x}

/-- Between two rounds: the function's own variables, those that came being pre. -/
def NewI (w : World) (room : Nat) (pre : List RU) (W : World) : Prop :=
  W.heap[w.heap.size + 1]? = some (.cells #[Value.slice none 0 0] 41 (0, 0)) ∧ W.heap[w.heap.size + 1 + 1]? = some (.cells #[Value.bool false] 4 (0, 0)) ∧
  W.heap[w.heap.size + 1 + 1 + 1]? = some (.cells #[Value.int .i64 (room : Int)] 2 (0, 0)) ∧ W.heap[w.heap.size + 1 + 1 + 1 + 1 + 1]? = some (.cells #[Value.map (some (w.heap.size + 1 + 1 + 1 + 1))] 174 (0, 0)) ∧
  NpIs W (w.heap.size + 1 + 1 + 1 + 1) pre.length (pre.map (·.val)) ∧ (∀ x ∈ pre, x.val.2.log < (room : Int)) ∧ w.heap.size + 1 + 1 + 1 + 1 + 1 + 1 < W.heap.size
def NewX (w : World) (room : Nat) (c : Code) (pre : List RU) (W : World) : Prop :=
  c = .ret ∧ (∃ x ∈ pre, (room : Int) ≤ x.val.2.log) ∧ W.heap[w.heap.size + 1]? = some (.cells #[Value.slice none 0 0] 41 (0, 0)) ∧ W.heap[w.heap.size + 1 + 1]? = some (.cells #[Value.bool false] 4 (0, 0))
theorem NewI.own (w : World) (room : Nat) {B : Nat} (hB : w.heap.size + 1 + 1 + 1 + 1 < B) : OwnFrom B (NewI w room) := fun p W W' row ⟨h1, h2, h3, h4, h5, h6, h7⟩ hg hr =>
  have hr' : ∀ r, row = some r → ∃ o : Obj, W.heap[r]? = some o ∧ o.isCells = false := fun r e => (hr r e).2
  ⟨blk_kept h1 hg hr', blk_kept h2 hg hr', blk_kept h3 hg hr', blk_kept h4 hg hr', h5.kept hg (fun e => by have := (hr _ e.symm).1; omega), h6, Nat.lt_of_lt_of_le h7 hg.size⟩
theorem NewX.own (w : World) (room : Nat) (c : Code) : Own (NewX w room c) := fun p W W' row ⟨h1, h2, h3, h4⟩ hg hr => ⟨h1, h2, blk_kept h3 hg hr, blk_kept h4 hg hr⟩

theorem keepsFrom_grown {B b : Nat} {W W' : World} (h : W.grownBy W' (some b)) (hb : b < B) : KeepsFrom B W W' :=
  ⟨h.size, fun k o hk ho _ => by rw [h.block k (Array.getElem?_eq_some_iff.1 ho).1 (fun e => by cases e; omega)]; exact ho⟩
theorem keepB_grown {Bx b : Nat} {W W' : World} (h : W.grownBy W' (some b)) (hB : Bx < W.heap.size) (hb : Bx ≠ b) : KeepB Bx W W' :=
  ⟨h.size, h.block Bx hB (fun e => by cases e; exact hb rfl)⟩
theorem newer_iff {cur : Option (Int × Pg)} {s : Int} (hs : 1 ≤ s) : newer cur s = true ↔ (npOf cur).1 < s := by
  cases cur with
  | none => simp [newer, npOf]; omega
  | some y => simp [newer, npOf]

theorem run_field_np (a b : Int) (W : World) : (Instr.field 160 (.agg #[.int .i64 a, .int .i64 b]) 0).run Try.prog W = .ok (.int .i64 a) W := by kernel_rfl

theorem wpListIn_lookup_ok_cur {F : Fence} {nF : Nat} (w : World) {ops : Array Oper} {rest : List Oper} {o : Oper} {a : Act} {Q : Exit → Act → World → Prop} (hg : o.guard = none) (m x : Operand) (hop : o.op = Op.lookup 174 m x true) (b n : Nat) (xs : List (Int × Pg)) (hm : a.eval m = .map (some b)) (hN : NpIs w b n xs)
    (k : Int) (h0 : 0 ≤ k) (h1 : k ≤ 39) (hx : a.eval x = .int .i64 k) (s p : Int) (r : Bool) (hs : (npOf (newestAt xs k)).1 = s) (hp : (npOf (newestAt xs k)).2 = p) (hr : (newestAt xs k).isSome = r)
    (hK : wpListIn F nF Try.prog ops Q rest (a.put o.dst (.tuple #[.agg #[.int .i64 s, .int .i64 p], .bool r])) w) : wpListIn F nF Try.prog ops Q (o :: rest) a w := by
  refine wpListIn_lookup_ok_np w hg m x hop b n xs hm hN k h0 h1 hx ?_
  rw [hs, hp, hr]
  exact hK
theorem RowInts.put2 {w : World} {t : TypeId} {b n k : Nat} {L : List Int} {x : Int} (h : RowInts w t b n (L.take k)) (hx : L[k]? = some x) (v0 : Value) (o : Obj) :
    RowInts (((w.setCell ⟨b, k, none⟩ v0).setCell ⟨b, k, none⟩ (.int .i64 x)).alloc o) t b n (L.take (k + 1)) := by
  refine World.rowIs.congr (World.rowIs.alloc (World.rowIs.set (World.rowIs.set h k v0) k (.int .i64 x)) o) fun i hi => ?_
  unfold intF
  by_cases e : i = k
  · subst e; simp [List.getElem?_take, hx]
  · by_cases l : i < k
    · simp [e, List.getElem?_take, l, Nat.lt_succ_of_lt l]
    · have l2 : ¬ i < k + 1 := by omega
      simp [e, List.getElem?_take, l, l2]

theorem RowInts.own {w : World} {t : TypeId} {b n B : Nat} {L : List Int} (h : RowInts w t b n L) (hl : L.length = n) (hB : B ≤ b) (hn : n ≤ 1048576) : OwnInts w t B (.slice (some ⟨b, 0, none⟩) n n) L := by
  obtain ⟨c, hb, hc, hf⟩ := h
  refine ⟨by simp [ints], .inr ⟨b, n, c, by rw [hl], hB, hb, by omega, by unfold maxLen; omega, by omega, ?_⟩⟩
  rw [List.take_of_length_le (by simp; omega)]
  refine List.ext_getElem? (fun i => ?_)
  by_cases hi : i < n
  · have h1 := hf i hi
    rw [← Array.getElem?_toList] at h1
    rw [h1]
    obtain ⟨x, hx⟩ := getElem?_ex (l := L) (k := i) (by omega)
    simp [ints, intF, hx]
  · rw [List.getElem?_eq_none (by simp; omega), List.getElem?_eq_none (by rw [ints_length]; omega)]

theorem heap6 (w : World) (o1 o2 o3 o4 o5 o6 : Obj) :
    ((((((w.alloc o1).alloc o2).alloc o3).alloc o4).alloc o5).alloc o6).heap[w.heap.size]? = some o1 ∧ ((((((w.alloc o1).alloc o2).alloc o3).alloc o4).alloc o5).alloc o6).heap[w.heap.size + 1]? = some o2 ∧
    ((((((w.alloc o1).alloc o2).alloc o3).alloc o4).alloc o5).alloc o6).heap[w.heap.size + 1 + 1]? = some o3 ∧ ((((((w.alloc o1).alloc o2).alloc o3).alloc o4).alloc o5).alloc o6).heap[w.heap.size + 1 + 1 + 1]? = some o4 ∧
    ((((((w.alloc o1).alloc o2).alloc o3).alloc o4).alloc o5).alloc o6).heap[w.heap.size + 1 + 1 + 1 + 1]? = some o5 ∧ ((((((w.alloc o1).alloc o2).alloc o3).alloc o4).alloc o5).alloc o6).heap[w.heap.size + 1 + 1 + 1 + 1 + 1]? = some o6 := by
  have e : ((((((w.alloc o1).alloc o2).alloc o3).alloc o4).alloc o5).alloc o6).heap = (((((w.heap.push o1).push o2).push o3).push o4).push o5).push o6 := rfl
  rw [e]
  simp only [Array.getElem?_push, Array.size_push]
  refine ⟨?_, ?_, ?_, ?_, ?_, ?_⟩
  · rw [if_neg (by omega), if_neg (by omega), if_neg (by omega), if_neg (by omega), if_neg (by omega), if_pos trivial]
  · rw [if_neg (by omega), if_neg (by omega), if_neg (by omega), if_neg (by omega), if_pos trivial]
  · rw [if_neg (by omega), if_neg (by omega), if_neg (by omega), if_pos trivial]
  · rw [if_neg (by omega), if_neg (by omega), if_pos trivial]
  · rw [if_neg (by omega), if_pos trivial]
  · rw [if_pos trivial]

set_option maxRecDepth 100000 in
set_option maxHeartbeats 2000000 in
theorem newestPlaces_any (m : CC) (c : Nat) (hm : m.count = c) (h4 : 4 ≤ c) (hc : c ≤ 12) (bs : List Bk) (hl : bs.length = c) (hbs : ccBs m c = bs) (hok : ChipOk bs) (w : World) :
    Calls Try.prog 95 #[.agg (ccA m)] w fun e w' => MapRet bs 2 w.heap.size e w' ∧ Below w.heap.size w w' := by
  obtain ⟨room, hroom⟩ : ∃ room, room = roomOf bs := ⟨_, rfl⟩
  have hroomN : room = 4 * (c - 3) := by rw [hroom]; unfold roomOf; rw [hl]
  have hri : roomI (c : Int) = (room : Int) := by rw [roomI_in (by omega), hroomN]; omega
  have hr36 : room ≤ 36 := by omega
  have hua : usedAll m c = usedOf bs := by subst hl; exact usedOf_cc hbs
  have hRx : ∀ b k : Nat, b < c → k < 4 → (m.page b k).used = true → RightU ((b : Int) * 4 + (k : Int), m.page b k) := fun b k hb hk hu => by
    have hmem : ((b : Int) * 4 + (k : Int), m.page b k) ∈ usedOf bs := by
      rw [← hua]
      unfold usedAll
      simp only [List.mem_flatMap, List.mem_range]
      refine ⟨b, hb, ?_⟩
      unfold usedB
      simp only [List.mem_map, List.mem_filter, List.mem_range]
      exact ⟨k, ⟨hk, hu⟩, rfl⟩
    obtain ⟨q1, q2, q3, q4, _⟩ := hok.usedRight hmem
    exact ⟨q1, q2, q3, q4⟩
  have hc0 := ccA_count m
  rw [hm] at hc0
  have HRM := hide hroom
  have HUA := hide hua
  have HRX := hide hRx
  clear hroom hua hRx hroomN
  refine (callsIn_wide (n := 8)).1 ?_
  refine callsIn_of_wp_marks Try.func95 rfl trivial ?_ rfl
  simp only [Try.ntmps95, List.size_toArray, List.length_cons, List.length_nil, Nat.reduceAdd, Nat.reduceSub, Array.replicate_succ, Array.replicate_zero, List.push_toArray, List.append_toArray, List.nil_append, List.cons_append]
  gi_wp2_with fail
  refine ⟨trivial, ?_⟩
  gi_at_call 76
  refine (callsIn_wide.2 (implRoomFor_any _ _)).mono ?_
  rintro e w' ⟨rfl, rfl⟩
  rw [hri]
  clear hc0 hri
  have hmm := @run_makeMap Try.prog
  have h6 := heap6 w (.cells (ccA m) 97) (.cells #[.slice none 0 0] 41) (.cells #[.bool false] 4) (.cells #[.int .i64 (room : Int)] 2) (.map #[] 0) (.cells #[.map (some (w.heap.size + 1 + 1 + 1 + 1))] 174)
  have H6 := hide h6
  have HLD := hide (fun j (hj : j < 205) => (by rw [Nat.zero_add]; exact cell_of_row _ _ j _ _ _ h6.1 : World.cell? _ ⟨w.heap.size, 0 + j, none⟩ = (ccA m)[j]?))
  clear h6
  gi_wp2_with (first | (refine wpListIn_load_mid rfl 97 _ rfl w.heap.size 0 rfl (ccA m) 205 (ccA_size m) (unhide HLD) _ Try.underlying97 rfl sizeCC' ?_) | (refine ⟨trivial, ?_⟩; gi_at_call 137; refine (usedPages_in Fence.wide _ trivial rfl m _).mono ?_; rintro e w' ⟨rfl, rfl⟩))
  clear HLD hmm
  obtain ⟨W4, hW4⟩ : ∃ W4, W4 = (((((w.alloc (.cells (ccA m) 97)).alloc (.cells #[.slice none 0 0] 41)).alloc (.cells #[.bool false] 4)).alloc (.cells #[.int .i64 (room : Int)] 2)).alloc (.map #[] 0)).alloc (.cells #[.map (some (w.heap.size + 1 + 1 + 1 + 1))] 174) := ⟨_, rfl⟩
  have h6 := unhide H6
  clear H6
  have hs4 : W4.heap.size = w.heap.size + 1 + 1 + 1 + 1 + 1 + 1 := by rw [hW4]; simp
  have hB4 : Below w.heap.size w W4 := by
    rw [hW4]
    exact ((((((Below.refl _ w).alloc (Nat.le_refl _) _).alloc (by simp) _).alloc (by simp; omega) _).alloc (by simp; omega) _).alloc (by simp; omega) _).alloc (by simp; omega) _
  have hNp0 : NpIs W4 (w.heap.size + 1 + 1 + 1 + 1) 0 [] := by
    have h0 := NpIs.made ((((w.alloc (.cells (ccA m) 97)).alloc (.cells #[.slice none 0 0] 41)).alloc (.cells #[.bool false] 4)).alloc (.cells #[.int .i64 (room : Int)] 2))
    have e : ((((w.alloc (.cells (ccA m) 97)).alloc (.cells #[.slice none 0 0] 41)).alloc (.cells #[.bool false] 4)).alloc (.cells #[.int .i64 (room : Int)] 2)).heap.size = w.heap.size + 1 + 1 + 1 + 1 := by simp
    rw [e] at h0
    rw [hW4]
    exact h0.kept (World.grownBy_alloc _ _ none) (by simp)
  rw [← hW4] at h6 ⊢
  clear hW4
  obtain ⟨_, h61, h62, h63, _, h65⟩ := h6
  have hbel : Below w.heap.size w (W4.alloc (.cells (ccA m) 97)) := hB4.alloc hB4.size _
  have hbox : ∀ i, (W4.alloc (.cells (ccA m) 97)).cell? ⟨w.heap.size + 1 + 1 + 1 + 1 + 1 + 1, i, none⟩ = (ccA m)[i]? := fun i => by rw [← hs4]; simp
  refine wpIn_rangeFunc_ownH rfl (by omega) (gf := 159) (lb := #[.pointer (some ⟨w.heap.size + 1 + 1 + 1 + 1 + 1 + 1, 0, none⟩)]) rfl trivial (enters_of Try.func159 (by kernel_rfl) rfl)
    (usedR_stops RightU Fence.wide _ trivial rfl (by omega) (w.heap.size + 1 + 1 + 1 + 1 + 1 + 1) c m hm hc (unhide HRX) _ (by simp; omega) hbox) KeepB.trans (keepB_b (by simp; omega)) (Below.refl _ _) (fun _ => rfl)
    (fun pre W => NewI w room pre W ∧ Below w.heap.size w W) (fun c pre W => NewX w room c pre W ∧ Below w.heap.size w W)
    (OwnFrom.and (NewI.own w room (by simp; omega)) (ownFrom_below (Nat.le_refl _) (by simp; omega)))
    (fun c => OwnFrom.and (Own.from (NewX.own w room c) _) (ownFrom_below (Nat.le_refl _) (by simp; omega)))
    ⟨⟨by rw [Below.heap_alloc _ _ _ (by rw [hs4]; omega)]; exact h61, by rw [Below.heap_alloc _ _ _ (by rw [hs4]; omega)]; exact h62, by rw [Below.heap_alloc _ _ _ (by rw [hs4]; omega)]; exact h63, by rw [Below.heap_alloc _ _ _ (by rw [hs4]; omega)]; exact h65, hNp0.kept (World.grownBy_alloc _ _ none) (by simp), fun x hx => by simp at hx, by simp; omega⟩, hbel⟩
    (fun x a' W => ∃ Bp, w.heap.size + 1 + 1 + 1 + 1 + 1 + 1 < Bp ∧ W.heap[Bp]? = some (.cells #[Value.bool x.val.2.used, Value.int .i64 x.val.2.log, Value.int .i64 x.val.2.seq, Value.string x.val.2.data] 28 (0, 0)) ∧
      a' = { tmps := #[.agg (ccA m), .pointer (some ⟨w.heap.size, 0, none⟩), .pointer (some ⟨w.heap.size + 1, 0, none⟩), .pointer (some ⟨w.heap.size + 1 + 1, 0, none⟩), .pointer (some ⟨w.heap.size + 1 + 1 + 1, 0, none⟩), .pointer (some ⟨w.heap.size + 1 + 1 + 1 + 1 + 1, 0, none⟩), .int .i64 x.val.1, .pointer (some ⟨Bp, 0, none⟩), undef, undef, undef, undef, .pointer (some ⟨w.heap.size, 0, none⟩), .int .i64 (c : Int), .int .i64 (room : Int), .map (some (w.heap.size + 1 + 1 + 1 + 1)), .agg (ccA m), .func (.func 159) #[] #[.pointer (some ⟨w.heap.size + 1 + 1 + 1 + 1 + 1 + 1, 0, none⟩)], .int .i64 x.val.1, .agg #[Value.bool x.val.2.used, Value.int .i64 x.val.2.log, Value.int .i64 x.val.2.seq, Value.string x.val.2.data], undef, undef, undef, undef, undef, undef, undef, undef, undef, undef, undef, undef, undef, undef, undef, undef, undef, undef, undef, undef, undef, undef, undef, undef, undef, undef, undef, undef, undef, undef, undef, undef, undef, undef, undef, undef, undef, undef, undef, undef, undef, undef, undef], defers := [] })
    (fun x a' => Own.from (fun _ W W' row ⟨Bp, h1, h2, h3⟩ hg hr => ⟨Bp, h1, blk_kept h2 hg hr, h3⟩) _) ?assign ?body ?done ?stop
  case assign =>
    rintro l pre x W K ⟨hi, hb⟩ hK
    obtain ⟨⟨xi, xp⟩, hx⟩ := x
    simp only [encU]
    gi_wp2
    have hWs : w.heap.size + 1 + 1 + 1 + 1 + 1 + 1 < W.heap.size := hi.2.2.2.2.2.2
    exact hK _ _ ((KeepsOthers.alloc _ _).from _) (KeepB.alloc _ _ hWs) ⟨NewI.own w room (B := w.heap.size + 1 + 1 + 1 + 1 + 1) (by omega) pre W _ none hi (World.grownBy_alloc W _ none) (fun r e => by cases e), hb.alloc hb.size _⟩ ⟨W.heap.size, hWs, World.alloc_heap_new _ _, rfl⟩
  case body =>
    rintro l pre ⟨⟨xi, u, lg, s, d⟩, hx⟩ a' W hlb hlr ⟨⟨h1, h2, h3, h5, hNp, hF, hWs⟩, hb⟩ ⟨Bp, hBp, hpb, rfl⟩ hlen
    obtain ⟨q0, q1, q2, q3⟩ := hx
    simp only at q0 q1 q2 q3 hpb ⊢
    have hcL := cell_of_row _ _ 1 _ _ _ hpb
    have hcS := cell_of_row _ _ 2 _ _ _ hpb
    have hcR := cell_of_row _ _ 0 _ _ _ h3
    have hcM := cell_of_row _ _ 0 _ _ _ h5
    have hcF := cell_of_row _ _ 0 _ _ _ h1
    have hfF := frozen_of_row _ _ 0 _ _ h1
    have hcG := cell_of_row _ _ 0 _ _ _ h2
    have hfG := frozen_of_row _ _ 0 _ _ h2
    simp only [List.getElem?_toArray, List.getElem?_cons_succ, List.getElem?_cons_zero] at hcL hcS hcR hcM hcF hcG
    have H1 := hide h1
    have H2 := hide h2
    have H3 := hide h3
    have H5 := hide h5
    have HNP := hide hNp
    have HF := hide hF
    clear h1 h2 h3 h5 hNp hF hpb
    have hfld := run_field_np
    by_cases hlog : lg < (room : Int)
    · by_cases hnw : newer (newestAt (pre.map (·.val)) lg) s = true
      · have hv : (npOf (newestAt (pre.map (·.val)) lg)).1 < s := (newer_iff q2).1 hnw
        have HNW := hide hnw
        clear hnw
        gi_wp2_with (first | (gi_at_lookup; refine wpListIn_lookup_np _ rfl _ _ rfl (w.heap.size + 1 + 1 + 1 + 1) pre.length (pre.map (·.val)) rfl (unhide HNP) lg q0 q1 rfl ?_) | (gi_at_mapUpdate; refine wpListIn_update_np _ rfl _ _ _ rfl (w.heap.size + 1 + 1 + 1 + 1) pre.length (pre.map (·.val)) rfl (unhide HNP) (by unfold maxLen; omega) (xi, ⟨u, lg, s, d⟩) q0 q1 rfl rfl (unhide HNW) ?_; intro w2 hnp2 hg2))
        refine ⟨keepsFrom_grown hg2 (by simp; omega), keepB_grown hg2 hWs (by omega), ⟨?_, ?_, ?_, ?_, ?_, ?_, Nat.lt_of_lt_of_le hWs hg2.size⟩, hb.grown hg2 hb.size (fun j e => by cases e; omega)⟩
        · rw [hg2.block _ (by omega) (fun e => by simp at e)]; exact unhide H1
        · rw [hg2.block _ (by omega) (fun e => by simp at e)]; exact unhide H2
        · rw [hg2.block _ (by omega) (fun e => by simp at e)]; exact unhide H3
        · rw [hg2.block _ (by omega) (fun e => by simp at e)]; exact unhide H5
        · simpa using hnp2
        · intro x hx
          rcases List.mem_append.1 hx with hx | hx
          · exact unhide HF x hx
          · rw [List.mem_singleton.1 hx]; exact hlog
      · have hv : ¬ (npOf (newestAt (pre.map (·.val)) lg)).1 < s := fun hc => hnw ((newer_iff q2).2 hc)
        have HNW := hide hnw
        clear hnw
        gi_wp2_with (first | (gi_at_lookup; refine wpListIn_lookup_np _ rfl _ _ rfl (w.heap.size + 1 + 1 + 1 + 1) pre.length (pre.map (·.val)) rfl (unhide HNP) lg q0 q1 rfl ?_))
        refine ⟨KeepsFrom.refl _ _, KeepB.refl _ _, ⟨unhide H1, unhide H2, unhide H3, unhide H5, ?_, ?_, hWs⟩, hb⟩
        · have h0 := NpIs.same (unhide HNP) (x := (xi, ⟨u, lg, s, d⟩)) rfl (unhide HNW)
          rw [List.map_append, List.length_append]
          exact h0.mono (by simp)
        · intro x hx
          rcases List.mem_append.1 hx with hx | hx
          · exact unhide HF x hx
          · rw [List.mem_singleton.1 hx]; exact hlog
    · have hlog' : (room : Int) ≤ lg := by omega
      gi_wp2
      refine ⟨((KeepsOthers.setCell _ _ _).from _).trans ((KeepsOthers.setCell _ _ _).from _), ⟨rfl, ⟨_, List.mem_append_right _ (List.mem_singleton.2 rfl), hlog'⟩, ?_, ?_⟩, ?_⟩
      · rw [Below.heap_setCell _ _ _ _ (by simp)]
        exact blk_setCell_same 0 (.slice none 0 0) (unhide H1)
      · exact blk_setCell_same 0 (.bool false) ((Below.heap_setCell _ _ _ _ (by simp)).trans (unhide H2))
      · exact (hb.setCell (p := ⟨w.heap.size + 1, 0, none⟩) (by simp) _).setCell (p := ⟨w.heap.size + 1 + 1, 0, none⟩) (by simp; omega) _
  case done =>
    rintro D ys W hD hys ⟨⟨h1, h2, h3, h5, hNp, hF, hWs⟩, hb⟩ hK
    have hcR := cell_of_row _ _ 0 _ _ _ h3
    have hcM := cell_of_row _ _ 0 _ _ _ h5
    have hcF := cell_of_row _ _ 0 _ _ _ h1
    have hfF := frozen_of_row _ _ 0 _ _ h1
    have hcG := cell_of_row _ _ 0 _ _ _ h2
    have hfG := frozen_of_row _ _ 0 _ _ h2
    simp only [List.getElem?_toArray, List.getElem?_cons_succ, List.getElem?_cons_zero] at hcR hcM hcF hcG
    have H1 := hide h1
    have H2 := hide h2
    rw [hys, unhide HUA] at hNp
    have hF' : Fits bs := fun x hx => by
      rw [← unhide HUA, ← hys] at hx
      obtain ⟨y, hy, rfl⟩ := List.mem_map.1 hx
      rw [← unhide HRM]
      exact hF y hy
    have HNP := hide hNp
    have HF := hide hF'
    have HK := hide hK
    clear h1 h2 h3 h5 hNp hF hF' hys hK
    have hmk := make_ints room (by omega)
    gi_wp2
    clear hmk hcR
    have hDlt : D < W.heap.size := (Array.getElem?_eq_some_iff.1 (unhide HK)).1
    gi_loopw [43] (fun i wr => ∃ k : Nat, k ≤ room ∧ i = .int .i64 k ∧ RowInts wr 2 W.heap.size room ((placesOf (usedOf bs) room).take k) ∧ Below W.heap.size W wr ∧ W.heap.size < wr.heap.size) (fun i _ => room - (intOf i).toNat)
    case atStart => exact ⟨0, Nat.zero_le _, rfl, by simpa using RowInts.made W _ _, (Below.refl _ _).alloc (Nat.le_refl _) _, by simp⟩
    case round =>
      obtain ⟨k, hk, rfl, hR, hBr, hsr⟩ := hrel
      by_cases hlt : k < room
      · have hat := placesOf_at (usedOf bs) room hlt
        have hcM' := (hBr.cell (p := ⟨w.heap.size + 1 + 1 + 1 + 1 + 1, 0, none⟩) (by show w.heap.size + 1 + 1 + 1 + 1 + 1 < W.heap.size; omega)).trans hcM
        have hNp' : NpIs (wr.setCell ⟨W.heap.size, k, none⟩ (.int .i64 (-1))) (w.heap.size + 1 + 1 + 1 + 1) ys.length (usedOf bs) := by
          refine NpIs.kept (W := wr) (row := some W.heap.size) ((unhide HNP).kept (row := none) ⟨hBr.os, hBr.tape, hBr.output, hBr.size, fun j hj _ => hBr.block j hj⟩ (by simp)) ⟨rfl, rfl, rfl, by simp [World.setCell], fun j _ hj => Below.heap_setCell _ _ _ _ (fun e => hj (by rw [e]))⟩ (by simp; omega)
        have c0 := World.rowIs.cell hR (i := k) hlt
        have f0 := World.rowIs.frozen hR
        have HR := hide hR
        have HNP' := hide hNp'
        have HAT := hide hat
        have hk40 : (k : Int) ≤ 39 := by omega
        have hk00 : 0 ≤ (k : Int) := by omega
        have hne1 : W.heap.size ≠ w.heap.size + 1 + 1 + 1 + 1 + 1 := by omega
        clear hR hNp' hat hcM hcF hfF hcG hfG
        cases hnw : newestAt (usedOf bs) (k : Int) with
        | none =>
          have e1 : (npOf (newestAt (usedOf bs) (k : Int))).1 = 0 := by rw [hnw]; rfl
          have e2 : (npOf (newestAt (usedOf bs) (k : Int))).2 = 0 := by rw [hnw]; rfl
          have e3 : (newestAt (usedOf bs) (k : Int)).isSome = false := by rw [hnw]; rfl
          have hat := unhide HAT
          rw [hnw] at hat
          have HAT2 := hide hat
          have E1 := hide e1
          have E2 := hide e2
          have E3 := hide e3
          clear HAT hat e1 e2 e3 hnw
          gi_wp2_with (gi_at_lookup; refine wpListIn_lookup_ok_cur _ rfl _ _ rfl (w.heap.size + 1 + 1 + 1 + 1) ys.length (usedOf bs) rfl (unhide HNP') (k : Int) hk00 hk40 rfl 0 0 false (unhide E1) (unhide E2) (unhide E3) ?_)
          go_roundw
          case rel =>
            refine ⟨k + 1, by omega, by go_num, ?_, ?_, ?_⟩
            · exact World.rowIs.alloc (RowInts.put (unhide HR) (unhide HAT2)) _
            · exact (hBr.setCell (p := ⟨W.heap.size, k, none⟩) (Nat.le_refl _) _).alloc (by simp [World.setCell]; omega) _
            · simp [World.setCell]; omega
          case measure => simp [intOf]; omega
        | some y =>
          have e1 : (npOf (newestAt (usedOf bs) (k : Int))).1 = y.2.seq := by rw [hnw]; rfl
          have e2 : (npOf (newestAt (usedOf bs) (k : Int))).2 = y.1 := by rw [hnw]; rfl
          have e3 : (newestAt (usedOf bs) (k : Int)).isSome = true := by rw [hnw]; rfl
          have hat := unhide HAT
          rw [hnw] at hat
          have HAT2 := hide hat
          have E1 := hide e1
          have E2 := hide e2
          have E3 := hide e3
          clear HAT hat e1 e2 e3 hnw
          gi_wp2_with (gi_at_lookup; refine wpListIn_lookup_ok_cur _ rfl _ _ rfl (w.heap.size + 1 + 1 + 1 + 1) ys.length (usedOf bs) rfl (unhide HNP') (k : Int) hk00 hk40 rfl y.2.seq y.1 true (unhide E1) (unhide E2) (unhide E3) ?_)
          go_roundw
          case rel =>
            refine ⟨k + 1, by omega, by go_num, ?_, ?_, ?_⟩
            · exact RowInts.put2 (unhide HR) (unhide HAT2) _ _
            · exact ((hBr.setCell (p := ⟨W.heap.size, k, none⟩) (Nat.le_refl _) _).setCell (p := ⟨W.heap.size, k, none⟩) (Nat.le_refl _) _).alloc (by simp [World.setCell]; omega) _
            · simp [World.setCell]; omega
          case measure => simp [intOf]; omega
      · obtain rfl : k = room := by omega
        have hcF' := (hBr.cell (p := ⟨w.heap.size + 1, 0, none⟩) (by show w.heap.size + 1 < W.heap.size; omega)).trans hcF
        have hfF' := (hBr.frozen (p := ⟨w.heap.size + 1, 0, none⟩) (by show w.heap.size + 1 < W.heap.size; omega)).trans hfF
        have hcG' := (hBr.cell (p := ⟨w.heap.size + 1 + 1, 0, none⟩) (by show w.heap.size + 1 + 1 < W.heap.size; omega)).trans hcG
        have hfG' := (hBr.frozen (p := ⟨w.heap.size + 1 + 1, 0, none⟩) (by show w.heap.size + 1 + 1 < W.heap.size; omega)).trans hfG
        have hKr := (hBr.block D hDlt).trans (unhide HK)
        have HKR := hide hKr
        have HR := hide hR
        clear hKr hR hcF hfF hcG hfG hcM
        gi_wp2
        have hK' := ((KeepsOthers.setCell wr ⟨w.heap.size + 1, 0, none⟩ (.slice (some ⟨W.heap.size, 0, none⟩) k k)).trans (KeepsOthers.setCell _ ⟨w.heap.size + 1 + 1, 0, none⟩ (.bool true))).same D _ (unhide HKR) rfl
        refine ⟨by simp, .inl ⟨_, _, rfl, run_takeDeferred hK', ?_⟩⟩
        have hc4 : ((wr.setCell ⟨w.heap.size + 1, 0, none⟩ (.slice (some ⟨W.heap.size, 0, none⟩) k k)).setCell ⟨w.heap.size + 1 + 1, 0, none⟩ (.bool true)).cell? ⟨w.heap.size + 1, 0, none⟩ = some (.slice (some ⟨W.heap.size, 0, none⟩) k k) := by
          refine (World.cell?_of_block (a := ⟨w.heap.size + 1, 0, none⟩) (Below.heap_setCell _ _ _ _ (by show w.heap.size + 1 ≠ w.heap.size + 1 + 1; omega))).trans ?_
          exact World.cell?_setCell_same' wr ⟨w.heap.size + 1, 0, none⟩ _ (by rw [hcF']; rfl)
        have hc5 := cell_kept hc4 (grownBy_putObj' _ D (.deferred none)) (fun r e => by cases e; exact ⟨_, hK', rfl⟩)
        have hc6 := cell_kept (World.cell?_setCell_same' (wr.setCell ⟨w.heap.size + 1, 0, none⟩ (.slice (some ⟨W.heap.size, 0, none⟩) k k)) ⟨w.heap.size + 1 + 1, 0, none⟩ (.bool true) (by rw [World.cell?_of_block (a := ⟨w.heap.size + 1 + 1, 0, none⟩) (Below.heap_setCell wr _ _ _ (by show w.heap.size + 1 + 1 ≠ w.heap.size + 1; omega)), hcG']; rfl)) (grownBy_putObj' _ D (.deferred none)) (fun r e => by cases e; exact ⟨_, hK', rfl⟩)
        have hBw : Below w.heap.size w ((wr.setCell ⟨w.heap.size + 1, 0, none⟩ (.slice (some ⟨W.heap.size, 0, none⟩) k k)).setCell ⟨w.heap.size + 1 + 1, 0, none⟩ (.bool true)) := ((hb.trans (hBr.mono hb.size)).setCell (p := ⟨w.heap.size + 1, 0, none⟩) (by simp) _).setCell (p := ⟨w.heap.size + 1 + 1, 0, none⟩) (by simp; omega) _
        refine ⟨.tuple #[.slice (some ⟨W.heap.size, 0, none⟩) k k, .bool true], ?_, ⟨_, true, _, rfl, ⟨?_, rfl⟩, ?_⟩, hBw.trans (belowK_b (w := w) (Nat.le_refl _) _ D _ _ (by simp at hD; omega) hK' rfl rfl)⟩
        · simp [results, Try.f95, go_sem, hc5, hc6]
        · simp only [true_iff]
          exact unhide HF
        · simp only [if_true]
          have hr := unhide HR
          rw [List.take_of_length_le (by rw [placesOf_length]; exact Nat.le_refl _)] at hr
          rw [← unhide HRM]
          refine RowInts.own (World.rowIs.of_block hr ?_) (placesOf_length _ _) hb.size (by omega)
          rw [World.putObj_heap_other (by omega), Below.heap_setCell _ _ _ _ (by show W.heap.size ≠ w.heap.size + 1 + 1; omega), Below.heap_setCell _ _ _ _ (by show W.heap.size ≠ w.heap.size + 1; omega)]
  case stop =>
    rintro D c' pre W hD hpre ⟨⟨rfl, hin, h1, h2⟩, hb⟩ hK
    have hcF := cell_of_row _ _ 0 _ _ _ h1
    have hcG := cell_of_row _ _ 0 _ _ _ h2
    have HA := hide hin
    clear hin
    gi_wp2
    refine ⟨by simp, .inl ⟨_, _, rfl, run_takeDeferred hK, ?_⟩⟩
    have hc5 := cell_kept hcF (grownBy_putObj' _ D (.deferred none)) (fun r e => by cases e; exact ⟨_, hK, rfl⟩)
    have hc6 := cell_kept hcG (grownBy_putObj' _ D (.deferred none)) (fun r e => by cases e; exact ⟨_, hK, rfl⟩)
    refine ⟨.tuple #[.slice none 0 0, .bool false], ?_, ⟨_, false, [], rfl, ⟨?_, rfl⟩, World.ownsRow_nil _ _ _ _⟩, hb.trans (belowK_b (w := w) (Nat.le_refl _) W D _ _ (by simp at hD; omega) hK rfl rfl)⟩
    · simp [results, Try.f95, go_sem, hc5, hc6]
    · simp only [Bool.false_eq_true, false_iff]
      intro hfit
      obtain ⟨x, hx, hge⟩ := unhide HA
      have := hfit x.val (by rw [← unhide HUA]; exact hpre.subset (List.mem_map.2 ⟨x, hx, rfl⟩))
      rw [← unhide HRM] at this
      omega
end Go.Proofs.Ytalgkmellbamgaa

/- The greatest number on a chip, and its place: the program's top. -/
namespace Go.Proofs.Ytalgkmellbamgaa
open Go.RowKit Go.Shelf
set_option linter.unusedVariables false
set_option linter.unusedSimpArgs false
attribute [local go_sem] Oper.semAt_some

def TopI (w : World) (pre : List (Int × Pg)) (W : World) : Prop :=
  W.heap[w.heap.size + 1]? = some (.cells #[Value.int .i64 0, Value.int .i64 0] 160 (0, 0)) ∧ W.heap[w.heap.size + 1 + 1]? = some (.cells #[Value.int .i64 (topOf pre).1, Value.int .i64 (topOf pre).2] 160 (0, 0)) ∧ w.heap.size + 1 + 1 + 1 < W.heap.size
theorem TopI.own (w : World) : Own (TopI w) := fun p W W' row ⟨h1, h2, h4⟩ hg hr => ⟨blk_kept h1 hg hr, blk_kept h2 hg hr, Nat.lt_of_lt_of_le h4 hg.size⟩

theorem sizeNp : (Try.prog.info? 160).map (·.size) = some 2 := by kernel_rfl

set_option maxRecDepth 100000 in
set_option maxHeartbeats 1000000 in
theorem top_any (m : CC) (c : Nat) (hm : m.count = c) (hc : c ≤ 12) (w : World) :
    Calls Try.prog 123 #[.agg (ccA m)] w fun e w' => e = .returned (.agg #[.int .i64 (topOf (usedAll m c)).1, .int .i64 (topOf (usedAll m c)).2]) ∧ Below w.heap.size w w' := by
  refine (callsIn_wide (n := 8)).1 ?_
  refine callsIn_of_wp_marks Try.func123 rfl trivial ?_ rfl
  simp only [Try.ntmps123, List.size_toArray, List.length_cons, List.length_nil, Nat.reduceAdd, Nat.reduceSub, Array.replicate_succ, Array.replicate_zero, List.push_toArray, List.append_toArray, List.nil_append, List.cons_append]
  gi_wp2_with (first | (refine wpListIn_load_mid rfl 97 _ rfl w.heap.size 0 rfl (ccA m) 205 (ccA_size m) (fun j hj => by rw [Nat.zero_add]; exact cell_of_row _ _ _ _ _ _ (heap3 w _ _ _).1) _ Try.underlying97 rfl sizeCC' ?_) | (refine ⟨trivial, ?_⟩; gi_at_call 137; refine (usedPages_in Fence.wide _ trivial rfl m _).mono ?_; rintro e w' ⟨rfl, rfl⟩))
  obtain ⟨W4, hW4⟩ : ∃ W4, W4 = ((w.alloc (.cells (ccA m) 97)).alloc (.cells #[.int .i64 0, .int .i64 0] 160)).alloc (.cells #[.int .i64 0, .int .i64 0] 160) := ⟨_, rfl⟩
  have h4 := heap3 w (.cells (ccA m) 97) (.cells #[.int .i64 0, .int .i64 0] 160) (.cells #[.int .i64 0, .int .i64 0] 160)
  have hs4 : W4.heap.size = w.heap.size + 1 + 1 + 1 := by rw [hW4]; simp
  have hB4 : Below w.heap.size w W4 := by
    rw [hW4]
    exact (((Below.refl _ w).alloc (Nat.le_refl _) _).alloc (by simp) _).alloc (by simp; omega) _
  rw [← hW4] at h4 ⊢
  clear hW4
  obtain ⟨_, h41, h42⟩ := h4
  have hbel : Below w.heap.size w (W4.alloc (.cells (ccA m) 97)) := hB4.alloc hB4.size _
  have hbox : ∀ i, (W4.alloc (.cells (ccA m) 97)).cell? ⟨w.heap.size + 1 + 1 + 1, i, none⟩ = (ccA m)[i]? := fun i => by rw [← hs4]; simp
  refine wpIn_rangeFunc_ownH rfl (by omega) (gf := 159) (lb := #[.pointer (some ⟨w.heap.size + 1 + 1 + 1, 0, none⟩)]) rfl trivial (enters_of Try.func159 (by kernel_rfl) rfl)
    (used_stops Fence.wide _ trivial rfl (by omega) (w.heap.size + 1 + 1 + 1) c m hm hc _ (by simp; omega) hbox) KeepB.trans (keepB_b (by simp; omega)) (Below.refl _ _) (fun _ => rfl)
    (fun pre W => TopI w pre W ∧ Below w.heap.size w W) (fun c pre W => False)
    (OwnFrom.and (Own.from (TopI.own w) _) (ownFrom_below (Nat.le_refl _) (by simp; omega)))
    (fun c => fun s W W' row h hg hr => h)
    ⟨⟨by rw [Below.heap_alloc _ _ _ (by rw [hs4]; omega)]; exact h41, by rw [Below.heap_alloc _ _ _ (by rw [hs4]; omega)]; exact h42, by simp; omega⟩, hbel⟩
    (fun x a' W => ∃ Bp, w.heap.size + 1 + 1 + 1 < Bp ∧ W.heap[Bp]? = some (.cells #[Value.bool x.2.used, Value.int .i64 x.2.log, Value.int .i64 x.2.seq, Value.string x.2.data] 28 (0, 0)) ∧
      a' = { tmps := #[.agg (ccA m), .pointer (some ⟨w.heap.size, 0, none⟩), .pointer (some ⟨w.heap.size + 1, 0, none⟩), .pointer (some ⟨w.heap.size + 1 + 1, 0, none⟩), .int .i64 x.1, .pointer (some ⟨Bp, 0, none⟩), .agg (ccA m), .func (.func 159) #[] #[.pointer (some ⟨w.heap.size + 1 + 1 + 1, 0, none⟩)], .int .i64 x.1, .agg #[Value.bool x.2.used, Value.int .i64 x.2.log, Value.int .i64 x.2.seq, Value.string x.2.data], undef, undef, undef, undef, undef, undef, undef, undef, undef, undef], defers := [] })
    (fun x a' => Own.from (fun _ W W' row ⟨Bp, h1, h2, h3⟩ hg hr => ⟨Bp, h1, blk_kept h2 hg hr, h3⟩) _) ?assign ?body ?done ?stop
  case assign =>
    rintro l pre x W K ⟨hi, hb⟩ hK
    obtain ⟨xi, xp⟩ := x
    simp only [encU]
    gi_wp2
    have hWs : w.heap.size + 1 + 1 + 1 < W.heap.size := hi.2.2
    exact hK _ _ ((KeepsOthers.alloc _ _).from _) (KeepB.alloc _ _ hWs) ⟨TopI.own w pre W _ none hi (World.grownBy_alloc W _ none) (fun r e => by cases e), hb.alloc hb.size _⟩ ⟨W.heap.size, hWs, World.alloc_heap_new _ _, rfl⟩
  case body =>
    rintro l pre ⟨xi, xp⟩ a' W hl hlr ⟨⟨hA1, hA2, hWs⟩, hb⟩ ⟨Bp, hBp, hpb, rfl⟩ hlen
    have hcS := cell_of_row _ _ 2 _ _ _ hpb
    have hcF := cell_of_row _ _ 0 _ _ _ hA2
    have hcG := cell_of_row _ _ 1 _ _ _ hA2
    have hfF := frozen_of_row _ _ 0 _ _ hA2
    have hfG := frozen_of_row _ _ 1 _ _ hA2
    have hst := topOf_snoc pre (xi, xp)
    have HS := hide hst
    have HP := hide hpb
    have H1 := hide hA1
    have H2 := hide hA2
    clear hpb hst hA1 hA2
    simp only [List.getElem?_toArray, List.getElem?_cons_succ, List.getElem?_cons_zero] at hcS hcF hcG
    obtain ⟨T, hT⟩ : ∃ T, T = topOf pre := ⟨_, rfl⟩
    rw [← hT] at hcF hcG HS H2
    clear hT
    by_cases hin : T.1 < xp.seq
    · gi_wp2
      refine ⟨((KeepsOthers.setCell _ _ _).from _).trans ((KeepsOthers.setCell _ _ _).from _), (KeepB.setCell _ _ _ (by show w.heap.size + 1 + 1 + 1 ≠ w.heap.size + 1 + 1; omega)).trans (KeepB.setCell _ _ _ (by show w.heap.size + 1 + 1 + 1 ≠ w.heap.size + 1 + 1; omega)), ⟨?_, ?_, by simpa [World.setCell] using hWs⟩, ?_⟩
      · rw [Below.heap_setCell _ _ _ _ (by simp), Below.heap_setCell _ _ _ _ (by simp)]; exact unhide H1
      · have h1 := blk_setCell_same 1 (.int .i64 xi) (blk_setCell_same 0 (.int .i64 xp.seq) (unhide H2))
        rw [unhide HS]
        unfold topStep
        rw [if_pos hin]
        exact h1
      · exact (hb.setCell (p := ⟨w.heap.size + 1 + 1, 0, none⟩) (by simp; omega) _).setCell (p := ⟨w.heap.size + 1 + 1, 1, none⟩) (by simp; omega) _
    · gi_wp2
      refine ⟨(KeepsOthers.refl _).from _, KeepB.refl _ _, ⟨unhide H1, ?_, hWs⟩, hb⟩
      rw [unhide HS]
      unfold topStep
      rw [if_neg (by show ¬ T.1 < xp.seq; omega)]
      exact unhide H2
  case done =>
    rintro D ys W hD rfl ⟨⟨hA1, hA2, hWs⟩, hb⟩ hK
    have hcF := cell_of_row _ _ 0 _ _ _ hA2
    have hcG := cell_of_row _ _ 1 _ _ _ hA2
    have hc0 := cell_of_row _ _ 0 _ _ _ hA1
    have hf0 := frozen_of_row _ _ 0 _ _ hA1
    have hc1 := cell_of_row _ _ 1 _ _ _ hA1
    have hf1 := frozen_of_row _ _ 1 _ _ hA1
    simp only [List.getElem?_toArray, List.getElem?_cons_succ, List.getElem?_cons_zero] at hcF hcG hc0 hc1
    obtain ⟨T, hT⟩ : ∃ T, T = topOf (usedAll m c) := ⟨_, rfl⟩
    rw [← hT] at hcF hcG
    have HT := hide hT
    clear hT
    gi_wp2
    have hK' := ((KeepsOthers.setCell W ⟨w.heap.size + 1, 0, none⟩ (.int .i64 T.1)).trans (KeepsOthers.setCell _ ⟨w.heap.size + 1, 1, none⟩ (.int .i64 T.2))).same D _ hK rfl
    refine ⟨by simp, .inl ⟨_, _, rfl, run_takeDeferred hK', ?_⟩⟩
    have hrow := blk_setCell_same 1 (.int .i64 T.2) (blk_setCell_same 0 (.int .i64 T.1) hA1)
    have hDn : w.heap.size + 1 ≠ D := by simp at hD; omega
    have hrow2 : (((W.setCell ⟨w.heap.size + 1, 0, none⟩ (.int .i64 T.1)).setCell ⟨w.heap.size + 1, 1, none⟩ (.int .i64 T.2)).putObj D (.deferred none)).heap[w.heap.size + 1]? = _ := (World.putObj_heap_other hDn).trans hrow
    refine ⟨.agg #[.int .i64 T.1, .int .i64 T.2], ?_, by rw [← unhide HT], ((hb.setCell (p := ⟨w.heap.size + 1, 0, none⟩) (by simp) _).setCell (p := ⟨w.heap.size + 1, 1, none⟩) (by simp) _).trans (belowK_b (w := w) (Nat.le_refl _) _ D _ _ (by simp at hD; omega) hK' rfl rfl)⟩
    have e0 := cell_of_row _ _ 0 _ _ _ hrow2
    have e1 := cell_of_row _ _ 1 _ _ _ hrow2
    simp at e0 e1
    simp [results, Try.f123, go_sem, e0, e1]
  case stop =>
    rintro D c' pre W hD hpre h hK
    exact h.elim
end Go.Proofs.Ytalgkmellbamgaa

/- Whether a member is right, and its cells: the program's rightCells. -/
namespace Go.Proofs.Ytalgkmellbamgaa
open Go.RowKit
set_option linter.unusedVariables false
set_option linter.unusedSimpArgs false
open Classical

/-- The cells of a member and whether it is right. -/
def RightRet (bs : List Bk) (L : List Int) (seq o : Int) (e : Ending) : Prop := ∃ (m : CC) (r : Bool), e = .returned (.tuple #[.agg (ccA m), .bool r]) ∧ (r = true ↔ FtlOk bs L seq o) ∧ (r = true → m.count = bs.length ∧ ccBs m bs.length = bs)
theorem RightRet.no {bs : List Bk} {L : List Int} {seq o : Int} (h : ¬ FtlOk bs L seq o) : RightRet bs L seq o (.returned (.tuple #[.agg Try.zeroCells97, .bool false])) :=
  ⟨newCC 0, false, by rw [zeroCC], by simp [h], by simp⟩
theorem RightRet.yes {bs : List Bk} {L : List Int} {seq o : Int} (h : FtlOk bs L seq o) (m : CC) (h1 : m.count = bs.length) (h2 : ccBs m bs.length = bs) : RightRet bs L seq o (.returned (.tuple #[.agg (ccA m), .bool true])) :=
  ⟨m, true, rfl, by simp [h], fun _ => ⟨h1, h2⟩⟩

set_option maxRecDepth 100000 in
set_option maxHeartbeats 4000000 in
theorem rightCells_any (a : Option Addr) (c : Nat) (bs : List Bk) (n : Nat) (hl : bs.length = n) (ma : Option Addr) (mc : Nat) (L : List Int) (mn : Nat) (hL : L.length = mn) (seq o : Int) (w : World) (h : BlocksAt w a bs) (hn : Lens 9223372036854775807 bs) (hI : IntsAt w ma L) (hmn : mn ≤ 9223372036854775807) :
    Calls Try.prog 74 #[.agg #[.slice a n c, .slice ma mn mc, .int .i64 seq, .int .i64 o]] w fun e w' => RightRet bs L seq o e ∧ Below w.heap.size w w' := by
  subst hl
  have hb0 : ∀ o1 o2, Below w.heap.size w ((w.alloc o1).alloc o2) := fun o1 o2 => ((Below.refl _ w).alloc (Nat.le_refl _) _).alloc (by simp) _
  go_enter Try.func74, Try.ntmps74
  go_wp2_with fail
  refine (cellsOf_any a c bs _ (h.below (hb0 _ _) (Nat.le_refl _)) hn).mono ?_
  rintro e w1 ⟨⟨m, r, rfl, hr, hm⟩, hB1⟩
  have hW1 : Below w.heap.size w w1 := (hb0 _ _).trans (hB1.mono (by simp; omega))
  have hs1 := hB1.size
  simp at hs1
  have hz1 : w1.heap[w.heap.size + 1]? = some (.cells Try.zeroCells97 97 (0, 0)) := (hB1.block _ (by simp)).trans (heap_alloc2_new _ _ _)
  have hx1 : ∀ i, w1.cell? ⟨w.heap.size, i, none⟩ = (#[Value.slice a bs.length c, .slice ma mn mc, .int .i64 seq, .int .i64 o])[i]? := fun i => by
    rw [hB1.cell (p := ⟨w.heap.size, i, none⟩) (by simp; omega), cell_alloc_lt _ _ _ _ (by simp)]
    simp
  have hsc := store_cc m w1
  have hAs := ccA_size m
  have h1A := ccA_one m
  have hA0 := ccA_count m
  have HSZ := hide (sizeCC m)
  have HAB := hide (fun b i hb hi => ccA_block m (b := b) (i := i) hb hi)
  have HR := hide hr
  have HM := hide hm
  have HI := hide hI
  have HL := hide hL
  have HX1 := hide hx1
  have HZ1 := hide hz1
  clear hr hm hn hB1 hb0 hI hL hx1 hz1 h
  cases r with
  | false =>
    have hnok : ¬ ChipOk bs := fun hc => by have := (unhide HR).2 hc; cases this
    have hz2 : ∀ o', (w1.alloc o').heap[w.heap.size + 1]? = some (.cells Try.zeroCells97 97 (0, 0)) := fun o' => (Below.heap_alloc w1 o' (w.heap.size + 1) (by omega)).trans (unhide HZ1)
    have hstF := fun o' => store_same Try.prog (w1.alloc o') (w.heap.size + 1) 97 Try.zeroCells97 (hz2 o') zeroCC_one
    have hldF := fun o' => run_loadVar_row (P := Try.prog) (w1.alloc o') (w.heap.size + 1) 97 97 Try.zeroCells97 (0, 0) _ (hz2 o') Try.underlying97 rfl (by rw [zeroCC_size]; exact sizeCC')
    have HLF := hide hldF
    have HNK := hide hnok
    clear hldF hnok hz2 hA0
    generalize ccA m = A at *
    go_wp2
    exact bodyPost_ret (results_cell_slot 2 97 3 Try.results74 _ _ _ _ _ rfl (unhide HLF _) rfl) rfl ⟨RightRet.no (fun hf => unhide HNK hf.chip), hW1.alloc hW1.size _⟩
  | true =>
    have hok := (unhide HR).1 rfl
    have hc12 := hok.count
    obtain ⟨hct, hbss⟩ := unhide HM rfl
    rw [hct] at hA0
    have HTOP : Hid (∀ W, Calls Try.prog 123 #[.agg (ccA m)] W fun e w' => e = .returned (.agg #[.int .i64 (topOf (usedOf bs)).1, .int .i64 (topOf (usedOf bs)).2]) ∧ Below W.heap.size W w') := fun W => by
      have := top_any m bs.length hct hc12.2 W
      rwa [usedOf_cc hbss] at this
    have HNP : Hid (∀ W, Calls Try.prog 95 #[.agg (ccA m)] W fun e w' => MapRet bs 2 W.heap.size e w' ∧ Below W.heap.size W w') := fun W => newestPlaces_any m bs.length hct hc12.1 hc12.2 bs rfl hbss hok W
    have HST : Hid (∀ W, Calls Try.prog 124 #[.agg (ccA m), .int .i64 o] W fun e w' => RetIff (Settled bs o) e ∧ Below W.heap.size W w') := fun W => settledBut_any (ccA m) m bs bs.length rfl hbss hA0 (unhide HAB) hc12.2 o W
    have htb := hok.top
    have HYES : Hid (FtlOk bs L seq o → RightRet bs L seq o (.returned (.tuple #[.agg (ccA m), .bool true]))) := fun hf => RightRet.yes hf m hct hbss
    obtain ⟨T, hT⟩ : ∃ T, T = (topOf (usedOf bs)).1 := ⟨_, rfl⟩
    obtain ⟨T2, hT2⟩ : ∃ T2, T2 = (topOf (usedOf bs)).2 := ⟨_, rfl⟩
    rw [← hT, ← hT2] at HTOP
    have hTS : topSeq bs = T := hT.symm
    rw [hTS] at htb
    have HTS := hide hTS
    obtain ⟨A, hA⟩ : ∃ A, A = ccA m := ⟨_, rfl⟩
    rw [← hA] at hsc hAs h1A HSZ hA0 HTOP HNP HST HYES ⊢
    have HOK := hide hok
    have HA0 := hide hA0
    have H1A := hide h1A
    obtain ⟨n, hnn⟩ : ∃ n, n = bs.length := ⟨_, rfl⟩
    rw [← hnn] at hc12 HA0 HX1 ⊢
    have HNN := hide hnn
    clear hok hct hbss hT hT2 hTS hA hA0 h1A HM HAB hnn
    go_wp2_with fail
    refine wp_load_row 97 _ rfl w1.heap.size rfl 97 A (0, 0) _ (Go.Deep.blk_alloc_new _ _) Try.underlying97 rfl (unhide HSZ) ?_
    clear hsc
    go_wp2_with fail
    refine (unhide HNP _).mono ?_
    rintro e w6 ⟨⟨v, r2, L2, rfl, hM, hv⟩, hB6⟩
    obtain ⟨a2, c2, rfl, hI2, _⟩ := hv.form
    have hs6 := hB6.size
    simp at hs6
    have hrow6 : w6.heap[w1.heap.size]? = some (.cells A 97 (0, 0)) := (hB6.block _ (by simp)).trans (Go.Deep.blk_alloc_new _ _)
    have hB16 : Below w1.heap.size w1 w6 := ((Below.refl _ w1).alloc (Nat.le_refl _) _).trans (hB6.mono (by simp))
    have hW6 := hW1.trans (hB16.mono hW1.size)
    have hz6 : w6.heap[w.heap.size + 1]? = some (.cells Try.zeroCells97 97 (0, 0)) := (hB16.block _ (by omega)).trans (unhide HZ1)
    have hx6 : ∀ i, w6.cell? ⟨w.heap.size, i, none⟩ = (#[Value.slice a n c, .slice ma mn mc, .int .i64 seq, .int .i64 o])[i]? := fun i => (hB16.cell (p := ⟨w.heap.size, i, none⟩) (by show w.heap.size < _; omega)).trans (unhide HX1 i)
    have HZ6 := hide hz6
    have hm6 := hx6 1
    have hq2 := hx6 2
    have hq3 := hx6 3
    simp at hm6 hq2 hq3
    have HI2 := hide hI2
    have HMM := hide hM
    have HR6 := hide hrow6
    have HI6 := hide ((unhide HI).below hW6 (Nat.le_refl _))
    clear hv hB6 hM hI2 hrow6 hz6 hx6 hB16 hW1 HX1 HZ1 HNP HI
    cases r2 with
    | false =>
      have hnf : ¬ Fits bs := fun hf => by have := (unhide HMM).1.2 hf; cases this
      have hstF := store_same Try.prog w6 (w.heap.size + 1) 97 Try.zeroCells97 (unhide HZ6) zeroCC_one
      have hldF := run_loadVar_row (P := Try.prog) w6 (w.heap.size + 1) 97 97 Try.zeroCells97 (0, 0) _ (unhide HZ6) Try.underlying97 rfl (by rw [zeroCC_size]; exact sizeCC')
      have HLF := hide hldF
      have HNF := hide hnf
      clear hldF hnf
      go_wp2
      exact bodyPost_ret (results_cell_slot 2 97 3 Try.results74 _ _ _ _ _ rfl (unhide HLF) rfl) rfl ⟨RightRet.no (fun hf => unhide HNF hf.fits), hW6⟩
    | true =>
      have hfit := (unhide HMM).1.1 rfl
      have hL2 : L2 = placesOf (usedOf bs) (roomOf bs) := by have := (unhide HMM).2; simpa using this
      have hl36 : L2.length ≤ 36 := (unhide HMM).length (by have := unhide HNN; omega)
      have HFT := hide hfit
      have HL2 := hide hL2
      clear hfit hL2 HMM
      obtain ⟨len, hlen⟩ : ∃ len, L2.length = len := ⟨_, rfl⟩
      rw [hlen] at hl36 ⊢
      have HLEN := hide hlen
      clear hlen
      go_wp2_with fail
      refine (slicesEqual_any ma a2 mc c2 L L2 mn len (unhide HL) (unhide HLEN) _ (unhide HI6) (unhide HI2) hmn (by omega)).mono ?_
      rintro e w7 ⟨⟨r3, rfl, hr3⟩, hB7⟩
      have hs7 := hB7.size
      have hW7 := hW6.trans (hB7.mono hW6.size)
      have HZ7 := hide ((hB7.block _ (by omega)).trans (unhide HZ6))
      have HR7 := hide ((hB7.block _ (by omega)).trans (unhide HR6))
      have hq2' := (hB7.cell (p := ⟨w.heap.size, 2, none⟩) (by show w.heap.size < _; omega)).trans hq2
      have hq3' := (hB7.cell (p := ⟨w.heap.size, 3, none⟩) (by show w.heap.size < _; omega)).trans hq3
      have HR3 := hide hr3
      clear hB7 hr3 hq2 hq3 hm6 HZ6 HR6 HI2 HI6 hW6
      cases r3 with
      | false =>
        have hstF := store_same Try.prog w7 (w.heap.size + 1) 97 Try.zeroCells97 (unhide HZ7) zeroCC_one
        have hldF := run_loadVar_row (P := Try.prog) w7 (w.heap.size + 1) 97 97 Try.zeroCells97 (0, 0) _ (unhide HZ7) Try.underlying97 rfl (by rw [zeroCC_size]; exact sizeCC')
        have HLF := hide hldF
        clear hldF
        go_wp2
        exact bodyPost_ret (results_cell_slot 2 97 3 Try.results74 _ _ _ _ _ rfl (unhide HLF) rfl) rfl ⟨RightRet.no (fun hf => by have := (unhide HR3).2 (hf.map.trans (unhide HL2).symm); cases this), hW7⟩
      | true =>
        have hLL : L = L2 := (unhide HR3).1 rfl
        have HLL : Hid (L = placesOf (usedOf bs) (roomOf bs)) := hLL.trans (unhide HL2)
        have HLD : Hid (∀ j, j < 205 → w7.cell? ⟨w1.heap.size, 0 + j, none⟩ = A[j]?) := fun j hj => by rw [Nat.zero_add]; exact cell_of_row _ _ j _ _ _ (unhide HR7)
        have hfld := run_field_np
        have hmix : Try.prog.follows .mixedOrders = true := by kernel_rfl
        have hLF : ∀ W, Below w7.heap.size w7 W → W.heap[w.heap.size + 1]? = some (.cells Try.zeroCells97 97 (0, 0)) := fun W hW => (hW.block _ (by omega)).trans (unhide HZ7)
        have HLFF := hide hLF
        have hTw : T + 1 ≤ 1000000001 := by omega
        clear hLL HR3 hLF HL2
        go_wp2_with fail
        by_cases hc1 : T + 1 ≤ seq ∧ seq ≤ 1000000000
        · have hd1 : decide (T + 1 ≤ seq ∧ seq ≤ 1000000000) = true := by simpa using hc1
          by_cases hc2 : 0 ≤ o ∧ o ≤ (n : Int) - 1
          · have hd2 : decide ((0 : Int) ≤ o ∧ o ≤ (n : Int) - 1) = true := by simpa using hc2
            by_cases hc3 : Settled bs o
            · have hd3 : ∀ r : Bool, (r = true ↔ Settled bs o) → r = true := fun r h => h.2 hc3
              refine wp_region_grown (Below w7.heap.size w7) hmix (by kernel_rfl) (below_drawn w7) ?_
              go_big_quiet_step (exact fun _ => rfl)
              refine wpQuiet_val rfl (.int .i64 seq) (fun W hC => ?_) ?_
              · have hcl := (hC.cell (p := ⟨w.heap.size, 2, none⟩) (by show w.heap.size < _; omega)).trans hq2'
                go_simp
              simp only [Act.put, List.setIfInBounds_toArray, List.set_cons_zero, List.set_cons_succ]
              refine wpQuiet_val rfl (.agg A) (fun W hC => quietAt_load_mid 97 _ rfl w1.heap.size 0 rfl A 205 hAs (fun j hj => (hC.cell (p := ⟨w1.heap.size, 0 + j, none⟩) (by show w1.heap.size < _; omega)).trans (unhide HLD j hj)) _ Try.underlying97 rfl sizeCC') ?_
              simp only [Act.put, List.setIfInBounds_toArray, List.set_cons_zero, List.set_cons_succ]
              refine wpQuiet_val rfl (.agg #[.int .i64 T, .int .i64 T2]) (fun W hC => ?_) ?_
              · go_simp
                refine (unhide HTOP W).mono ?_
                rintro e w' ⟨rfl, hB'⟩
                exact ⟨rfl, hC.trans (hB'.mono hC.size)⟩
              simp only [Act.put, List.setIfInBounds_toArray, List.set_cons_zero, List.set_cons_succ]
              go_big_quiet_step (exact fun _ => rfl)
              go_big_quiet_step (exact fun _ => rfl)
              refine wpQuiet_val rfl (.bool true) (fun W hC => ?_) ?_
              · go_simp
                refine (within_any seq (T + 1) 1000000000 W).mono ?_
                rintro e w' ⟨rfl, rfl⟩
                exact ⟨by rw [hd1], hC⟩
              simp only [Act.put, List.setIfInBounds_toArray, List.set_cons_zero, List.set_cons_succ]
              go_big_quiet_step (exact fun _ => rfl)
              go_big_quiet_step (exact fun _ => rfl)
              refine wpQuiet_val rfl (.agg A) (fun W hC => quietAt_load_mid 97 _ rfl w1.heap.size 0 rfl A 205 hAs (fun j hj => (hC.cell (p := ⟨w1.heap.size, 0 + j, none⟩) (by show w1.heap.size < _; omega)).trans (unhide HLD j hj)) _ Try.underlying97 rfl sizeCC') ?_
              simp only [Act.put, List.setIfInBounds_toArray, List.set_cons_zero, List.set_cons_succ]
              go_big_quiet_step (exact fun _ => rfl)
              refine wpQuiet_val rfl (.int .i64 o) (fun W hC => ?_) ?_
              · have hcl := (hC.cell (p := ⟨w.heap.size, 3, none⟩) (by show w.heap.size < _; omega)).trans hq3'
                go_simp
              simp only [Act.put, List.setIfInBounds_toArray, List.set_cons_zero, List.set_cons_succ]
              refine wpQuiet_val rfl (.bool true) (fun W hC => ?_) ?_
              · go_simp
                refine (has_any A (n : Int) (unhide HA0) (by omega) (by omega) o W).mono ?_
                rintro e w' ⟨rfl, hB'⟩
                exact ⟨by rw [hd2], hC.trans (hB'.mono hC.size)⟩
              simp only [Act.put, List.setIfInBounds_toArray, List.set_cons_zero, List.set_cons_succ]
              go_big_quiet_step (exact fun _ => rfl)
              go_big_quiet_step (exact fun _ => rfl)
              go_big_quiet_step (exact fun _ => rfl)
              refine wpQuiet_val rfl (.agg A) (fun W hC => quietAt_load_mid 97 _ rfl w1.heap.size 0 rfl A 205 hAs (fun j hj => (hC.cell (p := ⟨w1.heap.size, 0 + j, none⟩) (by show w1.heap.size < _; omega)).trans (unhide HLD j hj)) _ Try.underlying97 rfl sizeCC') ?_
              simp only [Act.put, List.setIfInBounds_toArray, List.set_cons_zero, List.set_cons_succ]
              go_big_quiet_step (exact fun _ => rfl)
              refine wpQuiet_val rfl (.int .i64 o) (fun W hC => ?_) ?_
              · have hcl := (hC.cell (p := ⟨w.heap.size, 3, none⟩) (by show w.heap.size < _; omega)).trans hq3'
                go_simp
              simp only [Act.put, List.setIfInBounds_toArray, List.set_cons_zero, List.set_cons_succ]
              refine wpQuiet_val rfl (.bool true) (fun W hC => ?_) ?_
              · go_simp
                refine (unhide HST W).mono ?_
                rintro e w' ⟨⟨r9, rfl, hr9⟩, hB'⟩
                refine ⟨?_, hC.trans (hB'.mono hC.size)⟩
                have := hd3 r9 hr9
                rw [this]
              simp only [Act.put, List.setIfInBounds_toArray, List.set_cons_zero, List.set_cons_succ]
              go_big_quiet_step (exact fun _ => rfl)
              go_big_quiet_step (exact fun _ => rfl)
              refine wpQuiet_nil ?_
              intro w8 hC8
              have hz8 := unhide HLFF w8 hC8
              have hr8 : w8.heap[w1.heap.size]? = some (.cells A 97 (0, 0)) := (hC8.block _ (by omega)).trans (unhide HR7)
              have hW8 := hW7.trans (hC8.mono hW7.size)
              have hstT := store_row Try.prog w8 (w.heap.size + 1) 97 Try.zeroCells97 A hz8 (by rw [zeroCC_size, hAs]) (unhide H1A)
              have hldT := run_loadVar_row (P := Try.prog) (w8.setRow (w.heap.size + 1) A) (w.heap.size + 1) 97 97 A (0, 0) _ (setRow_heap _ _ _ _ _ _ hz8) Try.underlying97 rfl (unhide HSZ)
              have hB9 : Below w.heap.size w (w8.setRow (w.heap.size + 1) A) := Below.setRow hW8 (by omega) _
              obtain ⟨W9, hW9⟩ : ∃ W9, W9 = w8.setRow (w.heap.size + 1) A := ⟨_, rfl⟩
              rw [← hW9] at hstT hldT hB9
              clear hW9
              have HLT := hide hldT
              have HR8 := hide hr8
              have HFIN : Hid (RightRet bs L seq o (.returned (.tuple #[.agg A, .bool true]))) := unhide HYES ⟨unhide HOK, unhide HFT, unhide HLL, by rw [unhide HTS]; exact hc1, by rw [← unhide HNN]; exact hc2, hc3⟩
              clear hldT hz8 hr8 hC8 hW8 hq2' hq3' HLD HR7 HLFF HTOP HST hW7 hfld
              go_wp2_with fail
              refine wp_load_row 97 _ rfl w1.heap.size rfl 97 A (0, 0) _ (unhide HR8) Try.underlying97 rfl (unhide HSZ) ?_
              go_wp2
              exact bodyPost_ret (results_cell_slot 2 97 3 Try.results74 _ _ _ _ _ rfl (unhide HLT) rfl) rfl ⟨unhide HFIN, hB9⟩
            · have hd3 : ∀ r : Bool, (r = true ↔ Settled bs o) → r = false := fun r h => by cases r; rfl; exact absurd (h.1 rfl) hc3
              refine wp_region_grown (Below w7.heap.size w7) hmix (by kernel_rfl) (below_drawn w7) ?_
              go_big_quiet_step (exact fun _ => rfl)
              refine wpQuiet_val rfl (.int .i64 seq) (fun W hC => ?_) ?_
              · have hcl := (hC.cell (p := ⟨w.heap.size, 2, none⟩) (by show w.heap.size < _; omega)).trans hq2'
                go_simp
              simp only [Act.put, List.setIfInBounds_toArray, List.set_cons_zero, List.set_cons_succ]
              refine wpQuiet_val rfl (.agg A) (fun W hC => quietAt_load_mid 97 _ rfl w1.heap.size 0 rfl A 205 hAs (fun j hj => (hC.cell (p := ⟨w1.heap.size, 0 + j, none⟩) (by show w1.heap.size < _; omega)).trans (unhide HLD j hj)) _ Try.underlying97 rfl sizeCC') ?_
              simp only [Act.put, List.setIfInBounds_toArray, List.set_cons_zero, List.set_cons_succ]
              refine wpQuiet_val rfl (.agg #[.int .i64 T, .int .i64 T2]) (fun W hC => ?_) ?_
              · go_simp
                refine (unhide HTOP W).mono ?_
                rintro e w' ⟨rfl, hB'⟩
                exact ⟨rfl, hC.trans (hB'.mono hC.size)⟩
              simp only [Act.put, List.setIfInBounds_toArray, List.set_cons_zero, List.set_cons_succ]
              go_big_quiet_step (exact fun _ => rfl)
              go_big_quiet_step (exact fun _ => rfl)
              refine wpQuiet_val rfl (.bool true) (fun W hC => ?_) ?_
              · go_simp
                refine (within_any seq (T + 1) 1000000000 W).mono ?_
                rintro e w' ⟨rfl, rfl⟩
                exact ⟨by rw [hd1], hC⟩
              simp only [Act.put, List.setIfInBounds_toArray, List.set_cons_zero, List.set_cons_succ]
              go_big_quiet_step (exact fun _ => rfl)
              go_big_quiet_step (exact fun _ => rfl)
              refine wpQuiet_val rfl (.agg A) (fun W hC => quietAt_load_mid 97 _ rfl w1.heap.size 0 rfl A 205 hAs (fun j hj => (hC.cell (p := ⟨w1.heap.size, 0 + j, none⟩) (by show w1.heap.size < _; omega)).trans (unhide HLD j hj)) _ Try.underlying97 rfl sizeCC') ?_
              simp only [Act.put, List.setIfInBounds_toArray, List.set_cons_zero, List.set_cons_succ]
              go_big_quiet_step (exact fun _ => rfl)
              refine wpQuiet_val rfl (.int .i64 o) (fun W hC => ?_) ?_
              · have hcl := (hC.cell (p := ⟨w.heap.size, 3, none⟩) (by show w.heap.size < _; omega)).trans hq3'
                go_simp
              simp only [Act.put, List.setIfInBounds_toArray, List.set_cons_zero, List.set_cons_succ]
              refine wpQuiet_val rfl (.bool true) (fun W hC => ?_) ?_
              · go_simp
                refine (has_any A (n : Int) (unhide HA0) (by omega) (by omega) o W).mono ?_
                rintro e w' ⟨rfl, hB'⟩
                exact ⟨by rw [hd2], hC.trans (hB'.mono hC.size)⟩
              simp only [Act.put, List.setIfInBounds_toArray, List.set_cons_zero, List.set_cons_succ]
              go_big_quiet_step (exact fun _ => rfl)
              go_big_quiet_step (exact fun _ => rfl)
              go_big_quiet_step (exact fun _ => rfl)
              refine wpQuiet_val rfl (.agg A) (fun W hC => quietAt_load_mid 97 _ rfl w1.heap.size 0 rfl A 205 hAs (fun j hj => (hC.cell (p := ⟨w1.heap.size, 0 + j, none⟩) (by show w1.heap.size < _; omega)).trans (unhide HLD j hj)) _ Try.underlying97 rfl sizeCC') ?_
              simp only [Act.put, List.setIfInBounds_toArray, List.set_cons_zero, List.set_cons_succ]
              go_big_quiet_step (exact fun _ => rfl)
              refine wpQuiet_val rfl (.int .i64 o) (fun W hC => ?_) ?_
              · have hcl := (hC.cell (p := ⟨w.heap.size, 3, none⟩) (by show w.heap.size < _; omega)).trans hq3'
                go_simp
              simp only [Act.put, List.setIfInBounds_toArray, List.set_cons_zero, List.set_cons_succ]
              refine wpQuiet_val rfl (.bool false) (fun W hC => ?_) ?_
              · go_simp
                refine (unhide HST W).mono ?_
                rintro e w' ⟨⟨r9, rfl, hr9⟩, hB'⟩
                refine ⟨?_, hC.trans (hB'.mono hC.size)⟩
                have := hd3 r9 hr9
                rw [this]
              simp only [Act.put, List.setIfInBounds_toArray, List.set_cons_zero, List.set_cons_succ]
              go_big_quiet_step (exact fun _ => rfl)
              go_big_quiet_step (exact fun _ => rfl)
              refine wpQuiet_nil ?_
              intro w8 hC8
              have hz8 := unhide HLFF w8 hC8
              have hW8 := hW7.trans (hC8.mono hW7.size)
              have hstF := store_same Try.prog w8 (w.heap.size + 1) 97 Try.zeroCells97 hz8 zeroCC_one
              have hldF := run_loadVar_row (P := Try.prog) w8 (w.heap.size + 1) 97 97 Try.zeroCells97 (0, 0) _ hz8 Try.underlying97 rfl (by rw [zeroCC_size]; exact sizeCC')
              have HLF := hide hldF
              have HNO : Hid (¬ FtlOk bs L seq o) := fun hf => hc3 hf.settled
              clear hldF hz8 hC8 hq2' hq3' HLD HR7 HLFF HTOP HST hW7 hfld
              go_wp2
              exact bodyPost_ret (results_cell_slot 2 97 3 Try.results74 _ _ _ _ _ rfl (unhide HLF) rfl) rfl ⟨RightRet.no (unhide HNO), hW8⟩
          · have hd2 : decide ((0 : Int) ≤ o ∧ o ≤ (n : Int) - 1) = false := by simpa using hc2
            refine wp_region_grown (Below w7.heap.size w7) hmix (by kernel_rfl) (below_drawn w7) ?_
            go_big_quiet_step (exact fun _ => rfl)
            refine wpQuiet_val rfl (.int .i64 seq) (fun W hC => ?_) ?_
            · have hcl := (hC.cell (p := ⟨w.heap.size, 2, none⟩) (by show w.heap.size < _; omega)).trans hq2'
              go_simp
            simp only [Act.put, List.setIfInBounds_toArray, List.set_cons_zero, List.set_cons_succ]
            refine wpQuiet_val rfl (.agg A) (fun W hC => quietAt_load_mid 97 _ rfl w1.heap.size 0 rfl A 205 hAs (fun j hj => (hC.cell (p := ⟨w1.heap.size, 0 + j, none⟩) (by show w1.heap.size < _; omega)).trans (unhide HLD j hj)) _ Try.underlying97 rfl sizeCC') ?_
            simp only [Act.put, List.setIfInBounds_toArray, List.set_cons_zero, List.set_cons_succ]
            refine wpQuiet_val rfl (.agg #[.int .i64 T, .int .i64 T2]) (fun W hC => ?_) ?_
            · go_simp
              refine (unhide HTOP W).mono ?_
              rintro e w' ⟨rfl, hB'⟩
              exact ⟨rfl, hC.trans (hB'.mono hC.size)⟩
            simp only [Act.put, List.setIfInBounds_toArray, List.set_cons_zero, List.set_cons_succ]
            go_big_quiet_step (exact fun _ => rfl)
            go_big_quiet_step (exact fun _ => rfl)
            refine wpQuiet_val rfl (.bool true) (fun W hC => ?_) ?_
            · go_simp
              refine (within_any seq (T + 1) 1000000000 W).mono ?_
              rintro e w' ⟨rfl, rfl⟩
              exact ⟨by rw [hd1], hC⟩
            simp only [Act.put, List.setIfInBounds_toArray, List.set_cons_zero, List.set_cons_succ]
            go_big_quiet_step (exact fun _ => rfl)
            go_big_quiet_step (exact fun _ => rfl)
            refine wpQuiet_val rfl (.agg A) (fun W hC => quietAt_load_mid 97 _ rfl w1.heap.size 0 rfl A 205 hAs (fun j hj => (hC.cell (p := ⟨w1.heap.size, 0 + j, none⟩) (by show w1.heap.size < _; omega)).trans (unhide HLD j hj)) _ Try.underlying97 rfl sizeCC') ?_
            simp only [Act.put, List.setIfInBounds_toArray, List.set_cons_zero, List.set_cons_succ]
            go_big_quiet_step (exact fun _ => rfl)
            refine wpQuiet_val rfl (.int .i64 o) (fun W hC => ?_) ?_
            · have hcl := (hC.cell (p := ⟨w.heap.size, 3, none⟩) (by show w.heap.size < _; omega)).trans hq3'
              go_simp
            simp only [Act.put, List.setIfInBounds_toArray, List.set_cons_zero, List.set_cons_succ]
            refine wpQuiet_val rfl (.bool false) (fun W hC => ?_) ?_
            · go_simp
              refine (has_any A (n : Int) (unhide HA0) (by omega) (by omega) o W).mono ?_
              rintro e w' ⟨rfl, hB'⟩
              exact ⟨by rw [hd2], hC.trans (hB'.mono hC.size)⟩
            simp only [Act.put, List.setIfInBounds_toArray, List.set_cons_zero, List.set_cons_succ]
            go_big_quiet_step (exact fun _ => rfl)
            go_big_quiet_step (exact fun _ => rfl)
            go_big_quiet_step (exact fun _ => rfl)
            go_big_quiet_step (exact fun _ => rfl)
            go_big_quiet_step (exact fun _ => rfl)
            go_big_quiet_step (exact fun _ => rfl)
            go_big_quiet_step (exact fun _ => rfl)
            go_big_quiet_step (exact fun _ => rfl)
            go_big_quiet_step (exact fun _ => rfl)
            refine wpQuiet_nil ?_
            intro w8 hC8
            have hz8 := unhide HLFF w8 hC8
            have hW8 := hW7.trans (hC8.mono hW7.size)
            have hstF := store_same Try.prog w8 (w.heap.size + 1) 97 Try.zeroCells97 hz8 zeroCC_one
            have hldF := run_loadVar_row (P := Try.prog) w8 (w.heap.size + 1) 97 97 Try.zeroCells97 (0, 0) _ hz8 Try.underlying97 rfl (by rw [zeroCC_size]; exact sizeCC')
            have HLF := hide hldF
            have HNO : Hid (¬ FtlOk bs L seq o) := fun hf => hc2 (by rw [unhide HNN]; exact hf.opn)
            clear hldF hz8 hC8 hq2' hq3' HLD HR7 HLFF HTOP HST hW7 hfld
            go_wp2
            exact bodyPost_ret (results_cell_slot 2 97 3 Try.results74 _ _ _ _ _ rfl (unhide HLF) rfl) rfl ⟨RightRet.no (unhide HNO), hW8⟩
        · have hd1 : decide (T + 1 ≤ seq ∧ seq ≤ 1000000000) = false := by simpa using hc1
          refine wp_region_grown (Below w7.heap.size w7) hmix (by kernel_rfl) (below_drawn w7) ?_
          go_big_quiet_step (exact fun _ => rfl)
          refine wpQuiet_val rfl (.int .i64 seq) (fun W hC => ?_) ?_
          · have hcl := (hC.cell (p := ⟨w.heap.size, 2, none⟩) (by show w.heap.size < _; omega)).trans hq2'
            go_simp
          simp only [Act.put, List.setIfInBounds_toArray, List.set_cons_zero, List.set_cons_succ]
          refine wpQuiet_val rfl (.agg A) (fun W hC => quietAt_load_mid 97 _ rfl w1.heap.size 0 rfl A 205 hAs (fun j hj => (hC.cell (p := ⟨w1.heap.size, 0 + j, none⟩) (by show w1.heap.size < _; omega)).trans (unhide HLD j hj)) _ Try.underlying97 rfl sizeCC') ?_
          simp only [Act.put, List.setIfInBounds_toArray, List.set_cons_zero, List.set_cons_succ]
          refine wpQuiet_val rfl (.agg #[.int .i64 T, .int .i64 T2]) (fun W hC => ?_) ?_
          · go_simp
            refine (unhide HTOP W).mono ?_
            rintro e w' ⟨rfl, hB'⟩
            exact ⟨rfl, hC.trans (hB'.mono hC.size)⟩
          simp only [Act.put, List.setIfInBounds_toArray, List.set_cons_zero, List.set_cons_succ]
          go_big_quiet_step (exact fun _ => rfl)
          go_big_quiet_step (exact fun _ => rfl)
          refine wpQuiet_val rfl (.bool false) (fun W hC => ?_) ?_
          · go_simp
            refine (within_any seq (T + 1) 1000000000 W).mono ?_
            rintro e w' ⟨rfl, rfl⟩
            exact ⟨by rw [hd1], hC⟩
          simp only [Act.put, List.setIfInBounds_toArray, List.set_cons_zero, List.set_cons_succ]
          go_big_quiet_step (exact fun _ => rfl)
          go_big_quiet_step (exact fun _ => rfl)
          go_big_quiet_step (exact fun _ => rfl)
          go_big_quiet_step (exact fun _ => rfl)
          go_big_quiet_step (exact fun _ => rfl)
          go_big_quiet_step (exact fun _ => rfl)
          go_big_quiet_step (exact fun _ => rfl)
          go_big_quiet_step (exact fun _ => rfl)
          go_big_quiet_step (exact fun _ => rfl)
          go_big_quiet_step (exact fun _ => rfl)
          go_big_quiet_step (exact fun _ => rfl)
          go_big_quiet_step (exact fun _ => rfl)
          go_big_quiet_step (exact fun _ => rfl)
          go_big_quiet_step (exact fun _ => rfl)
          go_big_quiet_step (exact fun _ => rfl)
          refine wpQuiet_nil ?_
          intro w8 hC8
          have hz8 := unhide HLFF w8 hC8
          have hW8 := hW7.trans (hC8.mono hW7.size)
          have hstF := store_same Try.prog w8 (w.heap.size + 1) 97 Try.zeroCells97 hz8 zeroCC_one
          have hldF := run_loadVar_row (P := Try.prog) w8 (w.heap.size + 1) 97 97 Try.zeroCells97 (0, 0) _ hz8 Try.underlying97 rfl (by rw [zeroCC_size]; exact sizeCC')
          have HLF := hide hldF
          have HNO : Hid (¬ FtlOk bs L seq o) := fun hf => hc1 (by rw [← unhide HTS]; exact hf.seq)
          clear hldF hz8 hC8 hq2' hq3' HLD HR7 HLFF HTOP HST hW7 hfld
          go_wp2
          exact bodyPost_ret (results_cell_slot 2 97 3 Try.results74 _ _ _ _ _ rfl (unhide HLF) rfl) rfl ⟨RightRet.no (unhide HNO), hW8⟩
end Go.Proofs.Ytalgkmellbamgaa

/- How many pages of each block are the newest of their log: the program's validCounts and ValidOf. -/
namespace Go.Proofs.Ytalgkmellbamgaa
open Go.RowKit Go.Shelf
set_option linter.unusedVariables false
set_option linter.unusedSimpArgs false
attribute [local go_sem] Oper.semAt_some

/-- The row A of twelve numbers tells, of each block, how many places of L lie in it. -/
def IsCnt (A : Array Value) (L : List Int) : Prop := A.size = 12 ∧ ∀ i : Nat, i < 12 → A[i]? = some (.int .i64 (validIn L (i : Int)))
theorem IsCnt.nil : IsCnt #[.int .i64 0, .int .i64 0, .int .i64 0, .int .i64 0, .int .i64 0, .int .i64 0, .int .i64 0, .int .i64 0, .int .i64 0, .int .i64 0, .int .i64 0, .int .i64 0] [] := by
  refine ⟨rfl, fun i hi => ?_⟩
  rw [validIn_nil]
  match i, hi with
  | 0, _ | 1, _ | 2, _ | 3, _ | 4, _ | 5, _ | 6, _ | 7, _ | 8, _ | 9, _ | 10, _ | 11, _ => rfl
  | i + 12, h => omega
theorem IsCnt.one {A : Array Value} {L : List Int} (h : IsCnt A L) : ∀ v ∈ A.toList, v.oneCell' = true := by
  intro v hv
  have hv' : v ∈ A := by simpa using hv
  obtain ⟨i, hi, rfl⟩ := Array.mem_iff_getElem.1 hv'
  have e := h.2 i (by rw [← h.1]; exact hi)
  rw [Array.getElem?_eq_getElem hi] at e
  rw [Option.some.inj e]
  rfl
theorem IsCnt.named {A : Array Value} {L : List Int} (h : IsCnt A (namedOf L)) : IsCnt A L := ⟨h.1, fun i hi => by rw [h.2 i hi, validIn_named]⟩
theorem IsCnt.snoc {A : Array Value} {L : List Int} (h : IsCnt A L) (x : Int) (q : Nat) (hq : x / 4 = (q : Int)) (h0 : 0 ≤ x) (h12 : q < 12) : IsCnt (A.setIfInBounds q (.int .i64 ((validIn L (q : Int) : Int) + 1))) (L ++ [x]) := by
  refine ⟨by simp [h.1], fun i hi => ?_⟩
  rw [validIn_snoc, Array.getElem?_setIfInBounds]
  by_cases e : q = i
  · subst e
    have hh : hit (q : Int) x = true := by simp [hit, h0, hq]
    simp [hh, h.1, h12]
  · have hh : hit (i : Int) x = false := by
      have : ¬ (x / 4 = (i : Int)) := by rw [hq]; omega
      simp [hit, this]
    rw [if_neg e, h.2 i hi, hh]
    simp
theorem sizeCnt : (Try.prog.info? 119).map (·.size) = some 12 := by kernel_rfl

def CntI (w : World) (pre : List Int) (W : World) : Prop :=
  ∃ Z A : Array Value, Z.size = 12 ∧ IsCnt A pre ∧ W.heap[w.heap.size]? = some (.cells Z 119 (0, 0)) ∧ W.heap[w.heap.size + 1]? = some (.cells A 119 (0, 0)) ∧ w.heap.size + 1 + 1 < W.heap.size
theorem CntI.own (w : World) (p : List Int) {W W' : World} {row : Option Nat} (h : CntI w p W) (hg : W.grownBy W' row) (hr : ∀ r, row = some r → ∃ o : Obj, W.heap[r]? = some o ∧ o.isCells = false) : CntI w p W' := by
  obtain ⟨Z, A, hz, ha, h1, h2, h4⟩ := h
  exact ⟨Z, A, hz, ha, blk_kept h1 hg hr, blk_kept h2 hg hr, Nat.lt_of_lt_of_le h4 hg.size⟩

/-- One of the elements of an array, each of one cell. -/
theorem run_index_one {P : Program} (w : World) (ty e : TypeId) (N : Nat) (C : Array Value) (hC : C.size = N) (k : Nat) (hk : k < N) (v : Value) (hv : C[k]? = some v) (hu : P.underlying ty = some (.array N e)) (hue : P.underlying e = some (.int .i64)) (hi : (P.info? e).map (·.size) = some 1) :
    (Instr.index ty (.agg C) (.int .i64 (k : Int))).run P w = .ok v w := by
  cases hq : P.info? e with
  | none => simp [hq] at hi
  | some i =>
    have hs : i.size = 1 := by simpa [hq] using hi
    have hagg : (isAgg e).run P w = .ok false w := by
      unfold isAgg
      rw [Sem.run_bind, run_underlying hue w]
      rfl
    have hlt : (0 : Int) ≤ (k : Int) ∧ (k : Int) < (N : Int) := by omega
    simp [Instr.index, asIntOf, run_underlying hu, hlt, part, hagg, sizeOf, typeInfo, hq, hs, hk, hv]

theorem CntI.ownS (w : World) (B : Nat) : OwnFrom B (fun (pre : List {x : Int // 0 ≤ x ∧ x < 48}) W => CntI w (pre.map (fun y => y.val)) W) := fun p W W' row h hg hr => CntI.own w _ h hg (fun r e => (hr r e).2)
theorem results_cell1 {P : Program} {fn : Func} (r ty : Nat) (hr : fn.results = #[.cell r ty]) (tm : Array Value) (W : World) (g : Addr) (A : Array Value)
    (h1 : tm.getD r undef = .pointer (some g)) (h2 : (loadVar ty g).run P W = .ok (.agg A) W) : (results fn tm).run P W = .ok (.agg A) W := by
  unfold results
  rw [hr]
  have h1' : tm[r]?.getD undef = .pointer (some g) := by simpa using h1
  simp [h2, Sem.run_bind, h1', asAddr]

set_option maxRecDepth 100000 in
set_option maxHeartbeats 2000000 in
theorem validCounts_any (a : Option Addr) (c : Nat) (L : List Int) (nn : Nat) (hnn : L.length = nn) (hsm : nn ≤ 36) (hP : ∀ x ∈ L, x = -1 ∨ (0 ≤ x ∧ x < 48)) (w : World) (hI : IntsAt w a L) :
    Calls Try.prog 83 #[.slice a nn c] w fun e w' => ∃ A, e = .returned (.agg A) ∧ IsCnt A L ∧ Below w.heap.size w w' := by
  refine (callsIn_wide (n := 8)).1 ?_
  refine callsIn_of_wp_marks Try.func83 rfl trivial ?_ rfl
  simp only [Try.ntmps83, List.size_toArray, List.length_cons, List.length_nil, Nat.reduceAdd, Nat.reduceSub, Array.replicate_succ, Array.replicate_zero, List.push_toArray, List.append_toArray, List.nil_append, List.cons_append]
  gi_wp2_with (refine ⟨trivial, ?_⟩; gi_at_call 128; refine (namedPlaces_in Fence.wide _ trivial rfl a nn c _).mono ?_; rintro e w' ⟨rfl, rfl⟩)
  obtain ⟨Z, hZ⟩ : ∃ Z : Array Value, Z = #[.int .i64 0, .int .i64 0, .int .i64 0, .int .i64 0, .int .i64 0, .int .i64 0, .int .i64 0, .int .i64 0, .int .i64 0, .int .i64 0, .int .i64 0, .int .i64 0] := ⟨_, rfl⟩
  rw [← hZ]
  have hZ0 : IsCnt Z [] := by rw [hZ]; exact IsCnt.nil
  clear hZ
  obtain ⟨W3, hW3⟩ : ∃ W3, W3 = (w.alloc (.cells Z 119)).alloc (.cells Z 119) := ⟨_, rfl⟩
  have h31 : W3.heap[w.heap.size]? = some (.cells Z 119 (0, 0)) := by rw [hW3]; exact (Below.heap_alloc _ _ _ (by simp)).trans (World.alloc_heap_new _ _)
  have h32 : W3.heap[w.heap.size + 1]? = some (.cells Z 119 (0, 0)) := by rw [hW3]; exact heap_alloc2_new _ _ _
  have hs3 : W3.heap.size = w.heap.size + 1 + 1 := by rw [hW3]; simp
  have hB3 : Below w.heap.size w W3 := by
    rw [hW3]
    exact ((Below.refl _ w).alloc (Nat.le_refl _) _).alloc (by simp) _
  rw [← hW3]
  clear hW3
  have hbel : Below w.heap.size w (W3.alloc (.cells #[.slice a nn c] 41)) := hB3.alloc hB3.size _
  have hbox : (W3.alloc (.cells #[.slice a nn c] 41)).cell? ⟨w.heap.size + 1 + 1, 0, none⟩ = some (.slice a nn c) := by rw [← hs3]; simp
  have hSz : ∀ k, (k = w.heap.size + 1 + 1 ∨ k < w.heap.size) → k < (W3.alloc (.cells #[.slice a nn c] 41)).heap.size := fun k hk => by simp; omega
  refine wpIn_rangeFunc_ownH rfl (by omega) (gf := 153) (lb := #[.pointer (some ⟨w.heap.size + 1 + 1, 0, none⟩)]) rfl trivial (enters_of Try.func153 (by kernel_rfl) rfl)
    (named_stops (fun x => 0 ≤ x ∧ x < 48) (fun k => k = w.heap.size + 1 + 1 ∨ k < w.heap.size) Fence.wide _ trivial rfl (by omega) (w.heap.size + 1 + 1) (.inl rfl) a c L nn hnn (by omega) (fun x hx hne => by have := hP x hx; omega) _ hSz hbox (hI.below hbel (Nat.le_refl _)) ?hSa) KeepS.trans (keepS_b hSz) (Below.refl _ _) (fun _ => rfl)
    (fun pre W => CntI w (pre.map (·.val)) W ∧ Below w.heap.size w W) (fun c pre W => False)
    (OwnFrom.and (CntI.ownS w _) (ownFrom_below (Nat.le_refl _) (by simp; omega)))
    (fun c => fun s W W' row h hg hr => h)
    ⟨⟨Z, Z, hZ0.1, hZ0, by rw [Below.heap_alloc _ _ _ (by rw [hs3]; omega)]; exact h31, by rw [Below.heap_alloc _ _ _ (by rw [hs3]; omega)]; exact h32, by simp; omega⟩, hbel⟩
    (fun x a' W => a' = { tmps := #[.slice a nn c, undef, .pointer (some ⟨w.heap.size, 0, none⟩), .pointer (some ⟨w.heap.size + 1, 0, none⟩), .int .i64 x.val, .slice a nn c, .func (.func 153) #[] #[.pointer (some ⟨w.heap.size + 1 + 1, 0, none⟩)], .int .i64 x.val, undef, undef, undef, undef, undef, undef, undef], defers := [] })
    (fun x a' => Own.from (fun _ W W' row h hg hr => h) _) ?assign ?body ?done ?stop
  case hSa =>
    intro b o ha hpos
    obtain ⟨x, hx⟩ := getElem?_ex (l := L) (k := 0) hpos
    obtain ⟨b', o', ha', hc⟩ := hI 0 x hx
    rw [ha] at ha'
    cases ha'
    exact .inr (World.block_lt_of_cell? _ _ hc)
  case assign =>
    rintro l pre x W K ⟨hi, hb⟩ hK
    simp only [encI]
    gi_wp2
    exact hK _ _ ((KeepsOthers.refl _).from _) (KeepS.refl _ _) ⟨hi, hb⟩ rfl
  case body =>
    rintro l pre ⟨x, hx0, hx48⟩ a' W hl hlr ⟨⟨Z, A, hz, hA, hA1, hA2, hWs⟩, hb⟩ rfl hlen
    obtain ⟨q, hq⟩ : ∃ q : Nat, x / 4 = (q : Int) := ⟨(x / 4).toNat, by omega⟩
    have hq12 : q < 12 := by omega
    have hcq := (cell_of_row _ _ q _ _ _ hA2).trans (hA.2 q hq12)
    have hfq := frozen_of_row _ _ q _ _ hA2
    have hle := validIn_le (pre.map (·.val)) (q : Int)
    rw [List.length_map] at hle
    have hsn := hA.snoc x q hq hx0 hq12
    have hm : (pre ++ [(⟨x, hx0, hx48⟩ : {x : Int // 0 ≤ x ∧ x < 48})]).map (fun y => y.val) = pre.map (fun y => y.val) ++ [x] := by simp
    obtain ⟨V, hV⟩ : ∃ V, V = validIn (pre.map (·.val)) (q : Int) := ⟨_, rfl⟩
    rw [← hV] at hcq hle hsn
    have HSN := hide hsn
    have H1 := hide hA1
    have H2 := hide hA2
    have HM := hide hm
    have hq' : ((q : Nat) : Int) < 12 := by omega
    clear hsn hA1 hA2 hA hV hP hI hm
    gi_wp2
    refine ⟨(KeepsOthers.setCell _ _ _).from _, KeepS.setCell _ _ _ (fun hs => by simp at hs; omega), ⟨Z, _, hz, by rw [unhide HM]; exact unhide HSN, ?_, blk_setCell_same q _ (unhide H2), by simpa [World.setCell] using hWs⟩, hb.setCell (by simp) _⟩
    rw [Below.heap_setCell _ _ _ _ (by simp)]
    exact unhide H1
  case done =>
    rintro D ys W hD hys ⟨⟨Z, A, hz, hA, hA1, hA2, hWs⟩, hb⟩ hK
    have hA' : IsCnt A L := by rw [hys] at hA; exact hA.named
    have hst := store_row Try.prog W w.heap.size 119 Z A hA1 (by rw [hz, hA.1]) hA.one
    have hld := setRow_heap W _ _ A _ _ hA1
    have hDn : D ≠ w.heap.size := by simp at hD; omega
    have hK' : (W.setRow w.heap.size A).heap[D]? = some (.deferred (some [])) := by rw [setRow_other _ _ _ _ hDn]; exact hK
    have hB5 : Below w.heap.size w (W.setRow w.heap.size A) := Below.setRow hb (Nat.le_refl _) _
    obtain ⟨W5, hW5⟩ : ∃ W5, W5 = W.setRow w.heap.size A := ⟨_, rfl⟩
    rw [← hW5] at hst hld hK' hB5
    clear hW5
    have HA := hide hA'
    have HA1 := hide hA.1
    have H2 := hide hA2
    have HLD := hide hld
    clear hA hA' hA1 hA2 hld hP hI hZ0 hb hK
    gi_wp2_with (refine wpListIn_load_mid rfl 119 _ rfl (w.heap.size + 1) 0 rfl A 12 (unhide HA1) (fun j hj => by rw [Nat.zero_add]; exact cell_of_row _ _ _ _ _ _ (unhide H2)) _ Try.underlying119 rfl sizeCnt ?_)
    refine ⟨by simp, .inl ⟨_, _, rfl, run_takeDeferred hK', ?_⟩⟩
    have hrow : (W5.putObj D (.deferred none)).heap[w.heap.size]? = _ := (World.putObj_heap_other (fun e => hDn e.symm)).trans (unhide HLD)
    exact ⟨.agg A, results_cell1 2 119 Try.results83 _ _ _ _ rfl (run_loadVar_row (P := Try.prog) _ w.heap.size 119 119 A (0, 0) _ hrow Try.underlying119 rfl (by rw [unhide HA1]; exact sizeCnt)), A, rfl, unhide HA, hB5.trans (belowK_b (w := w) (Nat.le_refl _) _ D _ _ (by simp at hD; omega) hK' rfl rfl)⟩
  case stop =>
    rintro D c' pre W hD hpre h hK
    exact h.elim

set_option maxRecDepth 100000 in
set_option maxHeartbeats 1000000 in
theorem implValidOf_any (a : Option Addr) (c : Nat) (bs : List Bk) (n : Nat) (hl : bs.length = n) (ma : Option Addr) (mc : Nat) (L : List Int) (mn : Nat) (hL : L.length = mn) (seq o blk : Int) (w : World) (h : BlocksAt w a bs) (hn : Lens 9223372036854775807 bs) (hI : IntsAt w ma L) (hmn : mn ≤ 9223372036854775807) :
    Calls Try.prog 31 #[.agg #[.slice a n c, .slice ma mn mc, .int .i64 seq, .int .i64 o], .int .i64 blk] w fun e w' => ∃ r : Int, e = .returned (.int .i64 r) ∧ ValidIs bs L seq o blk r ∧ Below w.heap.size w w' := by
  have hb0 : ∀ o, Below w.heap.size w (w.alloc o) := fun o => (Below.refl _ w).alloc (Nat.le_refl _) _
  go_enter Try.func31, Try.ntmps31
  go_wp2_with fail
  refine (rightCells_any a c bs n hl ma mc L mn hL seq o _ (h.below (hb0 _) (Nat.le_refl _)) hn (hI.below (hb0 _) (Nat.le_refl _)) hmn).mono ?_
  rintro e w1 ⟨⟨m, r, rfl, hr, hm⟩, hB1⟩
  have hW1 : Below w.heap.size w w1 := (hb0 _).trans (hB1.mono (by simp))
  have hs1 := hB1.size
  simp at hs1
  have hx1 : w1.cell? ⟨w.heap.size, 1, none⟩ = some (.slice ma mn mc) := by
    rw [hB1.cell (p := ⟨w.heap.size, 1, none⟩) (by simp)]
    simp
  have hsc := store_cc m w1
  have hAs := ccA_size m
  have hA0 := ccA_count m
  have HSZ := hide (sizeCC m)
  have HR := hide hr
  have HM := hide hm
  have HI := hide (hI.below hW1 (Nat.le_refl _))
  have HL := hide hl
  have HLL := hide hL
  generalize ccA m = A at hsc hAs hA0 HSZ
  have HA0 := hide hA0
  clear hr hm hA0 h hn hB1 hb0 hI hl hL
  cases r with
  | false =>
    go_wp2
    go_ret
    exact ⟨_, rfl, .inr ⟨(fun hc => by have := (unhide HR).2 hc.1; cases this), rfl⟩, hW1.alloc hW1.size _⟩
  | true =>
    have hok := (unhide HR).1 (by trivial)
    have hc12 : 4 ≤ n ∧ n ≤ 12 := by have := hok.chip.count; have := unhide HL; omega
    have hm36 : mn ≤ 36 := by have := hok.len36; have := unhide HLL; omega
    have HP : Hid (∀ x ∈ L, x = -1 ∨ (0 ≤ x ∧ x < 48)) := fun x hx => by have h1 := hok.places x hx; have h2 := hok.chip.count; omega
    obtain ⟨hct, _⟩ := unhide HM (by trivial)
    have hA0 := unhide HA0
    rw [hct, unhide HL] at hA0
    have HA0' := hide hA0
    have HO := hide hok
    have hx1' : ∀ o, (w1.alloc o).cell? ⟨w.heap.size, 1, none⟩ = some (.slice ma mn mc) := fun o => (cell_alloc_lt _ _ _ _ (by omega)).trans hx1
    have hb1 : ∀ o, Below w1.heap.size w1 (w1.alloc o) := fun o => (Below.refl _ w1).alloc (Nat.le_refl _) _
    clear hok hA0 HA0 HM hct hx1
    go_wp2_with fail
    refine wp_load_row 97 _ rfl w1.heap.size rfl 97 A (0, 0) _ (Go.Deep.blk_alloc_new _ _) Try.underlying97 rfl (unhide HSZ) ?_
    clear hsc
    go_wp2_with fail
    refine (has_any A (n : Int) (unhide HA0') (by omega) (by omega) blk _).mono ?_
    rintro e w2 ⟨rfl, hB2⟩
    have hs2 := hB2.size
    simp at hs2
    have hW2 : Below w.heap.size w w2 := (hW1.alloc hW1.size _).trans (hB2.mono (by simp; omega))
    have hx2 := (hB2.cell (p := ⟨w.heap.size, 1, none⟩) (by simp; omega)).trans (hx1' _)
    have HI2 := hide ((unhide HI).below ((hb1 _).trans (hB2.mono (by simp))) (Nat.le_refl _))
    clear hx1' hb1 hB2 HI hW1
    by_cases hin : 0 ≤ blk ∧ blk ≤ (n : Int) - 1
    · obtain ⟨k, rfl⟩ := Int.eq_ofNat_of_zero_le hin.1
      have hk12 : k < 12 := by omega
      have hki : (k : Int) < 12 := by omega
      have hd : decide ((0 : Int) ≤ (k : Int) ∧ (k : Int) ≤ (n : Int) - 1) = true := by simp; omega
      rw [hd]
      have HKN : Hid ((k : Int) ≤ (n : Int) - 1) := hin.2
      clear hd hin
      go_wp2_with fail
      refine (validCounts_any ma mc L mn (unhide HLL) hm36 (unhide HP) _ (unhide HI2)).mono ?_
      rintro e w3 ⟨C, rfl, hC, hB3⟩
      have hW3 := hW2.trans (hB3.mono hW2.size)
      have hC1 := hC.1
      have hC2 := hC.2 k hk12
      have hix := fun W => run_index_one (P := Try.prog) W 119 2 12 C hC1 k hk12 _ hC2 Try.underlying119 Try.underlying2 (by kernel_rfl)
      clear hC hB3 hx2 hC1 hC2
      go_wp2
      go_ret
      exact ⟨_, rfl, .inl ⟨⟨unhide HO, by omega, by rw [unhide HL]; exact unhide HKN⟩, rfl⟩, hW3⟩
    · have hd : decide ((0 : Int) ≤ blk ∧ blk ≤ (n : Int) - 1) = false := by simpa using hin
      rw [hd]
      go_wp2
      go_ret
      exact ⟨_, rfl, .inr ⟨fun hc => hin (by rw [← unhide HL]; exact hc.2), rfl⟩, hW2⟩
end Go.Proofs.Ytalgkmellbamgaa

/- The block that is emptied: the program's victimBut and VictimOf. -/
namespace Go.Proofs.Ytalgkmellbamgaa
open Go.RowKit
set_option linter.unusedVariables false
set_option linter.unusedSimpArgs false

set_option maxRecDepth 100000 in
set_option maxHeartbeats 4000000 in
theorem victimBut_any (A : Array Value) (m : CC) (bs : List Bk) (n : Nat) (hl : bs.length = n) (hbs : ccBs m n = bs) (hA0 : A[0]? = some (.int .i64 (n : Int))) (hAb : ∀ b i, b < 12 → i < 17 → A[1 + b * 17 + i]? = (bcA (m.wear b) (m.page b))[i]?) (hn : n ≤ 12)
    (ma : Option Addr) (mc : Nat) (L : List Int) (mn : Nat) (hL : L.length = mn) (hmn : mn ≤ 36) (hP : ∀ x ∈ L, x = -1 ∨ (0 ≤ x ∧ x < 48)) (o : Int) (w : World) (hI : IntsAt w ma L) :
    Calls Try.prog 81 #[.agg A, .slice ma mn mc, .int .i64 o] w fun e w' => e = .returned (.int .i64 (vicOf bs L o)) ∧ Below w.heap.size w w' := by
  have HAB := hide hAb
  have HBS := hide hbs
  have HL := hide hl
  have hb0 : ∀ o, Below w.heap.size w (w.alloc o) := fun o => (Below.refl _ w).alloc (Nat.le_refl _) _
  clear hAb hbs hl
  go_enter Try.func81, Try.ntmps81
  go_wp2_with fail
  refine (validCounts_any ma mc L mn hL hmn hP _ (hI.below (hb0 _) (Nat.le_refl _))).mono ?_
  rintro e w1 ⟨C, rfl, hC, hB1⟩
  have hs1 := hB1.size
  simp at hs1
  have hr1 : w1.heap[w.heap.size]? = some (.cells A 97 (0, 0)) := (hB1.block _ (by simp)).trans (World.alloc_heap_new _ _)
  have hW1 : Below w.heap.size w w1 := (hb0 _).trans (hB1.mono (by simp))
  have hc1 := (cell_of_row _ _ 0 _ _ _ hr1).trans hA0
  have HR1 := hide hr1
  have HC := hide hC
  have hCs := hC.1
  have hst : (storeCells ⟨w1.heap.size, 0, none⟩ C.toList).run Try.prog (w1.alloc (.cells #[.int .i64 0, .int .i64 0, .int .i64 0, .int .i64 0, .int .i64 0, .int .i64 0, .int .i64 0, .int .i64 0, .int .i64 0, .int .i64 0, .int .i64 0, .int .i64 0] 119)) = .ok () (w1.alloc (.cells C 119)) := by
    have := storeNew Try.prog w1 w1.heap.size rfl #[.int .i64 0, .int .i64 0, .int .i64 0, .int .i64 0, .int .i64 0, .int .i64 0, .int .i64 0, .int .i64 0, .int .i64 0, .int .i64 0, .int .i64 0, .int .i64 0] 119 C.toList (by simp [hC.1]) hC.one
    simpa only [Array.toArray_toList] using this
  have hc1' : ∀ o', (w1.alloc o').cell? ⟨w.heap.size, 0, none⟩ = some (.int .i64 (n : Int)) := fun o' => (cell_alloc_lt _ _ _ _ (by omega)).trans hc1
  clear hB1 hr1 hC hP hI hA0 hb0 hc1
  go_wp2
  clear hst hc1'
  obtain ⟨w2, hw2⟩ : ∃ w2, w2 = w1.alloc (.cells C 119) := ⟨_, rfl⟩
  have hs2 : w1.heap.size < w2.heap.size := by rw [hw2]; simp
  have HR2 : Hid (w2.heap[w.heap.size]? = some (.cells A 97 (0, 0))) := by rw [hw2]; exact (Below.heap_alloc _ _ _ (by omega)).trans (unhide HR1)
  have HC2 : Hid (w2.heap[w1.heap.size]? = some (.cells C 119 (0, 0))) := by rw [hw2]; exact World.alloc_heap_new _ _
  have hW2 : Below w.heap.size w w2 := by rw [hw2]; exact hW1.alloc hW1.size _
  rw [← hw2]
  clear hw2 HR1 hW1
  go_loopw [8, 14] (fun v i wr => ∃ k : Nat, k ≤ n ∧ i = .int .i64 k ∧ v = .int .i64 (vicTo bs L o k) ∧ Below w2.heap.size w2 wr) (fun _ i _ => n - (intOf i).toNat)
  case atStart => exact ⟨0, Nat.zero_le _, rfl, rfl, Below.refl _ _⟩
  case round =>
    obtain ⟨k, hk, rfl, rfl, hB⟩ := hrel
    have hsr := hB.size
    obtain ⟨hb1, hb2⟩ := vicTo_bounds bs L o k
    obtain ⟨best, hbest⟩ : ∃ best, best = vicTo bs L o k := ⟨_, rfl⟩
    rw [← hbest] at hb1 hb2 ⊢
    have HBE := hide hbest
    clear hbest
    by_cases hlt : k < n
    · have hki : (k : Int) < 12 := by omega
      obtain ⟨x, hx⟩ := getElem?_ex (l := bs) (k := k) (by have := unhide HL; omega)
      have hpu : ∀ t, t < 4 → pu x t = (m.page k t).used := fun t ht => pu_cc m (n := n) hlt ht (by rw [unhide HBS]; exact hx)
      have hxw : x.wear = m.wear k := by
        have e := ccBs_at m (n := n) hlt
        rw [unhide HBS, hx] at e
        cases e
        rfl
      have hblk : ∀ j, j < 17 → wr.cell? ⟨w.heap.size, 1 + k * 17 + j, none⟩ = (bcA (m.wear k) (m.page k))[j]? := fun j hj => by
        rw [hB.cell (p := ⟨w.heap.size, 1 + k * 17 + j, none⟩) (by show w.heap.size < _; omega), cell_of_row _ _ _ _ _ _ (unhide HR2)]
        exact unhide HAB k j (by omega) hj
      have HB := hide hblk
      have HPU := hide hpu
      have HX := hide hx
      have HXW := hide hxw
      clear hblk hpu hx hxw
      by_cases hko : (k : Int) = o
      · have heq : ((k : Int) == o) = true := by simpa using hko
        go_wp2
        go_roundw
        case rel => exact ⟨k + 1, by omega, by go_num, by rw [vicTo_skip (unhide HX) (.inl hko), ← unhide HBE], hB⟩
        case measure => simp [intOf]; omega
      · have heq : ((k : Int) == o) = false := by simpa using hko
        go_wp2_with (refine wpList_load_mid_g rfl 94 _ rfl w.heap.size (1 + k * 17) rfl (bcA (m.wear k) (m.page k)) 17 (bcA_size _ _) (unhide HB) _ Try.underlying94 rfl sizeBC ?_)
        refine (full_any _ _ x (unhide HPU) _).mono ?_
        rintro e w3 ⟨rfl, hB3⟩
        have hs3 := hB3.size
        have hBB : Below w2.heap.size w2 w3 := hB.trans (hB3.mono hB.size)
        clear HB HPU hB3 hB
        generalize bcA (m.wear k) (m.page k) = A2
        cases hfu : fullB x with
        | false =>
          go_wp2
          go_roundw
          case rel => exact ⟨k + 1, by omega, by go_num, by rw [vicTo_skip (unhide HX) (.inr hfu), ← unhide HBE], hBB⟩
          case measure => simp [intOf]; omega
        | true =>
          obtain ⟨V1, hV1⟩ : ∃ V1 : Int, V1 = (validIn L (k : Int) : Int) := ⟨_, rfl⟩
          have hck : w3.cell? ⟨w1.heap.size, k, none⟩ = some (.int .i64 V1) := by
            rw [hBB.cell (p := ⟨w1.heap.size, k, none⟩) hs2, cell_of_row _ _ _ _ _ _ (unhide HC2), hV1]
            exact (unhide HC).2 k (by omega)
          have hwk : w3.cell? ⟨w.heap.size, 1 + k * 17, none⟩ = some (.int .i64 x.wear) := by
            rw [hBB.cell (p := ⟨w.heap.size, 1 + k * 17, none⟩) (by show w.heap.size < _; omega), cell_of_row _ _ _ _ _ _ (unhide HR2), unhide HXW]
            exact (unhide HAB k 0 (by omega) (by omega)).trans ((bcA_get _ _ (i := 0) (by omega)).trans rfl)
          have HVK := hide hV1
          clear hV1
          by_cases hbn : best < 0
          · go_wp2_with fail
            go_quiet (fail)
            go_wp2
            go_roundw
            case rel => exact ⟨k + 1, by omega, by go_num, by rw [vicTo_take (unhide HX) hko hfu (by rw [← unhide HBE]; exact beats_neg hbn)], Below.drewN hBB _⟩
            case measure => simp [intOf]; omega
          · obtain ⟨kb, hkb⟩ : ∃ kb : Nat, best = (kb : Int) := ⟨best.toNat, by omega⟩
            subst hkb
            have hkbi : (kb : Int) < 12 := by omega
            obtain ⟨xb, hxb⟩ := getElem?_ex (l := bs) (k := kb) (by have := unhide HL; omega)
            have hwa := wearAt_of hxb
            have hxbw : xb.wear = m.wear kb := by
              have e := ccBs_at m (n := n) (b := kb) (by omega)
              rw [unhide HBS, hxb] at e
              cases e
              rfl
            obtain ⟨V2, hV2⟩ : ∃ V2 : Int, V2 = (validIn L (kb : Int) : Int) := ⟨_, rfl⟩
            have hcb : w3.cell? ⟨w1.heap.size, kb, none⟩ = some (.int .i64 V2) := by
              rw [hBB.cell (p := ⟨w1.heap.size, kb, none⟩) hs2, cell_of_row _ _ _ _ _ _ (unhide HC2), hV2]
              exact (unhide HC).2 kb (by omega)
            have hwb : w3.cell? ⟨w.heap.size, 1 + kb * 17, none⟩ = some (.int .i64 xb.wear) := by
              rw [hBB.cell (p := ⟨w.heap.size, 1 + kb * 17, none⟩) (by show w.heap.size < _; omega), cell_of_row _ _ _ _ _ _ (unhide HR2), hxbw]
              exact (unhide HAB kb 0 (by omega) (by omega)).trans ((bcA_get _ _ (i := 0) (by omega)).trans rfl)
            have HVB := hide hV2
            have HWA := hide hwa
            clear hV2 hwa hxbw hxb
            by_cases hv1 : V1 < V2
            · go_wp2_with fail
              go_quiet (fail)
              go_wp2
              go_roundw
              case rel => exact ⟨k + 1, by omega, by go_num, by rw [vicTo_take (unhide HX) hko hfu (by rw [← unhide HBE]; exact beats_few (by have := unhide HVK; have := unhide HVB; omega))], Below.drewN hBB _⟩
              case measure => simp [intOf]; omega
            · have hv1' : V2 ≤ V1 := by omega
              by_cases hv2 : V1 = V2
              · have hv2' : (V1 == V2) = true := by simpa using hv2
                have HE := hide hv2
                clear hv2
                by_cases hw : x.wear < xb.wear
                · go_wp2_with fail
                  go_quiet (fail)
                  go_wp2_with fail
                  go_quiet (fail)
                  go_wp2
                  go_roundw
                  case rel => exact ⟨k + 1, by omega, by go_num, by rw [vicTo_take (unhide HX) hko hfu (by rw [← unhide HBE]; exact beats_wear (by have := unhide HVK; have := unhide HVB; have := unhide HE; omega) (unhide HWA) hw)], Below.drewN hBB _⟩
                  case measure => simp [intOf]; omega
                · have hw' : xb.wear ≤ x.wear := by omega
                  go_wp2_with fail
                  go_quiet (fail)
                  go_wp2_with fail
                  go_quiet (fail)
                  go_wp2
                  go_roundw
                  case rel => exact ⟨k + 1, by omega, by go_num, by rw [vicTo_keep (unhide HX) hko hfu (by rw [← unhide HBE]; exact beats_worn (by omega) (by have := unhide HVK; have := unhide HVB; have := unhide HE; omega) (unhide HWA) hw'), ← unhide HBE], Below.drewN hBB _⟩
                  case measure => simp [intOf]; omega
              · have hv2' : (V1 == V2) = false := by simpa using hv2
                go_wp2_with fail
                go_quiet (fail)
                go_wp2_with fail
                go_quiet (fail)
                go_wp2
                go_roundw
                case rel => exact ⟨k + 1, by omega, by go_num, by rw [vicTo_keep (unhide HX) hko hfu (by rw [← unhide HBE]; exact beats_more (by omega) (by have := unhide HVK; have := unhide HVB; omega)), ← unhide HBE], Below.drewN hBB _⟩
                case measure => simp [intOf]; omega
    · obtain rfl : k = n := by omega
      have hW := hW2.trans (hB.mono hW2.size)
      have e : vicOf bs L o = best := by rw [unhide HBE]; unfold vicOf; rw [unhide HL]
      have HEND := hide e
      clear e
      go_wp2
      go_ret
      exact ⟨by rw [unhide HEND]; rfl, hW⟩

set_option maxRecDepth 100000 in
set_option maxHeartbeats 1000000 in
theorem implVictimOf_any (a : Option Addr) (c : Nat) (bs : List Bk) (n : Nat) (hl : bs.length = n) (ma : Option Addr) (mc : Nat) (L : List Int) (mn : Nat) (hL : L.length = mn) (seq o : Int) (w : World) (h : BlocksAt w a bs) (hn : Lens 9223372036854775807 bs) (hI : IntsAt w ma L) (hmn : mn ≤ 9223372036854775807) :
    Calls Try.prog 29 #[.agg #[.slice a n c, .slice ma mn mc, .int .i64 seq, .int .i64 o]] w fun e w' => ∃ r : Int, e = .returned (.int .i64 r) ∧ VictimIs bs L seq o r ∧ Below w.heap.size w w' := by
  have hb0 : ∀ o, Below w.heap.size w (w.alloc o) := fun o => (Below.refl _ w).alloc (Nat.le_refl _) _
  go_enter Try.func29, Try.ntmps29
  go_wp2_with fail
  refine (rightCells_any a c bs n hl ma mc L mn hL seq o _ (h.below (hb0 _) (Nat.le_refl _)) hn (hI.below (hb0 _) (Nat.le_refl _)) hmn).mono ?_
  rintro e w1 ⟨⟨m, r, rfl, hr, hm⟩, hB1⟩
  have hW1 : Below w.heap.size w w1 := (hb0 _).trans (hB1.mono (by simp))
  have hs1 := hB1.size
  simp at hs1
  have hx1 : ∀ o', (w1.alloc o').cell? ⟨w.heap.size, 1, none⟩ = some (.slice ma mn mc) := fun o' => by
    rw [cell_alloc_lt _ _ _ _ (by omega), hB1.cell (p := ⟨w.heap.size, 1, none⟩) (by simp)]
    simp
  have hx3 : ∀ o', (w1.alloc o').cell? ⟨w.heap.size, 3, none⟩ = some (.int .i64 o) := fun o' => by
    rw [cell_alloc_lt _ _ _ _ (by omega), hB1.cell (p := ⟨w.heap.size, 3, none⟩) (by simp)]
    simp
  have hsc := store_cc m w1
  have hAs := ccA_size m
  have hA0 := ccA_count m
  have HSZ := hide (sizeCC m)
  have HAB := hide (fun b i hb hi => ccA_block m (b := b) (i := i) hb hi)
  have HR := hide hr
  have HM := hide hm
  have HI := hide (hI.below hW1 (Nat.le_refl _))
  have HL := hide hl
  have HLL := hide hL
  generalize ccA m = A at hsc hAs hA0 HSZ HAB
  have HA0 := hide hA0
  clear hr hm hA0 h hn hB1 hb0 hI hl hL
  cases r with
  | false =>
    go_wp2
    go_ret
    exact ⟨_, rfl, .inr ⟨(fun hc => by have := (unhide HR).2 hc; cases this), rfl⟩, hW1.alloc hW1.size _⟩
  | true =>
    have hok := (unhide HR).1 (by trivial)
    have hc12 : 4 ≤ n ∧ n ≤ 12 := by have := hok.chip.count; have := unhide HL; omega
    have hm36 : mn ≤ 36 := by have := hok.len36; have := unhide HLL; omega
    have HP : Hid (∀ x ∈ L, x = -1 ∨ (0 ≤ x ∧ x < 48)) := fun x hx => by have h1 := hok.places x hx; have h2 := hok.chip.count; omega
    obtain ⟨hct, hbss⟩ := unhide HM (by trivial)
    have hA0 := unhide HA0
    rw [hct, unhide HL] at hA0
    rw [unhide HL] at hbss
    have HA0' := hide hA0
    have HS := hide hbss
    have HO := hide hok
    have hb1 : ∀ o, Below w1.heap.size w1 (w1.alloc o) := fun o => (Below.refl _ w1).alloc (Nat.le_refl _) _
    clear hok hA0 HA0 HM hct hbss
    go_wp2_with fail
    refine wp_load_row 97 _ rfl w1.heap.size rfl 97 A (0, 0) _ (Go.Deep.blk_alloc_new _ _) Try.underlying97 rfl (unhide HSZ) ?_
    clear hsc
    go_wp2_with fail
    refine (victimBut_any A m bs n (unhide HL) (unhide HS) (unhide HA0') (unhide HAB) hc12.2 ma mc L mn (unhide HLL) hm36 (unhide HP) o _ ((unhide HI).below (hb1 _) (Nat.le_refl _))).mono ?_
    rintro e w3 ⟨rfl, hB3⟩
    have hW3 := (hW1.alloc hW1.size _).trans (hB3.mono (by simp; omega))
    clear hB3 hx1 hx3 hb1
    go_wp2
    go_ret
    exact ⟨_, rfl, .inl ⟨unhide HO, rfl⟩, hW3⟩
end Go.Proofs.Ytalgkmellbamgaa

/- The laws' own marks: each field of each page and block is written with a number of its own, and found there again. -/
namespace Go.Proofs.Ytalgkmellbamgaa
open Go.RowKit
set_option linter.unusedVariables false

/-- The digits of m ahead of s. -/
def mtF : Nat → Nat → ByteArray → ByteArray
  | 0, _, s => s
  | f + 1, m, s => if 0 < m then mtF f (m / 10) (strOfNums [48 + (m : Int) % 10] ++ s) else s
/-- The text of a mark. -/
def mt (k : Nat) : ByteArray := ⟨#[109]⟩ ++ mtF k k ⟨#[]⟩

theorem mtF_zero (f : Nat) (s : ByteArray) : mtF f 0 s = s := by cases f <;> simp [mtF]
theorem mtF_step (f m : Nat) (s : ByteArray) (hm : 0 < m) (hf : m ≤ f) : ∃ g, m / 10 ≤ g ∧ mtF f m s = mtF g (m / 10) (strOfNums [48 + (m : Int) % 10] ++ s) := by
  cases f with
  | zero => omega
  | succ g => exact ⟨g, by omega, by simp [mtF, hm]⟩

theorem conv1 (x : Int) (w : World) : (convert 22 9 (.slice (some ⟨w.heap.size, 0, none⟩) 1 1)).run Try.prog (w.alloc (.cells #[.int .u8 x] 5)) = .ok (.string (strOfNums [x])) (w.alloc (.cells #[.int .u8 x] 5)) :=
  run_convert_bytes_arg _ 22 5 Try.underlying22 Try.underlying5 w.heap.size 0 1 1 [x] rfl (fun i hi => by
    obtain rfl : i = 0 := by omega
    simp) 9 Try.underlying9

set_option maxRecDepth 100000 in
set_option maxHeartbeats 1000000 in
theorem markText_any (k : Int) (w : World) (h0 : 0 < k) (h1 : k ≤ 1125899906842624) :
    Calls Try.prog 102 #[.int .i64 k] w fun e w' => e = .returned (.string (mt k.toNat)) ∧ Below w.heap.size w w' := by
  go_enter Try.func102, Try.ntmps102
  go_wp2
  go_loopw [0, 3] (fun i v wr => ∃ (m f : Nat) (s : ByteArray), i = .int .i64 m ∧ v = .string s ∧ s.size + m ≤ k ∧ m ≤ f ∧ mtF f m s = mtF k.toNat k.toNat ⟨#[]⟩ ∧ Below w.heap.size w wr) (fun i _ _ => (intOf i).toNat)
  case atStart => exact ⟨k.toNat, k.toNat, _, by simp; omega, rfl, by simp [ByteArray.size]; omega, Nat.le_refl _, rfl, Below.refl _ _⟩
  case round =>
    obtain ⟨m, f, s, rfl, rfl, hs, hf, he, hB⟩ := hrel
    have HE := hide he
    clear he
    by_cases hm : 0 < m
    · have hcv := conv1 (48 + (m : Int) % 10) wr
      have hz := strOfNums_size [48 + (m : Int) % 10]
      generalize hx : strOfNums [48 + (m : Int) % 10] = x at hcv hz
      have HX := hide hx
      have hz1 : x.size ≤ 1 := by simp at hz; omega
      clear hz hx
      go_wp2
      obtain ⟨g, hg, hge⟩ := mtF_step f m s hm hf
      rw [unhide HX] at hge
      refine ⟨⟨m / 10, g, x ++ s, by go_num, rfl, by rw [ByteArray.size_append]; omega, hg, by rw [← hge]; exact unhide HE, hB.alloc hB.size _⟩, by simp [intOf]; omega⟩
    · obtain rfl : m = 0 := by omega
      go_wp2
      go_ret
      refine ⟨?_, hB⟩
      have := unhide HE
      rw [mtF_zero] at this
      rw [this]
      rfl

/-- A page that bears the marks from k on. -/
def mkPg (k : Int) : Pg := ⟨k % 3 == 0, k + 1, k + 1 + 1, mt (k + 1 + 1 + 1).toNat⟩
def markPs (k : Int) (n : Nat) : List Pg := (List.range n).map fun (i : Nat) => mkPg (k + 4 * (i : Int))
def markTo (k : Int) (ps : List Pg) (j : Nat) : List Pg := markPs k j ++ ps.drop j

theorem markPs_length (k : Int) (n : Nat) : (markPs k n).length = n := by simp [markPs]
theorem markPs_at (k : Int) {n i : Nat} (hi : i < n) : (markPs k n)[i]? = some (mkPg (k + 4 * (i : Int))) := by simp [markPs, hi]
theorem markTo_length (k : Int) (ps : List Pg) {j : Nat} (hj : j ≤ ps.length) : (markTo k ps j).length = ps.length := by simp [markTo, markPs_length]; omega
theorem markTo_zero (k : Int) (ps : List Pg) : markTo k ps 0 = ps := by simp [markTo, markPs]
theorem markTo_full (k : Int) (ps : List Pg) : markTo k ps ps.length = markPs k ps.length := by simp [markTo]
theorem markTo_step (k : Int) (ps : List Pg) {j : Nat} (hj : j < ps.length) : (markTo k ps j).set j (mkPg (k + 4 * (j : Int))) = markTo k ps (j + 1) := by
  have h1 : markPs k (j + 1) = markPs k j ++ [mkPg (k + 4 * (j : Int))] := by simp [markPs, List.range_succ]
  unfold markTo
  rw [h1, List.set_append_right _ _ (by simp [markPs_length]), markPs_length, Nat.sub_self, List.append_assoc]
  congr 1
  rw [List.drop_eq_getElem_cons hj]
  rfl

set_option maxRecDepth 100000 in
set_option maxHeartbeats 1000000 in
theorem markPageS_any (b c : Nat) (ps : List Pg) (k : Int) (w : World) (h : OwnPages w 28 b ps.length ps) (hn : ps.length ≤ 1048576) (h0 : 0 < k) (h1 : k + 4 * ps.length ≤ 1125899906842624) :
    Calls Try.prog 145 #[.slice (some ⟨b, 0, none⟩) ps.length c, .int .i64 k] w fun e w' => e = .returned (.int .i64 (k + 4 * ps.length)) ∧ OwnPages w' 28 b ps.length (markPs k ps.length) ∧ Touch (· = b) w w' := by
  go_enter Try.func145, Try.ntmps145
  go_wp2
  go_loopw [1, 5] (fun v i wr => ∃ j : Nat, j ≤ ps.length ∧ i = .int .i64 j ∧ v = .int .i64 (k + 4 * (j : Int)) ∧ OwnPages wr 28 b ps.length (markTo k ps j) ∧ Touch (· = b) w wr) (fun _ i _ => ps.length - (intOf i).toNat)
  case atStart => exact ⟨0, Nat.zero_le _, rfl, by simp, by rw [markTo_zero]; exact h, Touch.refl _ _⟩
  case round =>
    obtain ⟨j, hj, rfl, rfl, hO, hT⟩ := hrel
    by_cases hlt : j < ps.length
    · obtain ⟨⟨v0, c0⟩, ⟨v1, c1⟩, ⟨v2, c2⟩, ⟨v3, c3⟩⟩ := hO.cells hlt
      have f0 := World.rowIs.frozen hO
      have hlb := World.rowIs.lt hO
      clear h
      go_wp2_with fail
      refine (markText_any _ _ (by omega) (by omega)).mono ?_
      rintro e w1 ⟨rfl, hc⟩
      have h3 := World.rowIs.set (World.rowIs.set (World.rowIs.set hO (j * 4) (Value.bool ((k + 4 * (j : Int)) % 3 == 0))) (j * 4 + 1) (Value.int .i64 (k + 4 * (j : Int) + 1))) (j * 4 + 2) (Value.int .i64 (k + 4 * (j : Int) + 1 + 1))
      have h4 := h3.of_block (hc.block b (by simpa using hlb))
      have c3' := h4.cell (i := j * 4 + 3) (by omega)
      have f3' := h4.frozen
      have H4 := hide h4
      have HC := hide hc
      clear h3 h4 hc c0 c1 c2 c3 f0
      go_wp2
      go_roundw
      case rel =>
        refine ⟨j + 1, by omega, by go_num, by go_num, ?_, ?_⟩
        · refine ((unhide H4).set (j * 4 + 3) _).congr (fun x _ => ?_)
          rw [← markTo_step k ps hlt]
          exact pgsF_set (p := mkPg (k + 4 * (j : Int))) (by rw [markTo_length k ps hj]; exact hlt) x
        · exact ((((hT.setCell rfl _).setCell rfl _).setCell rfl _).trans (Touch.of_below (unhide HC))).setCell rfl _
      case measure => simp [intOf]; omega
    · have hk' : j = ps.length := by omega
      subst hk'
      rw [markTo_full] at hO
      go_wp2
      go_ret
      exact ⟨rfl, hO, hT⟩

set_option maxRecDepth 100000 in
set_option maxHeartbeats 1000000 in
theorem heldPageS_any (a : Option Addr) (c n : Nat) (k : Int) (w : World) (h : PagesAt w a (markPs k n)) (hn : n ≤ 1048576) (h0 : 0 < k) (h1 : k + 4 * n ≤ 1125899906842624) :
    Calls Try.prog 146 #[.slice a n c, .int .i64 k] w fun e w' => e = .returned (.int .i64 (k + 4 * n)) ∧ Below w.heap.size w w' := by
  go_enter Try.func146, Try.ntmps146
  go_wp2
  go_loopw [1, 5] (fun v i wr => ∃ j : Nat, j ≤ n ∧ i = .int .i64 j ∧ v = .int .i64 (k + 4 * (j : Int)) ∧ Below w.heap.size w wr) (fun _ i _ => n - (intOf i).toNat)
  case atStart => exact ⟨0, Nat.zero_le _, rfl, by simp, Below.refl _ _⟩
  case round =>
    obtain ⟨j, hj, rfl, rfl, hB⟩ := hrel
    by_cases hlt : j < n
    · obtain ⟨b1, o1, rfl, g10, g11, g12, g13⟩ := (h.below hB (Nat.le_refl _)) j _ (markPs_at k hlt)
      have hb1 : b1 < wr.heap.size := World.block_lt_of_cell? _ _ g10
      simp only [mkPg] at g10 g11 g12 g13
      clear h
      go_wp2
      go_region_held3 (fun W => ∀ b o, b < wr.heap.size → W.cell? ⟨b, o, none⟩ = wr.cell? ⟨b, o, none⟩) (first | (intro b o hb; simp; done) | (intro b o hb; rw [hc.cell (p := ⟨b, o, none⟩) hb]; rfl))
        (first | (go_at_call 102; refine (markText_any _ _ (by omega) (by omega)).mono ?_; rintro e w1 ⟨rfl, hc⟩))
      go_wp2
      go_roundw
      case rel => exact ⟨j + 1, by omega, by go_num, by go_num, hB.drew.trans (hc.mono hB.size)⟩
      case measure => simp [intOf]; omega
    · have hk' : j = n := by omega
      subst hk'
      go_wp2
      go_ret
      exact ⟨rfl, hB⟩

/-- The number behind all marks of the blocks. -/
def kAfter (k : Int) : List Bk → Int
  | [] => k
  | b :: r => kAfter (k + 1 + 4 * (b.pages.length : Int)) r
def markBs (k : Int) : List Bk → List Bk
  | [] => []
  | b :: r => ⟨k, markPs (k + 1) b.pages.length⟩ :: markBs (k + 1 + 4 * (b.pages.length : Int)) r

theorem kAfter_snoc (l : List Bk) (b : Bk) : ∀ k, kAfter k (l ++ [b]) = kAfter k l + 1 + 4 * (b.pages.length : Int) := by
  induction l with
  | nil => intro k; rfl
  | cons c l ih => intro k; exact ih _
theorem markBs_snoc (l : List Bk) (b : Bk) : ∀ k, markBs k (l ++ [b]) = markBs k l ++ [⟨kAfter k l, markPs (kAfter k l + 1) b.pages.length⟩] := by
  induction l with
  | nil => intro k; rfl
  | cons c l ih => intro k; show _ :: markBs _ (l ++ [b]) = _; rw [ih]; rfl
theorem markBs_length (l : List Bk) : ∀ k, (markBs k l).length = l.length := by
  induction l with
  | nil => intro k; rfl
  | cons c l ih => intro k; show (markBs _ l).length + 1 = l.length + 1; rw [ih]
theorem kAfter_le (l : List Bk) : ∀ k, k ≤ kAfter k l := by
  induction l with
  | nil => intro k; exact Int.le_refl _
  | cons c l ih => intro k; have := ih (k + 1 + 4 * (c.pages.length : Int)); show k ≤ kAfter _ l; omega
theorem kAfter_append (l m : List Bk) : ∀ k, kAfter k (l ++ m) = kAfter (kAfter k l) m := by
  induction l with
  | nil => intro k; rfl
  | cons c l ih => intro k; exact ih _
theorem take_snoc {l : List Bk} {i : Nat} {b : Bk} (h : l[i]? = some b) : l.take (i + 1) = l.take i ++ [b] := by
  obtain ⟨hi, rfl⟩ := List.getElem?_eq_some_iff.1 h
  rw [List.take_succ_eq_append_getElem hi]
theorem kAfter_take {l : List Bk} {i : Nat} {b : Bk} (h : l[i]? = some b) (k : Int) : kAfter k (l.take i) + 1 + 4 * (b.pages.length : Int) ≤ kAfter k l := by
  have e : l = l.take (i + 1) ++ l.drop (i + 1) := (List.take_append_drop _ _).symm
  have h1 : kAfter k l = kAfter (kAfter k (l.take (i + 1))) (l.drop (i + 1)) := by rw [← kAfter_append, ← e]
  rw [h1, take_snoc h, kAfter_snoc]
  exact kAfter_le _ _

def markBTo (k : Int) (bs : List Bk) (i : Nat) : List Bk := markBs k (bs.take i) ++ bs.drop i
theorem markBTo_zero (k : Int) (bs : List Bk) : markBTo k bs 0 = bs := by simp [markBTo, markBs]
theorem markBTo_full (k : Int) (bs : List Bk) : markBTo k bs bs.length = markBs k bs := by simp [markBTo]
theorem markBTo_at (k : Int) {bs : List Bk} {i : Nat} {b : Bk} (h : bs[i]? = some b) : (markBTo k bs i)[i]? = some b := by
  obtain ⟨hi, rfl⟩ := List.getElem?_eq_some_iff.1 h
  unfold markBTo
  rw [List.getElem?_append_right (by rw [markBs_length]; simp; omega), markBs_length]
  simp [Nat.min_eq_left (Nat.le_of_lt hi), hi]
theorem markBTo_step (k : Int) {bs : List Bk} {i : Nat} {b : Bk} (h : bs[i]? = some b) : (markBTo k bs i).set i ⟨kAfter k (bs.take i), markPs (kAfter k (bs.take i) + 1) b.pages.length⟩ = markBTo k bs (i + 1) := by
  obtain ⟨hi, hb⟩ := List.getElem?_eq_some_iff.1 h
  have hl : (markBs k (bs.take i)).length = i := by rw [markBs_length]; simp; omega
  unfold markBTo
  rw [take_snoc h, markBs_snoc, List.set_append_right _ _ (by omega), hl, Nat.sub_self, List.append_assoc]
  congr 1
  rw [List.drop_eq_getElem_cons hi]
  rfl
theorem markBs_at (k : Int) {bs : List Bk} {i : Nat} {b : Bk} (h : bs[i]? = some b) : (markBs k bs)[i]? = some ⟨kAfter k (bs.take i), markPs (kAfter k (bs.take i) + 1) b.pages.length⟩ := by
  have hi : i < bs.length := (List.getElem?_eq_some_iff.1 h).1
  have e : markBs k bs = markBs k (bs.take (i + 1) ++ bs.drop (i + 1)) := by rw [List.take_append_drop]
  have ap : ∀ (l m : List Bk) k, markBs k (l ++ m) = markBs k l ++ markBs (kAfter k l) m := by
    intro l
    induction l with
    | nil => intro m k; rfl
    | cons c l ih => intro m k; show _ :: markBs _ (l ++ m) = _; rw [ih]; rfl
  rw [e, ap, take_snoc h, markBs_snoc, List.getElem?_append_left (by simp [markBs_length]; omega), List.getElem?_append_right (by rw [markBs_length]; simp; omega), markBs_length]
  simp [Nat.min_eq_left (Nat.le_of_lt hi)]

set_option maxRecDepth 100000 in
set_option maxHeartbeats 1000000 in
theorem markBlockS_any (g : Nat) (H : Nat → Nat) (c : Nat) (bs : List Bk) (k : Int) (w : World) (h : OwnBlocks w 38 28 g H bs.length bs) (hn : Lens 1048576 bs) (h0 : 0 < k) (h1 : kAfter k bs ≤ 1125899906842624) :
    Calls Try.prog 108 #[.slice (some ⟨g, 0, none⟩) bs.length c, .int .i64 k] w fun e w' => e = .returned (.int .i64 (kAfter k bs)) ∧ OwnBlocks w' 38 28 g H bs.length (markBs k bs) ∧ Touch (fun j => j = g ∨ ∃ i, i < bs.length ∧ j = H i) w w' := by
  have hn1 := hn.1
  go_enter Try.func108, Try.ntmps108
  go_wp2
  go_loopw [1, 5] (fun v i wr => ∃ j : Nat, j ≤ bs.length ∧ i = .int .i64 j ∧ v = .int .i64 (kAfter k (bs.take j)) ∧ OwnBlocks wr 38 28 g H bs.length (markBTo k bs j) ∧ Touch (fun j => j = g ∨ ∃ i, i < bs.length ∧ j = H i) w wr) (fun _ i _ => bs.length - (intOf i).toNat)
  case atStart => exact ⟨0, Nat.zero_le _, rfl, rfl, by rw [markBTo_zero]; exact h, Touch.refl _ _⟩
  case round =>
    obtain ⟨j, hj, rfl, rfl, hO, hT⟩ := hrel
    by_cases hlt : j < bs.length
    · obtain ⟨b, hb⟩ := getElem?_ex hlt
      have hbt := markBTo_at k hb
      have c0 := hO.row.cell (i := j * 2 + 0) (by omega)
      have c1 := hO.row.cell (i := j * 2 + 1) (by omega)
      rw [bksF_at H hbt 0 (by omega)] at c0
      rw [bksF_at H hbt 1 (by omega)] at c1
      simp only [bkV, Nat.add_zero] at c0 c1
      have f0 := hO.row.frozen
      have hlb := hO.row.lt
      have hpl := hn.at hb
      have hka := kAfter_take hb k
      have hkb := kAfter_le (bs.take j) k
      have hW := hO.setWear hbt (kAfter k (bs.take j))
      have hset : ((markBTo k bs j).set j ⟨kAfter k (bs.take j), b.pages⟩)[j]? = some ⟨kAfter k (bs.take j), b.pages⟩ := by
        have : j < (markBTo k bs j).length := (List.getElem?_eq_some_iff.1 hbt).1
        simp [this]
      have HS := hide hset
      have HB := hide hb
      have HBT := hide hbt
      generalize hkk : kAfter k (bs.take j) = kk at *
      have HK := hide hkk
      clear h hset hb hbt hkk
      go_wp2_with fail
      refine (markPageS_any _ _ b.pages _ _ (hW.pages j ⟨kk, b.pages⟩ (unhide HS)) hpl (by omega) (by omega)).mono ?_
      rintro e w1 ⟨rfl, hP, hT1⟩
      have h2 := hW.setPages (unhide HS) (ps := markPs (kk + 1) b.pages.length) (markPs_length _ _) hP hT1
      clear hW c0 c1 f0 hP
      have H2 := hide h2
      have HT1 := hide hT1
      clear h2 hT1 hO
      go_wp2
      go_roundw
      case rel =>
        refine ⟨j + 1, by omega, by go_num, ?_, ?_, ?_⟩
        · rw [take_snoc (unhide HB), kAfter_snoc, unhide HK]
        · have h3 := unhide H2
          rw [List.set_set] at h3
          have h4 := markBTo_step k (unhide HB)
          rw [unhide HK] at h4
          rw [← h4]
          exact h3
        · exact (hT.setCell (Or.inl rfl) _).trans ((unhide HT1).mono (fun x hx => Or.inr ⟨j, hlt, hx⟩))
      case measure => simp [intOf]; omega
    · have hk' : j = bs.length := by omega
      subst hk'
      rw [markBTo_full] at hO
      rw [List.take_length]
      go_wp2
      go_ret
      exact ⟨rfl, hO, hT⟩

set_option maxRecDepth 100000 in
set_option maxHeartbeats 1000000 in
theorem heldBlockS_any (a : Option Addr) (c : Nat) (bs : List Bk) (k : Int) (w : World) (h : BlocksAt w a (markBs k bs)) (hn : Lens 1048576 bs) (h0 : 0 < k) (h1 : kAfter k bs ≤ 1125899906842624) :
    Calls Try.prog 109 #[.slice a bs.length c, .int .i64 k] w fun e w' => e = .returned (.int .i64 (kAfter k bs)) ∧ Below w.heap.size w w' := by
  have hn1 := hn.1
  go_enter Try.func109, Try.ntmps109
  go_wp2
  go_loopw [1, 5] (fun v i wr => ∃ j : Nat, j ≤ bs.length ∧ i = .int .i64 j ∧ v = .int .i64 (kAfter k (bs.take j)) ∧ Below w.heap.size w wr) (fun _ i _ => bs.length - (intOf i).toNat)
  case atStart => exact ⟨0, Nat.zero_le _, rfl, rfl, Below.refl _ _⟩
  case round =>
    obtain ⟨j, hj, rfl, rfl, hB⟩ := hrel
    by_cases hlt : j < bs.length
    · obtain ⟨b, hb⟩ := getElem?_ex hlt
      obtain ⟨b1, o1, pa, pc, rfl, g10, g11, q⟩ := (h.below hB (Nat.le_refl _)) j _ (markBs_at k hb)
      have hpl := hn.at hb
      have hka := kAfter_take hb k
      have hkb := kAfter_le (bs.take j) k
      simp only [markPs_length] at g10 g11
      have HB := hide hb
      generalize hkk : kAfter k (bs.take j) = kk at *
      have HK := hide hkk
      clear h hb hkk
      go_wp2_with fail
      refine (heldPageS_any _ _ b.pages.length _ _ q hpl (by omega) (by omega)).mono ?_
      rintro e w1 ⟨rfl, hc⟩
      clear g10 g11 q
      go_wp2
      go_roundw
      case rel =>
        refine ⟨j + 1, by omega, by go_num, ?_, hB.trans (hc.mono hB.size)⟩
        rw [take_snoc (unhide HB), kAfter_snoc, unhide HK]
      case measure => simp [intOf]; omega
    · have hk' : j = bs.length := by omega
      subst hk'
      rw [List.take_length]
      go_wp2
      go_ret
      exact ⟨rfl, hB⟩

theorem markChip_any (g : Nat) (H : Nat → Nat) (c : Nat) (bs : List Bk) (k : Int) (w : World) (h : OwnBlocks w 38 28 g H bs.length bs) (hn : Lens 1048576 bs) (h0 : 0 < k) (h1 : kAfter k bs ≤ 1125899906842624) :
    Calls Try.prog 53 #[.agg #[.slice (some ⟨g, 0, none⟩) bs.length c], .int .i64 k] w fun e w' => e = .returned (.int .i64 (kAfter k bs)) ∧ OwnBlocks w' 38 28 g H bs.length (markBs k bs) ∧ Touch (fun j => j = g ∨ ∃ i, i < bs.length ∧ j = H i) w w' := by
  go_enter Try.func53, Try.ntmps53
  go_wp2_with fail
  have hb0 : ∀ o1, Below w.heap.size w (w.alloc o1) := fun o1 => (Below.refl _ w).alloc (Nat.le_refl _) _
  refine (markBlockS_any g H c bs k _ (h.below (hb0 _) (Nat.le_refl _)) hn h0 h1).mono ?_
  rintro e w1 ⟨rfl, hO, hT⟩
  have HO := hide hO
  have HT := hide hT
  clear h hO hT
  go_wp2
  go_ret
  exact ⟨rfl, unhide HO, (Touch.of_below (hb0 _)).trans (unhide HT)⟩

theorem heldChip_any (a : Option Addr) (c : Nat) (bs : List Bk) (k : Int) (w : World) (h : BlocksAt w a (markBs k bs)) (hn : Lens 1048576 bs) (h0 : 0 < k) (h1 : kAfter k bs ≤ 1125899906842624) :
    Calls Try.prog 54 #[.agg #[.slice a bs.length c], .int .i64 k] w fun e w' => e = .returned (.int .i64 (kAfter k bs)) ∧ Below w.heap.size w w' := by
  have hkb := kAfter_le bs k
  go_enter Try.func54, Try.ntmps54
  go_wp2_with fail
  have hb0 : ∀ o1, Below w.heap.size w (w.alloc o1) := fun o1 => (Below.refl _ w).alloc (Nat.le_refl _) _
  refine (heldBlockS_any a c bs k _ (h.below (hb0 _) (Nat.le_refl _)) hn h0 h1).mono ?_
  rintro e w1 ⟨rfl, hc⟩
  clear h
  go_wp2
  go_ret
  exact ⟨rfl, (hb0 _).trans (hc.mono (by simp))⟩
set_option maxRecDepth 100000 in
theorem markBlockS_nil (k : Int) (w : World) : Calls Try.prog 108 #[.slice none 0 0, .int .i64 k] w fun e w' => e = .returned (.int .i64 k) ∧ w' = w := by
  go_enter Try.func108, Try.ntmps108
  go_wp2
  go_loopw [1, 5] (fun v i wr => i = .int .i64 0 ∧ v = .int .i64 k ∧ wr = w) (fun _ _ _ => 0)
  case atStart => exact ⟨rfl, rfl, rfl⟩
  case round =>
    obtain ⟨rfl, rfl, rfl⟩ := hrel
    go_wp2
    go_ret
    exact ⟨rfl, rfl⟩

theorem markChip_nil (k : Int) (w : World) : Calls Try.prog 53 #[.agg #[.slice none 0 0], .int .i64 k] w fun e w' => e = .returned (.int .i64 k) ∧ Below w.heap.size w w' := by
  go_enter Try.func53, Try.ntmps53
  go_wp2_with fail
  refine (markBlockS_nil k _).mono ?_
  rintro e w1 ⟨rfl, rfl⟩
  go_wp2
  go_ret
  exact ⟨rfl, (Below.refl _ w).alloc (Nat.le_refl _) _⟩
end Go.Proofs.Ytalgkmellbamgaa

/- Ops: the laws' own marks of them. -/
namespace Go.Proofs.Ytalgkmellbamgaa
open Go.RowKit
set_option linter.unusedVariables false
set_option linter.unusedSimpArgs false

def mkOp (k : Int) : Opn := ⟨k, k + 1, ⟨(k + 1 + 1) % 3 == 0, k + 1 + 1 + 1, k + 1 + 1 + 1 + 1, mt (k + 1 + 1 + 1 + 1 + 1).toNat⟩⟩
def markOs (k : Int) (n : Nat) : List Opn := (List.range n).map fun (i : Nat) => mkOp (k + 6 * (i : Int))
def markOTo (k : Int) (xs : List Opn) (j : Nat) : List Opn := markOs k j ++ xs.drop j
theorem markOs_length (k : Int) (n : Nat) : (markOs k n).length = n := by simp [markOs]
theorem markOs_at (k : Int) {n i : Nat} (hi : i < n) : (markOs k n)[i]? = some (mkOp (k + 6 * (i : Int))) := by simp [markOs, hi]
theorem markOTo_zero (k : Int) (xs : List Opn) : markOTo k xs 0 = xs := by simp [markOTo, markOs]
theorem markOTo_full (k : Int) (xs : List Opn) : markOTo k xs xs.length = markOs k xs.length := by simp [markOTo]
theorem markOTo_step (k : Int) (xs : List Opn) {j : Nat} (hj : j < xs.length) : (markOTo k xs (j + 1))[j]? = some (mkOp (k + 6 * (j : Int))) ∧ ∀ i, i ≠ j → (markOTo k xs (j + 1))[i]? = (markOTo k xs j)[i]? := by
  have h1 := markOs_length k (j + 1)
  have h0 := markOs_length k j
  unfold markOTo
  refine ⟨by rw [List.getElem?_append_left (by omega), markOs_at k (by omega)], fun i hi => ?_⟩
  by_cases hlt : i < j
  · rw [List.getElem?_append_left (by omega), List.getElem?_append_left (by omega), markOs_at k (by omega), markOs_at k hlt]
  · rw [List.getElem?_append_right (by omega), List.getElem?_append_right (by omega), h1, h0, List.getElem?_drop, List.getElem?_drop]
    congr 1
    omega

set_option maxRecDepth 100000 in
set_option maxHeartbeats 2000000 in
theorem markCOpS_any (b c : Nat) (xs : List Opn) (n : Nat) (hl : xs.length = n) (k : Int) (w : World) (h : OwnOps w 63 b n xs) (hn : n ≤ 1048576) (h0 : 0 < k) (h1 : k + 6 * n ≤ 1125899906842624) :
    Calls Try.prog 46 #[.slice (some ⟨b, 0, none⟩) n c, .int .i64 k] w fun e w' => e = .returned (.int .i64 (k + 6 * n)) ∧ OwnOps w' 63 b n (markOs k n) ∧ Touch (· = b) w w' := by
  have HL := hide hl
  clear hl
  go_enter Try.func46, Try.ntmps46
  go_wp2
  go_loopw [1, 5] (fun v i wr => ∃ j : Nat, j ≤ n ∧ i = .int .i64 j ∧ v = .int .i64 (k + 6 * (j : Int)) ∧ OwnOps wr 63 b n (markOTo k xs j) ∧ Touch (· = b) w wr) (fun _ i _ => n - (intOf i).toNat)
  case atStart => exact ⟨0, Nat.zero_le _, rfl, by simp, by rw [markOTo_zero]; exact h, Touch.refl _ _⟩
  case round =>
    obtain ⟨j, hj, rfl, rfl, hO, hT⟩ := hrel
    by_cases hlt : j < n
    · obtain ⟨v0, c0⟩ := hO.cells hlt 0 (by omega)
      obtain ⟨v1, c1⟩ := hO.cells hlt 1 (by omega)
      obtain ⟨v2, c2⟩ := hO.cells hlt 2 (by omega)
      obtain ⟨v3, c3⟩ := hO.cells hlt 3 (by omega)
      obtain ⟨v4, c4⟩ := hO.cells hlt 4 (by omega)
      rw [Nat.add_zero] at c0
      have f0 := World.rowIs.frozen hO
      have hlb := World.rowIs.lt hO
      have HO := hide hO
      clear h hO
      go_wp2_with fail
      refine (markText_any _ _ (by omega) (by omega)).mono ?_
      rintro e w1 ⟨rfl, hc⟩
      have h5 := World.rowIs.set (World.rowIs.set (World.rowIs.set (World.rowIs.set (World.rowIs.set (unhide HO) (j * 6) (Value.int .i64 (k + 6 * (j : Int)))) (j * 6 + 1) (Value.int .i64 (k + 6 * (j : Int) + 1))) (j * 6 + 2) (Value.bool ((k + 6 * (j : Int) + 1 + 1) % 3 == 0))) (j * 6 + 3) (Value.int .i64 (k + 6 * (j : Int) + 1 + 1 + 1))) (j * 6 + 4) (Value.int .i64 (k + 6 * (j : Int) + 1 + 1 + 1 + 1))
      have h6 := h5.of_block (hc.block b (by simpa using hlb))
      have c5' := h6.cell (i := j * 6 + 5) (by omega)
      have f5' := h6.frozen
      have H6 := hide h6
      have HC := hide hc
      clear h5 h6 hc c0 c1 c2 c3 c4 f0 HO
      go_wp2
      go_roundw
      case rel =>
        refine ⟨j + 1, by omega, by go_num, by go_num, ?_, ?_⟩
        · refine ((unhide H6).set (j * 6 + 5) _).congr (fun x _ => ?_)
          exact opsF_put (x := mkOp (k + 6 * (j : Int))) _ (markOTo_step k xs (by have := unhide HL; omega)).1 (markOTo_step k xs (by have := unhide HL; omega)).2 x
        · exact ((((((hT.setCell rfl _).setCell rfl _).setCell rfl _).setCell rfl _).setCell rfl _).trans (Touch.of_below (unhide HC))).setCell rfl _
      case measure => simp [intOf]; omega
    · have hk' : j = xs.length := by have := unhide HL; omega
      have hjn : j = n := by omega
      rw [hk', markOTo_full, unhide HL] at hO
      have HO := hide hO
      subst hjn
      clear hO h
      go_wp2
      go_ret
      exact ⟨rfl, unhide HO, hT⟩
end Go.Proofs.Ytalgkmellbamgaa

/- Lists of int64: the laws' own comparison, marks, and whether they are held. -/
namespace Go.Proofs.Ytalgkmellbamgaa
open Go.RowKit
set_option linter.unusedVariables false
set_option linter.unusedSimpArgs false

def marksI (k : Int) (n : Nat) : List Int := (List.range n).map fun (i : Nat) => k + (i : Int)

set_option maxHeartbeats 1000000 in
theorem markInt64S_any (b o c n : Nat) (k : Int) (w : World) (h : IntsMine w b o n) (hn : n ≤ 1048576) (h0 : 0 < k) (h1 : k + n ≤ 1125899906842624) :
    Calls Try.prog 101 #[.slice (some ⟨b, o, none⟩) n c, .int .i64 k] w fun e w' => e = .returned (.int .i64 (k + n)) ∧ IntsAt w' (some ⟨b, o, none⟩) (marksI k n) ∧ Touch (· = b) w w' := by
  go_enter Try.func101, Try.ntmps101
  go_wp2
  go_loopw [1, 5] (fun v i wr => ∃ j : Nat, j ≤ n ∧ i = .int .i64 j ∧ v = .int .i64 (k + (j : Int)) ∧ IntsMine wr b o n ∧ (∀ t, t < j → wr.cell? ⟨b, o + t, none⟩ = some (.int .i64 (k + (t : Int)))) ∧ Touch (· = b) w wr) (fun _ i _ => n - (intOf i).toNat)
  case atStart => exact ⟨0, Nat.zero_le _, rfl, by simp, h, fun t ht => absurd ht (Nat.not_lt_zero _), Touch.refl _ _⟩
  case round =>
    obtain ⟨j, hj, rfl, rfl, hM, hD, hT⟩ := hrel
    by_cases hlt : j < n
    · obtain ⟨⟨x, hx⟩, hf⟩ := hM j hlt
      have HM := hide hM
      have HD := hide hD
      clear h hM hD
      go_wp2
      go_roundw
      case rel =>
        have hc : ∀ t, t ≠ j → (wr.setCell ⟨b, o + j, none⟩ (.int .i64 (k + (j : Int)))).cell? ⟨b, o + t, none⟩ = wr.cell? ⟨b, o + t, none⟩ := fun t ht => World.cell?_setCell_other _ _ _ _ (by simp <;> omega)
        have hs : (wr.setCell ⟨b, o + j, none⟩ (.int .i64 (k + (j : Int)))).cell? ⟨b, o + j, none⟩ = some (.int .i64 (k + (j : Int))) := World.cell?_setCell_same' _ _ _ (by rw [hx]; rfl)
        refine ⟨j + 1, by omega, by go_num, by go_num, fun i hi => ?_, fun t ht => ?_, hT.setCell rfl _⟩
        · obtain ⟨⟨y, hy⟩, hfy⟩ := unhide HM i hi
          refine ⟨?_, by simpa using hfy⟩
          by_cases e : i = j
          · subst e; exact ⟨_, hs⟩
          · exact ⟨y, (hc i e).trans hy⟩
        · by_cases e : t = j
          · subst e; exact hs
          · exact (hc t e).trans (unhide HD t (by omega))
      case measure => simp [intOf]; omega
    · have hk' : j = n := by omega
      subst hk'
      have HD := hide hD
      clear h hM hD
      go_wp2
      go_ret
      refine ⟨rfl, fun i x hx => ⟨b, o, rfl, ?_⟩, hT⟩
      have hi : i < j := by have := (List.getElem?_eq_some_iff.1 hx).1; simpa [marksI] using this
      simp [marksI, hi] at hx
      subst hx
      exact unhide HD i hi
end Go.Proofs.Ytalgkmellbamgaa

/- Lists of int64: the laws' own heldInt64S. -/
namespace Go.Proofs.Ytalgkmellbamgaa
open Go.RowKit
set_option linter.unusedVariables false
set_option linter.unusedSimpArgs false

end Go.Proofs.Ytalgkmellbamgaa

/- What every law asks of the whole program. -/
namespace Go.Proofs.Ytalgkmellbamgaa
open Go.RowKit

theorem own : ownKnob Try.prog.godebug = none := by kernel_rfl
theorem laidOut : laidOutB Try.prog = true := by kernel_rfl

end Go.Proofs.Ytalgkmellbamgaa

/- An argument that is a chip, opened: the plain blocks that it is. No program is named here. -/
namespace Go.Proofs.Ytalgkmellbamgaa
open Go.RowKit Go.ChangeShapes Go.WideShapes Go.Deep
set_option linter.unusedVariables false
set_option linter.unusedSimpArgs false

section
variable {H : Type} {enc : TypeId × Value → H} {P : Program} {w : World} {base : Nat} {spare : Nat → Bool} {held : Bool}

instance : Inhabited Pg := ⟨⟨false, 0, 0, ByteArray.empty⟩⟩
instance : Inhabited Bk := ⟨⟨0, []⟩⟩

/-- One page out of its four cells. -/
theorem open_page {e : TypeId} {f0 f1 f2 f3 : Field} (he : P.underlying e = some (.struct #[f0, f1, f2, f3])) (hone : Go.Deep.oneCellFields P #[f0, f1, f2, f3] = true)
    (u0 : P.underlying f0.type = some .bool) (u1 : P.underlying f1.type = some (.int .i64)) (u2 : P.underlying f2.type = some (.int .i64)) (u3 : P.underlying f3.type = some .string)
    {n : Nat} {cs : List Value} {x : DataW H × List MemPlace} (hcl : cs.length = 4) (h : DataW.trod enc P w base spare held n e cs = some x) :
    ∃ p : Pg, cs = [.bool p.used, .int .i64 p.log, .int .i64 p.seq, .string p.data] ∧ p.data.size ≤ 9223372036854775807 := by
  obtain ⟨xs, k, hk, hxy, _, hxl, hf⟩ := DataW.trod_struct he h
  obtain ⟨o0, c0⟩ := hone_of hone 0 f0 rfl
  obtain ⟨o1, c1⟩ := hone_of hone 1 f1 rfl
  obtain ⟨o2, c2⟩ := hone_of hone 2 f2 rfl
  obtain ⟨o3, c3⟩ := hone_of hone 3 f3 rfl
  match xs, hxl, cs, hcl with
  | [y0, y1, y2, y3], _, [v0, v1, v2, v3], _ =>
    have g0 := hf 0 f0 rfl
    have g1 := hf 1 f1 rfl
    have g2 := hf 2 f2 rfl
    have g3 := hf 3 f3 rfl
    simp [o0, o1, o2, o3, c0, c1, c2, c3] at g0 g1 g2 g3
    obtain ⟨b, hb, _⟩ := DataW.trod_bool u0 g0
    obtain ⟨i1, hi1, _⟩ := DataW.trod_int u1 g1
    obtain ⟨i2, hi2, _⟩ := DataW.trod_int u2 g2
    obtain ⟨s, hs, _, hsz⟩ := DataW.trod_string u3 g3
    cases hb
    cases hi1
    cases hi2
    cases hs
    exact ⟨⟨b, i1, i2, s⟩, rfl, by simpa [maxLen] using hsz⟩

theorem open_pages {t e : TypeId} {f0 f1 f2 f3 : Field} (ht : P.underlying t = some (.slice e)) (he : P.underlying e = some (.struct #[f0, f1, f2, f3])) (ce : P.cellsOf e = 4) (hone : Go.Deep.oneCellFields P #[f0, f1, f2, f3] = true)
    (u0 : P.underlying f0.type = some .bool) (u1 : P.underlying f1.type = some (.int .i64)) (u2 : P.underlying f2.type = some (.int .i64)) (u3 : P.underlying f3.type = some .string)
    {n : Nat} {v : Value} {x : DataW H × List MemPlace} (h : DataW.trod enc P w base spare held n t [v] = some x) :
    ∃ (pa : Option Addr) (pc : Nat) (ps : List Pg), v = .slice pa ps.length pc ∧ PagesAt w pa ps ∧ ps.length ≤ 9223372036854775807 ∧ ∀ p ∈ ps, p.data.size ≤ 9223372036854775807 := by
  rcases open_slice ht h with ⟨h0, _⟩ | ⟨a, len, cap, m, k, D, Pl, hv, hb, hl, hm, hmm, rfl, hx⟩
  · cases h0
    exact ⟨none, 0, [], rfl, fun i p hp => by simp at hp, by simp, fun p hp => by simp at hp⟩
  · cases hv
    have hlm : len ≤ m := by rw [hmm]; split <;> omega
    have hsp : 0 < len → ∃ b o, a = ⟨b, o, none⟩ := fun hp => by
      obtain ⟨cs', h1, h2⟩ := hx 0 (by omega)
      rw [ce] at h1
      obtain ⟨_, hlen, hcell⟩ := World.cells?_some h1
      have e0 := hcell 0 (by omega)
      rw [Go.Deep.add_add] at e0
      obtain ⟨b, o, spot⟩ := a
      obtain ⟨v, hv⟩ := getElem?_ex (l := cs') (k := 0) (by omega)
      have := World.cell?_spot (e0.trans hv)
      have hs : spot = none := by simpa [Addr.add] using this
      subst hs
      exact ⟨b, o, rfl⟩
    have each : ∀ i, i < len → ∃ p : Pg, (∃ b o, a = ⟨b, o, none⟩ ∧ w.cell? ⟨b, o + i * 4, none⟩ = some (.bool p.used) ∧ w.cell? ⟨b, o + i * 4 + 1, none⟩ = some (.int .i64 p.log) ∧
        w.cell? ⟨b, o + i * 4 + 2, none⟩ = some (.int .i64 p.seq) ∧ w.cell? ⟨b, o + i * 4 + 3, none⟩ = some (.string p.data)) ∧ p.data.size ≤ 9223372036854775807 := by
      intro i hi
      obtain ⟨cs', h1, h2⟩ := hx i (by omega)
      rw [ce] at h1
      obtain ⟨_, hlen, hcell⟩ := World.cells?_some h1
      obtain ⟨p, rfl, hp⟩ := open_page he hone u0 u1 u2 u3 hlen h2
      refine ⟨p, ?_, hp⟩
      have e0 := hcell 0 (by omega)
      have e1 := hcell 1 (by omega)
      have e2 := hcell 2 (by omega)
      have e3 := hcell 3 (by omega)
      rw [Go.Deep.add_add] at e0 e1 e2 e3
      obtain ⟨b, o, rfl⟩ := hsp (by omega)
      rw [Go.WideShapes.add_plain] at e0 e1 e2 e3
      exact ⟨b, o, rfl, by simpa using e0, by simpa [Nat.add_assoc] using e1, by simpa [Nat.add_assoc] using e2, by simpa [Nat.add_assoc] using e3⟩
    obtain ⟨q, hq⟩ := choose_lt each
    refine ⟨some a, cap, (List.range len).map q, by simp, fun i p hp => ?_, by simp; simp [maxLen] at hm; omega, fun p hp => ?_⟩
    · have hi : i < len := by have := (List.getElem?_eq_some_iff.1 hp).1; simpa using this
      simp [hi] at hp
      subst hp
      obtain ⟨⟨b, o, rfl, h0, h1, h2, h3⟩, _⟩ := hq i hi
      exact ⟨b, o, rfl, h0, h1, h2, h3⟩
    · obtain ⟨i, hi, rfl⟩ := List.mem_map.1 hp
      exact (hq i (List.mem_range.1 hi)).2

theorem open_blocks {t e tp ep : TypeId} {g0 g1 f0 f1 f2 f3 : Field} (ht : P.underlying t = some (.slice e)) (he : P.underlying e = some (.struct #[g0, g1])) (ce : P.cellsOf e = 2) (honeb : Go.Deep.oneCellFields P #[g0, g1] = true)
    (v0 : P.underlying g0.type = some (.int .i64)) (v1 : P.underlying g1.type = some (.slice ep)) (hep : P.underlying ep = some (.struct #[f0, f1, f2, f3])) (cep : P.cellsOf ep = 4) (hone : Go.Deep.oneCellFields P #[f0, f1, f2, f3] = true)
    (u0 : P.underlying f0.type = some .bool) (u1 : P.underlying f1.type = some (.int .i64)) (u2 : P.underlying f2.type = some (.int .i64)) (u3 : P.underlying f3.type = some .string)
    {n : Nat} {v : Value} {x : DataW H × List MemPlace} (h : DataW.trod enc P w base spare held n t [v] = some x) :
    ∃ (a : Option Addr) (c : Nat) (bs : List Bk), v = .slice a bs.length c ∧ BlocksAt w a bs ∧ Lens 9223372036854775807 bs ∧ Texts bs := by
  obtain ⟨o0, c0⟩ := hone_of honeb 0 g0 rfl
  obtain ⟨o1, c1⟩ := hone_of honeb 1 g1 rfl
  rcases open_slice_pairs ht he ce o0 o1 c0 c1 h with ⟨h0, _⟩ | ⟨a, len, cap, m, k, V0, V1, D0, D1, P0, P1, hv, hb, hl, hm, hmm, rfl, hx⟩
  · cases h0
    exact ⟨none, 0, [], rfl, fun i p hp => by simp at hp, ⟨by simp, fun b hb => by simp at hb⟩, fun b hb => by simp at hb⟩
  · cases hv
    have hlm : len ≤ m := by rw [hmm]; split <;> omega
    have hsp : 0 < len → ∃ b o, a = ⟨b, o, none⟩ := fun hp => by
      obtain ⟨e0, _⟩ := hx 0 (by omega)
      obtain ⟨b, o, spot⟩ := a
      have := World.cell?_spot e0
      have hs : spot = none := by simpa [Addr.add] using this
      subst hs
      exact ⟨b, o, rfl⟩
    have each : ∀ i, i < len → ∃ b : Bk, (∃ g o pa pc, a = ⟨g, o, none⟩ ∧ w.cell? ⟨g, o + i * 2, none⟩ = some (.int .i64 b.wear) ∧ w.cell? ⟨g, o + i * 2 + 1, none⟩ = some (.slice pa b.pages.length pc) ∧ PagesAt w pa b.pages) ∧
        b.pages.length ≤ 9223372036854775807 ∧ ∀ p ∈ b.pages, p.data.size ≤ 9223372036854775807 := by
      intro i hi
      obtain ⟨e0, e1, t0, t1⟩ := hx i (by omega)
      obtain ⟨i0, hi0, _⟩ := DataW.trod_int v0 t0
      obtain ⟨pa, pc, ps, hps, hpa, hpl, hpt⟩ := open_pages v1 hep cep hone u0 u1 u2 u3 t1
      have hi0' : V0 i = .int .i64 i0 := by simpa using hi0
      rw [hi0'] at e0
      rw [hps] at e1
      refine ⟨⟨i0, ps⟩, ?_, hpl, hpt⟩
      obtain ⟨b, o, rfl⟩ := hsp (by omega)
      rw [Go.WideShapes.add_plain] at e0 e1
      exact ⟨b, o, pa, pc, rfl, by simpa using e0, by simpa [Nat.add_assoc] using e1, hpa⟩
    obtain ⟨q, hq⟩ := choose_lt each
    refine ⟨some a, cap, (List.range len).map q, by simp, fun i b hp => ?_, ⟨by simp; simp [maxLen] at hm; omega, fun b hb => ?_⟩, fun b hb => ?_⟩
    · have hi : i < len := by have := (List.getElem?_eq_some_iff.1 hp).1; simpa using this
      simp [hi] at hp
      subst hp
      obtain ⟨⟨g, o, pa, pc, rfl, h0, h1, h2⟩, _⟩ := hq i hi
      exact ⟨g, o, pa, pc, rfl, h0, h1, h2⟩
    · obtain ⟨i, hi, rfl⟩ := List.mem_map.1 hb
      exact (hq i (List.mem_range.1 hi)).2.1
    · obtain ⟨i, hi, rfl⟩ := List.mem_map.1 hb
      exact (hq i (List.mem_range.1 hi)).2.2
end
end Go.Proofs.Ytalgkmellbamgaa

/- An argument of the laws that is a chip, opened. -/
namespace Go.Proofs.Ytalgkmellbamgaa
open Go.RowKit Go.ChangeShapes Go.WideShapes Go.Deep
set_option linter.unusedVariables false
set_option linter.unusedSimpArgs false

set_option maxRecDepth 100000 in
/-- An argument of the type Chip, opened. -/
theorem open_chip {H : Type} {enc : TypeId × Value → H} {w : World} {base b0 : Nat} {spare : Nat → Bool} {held : Bool} {v : Value} {d : DataW H} {p : List MemPlace}
    (hv : Value.okWide Try.prog w .any b0 70 v) (h : DataW.Trod enc Try.prog w base spare held 70 v d p) :
    ∃ (a : Option Addr) (c : Nat) (bs : List Bk), v = .agg #[.slice a bs.length c] ∧ BlocksAt w a bs ∧ Lens 9223372036854775807 bs ∧ Texts bs := by
  obtain ⟨cs, rfl, hsz⟩ := okWide_struct Try.underlying70 hv
  have h1 : cs.size = 1 := hsz.trans (by kernel_rfl)
  obtain ⟨l⟩ := cs
  match l, h1 with
  | [v0], _ =>
    obtain ⟨fuel, hf⟩ := h
    obtain ⟨y0, n, _, _, hy⟩ := trod_struct1 Try.underlying70 hf
    have hc : Try.prog.cellsOf 68 = 1 := by kernel_rfl
    simp [Value.cells, hc] at hy
    obtain ⟨a, c, bs, rfl, hbs, hl, ht⟩ := open_blocks (tp := 182) Try.underlying68 Try.underlying184 (by kernel_rfl) (by kernel_rfl) Try.underlying2 Try.underlying182 Try.underlying145 (by kernel_rfl) (by kernel_rfl)
      Try.underlying4 Try.underlying2 Try.underlying2 Try.underlying9 hy
    exact ⟨a, c, bs, rfl, hbs, hl, ht⟩

end Go.Proofs.Ytalgkmellbamgaa

/- What every law over a chip calls, told for a length by name. -/
namespace Go.Proofs.Ytalgkmellbamgaa
open Go.RowKit
set_option linter.unusedVariables false

theorem eqChip_n {n : Nat} (a1 a2 : Option Addr) (c1 c2 : Nat) (bs : List Bk) (hl : bs.length = n) (w : World) (h1 : BlocksAt w a1 bs) (h2 : BlocksAt w a2 bs) (hn : Lens 1048576 bs) :
    Calls Try.prog 52 #[.agg #[.slice a1 n c1], .agg #[.slice a2 n c2]] w fun e w' => e = .returned (.bool true) ∧ Below w.heap.size w w' := by
  subst hl; exact eqChip_same a1 a2 c1 c2 bs w h1 h2 hn
theorem szChip_n {n : Nat} (a : Option Addr) (c : Nat) (bs : List Bk) (hl : bs.length = n) (w : World) (h : BlocksAt w a bs) (hn : Lens 9223372036854775807 bs) (ht : Texts bs) :
    Calls Try.prog 48 #[.agg #[.slice a n c], .int .i64 1048576] w fun e w' => ∃ n : Int, e = .returned (.int .i64 n) ∧ n ≤ 1048576 ∧ (0 ≤ n → Lens 1048576 bs) ∧ Below w.heap.size w w' := by
  subst hl; exact szChip_any a c bs _ w h hn ht (by omega) (by omega)
theorem toChip_n {n : Nat} (a : Option Addr) (c : Nat) (bs : List Bk) (hl : bs.length = n) (w : World) (h : BlocksAt w a bs) (hn : Lens 1048576 bs) :
    Calls Try.prog 50 #[.agg #[.slice a n c]] w fun e w' => ∃ g, e = .returned (.agg #[.slice (some ⟨g, 0, none⟩) n n]) ∧ BlocksAt w' (some ⟨g, 0, none⟩) bs ∧ Below w.heap.size w w' := by
  subst hl
  refine (toChip_any a c bs w h hn).mono ?_
  rintro e w1 ⟨g, H, rfl, _, hO, hB⟩
  exact ⟨g, rfl, hO.blocksAt (Nat.le_refl _), hB⟩
end Go.Proofs.Ytalgkmellbamgaa

/- For laws whose answer is a list of int64: its form, its marks. -/
namespace Go.Proofs.Ytalgkmellbamgaa
open Go.RowKit
set_option linter.unusedVariables false
set_option linter.unusedSimpArgs false

set_option maxHeartbeats 1000000 in
theorem markInts_any (a : Option Addr) (c n B : Nat) (w : World) (h : MineFrom w a n B) (hB : B ≤ w.heap.size) (hn : n ≤ 1048576) :
    Calls Try.prog 101 #[.slice a n c, .int .i64 1] w fun e w' => e = .returned (.int .i64 (1 + (n : Int))) ∧ IntsAt w' a (marksI 1 n) ∧ Below B w w' := by
  rcases h with ⟨rfl, rfl⟩ | ⟨g, rfl, h1, h2, h3⟩
  · go_enter Try.func101, Try.ntmps101
    go_wp2
    go_loop [1, 5] (fun v i => i = .int .i64 0 ∧ v = .int .i64 1) (fun _ i => 0)
    case atStart => exact ⟨rfl, rfl⟩
    case round =>
      obtain ⟨rfl, rfl⟩ := hrel
      go_wp2
      go_ret
      exact ⟨rfl, fun i x hx => by simp [marksI] at hx, Below.refl _ _⟩
  · refine (markInt64S_any g 0 c n 1 w h3 hn (by omega) (by omega)).mono ?_
    rintro e w' ⟨rfl, hI, hT⟩
    exact ⟨rfl, hI, hT.below hB (fun k hk => by subst hk; exact h1)⟩

theorem markChip_n {n : Nat} (g : Nat) (H : Nat → Nat) (c : Nat) (bs : List Bk) (hl : bs.length = n) (k : Int) (w : World) (h : OwnBlocks w 38 28 g H n bs) (hn : Lens 1048576 bs) (h0 : 0 < k) (h1 : kAfter k bs ≤ 1125899906842624) :
    Calls Try.prog 53 #[.agg #[.slice (some ⟨g, 0, none⟩) n c], .int .i64 k] w fun e w' => e = .returned (.int .i64 (kAfter k bs)) ∧ OwnBlocks w' 38 28 g H n (markBs k bs) ∧ Touch (fun j => j = g ∨ ∃ i, i < n ∧ j = H i) w w' := by
  subst hl; exact markChip_any g H c bs k w h hn h0 h1

theorem kAfter_upto (bs : List Bk) : ∀ k, (∀ b ∈ bs, b.pages.length ≤ 1048576) → k ≤ kAfter k bs ∧ kAfter k bs ≤ k + (bs.length : Int) * 4194305 := by
  induction bs with
  | nil => intro k _; simp [kAfter]
  | cons b bs ih =>
    intro k h
    have h1 := ih (k + 1 + 4 * (b.pages.length : Int)) (fun c hc => h c (by simp [hc]))
    have h2 := h b (by simp)
    have e : kAfter k (b :: bs) = kAfter (k + 1 + 4 * (b.pages.length : Int)) bs := rfl
    rw [e, List.length_cons]
    have e2 : ((bs.length + 1 : Nat) : Int) * 4194305 = (bs.length : Int) * 4194305 + 4194305 := by omega
    rw [e2]
    omega

/-- toChip, with what it owns. -/
theorem toChip_own {n : Nat} (a : Option Addr) (c : Nat) (bs : List Bk) (hl : bs.length = n) (w : World) (h : BlocksAt w a bs) (hn : Lens 1048576 bs) :
    Calls Try.prog 50 #[.agg #[.slice a n c]] w fun e w' => ∃ g H, e = .returned (.agg #[.slice (some ⟨g, 0, none⟩) n n]) ∧ w.heap.size ≤ g ∧ OwnBlocks w' 38 28 g H n bs ∧ Below w.heap.size w w' := by
  subst hl; exact toChip_any a c bs w h hn
end Go.Proofs.Ytalgkmellbamgaa

/- A chip as an answer: what it owns, its marks. -/
namespace Go.Proofs.Ytalgkmellbamgaa
open Go.RowKit
set_option linter.unusedVariables false
set_option linter.unusedSimpArgs false

theorem OwnBlocks.of_blocks {w w' : World} {tB tP : TypeId} {g : Nat} {H : Nat → Nat} {n : Nat} {bs : List Bk} (h : OwnBlocks w tB tP g H n bs) (e : ∀ k, g ≤ k → k < w.heap.size → w'.heap[k]? = w.heap[k]?) : OwnBlocks w' tB tP g H n bs :=
  ⟨h.row.of_block (e g (Nat.le_refl _) h.row.lt), fun i b hb => World.rowIs.of_block (h.pages i b hb) (e _ (Nat.le_of_lt (h.ahead i (List.getElem?_eq_some_iff.1 hb).1)) (World.rowIs.lt (h.pages i b hb))), h.ahead, h.order⟩

/-- An answer that is a chip: its blocks lie from B on and ahead of K, each in a row of its own. -/
def ChipOwn (w : World) (B K : Nat) (a : Option Addr) (n c : Nat) (out : List Bk) : Prop :=
  out.length = n ∧ ((a = none ∧ n = 0 ∧ c = 0) ∨ ∃ g H, a = some ⟨g, 0, none⟩ ∧ B ≤ g ∧ g < K ∧ (∀ i, i < n → g < H i ∧ H i < K) ∧ OwnBlocks w 38 28 g H n out)

theorem ChipOwn.blocksAt {w : World} {B K : Nat} {a : Option Addr} {n c : Nat} {out : List Bk} (h : ChipOwn w B K a n c out) : BlocksAt w a out := by
  obtain ⟨hl, ⟨_, h0, _⟩ | ⟨g, H, rfl, _, _, _, hO⟩⟩ := h
  · intro i b hb
    have := (List.getElem?_eq_some_iff.1 hb).1
    omega
  · exact hO.blocksAt (by omega)

theorem ChipOwn.below {w w' : World} {B K : Nat} {a : Option Addr} {n c : Nat} {out : List Bk} (h : ChipOwn w B K a n c out) (hb : Below w.heap.size w w') : ChipOwn w' B K a n c out := by
  obtain ⟨hl, h0 | ⟨g, H, rfl, h1, h2, h3, hO⟩⟩ := h
  · exact ⟨hl, .inl h0⟩
  · exact ⟨hl, .inr ⟨g, H, rfl, h1, h2, h3, hO.below hb (Nat.le_refl _)⟩⟩

theorem ChipOwn.touch {S : Nat → Prop} {w w' : World} {B K : Nat} {a : Option Addr} {n c : Nat} {out : List Bk} (h : ChipOwn w B K a n c out) (hT : Touch S w w') (hS : ∀ k, S k → k < B) : ChipOwn w' B K a n c out := by
  obtain ⟨hl, h0 | ⟨g, H, rfl, h1, h2, h3, hO⟩⟩ := h
  · exact ⟨hl, .inl h0⟩
  · exact ⟨hl, .inr ⟨g, H, rfl, h1, h2, h3, hO.of_blocks fun k hk hlt => hT.block k hlt (fun hs => by have := hS k hs; omega)⟩⟩

theorem markChip_own {B K : Nat} (a : Option Addr) (n c : Nat) (out : List Bk) (w : World) (h : ChipOwn w B K a n c out) (hn : Lens 1048576 out) (h1 : kAfter 1 out ≤ 1125899906842624) :
    Calls Try.prog 53 #[.agg #[.slice a n c], .int .i64 1] w fun e w' => e = .returned (.int .i64 (kAfter 1 out)) ∧ BlocksAt w' a (markBs 1 out) ∧ Touch (fun k => B ≤ k ∧ k < K) w w' := by
  obtain ⟨hl, ⟨rfl, rfl, rfl⟩ | ⟨g, H, rfl, hB, hK, hH, hO⟩⟩ := h
  · have h0 : out = [] := List.length_eq_zero_iff.1 hl
    subst h0
    refine (markChip_nil 1 w).mono ?_
    rintro e w' ⟨rfl, hB⟩
    exact ⟨rfl, fun i b hb => by simp [markBs] at hb, Touch.of_below hB⟩
  · refine (markChip_n g H c out hl 1 w hO hn (by omega) h1).mono ?_
    rintro e w' ⟨rfl, hO2, hT⟩
    refine ⟨rfl, hO2.blocksAt ?_, hT.mono fun k hk => ?_⟩
    · rw [markBs_length, hl]
      exact Nat.le_refl _
    · rcases hk with rfl | ⟨i, hi, rfl⟩
      · exact ⟨hB, hK⟩
      · have := hH i hi
        exact ⟨by omega, this.2⟩

theorem heldChip_own (a : Option Addr) (n c : Nat) (out : List Bk) (hl : out.length = n) (w : World) (h : BlocksAt w a (markBs 1 out)) (hn : Lens 1048576 out) (h1 : kAfter 1 out ≤ 1125899906842624) :
    Calls Try.prog 54 #[.agg #[.slice a n c], .int .i64 1] w fun e w' => e = .returned (.int .i64 (kAfter 1 out)) ∧ Below w.heap.size w w' := by
  subst hl; exact heldChip_any a c out 1 w h hn (by omega) h1
end Go.Proofs.Ytalgkmellbamgaa

/- Arguments that are lists of numbers or of texts, opened. No program is named here. -/
namespace Go.Proofs.Ytalgkmellbamgaa
open Go.RowKit Go.ChangeShapes Go.WideShapes
set_option linter.unusedVariables false
set_option linter.unusedSimpArgs false

section
variable {H : Type} {enc : TypeId × Value → H} {P : Program} {w : World} {base b0 : Nat} {spare : Nat → Bool} {held : Bool}

theorem open_intsAt {t e : TypeId} {fuel : Nat} {v : Value} {x : DataW H × List MemPlace} (ht : P.underlying t = some (.slice e)) (he : P.underlying e = some (.int .i64)) (hc : P.cellsOf e = 1)
    (h : DataW.trod enc P w base spare held fuel t [v] = some x) :
    ∃ (a : Option Addr) (c : Nat) (L : List Int), v = .slice a L.length c ∧ IntsAt w a L ∧ L.length ≤ 9223372036854775807 ∧ ∀ z ∈ L, (Lit.int .i64 z).wf = true := by
  rcases open_ints ht he hc h with ⟨h0, _⟩ | ⟨a, len, cap, zs, h0, hb, hl, hm, hz, _, hcell, hwf⟩
  · cases h0
    exact ⟨none, 0, [], rfl, fun i x hx => by simp at hx, by simp, fun z hz => by simp at hz⟩
  · cases h0
    have hle : len ≤ zs.length := by rw [hz]; split <;> omega
    refine ⟨some a, cap, zs.take len, by simp [hle], fun i x hx => ?_, by simp; simp [maxLen] at hm; omega, fun z hz => hwf z (List.mem_of_mem_take hz)⟩
    have hi : i < len := by have := (List.getElem?_eq_some_iff.1 hx).1; simp at this; omega
    have h1 := hcell i (by omega)
    obtain ⟨b, o, spot⟩ := a
    have hs : spot = none := by have := World.cell?_spot (hcell 0 (by omega)); simpa [Addr.add] using this
    subst hs
    refine ⟨b, o, rfl, ?_⟩
    rw [add_plain] at h1
    rw [h1]
    simp [List.getElem?_take, hi] at hx
    simp [hx]

/-- The texts T lie, one behind the other, from the address a on. -/
def TextsAt (w : World) (a : Option Addr) (T : List ByteArray) : Prop :=
  ∀ i x, T[i]? = some x → ∃ b o, a = some ⟨b, o, none⟩ ∧ w.cell? ⟨b, o + i, none⟩ = some (.string x)

theorem TextsAt.below {w w' : World} {a : Option Addr} {T : List ByteArray} (h : TextsAt w a T) {B : Nat} (hb : Below B w w') (hB : w.heap.size ≤ B) : TextsAt w' a T := by
  intro i x hx
  obtain ⟨b, o, ha, h0⟩ := h i x hx
  exact ⟨b, o, ha, (hb.cell (p := ⟨b, o + i, none⟩) (Nat.lt_of_lt_of_le (World.block_lt_of_cell? _ _ h0) hB)).trans h0⟩

theorem open_textsAt {t e : TypeId} {fuel : Nat} {v : Value} {x : DataW H × List MemPlace} (ht : P.underlying t = some (.slice e)) (he : P.underlying e = some .string) (hc : P.cellsOf e = 1)
    (h : DataW.trod enc P w base spare held fuel t [v] = some x) :
    ∃ (a : Option Addr) (c : Nat) (T : List ByteArray), v = .slice a T.length c ∧ TextsAt w a T ∧ T.length ≤ 9223372036854775807 ∧ ∀ s ∈ T, s.size ≤ 9223372036854775807 := by
  rcases open_strings ht he hc h with ⟨h0, _⟩ | ⟨a, len, cap, ss, h0, hb, hl, hm, hz, _, hcell, hsz⟩
  · cases h0
    exact ⟨none, 0, [], rfl, fun i x hx => by simp at hx, by simp, fun z hz => by simp at hz⟩
  · cases h0
    have hle : len ≤ ss.length := by rw [hz]; split <;> omega
    refine ⟨some a, cap, ss.take len, by simp [hle], fun i x hx => ?_, by simp; simp [maxLen] at hm; omega, fun z hz => by have := hsz z (List.mem_of_mem_take hz); simpa [maxLen] using this⟩
    have hi : i < len := by have := (List.getElem?_eq_some_iff.1 hx).1; simp at this; omega
    have h1 := hcell i (by omega)
    obtain ⟨b, o, spot⟩ := a
    have hs : spot = none := by have := World.cell?_spot (hcell 0 (by omega)); simpa [Addr.add] using this
    subst hs
    refine ⟨b, o, rfl, ?_⟩
    rw [add_plain] at h1
    rw [h1]
    simp [List.getElem?_take, hi] at hx
    simp [hx]

theorem open_intsArg {t e : TypeId} {v : Value} {d : DataW H} {p : List MemPlace} (ht : P.underlying t = some (.slice e)) (he : P.underlying e = some (.int .i64)) (hc : P.cellsOf e = 1)
    (hv : Value.okWide P w .any b0 t v) (h : DataW.Trod enc P w base spare held t v d p) :
    ∃ (a : Option Addr) (c : Nat) (L : List Int), v = .slice a L.length c ∧ IntsAt w a L ∧ L.length ≤ 9223372036854775807 := by
  obtain ⟨a, len, cap, rfl⟩ := okWide_slice ht hv
  obtain ⟨fuel, hf⟩ := h
  obtain ⟨a', c, L, h1, h2, h3, _⟩ := open_intsAt ht he hc hf
  exact ⟨a', c, L, h1, h2, h3⟩

theorem open_textsArg {t e : TypeId} {v : Value} {d : DataW H} {p : List MemPlace} (ht : P.underlying t = some (.slice e)) (he : P.underlying e = some .string) (hc : P.cellsOf e = 1)
    (hv : Value.okWide P w .any b0 t v) (h : DataW.Trod enc P w base spare held t v d p) :
    ∃ (a : Option Addr) (c : Nat) (T : List ByteArray), v = .slice a T.length c ∧ TextsAt w a T ∧ T.length ≤ 9223372036854775807 ∧ ∀ s ∈ T, s.size ≤ 9223372036854775807 := by
  obtain ⟨a, len, cap, rfl⟩ := okWide_slice ht hv
  obtain ⟨fuel, hf⟩ := h
  exact open_textsAt ht he hc hf
end
end Go.Proofs.Ytalgkmellbamgaa

/- Members: the laws' own copy, comparison and size of them; an argument that is a member, opened. -/
namespace Go.Proofs.Ytalgkmellbamgaa
open Go.RowKit
set_option linter.unusedVariables false
set_option linter.unusedSimpArgs false

theorem toChip_own2 {n : Nat} (a : Option Addr) (c : Nat) (bs : List Bk) (hl : bs.length = n) (w : World) (h : BlocksAt w a bs) (hn : Lens 1048576 bs) :
    Calls Try.prog 50 #[.agg #[.slice a n c]] w fun e w' => ∃ g H, e = .returned (.agg #[.slice (some ⟨g, 0, none⟩) n n]) ∧ w.heap.size ≤ g ∧ OwnBlocks w' 38 28 g H n bs ∧ Below w.heap.size w w' := by
  subst hl; exact toChip_any a c bs w h hn

set_option maxRecDepth 100000 in
set_option maxHeartbeats 1000000 in
theorem toFtl_any (a : Option Addr) (c : Nat) (bs : List Bk) (n : Nat) (hl : bs.length = n) (ma : Option Addr) (mc : Nat) (L : List Int) (mn : Nat) (hL : L.length = mn) (seq o : Int) (w : World) (h : BlocksAt w a bs) (hn : Lens 1048576 bs) (hI : IntsAt w ma L) (hmn : mn ≤ 1048576) :
    Calls Try.prog 42 #[.agg #[.slice a n c, .slice ma mn mc, .int .i64 seq, .int .i64 o]] w fun e w' => ∃ g H m, e = .returned (.agg #[.slice (some ⟨g, 0, none⟩) n n, .slice (some ⟨m, 0, none⟩) mn mn, .int .i64 seq, .int .i64 o]) ∧ w.heap.size ≤ g ∧ g < m ∧ (∀ i, i < n → H i < m) ∧
      OwnBlocks w' 38 28 g H n bs ∧ RowInts w' 2 m mn L ∧ Below w.heap.size w w' := by
  have hb0 : ∀ o1 o2 o3, Below w.heap.size w (((w.alloc o1).alloc o2).alloc o3) := fun o1 o2 o3 => (((Below.refl _ w).alloc (Nat.le_refl _) _).alloc (by simp) _).alloc (by simp; omega) _
  have HL := hide hl
  have HLL := hide hL
  clear hl hL
  go_enter Try.func42, Try.ntmps42
  go_wp2_with fail
  refine (toChip_own2 a c bs (unhide HL) _ (h.below (hb0 _ _ _) (Nat.le_refl _)) hn).mono ?_
  rintro e w1 ⟨g, H, rfl, hg, hO, hB1⟩
  have hs1 := hB1.size
  simp at hs1 hg
  obtain ⟨r0, r1, r2⟩ := heap3 w (.cells #[.slice a n c, .slice ma mn mc, .int .i64 seq, .int .i64 o] 72) (.cells #[.slice none 0 0, .slice none 0 0, .int .i64 0, .int .i64 0] 44) (.cells #[.slice none 0 0, .slice none 0 0, .int .i64 0, .int .i64 0] 44)
  have r0' := (hB1.block _ (by simp; omega)).trans r0
  have r1' := (hB1.block _ (by simp)).trans r1
  have r2' := (hB1.block _ (by simp)).trans r2
  have hm1 := cell_of_row _ _ 1 _ _ _ r0'
  have hz0 := cell_of_row _ _ 0 _ _ _ r2'
  have hzf := frozen_of_row _ _ 0 _ _ r2'
  simp at hm1 hz0
  have hW1 : Below w.heap.size w w1 := (hb0 _ _ _).trans (hB1.mono (by simp; omega))
  have hlt : ∀ i, i < n → H i < w1.heap.size := fun i hi => hO.lt (by rw [unhide HL]; exact hi)
  have hglt : g < w1.heap.size := hO.row.lt
  have HO := hide hO
  have R0 := hide r0'
  have R1 := hide r1'
  have R2 := hide r2'
  have HH := hide h
  have HI := hide hI
  have HLT := hide hlt
  clear h hI hO hB1 hb0 hlt r0 r1 r2 r0' r1' r2'
  go_wp2_with fail
  have hW2 : ∀ v, Below w.heap.size w (w1.setCell ⟨w.heap.size + 1 + 1, 0, none⟩ v) := fun v => hW1.setCell (by show w.heap.size ≤ w.heap.size + 1 + 1; omega) v
  refine (toInt64S_any ma mc L mn (unhide HLL) _ ((unhide HI).below (hW2 _) (Nat.le_refl _)) hmn).mono ?_
  rintro e w3 ⟨rfl, hR, hB3⟩
  have hs3 := hB3.size
  simp at hs3 hR
  have r0 := (hB3.block w.heap.size (by simp; omega)).trans ((Below.heap_setCell _ _ _ _ (by show w.heap.size ≠ w.heap.size + 1 + 1; omega)).trans (unhide R0))
  have r1 := (hB3.block (w.heap.size + 1) (by simp; omega)).trans ((Below.heap_setCell _ _ _ _ (by simp)).trans (unhide R1))
  have r2 := (hB3.block (w.heap.size + 1 + 1) (by simp; omega)).trans (blk_setCell_same 0 (.slice (some ⟨g, 0, none⟩) n n) (unhide R2))
  simp at r2
  have p2 := cell_of_row _ _ 2 _ _ _ r0
  have p3 := cell_of_row _ _ 3 _ _ _ r0
  have q0 := cell_of_row _ _ 0 _ _ _ r1
  have q1 := cell_of_row _ _ 1 _ _ _ r1
  have q2 := cell_of_row _ _ 2 _ _ _ r1
  have q3 := cell_of_row _ _ 3 _ _ _ r1
  have f0 := frozen_of_row _ _ 0 _ _ r1
  have f1 := frozen_of_row _ _ 1 _ _ r1
  have f2 := frozen_of_row _ _ 2 _ _ r1
  have f3 := frozen_of_row _ _ 3 _ _ r1
  have s0 := cell_of_row _ _ 0 _ _ _ r2
  have s1 := cell_of_row _ _ 1 _ _ _ r2
  have s2 := cell_of_row _ _ 2 _ _ _ r2
  have s3 := cell_of_row _ _ 3 _ _ _ r2
  have t1 := frozen_of_row _ _ 1 _ _ r2
  have t2 := frozen_of_row _ _ 2 _ _ r2
  have t3 := frozen_of_row _ _ 3 _ _ r2
  simp at p2 p3 q0 q1 q2 q3 s0 s1 s2 s3
  clear r0 r1 r2 hz0 hzf hm1
  have HO3 : Hid (OwnBlocks w3 38 28 g H n bs) := ((unhide HO).setOther (a := ⟨w.heap.size + 1 + 1, 0, none⟩) (by show w.heap.size + 1 + 1 < g; omega) _).below hB3 (by simp)
  have hW3 : Below w.heap.size w w3 := (hW2 _).trans (hB3.mono (hW2 _).size)
  have HR := hide hR
  clear hR hB3 HO hW2 HI HH R0 R1 R2
  go_wp2
  refine bodyPost_ret (v := .agg #[.slice (some ⟨g, 0, none⟩) n n, .slice (some ⟨w1.heap.size, 0, none⟩) mn mn, .int .i64 seq, .int .i64 o]) (by simp [results, Try.results42, go_sem, q0, q1, q2, q3]) rfl ⟨g, H, w1.heap.size, rfl, by omega, hglt, unhide HLT, ?_, ?_, ?_⟩
  · exact (((((((unhide HO3).setOther (by show w.heap.size + 1 + 1 < g; omega) _).setOther (by show w.heap.size + 1 + 1 < g; omega) _).setOther (by show w.heap.size + 1 + 1 < g; omega) _).setOther (by show w.heap.size + 1 < g; omega) _).setOther (by show w.heap.size + 1 < g; omega) _).setOther (by show w.heap.size + 1 < g; omega) _).setOther (by show w.heap.size + 1 < g; omega) _
  · exact ((((((World.rowIs.setOther (unhide HR) (by show w1.heap.size ≠ w.heap.size + 1 + 1; omega) _).setOther (by show w1.heap.size ≠ w.heap.size + 1 + 1; omega) _).setOther (by show w1.heap.size ≠ w.heap.size + 1 + 1; omega) _).setOther (by show w1.heap.size ≠ w.heap.size + 1; omega) _).setOther (by show w1.heap.size ≠ w.heap.size + 1; omega) _).setOther (by show w1.heap.size ≠ w.heap.size + 1; omega) _).setOther (by show w1.heap.size ≠ w.heap.size + 1; omega) _
  · exact ((((((hW3.setCell (by show w.heap.size ≤ w.heap.size + 1 + 1; omega) _).setCell (by show w.heap.size ≤ w.heap.size + 1 + 1; omega) _).setCell (by show w.heap.size ≤ w.heap.size + 1 + 1; omega) _).setCell (by show w.heap.size ≤ w.heap.size + 1; omega) _).setCell (by show w.heap.size ≤ w.heap.size + 1; omega) _).setCell (by show w.heap.size ≤ w.heap.size + 1; omega) _).setCell (by show w.heap.size ≤ w.heap.size + 1; omega) _

set_option maxRecDepth 100000 in
set_option maxHeartbeats 1000000 in
theorem eqFtl_same (a1 a2 : Option Addr) (c1 c2 : Nat) (bs : List Bk) (n : Nat) (hl : bs.length = n) (m1 m2 : Option Addr) (d1 d2 : Nat) (L : List Int) (mn : Nat) (hL : L.length = mn) (seq o : Int) (w : World) (h1 : BlocksAt w a1 bs) (h2 : BlocksAt w a2 bs) (hn : Lens 1048576 bs) (i1 : IntsAt w m1 L) (i2 : IntsAt w m2 L) (hmn : mn ≤ 1048576) :
    Calls Try.prog 44 #[.agg #[.slice a1 n c1, .slice m1 mn d1, .int .i64 seq, .int .i64 o], .agg #[.slice a2 n c2, .slice m2 mn d2, .int .i64 seq, .int .i64 o]] w fun e w' => e = .returned (.bool true) ∧ Below w.heap.size w w' := by
  have hb0 : ∀ o1 o2, Below w.heap.size w ((w.alloc o1).alloc o2) := fun o1 o2 => ((Below.refl _ w).alloc (Nat.le_refl _) _).alloc (by simp) _
  have hne1 : (seq != seq) = false := by simp
  have hne2 : (o != o) = false := by simp
  go_enter Try.func44, Try.ntmps44
  go_wp2_with fail
  refine (eqChip_n a1 a2 c1 c2 bs hl _ (h1.below (hb0 _ _) (Nat.le_refl _)) (h2.below (hb0 _ _) (Nat.le_refl _)) hn).mono ?_
  rintro e w1 ⟨rfl, hB1⟩
  have hs1 := hB1.size
  simp at hs1
  have hx : ∀ i, w1.cell? ⟨w.heap.size, i, none⟩ = (#[Value.slice a1 n c1, .slice m1 mn d1, .int .i64 seq, .int .i64 o])[i]? := fun i => by
    rw [hB1.cell (p := ⟨w.heap.size, i, none⟩) (by simp; omega), cell_alloc_lt _ _ _ _ (by simp)]
    simp
  have hy : ∀ i, w1.cell? ⟨w.heap.size + 1, i, none⟩ = (#[Value.slice a2 n c2, .slice m2 mn d2, .int .i64 seq, .int .i64 o])[i]? := fun i => by
    rw [hB1.cell (p := ⟨w.heap.size + 1, i, none⟩) (by simp), cell_of_row _ _ i _ _ _ (heap_alloc2_new _ _ _)]
  have hW1 : Below w.heap.size w w1 := (hb0 _ _).trans (hB1.mono (by simp; omega))
  have x1 := hx 1
  have x2 := hx 2
  have x3 := hx 3
  have y1 := hy 1
  have y2 := hy 2
  have y3 := hy 3
  simp at x1 x2 x3 y1 y2 y3
  have I1 := hide (i1.below hW1 (Nat.le_refl _))
  have I2 := hide (i2.below hW1 (Nat.le_refl _))
  have HL := hide hL
  clear h1 h2 i1 i2 hx hy hB1 hb0 hn hl hL
  go_wp2_with fail
  refine (eqInt64S_same m1 m2 d1 d2 L mn (unhide HL) _ (unhide I1) (unhide I2) hmn).mono ?_
  rintro e w2 ⟨rfl, hB2⟩
  have hs2 := hB2.size
  have x2' := (hB2.cell (p := ⟨w.heap.size, 2, none⟩) (by show w.heap.size < _; omega)).trans x2
  have x3' := (hB2.cell (p := ⟨w.heap.size, 3, none⟩) (by show w.heap.size < _; omega)).trans x3
  have y2' := (hB2.cell (p := ⟨w.heap.size + 1, 2, none⟩) (by show w.heap.size + 1 < _; omega)).trans y2
  have y3' := (hB2.cell (p := ⟨w.heap.size + 1, 3, none⟩) (by show w.heap.size + 1 < _; omega)).trans y3
  have hW2 := hW1.trans (hB2.mono hW1.size)
  clear x1 x2 x3 y1 y2 y3 hB2 hW1 I1 I2
  go_wp2
  go_ret
  exact ⟨rfl, hW2⟩

set_option maxHeartbeats 1000000 in
theorem szInt64S_any (a : Option Addr) (c n : Nat) (left : Int) (w : World) (hn : n ≤ 9223372036854775807) (h0 : 0 ≤ left) (h1 : left ≤ 1048576) :
    Calls Try.prog 97 #[.slice a n c, .int .i64 left] w fun e w' => ∃ r : Int, e = .returned (.int .i64 r) ∧ r ≤ 1048576 ∧ (0 ≤ r → n ≤ 1048576) ∧ w' = w := by
  by_cases hneg : left - (n : Int) < 0
  · go_enter Try.func97, Try.ntmps97
    go_wp2
    go_ret
    exact ⟨_, rfl, by omega, by omega, rfl⟩
  · go_enter Try.func97, Try.ntmps97
    go_wp2
    go_ret
    exact ⟨_, rfl, by omega, by omega, rfl⟩

set_option maxRecDepth 100000 in
set_option maxHeartbeats 1000000 in
theorem szFtl_any (a : Option Addr) (c : Nat) (bs : List Bk) (n : Nat) (hl : bs.length = n) (ma : Option Addr) (mc mn : Nat) (seq o : Int) (w : World) (h : BlocksAt w a bs) (hn : Lens 9223372036854775807 bs) (ht : Texts bs) (hmn : mn ≤ 9223372036854775807) :
    Calls Try.prog 41 #[.agg #[.slice a n c, .slice ma mn mc, .int .i64 seq, .int .i64 o], .int .i64 1048576] w fun e w' => ∃ r : Int, e = .returned (.int .i64 r) ∧ r ≤ 1048576 ∧ (0 ≤ r → Lens 1048576 bs ∧ mn ≤ 1048576) ∧ Below w.heap.size w w' := by
  have hb0 : ∀ o1, Below w.heap.size w (w.alloc o1) := fun o1 => (Below.refl _ w).alloc (Nat.le_refl _) _
  go_enter Try.func41, Try.ntmps41
  go_wp2_with fail
  refine (szChip_n a c bs hl _ (h.below (hb0 _) (Nat.le_refl _)) hn ht).mono ?_
  rintro e w1 ⟨r, rfl, hr1, hr2, hB1⟩
  have hs1 := hB1.size
  simp at hs1
  have hx : w1.cell? ⟨w.heap.size, 1, none⟩ = some (.slice ma mn mc) := by
    rw [hB1.cell (p := ⟨w.heap.size, 1, none⟩) (by simp)]
    simp
  have hW1 : Below w.heap.size w w1 := (hb0 _).trans (hB1.mono (by simp))
  have HR := hide hr2
  clear h hr2 hb0 hB1 hn ht hl
  by_cases hneg : r < 0
  · go_wp2
    go_ret
    exact ⟨_, rfl, by omega, by omega, hW1⟩
  · go_wp2_with fail
    refine (szInt64S_any ma mc mn r _ hmn (by omega) hr1).mono ?_
    rintro e w2 ⟨r2, rfl, h21, h22, rfl⟩
    have HR2 := hide h22
    clear h22
    by_cases hneg2 : r2 < 0
    · go_wp2
      go_ret
      exact ⟨_, rfl, by omega, by omega, hW1⟩
    · go_wp2
      go_ret
      exact ⟨_, rfl, by omega, fun _ => ⟨unhide HR (by omega), unhide HR2 (by omega)⟩, hW1⟩

open Go.ChangeShapes Go.WideShapes Go.Deep in
set_option maxRecDepth 100000 in
/-- An argument of the type Ftl, opened. -/
theorem open_ftl {H : Type} {enc : TypeId × Value → H} {w : World} {base b0 : Nat} {spare : Nat → Bool} {held : Bool} {v : Value} {d : DataW H} {p : List MemPlace}
    (hv : Value.okWide Try.prog w .any b0 72 v) (h : DataW.Trod enc Try.prog w base spare held 72 v d p) :
    ∃ (a : Option Addr) (c : Nat) (bs : List Bk) (ma : Option Addr) (mc : Nat) (L : List Int) (seq o : Int), v = .agg #[.slice a bs.length c, .slice ma L.length mc, .int .i64 seq, .int .i64 o] ∧ BlocksAt w a bs ∧ Lens 9223372036854775807 bs ∧ Texts bs ∧ IntsAt w ma L ∧ L.length ≤ 9223372036854775807 := by
  obtain ⟨cs, rfl, hsz⟩ := okWide_struct Try.underlying72 hv
  have h1 : cs.size = 4 := hsz.trans (by kernel_rfl)
  obtain ⟨l⟩ := cs
  match l, h1 with
  | [v0, v1, v2, v3], _ =>
    obtain ⟨fuel, hf⟩ := h
    obtain ⟨xs, k, hk, hxy, _, hxl, hf⟩ := DataW.trod_struct Try.underlying72 hf
    have c0 : Try.prog.cellsOf 70 = 1 := by kernel_rfl
    have c1 : Try.prog.cellsOf 41 = 1 := by kernel_rfl
    have c2 : Try.prog.cellsOf 2 = 1 := by kernel_rfl
    have c3 : Try.prog.cellsOf 68 = 1 := by kernel_rfl
    match xs, hxl with
    | [y0, y1, y2, y3], _ =>
      have g0 := hf 0 _ rfl
      have g1 := hf 1 _ rfl
      have g2 := hf 2 _ rfl
      have g3 := hf 3 _ rfl
      simp [Value.cells, c0, c1, c2] at g0 g1 g2 g3
      obtain ⟨z0, m, _, _, hz⟩ := trod_struct1 Try.underlying70 g0
      simp [c3] at hz
      obtain ⟨a, c, bs, rfl, hbs, hl, ht⟩ := open_blocks (tp := 182) Try.underlying68 Try.underlying184 (by kernel_rfl) (by kernel_rfl) Try.underlying2 Try.underlying182 Try.underlying145 (by kernel_rfl) (by kernel_rfl)
        Try.underlying4 Try.underlying2 Try.underlying2 Try.underlying9 hz
      obtain ⟨ma, mc, L, rfl, hI, hLl, _⟩ := open_intsAt Try.underlying41 Try.underlying2 c2 g1
      obtain ⟨i2, hi2, _⟩ := DataW.trod_int Try.underlying2 g2
      obtain ⟨i3, hi3, _⟩ := DataW.trod_int Try.underlying2 g3
      cases hi2
      cases hi3
      exact ⟨a, c, bs, ma, mc, L, i2, i3, rfl, hbs, hl, ht, hI, hLl⟩
end Go.Proofs.Ytalgkmellbamgaa

/- A member as an answer: what it owns, its marks. -/
namespace Go.Proofs.Ytalgkmellbamgaa
open Go.RowKit
set_option linter.unusedVariables false
set_option linter.unusedSimpArgs false

theorem marksI_length (k : Int) (n : Nat) : (marksI k n).length = n := by simp [marksI]

/-- An answer that is a member: its rows lie from B on and ahead of T: the chip's in [C, K), its map in none of these. -/
def FtlOwn (w : World) (B T : Nat) (a : Option Addr) (n c : Nat) (out : List Bk) (ma : Option Addr) (mn : Nat) (L : List Int) : Prop :=
  L.length = mn ∧ IntsAt w ma L ∧ MineFrom w ma mn B ∧ (∀ g, ma = some ⟨g, 0, none⟩ → g < T) ∧ ∃ C K, B ≤ C ∧ ChipOwn w C K a n c out ∧ K ≤ T ∧ ∀ g, ma = some ⟨g, 0, none⟩ → ¬ (C ≤ g ∧ g < K)
theorem FtlOwn.blocksAt {w : World} {B T : Nat} {a : Option Addr} {n c : Nat} {out : List Bk} {ma : Option Addr} {mn : Nat} {L : List Int} (h : FtlOwn w B T a n c out ma mn L) : BlocksAt w a out := by
  obtain ⟨_, _, _, _, C, K, _, h1, _⟩ := h; exact h1.blocksAt
theorem FtlOwn.length {w : World} {B T : Nat} {a : Option Addr} {n c : Nat} {out : List Bk} {ma : Option Addr} {mn : Nat} {L : List Int} (h : FtlOwn w B T a n c out ma mn L) : out.length = n ∧ L.length = mn := by
  obtain ⟨h0, _, _, _, C, K, _, h1, _⟩ := h; exact ⟨h1.1, h0⟩
theorem FtlOwn.below {w w' : World} {B T : Nat} {a : Option Addr} {n c : Nat} {out : List Bk} {ma : Option Addr} {mn : Nat} {L : List Int} (h : FtlOwn w B T a n c out ma mn L) (hb : Below w.heap.size w w') : FtlOwn w' B T a n c out ma mn L := by
  obtain ⟨h0, h1, h2, h6, C, K, h3, h4, h5⟩ := h
  exact ⟨h0, h1.below hb (Nat.le_refl _), h2.below hb, h6, C, K, h3, h4.below hb, h5⟩
theorem FtlOwn.touch {S : Nat → Prop} {w w' : World} {B T : Nat} {a : Option Addr} {n c : Nat} {out : List Bk} {ma : Option Addr} {mn : Nat} {L : List Int} (h : FtlOwn w B T a n c out ma mn L) (hT : Touch S w w') (hS : ∀ k, S k → k < B) : FtlOwn w' B T a n c out ma mn L := by
  obtain ⟨h0, h1, h2, h6, C, K, h3, h4, h5⟩ := h
  exact ⟨h0, intsAt_touch h1 (by rw [h0]; exact h2) hT hS, h2.touch hT hS, h6, C, K, h3, h4.touch hT (fun k hk => by have := hS k hk; omega), h5⟩

theorem MineFrom.touch' {S : Nat → Prop} {w w' : World} {a : Option Addr} {n B : Nat} (h : MineFrom w a n B) (hT : Touch S w w') (hS : ∀ g, a = some ⟨g, 0, none⟩ → ¬ S g) : MineFrom w' a n B := by
  rcases h with h | ⟨g, ha, h1, h2, h3⟩
  · exact .inl h
  · exact .inr ⟨g, ha, h1, Nat.lt_of_lt_of_le h2 hT.size, h3.of_block (hT.block g h2 (hS g ha))⟩

set_option maxHeartbeats 1000000 in
theorem markIntsK_any (a : Option Addr) (c n B : Nat) (k : Int) (w : World) (h : MineFrom w a n B) (hn : n ≤ 1048576) (h0 : 0 < k) (h1 : k + n ≤ 1125899906842624) :
    Calls Try.prog 101 #[.slice a n c, .int .i64 k] w fun e w' => e = .returned (.int .i64 (k + (n : Int))) ∧ IntsAt w' a (marksI k n) ∧ Touch (fun g => a = some ⟨g, 0, none⟩ ∧ B ≤ g) w w' := by
  rcases h with ⟨rfl, rfl⟩ | ⟨g, rfl, hB, h2, h3⟩
  · go_enter Try.func101, Try.ntmps101
    go_wp2
    go_loop [1, 5] (fun v i => i = .int .i64 0 ∧ v = .int .i64 k) (fun _ i => 0)
    case atStart => exact ⟨rfl, rfl⟩
    case round =>
      obtain ⟨rfl, rfl⟩ := hrel
      go_wp2
      go_ret
      exact ⟨by simp [Act.eval], fun i x hx => by simp [marksI] at hx, Touch.refl _ _⟩
  · refine (markInt64S_any g 0 c n k w h3 hn h0 h1).mono ?_
    rintro e w' ⟨rfl, hI, hT⟩
    exact ⟨rfl, hI, hT.mono (fun j hj => by subst hj; exact ⟨rfl, hB⟩)⟩

/-- What marks a member holds. -/
def FtlMarked (w : World) (a : Option Addr) (out : List Bk) (ma : Option Addr) (mn : Nat) : Prop := BlocksAt w a (markBs 1 out) ∧ IntsAt w ma (marksI (kAfter 1 out) mn)
theorem FtlMarked.below {w w' : World} {a : Option Addr} {out : List Bk} {ma : Option Addr} {mn : Nat} (h : FtlMarked w a out ma mn) (hb : Below w.heap.size w w') : FtlMarked w' a out ma mn :=
  ⟨h.1.below hb (Nat.le_refl _), h.2.below hb (Nat.le_refl _)⟩

theorem ChipOwn.apart {S : Nat → Prop} {w w' : World} {B K : Nat} {a : Option Addr} {n c : Nat} {out : List Bk} (h : ChipOwn w B K a n c out) (hT : Touch S w w') (hS : ∀ k, S k → ¬ (B ≤ k ∧ k < K)) : ChipOwn w' B K a n c out := by
  obtain ⟨hl, h0 | ⟨g, H, rfl, h1, h2, h3, hO⟩⟩ := h
  · exact ⟨hl, .inl h0⟩
  · refine ⟨hl, .inr ⟨g, H, rfl, h1, h2, h3, hO.row.of_block (hT.block g hO.row.lt (fun hs => hS g hs ⟨h1, h2⟩)), fun i b hb => ?_, hO.ahead, hO.order⟩⟩
    have hi : i < n := by have := (List.getElem?_eq_some_iff.1 hb).1; omega
    have := h3 i hi
    exact World.rowIs.of_block (hO.pages i b hb) (hT.block (H i) (World.rowIs.lt (hO.pages i b hb)) (fun hs => hS _ hs ⟨by omega, this.2⟩))
theorem markChip_own2 {B K : Nat} (a : Option Addr) (n c : Nat) (out : List Bk) (w : World) (h : ChipOwn w B K a n c out) (hn : Lens 1048576 out) (h1 : kAfter 1 out ≤ 1125899906842624) :
    Calls Try.prog 53 #[.agg #[.slice a n c], .int .i64 1] w fun e w' => e = .returned (.int .i64 (kAfter 1 out)) ∧ ChipOwn w' B K a n c (markBs 1 out) ∧ Touch (fun k => B ≤ k ∧ k < K) w w' := by
  obtain ⟨hl, ⟨rfl, rfl, rfl⟩ | ⟨g, H, rfl, hB, hK, hH, hO⟩⟩ := h
  · have h0 : out = [] := List.length_eq_zero_iff.1 hl
    subst h0
    refine (markChip_nil 1 w).mono ?_
    rintro e w' ⟨rfl, hB⟩
    exact ⟨rfl, ⟨rfl, .inl ⟨rfl, rfl, rfl⟩⟩, Touch.of_below hB⟩
  · refine (markChip_n g H c out hl 1 w hO hn (by omega) h1).mono ?_
    rintro e w' ⟨rfl, hO2, hT⟩
    refine ⟨rfl, ⟨by rw [markBs_length, hl], .inr ⟨g, H, rfl, hB, hK, hH, hO2⟩⟩, hT.mono fun k hk => ?_⟩
    rcases hk with rfl | ⟨i, hi, rfl⟩
    · exact ⟨hB, hK⟩
    · have := hH i hi
      exact ⟨by omega, this.2⟩

set_option maxRecDepth 100000 in
set_option maxHeartbeats 2000000 in
theorem markFtl_own {B T : Nat} (a : Option Addr) (n c : Nat) (out : List Bk) (ma : Option Addr) (mn mc : Nat) (L : List Int) (seq o : Int) (w : World) (h : FtlOwn w B T a n c out ma mn L) (hTw : T ≤ w.heap.size) (hn : Lens 1048576 out) (hmn : mn ≤ 1048576) (h1 : kAfter 1 out + mn ≤ 1125899906842624) :
    Calls Try.prog 45 #[.agg #[.slice a n c, .slice ma mn mc, .int .i64 seq, .int .i64 o], .int .i64 1] w fun e w' => e = .returned (.int .i64 (kAfter 1 out + (mn : Int))) ∧ FtlMarked w' a out ma mn ∧ Touch (fun k => B ≤ k ∧ k < T) w w' := by
  obtain ⟨hL, hI, hM, hMT, C, K, hBC, hC, hKw, hne⟩ := h
  have hk1 : 1 ≤ kAfter 1 out := kAfter_le out 1
  have hb0 : ∀ o, Below w.heap.size w (w.alloc o) := fun o => (Below.refl _ w).alloc (Nat.le_refl _) _
  have hC0 := fun o => hC.below (hb0 o)
  have HM := hide (fun o => hM.below (hb0 o))
  have HMB : Hid (∀ g, ma = some ⟨g, 0, none⟩ → B ≤ g ∧ g < T) := fun g hg => by
    have h9 := hMT g hg
    rcases hM with ⟨rfl, _⟩ | ⟨g', hg', h1, h2, _⟩
    · cases hg
    · rw [hg] at hg'; cases hg'; exact ⟨h1, h9⟩
  have HNE := hide hne
  have HKA := hide h1
  obtain ⟨q, hq⟩ : ∃ q, q = kAfter 1 out := ⟨_, rfl⟩
  have HQ := hide hq
  clear hI hC hne hM hMT
  go_enter Try.func45, Try.ntmps45
  go_wp2_with fail
  refine (markChip_own2 a n c out _ (hC0 _) hn (by omega)).mono ?_
  rintro e w1 ⟨rfl, hMk, hT⟩
  rw [← hq] at h1 hk1 ⊢
  have hs1 := hT.size
  simp at hs1
  have hx1 : w1.cell? ⟨w.heap.size, 1, none⟩ = some (.slice ma mn mc) := by
    rw [World.cell?_of_block (w := w.alloc _) (a := ⟨w.heap.size, 1, none⟩) (hT.block w.heap.size (by simp) (fun hs => by omega))]
    simp
  have HM1 := hide ((unhide HM _).touch' hT (fun g hg hs => unhide HNE g hg hs))
  have HT := hide hT
  have HMK := hide hMk
  clear hT hMk hC0 HM hq
  go_wp2_with fail
  refine (markIntsK_any ma mc mn B q _ (unhide HM1) hmn (by omega) (by omega)).mono ?_
  rintro e w2 ⟨rfl, hI2, hT2⟩
  have HI2 := hide hI2
  have HC2 := hide ((unhide HMK).apart hT2 (fun k hk hs => unhide HNE k hk.1 hs))
  have hTT : Touch (fun k => B ≤ k ∧ k < T) w w2 := by
    have t0 : Touch (fun k => B ≤ k ∧ k < T) w (w.alloc (.cells #[.slice a n c, .slice ma mn mc, .int .i64 seq, .int .i64 o] 44)) := Touch.of_below (hb0 _)
    exact (t0.trans ((unhide HT).mono (fun k hk => ⟨by omega, by omega⟩))).trans (hT2.mono (fun k hk => unhide HMB k hk.1))
  clear hI2 hT2 hx1
  go_wp2
  go_ret
  refine ⟨by rw [← unhide HQ]; rfl, ⟨(unhide HC2).blocksAt, ?_⟩, hTT⟩
  rw [← unhide HQ]
  exact unhide HI2

end Go.Proofs.Ytalgkmellbamgaa

/- An answer that is a list of ops: its marks; a member that the laws have copied, as one of their own. -/
namespace Go.Proofs.Ytalgkmellbamgaa
open Go.RowKit
set_option linter.unusedVariables false
set_option linter.unusedSimpArgs false

set_option maxRecDepth 100000 in
set_option maxHeartbeats 1000000 in
theorem heldCOpS_any (a : Option Addr) (c n : Nat) (k : Int) (w : World) (h : OpsAt w a (markOs k n)) (hn : n ≤ 1048576) (h0 : 0 < k) (h1 : k + 6 * n ≤ 1125899906842624) :
    Calls Try.prog 47 #[.slice a n c, .int .i64 k] w fun e w' => e = .returned (.int .i64 (k + 6 * n)) ∧ Below w.heap.size w w' := by
  go_enter Try.func47, Try.ntmps47
  go_wp2
  go_loopw [1, 5] (fun v i wr => ∃ j : Nat, j ≤ n ∧ i = .int .i64 j ∧ v = .int .i64 (k + 6 * (j : Int)) ∧ Below w.heap.size w wr) (fun _ i _ => n - (intOf i).toNat)
  case atStart => exact ⟨0, Nat.zero_le _, rfl, by simp, Below.refl _ _⟩
  case round =>
    obtain ⟨j, hj, rfl, rfl, hB⟩ := hrel
    by_cases hlt : j < n
    · obtain ⟨b1, o1, rfl, g10, g11, g12, g13, g14, g15⟩ := (h.below hB (Nat.le_refl _)) j _ (markOs_at k hlt)
      have hb1 : b1 < wr.heap.size := World.block_lt_of_cell? _ _ g10
      simp only [mkOp] at g10 g11 g12 g13 g14 g15
      clear h
      go_wp2
      go_region_held3 (fun W => ∀ b o, b < wr.heap.size → W.cell? ⟨b, o, none⟩ = wr.cell? ⟨b, o, none⟩) (first | (intro b o hb; simp; done) | (intro b o hb; rw [hc.cell (p := ⟨b, o, none⟩) hb]; rfl))
        (first | (go_at_call 102; refine (markText_any _ _ (by omega) (by omega)).mono ?_; rintro e w1 ⟨rfl, hc⟩))
      go_wp2
      go_roundw
      case rel => exact ⟨j + 1, by omega, by go_num, by go_num, hB.drew.trans (hc.mono hB.size)⟩
      case measure => simp [intOf]; omega
    · have hk' : j = n := by omega
      subst hk'
      go_wp2
      go_ret
      exact ⟨rfl, hB⟩

/-- What the program's OpsOf hands back: ops in a row of its own, which lies from B on and ahead of T. -/
def OpsMine (w : World) (B T : Nat) (a : Option Addr) (c : Nat) (xs : List Opn) : Prop := (a = none ∧ xs = []) ∨ ∃ g, a = some ⟨g, 0, none⟩ ∧ B ≤ g ∧ g < T ∧ OwnOps w 63 g xs.length xs
theorem OpsMine.opsAt {w : World} {B T : Nat} {a : Option Addr} {c : Nat} {xs : List Opn} (h : OpsMine w B T a c xs) : OpsAt w a xs := by
  rcases h with ⟨_, rfl⟩ | ⟨g, rfl, _, _, h⟩
  · intro i x hx; simp at hx
  · exact h.opsAt (Nat.le_refl _)
theorem OpsMine.below {w w' : World} {B T : Nat} {a : Option Addr} {c : Nat} {xs : List Opn} (h : OpsMine w B T a c xs) (hb : Below w.heap.size w w') : OpsMine w' B T a c xs := by
  rcases h with h | ⟨g, rfl, h1, h2, h⟩
  · exact .inl h
  · exact .inr ⟨g, rfl, h1, h2, h.below hb (World.rowIs.lt h)⟩
theorem OpsMine.touch {S : Nat → Prop} {w w' : World} {B T : Nat} {a : Option Addr} {c : Nat} {xs : List Opn} (h : OpsMine w B T a c xs) (hT : Touch S w w') (hS : ∀ k, S k → k < B) : OpsMine w' B T a c xs := by
  rcases h with h | ⟨g, rfl, h1, h2, h⟩
  · exact .inl h
  · exact .inr ⟨g, rfl, h1, h2, World.rowIs.of_block h (hT.block g (World.rowIs.lt h) (fun hs => by have := hS g hs; omega))⟩

set_option maxHeartbeats 1000000 in
theorem markMine_any (B T : Nat) (a : Option Addr) (c : Nat) (xs : List Opn) (n : Nat) (hl : xs.length = n) (w : World) (h : OpsMine w B T a c xs) (hn : n ≤ 1048576) :
    Calls Try.prog 46 #[.slice a n c, .int .i64 1] w fun e w' => e = .returned (.int .i64 (1 + 6 * (n : Int))) ∧ OpsAt w' a (markOs 1 n) ∧ Touch (fun k => B ≤ k ∧ k < T) w w' := by
  rcases h with ⟨rfl, rfl⟩ | ⟨g, rfl, h1, h2, h3⟩
  · obtain rfl : n = 0 := by simpa using hl.symm
    go_enter Try.func46, Try.ntmps46
    go_wp2
    go_loop [1, 5] (fun v i => i = .int .i64 0 ∧ v = .int .i64 1) (fun _ i => 0)
    case atStart => exact ⟨rfl, rfl⟩
    case round =>
      obtain ⟨rfl, rfl⟩ := hrel
      go_wp2
      go_ret
      exact ⟨by simp [Act.eval], fun i x hx => by simp [markOs] at hx, Touch.refl _ _⟩
  · subst hl
    refine (markCOpS_any g c xs _ rfl 1 w h3 hn (by omega) (by omega)).mono ?_
    rintro e w' ⟨rfl, hO, hT⟩
    exact ⟨rfl, hO.opsAt (by rw [markOs_length]; exact Nat.le_refl _), hT.mono (fun k hk => by subst hk; exact ⟨h1, h2⟩)⟩

set_option maxRecDepth 100000 in
theorem toFtl_own (a : Option Addr) (c : Nat) (bs : List Bk) (n : Nat) (hl : bs.length = n) (ma : Option Addr) (mc : Nat) (L : List Int) (mn : Nat) (hL : L.length = mn) (seq o : Int) (w : World) (h : BlocksAt w a bs) (hn : Lens 1048576 bs) (hI : IntsAt w ma L) (hmn : mn ≤ 1048576) :
    Calls Try.prog 42 #[.agg #[.slice a n c, .slice ma mn mc, .int .i64 seq, .int .i64 o]] w fun e w' => ∃ g m, e = .returned (.agg #[.slice (some ⟨g, 0, none⟩) n n, .slice (some ⟨m, 0, none⟩) mn mn, .int .i64 seq, .int .i64 o]) ∧ FtlOwn w' w.heap.size w'.heap.size (some ⟨g, 0, none⟩) n n bs (some ⟨m, 0, none⟩) mn L ∧ Below w.heap.size w w' := by
  refine (toFtl_any a c bs n hl ma mc L mn hL seq o w h hn hI hmn).mono ?_
  rintro e w' ⟨g, H, m, rfl, hg, hgm, hH, hO, hR, hB⟩
  have hml := World.rowIs.lt hR
  refine ⟨g, m, rfl, ⟨hL, RowInts.intsAt hR (by omega), .inr ⟨m, rfl, by omega, hml, fun i hi => ⟨?_, World.rowIs.frozen hR _⟩⟩, fun k hk => by cases hk; exact hml, w.heap.size, m, Nat.le_refl _, ⟨hl, .inr ⟨g, H, rfl, hg, hgm, fun i hi => ⟨hO.ahead i (by omega), hH i hi⟩, hO⟩⟩, by omega, fun k hk => by cases hk; omega⟩, hB⟩
  have := World.rowIs.cell hR (i := i) hi
  exact ⟨_, by rw [Nat.zero_add, this]; rfl⟩
end Go.Proofs.Ytalgkmellbamgaa

/- The ops of a write: the program's writeOps and OpsOf. -/
namespace Go.Proofs.Ytalgkmellbamgaa
open Go.RowKit
set_option linter.unusedVariables false
set_option linter.unusedSimpArgs false

set_option maxRecDepth 100000 in
set_option maxHeartbeats 4000000 in
theorem writeOps_any (A : Array Value) (m : CC) (bs : List Bk) (n : Nat) (hC : CellsIs A m bs n) (hAp : ∀ b i, b < 12 → i < 16 → A[1 + b * 17 + 1 + i]? = (paA (m.page b))[i]?) (va : Value) (ma : Option Addr) (mc : Nat) (L : List Int) (mn : Nat) (hL : L.length = mn) (seq o lg : Int) (data : ByteArray) (hok : FtlOk bs L seq o) (w : World) (hI : IntsAt w ma L) :
    Calls Try.prog 87 #[.agg A, .agg #[va, .slice ma mn mc, .int .i64 seq, .int .i64 o], .int .i64 lg, .string data] w fun e w' => ∃ r, e = .returned r ∧ OwnsCo w' (w.heap.size + 1) r (writeOps bs L seq o lg data) ∧ Below w.heap.size w w' := by
  have hn := hC.most
  have hlen := hC.len
  have hc := hok.chip.count
  have hsq := hok.seq
  have htp := hok.chip.top
  have hop := hok.opn
  have hm36 : mn ≤ 36 := by have := hok.len36; omega
  obtain ⟨i0, hi, hz0, hz1, hz2⟩ := info_parts infoChipOp
  obtain ⟨ob, hob⟩ := Int.eq_ofNat_of_zero_le hop.1
  subst hob
  obtain ⟨x, hx⟩ := getElem?_ex (l := bs) (k := ob) (by omega)
  have hx' : bs[((ob : Int)).toNat]? = some x := by simpa using hx
  have HFA := hide (fullAt_of hx')
  obtain ⟨fi, fx, hfr, hfx, hff, hfl, hle⟩ := hok.fresh
  have hfa := fresh_alone (bs := bs) hok.settled.some
  rw [hfr] at hfa
  have HALONE := hide hfa
  have HNE := hide hok.settled.some
  have HVI := hide (fun hf => hok.victim hx' hf)
  have HPL : Hid (∀ y ∈ L, y = -1 ∨ (0 ≤ y ∧ y < 48)) := fun y hy => by have h1 := hok.places y hy; omega
  have HOK := hide hok
  have HC := hide hC
  have HAP := hide hAp
  have HI := hide hI
  have HL := hide hL
  have HLEN := hide hlen
  have HLE := hide hle
  have HFR := hide hfr
  have hoi : (ob : Int) < 12 := by omega
  have hob : ob < 12 := by omega
  have hs0 : 0 ≤ seq := by omega
  have hs9 : seq ≤ 1000000000 := hsq.2
  have HPU := hide (hC.pu hx)
  have HFN : Hid (fi < bs.length) := hfl
  clear hok hC hAp hI hx hx' hfx hff hfl hL hlen hle hfr hfa hsq htp hop hc
  go_enter Try.func87, Try.ntmps87
  obtain ⟨w0, hw0⟩ : ∃ w0, w0 = (w.alloc (.cells A 97)).alloc (.cells #[va, .slice ma mn mc, .int .i64 seq, .int .i64 (ob : Int)] 44) := ⟨_, rfl⟩
  have hsz0 : w0.heap.size = w.heap.size + 1 + 1 := by rw [hw0]; simp
  have hB0 : Below w.heap.size w w0 := by rw [hw0]; exact ((Below.refl _ w).alloc (Nat.le_refl _) _).alloc (by simp) _
  have HR0 : Hid (w0.heap[w.heap.size]? = some (.cells A 97 (0, 0))) := by rw [hw0]; exact (Below.heap_alloc _ _ _ (by simp)).trans (World.alloc_heap_new _ _)
  have hx0 : ∀ i, w0.cell? ⟨w.heap.size + 1, i, none⟩ = (#[va, .slice ma mn mc, .int .i64 seq, .int .i64 (ob : Int)])[i]? := fun i => by
    rw [hw0]
    have := cell_of_row ((w.alloc (.cells A 97)).alloc (.cells #[va, .slice ma mn mc, .int .i64 seq, .int .i64 (ob : Int)] 44)) (w.heap.size + 1) i _ _ _ (heap_alloc2_new _ _ _)
    exact this
  have c1 := hx0 1
  have c2 := hx0 2
  have c3 := hx0 3
  simp at c1 c2 c3
  have HS0 := hide hsz0
  have hsl : w.heap.size + 1 < w0.heap.size := by omega
  clear hx0 hsz0
  go_upto_region 2 with fail
  rw [← hw0]
  clear hw0
  go_quiet (fail)
  have hB1 : Below w0.heap.size w0 (w0.drewN nq) := Below.drewN (Below.refl _ _) nq
  obtain ⟨w1, hw1⟩ : ∃ w1, w1 = w0.drewN nq := ⟨_, rfl⟩
  rw [← hw1] at hB1 ⊢
  clear hw1
  have hs1 := hB1.size
  have hB01 := hB0.trans (hB1.mono hB0.size)
  have HR1 := hide ((hB1.block w.heap.size (by omega)).trans (unhide HR0))
  have d1 := (hB1.cell (p := ⟨w.heap.size + 1, 1, none⟩) hsl).trans c1
  have HB : Hid (∀ j, j < 17 → w1.cell? ⟨w.heap.size, 1 + ob * 17 + j, none⟩ = (bcA (m.wear ob) (m.page ob))[j]?) := fun j hj => (cell_of_row _ _ _ _ _ _ (unhide HR1)).trans ((unhide HC).cells ob j hob hj)
  have HSZ : Hid ((Try.prog.info? 97).map (·.size) = some A.size) := by rw [(unhide HC).size]; exact sizeCC'
  clear hB1 hB0 HR0 c1 c2 c3
  go_wp2_with (refine wpList_load_mid rfl 94 _ rfl w.heap.size (1 + ob * 17) rfl (bcA (m.wear ob) (m.page ob)) 17 (bcA_size _ _) (unhide HB) _ Try.underlying94 rfl sizeBC ?_)
  refine (full_any _ _ x (unhide HPU) _).mono ?_
  rintro e w2 ⟨rfl, hB2⟩
  have hs2 := hB2.size
  have hB02 := hB01.trans (hB2.mono hB01.size)
  have HR2 := hide ((hB2.block w.heap.size (by omega)).trans (unhide HR1))
  have c1 := (hB2.cell (p := ⟨w.heap.size + 1, 1, none⟩) (by show w.heap.size + 1 < _; omega)).trans d1
  clear HB hB2 hB01 HR1 d1 HPU
  generalize bcA (m.wear ob) (m.page ob) = A2
  cases hfu : fullB x with
  | false =>
    rw [hfu] at HFA
    have hRw : w2.ownsRow (w.heap.size + 1) 131 1 (.slice none 0 0) 0 [] := World.ownsRow_nil _ _ _ _
    clear c1
    go_wp2_with (refine wpList_append_lies _ rfl (.tmp 48) (.tmp 56) 125 rfl (w.heap.size + 1) 131 i0 _ 1 16 Try.underlying125 hi hz0 hz1 hz2 rfl (by decide) (.slice none 0 0) 0 [] (by simp [Act.eval]) (by exact hRw.alloc _) ⟨w2.heap.size, 0, none⟩ 1 1 [progV (ob : Int) ⟨true, lg, seq, data⟩] (by simp [Act.eval]) rfl (World.news_of_block (cs := #[progV (ob : Int) ⟨true, lg, seq, data⟩]) (t := 131) (fr := (0, 0)) (by exact Go.Deep.blk_alloc_new _ _)) (by simp [Value.oneCell', progV]) (by omega) (by unfold maxLen; omega) (by omega) (by simp; omega) (w2.heap.size + 1) (by simp) ?_; intro g1 cap wE hown hgrow hat hlt1)
    go_ret
    refine ⟨_, rfl, ?_, ?_⟩
    · rw [writeOps_half (unhide HFA)]
      unfold OwnsCo
      simpa [coV] using hown
    · have hBE : Below (w.heap.size + 1) w2 wE := Below.grown ((Below.refl _ w2).alloc (by omega) _) hgrow (by simp; omega) (fun j e => (hRw.lt j e).1)
      exact hB02.trans (hBE.mono (by omega))
  | true =>
    rw [hfu] at HFA
    go_wp2_with (refine wpList_load_row rfl 97 _ rfl w.heap.size rfl 97 A (0, 0) _ (unhide HR2) Try.underlying97 rfl (unhide HSZ) ?_)
    refine (freeBlocks_any A m n (unhide HC).count (unhide HC).cells hn _).mono ?_
    rintro e w3 ⟨fv, rfl, hv, hB3⟩
    rw [(unhide HC).blocks] at hv
    obtain ⟨fa, fc, rfl, hFI, _⟩ := hv.form
    have hs3 := hB3.size
    have hB03 := hB02.trans (hB3.mono hB02.size)
    have HR3 := hide ((hB3.block w.heap.size (by omega)).trans (unhide HR2))
    have d1 := (hB3.cell (p := ⟨w.heap.size + 1, 1, none⟩) (by show w.heap.size + 1 < _; omega)).trans c1
    have hq12 := freeTo_length bs n
    have HF : Hid (∀ y ∈ freeTo bs n, 0 ≤ y ∧ y < (n : Int)) := fun y hy => by obtain ⟨i, hi, rfl, _⟩ := mem_freeTo hy; omega
    obtain ⟨F, hF⟩ : ∃ F, F = freeTo bs n := ⟨_, rfl⟩
    rw [← hF] at hFI hq12 HF ⊢
    have hFb : F = freeTo bs bs.length := by rw [hF, unhide HLEN]
    have hq0 : 0 < F.length := by
      have := unhide HNE
      rw [← hFb] at this
      exact List.length_pos_iff.2 this
    have HQ1 : Hid (freshOf bs (fi : Int) < 0 ↔ F.length = 1) := by rw [hFb]; exact unhide HALONE
    have HLE1 : Hid (leastIn bs F = (fi : Int)) := by rw [hFb]; exact unhide HLE
    obtain ⟨q, hq⟩ : ∃ q, q = F.length := ⟨_, rfl⟩
    rw [← hq] at hq12 hq0 HQ1 ⊢
    have HQ := hide hq.symm
    have HFI := hide hFI
    clear hv hB3 hF hFI hq HR2 c1 hFb HALONE HLE HNE
    go_wp2_with (refine wpList_load_row rfl 97 _ rfl w.heap.size rfl 97 A (0, 0) _ (unhide HR3) Try.underlying97 rfl (unhide HSZ) ?_)
    refine (leastWorn_any A m bs n (unhide HC) fa fc F q (unhide HQ) (by omega) hq0 (unhide HF) _ (unhide HFI)).mono ?_
    rintro e w4 ⟨rfl, hB4⟩
    rw [unhide HLE1]
    have hs4 := hB4.size
    have hB04 := hB03.trans (hB4.mono hB03.size)
    have HR4 := hide ((hB4.block w.heap.size (by omega)).trans (unhide HR3))
    have c1 := (hB4.cell (p := ⟨w.heap.size + 1, 1, none⟩) (by show w.heap.size + 1 < _; omega)).trans d1
    clear hB4 HR3 d1 HFI HLE1
    by_cases hal : q = 1
    · have heq : ((q : Int) == 1) = true := by simp; omega
      obtain ⟨hv0, hvn⟩ := unhide HVI hfu
      rw [unhide HFR] at hv0 hvn
      obtain ⟨v, hv⟩ := Int.eq_ofNat_of_zero_le hv0
      have HV := hide hv
      have hvn' : v < n := by have := unhide HLEN; omega
      have HAL := hide hal
      clear hv0 hvn hv hal
      go_wp2_with (refine wpList_load_row rfl 97 _ rfl w.heap.size rfl 97 A (0, 0) _ (unhide HR4) Try.underlying97 rfl (unhide HSZ) ?_)
      refine (victimBut_any A m bs n (unhide HLEN) (unhide HC).blocks (unhide HC).count (unhide HC).cells hn ma mc L mn (unhide HL) hm36 (unhide HPL) (fi : Int) _ ((unhide HI).below hB04 (Nat.le_refl _))).mono ?_
      rintro e w5 ⟨rfl, hB5⟩
      rw [unhide HV]
      have hs5 := hB5.size
      have hB05 := hB04.trans (hB5.mono hB04.size)
      have HR5 := hide ((hB5.block w.heap.size (by omega)).trans (unhide HR4))
      have d1 := (hB5.cell (p := ⟨w.heap.size + 1, 1, none⟩) (by show w.heap.size + 1 < _; omega)).trans c1
      clear hB5 HR4 c1
      go_wp2_with (refine wpList_load_row rfl 97 _ rfl w.heap.size rfl 97 A (0, 0) _ (unhide HR5) Try.underlying97 rfl (unhide HSZ) ?_)
      refine (emptying_any A m bs n (unhide HC) (unhide HAP) ma mc L mn (unhide HL) seq (ob : Int) (unhide HOK) v hvn' (fi : Int) _ ((unhide HI).below hB05 (Nat.le_refl _))).mono ?_
      rintro e w6 ⟨r, rfl, hr, hB6⟩
      have hs6 := hB6.size
      have hB06 := hB05.trans (hB6.mono hB05.size)
      have HQ' := hide (hr.lower (show w.heap.size + 1 ≤ w5.heap.size + 1 by omega))
      obtain ⟨qa, qc, rfl, _⟩ := hr.form (goodOps_move _ _ _ _ _)
      have hml := moveOps_length bs L (v : Int) (fi : Int) seq
      have hm4 := movedTo_length bs L (v : Int) (fi : Int) seq 4
      obtain ⟨M, hM⟩ : ∃ M, M = (moveOps bs L (v : Int) (fi : Int) seq).length := ⟨_, rfl⟩
      obtain ⟨X, hX⟩ : ∃ X, X = (moveOps bs L (v : Int) (fi : Int) seq).map coV := ⟨_, rfl⟩
      obtain ⟨N4, hN4⟩ : ∃ N4, N4 = (movedTo bs L (v : Int) (fi : Int) seq 4).length := ⟨_, rfl⟩
      rw [← hM] at hml ⊢
      rw [← hN4] at hml hm4
      have hRw : w6.ownsRow (w.heap.size + 1) 131 1 (.slice qa M qc) M X := by rw [hX, hM]; exact unhide HQ'
      have HX2 := hide (And.intro hX (And.intro hM hN4))
      have hM5 : M ≤ 5 := by omega
      have HML := hide hml
      clear hX hM hN4 HQ' hml hr hB6 d1 HR5
      go_wp2_with (refine wpList_append_lies _ rfl (.tmp 48) (.tmp 56) 125 rfl (w.heap.size + 1) 131 i0 _ 1 16 Try.underlying125 hi hz0 hz1 hz2 rfl (by decide) (.slice qa M qc) M X (by simp [Act.eval]) (by exact hRw.alloc _) ⟨w6.heap.size, 0, none⟩ 1 1 [progV (fi : Int) ⟨true, lg, seq + ((M : Int) - 1), data⟩] (by simp [Act.eval]) rfl (World.news_of_block (cs := #[progV (fi : Int) ⟨true, lg, seq + ((M : Int) - 1), data⟩]) (t := 131) (fr := (0, 0)) (by exact Go.Deep.blk_alloc_new _ _)) (by simp [Value.oneCell', progV]) (by omega) (by unfold maxLen; omega) (by omega) (by simp; omega) (w6.heap.size + 1) (by simp) ?_; intro g1 cap wE hown hgrow hat hlt1)
      go_ret
      refine ⟨_, rfl, ?_, ?_⟩
      · obtain ⟨e1, e2, e3⟩ := unhide HX2
        rw [writeOps_move (unhide HFA) (by rw [unhide HFR]; exact (unhide HQ1).2 (unhide HAL)), unhide HFR, unhide HV]
        unfold OwnsCo
        rw [List.length_append, List.map_append, ← e1, ← e2, ← e3]
        have e9 : seq + ((M : Int) - 1) = seq + (N4 : Int) := by have := unhide HML; omega
        rw [e9] at hown
        simpa [coV] using hown
      · have hBE : Below (w.heap.size + 1) w6 wE := Below.grown ((Below.refl _ w6).alloc (by omega) _) hgrow (by simp; omega) (fun j e => (hRw.lt j e).1)
        exact hB06.trans (hBE.mono (by omega))
    · have heq : ((q : Int) == 1) = false := by simp; omega
      have hRw : w4.ownsRow (w.heap.size + 1) 131 1 (.slice none 0 0) 0 [] := World.ownsRow_nil _ _ _ _
      have HAL := hide hal
      clear c1 hal
      go_wp2_with (refine wpList_append_lies _ rfl (.tmp 48) (.tmp 56) 125 rfl (w.heap.size + 1) 131 i0 _ 1 16 Try.underlying125 hi hz0 hz1 hz2 rfl (by decide) (.slice none 0 0) 0 [] (by simp [Act.eval]) (by exact hRw.alloc _) ⟨w4.heap.size, 0, none⟩ 1 1 [progV (fi : Int) ⟨true, lg, seq, data⟩] (by simp [Act.eval]) rfl (World.news_of_block (cs := #[progV (fi : Int) ⟨true, lg, seq, data⟩]) (t := 131) (fr := (0, 0)) (by exact Go.Deep.blk_alloc_new _ _)) (by simp [Value.oneCell', progV]) (by omega) (by unfold maxLen; omega) (by omega) (by simp; omega) (w4.heap.size + 1) (by simp) ?_; intro g1 cap wE hown hgrow hat hlt1)
      go_ret
      refine ⟨_, rfl, ?_, ?_⟩
      · rw [writeOps_next (unhide HFA) (by rw [unhide HFR]; exact fun h => unhide HAL ((unhide HQ1).1 h)), unhide HFR]
        unfold OwnsCo
        simpa [coV] using hown
      · have hBE : Below (w.heap.size + 1) w4 wE := Below.grown ((Below.refl _ w4).alloc (by omega) _) hgrow (by simp; omega) (fun j e => (hRw.lt j e).1)
        exact hB04.trans (hBE.mono (by omega))

set_option maxRecDepth 100000 in
set_option maxHeartbeats 2000000 in
theorem implOpsOf_any (a : Option Addr) (c : Nat) (bs : List Bk) (n : Nat) (hl : bs.length = n) (ma : Option Addr) (mc : Nat) (L : List Int) (mn : Nat) (hL : L.length = mn) (seq o lg : Int) (data : ByteArray) (w : World) (h : BlocksAt w a bs) (hn : Lens 9223372036854775807 bs) (hI : IntsAt w ma L) (hmn : mn ≤ 9223372036854775807) (hd : data.size ≤ 1048576) :
    Calls Try.prog 33 #[.agg #[.slice a n c, .slice ma mn mc, .int .i64 seq, .int .i64 o], .int .i64 lg, .string data] w fun e w' => ∃ a1 c1 xs r, e = .returned (.tuple #[.slice a1 xs.length c1, .bool r]) ∧ OpsOfIs bs L seq o lg data xs r ∧ OpsMine w' w.heap.size w'.heap.size a1 c1 xs ∧ Below w.heap.size w w' := by
  have hb0 : ∀ o, Below w.heap.size w (w.alloc o) := fun o => (Below.refl _ w).alloc (Nat.le_refl _) _
  go_enter Try.func33, Try.ntmps33
  go_wp2_with fail
  refine (rightCells_any a c bs n hl ma mc L mn hL seq o _ (h.below (hb0 _) (Nat.le_refl _)) hn (hI.below (hb0 _) (Nat.le_refl _)) hmn).mono ?_
  rintro e w1 ⟨⟨m, r, rfl, hr, hm⟩, hB1⟩
  have hW1 : Below w.heap.size w w1 := (hb0 _).trans (hB1.mono (by simp))
  have hs1 := hB1.size
  simp at hs1
  have hx : ∀ i, w1.cell? ⟨w.heap.size, i, none⟩ = (#[Value.slice a n c, .slice ma mn mc, .int .i64 seq, .int .i64 o])[i]? := fun i => by
    rw [hB1.cell (p := ⟨w.heap.size, i, none⟩) (by simp)]
    simp
  have hsc := store_cc m w1
  have hAs := ccA_size m
  have HSZ := hide (sizeCC m)
  have HR := hide hr
  have HM := hide hm
  have HI := hide hI
  have HL := hide hl
  have HLL := hide hL
  have HAP := hide (fun b i hb hi => ccA_pages m (b := b) (i := i) hb hi)
  have HCI : Hid (∀ hc : m.count = bs.length, ∀ hb : ccBs m bs.length = bs, n ≤ 12 → CellsIs (ccA m) m bs n) := fun hc hb h12 => CellsIs.of hl h12 hc hb
  generalize ccA m = A at hsc hAs HSZ HAP HCI ⊢
  clear hr hm h hn hB1 hb0 hI hl hL
  cases r with
  | false =>
    clear hx
    go_wp2
    exact bodyPost_ret (v := .tuple #[.slice none 0 0, .bool false]) (by simp [results, Try.results33, go_sem]) rfl ⟨none, 0, [], false, rfl, .inr ⟨rfl, rfl, fun hc => by have := (unhide HR).2 hc.1; cases this⟩, .inl ⟨rfl, rfl⟩, hW1.alloc hW1.size _⟩
  | true =>
    have hok := (unhide HR).1 (by trivial)
    have hc12 : 4 ≤ n ∧ n ≤ 12 := by have := hok.chip.count; have := unhide HL; omega
    obtain ⟨hct, hbss⟩ := unhide HM (by trivial)
    have HC := hide (unhide HCI hct hbss hc12.2)
    have HOK := hide hok
    obtain ⟨w2, hw2⟩ : ∃ w2, w2 = w1.alloc (.cells A 97) := ⟨_, rfl⟩
    have hs2 : w1.heap.size < w2.heap.size := by rw [hw2]; simp
    have hB2 : Below w1.heap.size w1 w2 := by rw [hw2]; exact (Below.refl _ w1).alloc (Nat.le_refl _) _
    have HR2 : Hid (w2.heap[w1.heap.size]? = some (.cells A 97 (0, 0))) := by rw [hw2]; exact World.alloc_heap_new _ _
    have hW2 := hW1.trans (hB2.mono hW1.size)
    have hx2 : ∀ i, w2.cell? ⟨w.heap.size, i, none⟩ = (#[Value.slice a n c, .slice ma mn mc, .int .i64 seq, .int .i64 o])[i]? := fun i => (hB2.cell (p := ⟨w.heap.size, i, none⟩) (by show w.heap.size < _; omega)).trans (hx i)
    have c0 := hx2 0
    have c1 := hx2 1
    have c2 := hx2 2
    have c3 := hx2 3
    simp at c0 c1 c2 c3
    rw [← hw2] at hsc
    clear hok hct hbss HM hx hx2 hW1 hw2 HCI hB2
    go_wp2_with fail
    refine wp_load_row 97 _ rfl w1.heap.size rfl 97 A (0, 0) _ (unhide HR2) Try.underlying97 rfl (unhide HSZ) ?_
    go_wp2_with fail
    refine (writeRefusal_any A m bs n (unhide HC) hc12.1 seq lg data hd _).mono ?_
    rintro e w3 ⟨code, rfl, hcode, hB3⟩
    have hs3 := hB3.size
    have hW3 := hW2.trans (hB3.mono hW2.size)
    have d0 := (hB3.cell (p := ⟨w.heap.size, 0, none⟩) (by show w.heap.size < _; omega)).trans c0
    have d1 := (hB3.cell (p := ⟨w.heap.size, 1, none⟩) (by show w.heap.size < _; omega)).trans c1
    have d2 := (hB3.cell (p := ⟨w.heap.size, 2, none⟩) (by show w.heap.size < _; omega)).trans c2
    have d3 := (hB3.cell (p := ⟨w.heap.size, 3, none⟩) (by show w.heap.size < _; omega)).trans c3
    have HR3 := hide ((hB3.block w1.heap.size hs2).trans (unhide HR2))
    have HCODE := hide hcode
    clear hcode hB3 HR2 c0 c1 c2 c3 hsc hW2 hAs
    by_cases h0 : code = 0
    · subst h0
      have HFR : Hid (formOk bs lg data ∧ roomy bs seq) := by
        rcases unhide HCODE with ⟨h, _⟩ | ⟨h, _⟩ | ⟨_, h1, h2⟩
        · omega
        · omega
        · exact ⟨h1, h2⟩
      clear HCODE
      go_wp2_with (refine wpList_load_row rfl 97 _ rfl w1.heap.size rfl 97 A (0, 0) _ (unhide HR3) Try.underlying97 rfl (unhide HSZ) ?_)
      refine (writeOps_any A m bs n (unhide HC) (unhide HAP) (.slice a n c) ma mc L mn (unhide HLL) seq o lg data (unhide HOK) _ ((unhide HI).below hW3 (Nat.le_refl _))).mono ?_
      rintro e w4 ⟨q, rfl, hq, hB4⟩
      have hs4 := hB4.size
      have hW4 := hW3.trans (hB4.mono hW3.size)
      obtain ⟨qa, qc, rfl, hco⟩ := hq.form (goodOps_write _ _ _ _ _ _)
      have hlen := writeOps_length bs L seq o lg data
      have HCO := hide hco
      clear hB4 hq d0 d1 d2 d3 hco HR3
      go_wp2_with fail
      refine (toldOps_any qa qc (writeOps bs L seq o lg data) _ rfl _ (unhide HCO) (by omega)).mono ?_
      rintro e w5 ⟨rfl, hO5, hB5⟩
      have hW5 := hW4.trans (hB5.mono hW4.size)
      have HO5 := hide hO5
      have hlt5 : w4.heap.size < w5.heap.size := World.rowIs.lt hO5
      obtain ⟨M, hM⟩ : ∃ M, M = (writeOps bs L seq o lg data).length := ⟨_, rfl⟩
      rw [← hM]
      have HMM := hide hM
      clear hO5 hB5 HCO hM hlen
      go_wp2
      exact bodyPost_ret (v := .tuple #[.slice (some ⟨w4.heap.size, 0, none⟩) M M, .bool true]) (by simp [results, Try.results33, go_sem]) rfl ⟨_, M, writeOps bs L seq o lg data, true, by rw [unhide HMM], .inl ⟨rfl, ⟨unhide HOK, unhide HFR⟩, rfl⟩, .inr ⟨w4.heap.size, rfl, by omega, hlt5, unhide HO5⟩, hW5⟩
    · have hne : (code != 0) = true := by simpa using h0
      have HNO : Hid (¬ (formOk bs lg data ∧ roomy bs seq)) := by
        rcases unhide HCODE with ⟨_, h⟩ | ⟨_, _, h⟩ | ⟨h, _⟩
        · exact fun hc => h hc.1
        · exact fun hc => h hc.2
        · exact absurd h h0
      clear d0 d1 d2 d3
      go_wp2
      exact bodyPost_ret (v := .tuple #[.slice none 0 0, .bool false]) (by simp [results, Try.results33, go_sem]) rfl ⟨none, 0, [], false, rfl, .inr ⟨rfl, rfl, fun hc => unhide HNO hc.2⟩, .inl ⟨rfl, rfl⟩, hW3⟩
end Go.Proofs.Ytalgkmellbamgaa

namespace Go.Proofs.Ytalgkmellbamgaa.fnExactOpsOf
open Go.ChangeShapes Go.WideShapes Go.ChangeAt Go.RowKit
set_option linter.unusedVariables false
set_option linter.unusedSimpArgs false

set_option maxRecDepth 100000 in
set_option maxHeartbeats 8000000 in
theorem walk (a : Option Addr) (c : Nat) (bs : List Bk) (n : Nat) (hl : bs.length = n) (ma : Option Addr) (mc : Nat) (L : List Int) (mn : Nat) (hL : L.length = mn) (seq o lg : Int) (data : ByteArray) (w : World) (h : BlocksAt w a bs) (hn : Lens 9223372036854775807 bs) (ht : Texts bs) (hI : IntsAt w ma L) (hmn : mn ≤ 9223372036854775807) (hd : data.size ≤ 9223372036854775807) :
    Calls Try.prog 9 #[.agg #[.slice a n c, .slice ma mn mc, .int .i64 seq, .int .i64 o], .int .i64 lg, .string data] w fun e w' => e = .returned (.bool true) ∧ Below w.heap.size w w' := by
  have hb0 : ∀ o, Below w.heap.size w (w.alloc o) := fun o => (Below.refl _ w).alloc (Nat.le_refl _) _
  have HL := hide hl
  have HLL := hide hL
  clear hl hL
  go_enter Try.func9, Try.ntmps9
  by_cases hdl : data.size ≤ 1048576
  case neg =>
    have hdl' : (1048576 : Int) < (data.size : Int) := by omega
    clear h hI hn ht
    go_wp2
    go_ret
    exact ⟨rfl, hb0 _⟩
  have hdl' : ¬ (1048576 : Int) < (data.size : Int) := by omega
  go_wp2_with fail
  refine (szFtl_any a c bs n (unhide HL) ma mc mn seq o _ (h.below (hb0 _) (Nat.le_refl _)) hn ht hmn).mono ?_
  rintro e w1 ⟨left, rfl, _, hlens, hB1⟩
  have hs1 := hB1.size
  simp at hs1
  have hx10 : w1.cell? ⟨w.heap.size, 0, none⟩ = some (.slice a n c) := by
    rw [hB1.cell (p := ⟨w.heap.size, 0, none⟩) (by simp)]
    simp
  have hx11 : w1.cell? ⟨w.heap.size, 1, none⟩ = some (.slice ma mn mc) := by
    rw [hB1.cell (p := ⟨w.heap.size, 1, none⟩) (by simp)]
    simp
  have hx12 : w1.cell? ⟨w.heap.size, 2, none⟩ = some (.int .i64 seq) := by
    rw [hB1.cell (p := ⟨w.heap.size, 2, none⟩) (by simp)]
    simp
  have hx13 : w1.cell? ⟨w.heap.size, 3, none⟩ = some (.int .i64 o) := by
    rw [hB1.cell (p := ⟨w.heap.size, 3, none⟩) (by simp)]
    simp
  have hW1 : Below w.heap.size w w1 := (hb0 _).trans (hB1.mono (by simp))
  have HA := hide h
  have HI := hide hI
  clear hb0 hB1 h hn ht hI
  by_cases h0 : left < 0
  · clear hlens
    go_wp2
    go_ret
    exact ⟨rfl, hW1⟩
  obtain ⟨hn1, hm1⟩ := hlens (by omega)
  have HN := hide hn1
  have HN9 : Hid (Lens 9223372036854775807 bs) := ⟨by have := (unhide HN).1; omega, fun b hb => by have := (unhide HN).2 b hb; omega⟩
  have hkb := kAfter_upto bs 1 (unhide HN).2
  have HKK : Hid (1 ≤ kAfter 1 bs ∧ kAfter 1 bs + (mn : Int) ≤ 1125899906842624) := ⟨hkb.1, by have := (unhide HN).1; have h2 := hkb.2; have h3 : (bs.length : Int) * 4194305 ≤ 1048576 * 4194305 := Int.mul_le_mul_of_nonneg_right (by omega) (by omega); omega⟩
  clear hlens hn1 hkb
  go_wp2_with fail
  refine (toFtl_own a c bs n (unhide HL) ma mc L mn (unhide HLL) seq o _ ((unhide HA).below hW1 (Nat.le_refl _)) (unhide HN) ((unhide HI).below hW1 (Nat.le_refl _)) hm1).mono ?_
  rintro e w2 ⟨g1, m1, rfl, hO1, hB2⟩
  have hs2 := hB2.size
  have hx20 := (hB2.cell (p := ⟨w.heap.size, 0, none⟩) (by show w.heap.size < _; omega)).trans hx10
  have hx21 := (hB2.cell (p := ⟨w.heap.size, 1, none⟩) (by show w.heap.size < _; omega)).trans hx11
  have hx22 := (hB2.cell (p := ⟨w.heap.size, 2, none⟩) (by show w.heap.size < _; omega)).trans hx12
  have hx23 := (hB2.cell (p := ⟨w.heap.size, 3, none⟩) (by show w.heap.size < _; omega)).trans hx13
  have hW2 := hW1.trans (hB2.mono hW1.size)
  have HG1 := hide hO1.blocksAt
  have HR1 := hide hO1.2.1
  clear hB2 hW1 hO1 hx10 hx11 hx12 hx13
  go_wp2_with fail
  refine (specOpsOf_any _ n bs n (unhide HL) _ mn L mn (unhide HLL) seq o lg data _ (unhide HG1) (unhide HN) (unhide HR1) hm1 hdl).mono ?_
  rintro e w3 ⟨v0, xs, r, rfl, hr, hv0, hB3⟩
  obtain ⟨a0, c0, rfl, hA0, _⟩ := hv0.form
  have hs3 := hB3.size
  have hx30 := (hB3.cell (p := ⟨w.heap.size, 0, none⟩) (by show w.heap.size < _; omega)).trans hx20
  have hx31 := (hB3.cell (p := ⟨w.heap.size, 1, none⟩) (by show w.heap.size < _; omega)).trans hx21
  have hx32 := (hB3.cell (p := ⟨w.heap.size, 2, none⟩) (by show w.heap.size < _; omega)).trans hx22
  have hx33 := (hB3.cell (p := ⟨w.heap.size, 3, none⟩) (by show w.heap.size < _; omega)).trans hx23
  have hW3 := hW2.trans (hB3.mono hW2.size)
  have hq6 := hr.length
  have HR := hide hr
  have HA0 := hide hA0
  obtain ⟨q, hq⟩ : ∃ q, q = xs.length := ⟨_, rfl⟩
  rw [← hq] at hq6 ⊢
  have HQ := hide hq.symm
  clear hB3 hW2 HG1 HR1 hr hA0 hv0 hq hx20 hx21 hx22 hx23
  go_wp2_with fail
  refine (toFtl_own a c bs n (unhide HL) ma mc L mn (unhide HLL) seq o _ ((unhide HA).below hW3 (Nat.le_refl _)) (unhide HN) ((unhide HI).below hW3 (Nat.le_refl _)) hm1).mono ?_
  rintro e w4 ⟨g2, m2, rfl, hO2, hB4⟩
  have hs4 := hB4.size
  have hx40 := (hB4.cell (p := ⟨w.heap.size, 0, none⟩) (by show w.heap.size < _; omega)).trans hx30
  have hx41 := (hB4.cell (p := ⟨w.heap.size, 1, none⟩) (by show w.heap.size < _; omega)).trans hx31
  have hx42 := (hB4.cell (p := ⟨w.heap.size, 2, none⟩) (by show w.heap.size < _; omega)).trans hx32
  have hx43 := (hB4.cell (p := ⟨w.heap.size, 3, none⟩) (by show w.heap.size < _; omega)).trans hx33
  have hW4 := hW3.trans (hB4.mono hW3.size)
  have HB34 := hide hB4
  have HO4 := hide hO2
  have hb5 : ∀ o, Below w4.heap.size w4 (w4.alloc o) := fun o => (Below.refl _ w4).alloc (Nat.le_refl _) _
  have hl04 : w.heap.size < w4.heap.size := by omega
  clear hB4 hW3 hO2 hx30 hx31 hx32 hx33
  go_wp2_with fail
  refine (implOpsOf_any _ n bs n (unhide HL) _ mn L mn (unhide HLL) seq o lg data _ ((unhide HO4).blocksAt.below (hb5 _) (Nat.le_refl _)) (unhide HN9) ((unhide HO4).2.1.below (hb5 _) (Nat.le_refl _)) (by omega) hdl).mono ?_
  rintro e w6 ⟨a1, c1, xs6, r6, rfl, hr6, hM6, hB6⟩
  obtain ⟨rfl, rfl⟩ : xs6 = xs ∧ r6 = r := hr6.one (unhide HR)
  rw [unhide HQ]
  have hs6 := hB6.size
  simp at hs6
  have hB46 : Below w4.heap.size w4 w6 := (hb5 _).trans (hB6.mono (by simp))
  have hx60 := (hB46.cell (p := ⟨w.heap.size, 0, none⟩) (by show w.heap.size < _; omega)).trans hx40
  have hx61 := (hB46.cell (p := ⟨w.heap.size, 1, none⟩) (by show w.heap.size < _; omega)).trans hx41
  have hx62 := (hB46.cell (p := ⟨w.heap.size, 2, none⟩) (by show w.heap.size < _; omega)).trans hx42
  have hx63 := (hB46.cell (p := ⟨w.heap.size, 3, none⟩) (by show w.heap.size < _; omega)).trans hx43
  have hy60 : w6.cell? ⟨w4.heap.size, 0, none⟩ = some (.slice (some ⟨g2, 0, none⟩) n n) := by
    rw [hB6.cell (p := ⟨w4.heap.size, 0, none⟩) (by simp)]
    simp
  have hy61 : w6.cell? ⟨w4.heap.size, 1, none⟩ = some (.slice (some ⟨m2, 0, none⟩) mn mn) := by
    rw [hB6.cell (p := ⟨w4.heap.size, 1, none⟩) (by simp)]
    simp
  have hy62 : w6.cell? ⟨w4.heap.size, 2, none⟩ = some (.int .i64 seq) := by
    rw [hB6.cell (p := ⟨w4.heap.size, 2, none⟩) (by simp)]
    simp
  have hy63 : w6.cell? ⟨w4.heap.size, 3, none⟩ = some (.int .i64 o) := by
    rw [hB6.cell (p := ⟨w4.heap.size, 3, none⟩) (by simp)]
    simp
  have hW6 := hW4.trans (hB46.mono hW4.size)
  have HB36 := hide ((unhide HB34).trans (hB46.mono (unhide HB34).size))
  have HO6 := hide ((unhide HO4).below hB46)
  simp only [World.size_alloc] at hM6
  have HM6 := hide hM6
  have hne : (r6 != r6) = false := by simp
  have hl06 : w.heap.size < w6.heap.size := by omega
  have hl46 : w4.heap.size < w6.heap.size := by omega
  clear hB6 hB46 hW4 HB34 HO4 hb5 hM6 hr6 hx40 hx41 hx42 hx43
  go_wp2_with fail
  refine (eqCOpS_same a1 a0 c1 c0 xs6 q (unhide HQ) _ (unhide HM6).opsAt ((unhide HA0).below (unhide HB36) (Nat.le_refl _)) (by omega)).mono ?_
  rintro e w7 ⟨rfl, hB7⟩
  have hs7 := hB7.size
  have hx70 := (hB7.cell (p := ⟨w.heap.size, 0, none⟩) (by show w.heap.size < _; omega)).trans hx60
  have hx71 := (hB7.cell (p := ⟨w.heap.size, 1, none⟩) (by show w.heap.size < _; omega)).trans hx61
  have hx72 := (hB7.cell (p := ⟨w.heap.size, 2, none⟩) (by show w.heap.size < _; omega)).trans hx62
  have hx73 := (hB7.cell (p := ⟨w.heap.size, 3, none⟩) (by show w.heap.size < _; omega)).trans hx63
  have hy70 := (hB7.cell (p := ⟨w4.heap.size, 0, none⟩) (by show w4.heap.size < _; omega)).trans hy60
  have hy71 := (hB7.cell (p := ⟨w4.heap.size, 1, none⟩) (by show w4.heap.size < _; omega)).trans hy61
  have hy72 := (hB7.cell (p := ⟨w4.heap.size, 2, none⟩) (by show w4.heap.size < _; omega)).trans hy62
  have hy73 := (hB7.cell (p := ⟨w4.heap.size, 3, none⟩) (by show w4.heap.size < _; omega)).trans hy63
  have hW7 := hW6.trans (hB7.mono hW6.size)
  have HB37 := hide ((unhide HB36).trans (hB7.mono (by omega)))
  have HO7 := hide ((unhide HO6).below hB7)
  have HM7 := hide ((unhide HM6).below hB7)
  have hl07 : w.heap.size < w7.heap.size := by omega
  have hl47 : w4.heap.size < w7.heap.size := by omega
  have HW7 := hide hW7
  have HA7 : Hid (BlocksAt w7.drew a bs) := (unhide HA).below hW7.drew (Nat.le_refl _)
  have HI7 : Hid (IntsAt w7.drew ma L) := (unhide HI).below hW7.drew (Nat.le_refl _)
  have HG7 : Hid (BlocksAt w7.drew (some ⟨g2, 0, none⟩) bs) := (unhide HO7).blocksAt.below (Below.refl w7.heap.size w7).drew (Nat.le_refl _)
  have HR7 : Hid (IntsAt w7.drew (some ⟨m2, 0, none⟩) L) := (unhide HO7).2.1.below (Below.refl w7.heap.size w7).drew (Nat.le_refl _)
  clear hB7 hW6 hW7 HB36 HO6 HM6 hx60 hx61 hx62 hx63 hy60 hy61 hy62 hy63
  go_wp2_with fail
  go_region_held3 (fun W => ∀ b o, b < w7.heap.size → W.cell? ⟨b, o, none⟩ = w7.cell? ⟨b, o, none⟩)
    (first
      | (intro b o hb; rfl)
      | (intro b o hb; exact (unhide HB79).cell (p := ⟨b, o, none⟩) hb)
      | (intro b o hb; exact (unhide HB78).cell (p := ⟨b, o, none⟩) hb))
    (first
      | (go_at_call 42
         refine (toFtl_own a c bs n (unhide HL) ma mc L mn (unhide HLL) seq o _ (unhide HA7) (unhide HN) (unhide HI7) hm1).mono ?_
         rintro e w8 ⟨g3, m3, rfl, hO3, hB8⟩
         have HB78 := hide ((Below.refl w7.heap.size w7).drew.trans hB8)
         have HG8 := hide ((unhide HG7).below hB8 (Nat.le_refl _))
         have HR8 := hide ((unhide HR7).below hB8 (Nat.le_refl _))
         have HH8 := hide hO3.blocksAt
         have HJ8 := hide hO3.2.1
         have hs8 : w7.heap.size ≤ w8.heap.size := hB8.size
         clear hB8 hO3)
      | (go_at_call 44
         refine (eqFtl_same _ _ n n bs n (unhide HL) _ _ mn mn L mn (unhide HLL) seq o _ (unhide HG8) (unhide HH8) (unhide HN) (unhide HR8) (unhide HJ8) hm1).mono ?_
         rintro e w9 ⟨rfl, hB9⟩
         have HB79 := hide ((unhide HB78).trans (hB9.mono (unhide HB78).size))
         have hs9 : w8.heap.size ≤ w9.heap.size := hB9.size
         clear hB9))
  have hx90 := ((unhide HB79).cell (p := ⟨w.heap.size, 0, none⟩) (by show w.heap.size < _; omega)).trans hx70
  have hx91 := ((unhide HB79).cell (p := ⟨w.heap.size, 1, none⟩) (by show w.heap.size < _; omega)).trans hx71
  have hx92 := ((unhide HB79).cell (p := ⟨w.heap.size, 2, none⟩) (by show w.heap.size < _; omega)).trans hx72
  have hx93 := ((unhide HB79).cell (p := ⟨w.heap.size, 3, none⟩) (by show w.heap.size < _; omega)).trans hx73
  have hy90 := ((unhide HB79).cell (p := ⟨w4.heap.size, 0, none⟩) (by show w4.heap.size < _; omega)).trans hy70
  have hy91 := ((unhide HB79).cell (p := ⟨w4.heap.size, 1, none⟩) (by show w4.heap.size < _; omega)).trans hy71
  have hy92 := ((unhide HB79).cell (p := ⟨w4.heap.size, 2, none⟩) (by show w4.heap.size < _; omega)).trans hy72
  have hy93 := ((unhide HB79).cell (p := ⟨w4.heap.size, 3, none⟩) (by show w4.heap.size < _; omega)).trans hy73
  have hW9 := (unhide HW7).trans ((unhide HB79).mono (unhide HW7).size)
  have HB39 := hide ((unhide HB37).trans ((unhide HB79).mono (by omega)))
  have HO9 := hide ((unhide HO7).below (unhide HB79))
  have HM9 := hide ((unhide HM7).below (unhide HB79))
  clear HB78 HB79 HB37 HO7 HM7 HG7 HR7 HG8 HR8 HH8 HJ8 HA7 HI7 HW7
  go_wp2_with fail
  refine (markFtl_own _ n n bs _ mn mn L seq o _ (unhide HO9) (by omega) (unhide HN) hm1 (unhide HKK).2).mono ?_
  rintro e w10 ⟨rfl, _, hT⟩
  have hk1 := (unhide HKK).1
  have hk2 := (unhide HKK).2
  obtain ⟨kk, hkk⟩ : ∃ kk, kk = kAfter 1 bs + (mn : Int) := ⟨_, rfl⟩
  have hk3 : 0 ≤ kk := by omega
  rw [← hkk]
  have hs10 := hT.size
  have hTb : Below w3.heap.size w9 w10 := hT.below (by omega) (fun k hk => hk.1)
  have hx100 := (hTb.cell (p := ⟨w.heap.size, 0, none⟩) (by show w.heap.size < _; omega)).trans hx90
  have hx101 := (hTb.cell (p := ⟨w.heap.size, 1, none⟩) (by show w.heap.size < _; omega)).trans hx91
  have hx102 := (hTb.cell (p := ⟨w.heap.size, 2, none⟩) (by show w.heap.size < _; omega)).trans hx92
  have hx103 := (hTb.cell (p := ⟨w.heap.size, 3, none⟩) (by show w.heap.size < _; omega)).trans hx93
  have hW10 := hW9.trans (hTb.mono (by omega))
  have HB310 := hide ((unhide HB39).trans hTb)
  have HM10 := hide ((unhide HM9).touch hT (fun k hk => by omega))
  clear hT hTb hW9 HB39 HO9 HM9 hkk hk1 hk2 HKK hx90 hx91 hx92 hx93 hy90 hy91 hy92 hy93
  go_wp2_with fail
  refine (eqCOpS_same a1 a0 c1 c0 xs6 q (unhide HQ) _ (unhide HM10).opsAt ((unhide HA0).below (unhide HB310) (Nat.le_refl _)) (by omega)).mono ?_
  rintro e w11 ⟨rfl, hB11⟩
  have hs11 := hB11.size
  have hx110 := (hB11.cell (p := ⟨w.heap.size, 0, none⟩) (by show w.heap.size < _; omega)).trans hx100
  have hx111 := (hB11.cell (p := ⟨w.heap.size, 1, none⟩) (by show w.heap.size < _; omega)).trans hx101
  have hx112 := (hB11.cell (p := ⟨w.heap.size, 2, none⟩) (by show w.heap.size < _; omega)).trans hx102
  have hx113 := (hB11.cell (p := ⟨w.heap.size, 3, none⟩) (by show w.heap.size < _; omega)).trans hx103
  have hW11 := hW10.trans (hB11.mono hW10.size)
  have HB311 := hide ((unhide HB310).trans (hB11.mono (by omega)))
  have HM11 := hide ((unhide HM10).below hB11)
  clear hB11 hW10 HB310 HM10 hx100 hx101 hx102 hx103
  go_wp2_with fail
  refine (markMine_any _ _ a1 c1 xs6 q (unhide HQ) _ (unhide HM11) (by omega)).mono ?_
  rintro e w12 ⟨rfl, hMk, hT⟩
  have hs12 := hT.size
  have hTb : Below (w4.heap.size + 1) w11 w12 := hT.below (by omega) (fun k hk => hk.1)
  have hx120 := (hTb.cell (p := ⟨w.heap.size, 0, none⟩) (by show w.heap.size < _; omega)).trans hx110
  have hx121 := (hTb.cell (p := ⟨w.heap.size, 1, none⟩) (by show w.heap.size < _; omega)).trans hx111
  have hx122 := (hTb.cell (p := ⟨w.heap.size, 2, none⟩) (by show w.heap.size < _; omega)).trans hx112
  have hx123 := (hTb.cell (p := ⟨w.heap.size, 3, none⟩) (by show w.heap.size < _; omega)).trans hx113
  have hW12 := hW11.trans (hTb.mono (by omega))
  have HB312 := hide ((unhide HB311).trans (hTb.mono (by omega)))
  have HMK := hide hMk
  have HH := hide (fun W hW => heldCOpS_any a1 c1 q 1 W hW (by omega) (by omega) (by omega))
  obtain ⟨qq, hqq⟩ : ∃ qq : Int, qq = 1 + 6 * (q : Int) := ⟨_, rfl⟩
  rw [← hqq] at HH ⊢
  have hqq0 : 0 ≤ qq := by omega
  have hneq : (qq != qq) = false := by simp
  clear hMk hT hTb hW11 HB311 HM11 hqq hx110 hx111 hx112 hx113
  go_wp2_with fail
  refine (unhide HH _ (unhide HMK)).mono ?_
  rintro e w13 ⟨rfl, hB13⟩
  have hs13 := hB13.size
  have hx130 := (hB13.cell (p := ⟨w.heap.size, 0, none⟩) (by show w.heap.size < _; omega)).trans hx120
  have hx131 := (hB13.cell (p := ⟨w.heap.size, 1, none⟩) (by show w.heap.size < _; omega)).trans hx121
  have hx132 := (hB13.cell (p := ⟨w.heap.size, 2, none⟩) (by show w.heap.size < _; omega)).trans hx122
  have hx133 := (hB13.cell (p := ⟨w.heap.size, 3, none⟩) (by show w.heap.size < _; omega)).trans hx123
  have hW13 := hW12.trans (hB13.mono hW12.size)
  have HMK13 := hide ((unhide HMK).below hB13 (Nat.le_refl _))
  have HB313 := hide ((unhide HB312).trans (hB13.mono (by omega)))
  clear hB13 hW12 HMK HB312 hx120 hx121 hx122 hx123
  go_wp2_with fail
  refine (toFtl_own a c bs n (unhide HL) ma mc L mn (unhide HLL) seq o _ ((unhide HA).below hW13 (Nat.le_refl _)) (unhide HN) ((unhide HI).below hW13 (Nat.le_refl _)) hm1).mono ?_
  rintro e w14 ⟨g4, m4, rfl, hO4, hB14⟩
  have hs14 := hB14.size
  have hW14 := hW13.trans (hB14.mono hW13.size)
  have HMK14 := hide ((unhide HMK13).below hB14 (Nat.le_refl _))
  have HB314 := hide ((unhide HB313).trans (hB14.mono (by omega)))
  have HG4 := hide hO4.blocksAt
  have HR4 := hide hO4.2.1
  clear hB14 hW13 hO4 HMK13 HB313 hx130 hx131 hx132 hx133
  go_wp2_with fail
  refine (implOpsOf_any _ n bs n (unhide HL) _ mn L mn (unhide HLL) seq o lg data _ (unhide HG4) (unhide HN9) (unhide HR4) (by omega) hdl).mono ?_
  rintro e w15 ⟨a2, c2, xs2, r2, rfl, hr2, hM15, hB15⟩
  obtain ⟨rfl, rfl⟩ : xs2 = xs6 ∧ r2 = r6 := hr2.one (unhide HR)
  rw [unhide HQ]
  have hs15 := hB15.size
  have hW15 := hW14.trans (hB15.mono hW14.size)
  have HMK15 := hide ((unhide HMK14).below hB15 (Nat.le_refl _))
  have HB315 := hide ((unhide HB314).trans (hB15.mono (by omega)))
  have HP15 := hide hM15.opsAt
  clear hB15 hW14 hM15 HMK14 HB314 HG4 HR4 hr2
  go_wp2_with fail
  refine (eqCOpS_same a2 a0 c2 c0 xs2 q (unhide HQ) _ (unhide HP15) ((unhide HA0).below (unhide HB315) (Nat.le_refl _)) (by omega)).mono ?_
  rintro e w16 ⟨rfl, hB16⟩
  have hW16 := hW15.trans (hB16.mono hW15.size)
  have HMK16 := hide ((unhide HMK15).below hB16 (Nat.le_refl _))
  clear hB16 hW15 HMK15 HB315 HP15
  go_wp2_with fail
  refine (unhide HH _ (unhide HMK16)).mono ?_
  rintro e w17 ⟨rfl, hB17⟩
  have hW17 := hW16.trans (hB17.mono hW16.size)
  clear HMK16 HH hB17 hW16
  go_wp2
  go_ret
  exact ⟨rfl, hW17⟩

set_option maxRecDepth 100000 in
theorem lifted (os : Os) (started : os.Started) (H : Type) (enc : TypeId × Value → H) :
    ReturnsInHanded {} Try.checked os 9 .any (Rows.fnExactOpsOfSpec.pre6 enc Try.prog Try.f9 Rows.fnExactOpsOfRow.domain false) (Rows.fnExactOpsOfSpec.post enc Try.prog Try.f9 false true false false) := by
  refine returnsInHanded_of_change (C := Try.checked) own started (by kernel_rfl) Try.func9
    (ChangeSpec.witness6 (enc := enc) (C := Try.checked) false ⟨#[], #[.agg #[.slice none 0 0, .slice none 0 0, .int .i64 0, .int .i64 0], .int .i64 0, .string ByteArray.empty], []⟩ 8 (by kernel_rfl) (by kernel_rfl) (by kernel_rfl) (by kernel_rfl)) ?_
  intro W base args ds gs before hval0 hW hcnd _
  have hval : ∀ (j : Nat) t v, Try.f9.params[j]? = some t → args[j]? = some v → Value.okWide Try.prog W .any base t v := hval0
  have hW' := hW
  obtain ⟨p, q, hA0, hV, rfl, hfz, hnd⟩ := hW
  have hA : DataW.TrodAll enc Try.prog W 0 (fun _ => true) true Try.f9.params.toList args.toList ds p := hA0
  rw [Try.params9] at hA hval
  obtain ⟨v0, vs0, d0, ds0, p0, q0, hargs, rfl, rfl, h0, r0⟩ := trodAll_cons hA
  obtain ⟨v1, vs1, d1, ds1, p1, q1, rfl, rfl, rfl, h1, r1⟩ := trodAll_cons r0
  obtain ⟨v2, vs2, d2, ds2, p2, q2, rfl, rfl, rfl, h2, r2⟩ := trodAll_cons r1
  obtain ⟨rfl, rfl, rfl⟩ := trodAll_nil r2
  obtain rfl : args = #[v0, v1, v2] := by cases args; simp_all
  obtain ⟨rfl, rfl⟩ := trodVars_none hV
  have k0 := h0
  have lt0 : ∀ x ∈ p0, x.block < W.heap.size := by obtain ⟨m, hm⟩ := k0; exact DataW.trod_lt m _ _ _ hm
  obtain ⟨a, c, bs, ma, mc, L, seq, o, rfl, hbs, hl, ht, hI, hLl⟩ := open_ftl (hval 0 72 v0 rfl rfl) h0
  obtain ⟨a1, rfl, rfl, rfl, w1⟩ := open_int Try.underlying2 (hval 1 2 v1 rfl rfl) h1
  obtain ⟨s2, rfl, rfl, rfl, w2⟩ := Go.ChangeMaps.open_string Try.underlying9 (hval 2 9 v2 rfl rfl) h2
  clear hA0 hval0
  refine (walk a c bs _ rfl ma mc L _ rfl seq o a1 s2 W hbs hl ht hI hLl (by simpa [maxLen] using w2)).mono fun e W' ⟨he, bel⟩ => ?_
  subst he
  exact ⟨_, rfl, _, _, _, [], _, [], hW', trodAll_mk1 (shut_bool Try.underlying4 _), (trodAll_cons_mk (Below.trod laidOut (by kernel_rfl) (of_decide_eq_true (by kernel_rfl)) k0 bel lt0) (trodAll_cons_mk (shut_int Try.underlying2 w1) (trodAll_cons_mk (Go.ChangeMaps.shut_string Try.underlying9 w2) trodAll_mk0))), rfl, bel.frame _, fun h => by cases h⟩

theorem over : Rows.fnExactOpsOfRow.holds Try.pinned (OpenSpec.ofChange Rows.fnExactOpsOfSpec) :=
  OpenClaim.holds_of_wide 9 Try.f9 rfl rfl rfl rfl rfl rfl rfl ⟨rfl, rfl, rfl, rfl, rfl⟩ rfl rfl rfl rfl rfl (by kernel_rfl) Try.func9 (by kernel_rfl)
    (of_decide_eq_true (by kernel_rfl)) (by unfold Func.isWrapper; first | (rw [if_pos (by decide +kernel)]; kernel_rfl) | (rw [if_neg (by decide +kernel)]; exact ⟨rfl, rfl⟩))
    (fun os started H enc _ => lifted os started H enc)

end Go.Proofs.Ytalgkmellbamgaa.fnExactOpsOf
namespace Go.Proofs.Ytalgkmellbamgaa
theorem opsOf_holds : Rows.FnExactOpsOfSaid := fnExactOpsOf.over
end Go.Proofs.Ytalgkmellbamgaa
