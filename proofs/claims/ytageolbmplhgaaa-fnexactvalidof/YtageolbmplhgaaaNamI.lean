/- The walk over the places that a map names: the program's namedPlaces, for whom asks something of each of them. -/
import Derived.Test.YtageolbmplhgaaaValP
import Derived.Test.YtageolbmplhgaaaUsedR
namespace Go.Proofs.Ytageolbmplhgaaa
open Go.RowKit Go.Shelf
set_option linter.unusedVariables false
set_option linter.unusedSimpArgs false
attribute [local go_sem] Oper.semAt_some

/-- The rows of S are as they were. -/
def KeepS (S : Nat → Prop) (W W' : World) : Prop := W.heap.size ≤ W'.heap.size ∧ ∀ k, S k → W'.heap[k]? = W.heap[k]?
theorem KeepS.refl (S : Nat → Prop) (W : World) : KeepS S W W := ⟨Nat.le_refl _, fun _ _ => rfl⟩
theorem KeepS.trans {S : Nat → Prop} {A B C : World} (h : KeepS S A B) (k : KeepS S B C) : KeepS S A C := ⟨Nat.le_trans h.1 k.1, fun i hi => (k.2 i hi).trans (h.2 i hi)⟩
theorem KeepS.cell {S : Nat → Prop} {A B : World} (h : KeepS S A B) {b : Nat} (hb : S b) (i : Nat) : B.cell? ⟨b, i, none⟩ = A.cell? ⟨b, i, none⟩ := World.cell?_of_block (w := A) (h.2 b hb)
theorem KeepS.alloc {S : Nat → Prop} (W : World) (o : Obj) (h : ∀ k, S k → k < W.heap.size) : KeepS S W (W.alloc o) := ⟨by simp, fun k hk => Below.heap_alloc _ _ _ (h k hk)⟩
theorem KeepS.setCell {S : Nat → Prop} (W : World) (a : Addr) (v : Value) (h : ¬ S a.block) : KeepS S W (W.setCell a v) := ⟨by simp [World.setCell], fun k hk => Below.heap_setCell _ _ _ _ (fun e => h (by rw [← e]; exact hk))⟩
theorem keepS_b {S : Nat → Prop} {w : World} (hn : ∀ k, S k → k < w.heap.size) (W : World) (l : Nat) (o o' : Obj) (hl : w.heap.size ≤ l) (_ : W.heap[l]? = some o) (_ : o.isCells = false) (_ : o.isWalk = false) : KeepS S W (W.putObj l o') :=
  ⟨by simp, fun k hk => World.putObj_heap_other (by have := hn k hk; omega)⟩
theorem IntsAt.keepS {S : Nat → Prop} {W W' : World} {a : Option Addr} {L : List Int} (h : IntsAt W a L) (hk : KeepS S W W') (hS : ∀ b o, a = some ⟨b, o, none⟩ → 0 < L.length → S b) : IntsAt W' a L := by
  intro i x hx
  obtain ⟨b, o, ha, hc⟩ := h i x hx
  exact ⟨b, o, ha, (hk.cell (hS b o ha (by have := (List.getElem?_eq_some_iff.1 hx).1; omega)) _).trans hc⟩

def encI (x : Int) : Array Value := #[.int .i64 x]

set_option maxRecDepth 100000 in
set_option maxHeartbeats 4000000 in
theorem named1_in (Rx : Int → Prop) (S : Nat → Prop) (F : Fence) (n : Nat) (hF : F.fn 111) (hro : F.round = none) (hn : 1 ≤ n) (l Bx : Nat) (hSx : S Bx) (a : Option Addr) (c : Nat) (L : List Int) (nn : Nat) (hnn : L.length = nn) (hsm : nn ≤ 1048576) (J Jx : List Int → World → Prop)
    (hRx : ∀ x ∈ L, x ≠ -1 → Rx x) (hY : ∀ pre x W, Rx x → J pre W → pre.length < nn → YieldAt F (n - 1) Try.prog l (encI x) W fun e W' =>
      (e = .returned (.bool true) ∧ J (pre ++ [x]) W' ∧ KeepS S W W') ∨ (e = .returned (.bool false) ∧ Jx (pre ++ [x]) W'))
    (W : World) (hbox : W.cell? ⟨Bx, 0, none⟩ = some (.slice a nn c)) (hI : IntsAt W a L) (hSa : ∀ b o, a = some ⟨b, o, none⟩ → 0 < L.length → S b) (h0 : J [] W) :
    CallsIn F n Try.prog 111 #[.func (.yield l) #[] #[], .pointer (some ⟨Bx, 0, none⟩)] W fun e W' => (∃ v, e = .returned v) ∧
      ((∃ ys, ys = namedOf L ∧ J ys W') ∨ (∃ pre, pre <+: namedOf L ∧ Jx pre W')) := by
  have HY := hide hY
  have HRX := hide hRx
  have HI := hide hI
  have HN := hide hnn
  have HSA := hide hSa
  clear hY hRx hI hnn hSa
  refine callsIn_of_wp Try.func111 rfl hF ?_ hro
  simp only [Try.ntmps111, List.size_toArray, List.length_cons, List.length_nil, Nat.reduceAdd, Nat.reduceSub, Array.replicate_succ, Array.replicate_zero, List.push_toArray, List.append_toArray, List.nil_append, List.cons_append]
  gi_wp2
  clear hbox
  gi_loopw [7] (fun i wr => ∃ k : Nat, k ≤ nn ∧ i = .int .i64 k ∧ J (namedOf (L.take k)) wr ∧ KeepS S W wr) (fun i _ => nn - (intOf i).toNat)
  case atStart => exact ⟨0, Nat.zero_le _, rfl, h0, KeepS.refl _ _⟩
  case round =>
    obtain ⟨k, hk, rfl, hJs, hnx⟩ := hrel
    by_cases hlt : k < nn
    · obtain ⟨x, hx⟩ := getElem?_ex (l := L) (k := k) (by have := unhide HN; omega)
      obtain ⟨b1, o1, rfl, c1⟩ := ((unhide HI).keepS hnx (unhide HSA)) k x hx
      have hst := namedOf_take hx
      have hlen : (namedOf (L.take k)).length < nn := by
        have := namedOf_length (L.take k)
        rw [List.length_take] at this
        omega
      have hpre := namedOf_prefix L (k + 1)
      have hrx := unhide HRX x (List.mem_of_getElem? hx)
      have HST := hide hst
      have HPRE := hide hpre
      have HRXP := hide hrx
      have HNX := hide hnx
      clear hst hpre hrx hx hnx
      by_cases hxm : x = -1
      · have hne : (x != -1) = false := by simpa using hxm
        clear hlen
        gi_wp2
        refine ⟨fun _ h => (by cases h), ?_⟩
        gi_wp2
        go_roundw
        case rel =>
          refine ⟨k + 1, by omega, by go_num, ?_, unhide HNX⟩
          rw [unhide HST, if_pos hxm, List.append_nil]
          exact hJs
        case measure => simp [intOf]; omega
      · have hne : (x != -1) = true := by simpa using hxm
        obtain ⟨fn, tmps, assign, body, hy, hR⟩ := unhide HY (namedOf (L.take k)) x wr (unhide HRXP hxm) hJs hlen
        dsimp only [encI] at hy
        have HR := hide hR
        clear hR
        gi_wp2
        refine (unhide HR).mono ?_
        rintro e W3 (⟨rfl, hJ3, hk3⟩ | ⟨rfl, hJx3⟩)
        · have HK3 := hide hk3
          clear hk3
          gi_wp2
          go_roundw
          case rel =>
            refine ⟨k + 1, by omega, by go_num, ?_, (unhide HNX).trans (unhide HK3)⟩
            rw [unhide HST, if_neg hxm]
            exact hJ3
          case measure => simp [intOf]; omega
        · gi_wp2
          refine bodyPost_ret (results_none rfl _ _ _) rfl ?_
          refine ⟨⟨_, rfl⟩, .inr ⟨_, ?_, hJx3⟩⟩
          have := unhide HPRE
          rw [unhide HST, if_neg hxm] at this
          exact this
    · obtain rfl : k = nn := by omega
      have e : L.take k = L := by rw [← unhide HN]; exact List.take_length
      rw [e] at hJs
      gi_wp2
      go_end0
      exact ⟨⟨_, rfl⟩, .inl ⟨_, rfl, hJs⟩⟩

set_option maxHeartbeats 1000000 in
theorem namedPlaces_in (F : Fence) (n : Nat) (hF : F.fn 101) (hro : F.round = none) (a : Option Addr) (nn c : Nat) (w : World) :
    CallsIn F n Try.prog 101 #[.slice a nn c] w fun e w' => e = .returned (.func (.func 111) #[] #[.pointer (some ⟨w.heap.size, 0, none⟩)]) ∧ w' = w.alloc (.cells #[.slice a nn c] 48) := by
  refine callsIn_of_wp Try.func101 rfl hF ?_ hro
  simp only [Try.ntmps101, List.size_toArray, List.length_cons, List.length_nil, Nat.reduceAdd, Nat.reduceSub, Array.replicate_succ, Array.replicate_zero, List.push_toArray, List.append_toArray, List.nil_append, List.cons_append]
  gi_wp2
  go_ret
  exact ⟨rfl, rfl⟩

theorem named_stops (Rx : Int → Prop) (S : Nat → Prop) (F : Fence) (n : Nat) (hF : F.fn 111) (hro : F.round = none) (hn : 1 ≤ n) (Bx : Nat) (hSx : S Bx) (a : Option Addr) (c : Nat) (L : List Int) (nn : Nat) (hnn : L.length = nn) (hsm : nn ≤ 1048576) (hRx : ∀ x ∈ L, x ≠ -1 → Rx x)
    (w : World) (hS : ∀ k, S k → k < w.heap.size) (hbox : w.cell? ⟨Bx, 0, none⟩ = some (.slice a nn c)) (hI : IntsAt w a L) (hSa : ∀ b o, a = some ⟨b, o, none⟩ → 0 < L.length → S b) :
    SeqStopsK F n Try.prog 111 #[.pointer (some ⟨Bx, 0, none⟩)] (fun x : {x : Int // Rx x} => encI x.val) (KeepS S) (fun ys => ys.map (·.val) = namedOf L) (fun pre => pre.map (·.val) <+: namedOf L) nn w := by
  intro l J Jx W hW hJA _ hY h0
  refine (named1_in Rx S F n hF hro hn l Bx hSx a c L nn hnn hsm (fun p W => ∃ q : List {x : Int // Rx x}, q.map (·.val) = p ∧ J q W) (fun p W => ∃ q : List {x : Int // Rx x}, q.map (·.val) = p ∧ Jx q W) hRx ?_ W ((hW.cell (p := ⟨Bx, 0, none⟩) (hS Bx hSx)).trans hbox) (hI.below hW (Nat.le_refl _)) hSa ⟨[], rfl, h0⟩).mono ?_
  · rintro pre x W1 hx ⟨q, rfl, hq⟩ hl
    obtain ⟨fn, tmps, assign, body, hy, hR⟩ := hY q ⟨x, hx⟩ W1 hq (by simpa using hl)
    refine ⟨fn, tmps, assign, body, hy, hR.mono ?_⟩
    rintro e W' (⟨rfl, h1, h2⟩ | ⟨rfl, h1⟩)
    · exact .inl ⟨rfl, ⟨_, by simp, h1⟩, h2⟩
    · exact .inr ⟨rfl, ⟨_, by simp, h1⟩⟩
  · rintro e W' ⟨hv, h⟩
    refine ⟨hv, ?_⟩
    rcases h with ⟨ys, rfl, q, hq, hJ⟩ | ⟨pre, hp, q, rfl, hJ⟩
    · exact .inl ⟨q, hq, hJ⟩
    · exact .inr ⟨q, hp, hJ⟩
end Go.Proofs.Ytageolbmplhgaaa
