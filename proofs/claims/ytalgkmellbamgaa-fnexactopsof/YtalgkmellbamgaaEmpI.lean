/- A block is emptied: the program's emptying; ops as the program holds them. -/
import Derived.Test.YtalgkmellbamgaaWornI
import Derived.Test.YtalgkmellbamgaaMapS
import Derived.Test.YtalgkmellbamgaaOpI
import Derived.Test.YtalgkmellbamgaaMoveS
import Derived.WalkKit
import Derived.Outline
import Derived.Deep.DeepCutAuto
namespace Go.Proofs.Ytalgkmellbamgaa
open Go.RowKit
set_option linter.unusedVariables false
set_option linter.unusedSimpArgs false

/-- The program's value for an op. -/
def coV (x : Opn) : Value := if x.kind = 1 then progV x.block x.page else eraV x.block
theorem coV_prog (b : Int) (p : Pg) : coV ⟨1, b, p⟩ = progV b p := rfl
theorem coV_era (b : Int) (p : Pg) : coV ⟨2, b, p⟩ = eraV b := rfl
theorem coV_stands {x : Opn} (h : goodOp x) : StandsFor (coV x) x := by
  rcases h with h | ⟨h, h2⟩
  · exact .inl ⟨h, by unfold coV; rw [if_pos h]⟩
  · exact .inr ⟨h, h2, by unfold coV; rw [if_neg (by omega)]⟩
/-- The slice v holds the program's values of the ops xs, in a row that was made from block B on and may be written. -/
def OwnsCo (w : World) (B : Nat) (v : Value) (xs : List Opn) : Prop := w.ownsRow B 131 1 v xs.length (xs.map coV)
theorem OwnsCo.kept {w w' : World} {B : Nat} {v : Value} {xs : List Opn} (h : OwnsCo w B v xs) (hb : Below w.heap.size w w') : OwnsCo w' B v xs := by
  have hg : w.grownBy w' none := ⟨hb.os, hb.tape, hb.output, hb.size, fun k hk _ => hb.block k hk⟩
  refine World.ownsRow.kept h hg ?_
  cases hv : v.ownBlock with
  | none => exact Or.inl rfl
  | some k => exact Or.inr (by simp)
theorem OwnsCo.lower {w : World} {B B' : Nat} {v : Value} {xs : List Opn} (h : OwnsCo w B v xs) (hB : B' ≤ B) : OwnsCo w B' v xs := by
  refine ⟨h.1, ?_⟩
  rcases h.2 with h0 | ⟨g, cap, cur, e1, e2, e3⟩
  · exact .inl h0
  · exact .inr ⟨g, cap, cur, e1, by omega, e3⟩
theorem OwnsCo.form {w : World} {B : Nat} {v : Value} {xs : List Opn} (h : OwnsCo w B v xs) (hg : ∀ x ∈ xs, goodOp x) : ∃ a c, v = .slice a xs.length c ∧ CoAt w a xs := by
  have h0 := h
  rcases h.2 with ⟨hv, hl⟩ | ⟨g, cap, cur, rfl, hb, hgg, hn, _⟩
  · exact ⟨none, 0, by rw [hv, hl], fun i x hx => by have := (List.getElem?_eq_some_iff.1 hx).1; omega⟩
  · refine ⟨_, _, rfl, fun i x hx => ⟨g, 0, coV x, rfl, ?_, coV_stands (hg x (List.mem_of_getElem? hx))⟩⟩
    rw [Nat.zero_add]
    exact ownsRow_cell h0 (by simp [hx])
theorem infoChipOp : (Try.prog.info? 131).map (fun i => (i.zero, i.size, i.bytes)) = some (some .nilIface, 1, 16) := by kernel_rfl
theorem goodOps_moved (bs : List Bk) (L : List Int) (v into seq : Int) (k : Nat) : ∀ x ∈ movedTo bs L v into seq k, x.kind = 1 := by
  induction k with
  | zero => intro x hx; simp [movedTo] at hx
  | succ k ih =>
    intro x hx
    simp only [movedTo, List.mem_append] at hx
    rcases hx with hx | hx
    · exact ih x hx
    · split at hx
      · simp at hx; rw [hx]
      · simp at hx
theorem goodOps_move (bs : List Bk) (L : List Int) (v into seq : Int) : ∀ x ∈ moveOps bs L v into seq, goodOp x := by
  intro x hx
  simp only [moveOps, List.mem_append, List.mem_singleton] at hx
  rcases hx with hx | rfl
  · exact .inl (goodOps_moved _ _ _ _ _ _ x hx)
  · exact .inr ⟨rfl, rfl⟩
theorem goodOps_write (bs : List Bk) (L : List Int) (seq o log : Int) (data : ByteArray) : ∀ x ∈ writeOps bs L seq o log data, goodOp x := by
  intro x hx
  unfold writeOps at hx
  split at hx
  · split at hx
    · simp only [List.mem_append, List.mem_singleton] at hx
      rcases hx with hx | rfl
      · exact goodOps_move _ _ _ _ _ x hx
      · exact .inl rfl
    · simp at hx; rw [hx]; exact .inl rfl
  · simp at hx; rw [hx]; exact .inl rfl

set_option maxRecDepth 100000 in
set_option maxHeartbeats 4000000 in
theorem emptying_any (A : Array Value) (m : CC) (bs : List Bk) (n : Nat) (hC : CellsIs A m bs n) (hAp : ∀ b i, b < 12 → i < 16 → A[1 + b * 17 + 1 + i]? = (paA (m.page b))[i]?) (ma : Option Addr) (mc : Nat) (L : List Int) (mn : Nat) (hL : L.length = mn) (seq o : Int) (hok : FtlOk bs L seq o) (v : Nat) (hv : v < n) (into : Int) (w : World) (hI : IntsAt w ma L) :
    Calls Try.prog 131 #[.agg A, .slice ma mn mc, .int .i64 (v : Int), .int .i64 into, .int .i64 seq] w fun e w' => ∃ r, e = .returned r ∧ OwnsCo w' (w.heap.size + 1) r (moveOps bs L (v : Int) into seq) ∧ Below w.heap.size w w' := by
  obtain ⟨i0, hi, hz0, hz1, hz2⟩ := info_parts infoChipOp
  have hn12 := hC.most
  have hmn : mn ≤ 36 := by have := hok.len36; omega
  have hsq := hok.seq
  have htp := hok.chip.top
  have h0 : 0 ≤ seq := by omega
  have h1 : seq ≤ 1000000000 := hsq.2
  obtain ⟨x, hx⟩ := getElem?_ex (l := bs) (k := v) (by have := hC.len; omega)
  have h4 := (hok.chip.block x (List.mem_of_getElem? hx)).four
  have hpg : ∀ k, k < 4 → pageIn bs (v : Int) k = m.page v k := fun k hk => by
    have e := ccBs_at m hv
    rw [hC.blocks, hx] at e
    cases e
    exact pageIn_of hx (ccPs_at m v hk)
  have hmv : ∀ k, k < 4 → movesAt bs L (v : Int) k = decide (((v : Int) * 4 + (k : Int)) ∈ L) := fun k hk => hok.moves (by omega) hk
  have HLD : Hid (∀ ty, ∀ j, j < 16 → (w.alloc (.cells A ty)).cell? ⟨w.heap.size, 1 + v * 17 + 1 + j, none⟩ = (paA (m.page v))[j]?) := fun ty j hj => (cell_of_row _ _ _ _ _ _ (Go.Deep.blk_alloc_new _ _)).trans (hAp v j (by omega) hj)
  have hvi : (v : Int) < 12 := by omega
  have HPG := hide hpg
  have HMV := hide hmv
  have HI := hide hI
  have HL := hide hL
  clear hok hC hAp hI hx hpg hmv hL hsq htp h4
  go_enter Try.func131, Try.ntmps131
  go_wp2_with (refine wpList_load_mid rfl 92 _ rfl w.heap.size (1 + v * 17 + 1) rfl (paA (m.page v)) 16 (paA_size _) (unhide HLD _) _ Try.underlying92 rfl sizePages ?_)
  obtain ⟨w0, hw0⟩ : ∃ w0, w0 = w.alloc (.cells A 97) := ⟨_, rfl⟩
  have hs0 : w0.heap.size = w.heap.size + 1 := by rw [hw0]; simp
  have hW0 : Below w.heap.size w w0 := by rw [hw0]; exact (Below.refl _ w).alloc (Nat.le_refl _) _
  rw [← hw0]
  have HS0 := hide hs0
  clear hw0 HLD hs0
  go_loopw [11, 19] (fun out i wr => ∃ k : Nat, k ≤ 4 ∧ i = .int .i64 k ∧ OwnsCo wr (w.heap.size + 1) out (movedTo bs L (v : Int) into seq k) ∧ Below w0.heap.size w0 wr) (fun _ i _ => 4 - (intOf i).toNat)
  case atStart => exact ⟨0, Nat.zero_le _, rfl, World.ownsRow_nil _ _ _ _, Below.refl _ _⟩
  case round =>
    obtain ⟨k, hk, rfl, hO, hB⟩ := hrel
    have hsr := hB.size
    have hml := movedTo_length bs L (v : Int) into seq k
    obtain ⟨q, hq⟩ : ∃ q, q = (movedTo bs L (v : Int) into seq k).length := ⟨_, rfl⟩
    rw [← hq] at hml
    obtain ⟨X, hX⟩ : ∃ X, X = (movedTo bs L (v : Int) into seq k).map coV := ⟨_, rfl⟩
    have hRr : wr.ownsRow (w.heap.size + 1) 131 1 u11 q X := by rw [hX, hq]; exact hO
    have HQ := hide (And.intro hX hq)
    have HO := hide hO
    have hW := hW0.trans (hB.mono hW0.size)
    have hsr' : w.heap.size + 1 ≤ wr.heap.size := by have := unhide HS0; omega
    obtain ⟨qa, qc, hu⟩ : ∃ qa qc, u11 = .slice qa q qc := by
      rcases hRr.2 with ⟨e1, e2⟩ | ⟨g, cap, cur, e1, _⟩
      · exact ⟨none, 0, by rw [e1, e2]⟩
      · exact ⟨_, _, e1⟩
    subst hu
    clear hq hX hO
    by_cases hlt : k < 4
    · have hidx := fun W => run_index_pages (P := Try.prog) W 92 28 (m.page v) k hlt Try.underlying92 _ Try.underlying28 rfl sizePage
      obtain ⟨p, hp⟩ : ∃ p, m.page v k = p := ⟨_, rfl⟩
      have HP := hide ((unhide HPG k hlt).trans hp)
      rw [hp] at hidx
      have HM := hide (unhide HMV k hlt)
      clear hp
      obtain ⟨u, lg, s, d⟩ := p
      simp only at hidx
      have hk4 : (k : Int) < 4 := by omega
      generalize paA (m.page v) = PA at hidx ⊢
      obtain ⟨w4, hw4⟩ : ∃ w4, w4 = wr.alloc (.cells #[.bool u, .int .i64 lg, .int .i64 s, .string d] 28) := ⟨_, rfl⟩
      have hB4 : Below wr.heap.size wr w4 := by rw [hw4]; exact (Below.refl _ wr).alloc (Nat.le_refl _) _
      have hs4 : w4.heap.size = wr.heap.size + 1 := by rw [hw4]; simp
      have hr4 : w4.heap[wr.heap.size]? = some (.cells #[.bool u, .int .i64 lg, .int .i64 s, .string d] 28 (0, 0)) := by rw [hw4]; exact Go.Deep.blk_alloc_new _ _
      have k0 := cell_of_row _ _ 0 _ _ _ hr4
      have k1 := cell_of_row _ _ 1 _ _ _ hr4
      have k2 := cell_of_row _ _ 2 _ _ _ hr4
      have k3 := cell_of_row _ _ 3 _ _ _ hr4
      have f2 := frozen_of_row _ _ 2 _ _ hr4
      simp at k0 k1 k2 k3
      have HI4 := hide ((unhide HI).below (hW.trans (hB4.mono hW.size)) (Nat.le_refl _))
      have HCT : Hid (Calls Try.prog 148 #[.slice ma mn mc, .int .i64 ((v : Int) * 4 + (k : Int))] w4 fun e w' => e = .returned (.bool (decide (((v : Int) * 4 + (k : Int)) ∈ L))) ∧ w' = w4) := by
        have := contains_any ma mc L ((v : Int) * 4 + (k : Int)) w4 (unhide HI4) (by have := unhide HL; omega)
        rw [unhide HL] at this
        exact this
      clear hr4
      go_wp2_with fail
      rw [← hw4]
      clear hw4
      refine (unhide HCT).mono ?_
      rintro e w5 ⟨rfl, rfl⟩
      rw [← unhide HM]
      cases hmo : movesAt bs L (v : Int) k with
      | false =>
        go_wp2
        go_roundw
        case rel => exact ⟨k + 1, by omega, by go_num, by rw [movedTo_not hmo]; exact (unhide HO).kept hB4, hB.trans (hB4.mono hB.size)⟩
        case measure => simp [intOf]; omega
      | true =>
        obtain ⟨w6, hw6⟩ : ∃ w6, w6 = w5.setCell ⟨wr.heap.size, 2, none⟩ (.int .i64 (seq + (q : Int))) := ⟨_, rfl⟩
        have hB6 : Below wr.heap.size wr w6 := by rw [hw6]; exact hB4.setCell (Nat.le_refl _) _
        have hs6 : w6.heap.size = wr.heap.size + 1 := by rw [hw6]; simpa [World.setCell] using hs4
        have j0 : w6.cell? ⟨wr.heap.size, 0, none⟩ = some (.bool u) := by rw [hw6, World.cell?_setCell_other _ _ _ _ (by simp)]; exact k0
        have j1 : w6.cell? ⟨wr.heap.size, 1, none⟩ = some (.int .i64 lg) := by rw [hw6, World.cell?_setCell_other _ _ _ _ (by simp)]; exact k1
        have j2 : w6.cell? ⟨wr.heap.size, 2, none⟩ = some (.int .i64 (seq + (q : Int))) := by rw [hw6]; exact World.cell?_setCell_same' _ _ _ (by rw [k2]; rfl)
        have j3 : w6.cell? ⟨wr.heap.size, 3, none⟩ = some (.string d) := by rw [hw6, World.cell?_setCell_other _ _ _ _ (by simp)]; exact k3
        go_upto_region 7 with fail
        rw [← hw6]
        clear hw6
        have hRw : w6.ownsRow (w.heap.size + 1) 131 1 (.slice qa q qc) q X := by have := (unhide HO).kept hB6; obtain ⟨e1, e2⟩ := unhide HQ; rw [e1, e2]; rw [e2] at this; exact this
        clear k0 k1 k2 k3 f2 HCT HI4 hidx
        go_wp2_with (refine wpList_append_lies _ rfl (.tmp 34) (.tmp 39) 125 rfl (w.heap.size + 1) 131 i0 _ 1 16 Try.underlying125 hi hz0 hz1 hz2 rfl (by decide) (.slice qa q qc) q X (by simp [Act.eval]) (by exact hRw.alloc _) ⟨w6.heap.size, 0, none⟩ 1 1 [progV into ⟨u, lg, seq + (q : Int), d⟩] (by simp [Act.eval]) rfl (World.news_of_block (cs := #[progV into ⟨u, lg, seq + (q : Int), d⟩]) (t := 131) (fr := (0, 0)) (by exact Go.Deep.blk_alloc_new _ _)) (by simp [Value.oneCell', progV]) (by omega) (by unfold maxLen; omega) (by omega) (by simp; omega) (w6.heap.size + 1) (by simp) ?_; intro g1 cap wE hown hgrow hat hlt1)
        go_roundw
        case rel =>
          have hBE : Below (w.heap.size + 1) w6 wE := Below.grown ((Below.refl _ w6).alloc (by omega) _) hgrow (by simp; omega) (fun j e => (hRw.lt j e).1)
          refine ⟨k + 1, by omega, by go_num, ?_, (hB.trans (hB6.mono hB.size)).trans (hBE.mono (Nat.le_of_eq (unhide HS0)))⟩
          obtain ⟨e1, e2⟩ := unhide HQ
          rw [movedTo_yes hmo, ← e2, unhide HP]
          unfold OwnsCo
          rw [List.length_append, List.map_append, ← e1, ← e2]
          simpa [coV] using hown
        case measure => simp [intOf]; omega
    · obtain rfl : k = 4 := by omega
      generalize paA (m.page v) = PA
      go_wp2_with (refine wpList_append_lies _ rfl (.tmp 42) (.tmp 46) 125 rfl (w.heap.size + 1) 131 i0 _ 1 16 Try.underlying125 hi hz0 hz1 hz2 rfl (by decide) (.slice qa q qc) q X (by simp [Act.eval]) (by exact hRr.alloc _) ⟨wr.heap.size, 0, none⟩ 1 1 [eraV (v : Int)] (by simp [Act.eval]) rfl (World.news_of_block (cs := #[eraV (v : Int)]) (t := 131) (fr := (0, 0)) (by exact Go.Deep.blk_alloc_new _ _)) (by simp [Value.oneCell', eraV]) (by omega) (by unfold maxLen; omega) (by omega) (by simp; omega) (wr.heap.size + 1) (by simp) ?_; intro g1 cap wE hown hgrow hat hlt1)
      go_ret
      refine ⟨_, rfl, ?_, ?_⟩
      · obtain ⟨e1, e2⟩ := unhide HQ
        unfold moveOps OwnsCo
        rw [List.length_append, List.map_append, ← e1, ← e2]
        simpa [coV] using hown
      · have hBE : Below (w.heap.size + 1) wr wE := Below.grown ((Below.refl _ wr).alloc (by omega) _) hgrow (by simp; omega) (fun j e => (hRr.lt j e).1)
        exact hW.trans (hBE.mono (by omega))
end Go.Proofs.Ytalgkmellbamgaa
