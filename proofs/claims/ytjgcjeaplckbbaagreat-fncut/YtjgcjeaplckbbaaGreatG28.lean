/- 1 texts in one. -/
import Derived.Test.YtjgcjeaplckbbaaGreatG21
import Derived.Test.YtjgcjeaplckbbaaGreatG10
import Derived.Test.YtjgcjeaplckbbaaGreatG09

/- Ops done one by one: the program's after and afterAll. -/
namespace Go.Proofs.YtjgcjeaplckbbaaGreat
open Go.RowKit
set_option linter.unusedVariables false
set_option linter.unusedSimpArgs false

theorem ta_prog (b : Int) (u : Bool) (l s : Int) (d : ByteArray) (W : World) : (Instr.typeAssert (.iface 101 (.agg #[.int .i64 b, .bool u, .int .i64 l, .int .i64 s, .string d])) 91 101 true).run Tryz.prog W = .ok (.tuple #[.agg #[.int .i64 b, .bool u, .int .i64 l, .int .i64 s, .string d], .bool true]) W := by kernel_rfl
theorem ta_era_no (b : Int) (W : World) : (Instr.typeAssert (.iface 136 (.agg #[.int .i64 b])) 91 101 true).run Tryz.prog W = .ok (.tuple #[.agg #[.int .i64 0, .bool false, .int .i64 0, .int .i64 0, .string ⟨#[]⟩], .bool false]) W := by kernel_rfl
theorem ta_era (b : Int) (W : World) : (Instr.typeAssert (.iface 136 (.agg #[.int .i64 b])) 91 136 true).run Tryz.prog W = .ok (.tuple #[.agg #[.int .i64 b], .bool true]) W := by kernel_rfl

/-- What after answers. -/
def AfterRet (bs : List Bk) (x : Opn) (e : Ending) : Prop :=
  ∃ (m2 : CC) (code : Int), e = .returned (.tuple #[.agg (ccA m2), .int .i64 code]) ∧ m2.count = bs.length ∧ (code = 0 → OpStep bs x (ccBs m2 bs.length)) ∧ (code ≠ 0 → ¬ ∃ o, OpStep bs x o)

set_option maxRecDepth 100000 in
set_option maxHeartbeats 4000000 in
theorem after_program (bs : List Bk) (hok : ChipOk bs) (m : CC) (hct : m.count = bs.length) (hbs : ccBs m bs.length = bs) (x : Opn) (hk : x.kind = 1) (w : World) :
    Calls Tryz.prog 63 #[.agg (ccA m), progV x.block x.page] w fun e w' => AfterRet bs x e ∧ Below w.heap.size w w' := by
  obtain ⟨xk, xb, xu, xl, xs, xd⟩ := x
  simp only at hk
  subst hk
  unfold progV
  have HPR : Hid (∀ W, Calls Tryz.prog 87 #[.agg (ccA m), .int .i64 xb, .agg #[.bool xu, .int .i64 xl, .int .i64 xs, .string xd]] W fun e w' => ∃ m2 code, e = .returned (.tuple #[.agg (ccA m2), .int .i64 code]) ∧ m2.count = bs.length ∧ ProgIs bs xb ⟨xu, xl, xs, xd⟩ (ccBs m2 bs.length) code ∧ Below W.heap.size W w') := fun W => programmed_any bs hok m hct hbs xb xu xl xs xd W
  have hAs := ccA_size m
  have HSZ := hide (sizeCC m)
  obtain ⟨A, hA⟩ : ∃ A, A = ccA m := ⟨_, rfl⟩
  rw [← hA] at HPR hAs HSZ ⊢
  have hb0 : ∀ o1 o2, Below w.heap.size w ((w.alloc o1).alloc o2) := fun o1 o2 => ((Below.refl _ w).alloc (Nat.le_refl _) _).alloc (by simp) _
  have HOK := hide hok
  clear hA hok hct hbs
  have hta := ta_prog xb xu xl xs xd
  go_enter Tryz.func63, Tryz.ntmps63
  go_wp2_with fail
  refine wp_load_row 57 _ rfl w.heap.size rfl 57 A (0, 0) _ ?row Tryz.underlying57 rfl (unhide HSZ) ?_
  case row => exact (Below.heap_alloc _ _ _ (by simp; omega)).trans ((Below.heap_alloc _ _ _ (by simp)).trans (World.alloc_heap_new w _))
  go_wp2_with fail
  refine (unhide HPR _).mono ?_
  rintro e w1 ⟨m2, code, rfl, hc2, hP, hB1⟩
  have hs1 := hB1.size
  simp at hs1
  have hz1 : w1.heap[w.heap.size + 1]? = some (.cells Tryz.zeroCells57 57 (0, 0)) := (hB1.block _ (by simp)).trans (heap3 w _ _ _).2.1
  have hW1 : Below w.heap.size w w1 := ((hb0 _ _).alloc (by simp; omega) _).trans (hB1.mono (by simp; omega))
  have hst := store_row Tryz.prog w1 (w.heap.size + 1) 57 Tryz.zeroCells57 (ccA m2) hz1 (by rw [zeroCC_size, ccA_size]) (ccA_one m2)
  have hld := run_loadVar_row (P := Tryz.prog) (w1.setRow (w.heap.size + 1) (ccA m2)) (w.heap.size + 1) 57 57 (ccA m2) (0, 0) _ (setRow_heap _ _ _ _ _ _ hz1) Tryz.underlying57 rfl (sizeCC _)
  have hB5 : Below w.heap.size w (w1.setRow (w.heap.size + 1) (ccA m2)) := Below.setRow hW1 (by omega) _
  obtain ⟨W5, hW5⟩ : ∃ W5, W5 = w1.setRow (w.heap.size + 1) (ccA m2) := ⟨_, rfl⟩
  rw [← hW5] at hst hld hB5
  clear hW5
  have hA2s := ccA_size m2
  have HFIN : Hid (AfterRet bs ⟨1, xb, ⟨xu, xl, xs, xd⟩⟩ (.returned (.tuple #[.agg (ccA m2), .int .i64 code]))) := ⟨m2, code, rfl, hc2, fun h0 => .inl ⟨rfl, h0 ▸ hP⟩, fun h0 ⟨o, ho⟩ => by
    rcases ho with ⟨_, h2⟩ | ⟨h1, _⟩
    · exact h0 (hP.one h2).2
    · simp at h1⟩
  obtain ⟨A2, hA2⟩ : ∃ A2, A2 = ccA m2 := ⟨_, rfl⟩
  rw [← hA2] at hst hld hA2s HFIN ⊢
  have HLD := hide hld
  clear hld hz1 hP hB1 hA2 hc2 hb0 HPR
  go_wp2
  exact bodyPost_ret (results_cell_slot 4 57 5 Tryz.results63 _ _ _ _ _ rfl (unhide HLD) rfl) rfl ⟨unhide HFIN, hB5⟩

set_option maxRecDepth 100000 in
set_option maxHeartbeats 4000000 in
theorem after_erase (bs : List Bk) (hok : ChipOk bs) (m : CC) (hct : m.count = bs.length) (hbs : ccBs m bs.length = bs) (x : Opn) (hk : x.kind = 2) (hz : isZero x.page = true) (w : World) :
    Calls Tryz.prog 63 #[.agg (ccA m), eraV x.block] w fun e w' => AfterRet bs x e ∧ Below w.heap.size w w' := by
  obtain ⟨xk, xb, p⟩ := x
  simp only at hk hz
  subst hk
  unfold eraV
  have HPR : Hid (∀ W, Calls Tryz.prog 88 #[.agg (ccA m), .int .i64 xb] W fun e w' => ∃ m2 code, e = .returned (.tuple #[.agg (ccA m2), .int .i64 code]) ∧ m2.count = bs.length ∧ ErasedIs bs xb (ccBs m2 bs.length) code ∧ Below W.heap.size W w') := fun W => erased_any bs hok m hct hbs xb W
  have hAs := ccA_size m
  have HSZ := hide (sizeCC m)
  obtain ⟨A, hA⟩ : ∃ A, A = ccA m := ⟨_, rfl⟩
  rw [← hA] at HPR hAs HSZ ⊢
  have hb0 : ∀ o1 o2, Below w.heap.size w ((w.alloc o1).alloc o2) := fun o1 o2 => ((Below.refl _ w).alloc (Nat.le_refl _) _).alloc (by simp) _
  have HZP := hide hz
  clear hA hok hct hbs hz
  have hta := ta_era_no xb
  have htb := ta_era xb
  go_enter Tryz.func63, Tryz.ntmps63
  go_wp2_with fail
  refine wp_load_row 57 _ rfl w.heap.size rfl 57 A (0, 0) _ ?row Tryz.underlying57 rfl (unhide HSZ) ?_
  case row => exact (Below.heap_alloc _ _ _ (by simp; omega)).trans ((Below.heap_alloc _ _ _ (by simp)).trans (World.alloc_heap_new w _))
  go_wp2_with fail
  refine (unhide HPR _).mono ?_
  rintro e w1 ⟨m2, code, rfl, hc2, hP, hB1⟩
  have hs1 := hB1.size
  simp at hs1
  have hz1 : w1.heap[w.heap.size + 1]? = some (.cells Tryz.zeroCells57 57 (0, 0)) := (hB1.block _ (by simp)).trans (heap3 w _ _ _).2.1
  have hW1 : Below w.heap.size w w1 := ((hb0 _ _).alloc (by simp; omega) _).trans (hB1.mono (by simp; omega))
  have hst := store_row Tryz.prog w1 (w.heap.size + 1) 57 Tryz.zeroCells57 (ccA m2) hz1 (by rw [zeroCC_size, ccA_size]) (ccA_one m2)
  have hld := run_loadVar_row (P := Tryz.prog) (w1.setRow (w.heap.size + 1) (ccA m2)) (w.heap.size + 1) 57 57 (ccA m2) (0, 0) _ (setRow_heap _ _ _ _ _ _ hz1) Tryz.underlying57 rfl (sizeCC _)
  have hB5 : Below w.heap.size w (w1.setRow (w.heap.size + 1) (ccA m2)) := Below.setRow hW1 (by omega) _
  obtain ⟨W5, hW5⟩ : ∃ W5, W5 = w1.setRow (w.heap.size + 1) (ccA m2) := ⟨_, rfl⟩
  rw [← hW5] at hst hld hB5
  clear hW5
  have hA2s := ccA_size m2
  have HFIN : Hid (AfterRet bs ⟨2, xb, p⟩ (.returned (.tuple #[.agg (ccA m2), .int .i64 code]))) := ⟨m2, code, rfl, hc2, fun h0 => .inr ⟨rfl, h0 ▸ hP, unhide HZP⟩, fun h0 ⟨o, ho⟩ => by
    rcases ho with ⟨h1, _⟩ | ⟨_, h2, _⟩
    · simp at h1
    · exact h0 (hP.one h2).2⟩
  obtain ⟨A2, hA2⟩ : ∃ A2, A2 = ccA m2 := ⟨_, rfl⟩
  rw [← hA2] at hst hld hA2s HFIN ⊢
  have HLD := hide hld
  clear hld hz1 hP hB1 hA2 hc2 hb0 HPR
  go_wp2
  exact bodyPost_ret (results_cell_slot 4 57 5 Tryz.results63 _ _ _ _ _ rfl (unhide HLD) rfl) rfl ⟨unhide HFIN, hB5⟩

theorem after_any (bs : List Bk) (hok : ChipOk bs) (m : CC) (hct : m.count = bs.length) (hbs : ccBs m bs.length = bs) (x : Opn) (v : Value) (hv : StandsFor v x) (w : World) :
    Calls Tryz.prog 63 #[.agg (ccA m), v] w fun e w' => AfterRet bs x e ∧ Below w.heap.size w w' := by
  rcases hv with ⟨hk, rfl⟩ | ⟨hk, hz, rfl⟩
  · exact after_program bs hok m hct hbs x hk w
  · exact after_erase bs hok m hct hbs x hk hz w
end Go.Proofs.YtjgcjeaplckbbaaGreat
