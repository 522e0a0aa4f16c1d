/- 1 texts in one. -/
import Derived.Test.YtjgcjeaplckbbaaGreatG28
import Derived.Test.YtjgcjeaplckbbaaGreatG13

/- Ops done one by one: the program's afterAll. -/
namespace Go.Proofs.YtjgcjeaplckbbaaGreat
open Go.RowKit
set_option linter.unusedVariables false
set_option linter.unusedSimpArgs false

/-- What afterAll answers. -/
def AllRet (bs : List Bk) (xs : List Opn) (e : Ending) : Prop :=
  ∃ (m2 : CC) (r : Bool), e = .returned (.tuple #[.agg (ccA m2), .bool r]) ∧ (r = true → m2.count = bs.length ∧ Runs bs xs (ccBs m2 bs.length)) ∧ (r = false → ¬ ∃ o, Runs bs xs o)

theorem AllRet.no {bs : List Bk} {xs : List Opn} (h : ¬ ∃ o, Runs bs xs o) : AllRet bs xs (.returned (.tuple #[.agg Tryz.zeroCells57, .bool false])) :=
  ⟨newCC 0, false, by rw [zeroCC], (fun h => by cases h), fun _ => h⟩

/-- How the walk stands behind k ops. -/
def AllI (w : World) (bs : List Bk) (xs : List Opn) (k : Nat) (wr : World) : Prop :=
  ∃ (mk : CC), wr.heap[w.heap.size]? = some (.cells (ccA mk) 57 (0, 0)) ∧ mk.count = bs.length ∧ ChipOk (ccBs mk bs.length) ∧ Runs bs (xs.take k) (ccBs mk bs.length)

set_option maxRecDepth 100000 in
set_option maxHeartbeats 4000000 in
theorem afterAll_any (bs : List Bk) (hok : ChipOk bs) (m : CC) (hct : m.count = bs.length) (hbs : ccBs m bs.length = bs) (la : Option Addr) (lc : Nat) (xs : List Opn) (n : Nat) (hn : xs.length = n) (hn20 : n ≤ 1048576) (w : World) (h : CoAt w la xs) :
    Calls Tryz.prog 28 #[.agg (ccA m), .slice la n lc] w fun e w' => AllRet bs xs e ∧ Below w.heap.size w w' := by
  have hb0 : ∀ o1 o2, Below w.heap.size w ((w.alloc o1).alloc o2) := fun o1 o2 => ((Below.refl _ w).alloc (Nat.le_refl _) _).alloc (by simp) _
  have HAI : Hid (AllI w bs xs 0 ((w.alloc (.cells (ccA m) 57)).alloc (.cells Tryz.zeroCells57 57))) := ⟨m, (Below.heap_alloc _ _ _ (by simp)).trans (World.alloc_heap_new _ _), hct, by rw [hbs]; exact hok, hbs⟩
  have HN := hide hn
  have HX := hide h
  have hAs := ccA_size m
  obtain ⟨A, hA⟩ : ∃ A, A = ccA m := ⟨_, rfl⟩
  rw [← hA] at HAI hAs ⊢
  clear hA hok hct hbs hn h
  go_enter Tryz.func28, Tryz.ntmps28
  go_wp2
  go_loopw [12] (fun i wr => ∃ k : Nat, k ≤ n ∧ i = .int .i64 k ∧ AllI w bs xs k wr ∧ wr.heap[w.heap.size + 1]? = some (.cells Tryz.zeroCells57 57 (0, 0)) ∧ Below w.heap.size w wr) (fun i _ => n - (intOf i).toNat)
  case atStart => exact ⟨0, Nat.zero_le _, rfl, unhide HAI, heap_alloc2_new _ _ _, hb0 _ _⟩
  case round =>
    obtain ⟨k, hk, rfl, hI, hz, hB⟩ := hrel
    obtain ⟨mk, hr, hct, hok, hR⟩ := hI
    have hsz : w.heap.size + 1 < wr.heap.size := (Array.getElem?_eq_some_iff.1 hz).1
    by_cases hlt : k < n
    · obtain ⟨x, hx⟩ := getElem?_ex (l := xs) (k := k) (by have := unhide HN; omega)
      obtain ⟨b1, o1, v, rfl, hcv, hv⟩ := ((unhide HX).below hB (Nat.le_refl _)) k x hx
      have hlen : (ccBs mk bs.length).length = bs.length := ccBs_length _ _
      have HAF : Hid (∀ W, Calls Tryz.prog 63 #[.agg (ccA mk), v] W fun e w' => AfterRet (ccBs mk bs.length) x e ∧ Below W.heap.size W w') := fun W => after_any (ccBs mk bs.length) hok mk (by rw [hlen]; exact hct) (by rw [hlen]) x v hv W
      have HSZ := hide (sizeCC mk)
      have hAk := ccA_size mk
      have HR0 := hide hr
      have HZ0 := hide hz
      have HRUN := hide hR
      have HXK := hide hx
      have hkn : (k : Int) < (n : Int) := by omega
      obtain ⟨Ak, hA⟩ : ∃ Ak, Ak = ccA mk := ⟨_, rfl⟩
      rw [← hA] at HAF HSZ hAk HR0
      have hvv : ∃ ty u, v = .iface ty u := by
        rcases hv with ⟨_, rfl⟩ | ⟨_, _, rfl⟩
        · exact ⟨_, _, rfl⟩
        · exact ⟨_, _, rfl⟩
      obtain ⟨ty, u, rfl⟩ := hvv
      clear hA hr hz hR hx hv hct hlen
      go_wp2_with fail
      refine wp_load_row 57 _ rfl w.heap.size rfl 57 Ak (0, 0) _ (unhide HR0) Tryz.underlying57 rfl (unhide HSZ) ?_
      go_wp2_with fail
      refine (unhide HAF _).mono ?_
      rintro e w1 ⟨⟨m2, code, rfl, hc2, h1, h2⟩, hB1⟩
      have hle : (ccBs mk bs.length).length = bs.length := ccBs_length _ _
      rw [hle] at hc2 h1
      have hs1 := hB1.size
      have hW1 := hB.trans (hB1.mono hB.size)
      have hr1 := (hB1.block w.heap.size (by omega)).trans (unhide HR0)
      have hz1 := (hB1.block (w.heap.size + 1) (by omega)).trans (unhide HZ0)
      have hsc := store_cc m2 w1
      have hA2s := ccA_size m2
      have HSZ2 := hide (sizeCC m2)
      have HONE := hide (ccA_one m2)
      obtain ⟨W2, hW2⟩ : ∃ W2, W2 = w1.alloc (.cells (ccA m2) 57) := ⟨_, rfl⟩
      have hs2 : w1.heap.size < W2.heap.size := by rw [hW2]; simp
      have hBW : Below w1.heap.size w1 W2 := by rw [hW2]; exact (Below.refl _ w1).alloc (Nat.le_refl _) _
      have hrn : W2.heap[w1.heap.size]? = some (.cells (ccA m2) 57 (0, 0)) := by rw [hW2]; exact World.alloc_heap_new _ _
      rw [← hW2] at hsc
      have hr2 := (hBW.block w.heap.size (by omega)).trans hr1
      have hz2 := (hBW.block (w.heap.size + 1) (by omega)).trans hz1
      have hWW := hW1.trans (hBW.mono hW1.size)
      by_cases hcode : code = 0
      · subst hcode
        have hstep := h1 rfl
        have HNEXT : Hid (AllI w bs xs (k + 1) (W2.setRow w.heap.size (ccA m2))) := ⟨m2, setRow_heap _ _ _ _ _ _ hr2, hc2, hstep.ok.2, runs_next (unhide HXK) (unhide HRUN) hstep⟩
        have hstT := store_row Tryz.prog W2 w.heap.size 57 Ak (ccA m2) hr2 (by rw [hAk, ccA_size]) (ccA_one m2)
        have HZ3 : Hid ((W2.setRow w.heap.size (ccA m2)).heap[w.heap.size + 1]? = some (.cells Tryz.zeroCells57 57 (0, 0))) := by rw [setRow_other _ _ _ _ (by omega)]; exact hz2
        have HB3 : Hid (Below w.heap.size w (W2.setRow w.heap.size (ccA m2))) := Below.setRow hWW (Nat.le_refl _) _
        have HRN := hide hrn
        obtain ⟨A2, hA2⟩ : ∃ A2, A2 = ccA m2 := ⟨_, rfl⟩
        rw [← hA2] at hsc hA2s HSZ2 HNEXT hstT HZ3 HB3 HRN ⊢
        obtain ⟨W3, hW3⟩ : ∃ W3, W3 = W2.setRow w.heap.size A2 := ⟨_, rfl⟩
        rw [← hW3] at HNEXT hstT HZ3 HB3
        clear hA2 hW3 hrn hr1 hz1 hr2 hz2 h1 h2 hc2 hW2 hstep HAF HR0 HZ0 HONE hcv
        go_wp2_with fail
        refine wp_load_row 57 _ rfl w1.heap.size rfl 57 A2 (0, 0) _ (unhide HRN) Tryz.underlying57 rfl (unhide HSZ2) ?_
        go_wp2
        go_roundw
        case rel => exact ⟨k + 1, by omega, by go_num, unhide HNEXT, unhide HZ3, unhide HB3⟩
        case measure => simp [intOf]; omega
      · have hne : (code != 0) = true := by simpa using hcode
        have hno := h2 hcode
        have hstF := store_same Tryz.prog W2 (w.heap.size + 1) 57 Tryz.zeroCells57 hz2 zeroCC_one
        have hldF := run_loadVar_row (P := Tryz.prog) W2 (w.heap.size + 1) 57 57 Tryz.zeroCells57 (0, 0) _ hz2 Tryz.underlying57 rfl (by rw [zeroCC_size]; exact sizeCC')
        have HLF := hide hldF
        have HNO := hide (runs_stop (unhide HXK) (unhide HRUN) hno)
        obtain ⟨A2, hA2⟩ : ∃ A2, A2 = ccA m2 := ⟨_, rfl⟩
        rw [← hA2] at hsc hA2s ⊢
        clear hA2 hrn hr1 hz1 hr2 hz2 h1 h2 hc2 hW2 hno HAF HR0 HZ0 HONE hcv hldF HSZ2
        go_wp2
        exact bodyPost_ret (results_cell_slot 4 57 5 Tryz.results28 _ _ _ _ _ rfl (unhide HLF) rfl) rfl ⟨AllRet.no (unhide HNO), hWW⟩
    · obtain rfl : k = n := by omega
      have hstT := store_row Tryz.prog wr (w.heap.size + 1) 57 Tryz.zeroCells57 (ccA mk) hz (by rw [zeroCC_size, ccA_size]) (ccA_one mk)
      have hldT := run_loadVar_row (P := Tryz.prog) (wr.setRow (w.heap.size + 1) (ccA mk)) (w.heap.size + 1) 57 57 (ccA mk) (0, 0) _ (setRow_heap _ _ _ _ _ _ hz) Tryz.underlying57 rfl (sizeCC _)
      have hB5 : Below w.heap.size w (wr.setRow (w.heap.size + 1) (ccA mk)) := Below.setRow hB (by omega) _
      have hall : Runs bs xs (ccBs mk bs.length) := by
        rw [← unhide HN, List.take_length] at hR
        exact hR
      have HFIN : Hid (AllRet bs xs (.returned (.tuple #[.agg (ccA mk), .bool true]))) := ⟨mk, true, rfl, fun _ => ⟨hct, hall⟩, fun h => by cases h⟩
      have HSZ := hide (sizeCC mk)
      have HR0 := hide hr
      have hAk := ccA_size mk
      obtain ⟨W5, hW5⟩ : ∃ W5, W5 = wr.setRow (w.heap.size + 1) (ccA mk) := ⟨_, rfl⟩
      rw [← hW5] at hstT hldT hB5
      obtain ⟨Ak, hA⟩ : ∃ Ak, Ak = ccA mk := ⟨_, rfl⟩
      rw [← hA] at hstT hldT HFIN HSZ HR0 hAk
      have HLT := hide hldT
      clear hA hW5 hldT hz hr hR hall hct hok
      go_wp2_with fail
      refine wp_load_row 57 _ rfl w.heap.size rfl 57 Ak (0, 0) _ (unhide HR0) Tryz.underlying57 rfl (unhide HSZ) ?_
      go_wp2
      exact bodyPost_ret (results_cell_slot 4 57 5 Tryz.results28 _ _ _ _ _ rfl (unhide HLT) rfl) rfl ⟨unhide HFIN, hB5⟩
end Go.Proofs.YtjgcjeaplckbbaaGreat
