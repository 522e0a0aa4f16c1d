/- 4 texts in one. -/
import Derived.Test.YtjgcjeaplckbbaaGreatG25
import Derived.Test.YtjgcjeaplckbbaaGreatG21
import Derived.Test.YtjgcjeaplckbbaaGreatG24
import Derived.Test.YtjgcjeaplckbbaaGreatG06
import Derived.WalkKit
import Derived.Outline
import Derived.BigQuiet
import Derived.Deep.DeepCutAuto
import Derived.Test.YtjgcjeaplckbbaaGreatG17
import Derived.Test.YtjgcjeaplckbbaaGreatG14

/- OpsOf of the program, with the capacity of its list. -/
namespace Go.Proofs.YtjgcjeaplckbbaaGreat
open Go.RowKit
set_option linter.unusedVariables false
set_option linter.unusedSimpArgs false

set_option maxRecDepth 100000 in
set_option maxHeartbeats 2000000 in
theorem implOpsOf_cap (a : Option Addr) (c : Nat) (bs : List Bk) (n : Nat) (hl : bs.length = n) (ma : Option Addr) (mc : Nat) (L : List Int) (mn : Nat) (hL : L.length = mn) (seq o lg : Int) (data : ByteArray) (w : World) (h : BlocksAt w a bs) (hn : Lens 9223372036854775807 bs) (hI : IntsAt w ma L) (hmn : mn ≤ 9223372036854775807) (hd : data.size ≤ 1048576) :
    Calls Tryz.prog 6 #[.agg #[.slice a n c, .slice ma mn mc, .int .i64 seq, .int .i64 o], .int .i64 lg, .string data] w fun e w' => ∃ a1 c1 xs r, e = .returned (.tuple #[.slice a1 xs.length c1, .bool r]) ∧ OpsOfIs bs L seq o lg data xs r ∧ OpsMine w' w.heap.size w'.heap.size a1 c1 xs ∧ xs.length ≤ c1 ∧ Below w.heap.size w w' := by
  have hb0 : ∀ o, Below w.heap.size w (w.alloc o) := fun o => (Below.refl _ w).alloc (Nat.le_refl _) _
  go_enter Tryz.func6, Tryz.ntmps6
  go_wp2_with fail
  refine (rightCells_any a c bs n hl ma mc L mn hL seq o _ (h.below (hb0 _) (Nat.le_refl _)) hn (hI.below (hb0 _) (Nat.le_refl _)) hmn).mono ?_
  rintro e w1 ⟨⟨m, r, rfl, hr, hm⟩, hB1⟩
  have hW1 : Below w.heap.size w w1 := (hb0 _).trans (hB1.mono (by simp))
  have hs1 := hB1.size
  simp at hs1
  have hx : ∀ i, w1.cell? ⟨w.heap.size, i, none⟩ = (#[Value.slice a n c, .slice ma mn mc, .int .i64 seq, .int .i64 o])[i]? := fun i => by
    rw [hB1.cell (p := ⟨w.heap.size, i, none⟩) (by simp)]
    simp
  have hsc := store_cc m w1
  have hAs := ccA_size m
  have HSZ := hide (sizeCC m)
  have HR := hide hr
  have HM := hide hm
  have HI := hide hI
  have HL := hide hl
  have HLL := hide hL
  have HAP := hide (fun b i hb hi => ccA_pages m (b := b) (i := i) hb hi)
  have HCI : Hid (∀ hc : m.count = bs.length, ∀ hb : ccBs m bs.length = bs, n ≤ 12 → CellsIs (ccA m) m bs n) := fun hc hb h12 => CellsIs.of hl h12 hc hb
  generalize ccA m = A at hsc hAs HSZ HAP HCI ⊢
  clear hr hm h hn hB1 hb0 hI hl hL
  cases r with
  | false =>
    clear hx
    go_wp2
    exact bodyPost_ret (v := .tuple #[.slice none 0 0, .bool false]) (by simp [results, Tryz.results6, go_sem]) rfl ⟨none, 0, [], false, rfl, .inr ⟨rfl, rfl, fun hc => by have := (unhide HR).2 hc.1; cases this⟩, .inl ⟨rfl, rfl⟩, Nat.zero_le _, hW1.alloc hW1.size _⟩
  | true =>
    have hok := (unhide HR).1 (by trivial)
    have hc12 : 4 ≤ n ∧ n ≤ 12 := by have := hok.chip.count; have := unhide HL; omega
    obtain ⟨hct, hbss⟩ := unhide HM (by trivial)
    have HC := hide (unhide HCI hct hbss hc12.2)
    have HOK := hide hok
    obtain ⟨w2, hw2⟩ : ∃ w2, w2 = w1.alloc (.cells A 57) := ⟨_, rfl⟩
    have hs2 : w1.heap.size < w2.heap.size := by rw [hw2]; simp
    have hB2 : Below w1.heap.size w1 w2 := by rw [hw2]; exact (Below.refl _ w1).alloc (Nat.le_refl _) _
    have HR2 : Hid (w2.heap[w1.heap.size]? = some (.cells A 57 (0, 0))) := by rw [hw2]; exact World.alloc_heap_new _ _
    have hW2 := hW1.trans (hB2.mono hW1.size)
    have hx2 : ∀ i, w2.cell? ⟨w.heap.size, i, none⟩ = (#[Value.slice a n c, .slice ma mn mc, .int .i64 seq, .int .i64 o])[i]? := fun i => (hB2.cell (p := ⟨w.heap.size, i, none⟩) (by show w.heap.size < _; omega)).trans (hx i)
    have c0 := hx2 0
    have c1 := hx2 1
    have c2 := hx2 2
    have c3 := hx2 3
    simp at c0 c1 c2 c3
    rw [← hw2] at hsc
    clear hok hct hbss HM hx hx2 hW1 hw2 HCI hB2
    go_wp2_with fail
    refine wp_load_row 57 _ rfl w1.heap.size rfl 57 A (0, 0) _ (unhide HR2) Tryz.underlying57 rfl (unhide HSZ) ?_
    go_wp2_with fail
    refine (writeRefusal_any A m bs n (unhide HC) hc12.1 seq lg data hd _).mono ?_
    rintro e w3 ⟨code, rfl, hcode, hB3⟩
    have hs3 := hB3.size
    have hW3 := hW2.trans (hB3.mono hW2.size)
    have d0 := (hB3.cell (p := ⟨w.heap.size, 0, none⟩) (by show w.heap.size < _; omega)).trans c0
    have d1 := (hB3.cell (p := ⟨w.heap.size, 1, none⟩) (by show w.heap.size < _; omega)).trans c1
    have d2 := (hB3.cell (p := ⟨w.heap.size, 2, none⟩) (by show w.heap.size < _; omega)).trans c2
    have d3 := (hB3.cell (p := ⟨w.heap.size, 3, none⟩) (by show w.heap.size < _; omega)).trans c3
    have HR3 := hide ((hB3.block w1.heap.size hs2).trans (unhide HR2))
    have HCODE := hide hcode
    clear hcode hB3 HR2 c0 c1 c2 c3 hsc hW2 hAs
    by_cases h0 : code = 0
    · subst h0
      have HFR : Hid (formOk bs lg data ∧ roomy bs seq) := by
        rcases unhide HCODE with ⟨h, _⟩ | ⟨h, _⟩ | ⟨_, h1, h2⟩
        · omega
        · omega
        · exact ⟨h1, h2⟩
      clear HCODE
      go_wp2_with (refine wpList_load_row rfl 57 _ rfl w1.heap.size rfl 57 A (0, 0) _ (unhide HR3) Tryz.underlying57 rfl (unhide HSZ) ?_)
      refine (writeOps_any A m bs n (unhide HC) (unhide HAP) (.slice a n c) ma mc L mn (unhide HLL) seq o lg data (unhide HOK) _ ((unhide HI).below hW3 (Nat.le_refl _))).mono ?_
      rintro e w4 ⟨q, rfl, hq, hB4⟩
      have hs4 := hB4.size
      have hW4 := hW3.trans (hB4.mono hW3.size)
      obtain ⟨qa, qc, rfl, hco⟩ := hq.form (goodOps_write _ _ _ _ _ _)
      have hlen := writeOps_length bs L seq o lg data
      have HCO := hide hco
      clear hB4 hq d0 d1 d2 d3 hco HR3
      go_wp2_with fail
      refine (toldOps_any qa qc (writeOps bs L seq o lg data) _ rfl _ (unhide HCO) (by omega)).mono ?_
      rintro e w5 ⟨rfl, hO5, hB5⟩
      have hW5 := hW4.trans (hB5.mono hW4.size)
      have HO5 := hide hO5
      have hlt5 : w4.heap.size < w5.heap.size := World.rowIs.lt hO5
      obtain ⟨M, hM⟩ : ∃ M, M = (writeOps bs L seq o lg data).length := ⟨_, rfl⟩
      rw [← hM]
      have HMM := hide hM
      clear hO5 hB5 HCO hM hlen
      go_wp2
      exact bodyPost_ret (v := .tuple #[.slice (some ⟨w4.heap.size, 0, none⟩) M M, .bool true]) (by simp [results, Tryz.results6, go_sem]) rfl ⟨_, M, writeOps bs L seq o lg data, true, by rw [unhide HMM], .inl ⟨rfl, ⟨unhide HOK, unhide HFR⟩, rfl⟩, .inr ⟨w4.heap.size, rfl, by omega, hlt5, unhide HO5⟩, by rw [unhide HMM]; exact Nat.le_refl _, hW5⟩
    · have hne : (code != 0) = true := by simpa using h0
      have HNO : Hid (¬ (formOk bs lg data ∧ roomy bs seq)) := by
        rcases unhide HCODE with ⟨_, h⟩ | ⟨_, _, h⟩ | ⟨h, _⟩
        · exact fun hc => h hc.1
        · exact fun hc => h hc.2
        · exact absurd h h0
      clear d0 d1 d2 d3
      go_wp2
      exact bodyPost_ret (v := .tuple #[.slice none 0 0, .bool false]) (by simp [results, Tryz.results6, go_sem]) rfl ⟨none, 0, [], false, rfl, .inr ⟨rfl, rfl, fun hc => unhide HNO hc.2⟩, .inl ⟨rfl, rfl⟩, Nat.zero_le _, hW3⟩
end Go.Proofs.YtjgcjeaplckbbaaGreat

/- Moves out of a block into one that has pages already: for chips that a member is recovered from. In plain lists; no program is named here. -/
namespace Go.Proofs.YtjgcjeaplckbbaaGreat
open Go.RowKit
set_option linter.unusedVariables false
set_option linter.unusedSimpArgs false

/-- A right chip with its map, and a Seq above all that it has. -/
structure MidOk (bs : List Bk) (L : List Int) (seq : Int) : Prop where
  chip : ChipOk bs
  fits : Fits bs
  map : L = placesOf (usedOf bs) (roomOf bs)
  seq : topSeq bs + 1 ≤ seq
theorem movedTo_mono (bs : List Bk) (L : List Int) (v into seq : Int) {k m : Nat} (h : k ≤ m) : (movedTo bs L v into seq k).length ≤ (movedTo bs L v into seq m).length := by
  induction m with
  | zero => have : k = 0 := by omega
            subst this; exact Nat.le_refl _
  | succ m ih =>
    by_cases e : k = m + 1
    · subst e; exact Nat.le_refl _
    · have := ih (by omega)
      simp only [movedTo, List.length_append]
      omega
theorem MidOk.moves {bs : List Bk} {L : List Int} {seq : Int} (h : MidOk bs L seq) {v : Int} (hv : 0 ≤ v) {k : Nat} (hk : k < 4) : movesAt bs L v k = decide ((v * 4 + (k : Int)) ∈ L) := by
  rw [Bool.eq_iff_iff]
  unfold movesAt
  simp only [Bool.and_eq_true, decide_eq_true_eq]
  constructor
  · rintro ⟨_, h2⟩
    exact List.mem_of_getElem? h2
  · intro hm
    have hm2 := hm
    rw [h.map] at hm
    unfold placesOf at hm
    simp only [List.mem_map, List.mem_range] at hm
    obtain ⟨i, hi, he⟩ := hm
    cases e : newestAt (usedOf bs) (i : Int) with
    | none => rw [e] at he; simp only [placeIn] at he; omega
    | some y =>
      rw [e] at he
      simp only [placeIn] at he
      obtain ⟨hmm, hlg⟩ := newestAt_mem e
      obtain ⟨_, _, _, _, _, b, k', z, hb, hp, hk', hy, hu⟩ := h.chip.usedRight hmm
      have e1 : v.toNat = b := by omega
      have e2 : k' = k := by omega
      subst e2
      have e3 : pageIn bs v k' = y.2 := by unfold pageIn; rw [e1]; exact mOf_page hb hp
      rw [e3]
      refine ⟨hu, ?_⟩
      rw [hlg, Int.toNat_natCast, h.map, placesOf_at _ _ hi, e]
      simp only [placeIn, he]
theorem MidOk.newestIn {bs : List Bk} {L : List Int} {seq : Int} (h : MidOk bs L seq) {l : Int} {y : Int × Pg} (hy : newestAt (usedOf bs) l = some y) : y.1 ∈ L := by
  obtain ⟨hm, hl⟩ := newestAt_mem hy
  have h1 := h.chip.usedRight hm
  have h2 := h.fits y hm
  obtain ⟨i, rfl⟩ := Int.eq_ofNat_of_zero_le (show 0 ≤ l by omega)
  have := placesOf_at (usedOf bs) (roomOf bs) (i := i) (by omega)
  rw [hy] at this
  rw [h.map]
  exact List.mem_of_getElem? this
theorem runs_movesG {bs : List Bk} {L : List Int} {seq : Int} (h : MidOk bs L seq) (hq : seq ≤ 999999990) {f : Nat} {wf : Int} {ps : List Pg} (hx : bs[f]? = some ⟨wf, padded ps⟩) (hps : ∀ p ∈ ps, p.used = true) {v : Nat} (hv : v < bs.length) (hfew : ps.length + (movedTo bs L (v : Int) (f : Int) seq 4).length ≤ 4) :
    ∀ k, k ≤ 4 → Runs bs (movedTo bs L (v : Int) (f : Int) seq k) (bs.set f ⟨wf, padded (ps ++ (movedTo bs L (v : Int) (f : Int) seq k).map (·.page))⟩) ∧ (∀ p ∈ ps ++ (movedTo bs L (v : Int) (f : Int) seq k).map (·.page), p.used = true) ∧
      ∀ s ∈ seqs (bs.set f ⟨wf, padded (ps ++ (movedTo bs L (v : Int) (f : Int) seq k).map (·.page))⟩), s < seq + ((movedTo bs L (v : Int) (f : Int) seq k).length : Int) := by
  have hf := (List.getElem?_eq_some_iff.1 hx).1
  have hsq := h.seq
  have htp := h.chip.top
  intro k
  induction k with
  | zero =>
    intro _
    have e : bs.set f ⟨wf, padded (ps ++ (movedTo bs L (v : Int) (f : Int) seq 0).map (·.page))⟩ = bs := by
      have e2 : (⟨wf, padded (ps ++ (movedTo bs L (v : Int) (f : Int) seq 0).map (·.page))⟩ : Bk) = ⟨wf, padded ps⟩ := by simp [movedTo]
      rw [e2, ← (List.getElem?_eq_some_iff.1 hx).2]
      exact List.set_getElem_self _
    rw [e]
    refine ⟨rfl, fun p hp => by simp [movedTo] at hp; exact hps p hp, fun s hs => ?_⟩
    have := h.chip.seqs_top hs
    simp [movedTo]
    omega
  | succ k ih =>
    intro hk
    obtain ⟨i1, i2, i3⟩ := ih (by omega)
    by_cases hm : movesAt bs L (v : Int) k = true
    · have e : movedTo bs L (v : Int) (f : Int) seq (k + 1) = movedTo bs L (v : Int) (f : Int) seq k ++ [⟨1, (f : Int), { pageIn bs (v : Int) k with seq := seq + ((movedTo bs L (v : Int) (f : Int) seq k).length : Int) }⟩] := by simp [movedTo, hm]
      have hln := movedTo_length bs L (v : Int) (f : Int) seq k
      have hmo := movedTo_mono bs L (v : Int) (f : Int) seq (k := k + 1) (m := 4) hk
      rw [e, List.length_append, List.length_singleton] at hmo
      rw [e]
      obtain ⟨M, hM⟩ : ∃ M, M = movedTo bs L (v : Int) (f : Int) seq k := ⟨_, rfl⟩
      rw [← hM] at i1 i2 i3 hln hmo ⊢
      obtain ⟨y, hy⟩ := getElem?_ex (l := bs) (k := v) hv
      have hyb := h.chip.block y (List.mem_of_getElem? hy)
      obtain ⟨p, hp⟩ := getElem?_ex (l := y.pages) (k := k) (by have := hyb.four; omega)
      have hpi := pageIn_of hy hp
      have hpu : p.used = true := by unfold movesAt at hm; rw [hpi] at hm; simp at hm; exact hm.1
      have hpr : rightUsed p = true := by have := hyb.page k p hp; unfold pgOk at this; rw [hpu] at this; simpa using this
      rw [hpi]
      have hr := rightUsed_seq hpr (s := seq + (M.length : Int)) (by omega) (by omega)
      have hst := step_prog (f := f) (wf := wf) (ps := ps ++ M.map (·.page)) (p := { p with seq := seq + (M.length : Int) }) (i1.ok h.chip) (by simp [hf]) (by simp; omega) i2 hr i3
      rw [List.set_set] at hst
      refine ⟨runs_snoc.2 ⟨_, i1, ?_⟩, fun q hq2 => ?_, fun s hs => ?_⟩
      · simpa using hst
      · simp only [List.map_append, List.map_cons, List.map_nil, List.mem_append, List.mem_singleton] at hq2
        rcases hq2 with hq2 | hq2 | rfl
        · exact i2 q (List.mem_append.2 (.inl hq2))
        · exact i2 q (List.mem_append.2 (.inr hq2))
        · exact hpu
      · rw [← List.set_set (a := (⟨wf, padded (ps ++ M.map (·.page))⟩ : Bk))] at hs
        rw [List.length_append]
        rcases seqs_set_mem hs with h1 | ⟨q, hq2, hqu, rfl⟩
        · have := i3 s h1; simp; omega
        · simp only [padded, List.map_append, List.map_cons, List.map_nil, List.mem_append, List.mem_singleton] at hq2
          have hq3 : q ∈ ps ++ M.map (·.page) ∨ q = { p with seq := seq + (M.length : Int) } ∨ q = zeroPg := by
            rcases hq2 with (h | h | h) | h
            · exact .inl (List.mem_append.2 (.inl h))
            · exact .inl (List.mem_append.2 (.inr h))
            · exact .inr (.inl h)
            · exact .inr (.inr (List.eq_of_mem_replicate h))
          rcases hq3 with hq2 | rfl | hq2
          · have hmem : q.seq ∈ seqs (bs.set f ⟨wf, padded (ps ++ M.map (·.page))⟩) := by
              obtain ⟨t, ht, rfl⟩ := List.getElem_of_mem hq2
              have h5 : (bs.set f (⟨wf, padded (ps ++ M.map (·.page))⟩ : Bk))[f]? = some ⟨wf, padded (ps ++ M.map (·.page))⟩ := by simp [hf]
              exact mem_seqs h5 (k := t) (by show (padded (ps ++ M.map (·.page)))[t]? = _; rw [padded_at ht]; exact List.getElem?_eq_getElem ht) hqu
            have := i3 _ hmem
            simp
            omega
          · simp
            omega
          · rw [hq2] at hqu
            cases hqu
    · have e : movedTo bs L (v : Int) (f : Int) seq (k + 1) = movedTo bs L (v : Int) (f : Int) seq k := by simp [movedTo, hm]
      rw [e]
      exact ⟨i1, i2, i3⟩
theorem moves_movedG {bs : List Bk} {L : List Int} {seq : Int} (h : MidOk bs L seq) (hq : seq ≤ 999999990) {f : Nat} {wf : Int} {ps : List Pg} (hx : bs[f]? = some ⟨wf, padded ps⟩) (hps : ∀ p ∈ ps, p.used = true) {v : Nat} (hv : v < bs.length) (hfew : ps.length + (movedTo bs L (v : Int) (f : Int) seq 4).length ≤ 4) :
    ∀ k, k ≤ 4 → Moved bs (bs.set f ⟨wf, padded (ps ++ (movedTo bs L (v : Int) (f : Int) seq k).map (·.page))⟩) f v k seq (movedTo bs L (v : Int) (f : Int) seq k).length := by
  have hf := (List.getElem?_eq_some_iff.1 hx).1
  have hR := runs_movesG h hq hx hps hv hfew
  intro k
  induction k with
  | zero =>
    intro _
    have e : bs.set f ⟨wf, padded (ps ++ (movedTo bs L (v : Int) (f : Int) seq 0).map (·.page))⟩ = bs := by
      have e2 : (⟨wf, padded (ps ++ (movedTo bs L (v : Int) (f : Int) seq 0).map (·.page))⟩ : Bk) = ⟨wf, padded ps⟩ := by simp [movedTo]
      rw [e2, ← (List.getElem?_eq_some_iff.1 hx).2]
      exact List.set_getElem_self _
    rw [e]
    refine ⟨h.chip, h.fits, fun y hy => ?_, fun l _ => rfl, fun l y hy hj => ?_⟩
    · have := h.chip.seqs_top (used_seqs h.chip hy)
      have := h.seq
      simp [movedTo]
      omega
    · obtain ⟨j, hj, _⟩ := hj
      omega
  | succ k ih =>
    intro hk
    have I := ih (by omega)
    by_cases hm : movesAt bs L (v : Int) k = true
    · have e : movedTo bs L (v : Int) (f : Int) seq (k + 1) = movedTo bs L (v : Int) (f : Int) seq k ++ [⟨1, (f : Int), { pageIn bs (v : Int) k with seq := seq + ((movedTo bs L (v : Int) (f : Int) seq k).length : Int) }⟩] := by simp [movedTo, hm]
      have hln := movedTo_length bs L (v : Int) (f : Int) seq k
      have hmo := movedTo_mono bs L (v : Int) (f : Int) seq (k := k + 1) (m := 4) hk
      rw [e, List.length_append, List.length_singleton] at hmo
      obtain ⟨r1, r2, r3⟩ := hR (k + 1) hk
      obtain ⟨q1, q2, q3⟩ := hR k (by omega)
      have ok' := r1.ok h.chip
      rw [e] at ok' ⊢
      obtain ⟨M, hM⟩ : ∃ M, M = movedTo bs L (v : Int) (f : Int) seq k := ⟨_, rfl⟩
      rw [← hM] at I hln hmo ok' q2 q3 ⊢
      obtain ⟨y, hy⟩ := getElem?_ex (l := bs) (k := v) hv
      have hyb := h.chip.block y (List.mem_of_getElem? hy)
      obtain ⟨p, hp⟩ := getElem?_ex (l := y.pages) (k := k) (by have := hyb.four; omega)
      have hpi := pageIn_of hy hp
      have hm2 := hm
      unfold movesAt at hm2
      rw [hpi] at hm2
      simp only [Bool.and_eq_true, decide_eq_true_eq] at hm2
      obtain ⟨hpu, hLp⟩ := hm2
      rw [hpi] at ok' ⊢
      have hin : (((v : Int) * 4 + (k : Int)), p) ∈ usedOf bs := mem_usedOf hy hp (by omega) hpu
      have hrt := h.chip.usedRight hin
      have hfit := h.fits _ hin
      simp only at hrt hfit
      have hnew : newestAt (usedOf bs) p.log = some (((v : Int) * 4 + (k : Int)), p) := by
        rw [h.map] at hLp
        rw [placesOf_at _ _ (by omega)] at hLp
        have e1 : ((p.log.toNat : Nat) : Int) = p.log := by omega
        rw [e1] at hLp
        cases en : newestAt (usedOf bs) p.log with
        | none => rw [en] at hLp; simp [placeIn] at hLp; omega
        | some z =>
          rw [en] at hLp
          simp only [placeIn, Option.some.injEq] at hLp
          obtain ⟨hzm, hzl⟩ := newestAt_mem en
          obtain ⟨b', k', y', hy', hk', h4', ez, _⟩ := (usedOf_iff h.chip).1 hzm
          have eb : b' = v := by omega
          have ek : k' = k := by omega
          subst eb ek
          rw [hy] at hy'
          cases hy'
          rw [hp] at hk'
          cases hk'
          exact congrArg some (Prod.ext hLp rfl)
      have hMl : (ps ++ M.map (·.page)).length = ps.length + M.length := by simp
      have hcur : (bs.set f ⟨wf, padded (ps ++ M.map (·.page))⟩)[f]? = some ⟨wf, padded (ps ++ M.map (·.page))⟩ := List.getElem?_set_self hf
      have e3 : bs.set f ⟨wf, padded (ps ++ (M ++ [(⟨1, (f : Int), { p with seq := seq + (M.length : Int) }⟩ : Opn)]).map (·.page))⟩ = (bs.set f ⟨wf, padded (ps ++ M.map (·.page))⟩).set f ⟨wf, padded ((ps ++ M.map (·.page)) ++ [{ p with seq := seq + (M.length : Int) }])⟩ := by
        rw [List.set_set]
        simp
      rw [e3] at ok' ⊢
      have hmem := used_prog (p := { p with seq := seq + (M.length : Int) }) I.ok ok' hcur (by rw [hMl]; omega) hpu
      rw [hMl] at hmem
      have hN := fun l => newest_more ok' I.ok hmem (fun z hz => I.top z hz) l
      refine ⟨ok', fun z hz => ?_, fun z hz => ?_, fun l hl => ?_, fun l z hz hj => ?_⟩
      · rcases (hmem z).1 hz with hz | rfl
        · exact I.logs z hz
        · exact hfit
      · rw [List.length_append]
        rcases (hmem z).1 hz with hz | rfl
        · have := I.top z hz; simp; omega
        · simp; omega
      · rw [hN l]
        rw [if_neg]
        · exact I.stay l (fun w hw ⟨j, hj, ej⟩ => hl w hw ⟨j, by omega, ej⟩)
        · intro el
          simp only at el
          rw [el] at hnew
          exact hl _ hnew ⟨k, by omega, rfl⟩
      · rw [hN l]
        by_cases el : p.log = l
        · rw [if_pos (show ({ p with seq := seq + (M.length : Int) } : Pg).log = l from el)]
          rw [el, hz] at hnew
          simp only [Option.some.injEq] at hnew
          subst hnew
          exact ⟨_, rfl, by simp only; omega, rfl⟩
        · rw [if_neg (show ¬ ({ p with seq := seq + (M.length : Int) } : Pg).log = l from el)]
          obtain ⟨j, hj, ej⟩ := hj
          by_cases ek : j = k
          · subst ek
            exfalso
            obtain ⟨hzm, hzl⟩ := newestAt_mem hz
            obtain ⟨b', k', y', hy', hk', h4', ez, _⟩ := (usedOf_iff h.chip).1 hzm
            have eb : b' = v := by omega
            have ek : k' = j := by omega
            subst eb ek
            rw [hy] at hy'
            cases hy'
            rw [hp] at hk'
            cases hk'
            exact el hzl
          · exact I.went l z hz ⟨j, by omega, ej⟩
    · have e : movedTo bs L (v : Int) (f : Int) seq (k + 1) = movedTo bs L (v : Int) (f : Int) seq k := by simp [movedTo, hm]
      rw [e]
      refine ⟨I.ok, I.logs, I.top, fun l hl => I.stay l (fun w hw ⟨j, hj, ej⟩ => hl w hw ⟨j, by omega, ej⟩), fun l z hz ⟨j, hj, ej⟩ => ?_⟩
      by_cases ek : j = k
      · subst ek
        exfalso
        have := h.newestIn hz
        rw [ej] at this
        rw [h.moves (by omega) (by omega)] at hm
        exact hm (by simpa using this)
      · exact I.went l z hz ⟨j, by omega, ej⟩
end Go.Proofs.YtjgcjeaplckbbaaGreat

/- What is left to do of a write when a member is recovered from its chip, and what stands then: in plain lists. No program is named here. -/
namespace Go.Proofs.YtjgcjeaplckbbaaGreat
open Go.RowKit
set_option linter.unusedVariables false
set_option linter.unusedSimpArgs false

def halfAt (bs : List Bk) (i : Nat) : Bool := ((bs[i]?).map halfB).getD false
theorem halfAt_of {bs : List Bk} {i : Nat} {x : Bk} (hx : bs[i]? = some x) : halfAt bs i = halfB x := by simp [halfAt, hx]
/-- The block that is written to, looked for among the first k, and how many of these are begun. -/
def openTo (bs : List Bk) (k : Nat) : Int × Nat := (List.range k).foldl (fun s i => if halfAt bs i then ((i : Int), s.2 + 1) else s) ((topOf (usedOf bs)).2 / 4, 0)
theorem openTo_succ (bs : List Bk) (k : Nat) : openTo bs (k + 1) = if halfAt bs k then ((k : Int), (openTo bs k).2 + 1) else openTo bs k := by simp [openTo, List.range_succ]
def openOf (bs : List Bk) : Int := (openTo bs bs.length).1
def halves (bs : List Bk) : Nat := (openTo bs bs.length).2
theorem openTo_spec (bs : List Bk) : ∀ k, ((openTo bs k).2 = 0 → (openTo bs k).1 = (topOf (usedOf bs)).2 / 4 ∧ ∀ i, i < k → halfAt bs i = false) ∧ ((openTo bs k).2 = 1 → ∃ f : Nat, f < k ∧ halfAt bs f = true ∧ (openTo bs k).1 = (f : Int) ∧ ∀ i, i < k → halfAt bs i = true → i = f) := by
  intro k
  induction k with
  | zero => exact ⟨fun _ => ⟨rfl, fun i hi => absurd hi (Nat.not_lt_zero _)⟩, fun h => by simp [openTo] at h⟩
  | succ k ih =>
    rw [openTo_succ]
    cases hh : halfAt bs k with
    | true =>
      simp only [if_true]
      refine ⟨fun h => by simp at h, fun h => ⟨k, by omega, hh, rfl, fun i hi hi2 => ?_⟩⟩
      have h0 := (ih.1 (by simpa using h)).2
      by_cases e : i = k
      · exact e
      · have := h0 i (by omega); rw [this] at hi2; cases hi2
    | false =>
      simp only [Bool.false_eq_true, if_false]
      refine ⟨fun h => ⟨(ih.1 h).1, fun i hi => ?_⟩, fun h => ?_⟩
      · by_cases e : i = k
        · rw [e]; exact hh
        · exact (ih.1 h).2 i (by omega)
      · obtain ⟨f, h1, h2, h3, h4⟩ := ih.2 h
        refine ⟨f, by omega, h2, h3, fun i hi hi2 => ?_⟩
        by_cases e : i = k
        · rw [e, hh] at hi2; cases hi2
        · exact h4 i (by omega) hi2
theorem openTo_few (bs : List Bk) : ∀ k, (openTo bs k).2 ≤ k := by
  intro k
  induction k with
  | zero => simp [openTo]
  | succ k ih => rw [openTo_succ]; split <;> (try simp only) <;> omega
theorem topOf_is (xs : List (Int × Pg)) : topOf xs = (0, 0) ∨ ∃ x ∈ xs, topOf xs = (x.2.seq, x.1) := by
  suffices H : ∀ (xs : List (Int × Pg)) (c : Int × Int), xs.foldl topStep c = c ∨ ∃ x ∈ xs, xs.foldl topStep c = (x.2.seq, x.1) from H xs (0, 0)
  intro xs
  induction xs with
  | nil => intro c; exact .inl rfl
  | cons y ys ih =>
    intro c
    simp only [List.foldl_cons]
    rcases ih (topStep c y) with h | ⟨x, hx, h⟩
    · rw [h]
      unfold topStep
      split
      · exact .inr ⟨y, by simp, rfl⟩
      · exact .inl rfl
    · exact .inr ⟨x, by simp [hx], h⟩
theorem topBlock {bs : List Bk} (h : ChipOk bs) : 0 ≤ (topOf (usedOf bs)).2 ∧ (topOf (usedOf bs)).2 < 4 * (bs.length : Int) := by
  have hc := h.count
  rcases topOf_is (usedOf bs) with e | ⟨x, hx, e⟩
  · rw [e]; simp only; omega
  · rw [e]
    obtain ⟨b, k, y, hy, _, h4, ex, _⟩ := (usedOf_iff h).1 hx
    have := (List.getElem?_eq_some_iff.1 hy).1
    simp only
    omega
theorem openTo_bounds {bs : List Bk} (h : ChipOk bs) : ∀ k, k ≤ bs.length → 0 ≤ (openTo bs k).1 ∧ (openTo bs k).1 < (bs.length : Int) := by
  intro k
  induction k with
  | zero => intro _; have := topBlock h; simp [openTo]; omega
  | succ k ih =>
    intro hk
    rw [openTo_succ]
    split
    · simp only; omega
    · exact ih (by omega)
theorem openOf_bounds {bs : List Bk} (h : ChipOk bs) : 0 ≤ openOf bs ∧ openOf bs < (bs.length : Int) := openTo_bounds h bs.length (Nat.le_refl _)
theorem halves_only {bs : List Bk} (hh : halves bs ≤ 1) {i : Nat} {x : Bk} (hx : bs[i]? = some x) (hb : halfB x = true) : (i : Int) = openOf bs := by
  have hi := (List.getElem?_eq_some_iff.1 hx).1
  have hA : halfAt bs i = true := by rw [halfAt_of hx]; exact hb
  have hs := openTo_spec bs bs.length
  unfold halves at hh
  unfold openOf
  rcases Nat.lt_or_ge (openTo bs bs.length).2 1 with h | h
  · have := (hs.1 (by omega)).2 i hi
    rw [this] at hA
    cases hA
  · obtain ⟨f, _, _, h3, h4⟩ := hs.2 (by omega)
    rw [h3, h4 i hi hA]
/-- How many pages of a block are free. -/
def roomB (x : Bk) : Int := if pu x 0 = false then 4 else if pu x 1 = false then 3 else if pu x 2 = false then 2 else if pu x 3 = false then 1 else 0
def roomAt (bs : List Bk) (o : Int) : Int := ((bs[o.toNat]?).map roomB).getD 0
theorem roomAt_of {bs : List Bk} {o : Int} {x : Bk} (hx : bs[o.toNat]? = some x) : roomAt bs o = roomB x := by simp [roomAt, hx]
theorem roomB_next {x : Bk} {r : Int} (h : NextIs (pu x) 4 r) : (r = -1 ∧ roomB x = 0 ∧ fullB x = true) ∨ (0 ≤ r ∧ r < 4 ∧ roomB x = 4 - r ∧ fullB x = false) := by
  unfold roomB fullB
  rcases h with ⟨k, hk, rfl, hf, hu⟩ | ⟨rfl, hu⟩
  · right
    have hk4 : k = 0 ∨ k = 1 ∨ k = 2 ∨ k = 3 := by omega
    rcases hk4 with rfl | rfl | rfl | rfl
    · simp [hf]
    · have h0 := hu 0 (by omega)
      simp [hf, h0]
    · have h0 := hu 0 (by omega)
      have h1 := hu 1 (by omega)
      simp [hf, h0, h1]
    · have h0 := hu 0 (by omega)
      have h1 := hu 1 (by omega)
      have h2 := hu 2 (by omega)
      simp [hf, h0, h1, h2]
  · left
    have h0 := hu 0 (by omega)
    have h1 := hu 1 (by omega)
    have h2 := hu 2 (by omega)
    have h3 := hu 3 (by omega)
    simp [h0, h1, h2, h3]
def mapO (bs : List Bk) : List Int := placesOf (usedOf bs) (roomOf bs)
def vicO (bs : List Bk) : Int := vicOf bs (mapO bs) (openOf bs)
/-- Can a member be recovered from this chip? -/
def TidyOk (bs : List Bk) : Prop :=
  Fits bs ∧ halves bs ≤ 1 ∧ topSeq bs ≤ 999999989 ∧ ¬ worn bs ∧ (0 ≤ freshOf bs (openOf bs) ∨ (0 ≤ vicO bs ∧ roomAt bs (openOf bs) ≠ 0 ∧ (validIn (mapO bs) (vicO bs) : Int) ≤ roomAt bs (openOf bs)))
/-- What is left to do. -/
def tidyOps (bs : List Bk) : List Opn := if freshOf bs (openOf bs) < 0 then moveOps bs (mapO bs) (vicO bs) (openOf bs) (topSeq bs + 1) else []
theorem tidyOps_length (bs : List Bk) : (tidyOps bs).length ≤ 5 := by
  unfold tidyOps
  split
  · rw [moveOps_length]; have := movedTo_length bs (mapO bs) (vicO bs) (openOf bs) (topSeq bs + 1) 4; omega
  · simp
/-- What TidyOps answers, and the open block with it. -/
def TidyIs (bs : List Bk) (o : Int) (xs : List Opn) (r : Bool) : Prop := (r = true ∧ TidyOk bs ∧ o = openOf bs ∧ xs = tidyOps bs) ∨ (r = false ∧ ¬ TidyOk bs ∧ o = 0 ∧ xs = [])
theorem TidyIs.one {bs : List Bk} {o p : Int} {xs ys : List Opn} {r s : Bool} (h : TidyIs bs o xs r) (k : TidyIs bs p ys s) : o = p ∧ xs = ys ∧ r = s := by
  rcases h with ⟨rfl, h1, rfl, rfl⟩ | ⟨rfl, h1, rfl, rfl⟩
  · rcases k with ⟨rfl, _, rfl, rfl⟩ | ⟨_, k1, _⟩
    · exact ⟨rfl, rfl, rfl⟩
    · exact absurd h1 k1
  · rcases k with ⟨_, k1, _⟩ | ⟨rfl, _, rfl, rfl⟩
    · exact absurd k1 h1
    · exact ⟨rfl, rfl, rfl⟩
/-- What Recovered answers. -/
def RecIs (bs : List Bk) (m : Mb) (r : Bool) : Prop :=
  (r = true ∧ ChipOk bs ∧ TidyOk bs ∧ Runs bs (tidyOps bs) m.bs ∧ (∃ q, MapIs m.bs q m.L) ∧ m.seq = topSeq m.bs + 1 ∧ m.o = openOf bs) ∨ (r = false ∧ ¬ (ChipOk bs ∧ TidyOk bs) ∧ m = Mb.zero)
theorem moved_fewG {bs : List Bk} {L : List Int} {seq into s : Int} (h : MidOk bs L seq) {v : Int} (hv : 0 ≤ v) : (movedTo bs L v into s 4).length ≤ validIn L v := by
  have st : ∀ k, k < 4 → (movedTo bs L v into s (k + 1)).length ≤ (movedTo bs L v into s k).length + cnt L (v * 4 + (k : Int)) := by
    intro k hk
    simp only [movedTo, List.length_append]
    have hm := h.moves hv hk
    by_cases hx : (v * 4 + (k : Int)) ∈ L
    · have := cnt_pos hx
      split <;> simp <;> omega
    · rw [hm]
      simp [hx]
  have s0 : (movedTo bs L v into s 1).length ≤ (movedTo bs L v into s 0).length + cnt L (v * 4 + 0) := st 0 (by omega)
  have s1 : (movedTo bs L v into s 2).length ≤ (movedTo bs L v into s 1).length + cnt L (v * 4 + 1) := st 1 (by omega)
  have s2 : (movedTo bs L v into s 3).length ≤ (movedTo bs L v into s 2).length + cnt L (v * 4 + 2) := st 2 (by omega)
  have s3 : (movedTo bs L v into s 4).length ≤ (movedTo bs L v into s 3).length + cnt L (v * 4 + 3) := st 3 (by omega)
  have hc := cnt_valid L v hv
  have z : (movedTo bs L v into s 0).length = 0 := rfl
  omega
theorem vicTo_is (bs : List Bk) (L : List Int) (o : Int) : ∀ k, k ≤ bs.length → vicTo bs L o k = -1 ∨ ∃ (i : Nat) (x : Bk), i < k ∧ bs[i]? = some x ∧ (i : Int) ≠ o ∧ fullB x = true ∧ vicTo bs L o k = (i : Int) := by
  intro k
  induction k with
  | zero => intro _; exact .inl rfl
  | succ k ih =>
    intro hk
    obtain ⟨x, hx⟩ := getElem?_ex (l := bs) (k := k) (by omega)
    have hi := ih (by omega)
    by_cases h1 : (k : Int) = o ∨ fullB x = false
    · rw [vicTo_skip hx h1]
      rcases hi with h | ⟨i, y, h2, h3, h4, h5, h6⟩
      · exact .inl h
      · exact .inr ⟨i, y, by omega, h3, h4, h5, h6⟩
    · have h2 : (k : Int) ≠ o := fun e => h1 (.inl e)
      have h3 : fullB x = true := by cases e : fullB x with
        | true => rfl
        | false => exact absurd (.inr e) h1
      cases hb : beats bs L (vicTo bs L o k) (k : Int) x.wear with
      | true => rw [vicTo_take hx h2 h3 hb]; exact .inr ⟨k, x, by omega, hx, h2, h3, rfl⟩
      | false =>
        rw [vicTo_keep hx h2 h3 hb]
        rcases hi with h | ⟨i, y, q2, q3, q4, q5, q6⟩
        · exact .inl h
        · exact .inr ⟨i, y, by omega, q3, q4, q5, q6⟩
/-- There is a free block beside the open one. -/
theorem fresh_free {bs : List Bk} {o : Int} (h : 0 ≤ freshOf bs o) : oneFree bs o bs.length := by
  rcases freshIn_some bs o (freeTo bs bs.length) (-1) with e | ⟨h1, h2⟩
  · unfold freshOf freshIn at h; rw [e] at h; omega
  · obtain ⟨i, hi, e, hb⟩ := mem_freeTo h1
    obtain ⟨x, hx⟩ := getElem?_ex (l := bs) (k := i) hi
    refine ⟨i, x, hi, hx, by rw [← e]; exact h2, ?_⟩
    rw [begun_pu hx] at hb
    unfold freeB
    simp [hb]
/-- What is recovered is a right member, and reads what the chip's newest pages have. -/
theorem tidy_done {bs : List Bk} (hok : ChipOk bs) (ht : TidyOk bs) : ∃ out, Runs bs (tidyOps bs) out ∧ out.length = bs.length ∧ (∀ (L : List Int) (q : Bool), MapIs out q L → FtlOk out L (topSeq out + 1) (openOf bs)) ∧ ∀ l, readOf out l = readOf bs l := by
  obtain ⟨hfit, hhal, htop, hworn, hvic⟩ := ht
  have hob := openOf_bounds hok
  have htp := hok.top
  by_cases hfr : freshOf bs (openOf bs) < 0
  case neg =>
    refine ⟨bs, by unfold tidyOps; rw [if_neg hfr]; rfl, rfl, fun L q hM => ?_, fun l => rfl⟩
    refine FtlOk.made hok hfit hM (fun x hx => topOf_ge hx) htp.1 (by omega) (by omega) ⟨fun i x hi hx hn => ?_, fresh_free (by omega)⟩
    cases e : halfB x with
    | false => rfl
    | true => exact absurd (halves_only hhal hx e) hn
  case pos =>
    obtain ⟨hv0, hr0, hval⟩ := hvic.resolve_left (by omega)
    have hmid : MidOk bs (mapO bs) (topSeq bs + 1) := ⟨hok, hfit, rfl, Int.le_refl _⟩
    obtain ⟨f, hf⟩ := Int.eq_ofNat_of_zero_le hob.1
    obtain ⟨v, hv⟩ := Int.eq_ofNat_of_zero_le hv0
    have hfl : f < bs.length := by omega
    obtain ⟨x, hx⟩ := getElem?_ex (l := bs) (k := f) hfl
    have hxb := hok.block x (List.mem_of_getElem? hx)
    have hxo : bs[(openOf bs).toNat]? = some x := by rw [hf]; simpa using hx
    rw [roomAt_of hxo] at hr0 hval
    obtain ⟨y, hy, hvn, hyf⟩ : ∃ y, bs[v]? = some y ∧ v ≠ f ∧ fullB y = true := by
      rcases vicTo_is bs (mapO bs) (openOf bs) bs.length (Nat.le_refl _) with e | ⟨i, y, h1, h2, h3, h4, h5⟩
      · have : vicO bs = -1 := e
        omega
      · have e : vicO bs = (i : Int) := h5
        have e2 : i = v := by omega
        subst e2
        exact ⟨y, h2, by omega, h4⟩
    have hvl := (List.getElem?_eq_some_iff.1 hy).1
    have hnf : fullB x = false := by
      cases e : fullB x with
      | false => rfl
      | true =>
        exfalso
        apply hr0
        unfold fullB at e
        simp only [Bool.and_eq_true] at e
        obtain ⟨⟨⟨e0, e1⟩, e2⟩, e3⟩ := e
        unfold roomB
        simp [e0, e1, e2, e3]
    obtain ⟨r, hr, hrn⟩ := next_of_free hnf
    obtain ⟨q1, q2, q3⟩ := full_order hxb hr hrn
    have hrm : roomB x = 4 - r := by
      rcases roomB_next hr with ⟨h1, _, _⟩ | ⟨_, _, h3, _⟩
      · omega
      · exact h3
    have hpl : (x.pages.take r.toNat).length = r.toNat := by rw [List.length_take]; have := hxb.four; omega
    have hx2 : bs[f]? = some ⟨x.wear, padded (x.pages.take r.toNat)⟩ := by rw [← q1]; exact hx
    have hmv := moved_fewG (into := (f : Int)) (s := topSeq bs + 1) hmid (v := (v : Int)) (by omega)
    rw [hv] at hval
    have hfew : (x.pages.take r.toNat).length + (movedTo bs (mapO bs) (v : Int) (f : Int) (topSeq bs + 1) 4).length ≤ 4 := by omega
    generalize x.pages.take r.toNat = ps at hx2 q3 hpl hfew
    obtain ⟨m1, m2, m3⟩ := runs_movesG hmid (by omega) hx2 q3 hvl hfew 4 (Nat.le_refl _)
    have I := moves_movedG hmid (by omega) hx2 q3 hvl hfew 4 (Nat.le_refl _)
    have hm4 := movedTo_length bs (mapO bs) (v : Int) (f : Int) (topSeq bs + 1) 4
    have ex : tidyOps bs = moveOps bs (mapO bs) (v : Int) (f : Int) (topSeq bs + 1) := by unfold tidyOps; rw [if_pos hfr, hv, hf]
    rw [ex, hf]
    unfold moveOps
    generalize movedTo bs (mapO bs) (v : Int) (f : Int) (topSeq bs + 1) 4 = M at *
    have ok1 := m1.ok hok
    have hyw : y.wear ≠ 1000000000 := fun e => hworn ⟨v, y, hvl, hy, e⟩
    have hy1 : (bs.set f ⟨x.wear, padded (ps ++ M.map (·.page))⟩)[v]? = some y := by rw [List.getElem?_set_ne (fun e => hvn e.symm)]; exact hy
    have st1 := step_erase ok1 hy1 hyw
    have r1 := runs_snoc.2 ⟨_, m1, st1⟩
    have ok2 := r1.ok hok
    have hmE := used_erase (wv := y.wear + 1) ok1 ok2 (show v < _ by simpa using hvl)
    refine ⟨_, r1, by simp, fun L q hM => ?_, fun l => ?_⟩
    · have htle : topSeq ((bs.set f ⟨x.wear, padded (ps ++ M.map (·.page))⟩).set v ⟨y.wear + 1, zeroBk.pages⟩) ≤ 999999999 := topOf_le (fun z hz => by have := I.top z ((hmE z).1 hz).1; omega) (by omega)
      refine FtlOk.made ok2 (fun z hz => ?_) hM (fun z hz => topOf_ge hz) ok2.top.1 (by omega) ⟨by omega, by simp; omega⟩ ⟨fun i z hi hz hn => ?_, ?_⟩
      · have : roomOf ((bs.set f ⟨x.wear, padded (ps ++ M.map (·.page))⟩).set v ⟨y.wear + 1, zeroBk.pages⟩) = roomOf bs := by unfold roomOf; simp
        rw [this]
        exact I.logs z ((hmE z).1 hz).1
      · have hif : i ≠ f := fun e => hn (by rw [e])
        by_cases e : i = v
        · subst e
          rw [List.getElem?_set_self (by simpa using hvl)] at hz
          cases hz
          exact freeB_half rfl
        · rw [List.getElem?_set_ne (fun h => e h.symm), List.getElem?_set_ne (fun h => hif h.symm)] at hz
          cases e2 : halfB z with
          | false => rfl
          | true => exact absurd (halves_only hhal hz e2) (by rw [hf]; exact hn)
      · exact ⟨v, ⟨y.wear + 1, zeroBk.pages⟩, by simpa using hvl, List.getElem?_set_self (by simpa using hvl), by omega, rfl⟩
    · rw [← I.read l]
      unfold readOf
      rw [newest_less ok2 ok1 hmE (fun z hz => I.left hok hvn l z hz)]
end Go.Proofs.YtjgcjeaplckbbaaGreat

/- When the power is lost between any two ops of a write: what the chip is then, and that a member is recovered from it. In plain lists; no program is named here. -/
namespace Go.Proofs.YtjgcjeaplckbbaaGreat
open Go.RowKit
set_option linter.unusedVariables false
set_option linter.unusedSimpArgs false

theorem halves_few {bs : List Bk} {f : Nat} (h : ∀ i, halfAt bs i = true → i = f) : ∀ k, (openTo bs k).2 ≤ if f < k then 1 else 0 := by
  intro k
  induction k with
  | zero => simp [openTo]
  | succ k ih =>
    rw [openTo_succ]
    cases hh : halfAt bs k with
    | true =>
      have e := h k hh
      subst e
      simp only [if_true]
      rw [if_neg (Nat.lt_irrefl _)] at ih
      rw [if_pos (by omega)]
      omega
    | false =>
      simp only [Bool.false_eq_true, if_false]
      split at ih <;> split <;> omega
theorem halves_one {bs : List Bk} {f : Nat} (h : ∀ (i : Nat) x, bs[i]? = some x → i ≠ f → halfB x = false) : halves bs ≤ 1 := by
  have := halves_few (bs := bs) (f := f) (fun i hi => by
    cases e : bs[i]? with
    | none => simp [halfAt, e] at hi
    | some x =>
      rw [halfAt_of e] at hi
      apply Classical.byContradiction
      intro hne
      rw [h i x e hne] at hi
      cases hi) bs.length
  unfold halves
  split at this <;> omega
/-- A chip with a free block has one beside the open one. -/
theorem spare_fresh {bs : List Bk} (hok : ChipOk bs) (hh : halves bs ≤ 1) {j : Nat} {y : Bk} (hy : bs[j]? = some y) (hfy : freeB y = true) : 0 ≤ freshOf bs (openOf bs) := by
  have hc := hok.count
  have key : ∃ (j : Nat) (y : Bk), bs[j]? = some y ∧ freeB y = true ∧ (j : Int) ≠ openOf bs := by
    have hs := openTo_spec bs bs.length
    rcases Nat.lt_or_ge (openTo bs bs.length).2 1 with h | h
    · obtain ⟨he, hno⟩ := hs.1 (by omega)
      rcases topOf_is (usedOf bs) with e | ⟨x, hx, e⟩
      · have hnone : ∀ (i : Nat) z, bs[i]? = some z → freeB z = true := by
          intro i z hz
          cases e2 : freeB z with
          | true => rfl
          | false =>
            exfalso
            have hzb := hok.block z (List.mem_of_getElem? hz)
            obtain ⟨p, hp⟩ := getElem?_ex (l := z.pages) (k := 0) (by have := hzb.four; omega)
            have hu : p.used = true := by
              unfold freeB pu at e2
              simp only [pagesF, hp] at e2
              simpa using e2
            have hm := mem_usedOf hz hp (by omega) hu
            have h1 := topOf_ge hm
            rw [e] at h1
            have h2 := (hok.usedRight hm).2.2.1
            simp only at h1 h2
            omega
        have he0 : openOf bs = 0 := by unfold openOf; rw [he, e]; rfl
        obtain ⟨z, hz⟩ := getElem?_ex (l := bs) (k := 1) (by omega)
        exact ⟨1, z, hz, hnone 1 z hz, by rw [he0]; decide⟩
      · refine ⟨j, y, hy, hfy, fun e2 => ?_⟩
        obtain ⟨b, k, z, hz, hk, h4, ex, hu⟩ := (usedOf_iff hok).1 hx
        have e3 : openOf bs = (b : Int) := by unfold openOf; rw [he, e]; simp only; omega
        have e4 : j = b := by omega
        subst e4
        rw [hy] at hz
        cases hz
        have hp := free_pages (hok.block y (List.mem_of_getElem? hy)) hfy
        rw [hp] at hk
        have := List.eq_of_mem_replicate (List.mem_of_getElem? hk)
        rw [this] at hu
        cases hu
    · obtain ⟨f, h1, h2, h3, h4⟩ := hs.2 (by unfold halves at hh; omega)
      refine ⟨j, y, hy, hfy, fun e => ?_⟩
      have e3 : openOf bs = (f : Int) := h3
      have e4 : j = f := by omega
      subst e4
      rw [halfAt_of hy, freeB_half hfy] at h2
      cases h2
  obtain ⟨j, y, hy, hfy, hn⟩ := key
  apply Classical.byContradiction
  intro hneg
  have hj := (List.getElem?_eq_some_iff.1 hy).1
  have h1 := (freshIn_neg (bs := bs) (but := openOf bs) (L := freeTo bs bs.length) (fun y hy => by obtain ⟨i, _, rfl, _⟩ := mem_freeTo hy; omega)).1 (by unfold freshOf at hneg; omega)
  have hb : begun bs j = false := by rw [begun_pu hy]; unfold freeB at hfy; simpa using hfy
  exact hn (h1 _ (freeTo_mem hj hb))
theorem worn_not {bs : List Bk} (h : ∀ b ∈ bs, b.wear ≤ 999999999) : ¬ worn bs := by
  rintro ⟨i, x, _, hx, hw⟩
  have := h x (List.mem_of_getElem? hx)
  omega
/-- A right member's chip can be recovered from. -/
theorem FtlOk.tidy {bs : List Bk} {L : List Int} {seq o : Int} (h : FtlOk bs L seq o) (hs : seq ≤ 999999990) (hw : ∀ b ∈ bs, b.wear ≤ 999999999) : TidyOk bs := by
  obtain ⟨ob, hob⟩ := Int.eq_ofNat_of_zero_le h.opn.1
  have hh : halves bs ≤ 1 := halves_one (f := ob) (fun i x hx hn => h.settled.1 i x (List.getElem?_eq_some_iff.1 hx).1 hx (by omega))
  obtain ⟨j, y, hj, hy, hn, hf⟩ := h.settled.2
  exact ⟨h.fits, hh, by have := h.seq.1; omega, worn_not hw, .inl (spare_fresh h.chip hh hy hf)⟩
theorem OpStep.wear {bs out : List Bk} {x : Opn} (h : OpStep bs x out) {W : Int} (hw : ∀ b ∈ bs, b.wear ≤ W) : ∀ b ∈ out, b.wear ≤ W + 1 := by
  intro b hb
  have up : ∀ (k : Nat) (c : Bk), c.wear ≤ W + 1 → b ∈ bs.set k c → b.wear ≤ W + 1 := fun k c hc hm => by
    rcases List.mem_or_eq_of_mem_set hm with h1 | h1
    · have := hw b h1; omega
    · rw [h1]; exact hc
  rcases h with ⟨_, ⟨_, _, h⟩ | ⟨_, _, _, h⟩ | ⟨_, _, c, r, hc, _, ⟨_, _, h⟩ | ⟨_, rfl, _⟩⟩⟩ | ⟨_, ⟨_, _, h⟩ | ⟨_, _, _, h⟩ | ⟨_, _, c, hc, ⟨_, _, h⟩ | ⟨_, rfl, _⟩⟩, _⟩
  · cases h
  · cases h
  · cases h
  · have := hw c (List.mem_of_getElem? hc)
    exact up _ _ (by simp only; omega) hb
  · cases h
  · cases h
  · cases h
  · have := hw c (List.mem_of_getElem? hc)
    exact up _ _ (by simp only; omega) hb
theorem Runs.wear {xs : List Opn} : ∀ {bs out : List Bk} {W : Int}, Runs bs xs out → (∀ b ∈ bs, b.wear ≤ W) → ∀ b ∈ out, b.wear ≤ W + (xs.length : Int) := by
  induction xs with
  | nil => intro bs out W h hw b hb; cases h; have := hw b hb; simp; omega
  | cons x xs ih =>
    rintro bs out W ⟨m, h1, h2⟩ hw b hb
    have := ih h2 (h1.wear hw) b hb
    simp
    omega
theorem Runs.part {xs : List Opn} {k : Nat} {bs out : List Bk} (h : Runs bs xs out) : ∃ mid, Runs bs (xs.take k) mid := by
  rw [← List.take_append_drop k xs] at h
  obtain ⟨mid, h1, _⟩ := h.split
  exact ⟨mid, h1⟩
theorem cnt_le {L M : List Int} {x : Int} (hl : L.length = M.length) (h : ∀ i : Nat, L[i]? = some x → M[i]? = some x) : cnt L x ≤ cnt M x := by
  induction L generalizing M with
  | nil => simp [cnt]
  | cons y ys ih =>
    cases M with
    | nil => simp at hl
    | cons z zs =>
      rw [cnt_cons, cnt_cons]
      have h1 := ih (M := zs) (by simpa using hl) (fun i hi => by simpa using h (i + 1) (by simpa using hi))
      have h0 := h 0
      simp at h0
      by_cases e : y = x
      · rw [if_pos e, if_pos (h0 e)]
        omega
      · rw [if_neg e]
        omega
theorem cnt_zero {L : List Int} {x : Int} (h : x ∉ L) : cnt L x = 0 := by
  unfold cnt
  rw [List.length_eq_zero_iff, List.filter_eq_nil_iff]
  intro y hy e
  simp at e
  rw [e] at hy
  exact h hy
/-- Behind the moves of the first k pages of block v as many of its pages are the newest as were not moved, at most. -/
theorem Moved.few {bs bsk : List Bk} {L : List Int} {seq o s : Int} (h : FtlOk bs L seq o) {f v k : Nat} {n : Nat} (hk : k ≤ 4) (hvf : v ≠ f) (I : Moved bs bsk f v k s n) (hlen : bsk.length = bs.length) (into : Int) :
    validIn (mapO bsk) (v : Int) + (movedTo bs L (v : Int) into s k).length ≤ validIn L (v : Int) := by
  have hroom : roomOf bsk = roomOf bs := by unfold roomOf; rw [hlen]
  have hsame : ∀ (p : Nat), p < 4 → ∀ i : Nat, (mapO bsk)[i]? = some ((v : Int) * 4 + (p : Int)) → L[i]? = some ((v : Int) * 4 + (p : Int)) ∧ k ≤ p := by
    intro p hp i hi
    have hil : i < roomOf bs := by
      have := (List.getElem?_eq_some_iff.1 hi).1
      unfold mapO at this
      rw [placesOf_length, hroom] at this
      exact this
    unfold mapO at hi
    rw [placesOf_at _ _ (by omega)] at hi
    rw [h.map, placesOf_at _ _ hil]
    by_cases hj : ∃ y, newestAt (usedOf bs) (i : Int) = some y ∧ ∃ j : Nat, j < k ∧ y.1 = (v : Int) * 4 + (j : Int)
    · obtain ⟨y, hy, hj⟩ := hj
      obtain ⟨z, hz, hzf, _⟩ := I.went (i : Int) y hy hj
      rw [hz] at hi
      simp only [placeIn, Option.some.injEq] at hi
      omega
    · have e := I.stay (i : Int) (fun y hy hj2 => hj ⟨y, hy, hj2⟩)
      rw [e] at hi
      refine ⟨hi, ?_⟩
      apply Classical.byContradiction
      intro hlt
      cases en : newestAt (usedOf bs) (i : Int) with
      | none => rw [en] at hi; simp [placeIn] at hi; omega
      | some y =>
        rw [en] at hi
        simp only [placeIn, Option.some.injEq] at hi
        exact hj ⟨y, en, p, by omega, hi⟩
  have hll : (mapO bsk).length = L.length := by unfold mapO; rw [h.map, placesOf_length, placesOf_length, hroom]
  have hle : ∀ p : Nat, p < 4 → cnt (mapO bsk) ((v : Int) * 4 + (p : Int)) ≤ if p < k then 0 else cnt L ((v : Int) * 4 + (p : Int)) := by
    intro p hp
    by_cases hpk : p < k
    · rw [if_pos hpk, cnt_zero]
      · exact Nat.le_refl _
      · intro hm
        obtain ⟨i, hi⟩ := List.getElem?_of_mem hm
        have := (hsame p hp i hi).2
        omega
    · rw [if_neg hpk]
      exact cnt_le hll (fun i hi => (hsame p hp i hi).1)
  have st : ∀ j, j < 4 → (movedTo bs L (v : Int) into s (j + 1)).length ≤ (movedTo bs L (v : Int) into s j).length + cnt L ((v : Int) * 4 + (j : Int)) := by
    intro j hj
    simp only [movedTo, List.length_append]
    have hm := h.moves (v := (v : Int)) (by omega) hj
    by_cases hx : ((v : Int) * 4 + (j : Int)) ∈ L
    · have := cnt_pos hx
      split <;> simp <;> omega
    · rw [hm]
      simp [hx]
  have c1 := cnt_valid L (v : Int) (by omega)
  have c2 := cnt_valid (mapO bsk) (v : Int) (by omega)
  have l0 : cnt (mapO bsk) ((v : Int) * 4 + 0) ≤ if 0 < k then 0 else cnt L ((v : Int) * 4 + 0) := hle 0 (by omega)
  have l1 : cnt (mapO bsk) ((v : Int) * 4 + 1) ≤ if 1 < k then 0 else cnt L ((v : Int) * 4 + 1) := hle 1 (by omega)
  have l2 : cnt (mapO bsk) ((v : Int) * 4 + 2) ≤ if 2 < k then 0 else cnt L ((v : Int) * 4 + 2) := hle 2 (by omega)
  have l3 : cnt (mapO bsk) ((v : Int) * 4 + 3) ≤ if 3 < k then 0 else cnt L ((v : Int) * 4 + 3) := hle 3 (by omega)
  have s0 : (movedTo bs L (v : Int) into s 1).length ≤ (movedTo bs L (v : Int) into s 0).length + cnt L ((v : Int) * 4 + 0) := st 0 (by omega)
  have s1 : (movedTo bs L (v : Int) into s 2).length ≤ (movedTo bs L (v : Int) into s 1).length + cnt L ((v : Int) * 4 + 1) := st 1 (by omega)
  have s2 : (movedTo bs L (v : Int) into s 3).length ≤ (movedTo bs L (v : Int) into s 2).length + cnt L ((v : Int) * 4 + 2) := st 2 (by omega)
  have s3 : (movedTo bs L (v : Int) into s 4).length ≤ (movedTo bs L (v : Int) into s 3).length + cnt L ((v : Int) * 4 + 3) := st 3 (by omega)
  have z : (movedTo bs L (v : Int) into s 0).length = 0 := rfl
  clear hle st hsame
  have hk4 : k = 0 ∨ k = 1 ∨ k = 2 ∨ k = 3 ∨ k = 4 := by omega
  rcases hk4 with rfl | rfl | rfl | rfl | rfl <;> (split at l0 <;> split at l1 <;> split at l2 <;> split at l3 <;> omega)
theorem movedTo_take (bs : List Bk) (L : List Int) (v into s : Int) : ∀ n, ∀ k, k ≤ (movedTo bs L v into s n).length → ∃ i, i ≤ n ∧ (movedTo bs L v into s n).take k = movedTo bs L v into s i := by
  intro n
  induction n with
  | zero => intro k hk; exact ⟨0, Nat.le_refl _, by simp [movedTo]⟩
  | succ n ih =>
    intro k hk
    by_cases h : k ≤ (movedTo bs L v into s n).length
    · obtain ⟨i, hi, e⟩ := ih k h
      refine ⟨i, by omega, ?_⟩
      simp only [movedTo]
      rw [List.take_append_of_le_length h]
      exact e
    · refine ⟨n + 1, Nat.le_refl _, List.take_of_length_le ?_⟩
      have h1 : (movedTo bs L v into s (n + 1)).length ≤ (movedTo bs L v into s n).length + 1 := by
        simp only [movedTo, List.length_append]
        split <;> simp
      omega
theorem mapIs_some (bs : List Bk) : ∃ (L : List Int) (r : Bool), MapIs bs r L := by
  by_cases hf : Fits bs
  · exact ⟨_, true, ⟨by simp [hf], rfl⟩⟩
  · exact ⟨_, false, ⟨by simp [hf], rfl⟩⟩
theorem half_padded {w : Int} {ps : List Pg} (h0 : 0 < ps.length) (h4 : ps.length < 4) (hu : ∀ p ∈ ps, p.used = true) : halfB ⟨w, padded ps⟩ = true ∧ roomB ⟨w, padded ps⟩ = 4 - (ps.length : Int) := by
  have hn : NextIs (pu ⟨w, padded ps⟩) 4 (ps.length : Int) := next_padded h4 hu
  rcases roomB_next hn with ⟨h, _⟩ | ⟨_, _, h1, h2⟩
  · omega
  · refine ⟨?_, h1⟩
    rw [← hn.kinds.2.1]
    simpa using h0
/-- The power is lost between two ops of a write: a member can be recovered from the chip, and of the pages that it reads only that of the log that was written may have turned. -/
theorem FtlOk.cut {bs : List Bk} {L : List Int} {seq o lg : Int} {data : ByteArray} (h : FtlOk bs L seq o) (hfo : formOk bs lg data) (hs : seq ≤ 999999000) (hw : ∀ b ∈ bs, b.wear ≤ 999999000) {k : Nat} (hk : k ≤ (writeOps bs L seq o lg data).length) {mid : List Bk} (hR : Runs bs ((writeOps bs L seq o lg data).take k) mid) :
    ChipOk mid ∧ mid.length = bs.length ∧ TidyOk mid ∧ (∀ l, l ≠ lg → readOf mid l = readOf bs l) ∧ (readOf mid lg = readOf bs lg ∨ readOf mid lg = data) ∧ (k = (writeOps bs L seq o lg data).length → readOf mid lg = data) := by
  have hlen6 := (writeOps_length bs L seq o lg data).2
  have hlen1 := (writeOps_length bs L seq o lg data).1
  have hro : roomy bs seq := ⟨worn_not (fun b hb => by have := hw b hb; omega), by omega⟩
  have okm := hR.ok h.chip
  have lenm := hR.len
  have hwm : ∀ b ∈ mid, b.wear ≤ 999999999 := fun b hb => by
    have := hR.wear hw b hb
    rw [List.length_take] at this
    omega
  refine ⟨okm, lenm, ?_⟩
  have hroom : roomOf mid = roomOf bs := by unfold roomOf; rw [lenm]
  have hc := h.chip.count
  have htop0 := h.chip.top
  by_cases hkl : k = (writeOps bs L seq o lg data).length
  · subst hkl
    rw [List.take_length] at hR
    obtain ⟨L', r, hM⟩ := mapIs_some mid
    obtain ⟨ok', _, hread⟩ := h.wrote hfo hro (bs' := mid) (L' := L') ⟨hR, ⟨r, hM⟩, rfl, rfl⟩
    have hls := lastOp_seq bs L seq o lg data
    refine ⟨ok'.tidy (by omega) hwm, fun l hl => ?_, ?_, fun _ => ?_⟩
    · rw [hread l, if_neg (fun e => hl e.symm)]
    · right; rw [hread lg, if_pos rfl]
    · rw [hread lg, if_pos rfl]
  by_cases hk0 : k = 0
  · subst hk0
    rw [List.take_zero] at hR
    cases hR
    exact ⟨h.tidy (by omega) hwm, fun l _ => rfl, .inl rfl, fun e => absurd e.symm (by omega)⟩
  suffices H : TidyOk mid ∧ ∀ l, readOf mid l = readOf bs l from ⟨H.1, fun l _ => H.2 l, .inl (H.2 lg), fun e => absurd e hkl⟩
  cases h.way with
  | room ob wf ps ho hx hlt hu hops => rw [hops lg data] at hk hkl; simp at hk hkl; omega
  | fresh ob x fi wf j y ho hx hfull hfx hne hy hfy hjn hops => rw [hops lg data] at hk hkl; simp at hk hkl; omega
  | move ob x fi fx v y ho hx hfull hfx hff hy hvn hj3 hv3 hvic hall hops =>
    have hfi := (List.getElem?_eq_some_iff.1 hfx).1
    have hvl := (List.getElem?_eq_some_iff.1 hy).1
    have hyf := hall v y hy hvn
    rw [hops lg data] at hR hk hkl
    rw [List.length_append, moveOps_length] at hk hkl
    simp only [List.length_cons, List.length_nil] at hk hkl
    have hmo := moveOps_length bs L (v : Int) (fi : Int) seq
    rw [List.take_append_of_le_length (by omega)] at hR
    by_cases hkj : k ≤ (movedTo bs L (v : Int) (fi : Int) seq 4).length
    · obtain ⟨i, hi4, ei⟩ := movedTo_take bs L (v : Int) (fi : Int) seq 4 k hkj
      have eM : (moveOps bs L (v : Int) (fi : Int) seq).take k = movedTo bs L (v : Int) (fi : Int) seq i := by
        unfold moveOps
        rw [List.take_append_of_le_length hkj]
        exact ei
      have elen : (movedTo bs L (v : Int) (fi : Int) seq i).length = k := by rw [← ei, List.length_take]; omega
      rw [eM] at hR
      obtain ⟨m1, m2, m3⟩ := runs_moves h (by omega) hfx hff hvl i hi4
      have I := moves_moved h (by omega) hfx hff hvl i hi4
      obtain rfl := hR.one m1
      have hfew := I.few h hi4 hvn lenm (fi : Int)
      rw [elen] at hfew
      have hfi2 : (bs.set fi ⟨fx.wear, padded ((movedTo bs L (v : Int) (fi : Int) seq i).map (·.page))⟩)[fi]? = some ⟨fx.wear, padded ((movedTo bs L (v : Int) (fi : Int) seq i).map (·.page))⟩ := List.getElem?_set_self hfi
      have hpl : ((movedTo bs L (v : Int) (fi : Int) seq i).map (·.page)).length = k := by rw [List.length_map]; exact elen
      obtain ⟨hhalf, hrm⟩ := half_padded (w := fx.wear) (ps := (movedTo bs L (v : Int) (fi : Int) seq i).map (·.page)) (by omega) (by omega) m2
      have hh : halves (bs.set fi ⟨fx.wear, padded ((movedTo bs L (v : Int) (fi : Int) seq i).map (·.page))⟩) ≤ 1 := halves_one (f := fi) (fun j z hz hn => by
        rw [List.getElem?_set_ne (fun e => hn e.symm)] at hz
        exact fullB_half (hall j z hz hn))
      have hop := (halves_only hh hfi2 hhalf).symm
      have hy2 : (bs.set fi ⟨fx.wear, padded ((movedTo bs L (v : Int) (fi : Int) seq i).map (·.page))⟩)[v]? = some y := by rw [List.getElem?_set_ne (fun e => hvn e.symm)]; exact hy
      rw [hpl] at hrm
      have htop : topSeq (bs.set fi ⟨fx.wear, padded ((movedTo bs L (v : Int) (fi : Int) seq i).map (·.page))⟩) ≤ 999999989 := topOf_le (fun z hz => by have := I.top z hz; rw [elen] at this; omega) (by omega)
      generalize bs.set fi ⟨fx.wear, padded ((movedTo bs L (v : Int) (fi : Int) seq i).map (·.page))⟩ = mid at *
      refine ⟨⟨fun z hz => by rw [hroom]; exact I.logs z hz, hh, htop, worn_not hwm, .inr ⟨?_, ?_, ?_⟩⟩, fun l => I.read l⟩
      · unfold vicO vicOf
        rw [hop]
        exact vicTo_full hy2 (by omega) hyf _ (by omega)
      · rw [hop, roomAt_of (x := ⟨fx.wear, padded ((movedTo bs L (v : Int) (fi : Int) seq i).map (·.page))⟩) (by simpa using hfi2), hrm]
        omega
      · have hmin := vicTo_min (bs := mid) (L := mapO mid) (o := (fi : Int)) mid.length v y (by omega) hy2 (by omega) hyf
        rw [hop, roomAt_of (x := ⟨fx.wear, padded ((movedTo bs L (v : Int) (fi : Int) seq i).map (·.page))⟩) (by simpa using hfi2), hrm]
        unfold vicO vicOf
        rw [hop]
        omega
    · have ek : k = (movedTo bs L (v : Int) (fi : Int) seq 4).length + 1 := by omega
      rw [List.take_of_length_le (by omega)] at hR
      obtain ⟨m1, m2, m3⟩ := runs_moves h (by omega) hfx hff hvl 4 (Nat.le_refl _)
      have I := moves_moved h (by omega) hfx hff hvl 4 (Nat.le_refl _)
      unfold moveOps at hR
      generalize movedTo bs L (v : Int) (fi : Int) seq 4 = M at *
      have ok1 := m1.ok h.chip
      have hyw : y.wear ≠ 1000000000 := fun e => hro.1 ⟨v, y, hvl, hy, e⟩
      have hy1 : (bs.set fi ⟨fx.wear, padded (M.map (·.page))⟩)[v]? = some y := by rw [List.getElem?_set_ne (fun e => hvn e.symm)]; exact hy
      have st1 := step_erase ok1 hy1 hyw
      obtain rfl := hR.one (runs_snoc.2 ⟨_, m1, st1⟩)
      have hmE := used_erase (wv := y.wear + 1) ok1 okm (show v < _ by simpa using hvl)
      have hv2 : ((bs.set fi ⟨fx.wear, padded (M.map (·.page))⟩).set v ⟨y.wear + 1, zeroBk.pages⟩)[v]? = some ⟨y.wear + 1, zeroBk.pages⟩ := List.getElem?_set_self (by simpa using hvl)
      have hh : halves ((bs.set fi ⟨fx.wear, padded (M.map (·.page))⟩).set v ⟨y.wear + 1, zeroBk.pages⟩) ≤ 1 := halves_one (f := fi) (fun j z hz hn => by
        by_cases e : j = v
        · subst e
          rw [hv2] at hz
          cases hz
          exact freeB_half rfl
        · rw [List.getElem?_set_ne (fun e2 => e e2.symm), List.getElem?_set_ne (fun e2 => hn e2.symm)] at hz
          exact fullB_half (hall j z hz hn))
      refine ⟨⟨fun z hz => by rw [hroom]; exact I.logs z ((hmE z).1 hz).1, hh, ?_, worn_not hwm, .inl (spare_fresh okm hh hv2 rfl)⟩, fun l => ?_⟩
      · exact topOf_le (fun z hz => by have := I.top z ((hmE z).1 hz).1; omega) (by omega)
      · rw [← I.read l]
        unfold readOf
        rw [newest_less okm ok1 hmE (fun z hz => I.left h.chip hvn l z hz)]
end Go.Proofs.YtjgcjeaplckbbaaGreat
