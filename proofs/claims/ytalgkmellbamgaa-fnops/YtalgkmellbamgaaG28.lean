/- 3 texts in one. -/
import Derived.Test.YtalgkmellbamgaaG27
import Derived.Test.YtalgkmellbamgaaG06
import Derived.Test.YtalgkmellbamgaaG21

/- What a write leaves: a right member, what was written, and all else as it was. In plain lists; no program is named here. -/
namespace Go.Proofs.Ytalgkmellbamgaa
open Go.RowKit
set_option linter.unusedVariables false
set_option linter.unusedSimpArgs false

theorem used_seqs {bs : List Bk} (h : ChipOk bs) {x : Int × Pg} (hx : x ∈ usedOf bs) : x.2.seq ∈ seqs bs := by
  obtain ⟨b, k, y, hy, hp, _, _, hu⟩ := (usedOf_iff h).1 hx
  exact mem_seqs hy hp hu
theorem FtlOk.newestIn {bs : List Bk} {L : List Int} {seq o : Int} (h : FtlOk bs L seq o) {l : Int} {y : Int × Pg} (hy : newestAt (usedOf bs) l = some y) : y.1 ∈ L := by
  obtain ⟨hm, hl⟩ := newestAt_mem hy
  have h1 := h.chip.usedRight hm
  have h2 := h.fits y hm
  obtain ⟨i, rfl⟩ := Int.eq_ofNat_of_zero_le (show 0 ≤ l by omega)
  have := placesOf_at (usedOf bs) (roomOf bs) (i := i) (by omega)
  rw [hy] at this
  rw [h.map]
  exact List.mem_of_getElem? this
/-- Where the pages of the first k of block v stand behind their moves into f. -/
structure Moved (bs bsk : List Bk) (f v k : Nat) (seq : Int) (n : Nat) : Prop where
  ok : ChipOk bsk
  logs : ∀ x ∈ usedOf bsk, x.2.log < (roomOf bs : Int)
  top : ∀ x ∈ usedOf bsk, x.2.seq < seq + (n : Int)
  stay : ∀ l, (∀ y, newestAt (usedOf bs) l = some y → ¬ ∃ j : Nat, j < k ∧ y.1 = (v : Int) * 4 + (j : Int)) → newestAt (usedOf bsk) l = newestAt (usedOf bs) l
  went : ∀ l y, newestAt (usedOf bs) l = some y → (∃ j : Nat, j < k ∧ y.1 = (v : Int) * 4 + (j : Int)) → ∃ z, newestAt (usedOf bsk) l = some z ∧ z.1 / 4 = (f : Int) ∧ z.2.data = y.2.data
theorem moves_moved {bs : List Bk} {L : List Int} {seq o : Int} (h : FtlOk bs L seq o) (hq : seq ≤ 999999990) {f : Nat} {x : Bk} (hx : bs[f]? = some x) (hfree : freeB x = true) {v : Nat} (hv : v < bs.length) :
    ∀ k, k ≤ 4 → Moved bs (bs.set f ⟨x.wear, padded ((movedTo bs L (v : Int) (f : Int) seq k).map (·.page))⟩) f v k seq (movedTo bs L (v : Int) (f : Int) seq k).length := by
  have hf := (List.getElem?_eq_some_iff.1 hx).1
  have hxb := h.chip.block x (List.mem_of_getElem? hx)
  have hpx := free_pages hxb hfree
  have hR := runs_moves h hq hx hfree hv
  intro k
  induction k with
  | zero =>
    intro _
    have e : bs.set f ⟨x.wear, padded ((movedTo bs L (v : Int) (f : Int) seq 0).map (·.page))⟩ = bs := by
      have e2 : (⟨x.wear, padded ((movedTo bs L (v : Int) (f : Int) seq 0).map (·.page))⟩ : Bk) = x := by
        obtain ⟨xw, xp⟩ := x
        simp only at hpx
        rw [hpx]
        rfl
      rw [e2, ← (List.getElem?_eq_some_iff.1 hx).2]
      exact List.set_getElem_self _
    rw [e]
    refine ⟨h.chip, h.fits, fun y hy => ?_, fun l _ => rfl, fun l y hy hj => ?_⟩
    · have := h.chip.seqs_top (used_seqs h.chip hy)
      have := h.seq
      simp [movedTo]
      omega
    · obtain ⟨j, hj, _⟩ := hj
      omega
  | succ k ih =>
    intro hk
    have I := ih (by omega)
    by_cases hm : movesAt bs L (v : Int) k = true
    · have e : movedTo bs L (v : Int) (f : Int) seq (k + 1) = movedTo bs L (v : Int) (f : Int) seq k ++ [⟨1, (f : Int), { pageIn bs (v : Int) k with seq := seq + ((movedTo bs L (v : Int) (f : Int) seq k).length : Int) }⟩] := by simp [movedTo, hm]
      have hln := movedTo_length bs L (v : Int) (f : Int) seq k
      obtain ⟨r1, r2, r3⟩ := hR (k + 1) hk
      obtain ⟨q1, q2, q3⟩ := hR k (by omega)
      have ok' := r1.ok h.chip
      rw [e] at ok' ⊢
      obtain ⟨M, hM⟩ : ∃ M, M = movedTo bs L (v : Int) (f : Int) seq k := ⟨_, rfl⟩
      rw [← hM] at I hln ok' q2 q3 ⊢
      obtain ⟨y, hy⟩ := getElem?_ex (l := bs) (k := v) hv
      have hyb := h.chip.block y (List.mem_of_getElem? hy)
      obtain ⟨p, hp⟩ := getElem?_ex (l := y.pages) (k := k) (by have := hyb.four; omega)
      have hpi := pageIn_of hy hp
      have hm2 := hm
      unfold movesAt at hm2
      rw [hpi] at hm2
      simp only [Bool.and_eq_true, decide_eq_true_eq] at hm2
      obtain ⟨hpu, hLp⟩ := hm2
      rw [hpi] at ok' ⊢
      have hin : (((v : Int) * 4 + (k : Int)), p) ∈ usedOf bs := mem_usedOf hy hp (by omega) hpu
      have hrt := h.chip.usedRight hin
      have hfit := h.fits _ hin
      simp only at hrt hfit
      have hnew : newestAt (usedOf bs) p.log = some (((v : Int) * 4 + (k : Int)), p) := by
        rw [h.map] at hLp
        rw [placesOf_at _ _ (by omega)] at hLp
        have e1 : ((p.log.toNat : Nat) : Int) = p.log := by omega
        rw [e1] at hLp
        cases en : newestAt (usedOf bs) p.log with
        | none => rw [en] at hLp; simp [placeIn] at hLp; omega
        | some z =>
          rw [en] at hLp
          simp only [placeIn, Option.some.injEq] at hLp
          obtain ⟨hzm, hzl⟩ := newestAt_mem en
          obtain ⟨b', k', y', hy', hk', h4', ez, _⟩ := (usedOf_iff h.chip).1 hzm
          have eb : b' = v := by omega
          have ek : k' = k := by omega
          subst eb ek
          rw [hy] at hy'
          cases hy'
          rw [hp] at hk'
          cases hk'
          exact congrArg some (Prod.ext hLp rfl)
      have hMl : (M.map (·.page)).length = M.length := by simp
      have hcur : (bs.set f ⟨x.wear, padded (M.map (·.page))⟩)[f]? = some ⟨x.wear, padded (M.map (·.page))⟩ := List.getElem?_set_self hf
      have e3 : bs.set f ⟨x.wear, padded ((M ++ [(⟨1, (f : Int), { p with seq := seq + (M.length : Int) }⟩ : Opn)]).map (·.page))⟩ = (bs.set f ⟨x.wear, padded (M.map (·.page))⟩).set f ⟨x.wear, padded (M.map (·.page) ++ [{ p with seq := seq + (M.length : Int) }])⟩ := by
        rw [List.set_set]
        simp
      rw [e3] at ok' ⊢
      have hmem := used_prog (p := { p with seq := seq + (M.length : Int) }) I.ok ok' hcur (by rw [hMl]; omega) hpu
      rw [hMl] at hmem
      have hN := fun l => newest_more ok' I.ok hmem (fun z hz => I.top z hz) l
      refine ⟨ok', fun z hz => ?_, fun z hz => ?_, fun l hl => ?_, fun l z hz hj => ?_⟩
      · rcases (hmem z).1 hz with hz | rfl
        · exact I.logs z hz
        · exact hfit
      · rw [List.length_append]
        rcases (hmem z).1 hz with hz | rfl
        · have := I.top z hz; simp; omega
        · simp; omega
      · rw [hN l]
        rw [if_neg]
        · exact I.stay l (fun w hw ⟨j, hj, ej⟩ => hl w hw ⟨j, by omega, ej⟩)
        · intro el
          simp only at el
          rw [el] at hnew
          exact hl _ hnew ⟨k, by omega, rfl⟩
      · rw [hN l]
        by_cases el : p.log = l
        · rw [if_pos (show ({ p with seq := seq + (M.length : Int) } : Pg).log = l from el)]
          rw [el, hz] at hnew
          simp only [Option.some.injEq] at hnew
          subst hnew
          exact ⟨_, rfl, by simp only; omega, rfl⟩
        · rw [if_neg (show ¬ ({ p with seq := seq + (M.length : Int) } : Pg).log = l from el)]
          obtain ⟨j, hj, ej⟩ := hj
          by_cases ek : j = k
          · subst ek
            exfalso
            obtain ⟨hzm, hzl⟩ := newestAt_mem hz
            obtain ⟨b', k', y', hy', hk', h4', ez, _⟩ := (usedOf_iff h.chip).1 hzm
            have eb : b' = v := by omega
            have ek : k' = j := by omega
            subst eb ek
            rw [hy] at hy'
            cases hy'
            rw [hp] at hk'
            cases hk'
            exact el hzl
          · exact I.went l z hz ⟨j, by omega, ej⟩
    · have e : movedTo bs L (v : Int) (f : Int) seq (k + 1) = movedTo bs L (v : Int) (f : Int) seq k := by simp [movedTo, hm]
      rw [e]
      refine ⟨I.ok, I.logs, I.top, fun l hl => I.stay l (fun w hw ⟨j, hj, ej⟩ => hl w hw ⟨j, by omega, ej⟩), fun l z hz ⟨j, hj, ej⟩ => ?_⟩
      by_cases ek : j = k
      · subst ek
        exfalso
        have := h.newestIn hz
        rw [ej] at this
        rw [h.moves (by omega) (by omega)] at hm
        exact hm (by simpa using this)
      · exact I.went l z hz ⟨j, by omega, ej⟩
theorem Moved.read {bs bsk : List Bk} {f v k : Nat} {seq : Int} {n : Nat} (h : Moved bs bsk f v k seq n) (l : Int) : readOf bsk l = readOf bs l := by
  unfold readOf
  by_cases hj : ∃ y, newestAt (usedOf bs) l = some y ∧ ∃ j : Nat, j < k ∧ y.1 = (v : Int) * 4 + (j : Int)
  · obtain ⟨y, hy, hj⟩ := hj
    obtain ⟨z, hz, _, hd⟩ := h.went l y hy hj
    rw [hy, hz]
    simp [hd]
  · rw [h.stay l (fun y hy hj2 => hj ⟨y, hy, hj2⟩)]
/-- Behind all moves the block has no newest page any more. -/
theorem Moved.left {bs bsk : List Bk} {f v : Nat} {seq : Int} {n : Nat} (h : Moved bs bsk f v 4 seq n) (hok : ChipOk bs) (hne : v ≠ f) (l : Int) (z : Int × Pg) (hz : newestAt (usedOf bsk) l = some z) : ¬ z.1 / 4 = (v : Int) := by
  by_cases hj : ∃ y, newestAt (usedOf bs) l = some y ∧ ∃ j : Nat, j < 4 ∧ y.1 = (v : Int) * 4 + (j : Int)
  · obtain ⟨y, hy, hj⟩ := hj
    obtain ⟨z', hz', hf, _⟩ := h.went l y hy hj
    rw [hz] at hz'
    cases hz'
    omega
  · have e := h.stay l (fun y hy hj2 => hj ⟨y, hy, hj2⟩)
    rw [e] at hz
    intro hv
    obtain ⟨b, k, y, _, _, h4, ez, _⟩ := (usedOf_iff hok).1 (newestAt_mem hz).1
    exact hj ⟨z, hz, k, h4, by omega⟩

/-- How a right member is written to. -/
inductive Way (bs : List Bk) (L : List Int) (seq o : Int) : Prop where
  | room (ob : Nat) (wf : Int) (ps : List Pg) : o = (ob : Int) → bs[ob]? = some ⟨wf, padded ps⟩ → ps.length < 4 → (∀ q ∈ ps, q.used = true) → (∀ lg data, writeOps bs L seq o lg data = [⟨1, (ob : Int), ⟨true, lg, seq, data⟩⟩]) → Way bs L seq o
  | fresh (ob : Nat) (x : Bk) (fi : Nat) (wf : Int) (j : Nat) (y : Bk) : o = (ob : Int) → bs[ob]? = some x → fullB x = true → bs[fi]? = some ⟨wf, padded []⟩ → fi ≠ ob → bs[j]? = some y → freeB y = true → j ≠ fi → (∀ lg data, writeOps bs L seq o lg data = [⟨1, (fi : Int), ⟨true, lg, seq, data⟩⟩]) → Way bs L seq o
  | move (ob : Nat) (x : Bk) (fi : Nat) (fx : Bk) (v : Nat) (y : Bk) : o = (ob : Int) → bs[ob]? = some x → fullB x = true → bs[fi]? = some fx → freeB fx = true → bs[v]? = some y → v ≠ fi → (movedTo bs L (v : Int) (fi : Int) seq 4).length ≤ 3 → validIn L (v : Int) ≤ 3 → vicOf bs L (fi : Int) = (v : Int) → (∀ i z, bs[i]? = some z → i ≠ fi → fullB z = true) → (∀ lg data, writeOps bs L seq o lg data = moveOps bs L (v : Int) (fi : Int) seq ++ [⟨1, (fi : Int), ⟨true, lg, seq + ((movedTo bs L (v : Int) (fi : Int) seq 4).length : Int), data⟩⟩]) → Way bs L seq o
theorem next_of_free {x : Bk} (hfu : fullB x = false) : ∃ r, NextIs (pu x) 4 r ∧ 0 ≤ r := by
  unfold fullB at hfu
  cases e0 : pu x 0 with
  | false => exact ⟨0, .inl ⟨0, by omega, rfl, e0, fun j hj => by omega⟩, by omega⟩
  | true =>
    cases e1 : pu x 1 with
    | false => exact ⟨1, .inl ⟨1, by omega, rfl, e1, fun j hj => by
        have : j = 0 := by omega
        subst this
        exact e0⟩, by omega⟩
    | true =>
      cases e2 : pu x 2 with
      | false => exact ⟨2, .inl ⟨2, by omega, rfl, e2, fun j hj => by
          have : j = 0 ∨ j = 1 := by omega
          rcases this with rfl | rfl
          · exact e0
          · exact e1⟩, by omega⟩
      | true =>
        cases e3 : pu x 3 with
        | false => exact ⟨3, .inl ⟨3, by omega, rfl, e3, fun j hj => by
            have : j = 0 ∨ j = 1 ∨ j = 2 := by omega
            rcases this with rfl | rfl | rfl
            · exact e0
            · exact e1
            · exact e2⟩, by omega⟩
        | true => rw [e0, e1, e2, e3] at hfu; cases hfu
theorem FtlOk.way {bs : List Bk} {L : List Int} {seq o : Int} (h : FtlOk bs L seq o) : Way bs L seq o := by
  have hop := h.opn
  have hc := h.chip.count
  obtain ⟨ob, rfl⟩ := Int.eq_ofNat_of_zero_le hop.1
  obtain ⟨x, hx⟩ := getElem?_ex (l := bs) (k := ob) (by omega)
  have hx' : bs[((ob : Int)).toNat]? = some x := by simpa using hx
  have hxb := h.chip.block x (List.mem_of_getElem? hx)
  cases hfu : fullB x with
  | false =>
    obtain ⟨r, hr, hr0⟩ := next_of_free hfu
    obtain ⟨e1, e2, e3⟩ := full_order hxb hr hr0
    have hl4 := hxb.four
    refine .room ob x.wear (x.pages.take r.toNat) rfl (by rw [← e1]; exact hx) (by rw [List.length_take]; omega) e3 (fun lg data => ?_)
    unfold writeOps; rw [fullAt_of hx', hfu]; rfl
  | true =>
    obtain ⟨fi, fx, hfr, hfx, hff, hfl, _⟩ := h.fresh
    have hfxb := h.chip.block fx (List.mem_of_getElem? hfx)
    have hne : fi ≠ ob := by
      rintro rfl
      rw [hx] at hfx
      cases hfx
      have := fullB_pu hfu
      unfold freeB at hff
      rw [this] at hff
      cases hff
    by_cases hal : freshOf bs (freshOf bs (-1)) < 0
    · obtain ⟨hfew, v, y, hv, hy, hvn⟩ := h.victimFew hx' hfu hal
      have hvl := (List.getElem?_eq_some_iff.1 hy).1
      rw [hv] at hfew
      rw [hfr] at hvn hv
      have hj3 := moved_few (into := (fi : Int)) (s := seq) h (v := (v : Int)) (by omega)
      refine .move ob x fi fx v y rfl hx hfu hfx hff hy (by omega) (by omega) hfew hv (fun i z hz hn => ?_) (fun lg data => ?_)
      · have hi := (List.getElem?_eq_some_iff.1 hz).1
        have h1 := (freshIn_neg (bs := bs) (but := (fi : Int)) (L := freeTo bs bs.length) (fun y hy => by obtain ⟨i, _, rfl, _⟩ := mem_freeTo hy; omega)).1 (by rw [hfr] at hal; exact hal)
        have hnf : freeB z = false := by
          cases hfy : freeB z with
          | false => rfl
          | true =>
            exfalso
            have hb : begun bs i = false := by rw [begun_pu hz]; unfold freeB at hfy; simpa using hfy
            have := h1 _ (freeTo_mem hi hb)
            omega
        by_cases e : i = ob
        · subst e
          rw [hz] at hx
          cases hx
          exact hfu
        · have hh := h.settled.1 i z hi hz (by omega)
          unfold halfB at hh
          unfold freeB at hnf
          have hp : pu z 0 = true := by simpa using hnf
          rw [hp] at hh
          simpa using hh
      · unfold writeOps
        rw [fullAt_of hx', hfu, if_pos rfl, if_pos hal, hfr, hv]
    · have hp := free_pages hfxb hff
      have e1 : fx = ⟨fx.wear, padded []⟩ := by
        obtain ⟨fw, fp⟩ := fx
        simp only at hp
        rw [hp]
        rfl
      have hfree : ∃ (j : Nat) (y : Bk), bs[j]? = some y ∧ freeB y = true ∧ j ≠ fi := by
        apply Classical.byContradiction
        intro hno
        apply hal
        rw [hfr]
        refine (freshIn_neg (bs := bs) (but := (fi : Int)) (L := freeTo bs bs.length) (fun y hy => by obtain ⟨i, _, rfl, _⟩ := mem_freeTo hy; omega)).2 (fun z hz => ?_)
        obtain ⟨i, hi, rfl, hb⟩ := mem_freeTo hz
        obtain ⟨w, hw⟩ := getElem?_ex (l := bs) (k := i) hi
        by_cases e : i = fi
        · rw [e]
        · exact absurd ⟨i, w, hw, by rw [begun_pu hw] at hb; unfold freeB; simp [hb], e⟩ hno
      obtain ⟨j, y, hy, hfy, hjn⟩ := hfree
      refine .fresh ob x fi fx.wear j y rfl hx hfu (by rw [← e1]; exact hfx) hne hy hfy hjn (fun lg data => ?_)
      unfold writeOps
      rw [fullAt_of hx', hfu, if_pos rfl, if_neg hal, hfr]
theorem freeB_half {x : Bk} (h : freeB x = true) : halfB x = false := by unfold freeB at h; unfold halfB; simp at h; simp [h]
theorem fullB_half {x : Bk} (h : fullB x = true) : halfB x = false := by unfold halfB; simp [h]
theorem freeB_zero (w : Int) : freeB ⟨w, zeroBk.pages⟩ = true := rfl
/-- What is right of a member that is made of a chip. -/
theorem FtlOk.made {bs : List Bk} {L : List Int} {r : Bool} {s o : Int} (hok : ChipOk bs) (hf : Fits bs) (hM : MapIs bs r L) (hs : ∀ x ∈ usedOf bs, x.2.seq ≤ s) (h0 : 0 ≤ s) (h9 : s + 1 ≤ 1000000000) (ho : 0 ≤ o ∧ o ≤ (bs.length : Int) - 1) (hst : Settled bs o) : FtlOk bs L (s + 1) o := by
  have hr : r = true := hM.1.2 hf
  subst hr
  refine ⟨hok, hf, by rw [hM.2, if_pos rfl], ⟨?_, h9⟩, ho, hst⟩
  have := topOf_le hs h0
  unfold topSeq
  omega
theorem lastOp_one (x : Opn) : lastOp [x] = x := rfl
theorem lastOp_snoc (xs : List Opn) (x : Opn) : lastOp (xs ++ [x]) = x := by simp [lastOp]
/-- A write keeps a right member right: what was written is read, and all else as it was. -/
theorem FtlOk.wrote {bs : List Bk} {L : List Int} {seq o lg : Int} {data : ByteArray} (h : FtlOk bs L seq o) (hfo : formOk bs lg data) (hro : roomy bs seq) {bs' : List Bk} {L' : List Int} {seq' o' : Int} (hd : DoneIs bs L seq o lg data bs' L' seq' o') :
    FtlOk bs' L' seq' o' ∧ bs'.length = bs.length ∧ ∀ l, readOf bs' l = if lg = l then data else readOf bs l := by
  obtain ⟨hR, ⟨r, hM⟩, rfl, rfl⟩ := hd
  have hlen := hR.len
  have hroom : roomOf bs' = roomOf bs := by unfold roomOf; rw [hlen]
  have ok' := hR.ok h.chip
  have hsq := h.seq
  have htp := h.chip.top
  have hro2 := hro.2
  have hc := h.chip.count
  have hrm : (roomOf bs : Int) ≤ 36 := by unfold roomOf; omega
  have htop0 : ∀ z ∈ usedOf bs, z.2.seq < seq := fun z hz => by have := h.chip.seqs_top (used_seqs h.chip hz); omega
  have hright : ∀ s : Int, 1 ≤ s → s ≤ 1000000000 → rightUsed ⟨true, lg, s, data⟩ = true := fun s h1 h2 => by
    obtain ⟨f1, f2, f3⟩ := hfo
    unfold rightUsed
    simp only [Bool.and_eq_true, decide_eq_true_eq, Bool.true_and]
    exact ⟨⟨⟨f1, by omega⟩, h1, h2⟩, f3⟩
  have hs0 : ∀ s ∈ seqs bs, s < seq := fun s hs => by have := h.chip.seqs_top hs; omega
  have hread : ∀ (b0 : List Bk) (q : Int × Pg), q.2.log = lg → q.2.data = data → (∀ l, newestAt (usedOf bs') l = if q.2.log = l then some q else newestAt (usedOf b0) l) → (∀ l, readOf b0 l = readOf bs l) → ∀ l, readOf bs' l = if lg = l then data else readOf bs l := by
    intro b0 q hql hqd hn h0 l
    have e1 : readOf bs' l = ((newestAt (usedOf bs') l).map (·.2.data)).getD zeros4 := rfl
    rw [e1, hn l, hql]
    by_cases hl : lg = l
    · rw [if_pos hl, if_pos hl]
      simp [hqd]
    · rw [if_neg hl, if_neg hl]
      exact h0 l
  cases h.way with
  | room ob wf ps ho hx hlt hu hops =>
    subst ho
    have hob := (List.getElem?_eq_some_iff.1 hx).1
    rw [hops lg data] at hR ⊢
    have hst := step_prog (p := ⟨true, lg, seq, data⟩) h.chip hx hlt hu (hright seq (by omega) hsq.2) hs0
    obtain rfl : bs' = _ := hR.one (o2 := bs.set ob ⟨wf, padded (ps ++ [(⟨true, lg, seq, data⟩ : Pg)])⟩) ⟨_, hst, rfl⟩
    have hmem := used_prog (p := ⟨true, lg, seq, data⟩) h.chip ok' hx hlt rfl
    have hN := newest_more ok' h.chip hmem htop0
    rw [lastOp_one]
    refine ⟨FtlOk.made (s := seq) ok' (fun z hz => ?_) hM (fun z hz => ?_) (by omega) (by omega) ⟨by simp only; omega, by simp only [List.length_set]; omega⟩ ⟨fun i z hi hz hn => ?_, ?_⟩, hlen, hread bs _ rfl rfl hN (fun l => rfl)⟩
    · rw [hroom]
      rcases (hmem z).1 hz with hz | rfl
      · exact h.fits z hz
      · exact hfo.2.1
    · rcases (hmem z).1 hz with hz | rfl
      · have := htop0 z hz; omega
      · exact Int.le_refl _
    · have hn' : ob ≠ i := fun e => hn (by subst e; rfl)
      rw [List.getElem?_set_ne hn'] at hz
      exact h.settled.1 i z (by simpa using hi) hz hn
    · obtain ⟨i, z, hi, hz, hn, hf⟩ := h.settled.2
      exact ⟨i, z, by simpa using hi, by rw [List.getElem?_set_ne (fun e => hn (by subst e; rfl))]; exact hz, hn, hf⟩
  | fresh ob x fi wf j y ho hx hfull hfx hne hy hfy hjn hops =>
    subst ho
    have hfi := (List.getElem?_eq_some_iff.1 hfx).1
    have hjl := (List.getElem?_eq_some_iff.1 hy).1
    rw [hops lg data] at hR ⊢
    have hst := step_prog (p := ⟨true, lg, seq, data⟩) h.chip hfx (by simp) (fun q hq => by simp at hq) (hright seq (by omega) hsq.2) hs0
    obtain rfl : bs' = _ := hR.one (o2 := bs.set fi ⟨wf, padded ([] ++ [(⟨true, lg, seq, data⟩ : Pg)])⟩) ⟨_, hst, rfl⟩
    have hmem := used_prog (p := ⟨true, lg, seq, data⟩) h.chip ok' hfx (by simp) rfl
    have hN := newest_more ok' h.chip hmem htop0
    rw [lastOp_one]
    refine ⟨FtlOk.made (s := seq) ok' (fun z hz => ?_) hM (fun z hz => ?_) (by omega) (by omega) ⟨by simp only; omega, by simp only [List.length_set]; omega⟩ ⟨fun i z hi hz hn => ?_, ?_⟩, hlen, hread bs _ rfl rfl hN (fun l => rfl)⟩
    · rw [hroom]
      rcases (hmem z).1 hz with hz | rfl
      · exact h.fits z hz
      · exact hfo.2.1
    · rcases (hmem z).1 hz with hz | rfl
      · have := htop0 z hz; omega
      · exact Int.le_refl _
    · have hn' : fi ≠ i := fun e => hn (by subst e; rfl)
      rw [List.getElem?_set_ne hn'] at hz
      by_cases e : i = ob
      · subst e
        rw [hx] at hz
        cases hz
        exact fullB_half hfull
      · exact h.settled.1 i z (by simpa using hi) hz (by omega)
    · exact ⟨j, y, by simpa using hjl, by rw [List.getElem?_set_ne (fun e => hjn e.symm)]; exact hy, fun e => hjn (by simp only at e; omega), hfy⟩
  | move ob x fi fx v y ho hx hfull hfx hff hy hvn hj3 hfew hvic hall hops =>
    subst ho
    have hfi := (List.getElem?_eq_some_iff.1 hfx).1
    have hvl := (List.getElem?_eq_some_iff.1 hy).1
    rw [hops lg data] at hR ⊢
    obtain ⟨m1, m2, m3⟩ := runs_moves h hro2 hfx hff hvl 4 (Nat.le_refl _)
    have I := moves_moved h hro2 hfx hff hvl 4 (Nat.le_refl _)
    obtain ⟨M, hMM⟩ : ∃ M, M = movedTo bs L (v : Int) (fi : Int) seq 4 := ⟨_, rfl⟩
    unfold moveOps at hR ⊢
    rw [← hMM] at m1 m2 m3 hj3 I hR ⊢
    have ok1 := m1.ok h.chip
    have hyw : y.wear ≠ 1000000000 := fun e => hro.1 ⟨v, y, hvl, hy, e⟩
    have hy1 : (bs.set fi ⟨fx.wear, padded (M.map (·.page))⟩)[v]? = some y := by rw [List.getElem?_set_ne (by omega)]; exact hy
    have st1 := step_erase ok1 hy1 hyw
    have r1 := runs_snoc.2 ⟨_, m1, st1⟩
    have ok2 := r1.ok h.chip
    have hf2 : ((bs.set fi ⟨fx.wear, padded (M.map (·.page))⟩).set v ⟨y.wear + 1, zeroBk.pages⟩)[fi]? = some ⟨fx.wear, padded (M.map (·.page))⟩ := by
      rw [List.getElem?_set_ne (by omega)]
      simp [hfi]
    have st2 := step_prog (p := ⟨true, lg, seq + (M.length : Int), data⟩) ok2 hf2 (by simp; omega) m2 (hright _ (by omega) (by omega)) (fun s hs => by
      rcases seqs_set_mem hs with h1 | ⟨q, hq2, hqu, rfl⟩
      · exact m3 s h1
      · simp [zeroBk] at hq2
        rw [hq2] at hqu
        cases hqu)
    obtain rfl := hR.one (runs_snoc.2 ⟨_, r1, st2⟩)
    have hmE := used_erase (wv := y.wear + 1) ok1 ok2 (show v < _ by simpa using hvl)
    have hlM : (M.map (·.page)).length = M.length := by simp
    have hmem := used_prog (p := ⟨true, lg, seq + (M.length : Int), data⟩) ok2 ok' hf2 (by simp; omega) rfl
    have hN := newest_more ok' ok2 hmem (fun z hz => I.top z ((hmE z).1 hz).1)
    have hE : ∀ l, readOf ((bs.set fi ⟨fx.wear, padded (M.map (·.page))⟩).set v ⟨y.wear + 1, zeroBk.pages⟩) l = readOf bs l := fun l => by
      rw [← I.read l]
      unfold readOf
      rw [newest_less ok2 ok1 hmE (fun z hz => I.left h.chip hvn l z hz)]
    rw [lastOp_snoc]
    refine ⟨FtlOk.made (s := seq + (M.length : Int)) ok' (fun z hz => ?_) hM (fun z hz => ?_) (by omega) (by omega) ⟨by simp only; omega, by simp only [List.length_set]; omega⟩ ⟨fun i z hi hz hn => ?_, ?_⟩, hlen, hread _ _ rfl rfl hN hE⟩
    · rw [hroom]
      rcases (hmem z).1 hz with hz | rfl
      · exact I.logs z ((hmE z).1 hz).1
      · exact hfo.2.1
    · rcases (hmem z).1 hz with hz | rfl
      · have := I.top z ((hmE z).1 hz).1; omega
      · exact Int.le_refl _
    · simp only at hn
      have hn' : fi ≠ i := fun e => hn (by subst e; rfl)
      rw [List.getElem?_set_ne hn'] at hz
      by_cases e : v = i
      · subst e
        rw [List.getElem?_set_self (by simpa using hvl)] at hz
        cases hz
        exact freeB_half (freeB_zero _)
      · rw [List.getElem?_set_ne e, List.getElem?_set_ne hn'] at hz
        exact fullB_half (hall i z hz (fun h => hn' h.symm))
    · refine ⟨v, ⟨y.wear + 1, zeroBk.pages⟩, by simpa using hvl, ?_, by simp only; omega, freeB_zero _⟩
      rw [List.getElem?_set_ne (fun h => hvn h.symm), List.getElem?_set_self (by simpa using hvl)]
end Go.Proofs.Ytalgkmellbamgaa

/- The block that is emptied, in plain lists: full, none with fewer; what is named is named once. No program is named here. -/
namespace Go.Proofs.Ytalgkmellbamgaa
open Go.RowKit
set_option linter.unusedVariables false
set_option linter.unusedSimpArgs false

/-- The victim is full and not the open block. -/
theorem vicTo_is {bs : List Bk} {L : List Int} {o : Int} : ∀ k, 0 ≤ vicTo bs L o k → ∃ (v : Nat) (x : Bk), vicTo bs L o k = (v : Int) ∧ v < k ∧ bs[v]? = some x ∧ fullB x = true ∧ (v : Int) ≠ o := by
  intro k
  induction k with
  | zero => intro h; exact absurd h (by show ¬ (0 : Int) ≤ -1; decide)
  | succ k ih =>
    intro h
    rw [vicTo_succ] at h ⊢
    unfold vicStep at h ⊢
    have up : 0 ≤ vicTo bs L o k → ∃ (v : Nat) (x : Bk), vicTo bs L o k = (v : Int) ∧ v < k + 1 ∧ bs[v]? = some x ∧ fullB x = true ∧ (v : Int) ≠ o := fun h0 => by
      obtain ⟨v, x, e, h1, h2⟩ := ih h0
      exact ⟨v, x, e, by omega, h2⟩
    cases hk : bs[k]? with
    | none => rw [hk] at h; exact up h
    | some x =>
      rw [hk] at h
      simp only at h ⊢
      by_cases hs : (k : Int) = o ∨ fullB x = false
      · rw [if_pos hs] at h ⊢; exact up h
      · rw [if_neg hs] at h ⊢
        by_cases hb : beats bs L (vicTo bs L o k) (k : Int) x.wear = true
        · rw [if_pos hb]
          refine ⟨k, x, rfl, by omega, hk, ?_, fun e => hs (.inl e)⟩
          cases hf : fullB x with
          | true => rfl
          | false => exact absurd (.inr hf) hs
        · rw [if_neg hb] at h ⊢; exact up h
theorem FtlOk.victimFull {bs : List Bk} {L : List Int} {o : Int} (h : 0 ≤ vicOf bs L o) : ∃ (v : Nat) (x : Bk), vicOf bs L o = (v : Int) ∧ bs[v]? = some x ∧ fullB x = true ∧ (v : Int) ≠ o := by
  obtain ⟨v, x, e, _, h1, h2, h3⟩ := vicTo_is bs.length h
  exact ⟨v, x, e, h1, h2, h3⟩
/-- A place is named by one log alone. -/
theorem FtlOk.once {bs : List Bk} {L : List Int} {seq o : Int} (h : FtlOk bs L seq o) {i j : Nat} {x : Int} (hx : 0 ≤ x) (hi : L[i]? = some x) (hj : L[j]? = some x) : i = j := by
  have hl := h.map
  have li := (List.getElem?_eq_some_iff.1 hi).1
  have lj := (List.getElem?_eq_some_iff.1 hj).1
  rw [hl] at hi hj li lj
  rw [placesOf_length] at li lj
  rw [placesOf_at _ _ li] at hi
  rw [placesOf_at _ _ lj] at hj
  cases ei : newestAt (usedOf bs) (i : Int) with
  | none => rw [ei] at hi; simp [placeIn] at hi; omega
  | some y =>
    cases ej : newestAt (usedOf bs) (j : Int) with
    | none => rw [ej] at hj; simp [placeIn] at hj; omega
    | some z =>
      rw [ei] at hi
      rw [ej] at hj
      simp only [placeIn, Option.some.injEq] at hi hj
      obtain ⟨my, ly⟩ := newestAt_mem ei
      obtain ⟨mz, lz⟩ := newestAt_mem ej
      obtain ⟨b, k, u, hu, hp, hk, e1, _⟩ := (usedOf_iff h.chip).1 my
      obtain ⟨b', k', u', hu', hp', hk', e2, _⟩ := (usedOf_iff h.chip).1 mz
      have eb : b' = b := by omega
      have ek : k' = k := by omega
      subst eb ek
      rw [hu] at hu'
      cases hu'
      rw [hp] at hp'
      injection hp' with hp'
      rw [hp'] at ly
      omega
theorem cnt_one {L : List Int} {x : Int} (h : ∀ i j : Nat, L[i]? = some x → L[j]? = some x → i = j) : cnt L x ≤ 1 := by
  induction L with
  | nil => simp [cnt]
  | cons y L ih =>
    rw [cnt_cons]
    have hL : ∀ i j : Nat, L[i]? = some x → L[j]? = some x → i = j := fun i j hi hj => by
      have := h (i + 1) (j + 1) (by simpa using hi) (by simpa using hj)
      omega
    by_cases e : y = x
    · subst e
      rw [if_pos rfl]
      have h0 : cnt L y = 0 := by
        unfold cnt
        rw [List.length_eq_zero_iff, List.filter_eq_nil_iff]
        intro z hz
        simp only [decide_eq_true_eq]
        rintro rfl
        obtain ⟨j, hj, e2⟩ := List.getElem_of_mem hz
        have := h 0 (j + 1) (by simp) (by simp [← e2])
        omega
      omega
    · rw [if_neg e]
      have := ih hL
      omega
theorem FtlOk.validFew {bs : List Bk} {L : List Int} {seq o : Int} (h : FtlOk bs L seq o) (v : Nat) : validIn L (v : Int) ≤ 4 := by
  have c := cnt_valid L (v : Int) (by omega)
  have q : ∀ x : Int, 0 ≤ x → cnt L x ≤ 1 := fun x hx => cnt_one (fun i j hi hj => h.once hx hi hj)
  have q0 := q ((v : Int) * 4 + 0) (by omega)
  have q1 := q ((v : Int) * 4 + 1) (by omega)
  have q2 := q ((v : Int) * 4 + 2) (by omega)
  have q3 := q ((v : Int) * 4 + 3) (by omega)
  omega
/-- How many logs have a page. -/
def someIn (L : List Int) : Nat := (L.filter fun x => decide (0 ≤ x)).length
theorem someIn_take {L : List Int} {k : Nat} {x : Int} (hx : L[k]? = some x) : someIn (L.take (k + 1)) = someIn (L.take k) + if 0 ≤ x then 1 else 0 := by
  rw [take_succ_of hx]
  unfold someIn
  rw [List.filter_append, List.length_append]
  by_cases h : 0 ≤ x <;> simp [h]
theorem sumTo_is (x : Int) (n : Nat) (hx : x < 4 * (n : Int)) : sumTo (fun i => if hit (i : Int) x = true then 1 else 0) n = if 0 ≤ x then 1 else 0 := by
  suffices H : ∀ n : Nat, sumTo (fun i => if hit (i : Int) x = true then 1 else 0) n = if 0 ≤ x ∧ x / 4 < (n : Int) then 1 else 0 by
    rw [H n]
    by_cases h : 0 ≤ x
    · rw [if_pos ⟨h, by omega⟩, if_pos h]
    · rw [if_neg (fun k => h k.1), if_neg h]
  intro n
  induction n with
  | zero =>
    simp only [sumTo]
    rw [if_neg (by omega)]
  | succ n ih =>
    simp only [sumTo, ih]
    have e : (hit (n : Int) x = true) ↔ (0 ≤ x ∧ x / 4 = (n : Int)) := by simp [hit]
    by_cases h : hit (n : Int) x = true
    · have h2 := e.1 h
      rw [if_pos h, if_neg (by omega), if_pos (by omega)]
    · have h2 : ¬ (0 ≤ x ∧ x / 4 = (n : Int)) := fun k => h (e.2 k)
      rw [if_neg h]
      by_cases h3 : 0 ≤ x ∧ x / 4 < (n : Int)
      · rw [if_pos h3, if_pos (by omega)]
      · rw [if_neg h3, if_neg (by omega)]
theorem validIn_all {L : List Int} {n : Nat} (h : ∀ x ∈ L, x < 4 * (n : Int)) : sumTo (fun i => validIn L (i : Int)) n = someIn L := by
  induction L with
  | nil =>
    have : (fun i : Nat => validIn [] (i : Int)) = fun _ => 0 := rfl
    rw [this, sumTo_zero]; rfl
  | cons x L ih =>
    have e : (fun i : Nat => validIn (x :: L) (i : Int)) = fun i : Nat => validIn L (i : Int) + (if hit (i : Int) x = true then 1 else 0) := by
      funext i
      unfold validIn
      by_cases h : hit (i : Int) x = true
      · rw [List.filter_cons_of_pos h, if_pos h]; rfl
      · rw [List.filter_cons_of_neg h, if_neg h]; rfl
    rw [e, sumTo_add, ih (fun y hy => h y (by simp [hy])), sumTo_is x n (h x (by simp))]
    unfold someIn
    by_cases h0 : 0 ≤ x
    · rw [if_pos h0, List.filter_cons_of_pos (by simpa using h0)]; rfl
    · rw [if_neg h0, List.filter_cons_of_neg (by simpa using h0)]; rfl
theorem FtlOk.sum {bs : List Bk} {L : List Int} {seq o : Int} (h : FtlOk bs L seq o) : sumTo (fun i => validIn L (i : Int)) bs.length = someIn L :=
  validIn_all (fun x hx => by rcases h.places x hx with h | h <;> omega)
theorem fullB_next {x : Bk} {r : Int} (h : NextIs (pu x) 4 r) : (r < 0 ↔ fullB x = true) := by
  have := h.kinds.2.2
  rw [← this]
  simp
end Go.Proofs.Ytalgkmellbamgaa

/- The walk over the places that a map names: the program's namedPlaces, for whom asks something of each of them. -/
namespace Go.Proofs.Ytalgkmellbamgaa
open Go.RowKit Go.Shelf
set_option linter.unusedVariables false
set_option linter.unusedSimpArgs false
attribute [local go_sem] Oper.semAt_some

/-- The rows of S are as they were. -/
def KeepS (S : Nat → Prop) (W W' : World) : Prop := W.heap.size ≤ W'.heap.size ∧ ∀ k, S k → W'.heap[k]? = W.heap[k]?
theorem KeepS.refl (S : Nat → Prop) (W : World) : KeepS S W W := ⟨Nat.le_refl _, fun _ _ => rfl⟩
theorem KeepS.trans {S : Nat → Prop} {A B C : World} (h : KeepS S A B) (k : KeepS S B C) : KeepS S A C := ⟨Nat.le_trans h.1 k.1, fun i hi => (k.2 i hi).trans (h.2 i hi)⟩
theorem KeepS.cell {S : Nat → Prop} {A B : World} (h : KeepS S A B) {b : Nat} (hb : S b) (i : Nat) : B.cell? ⟨b, i, none⟩ = A.cell? ⟨b, i, none⟩ := World.cell?_of_block (w := A) (h.2 b hb)
theorem KeepS.alloc {S : Nat → Prop} (W : World) (o : Obj) (h : ∀ k, S k → k < W.heap.size) : KeepS S W (W.alloc o) := ⟨by simp, fun k hk => Below.heap_alloc _ _ _ (h k hk)⟩
theorem KeepS.setCell {S : Nat → Prop} (W : World) (a : Addr) (v : Value) (h : ¬ S a.block) : KeepS S W (W.setCell a v) := ⟨by simp [World.setCell], fun k hk => Below.heap_setCell _ _ _ _ (fun e => h (by rw [← e]; exact hk))⟩
theorem keepS_b {S : Nat → Prop} {w : World} (hn : ∀ k, S k → k < w.heap.size) (W : World) (l : Nat) (o o' : Obj) (hl : w.heap.size ≤ l) (_ : W.heap[l]? = some o) (_ : o.isCells = false) (_ : o.isWalk = false) : KeepS S W (W.putObj l o') :=
  ⟨by simp, fun k hk => World.putObj_heap_other (by have := hn k hk; omega)⟩
theorem IntsAt.keepS {S : Nat → Prop} {W W' : World} {a : Option Addr} {L : List Int} (h : IntsAt W a L) (hk : KeepS S W W') (hS : ∀ b o, a = some ⟨b, o, none⟩ → 0 < L.length → S b) : IntsAt W' a L := by
  intro i x hx
  obtain ⟨b, o, ha, hc⟩ := h i x hx
  exact ⟨b, o, ha, (hk.cell (hS b o ha (by have := (List.getElem?_eq_some_iff.1 hx).1; omega)) _).trans hc⟩

def encI (x : Int) : Array Value := #[.int .i64 x]

set_option maxRecDepth 100000 in
set_option maxHeartbeats 4000000 in
theorem named1_in (Rx : Int → Prop) (S : Nat → Prop) (F : Fence) (n : Nat) (hF : F.fn 153) (hro : F.round = none) (hn : 1 ≤ n) (l Bx : Nat) (hSx : S Bx) (a : Option Addr) (c : Nat) (L : List Int) (nn : Nat) (hnn : L.length = nn) (hsm : nn ≤ 1048576) (J Jx : List Int → World → Prop)
    (hRx : ∀ x ∈ L, x ≠ -1 → Rx x) (hY : ∀ pre x W, Rx x → J pre W → pre.length < nn → YieldAt F (n - 1) Try.prog l (encI x) W fun e W' =>
      (e = .returned (.bool true) ∧ J (pre ++ [x]) W' ∧ KeepS S W W') ∨ (e = .returned (.bool false) ∧ Jx (pre ++ [x]) W'))
    (W : World) (hbox : W.cell? ⟨Bx, 0, none⟩ = some (.slice a nn c)) (hI : IntsAt W a L) (hSa : ∀ b o, a = some ⟨b, o, none⟩ → 0 < L.length → S b) (h0 : J [] W) :
    CallsIn F n Try.prog 153 #[.func (.yield l) #[] #[], .pointer (some ⟨Bx, 0, none⟩)] W fun e W' => (∃ v, e = .returned v) ∧
      ((∃ ys, ys = namedOf L ∧ J ys W') ∨ (∃ pre, pre <+: namedOf L ∧ Jx pre W')) := by
  have HY := hide hY
  have HRX := hide hRx
  have HI := hide hI
  have HN := hide hnn
  have HSA := hide hSa
  clear hY hRx hI hnn hSa
  refine callsIn_of_wp Try.func153 rfl hF ?_ hro
  simp only [Try.ntmps153, List.size_toArray, List.length_cons, List.length_nil, Nat.reduceAdd, Nat.reduceSub, Array.replicate_succ, Array.replicate_zero, List.push_toArray, List.append_toArray, List.nil_append, List.cons_append]
  gi_wp2
  clear hbox
  gi_loopw [7] (fun i wr => ∃ k : Nat, k ≤ nn ∧ i = .int .i64 k ∧ J (namedOf (L.take k)) wr ∧ KeepS S W wr) (fun i _ => nn - (intOf i).toNat)
  case atStart => exact ⟨0, Nat.zero_le _, rfl, h0, KeepS.refl _ _⟩
  case round =>
    obtain ⟨k, hk, rfl, hJs, hnx⟩ := hrel
    by_cases hlt : k < nn
    · obtain ⟨x, hx⟩ := getElem?_ex (l := L) (k := k) (by have := unhide HN; omega)
      obtain ⟨b1, o1, rfl, c1⟩ := ((unhide HI).keepS hnx (unhide HSA)) k x hx
      have hst := namedOf_take hx
      have hlen : (namedOf (L.take k)).length < nn := by
        have := namedOf_length (L.take k)
        rw [List.length_take] at this
        omega
      have hpre := namedOf_prefix L (k + 1)
      have hrx := unhide HRX x (List.mem_of_getElem? hx)
      have HST := hide hst
      have HPRE := hide hpre
      have HRXP := hide hrx
      have HNX := hide hnx
      clear hst hpre hrx hx hnx
      by_cases hxm : x = -1
      · have hne : (x != -1) = false := by simpa using hxm
        clear hlen
        gi_wp2
        refine ⟨fun _ h => (by cases h), ?_⟩
        gi_wp2
        go_roundw
        case rel =>
          refine ⟨k + 1, by omega, by go_num, ?_, unhide HNX⟩
          rw [unhide HST, if_pos hxm, List.append_nil]
          exact hJs
        case measure => simp [intOf]; omega
      · have hne : (x != -1) = true := by simpa using hxm
        obtain ⟨fn, tmps, assign, body, hy, hR⟩ := unhide HY (namedOf (L.take k)) x wr (unhide HRXP hxm) hJs hlen
        dsimp only [encI] at hy
        have HR := hide hR
        clear hR
        gi_wp2
        refine (unhide HR).mono ?_
        rintro e W3 (⟨rfl, hJ3, hk3⟩ | ⟨rfl, hJx3⟩)
        · have HK3 := hide hk3
          clear hk3
          gi_wp2
          go_roundw
          case rel =>
            refine ⟨k + 1, by omega, by go_num, ?_, (unhide HNX).trans (unhide HK3)⟩
            rw [unhide HST, if_neg hxm]
            exact hJ3
          case measure => simp [intOf]; omega
        · gi_wp2
          refine bodyPost_ret (results_none rfl _ _ _) rfl ?_
          refine ⟨⟨_, rfl⟩, .inr ⟨_, ?_, hJx3⟩⟩
          have := unhide HPRE
          rw [unhide HST, if_neg hxm] at this
          exact this
    · obtain rfl : k = nn := by omega
      have e : L.take k = L := by rw [← unhide HN]; exact List.take_length
      rw [e] at hJs
      gi_wp2
      go_end0
      exact ⟨⟨_, rfl⟩, .inl ⟨_, rfl, hJs⟩⟩

set_option maxHeartbeats 1000000 in
theorem namedPlaces_in (F : Fence) (n : Nat) (hF : F.fn 128) (hro : F.round = none) (a : Option Addr) (nn c : Nat) (w : World) :
    CallsIn F n Try.prog 128 #[.slice a nn c] w fun e w' => e = .returned (.func (.func 153) #[] #[.pointer (some ⟨w.heap.size, 0, none⟩)]) ∧ w' = w.alloc (.cells #[.slice a nn c] 41) := by
  refine callsIn_of_wp Try.func128 rfl hF ?_ hro
  simp only [Try.ntmps128, List.size_toArray, List.length_cons, List.length_nil, Nat.reduceAdd, Nat.reduceSub, Array.replicate_succ, Array.replicate_zero, List.push_toArray, List.append_toArray, List.nil_append, List.cons_append]
  gi_wp2
  go_ret
  exact ⟨rfl, rfl⟩

theorem named_stops (Rx : Int → Prop) (S : Nat → Prop) (F : Fence) (n : Nat) (hF : F.fn 153) (hro : F.round = none) (hn : 1 ≤ n) (Bx : Nat) (hSx : S Bx) (a : Option Addr) (c : Nat) (L : List Int) (nn : Nat) (hnn : L.length = nn) (hsm : nn ≤ 1048576) (hRx : ∀ x ∈ L, x ≠ -1 → Rx x)
    (w : World) (hS : ∀ k, S k → k < w.heap.size) (hbox : w.cell? ⟨Bx, 0, none⟩ = some (.slice a nn c)) (hI : IntsAt w a L) (hSa : ∀ b o, a = some ⟨b, o, none⟩ → 0 < L.length → S b) :
    SeqStopsK F n Try.prog 153 #[.pointer (some ⟨Bx, 0, none⟩)] (fun x : {x : Int // Rx x} => encI x.val) (KeepS S) (fun ys => ys.map (·.val) = namedOf L) (fun pre => pre.map (·.val) <+: namedOf L) nn w := by
  intro l J Jx W hW hJA _ hY h0
  refine (named1_in Rx S F n hF hro hn l Bx hSx a c L nn hnn hsm (fun p W => ∃ q : List {x : Int // Rx x}, q.map (·.val) = p ∧ J q W) (fun p W => ∃ q : List {x : Int // Rx x}, q.map (·.val) = p ∧ Jx q W) hRx ?_ W ((hW.cell (p := ⟨Bx, 0, none⟩) (hS Bx hSx)).trans hbox) (hI.below hW (Nat.le_refl _)) hSa ⟨[], rfl, h0⟩).mono ?_
  · rintro pre x W1 hx ⟨q, rfl, hq⟩ hl
    obtain ⟨fn, tmps, assign, body, hy, hR⟩ := hY q ⟨x, hx⟩ W1 hq (by simpa using hl)
    refine ⟨fn, tmps, assign, body, hy, hR.mono ?_⟩
    rintro e W' (⟨rfl, h1, h2⟩ | ⟨rfl, h1⟩)
    · exact .inl ⟨rfl, ⟨_, by simp, h1⟩, h2⟩
    · exact .inr ⟨rfl, ⟨_, by simp, h1⟩⟩
  · rintro e W' ⟨hv, h⟩
    refine ⟨hv, ?_⟩
    rcases h with ⟨ys, rfl, q, hq, hJ⟩ | ⟨pre, hp, q, rfl, hJ⟩
    · exact .inl ⟨q, hq, hJ⟩
    · exact .inr ⟨q, hp, hJ⟩
end Go.Proofs.Ytalgkmellbamgaa
