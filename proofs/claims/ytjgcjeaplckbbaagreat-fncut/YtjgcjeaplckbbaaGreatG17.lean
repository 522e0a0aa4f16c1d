/- 3 texts in one. -/
import Derived.Test.YtjgcjeaplckbbaaGreatG16
import Derived.WalkKit
import Derived.Outline

/- What a write leaves: a right member, what was written, and all else as it was. In plain lists; no program is named here. -/
namespace Go.Proofs.YtjgcjeaplckbbaaGreat
open Go.RowKit
set_option linter.unusedVariables false
set_option linter.unusedSimpArgs false

theorem used_seqs {bs : List Bk} (h : ChipOk bs) {x : Int × Pg} (hx : x ∈ usedOf bs) : x.2.seq ∈ seqs bs := by
  obtain ⟨b, k, y, hy, hp, _, _, hu⟩ := (usedOf_iff h).1 hx
  exact mem_seqs hy hp hu
theorem FtlOk.newestIn {bs : List Bk} {L : List Int} {seq o : Int} (h : FtlOk bs L seq o) {l : Int} {y : Int × Pg} (hy : newestAt (usedOf bs) l = some y) : y.1 ∈ L := by
  obtain ⟨hm, hl⟩ := newestAt_mem hy
  have h1 := h.chip.usedRight hm
  have h2 := h.fits y hm
  obtain ⟨i, rfl⟩ := Int.eq_ofNat_of_zero_le (show 0 ≤ l by omega)
  have := placesOf_at (usedOf bs) (roomOf bs) (i := i) (by omega)
  rw [hy] at this
  rw [h.map]
  exact List.mem_of_getElem? this
/-- Where the pages of the first k of block v stand behind their moves into f. -/
structure Moved (bs bsk : List Bk) (f v k : Nat) (seq : Int) (n : Nat) : Prop where
  ok : ChipOk bsk
  logs : ∀ x ∈ usedOf bsk, x.2.log < (roomOf bs : Int)
  top : ∀ x ∈ usedOf bsk, x.2.seq < seq + (n : Int)
  stay : ∀ l, (∀ y, newestAt (usedOf bs) l = some y → ¬ ∃ j : Nat, j < k ∧ y.1 = (v : Int) * 4 + (j : Int)) → newestAt (usedOf bsk) l = newestAt (usedOf bs) l
  went : ∀ l y, newestAt (usedOf bs) l = some y → (∃ j : Nat, j < k ∧ y.1 = (v : Int) * 4 + (j : Int)) → ∃ z, newestAt (usedOf bsk) l = some z ∧ z.1 / 4 = (f : Int) ∧ z.2.data = y.2.data
theorem moves_moved {bs : List Bk} {L : List Int} {seq o : Int} (h : FtlOk bs L seq o) (hq : seq ≤ 999999990) {f : Nat} {x : Bk} (hx : bs[f]? = some x) (hfree : freeB x = true) {v : Nat} (hv : v < bs.length) :
    ∀ k, k ≤ 4 → Moved bs (bs.set f ⟨x.wear, padded ((movedTo bs L (v : Int) (f : Int) seq k).map (·.page))⟩) f v k seq (movedTo bs L (v : Int) (f : Int) seq k).length := by
  have hf := (List.getElem?_eq_some_iff.1 hx).1
  have hxb := h.chip.block x (List.mem_of_getElem? hx)
  have hpx := free_pages hxb hfree
  have hR := runs_moves h hq hx hfree hv
  intro k
  induction k with
  | zero =>
    intro _
    have e : bs.set f ⟨x.wear, padded ((movedTo bs L (v : Int) (f : Int) seq 0).map (·.page))⟩ = bs := by
      have e2 : (⟨x.wear, padded ((movedTo bs L (v : Int) (f : Int) seq 0).map (·.page))⟩ : Bk) = x := by
        obtain ⟨xw, xp⟩ := x
        simp only at hpx
        rw [hpx]
        rfl
      rw [e2, ← (List.getElem?_eq_some_iff.1 hx).2]
      exact List.set_getElem_self _
    rw [e]
    refine ⟨h.chip, h.fits, fun y hy => ?_, fun l _ => rfl, fun l y hy hj => ?_⟩
    · have := h.chip.seqs_top (used_seqs h.chip hy)
      have := h.seq
      simp [movedTo]
      omega
    · obtain ⟨j, hj, _⟩ := hj
      omega
  | succ k ih =>
    intro hk
    have I := ih (by omega)
    by_cases hm : movesAt bs L (v : Int) k = true
    · have e : movedTo bs L (v : Int) (f : Int) seq (k + 1) = movedTo bs L (v : Int) (f : Int) seq k ++ [⟨1, (f : Int), { pageIn bs (v : Int) k with seq := seq + ((movedTo bs L (v : Int) (f : Int) seq k).length : Int) }⟩] := by simp [movedTo, hm]
      have hln := movedTo_length bs L (v : Int) (f : Int) seq k
      obtain ⟨r1, r2, r3⟩ := hR (k + 1) hk
      obtain ⟨q1, q2, q3⟩ := hR k (by omega)
      have ok' := r1.ok h.chip
      rw [e] at ok' ⊢
      obtain ⟨M, hM⟩ : ∃ M, M = movedTo bs L (v : Int) (f : Int) seq k := ⟨_, rfl⟩
      rw [← hM] at I hln ok' q2 q3 ⊢
      obtain ⟨y, hy⟩ := getElem?_ex (l := bs) (k := v) hv
      have hyb := h.chip.block y (List.mem_of_getElem? hy)
      obtain ⟨p, hp⟩ := getElem?_ex (l := y.pages) (k := k) (by have := hyb.four; omega)
      have hpi := pageIn_of hy hp
      have hm2 := hm
      unfold movesAt at hm2
      rw [hpi] at hm2
      simp only [Bool.and_eq_true, decide_eq_true_eq] at hm2
      obtain ⟨hpu, hLp⟩ := hm2
      rw [hpi] at ok' ⊢
      have hin : (((v : Int) * 4 + (k : Int)), p) ∈ usedOf bs := mem_usedOf hy hp (by omega) hpu
      have hrt := h.chip.usedRight hin
      have hfit := h.fits _ hin
      simp only at hrt hfit
      have hnew : newestAt (usedOf bs) p.log = some (((v : Int) * 4 + (k : Int)), p) := by
        rw [h.map] at hLp
        rw [placesOf_at _ _ (by omega)] at hLp
        have e1 : ((p.log.toNat : Nat) : Int) = p.log := by omega
        rw [e1] at hLp
        cases en : newestAt (usedOf bs) p.log with
        | none => rw [en] at hLp; simp [placeIn] at hLp; omega
        | some z =>
          rw [en] at hLp
          simp only [placeIn, Option.some.injEq] at hLp
          obtain ⟨hzm, hzl⟩ := newestAt_mem en
          obtain ⟨b', k', y', hy', hk', h4', ez, _⟩ := (usedOf_iff h.chip).1 hzm
          have eb : b' = v := by omega
          have ek : k' = k := by omega
          subst eb ek
          rw [hy] at hy'
          cases hy'
          rw [hp] at hk'
          cases hk'
          exact congrArg some (Prod.ext hLp rfl)
      have hMl : (M.map (·.page)).length = M.length := by simp
      have hcur : (bs.set f ⟨x.wear, padded (M.map (·.page))⟩)[f]? = some ⟨x.wear, padded (M.map (·.page))⟩ := List.getElem?_set_self hf
      have e3 : bs.set f ⟨x.wear, padded ((M ++ [(⟨1, (f : Int), { p with seq := seq + (M.length : Int) }⟩ : Opn)]).map (·.page))⟩ = (bs.set f ⟨x.wear, padded (M.map (·.page))⟩).set f ⟨x.wear, padded (M.map (·.page) ++ [{ p with seq := seq + (M.length : Int) }])⟩ := by
        rw [List.set_set]
        simp
      rw [e3] at ok' ⊢
      have hmem := used_prog (p := { p with seq := seq + (M.length : Int) }) I.ok ok' hcur (by rw [hMl]; omega) hpu
      rw [hMl] at hmem
      have hN := fun l => newest_more ok' I.ok hmem (fun z hz => I.top z hz) l
      refine ⟨ok', fun z hz => ?_, fun z hz => ?_, fun l hl => ?_, fun l z hz hj => ?_⟩
      · rcases (hmem z).1 hz with hz | rfl
        · exact I.logs z hz
        · exact hfit
      · rw [List.length_append]
        rcases (hmem z).1 hz with hz | rfl
        · have := I.top z hz; simp; omega
        · simp; omega
      · rw [hN l]
        rw [if_neg]
        · exact I.stay l (fun w hw ⟨j, hj, ej⟩ => hl w hw ⟨j, by omega, ej⟩)
        · intro el
          simp only at el
          rw [el] at hnew
          exact hl _ hnew ⟨k, by omega, rfl⟩
      · rw [hN l]
        by_cases el : p.log = l
        · rw [if_pos (show ({ p with seq := seq + (M.length : Int) } : Pg).log = l from el)]
          rw [el, hz] at hnew
          simp only [Option.some.injEq] at hnew
          subst hnew
          exact ⟨_, rfl, by simp only; omega, rfl⟩
        · rw [if_neg (show ¬ ({ p with seq := seq + (M.length : Int) } : Pg).log = l from el)]
          obtain ⟨j, hj, ej⟩ := hj
          by_cases ek : j = k
          · subst ek
            exfalso
            obtain ⟨hzm, hzl⟩ := newestAt_mem hz
            obtain ⟨b', k', y', hy', hk', h4', ez, _⟩ := (usedOf_iff h.chip).1 hzm
            have eb : b' = v := by omega
            have ek : k' = j := by omega
            subst eb ek
            rw [hy] at hy'
            cases hy'
            rw [hp] at hk'
            cases hk'
            exact el hzl
          · exact I.went l z hz ⟨j, by omega, ej⟩
    · have e : movedTo bs L (v : Int) (f : Int) seq (k + 1) = movedTo bs L (v : Int) (f : Int) seq k := by simp [movedTo, hm]
      rw [e]
      refine ⟨I.ok, I.logs, I.top, fun l hl => I.stay l (fun w hw ⟨j, hj, ej⟩ => hl w hw ⟨j, by omega, ej⟩), fun l z hz ⟨j, hj, ej⟩ => ?_⟩
      by_cases ek : j = k
      · subst ek
        exfalso
        have := h.newestIn hz
        rw [ej] at this
        rw [h.moves (by omega) (by omega)] at hm
        exact hm (by simpa using this)
      · exact I.went l z hz ⟨j, by omega, ej⟩
theorem Moved.read {bs bsk : List Bk} {f v k : Nat} {seq : Int} {n : Nat} (h : Moved bs bsk f v k seq n) (l : Int) : readOf bsk l = readOf bs l := by
  unfold readOf
  by_cases hj : ∃ y, newestAt (usedOf bs) l = some y ∧ ∃ j : Nat, j < k ∧ y.1 = (v : Int) * 4 + (j : Int)
  · obtain ⟨y, hy, hj⟩ := hj
    obtain ⟨z, hz, _, hd⟩ := h.went l y hy hj
    rw [hy, hz]
    simp [hd]
  · rw [h.stay l (fun y hy hj2 => hj ⟨y, hy, hj2⟩)]
/-- Behind all moves the block has no newest page any more. -/
theorem Moved.left {bs bsk : List Bk} {f v : Nat} {seq : Int} {n : Nat} (h : Moved bs bsk f v 4 seq n) (hok : ChipOk bs) (hne : v ≠ f) (l : Int) (z : Int × Pg) (hz : newestAt (usedOf bsk) l = some z) : ¬ z.1 / 4 = (v : Int) := by
  by_cases hj : ∃ y, newestAt (usedOf bs) l = some y ∧ ∃ j : Nat, j < 4 ∧ y.1 = (v : Int) * 4 + (j : Int)
  · obtain ⟨y, hy, hj⟩ := hj
    obtain ⟨z', hz', hf, _⟩ := h.went l y hy hj
    rw [hz] at hz'
    cases hz'
    omega
  · have e := h.stay l (fun y hy hj2 => hj ⟨y, hy, hj2⟩)
    rw [e] at hz
    intro hv
    obtain ⟨b, k, y, _, _, h4, ez, _⟩ := (usedOf_iff hok).1 (newestAt_mem hz).1
    exact hj ⟨z, hz, k, h4, by omega⟩

/-- How a right member is written to. -/
inductive Way (bs : List Bk) (L : List Int) (seq o : Int) : Prop where
  | room (ob : Nat) (wf : Int) (ps : List Pg) : o = (ob : Int) → bs[ob]? = some ⟨wf, padded ps⟩ → ps.length < 4 → (∀ q ∈ ps, q.used = true) → (∀ lg data, writeOps bs L seq o lg data = [⟨1, (ob : Int), ⟨true, lg, seq, data⟩⟩]) → Way bs L seq o
  | fresh (ob : Nat) (x : Bk) (fi : Nat) (wf : Int) (j : Nat) (y : Bk) : o = (ob : Int) → bs[ob]? = some x → fullB x = true → bs[fi]? = some ⟨wf, padded []⟩ → fi ≠ ob → bs[j]? = some y → freeB y = true → j ≠ fi → (∀ lg data, writeOps bs L seq o lg data = [⟨1, (fi : Int), ⟨true, lg, seq, data⟩⟩]) → Way bs L seq o
  | move (ob : Nat) (x : Bk) (fi : Nat) (fx : Bk) (v : Nat) (y : Bk) : o = (ob : Int) → bs[ob]? = some x → fullB x = true → bs[fi]? = some fx → freeB fx = true → bs[v]? = some y → v ≠ fi → (movedTo bs L (v : Int) (fi : Int) seq 4).length ≤ 3 → validIn L (v : Int) ≤ 3 → vicOf bs L (fi : Int) = (v : Int) → (∀ i z, bs[i]? = some z → i ≠ fi → fullB z = true) → (∀ lg data, writeOps bs L seq o lg data = moveOps bs L (v : Int) (fi : Int) seq ++ [⟨1, (fi : Int), ⟨true, lg, seq + ((movedTo bs L (v : Int) (fi : Int) seq 4).length : Int), data⟩⟩]) → Way bs L seq o
theorem next_of_free {x : Bk} (hfu : fullB x = false) : ∃ r, NextIs (pu x) 4 r ∧ 0 ≤ r := by
  unfold fullB at hfu
  cases e0 : pu x 0 with
  | false => exact ⟨0, .inl ⟨0, by omega, rfl, e0, fun j hj => by omega⟩, by omega⟩
  | true =>
    cases e1 : pu x 1 with
    | false => exact ⟨1, .inl ⟨1, by omega, rfl, e1, fun j hj => by
        have : j = 0 := by omega
        subst this
        exact e0⟩, by omega⟩
    | true =>
      cases e2 : pu x 2 with
      | false => exact ⟨2, .inl ⟨2, by omega, rfl, e2, fun j hj => by
          have : j = 0 ∨ j = 1 := by omega
          rcases this with rfl | rfl
          · exact e0
          · exact e1⟩, by omega⟩
      | true =>
        cases e3 : pu x 3 with
        | false => exact ⟨3, .inl ⟨3, by omega, rfl, e3, fun j hj => by
            have : j = 0 ∨ j = 1 ∨ j = 2 := by omega
            rcases this with rfl | rfl | rfl
            · exact e0
            · exact e1
            · exact e2⟩, by omega⟩
        | true => rw [e0, e1, e2, e3] at hfu; cases hfu
theorem FtlOk.way {bs : List Bk} {L : List Int} {seq o : Int} (h : FtlOk bs L seq o) : Way bs L seq o := by
  have hop := h.opn
  have hc := h.chip.count
  obtain ⟨ob, rfl⟩ := Int.eq_ofNat_of_zero_le hop.1
  obtain ⟨x, hx⟩ := getElem?_ex (l := bs) (k := ob) (by omega)
  have hx' : bs[((ob : Int)).toNat]? = some x := by simpa using hx
  have hxb := h.chip.block x (List.mem_of_getElem? hx)
  cases hfu : fullB x with
  | false =>
    obtain ⟨r, hr, hr0⟩ := next_of_free hfu
    obtain ⟨e1, e2, e3⟩ := full_order hxb hr hr0
    have hl4 := hxb.four
    refine .room ob x.wear (x.pages.take r.toNat) rfl (by rw [← e1]; exact hx) (by rw [List.length_take]; omega) e3 (fun lg data => ?_)
    unfold writeOps; rw [fullAt_of hx', hfu]; rfl
  | true =>
    obtain ⟨fi, fx, hfr, hfx, hff, hfl, _⟩ := h.fresh
    have hfxb := h.chip.block fx (List.mem_of_getElem? hfx)
    have hne : fi ≠ ob := by
      rintro rfl
      rw [hx] at hfx
      cases hfx
      have := fullB_pu hfu
      unfold freeB at hff
      rw [this] at hff
      cases hff
    by_cases hal : freshOf bs (freshOf bs (-1)) < 0
    · obtain ⟨hfew, v, y, hv, hy, hvn⟩ := h.victimFew hx' hfu hal
      have hvl := (List.getElem?_eq_some_iff.1 hy).1
      rw [hv] at hfew
      rw [hfr] at hvn hv
      have hj3 := moved_few (into := (fi : Int)) (s := seq) h (v := (v : Int)) (by omega)
      refine .move ob x fi fx v y rfl hx hfu hfx hff hy (by omega) (by omega) hfew hv (fun i z hz hn => ?_) (fun lg data => ?_)
      · have hi := (List.getElem?_eq_some_iff.1 hz).1
        have h1 := (freshIn_neg (bs := bs) (but := (fi : Int)) (L := freeTo bs bs.length) (fun y hy => by obtain ⟨i, _, rfl, _⟩ := mem_freeTo hy; omega)).1 (by rw [hfr] at hal; exact hal)
        have hnf : freeB z = false := by
          cases hfy : freeB z with
          | false => rfl
          | true =>
            exfalso
            have hb : begun bs i = false := by rw [begun_pu hz]; unfold freeB at hfy; simpa using hfy
            have := h1 _ (freeTo_mem hi hb)
            omega
        by_cases e : i = ob
        · subst e
          rw [hz] at hx
          cases hx
          exact hfu
        · have hh := h.settled.1 i z hi hz (by omega)
          unfold halfB at hh
          unfold freeB at hnf
          have hp : pu z 0 = true := by simpa using hnf
          rw [hp] at hh
          simpa using hh
      · unfold writeOps
        rw [fullAt_of hx', hfu, if_pos rfl, if_pos hal, hfr, hv]
    · have hp := free_pages hfxb hff
      have e1 : fx = ⟨fx.wear, padded []⟩ := by
        obtain ⟨fw, fp⟩ := fx
        simp only at hp
        rw [hp]
        rfl
      have hfree : ∃ (j : Nat) (y : Bk), bs[j]? = some y ∧ freeB y = true ∧ j ≠ fi := by
        apply Classical.byContradiction
        intro hno
        apply hal
        rw [hfr]
        refine (freshIn_neg (bs := bs) (but := (fi : Int)) (L := freeTo bs bs.length) (fun y hy => by obtain ⟨i, _, rfl, _⟩ := mem_freeTo hy; omega)).2 (fun z hz => ?_)
        obtain ⟨i, hi, rfl, hb⟩ := mem_freeTo hz
        obtain ⟨w, hw⟩ := getElem?_ex (l := bs) (k := i) hi
        by_cases e : i = fi
        · rw [e]
        · exact absurd ⟨i, w, hw, by rw [begun_pu hw] at hb; unfold freeB; simp [hb], e⟩ hno
      obtain ⟨j, y, hy, hfy, hjn⟩ := hfree
      refine .fresh ob x fi fx.wear j y rfl hx hfu (by rw [← e1]; exact hfx) hne hy hfy hjn (fun lg data => ?_)
      unfold writeOps
      rw [fullAt_of hx', hfu, if_pos rfl, if_neg hal, hfr]
theorem freeB_half {x : Bk} (h : freeB x = true) : halfB x = false := by unfold freeB at h; unfold halfB; simp at h; simp [h]
theorem fullB_half {x : Bk} (h : fullB x = true) : halfB x = false := by unfold halfB; simp [h]
theorem freeB_zero (w : Int) : freeB ⟨w, zeroBk.pages⟩ = true := rfl
/-- What is right of a member that is made of a chip. -/
theorem FtlOk.made {bs : List Bk} {L : List Int} {r : Bool} {s o : Int} (hok : ChipOk bs) (hf : Fits bs) (hM : MapIs bs r L) (hs : ∀ x ∈ usedOf bs, x.2.seq ≤ s) (h0 : 0 ≤ s) (h9 : s + 1 ≤ 1000000000) (ho : 0 ≤ o ∧ o ≤ (bs.length : Int) - 1) (hst : Settled bs o) : FtlOk bs L (s + 1) o := by
  have hr : r = true := hM.1.2 hf
  subst hr
  refine ⟨hok, hf, by rw [hM.2, if_pos rfl], ⟨?_, h9⟩, ho, hst⟩
  have := topOf_le hs h0
  unfold topSeq
  omega
theorem lastOp_one (x : Opn) : lastOp [x] = x := rfl
theorem lastOp_snoc (xs : List Opn) (x : Opn) : lastOp (xs ++ [x]) = x := by simp [lastOp]
/-- A write keeps a right member right: what was written is read, and all else as it was. -/
theorem FtlOk.wrote {bs : List Bk} {L : List Int} {seq o lg : Int} {data : ByteArray} (h : FtlOk bs L seq o) (hfo : formOk bs lg data) (hro : roomy bs seq) {bs' : List Bk} {L' : List Int} {seq' o' : Int} (hd : DoneIs bs L seq o lg data bs' L' seq' o') :
    FtlOk bs' L' seq' o' ∧ bs'.length = bs.length ∧ ∀ l, readOf bs' l = if lg = l then data else readOf bs l := by
  obtain ⟨hR, ⟨r, hM⟩, rfl, rfl⟩ := hd
  have hlen := hR.len
  have hroom : roomOf bs' = roomOf bs := by unfold roomOf; rw [hlen]
  have ok' := hR.ok h.chip
  have hsq := h.seq
  have htp := h.chip.top
  have hro2 := hro.2
  have hc := h.chip.count
  have hrm : (roomOf bs : Int) ≤ 36 := by unfold roomOf; omega
  have htop0 : ∀ z ∈ usedOf bs, z.2.seq < seq := fun z hz => by have := h.chip.seqs_top (used_seqs h.chip hz); omega
  have hright : ∀ s : Int, 1 ≤ s → s ≤ 1000000000 → rightUsed ⟨true, lg, s, data⟩ = true := fun s h1 h2 => by
    obtain ⟨f1, f2, f3⟩ := hfo
    unfold rightUsed
    simp only [Bool.and_eq_true, decide_eq_true_eq, Bool.true_and]
    exact ⟨⟨⟨f1, by omega⟩, h1, h2⟩, f3⟩
  have hs0 : ∀ s ∈ seqs bs, s < seq := fun s hs => by have := h.chip.seqs_top hs; omega
  have hread : ∀ (b0 : List Bk) (q : Int × Pg), q.2.log = lg → q.2.data = data → (∀ l, newestAt (usedOf bs') l = if q.2.log = l then some q else newestAt (usedOf b0) l) → (∀ l, readOf b0 l = readOf bs l) → ∀ l, readOf bs' l = if lg = l then data else readOf bs l := by
    intro b0 q hql hqd hn h0 l
    have e1 : readOf bs' l = ((newestAt (usedOf bs') l).map (·.2.data)).getD zeros4 := rfl
    rw [e1, hn l, hql]
    by_cases hl : lg = l
    · rw [if_pos hl, if_pos hl]
      simp [hqd]
    · rw [if_neg hl, if_neg hl]
      exact h0 l
  cases h.way with
  | room ob wf ps ho hx hlt hu hops =>
    subst ho
    have hob := (List.getElem?_eq_some_iff.1 hx).1
    rw [hops lg data] at hR ⊢
    have hst := step_prog (p := ⟨true, lg, seq, data⟩) h.chip hx hlt hu (hright seq (by omega) hsq.2) hs0
    obtain rfl : bs' = _ := hR.one (o2 := bs.set ob ⟨wf, padded (ps ++ [(⟨true, lg, seq, data⟩ : Pg)])⟩) ⟨_, hst, rfl⟩
    have hmem := used_prog (p := ⟨true, lg, seq, data⟩) h.chip ok' hx hlt rfl
    have hN := newest_more ok' h.chip hmem htop0
    rw [lastOp_one]
    refine ⟨FtlOk.made (s := seq) ok' (fun z hz => ?_) hM (fun z hz => ?_) (by omega) (by omega) ⟨by simp only; omega, by simp only [List.length_set]; omega⟩ ⟨fun i z hi hz hn => ?_, ?_⟩, hlen, hread bs _ rfl rfl hN (fun l => rfl)⟩
    · rw [hroom]
      rcases (hmem z).1 hz with hz | rfl
      · exact h.fits z hz
      · exact hfo.2.1
    · rcases (hmem z).1 hz with hz | rfl
      · have := htop0 z hz; omega
      · exact Int.le_refl _
    · have hn' : ob ≠ i := fun e => hn (by subst e; rfl)
      rw [List.getElem?_set_ne hn'] at hz
      exact h.settled.1 i z (by simpa using hi) hz hn
    · obtain ⟨i, z, hi, hz, hn, hf⟩ := h.settled.2
      exact ⟨i, z, by simpa using hi, by rw [List.getElem?_set_ne (fun e => hn (by subst e; rfl))]; exact hz, hn, hf⟩
  | fresh ob x fi wf j y ho hx hfull hfx hne hy hfy hjn hops =>
    subst ho
    have hfi := (List.getElem?_eq_some_iff.1 hfx).1
    have hjl := (List.getElem?_eq_some_iff.1 hy).1
    rw [hops lg data] at hR ⊢
    have hst := step_prog (p := ⟨true, lg, seq, data⟩) h.chip hfx (by simp) (fun q hq => by simp at hq) (hright seq (by omega) hsq.2) hs0
    obtain rfl : bs' = _ := hR.one (o2 := bs.set fi ⟨wf, padded ([] ++ [(⟨true, lg, seq, data⟩ : Pg)])⟩) ⟨_, hst, rfl⟩
    have hmem := used_prog (p := ⟨true, lg, seq, data⟩) h.chip ok' hfx (by simp) rfl
    have hN := newest_more ok' h.chip hmem htop0
    rw [lastOp_one]
    refine ⟨FtlOk.made (s := seq) ok' (fun z hz => ?_) hM (fun z hz => ?_) (by omega) (by omega) ⟨by simp only; omega, by simp only [List.length_set]; omega⟩ ⟨fun i z hi hz hn => ?_, ?_⟩, hlen, hread bs _ rfl rfl hN (fun l => rfl)⟩
    · rw [hroom]
      rcases (hmem z).1 hz with hz | rfl
      · exact h.fits z hz
      · exact hfo.2.1
    · rcases (hmem z).1 hz with hz | rfl
      · have := htop0 z hz; omega
      · exact Int.le_refl _
    · have hn' : fi ≠ i := fun e => hn (by subst e; rfl)
      rw [List.getElem?_set_ne hn'] at hz
      by_cases e : i = ob
      · subst e
        rw [hx] at hz
        cases hz
        exact fullB_half hfull
      · exact h.settled.1 i z (by simpa using hi) hz (by omega)
    · exact ⟨j, y, by simpa using hjl, by rw [List.getElem?_set_ne (fun e => hjn e.symm)]; exact hy, fun e => hjn (by simp only at e; omega), hfy⟩
  | move ob x fi fx v y ho hx hfull hfx hff hy hvn hj3 hfew hvic hall hops =>
    subst ho
    have hfi := (List.getElem?_eq_some_iff.1 hfx).1
    have hvl := (List.getElem?_eq_some_iff.1 hy).1
    rw [hops lg data] at hR ⊢
    obtain ⟨m1, m2, m3⟩ := runs_moves h hro2 hfx hff hvl 4 (Nat.le_refl _)
    have I := moves_moved h hro2 hfx hff hvl 4 (Nat.le_refl _)
    obtain ⟨M, hMM⟩ : ∃ M, M = movedTo bs L (v : Int) (fi : Int) seq 4 := ⟨_, rfl⟩
    unfold moveOps at hR ⊢
    rw [← hMM] at m1 m2 m3 hj3 I hR ⊢
    have ok1 := m1.ok h.chip
    have hyw : y.wear ≠ 1000000000 := fun e => hro.1 ⟨v, y, hvl, hy, e⟩
    have hy1 : (bs.set fi ⟨fx.wear, padded (M.map (·.page))⟩)[v]? = some y := by rw [List.getElem?_set_ne (by omega)]; exact hy
    have st1 := step_erase ok1 hy1 hyw
    have r1 := runs_snoc.2 ⟨_, m1, st1⟩
    have ok2 := r1.ok h.chip
    have hf2 : ((bs.set fi ⟨fx.wear, padded (M.map (·.page))⟩).set v ⟨y.wear + 1, zeroBk.pages⟩)[fi]? = some ⟨fx.wear, padded (M.map (·.page))⟩ := by
      rw [List.getElem?_set_ne (by omega)]
      simp [hfi]
    have st2 := step_prog (p := ⟨true, lg, seq + (M.length : Int), data⟩) ok2 hf2 (by simp; omega) m2 (hright _ (by omega) (by omega)) (fun s hs => by
      rcases seqs_set_mem hs with h1 | ⟨q, hq2, hqu, rfl⟩
      · exact m3 s h1
      · simp [zeroBk] at hq2
        rw [hq2] at hqu
        cases hqu)
    obtain rfl := hR.one (runs_snoc.2 ⟨_, r1, st2⟩)
    have hmE := used_erase (wv := y.wear + 1) ok1 ok2 (show v < _ by simpa using hvl)
    have hlM : (M.map (·.page)).length = M.length := by simp
    have hmem := used_prog (p := ⟨true, lg, seq + (M.length : Int), data⟩) ok2 ok' hf2 (by simp; omega) rfl
    have hN := newest_more ok' ok2 hmem (fun z hz => I.top z ((hmE z).1 hz).1)
    have hE : ∀ l, readOf ((bs.set fi ⟨fx.wear, padded (M.map (·.page))⟩).set v ⟨y.wear + 1, zeroBk.pages⟩) l = readOf bs l := fun l => by
      rw [← I.read l]
      unfold readOf
      rw [newest_less ok2 ok1 hmE (fun z hz => I.left h.chip hvn l z hz)]
    rw [lastOp_snoc]
    refine ⟨FtlOk.made (s := seq + (M.length : Int)) ok' (fun z hz => ?_) hM (fun z hz => ?_) (by omega) (by omega) ⟨by simp only; omega, by simp only [List.length_set]; omega⟩ ⟨fun i z hi hz hn => ?_, ?_⟩, hlen, hread _ _ rfl rfl hN hE⟩
    · rw [hroom]
      rcases (hmem z).1 hz with hz | rfl
      · exact I.logs z ((hmE z).1 hz).1
      · exact hfo.2.1
    · rcases (hmem z).1 hz with hz | rfl
      · have := I.top z ((hmE z).1 hz).1; omega
      · exact Int.le_refl _
    · simp only at hn
      have hn' : fi ≠ i := fun e => hn (by subst e; rfl)
      rw [List.getElem?_set_ne hn'] at hz
      by_cases e : v = i
      · subst e
        rw [List.getElem?_set_self (by simpa using hvl)] at hz
        cases hz
        exact freeB_half (freeB_zero _)
      · rw [List.getElem?_set_ne e, List.getElem?_set_ne hn'] at hz
        exact fullB_half (hall i z hz (fun h => hn' h.symm))
    · refine ⟨v, ⟨y.wear + 1, zeroBk.pages⟩, by simpa using hvl, ?_, by simp only; omega, freeB_zero _⟩
      rw [List.getElem?_set_ne (fun h => hvn h.symm), List.getElem?_set_self (by simpa using hvl)]
end Go.Proofs.YtjgcjeaplckbbaaGreat

/- The ops of a write: five at most, and a block that they erase has no newest page when it is erased. In plain lists; no program is named here. -/
namespace Go.Proofs.YtjgcjeaplckbbaaGreat
open Go.RowKit
set_option linter.unusedVariables false
set_option linter.unusedSimpArgs false

theorem kind_moved (bs : List Bk) (L : List Int) (v into seq : Int) (k : Nat) : ∀ x ∈ movedTo bs L v into seq k, x.kind = 1 := by
  induction k with
  | zero => intro x hx; simp [movedTo] at hx
  | succ k ih =>
    intro x hx
    simp only [movedTo, List.mem_append] at hx
    rcases hx with hx | hx
    · exact ih x hx
    · split at hx
      · simp at hx; rw [hx]
      · simp at hx
theorem FtlOk.opsFew {bs : List Bk} {L : List Int} {seq o lg : Int} {data : ByteArray} (h : FtlOk bs L seq o) : (writeOps bs L seq o lg data).length ≤ 5 := by
  cases h.way with
  | room ob wf ps ho hx hlt hu hops => rw [hops lg data]; simp
  | fresh ob x fi wf j y ho hx hfu hfx hne hj hjf hjn hops => rw [hops lg data]; simp
  | move ob x fi fx v y ho hx hfu hfx hff hy hvn hj3 hv3 hvic hall hops =>
    rw [hops lg data]
    simp [moveOps]
    omega
/-- The number of the block of the newest page is in no erased block. -/
theorem FtlOk.erases {bs : List Bk} {L : List Int} {seq o lg : Int} {data : ByteArray} (h : FtlOk bs L seq o) (hq : seq ≤ 999999990) {i : Nat} {x : Opn} (hx : (writeOps bs L seq o lg data)[i]? = some x) (hk : x.kind ≠ 1) :
    ∃ mid, Runs bs ((writeOps bs L seq o lg data).take i) mid ∧ ChipOk mid ∧ mid.length = bs.length ∧ ∀ l z, newestAt (usedOf mid) l = some z → ¬ z.1 / 4 = x.block := by
  cases h.way with
  | room ob wf ps ho hx1 hlt hu hops =>
    rw [hops lg data] at hx
    obtain ⟨hi, rfl⟩ := List.getElem?_eq_some_iff.1 hx
    simp at hi
    subst hi
    exact absurd rfl hk
  | fresh ob x1 fi wf j y ho hx1 hfu hfx hne hj hjf hjn hops =>
    rw [hops lg data] at hx
    obtain ⟨hi, rfl⟩ := List.getElem?_eq_some_iff.1 hx
    simp at hi
    subst hi
    exact absurd rfl hk
  | move ob x1 fi fx v y ho hx1 hfu hfx hff hy hvn hj3 hv3 hvic hall hops =>
    rw [hops lg data] at hx ⊢
    have hvl := (List.getElem?_eq_some_iff.1 hy).1
    have hM := moves_moved h hq hfx hff hvl 4 (Nat.le_refl _)
    obtain ⟨m1, _, _⟩ := runs_moves h hq hfx hff hvl 4 (Nat.le_refl _)
    have hkm := kind_moved bs L (v : Int) (fi : Int) seq 4
    unfold moveOps at hx ⊢
    generalize movedTo bs L (v : Int) (fi : Int) seq 4 = ms at *
    rcases Nat.lt_trichotomy i ms.length with hi | hi | hi
    · rw [List.append_assoc, List.getElem?_append_left hi] at hx
      exact absurd (hkm x (List.mem_of_getElem? hx)) hk
    · subst hi
      rw [List.append_assoc, List.getElem?_append_right (Nat.le_refl _)] at hx
      simp at hx
      subst hx
      refine ⟨_, ?_, hM.ok, by simp, fun l z hz => hM.left h.chip hvn l z hz⟩
      rw [List.append_assoc, List.take_left]
      exact m1
    · rw [List.append_assoc, List.getElem?_append_right (by omega)] at hx
      obtain ⟨hi2, rfl⟩ := List.getElem?_eq_some_iff.1 hx
      simp at hi2
      obtain ⟨d, hd⟩ : ∃ d, d = i - ms.length := ⟨_, rfl⟩
      have hd1 : i - ms.length = 1 := by omega
      refine absurd ?_ hk
      simp [hd1]
/-- So the map of that chip names no page of it. -/
theorem noneNamed {mid : List Bk} {v : Int} (h : ∀ l z, newestAt (usedOf mid) l = some z → ¬ z.1 / 4 = v) {r : Bool} {L : List Int} (hM : MapIs mid r L) {k : Nat} {m : Int} (hk : L[k]? = some m) (hm : 0 ≤ m) : ¬ m / 4 = v := by
  have hL := hM.2
  cases r with
  | false =>
    rw [hL] at hk
    simp at hk
  | true =>
    rw [hL, if_pos rfl] at hk
    have hkl : k < roomOf mid := by
      have := (List.getElem?_eq_some_iff.1 hk).1
      rwa [placesOf_length] at this
    rw [placesOf_at _ _ hkl] at hk
    cases hn : newestAt (usedOf mid) (k : Int) with
    | none =>
      rw [hn] at hk
      simp [placeIn] at hk
      omega
    | some z =>
      rw [hn] at hk
      simp [placeIn] at hk
      subst hk
      exact h _ z hn
end Go.Proofs.YtjgcjeaplckbbaaGreat

/- Members that the laws draw are young: their numbers are small where they are right. -/
namespace Go.Proofs.YtjgcjeaplckbbaaGreat
open Go.RowKit
set_option linter.unusedVariables false
set_option linter.unusedSimpArgs false

/-- A member's numbers are small if it is right. -/
def Mb.Young (m : Mb) : Prop := m.Ok → (∀ b ∈ m.bs, b.wear ≤ 999999000) ∧ m.seq ≤ 999999000
/-- Numbers of a member that was written to k times at most. -/
def Mb.Low (m : Mb) (k : Nat) : Prop := (∀ b ∈ m.bs, b.wear ≤ 6 * (k : Int)) ∧ m.seq ≤ 6 * (k : Int) + 1
theorem Mb.Low.more {m : Mb} {k j : Nat} (h : m.Low k) (hk : k ≤ j) : m.Low j := ⟨fun b hb => by have := h.1 b hb; omega, by have := h.2; omega⟩
theorem Mb.Low.young {m : Mb} {k : Nat} (h : m.Low k) (hk : k ≤ 1000) : m.Young := fun _ => ⟨fun b hb => by have := h.1 b hb; omega, by have := h.2; omega⟩
theorem OpStep.wearY {bs out : List Bk} {x : Opn} (h : OpStep bs x out) {W : Int} (hw : ∀ b ∈ bs, b.wear ≤ W) : ∀ b ∈ out, b.wear ≤ W + 1 := by
  intro b hb
  have up : ∀ (k : Nat) (c : Bk), c.wear ≤ W + 1 → b ∈ bs.set k c → b.wear ≤ W + 1 := fun k c hc hm => by
    rcases List.mem_or_eq_of_mem_set hm with h1 | h1
    · have := hw b h1; omega
    · rw [h1]; exact hc
  rcases h with ⟨_, ⟨_, _, h⟩ | ⟨_, _, _, h⟩ | ⟨_, _, c, r, hc, _, ⟨_, _, h⟩ | ⟨_, rfl, _⟩⟩⟩ | ⟨_, ⟨_, _, h⟩ | ⟨_, _, _, h⟩ | ⟨_, _, c, hc, ⟨_, _, h⟩ | ⟨_, rfl, _⟩⟩, _⟩
  · cases h
  · cases h
  · cases h
  · have := hw c (List.mem_of_getElem? hc)
    exact up _ _ (by simp only; omega) hb
  · cases h
  · cases h
  · cases h
  · have := hw c (List.mem_of_getElem? hc)
    exact up _ _ (by simp only; omega) hb
theorem Runs.wearY {xs : List Opn} : ∀ {bs out : List Bk} {W : Int}, Runs bs xs out → (∀ b ∈ bs, b.wear ≤ W) → ∀ b ∈ out, b.wear ≤ W + (xs.length : Int) := by
  induction xs with
  | nil => intro bs out W h hw b hb; cases h; have := hw b hb; simp; omega
  | cons x xs ih =>
    rintro bs out W ⟨m, h1, h2⟩ hw b hb
    have := ih h2 (h1.wearY hw) b hb
    simp
    omega
theorem WrittenIs.low {bs : List Bk} {L : List Int} {seq o lg : Int} {data : ByteArray} {bs' : List Bk} {L' : List Int} {seq' o' code : Int} (h : WrittenIs bs L seq o lg data bs' L' seq' o' code) {k : Nat} (hk : Mb.Low ⟨bs, L, seq, o⟩ k) : Mb.Low ⟨bs', L', seq', o'⟩ (k + 1) := by
  rcases h with ⟨_, rfl, _, rfl, _⟩ | ⟨_, _, rfl, _, rfl, _⟩ | ⟨_, _, _, rfl, _, rfl, _⟩ | ⟨_, _, _, ⟨hR, _, rfl, _⟩, _⟩
  · exact ⟨fun b hb => by simp at hb, by show (0 : Int) ≤ _; omega⟩
  · exact hk.more (by omega)
  · exact hk.more (by omega)
  · have h6 := (writeOps_length bs L seq o lg data).2
    have hl := lastOp_seq bs L seq o lg data
    have h1 := hk.2
    simp only at h1
    refine ⟨fun b hb => ?_, ?_⟩
    · have := hR.wearY hk.1 b hb
      omega
    · show (lastOp (writeOps bs L seq o lg data)).page.seq + 1 ≤ _
      omega
theorem FtlNewIs.low {b : Int} {out : List Bk} {L : List Int} {seq o : Int} {r : Bool} (h : FtlNewIs b out L seq o r) : Mb.Low ⟨out, L, seq, o⟩ 0 := by
  rcases h with ⟨_, rfl, _, rfl, _⟩ | ⟨_, rfl, _, rfl, _⟩
  · exact ⟨fun b hb => by rw [newBs_block hb]; decide, by show (1 : Int) ≤ _; omega⟩
  · exact ⟨fun b hb => by simp at hb, by show (0 : Int) ≤ _; omega⟩

set_option maxHeartbeats 1000000 in
theorem near_young (r : Nat) (lo hi : Int) (w : World) (h : RdAt w r) (h0 : -1000 ≤ lo) (h1 : lo ≤ hi) (h2 : hi ≤ 1000) :
    Calls Tryz.prog 39 #[.pointer (some ⟨r, 0, none⟩), .int .i64 lo, .int .i64 hi] w fun e w' => ∃ x : Int, e = .returned (.int .i64 x) ∧ x ≤ hi ∧ RdAt w' r ∧ Touch (· = r) w w' := by
  go_enter Tryz.func39, Tryz.ntmps39
  go_wp2_with fail
  refine (below_any r 8 _ h (by omega) (by omega)).mono ?_
  rintro e w1 ⟨x, rfl, hx0, hx1, hR, hT⟩
  have HR := hide hR
  clear h hR
  by_cases e0 : x = 0
  · have hb : (x == 0) = true := by simpa using e0
    go_wp2
    go_ret
    exact ⟨_, rfl, h1, unhide HR, hT⟩
  · have hb : (x == 0) = false := by simpa using e0
    by_cases e1 : x = 1
    · have hb : (x == 1) = true := by simpa using e1
      go_wp2
      go_ret
      exact ⟨_, rfl, Int.le_refl _, unhide HR, hT⟩
    · have hb : (x == 1) = false := by simpa using e1
      have hnz : ¬ hi - lo + 1 = 0 := by omega
      go_wp2_with fail
      refine (word_any r _ (unhide HR)).mono ?_
      rintro e w2 ⟨y, rfl, hR2, hT2⟩
      have HR2 := hide hR2
      clear hR2 HR
      go_wp2
      go_ret
      refine ⟨_, rfl, ?_, unhide HR2, hT.trans hT2⟩
      have hw : ∀ z : Int, -4000 ≤ z → z ≤ 4000 → wrap64 z = z := fun z a b => by unfold wrap64; omega
      have t1 := Int.tmod_lt_of_pos (y / 2) (show (0 : Int) < hi - lo + 1 by omega)
      have t2 := Int.lt_tmod_of_pos (y / 2) (show (0 : Int) < hi - lo + 1 by omega)
      rw [hw ((y / 2).tmod (hi - lo + 1)) (by omega) (by omega), hw _ (by omega) (by omega)]
      omega

set_option maxHeartbeats 1000000 in
theorem off_young (r : Nat) (lo hi : Int) (w : World) (h : RdAt w r) (h0 : -100 ≤ lo) (h1 : lo ≤ hi) (h2 : hi ≤ 100) :
    Calls Tryz.prog 15 #[.pointer (some ⟨r, 0, none⟩), .int .i64 lo, .int .i64 hi] w fun e w' => ∃ x : Int, e = .returned (.int .i64 x) ∧ (x ≤ 1000 ∨ x = 9223372036854775807) ∧ RdAt w' r ∧ Touch (· = r) w w' := by
  go_enter Tryz.func15, Tryz.ntmps15
  go_wp2_with fail
  refine (once_any r 24 _ h (by omega) (by omega)).mono ?_
  rintro e w1 ⟨x, rfl, hR, hT⟩
  have HR := hide hR
  have hrl := hR.lt
  clear h hR
  cases hb : (x == (24 : Int) - 1) with
  | false =>
    go_wp2_with fail
    refine (near_young r lo hi _ (unhide HR) (by omega) h1 (by omega)).mono ?_
    rintro e w2 ⟨y, rfl, hyh, hR2, hT2⟩
    have HR2 := hide hR2
    clear hR2 HR
    go_wp2
    go_ret
    exact ⟨_, rfl, .inl (by omega), unhide HR2, hT.trans hT2⟩
  | true =>
    go_wp2_with fail
    have hB1 : ∀ o, Below w1.heap.size w1 (w1.alloc o) := fun o => (Below.refl _ _).alloc (Nat.le_refl _) _
    refine (below_any r 4 _ ((unhide HR).below (hB1 _)) (by omega) (by omega)).mono ?_
    rintro e w2 ⟨y, rfl, hy0, hy1, hR2, hT2⟩
    have HR2 := hide hR2
    have hT3 := (hT.alloc _).trans hT2
    have hc : ∀ o, w2.cell? ⟨w1.heap.size, o, none⟩ = (w1.alloc (.cells #[.int .i64 (lo - 1), .int .i64 (hi + 1), .int .i64 (-9223372036854775808), .int .i64 9223372036854775807] 2)).cell? ⟨w1.heap.size, o, none⟩ := fun o => hT2.cell (by simp) (by show ¬ w1.heap.size = r; omega)
    have c0 : w2.cell? ⟨w1.heap.size, 0, none⟩ = some (.int .i64 (lo - 1)) := by rw [hc]; simp
    have c1 : w2.cell? ⟨w1.heap.size, 1, none⟩ = some (.int .i64 (hi + 1)) := by rw [hc]; simp
    have c2 : w2.cell? ⟨w1.heap.size, 2, none⟩ = some (.int .i64 (-9223372036854775808)) := by rw [hc]; simp
    have c3 : w2.cell? ⟨w1.heap.size, 3, none⟩ = some (.int .i64 9223372036854775807) := by rw [hc]; simp
    have h4 : y = 0 ∨ y = 1 ∨ y = 2 ∨ y = 3 := by omega
    clear hR2 HR hT2 hc hT hB1
    rcases h4 with rfl | rfl | rfl | rfl
    all_goals (
      go_wp2
      go_ret
      exact ⟨_, rfl, by first | exact .inr rfl | exact .inl (by omega), unhide HR2, hT3⟩)

theorem turnY_int {w : World} {t : Addr} {y : Int} (ht : w.cell? t = some (.int .i64 y)) (x : Int) {p : Addr} {z : Int} (hp : w.cell? p = some (.int .i64 z)) : ∃ z', (z' = x ∨ z' = z) ∧ (w.setCell t (.int .i64 x)).cell? p = some (.int .i64 z') := by
  by_cases e : t = p
  · subst e
    exact ⟨x, .inl rfl, World.cell?_setCell_same' _ _ _ (by rw [ht]; rfl)⟩
  · exact ⟨z, .inr rfl, by rw [World.cell?_setCell_other _ _ _ _ (by first | exact e | exact fun h => e h.symm)]; exact hp⟩
theorem blocksAt_storeY {w : World} {a : Option Addr} {bs : List Bk} (h : BlocksAt w a bs) {t : Addr} {y : Int} (ht : w.cell? t = some (.int .i64 y)) (x : Int) :
    ∃ bs' : List Bk, bs'.length = bs.length ∧ (∀ (i : Nat) (b' : Bk), bs'[i]? = some b' → ∃ b : Bk, bs[i]? = some b ∧ b'.pages.length = b.pages.length ∧ (b'.wear = x ∨ b'.wear = b.wear)) ∧ BlocksAt (w.setCell t (.int .i64 x)) a bs' := by
  have key : ∀ i, i < bs.length → ∃ b' : Bk, ∃ b, bs[i]? = some b ∧ (b'.pages.length = b.pages.length ∧ (b'.wear = x ∨ b'.wear = b.wear)) ∧ ∃ g o pa pc, a = some ⟨g, o, none⟩ ∧
    (w.setCell t (.int .i64 x)).cell? ⟨g, o + i * 2, none⟩ = some (.int .i64 b'.wear) ∧ (w.setCell t (.int .i64 x)).cell? ⟨g, o + i * 2 + 1, none⟩ = some (.slice pa b'.pages.length pc) ∧ PagesAt (w.setCell t (.int .i64 x)) pa b'.pages := by
    intro i hi
    obtain ⟨b, hb⟩ := getElem?_ex hi
    obtain ⟨g, o, pa, pc, ha, c0, c1, hA⟩ := h i b hb
    obtain ⟨z, hzz, hz⟩ := turnY_int ht x c0
    obtain ⟨ps, hpl, hps⟩ := list_of (P := fun j (p' : Pg) => ∃ q qo, pa = some ⟨q, qo, none⟩ ∧ (w.setCell t (.int .i64 x)).cell? ⟨q, qo + j * 4, none⟩ = some (.bool p'.used) ∧ (w.setCell t (.int .i64 x)).cell? ⟨q, qo + j * 4 + 1, none⟩ = some (.int .i64 p'.log) ∧ (w.setCell t (.int .i64 x)).cell? ⟨q, qo + j * 4 + 2, none⟩ = some (.int .i64 p'.seq) ∧ (w.setCell t (.int .i64 x)).cell? ⟨q, qo + j * 4 + 3, none⟩ = some (.string p'.data)) b.pages.length (fun j hj => by
      obtain ⟨p, hp⟩ := getElem?_ex hj
      obtain ⟨q, qo, hq, d0, d1, d2, d3⟩ := hA j p hp
      obtain ⟨z1, hz1⟩ := turn_int ht x d1
      obtain ⟨z2, hz2⟩ := turn_int ht x d2
      exact ⟨⟨p.used, z1, z2, p.data⟩, q, qo, hq, keep_int ht x d0 (fun _ _ e => by cases e), hz1, hz2, keep_int ht x d3 (fun _ _ e => by cases e)⟩)
    refine ⟨⟨z, ps⟩, b, hb, ⟨hpl, hzz⟩, g, o, pa, pc, ha, hz, ?_, fun j p hp => hps j p hp⟩
    show _ = some (Value.slice pa ps.length pc)
    rw [hpl]
    exact keep_int ht x c1 (fun _ _ e => by cases e)
  obtain ⟨l, hl, hP⟩ := list_of bs.length key
  refine ⟨l, hl, fun i b' hb' => ?_, fun i b' hb' => ?_⟩
  · obtain ⟨b, hb, h1, _⟩ := hP i b' hb'
    exact ⟨b, hb, h1.1, h1.2⟩
  · obtain ⟨b, hb, _, h2⟩ := hP i b' hb'
    exact h2
/-- A store into the first place of its map, and the wears behind it. -/
theorem MbAt.setMapY {w : World} {g : Nat} {a : Option Addr} {n : Nat} {mn B : Nat} {m : Mb} (h : MbAt w a n (some ⟨g, 0, none⟩) mn B m) {y : Int} (hc : w.cell? ⟨g, 0, none⟩ = some (.int .i64 y)) (x : Int) (hs : m.Short) : ∃ m' : Mb, MbAt (w.setCell ⟨g, 0, none⟩ (.int .i64 x)) a n (some ⟨g, 0, none⟩) mn B m' ∧ m'.Short ∧ m'.seq = m.seq ∧ m'.o = m.o ∧ ∀ b ∈ m'.bs, b.wear = x ∨ ∃ c ∈ m.bs, b.wear = c.wear := by
  obtain ⟨bs', hl, hp, hA⟩ := blocksAt_storeY h.blocks hc x
  have hI : IntsAt (w.setCell ⟨g, 0, none⟩ (.int .i64 x)) (some ⟨g, 0, none⟩) (m.L.set 0 x) := by
    intro i z hz
    refine ⟨g, 0, rfl, ?_⟩
    rw [List.getElem?_set] at hz
    by_cases e : 0 = i
    · subst e
      rw [if_pos rfl] at hz
      split at hz
      · cases hz
        exact World.cell?_setCell_same' _ _ _ (by rw [hc]; rfl)
      · cases hz
    · rw [if_neg e] at hz
      obtain ⟨b, o, ha, hcc⟩ := h.ints i z hz
      cases ha
      rw [World.cell?_setCell_other _ _ _ _ (by simp)]
      exact hcc
  refine ⟨⟨bs', m.L.set 0 x, m.seq, m.o⟩, ⟨hl.trans h.bs, by simp [h.L], hA, hI, ?_⟩, ⟨⟨by rw [hl]; exact hs.1.1, fun b hb => ?_⟩, by rw [hl]; exact hs.2.1, by simp; exact hs.2.2⟩, rfl, rfl, fun b hb => ?_⟩
  · rcases h.mine with ⟨e, _⟩ | ⟨g', e, h1, h2, h3⟩
    · cases e
    · cases e
      refine .inr ⟨g, rfl, h1, by simpa [World.setCell] using h2, ?_⟩
      intro i hi
      obtain ⟨⟨z, hz⟩, hf⟩ := h3 i hi
      exact ⟨turn_int hc x hz, by simpa using hf⟩
  · obtain ⟨i, hi, rfl⟩ := List.getElem_of_mem hb
    obtain ⟨b', hb', e, _⟩ := hp i _ (List.getElem?_eq_getElem hi)
    rw [e]
    exact hs.1.2 _ (List.mem_of_getElem? hb')
  · obtain ⟨i, hi, rfl⟩ := List.getElem_of_mem hb
    obtain ⟨b', hb', _, e⟩ := hp i _ (List.getElem?_eq_getElem hi)
    rcases e with e | e
    · exact .inl e
    · exact .inr ⟨b', List.mem_of_getElem? hb', e⟩
end Go.Proofs.YtjgcjeaplckbbaaGreat
