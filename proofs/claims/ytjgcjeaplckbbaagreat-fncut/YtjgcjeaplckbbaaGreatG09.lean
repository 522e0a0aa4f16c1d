/- 4 texts in one. -/
import Derived.Test.YtjgcjeaplckbbaaGreatG08
import Derived.WalkKit
import Derived.Outline
import Derived.Test.YtjgcjeaplckbbaaGreatG02
import Derived.Test.YtjgcjeaplckbbaaGreatG04
import Derived.Test.YtjgcjeaplckbbaaGreatG07

/- The program's Erased. -/
namespace Go.Proofs.YtjgcjeaplckbbaaGreat
open Go.RowKit
set_option linter.unusedVariables false
set_option linter.unusedSimpArgs false

def InB (bs : List Bk) (blk : Int) : Prop := 0 ≤ blk ∧ blk ≤ (bs.length : Int) - 1
/-- What Erased answers. -/
def ErasedIs (bs : List Bk) (blk : Int) (out : List Bk) (code : Int) : Prop :=
  (¬ ChipOk bs ∧ out = [] ∧ code = 1) ∨ (ChipOk bs ∧ ¬ InB bs blk ∧ out = bs ∧ code = 2) ∨
  (ChipOk bs ∧ InB bs blk ∧ ∃ b, bs[blk.toNat]? = some b ∧ ((b.wear = 1000000000 ∧ out = bs ∧ code = 4) ∨ (b.wear ≠ 1000000000 ∧ out = bs.set blk.toNat ⟨b.wear + 1, zeroBk.pages⟩ ∧ code = 0)))
theorem ErasedIs.one {bs : List Bk} {blk : Int} {o1 o2 : List Bk} {c1 c2 : Int} (h : ErasedIs bs blk o1 c1) (k : ErasedIs bs blk o2 c2) : o1 = o2 ∧ c1 = c2 := by
  rcases h with ⟨h1, rfl, rfl⟩ | ⟨h1, h2, rfl, rfl⟩ | ⟨h1, h2, b, hb, h3⟩
  · rcases k with ⟨k1, rfl, rfl⟩ | ⟨k1, _⟩ | ⟨k1, _⟩
    · exact ⟨rfl, rfl⟩
    · exact absurd k1 h1
    · exact absurd k1 h1
  · rcases k with ⟨k1, _⟩ | ⟨k1, k2, rfl, rfl⟩ | ⟨k1, k2, _⟩
    · exact absurd h1 k1
    · exact ⟨rfl, rfl⟩
    · exact absurd k2 h2
  · rcases k with ⟨k1, _⟩ | ⟨k1, k2, _⟩ | ⟨k1, k2, d, hd, k3⟩
    · exact absurd h1 k1
    · exact absurd h2 k2
    · rw [hb] at hd
      cases hd
      rcases h3 with ⟨e1, rfl, rfl⟩ | ⟨e1, rfl, rfl⟩
      · rcases k3 with ⟨f1, rfl, rfl⟩ | ⟨f1, _⟩
        · exact ⟨rfl, rfl⟩
        · exact absurd e1 f1
      · rcases k3 with ⟨f1, _⟩ | ⟨f1, rfl, rfl⟩
        · exact absurd f1 e1
        · exact ⟨rfl, rfl⟩

theorem ccBs_set (m : CC) (n k : Nat) (x : Int) (hk : k < n) : ccBs ((m.setWear k x).setPages k (fun _ => zeroPg)) n = (ccBs m n).set k ⟨x, zeroBk.pages⟩ := by
  apply List.ext_getElem?
  intro i
  rw [List.getElem?_set]
  by_cases hi : i < n
  · rw [ccBs_at _ hi, ccBs_at _ hi]
    by_cases e : k = i
    · subst e
      rw [if_pos rfl, if_pos (by rw [ccBs_length]; exact hi)]
      simp [CC.setWear, CC.setPages, ccPs, zeroBk]
    · rw [if_neg e]
      have e' : ¬ i = k := fun x => e x.symm
      simp [CC.setWear, CC.setPages, ccPs, e']
  · rw [List.getElem?_eq_none (by rw [ccBs_length]; omega), List.getElem?_eq_none (by rw [ccBs_length]; omega), if_neg (by omega)]

/-- erased, whatever the block: the cells m2 and the code. -/
theorem erased_any (bs : List Bk) (hok : ChipOk bs) (m : CC) (hct : m.count = bs.length) (hbs : ccBs m bs.length = bs) (blk : Int) (w : World) :
    Calls Tryz.prog 88 #[.agg (ccA m), .int .i64 blk] w fun e w' => ∃ m2 code, e = .returned (.tuple #[.agg (ccA m2), .int .i64 code]) ∧ m2.count = bs.length ∧ ErasedIs bs blk (ccBs m2 bs.length) code ∧ Below w.heap.size w w' := by
  have hc := hok.count
  by_cases hin : InB bs blk
  · obtain ⟨k, rfl⟩ := Int.eq_ofNat_of_zero_le hin.1
    have hkl : k < bs.length := by have := hin.2; omega
    have hbk : bs[k]? = some ⟨m.wear k, ccPs m k⟩ := by have := ccBs_at m hkl; rwa [hbs] at this
    have hw := (hok.block _ (List.mem_of_getElem? hbk)).wear
    refine (erased_in m bs.length hct hc.2 k hkl hw.1 hw.2 w).mono ?_
    rintro e w' ⟨⟨hx, rfl⟩ | ⟨hx, rfl⟩, hB⟩
    · exact ⟨m, 4, rfl, hct, .inr (.inr ⟨hok, hin, _, by simpa using hbk, .inl ⟨hx, hbs, rfl⟩⟩), hB⟩
    · refine ⟨_, 0, rfl, hct, .inr (.inr ⟨hok, hin, _, by simpa using hbk, .inr ⟨hx, ?_, rfl⟩⟩), hB⟩
      rw [ccBs_set m _ k _ hkl, hbs]
      rfl
  · refine (erased_out m bs.length hct hc.2 blk hin w).mono ?_
    rintro e w' ⟨rfl, hB⟩
    exact ⟨m, 2, rfl, hct, .inr (.inl ⟨hok, hin, hbs, rfl⟩), hB⟩

end Go.Proofs.YtjgcjeaplckbbaaGreat

/- What Programmed answers, in plain lists. No program is named here. -/
namespace Go.Proofs.YtjgcjeaplckbbaaGreat
open Go.RowKit
set_option linter.unusedVariables false
set_option linter.unusedSimpArgs false

/-- The page may be programmed into the block, as far as its form goes. -/
def ProgOk (bs : List Bk) (blk : Int) (p : Pg) : Prop := InB bs blk ∧ rightUsed p = true ∧ p.seq ∉ seqs bs

def ProgIs (bs : List Bk) (blk : Int) (p : Pg) (out : List Bk) (code : Int) : Prop :=
  (¬ ChipOk bs ∧ out = [] ∧ code = 1) ∨ (ChipOk bs ∧ ¬ ProgOk bs blk p ∧ out = bs ∧ code = 2) ∨
  (ChipOk bs ∧ ProgOk bs blk p ∧ ∃ b r, bs[blk.toNat]? = some b ∧ NextIs (fun k => (pagesF b.pages k).used) 4 r ∧ ((r < 0 ∧ out = bs ∧ code = 3) ∨ (0 ≤ r ∧ out = bs.set blk.toNat ⟨b.wear, b.pages.set r.toNat p⟩ ∧ code = 0)))

theorem ProgIs.one {bs : List Bk} {blk : Int} {p : Pg} {o1 o2 : List Bk} {c1 c2 : Int} (h : ProgIs bs blk p o1 c1) (k : ProgIs bs blk p o2 c2) : o1 = o2 ∧ c1 = c2 := by
  rcases h with ⟨h1, rfl, rfl⟩ | ⟨h1, h2, rfl, rfl⟩ | ⟨h1, h2, b, r, hb, hr, h3⟩
  · rcases k with ⟨k1, rfl, rfl⟩ | ⟨k1, _⟩ | ⟨k1, _⟩
    · exact ⟨rfl, rfl⟩
    · exact absurd k1 h1
    · exact absurd k1 h1
  · rcases k with ⟨k1, _⟩ | ⟨k1, k2, rfl, rfl⟩ | ⟨k1, k2, _⟩
    · exact absurd h1 k1
    · exact ⟨rfl, rfl⟩
    · exact absurd k2 h2
  · rcases k with ⟨k1, _⟩ | ⟨k1, k2, _⟩ | ⟨k1, k2, d, q, hd, hq, k3⟩
    · exact absurd h1 k1
    · exact absurd h2 k2
    · rw [hb] at hd
      cases hd
      obtain rfl := hr.one hq
      rcases h3 with ⟨e1, rfl, rfl⟩ | ⟨e1, rfl, rfl⟩
      · rcases k3 with ⟨f1, rfl, rfl⟩ | ⟨f1, _⟩
        · exact ⟨rfl, rfl⟩
        · omega
      · rcases k3 with ⟨f1, _⟩ | ⟨f1, rfl, rfl⟩
        · omega
        · exact ⟨rfl, rfl⟩

theorem ProgIs.lens {bs : List Bk} {blk : Int} {p : Pg} {out : List Bk} {code : Int} (h : ProgIs bs blk p out code) (hn : Lens 1048576 bs) : Lens 1048576 out := by
  rcases h with ⟨_, rfl, _⟩ | ⟨_, _, rfl, _⟩ | ⟨_, _, b, r, hb, _, ⟨_, rfl, _⟩ | ⟨_, rfl, _⟩⟩
  · exact ⟨by simp, fun b hb => by simp at hb⟩
  · exact hn
  · exact hn
  · refine ⟨by rw [List.length_set]; exact hn.1, fun c hc => ?_⟩
    rcases List.mem_or_eq_of_mem_set hc with h1 | rfl
    · exact hn.2 c h1
    · show (b.pages.set r.toNat p).length ≤ _
      rw [List.length_set]
      exact hn.at hb

/-- A page is put into a block's cells. -/
def CC.putPage (m : CC) (b j : Nat) (p : Pg) : CC := m.setPages b (fun i => if i = j then p else m.page b i)

theorem ccA_putPage (m : CC) (b j : Nat) (p : Pg) (hb : b < 12) (hj : j < 4) :
    ((((ccA m).setIfInBounds (1 + b * 17 + 1 + j * 4) (.bool p.used)).setIfInBounds (1 + b * 17 + 1 + j * 4 + 1) (.int .i64 p.log)).setIfInBounds (1 + b * 17 + 1 + j * 4 + 2) (.int .i64 p.seq)).setIfInBounds (1 + b * 17 + 1 + j * 4 + 3) (.string p.data) = ccA (m.putPage b j p) := by
  apply Array.ext_getElem?
  intro i
  by_cases hi : i < 205
  · rw [ccA_get _ hi]
    simp only [Array.getElem?_setIfInBounds, Array.size_setIfInBounds, ccA_size]
    have hF : ¬ (1 + b * 17 + 1 + j * 4 ≤ i ∧ i < 1 + b * 17 + 1 + j * 4 + 4) → ccF (m.putPage b j p) i = ccF m i := by
      intro hn
      unfold ccF CC.putPage CC.setPages
      by_cases h0 : i = 0
      · simp [h0]
      · simp only [if_neg h0]
        by_cases h1 : (i - 1) % 17 = 0
        · simp only [if_pos h1]
        · simp only [if_neg h1]
          by_cases h2 : (i - 1) / 17 = b
          · have h3 : ¬ ((i - 1) % 17 - 1) / 4 = j := by omega
            simp [h2, h3]
          · simp [h2]
    have hT : ∀ t, t < 4 → i = 1 + b * 17 + 1 + j * 4 + t → ccF (m.putPage b j p) i = pgV p t := by
      intro t ht e
      subst e
      unfold ccF CC.putPage CC.setPages
      have h0 : ¬ 1 + b * 17 + 1 + j * 4 + t = 0 := by omega
      have e9 : 1 + b * 17 + 1 + j * 4 + t - 1 = 17 * b + (1 + j * 4 + t) := by omega
      have e8 : (17 * b + (1 + j * 4 + t)) % 17 = 1 + j * 4 + t := by rw [Nat.mul_add_mod, Nat.mod_eq_of_lt (by omega)]
      have h1 : ¬ (1 + b * 17 + 1 + j * 4 + t - 1) % 17 = 0 := by rw [e9, e8]; omega
      have h2 : (1 + b * 17 + 1 + j * 4 + t - 1) / 17 = b := by rw [e9, Nat.mul_add_div (by omega), Nat.div_eq_of_lt (by omega)]; rfl
      have h3 : ((1 + b * 17 + 1 + j * 4 + t - 1) % 17 - 1) / 4 = j := by rw [e9, e8]; omega
      have h4 : ((1 + b * 17 + 1 + j * 4 + t - 1) % 17 - 1) % 4 = t := by rw [e9, e8]; omega
      simp only [if_neg h0, if_neg h1, h2, h3, h4, if_true]
    by_cases e3 : 1 + b * 17 + 1 + j * 4 + 3 = i
    · rw [if_pos e3, if_pos (by omega), hT 3 (by omega) e3.symm]; rfl
    · rw [if_neg e3]
      by_cases e2 : 1 + b * 17 + 1 + j * 4 + 2 = i
      · rw [if_pos e2, if_pos (by omega), hT 2 (by omega) e2.symm]; rfl
      · rw [if_neg e2]
        by_cases e1 : 1 + b * 17 + 1 + j * 4 + 1 = i
        · rw [if_pos e1, if_pos (by omega), hT 1 (by omega) e1.symm]; rfl
        · rw [if_neg e1]
          by_cases e0 : 1 + b * 17 + 1 + j * 4 = i
          · rw [if_pos e0, if_pos (by omega), hT 0 (by omega) e0.symm]; rfl
          · rw [if_neg e0, ccA_get _ hi, hF (by omega)]
  · rw [Array.getElem?_eq_none (by simp [ccA_size]; omega), Array.getElem?_eq_none (by simp [ccA_size]; omega)]

theorem ccBs_putPage (m : CC) (n k j : Nat) (p : Pg) (hk : k < n) (hj : j < 4) : ccBs (m.putPage k j p) n = (ccBs m n).set k ⟨m.wear k, (ccPs m k).set j p⟩ := by
  apply List.ext_getElem?
  intro i
  rw [List.getElem?_set]
  by_cases hi : i < n
  · rw [ccBs_at _ hi, ccBs_at _ hi]
    by_cases e : k = i
    · subst e
      rw [if_pos rfl, if_pos (by rw [ccBs_length]; exact hi)]
      have h4 : j = 0 ∨ j = 1 ∨ j = 2 ∨ j = 3 := by omega
      rcases h4 with rfl | rfl | rfl | rfl <;> simp [CC.putPage, CC.setPages, ccPs]
    · rw [if_neg e]
      have e' : ¬ i = k := fun x => e x.symm
      simp [CC.putPage, CC.setPages, ccPs, e']
  · rw [List.getElem?_eq_none (by rw [ccBs_length]; omega), List.getElem?_eq_none (by rw [ccBs_length]; omega), if_neg (by omega)]

end Go.Proofs.YtjgcjeaplckbbaaGreat

/- Ops done one by one, as plain lists say it; a right chip stays one. No program is named here. -/
namespace Go.Proofs.YtjgcjeaplckbbaaGreat
open Go.RowKit
set_option linter.unusedVariables false
set_option linter.unusedSimpArgs false

theorem seqs_split {bs : List Bk} {i : Nat} {b : Bk} (h : bs[i]? = some b) : seqs bs = seqs (bs.take i) ++ (seqsP b.pages ++ seqs (bs.drop (i + 1))) := by
  obtain ⟨hi, rfl⟩ := List.getElem?_eq_some_iff.1 h
  have e : bs = bs.take i ++ (bs[i] :: bs.drop (i + 1)) := by simp
  conv => lhs; rw [e]
  rw [seqs_append]
  rfl
theorem seqs_set {bs : List Bk} {i : Nat} {b c : Bk} (h : bs[i]? = some b) : seqs (bs.set i c) = seqs (bs.take i) ++ (seqsP c.pages ++ seqs (bs.drop (i + 1))) := by
  have hi := (List.getElem?_eq_some_iff.1 h).1
  have h2 : (bs.set i c)[i]? = some c := by simp [hi]
  rw [seqs_split h2]
  have e1 : (bs.set i c).take i = bs.take i := by rw [List.take_set]; exact List.set_eq_of_length_le (by simp; omega)
  have e2 : (bs.set i c).drop (i + 1) = bs.drop (i + 1) := by rw [List.drop_set]; simp
  rw [e1, e2]
theorem seqsP_split {ps : List Pg} {r : Nat} {q : Pg} (h : ps[r]? = some q) : seqsP ps = seqsP (ps.take r) ++ ((if q.used then [q.seq] else []) ++ seqsP (ps.drop (r + 1))) := by
  obtain ⟨hi, rfl⟩ := List.getElem?_eq_some_iff.1 h
  have e : ps = ps.take r ++ ([ps[r]] ++ ps.drop (r + 1)) := by simp
  conv => lhs; rw [e]
  rw [seqsP_append, seqsP_append]
  congr 2
  by_cases hu : ps[r].used <;> simp [seqsP, hu]
theorem seqsP_set {ps : List Pg} {r : Nat} {q p : Pg} (h : ps[r]? = some q) (hp : p.used = true) : seqsP (ps.set r p) = seqsP (ps.take r) ++ (p.seq :: seqsP (ps.drop (r + 1))) := by
  have hi := (List.getElem?_eq_some_iff.1 h).1
  have h2 : (ps.set r p)[r]? = some p := by simp [hi]
  rw [seqsP_split h2]
  have e1 : (ps.set r p).take r = ps.take r := by rw [List.take_set]; exact List.set_eq_of_length_le (by simp; omega)
  have e2 : (ps.set r p).drop (r + 1) = ps.drop (r + 1) := by rw [List.drop_set]; simp
  rw [e1, e2, hp]
  rfl

theorem chipOk_set {bs : List Bk} (h : ChipOk bs) {i : Nat} {b c : Bk} (hb : bs[i]? = some b) (hc : BkOk c) (hn : (seqs (bs.set i c)).Nodup) : ChipOk (bs.set i c) := by
  refine ⟨by rw [List.length_set]; exact h.count, fun x hx => ?_, hn⟩
  rcases List.mem_or_eq_of_mem_set hx with h1 | rfl
  · exact h.block x h1
  · exact hc
theorem ErasedIs.ok {bs : List Bk} {blk : Int} {out : List Bk} {code : Int} (h : ErasedIs bs blk out code) (hok : ChipOk bs) : ChipOk out := by
  rcases h with ⟨h1, _⟩ | ⟨_, _, rfl, _⟩ | ⟨_, _, b, hb, ⟨_, rfl, _⟩ | ⟨hw, rfl, _⟩⟩
  · exact absurd hok h1
  · exact hok
  · exact hok
  · have hbk := hok.block b (List.mem_of_getElem? hb)
    refine chipOk_set hok hb ⟨?_, rfl, fun k p hp => ?_, fun k p q hq hp hu => ?_⟩ ?_
    · have := hbk.wear
      show 0 ≤ b.wear + 1 ∧ b.wear + 1 ≤ 1000000000
      omega
    · have hm := List.mem_of_getElem? hp
      simp [zeroBk] at hm
      rw [hm]; rfl
    · have hm := List.mem_of_getElem? hp
      simp [zeroBk] at hm
      rw [hm] at hu
      cases hu
    · rw [seqs_set hb]
      have e : seqsP zeroBk.pages = [] := rfl
      have h2 := hok.nodup
      rw [seqs_split hb] at h2
      refine List.Sublist.nodup (List.Sublist.append_left ?_ _) h2
      show (seqsP zeroBk.pages ++ seqs (bs.drop (blk.toNat + 1))).Sublist _
      rw [e]
      exact List.sublist_append_right _ _
theorem ProgIs.ok {bs : List Bk} {blk : Int} {p : Pg} {out : List Bk} {code : Int} (h : ProgIs bs blk p out code) (hok : ChipOk bs) : ChipOk out := by
  rcases h with ⟨h1, _⟩ | ⟨_, _, rfl, _⟩ | ⟨_, hP, b, r, hb, hr, ⟨_, rfl, _⟩ | ⟨hr0, rfl, _⟩⟩
  · exact absurd hok h1
  · exact hok
  · exact hok
  · have hbk := hok.block b (List.mem_of_getElem? hb)
    rcases hr with ⟨k, hk, rfl, hu, hall⟩ | ⟨rfl, _⟩
    · have h4 := hbk.four
      obtain ⟨q, hq⟩ := getElem?_ex (l := b.pages) (k := k) (by omega)
      have hqu : q.used = false := by simpa [pagesF, hq] using hu
      have hru := hP.2.1
      have hpu : p.used = true := by unfold rightUsed at hru; simp at hru; exact hru.1.1.1
      have hkn : ((k : Int)).toNat = k := by simp
      rw [hkn]
      refine chipOk_set hok hb ⟨hbk.wear, by simpa using h4, fun j x hx => ?_, fun j x y hy hx hxu => ?_⟩ ?_
      · simp only [List.getElem?_set] at hx
        split at hx
        · split at hx
          · cases hx
            unfold pgOk
            rw [hpu]
            exact hru
          · cases hx
        · exact hbk.page j x hx
      · simp only [List.getElem?_set] at hx hy
        by_cases e1 : k = j
        · subst e1
          rw [if_pos rfl] at hy
          split at hy
          · cases hy; exact hpu
          · cases hy
        · rw [if_neg e1] at hy
          by_cases e2 : k = j + 1
          · have hj := hall j (by omega)
            simpa [pagesF, hy] using hj
          · rw [if_neg e2] at hx
            exact hbk.order j x y hy hx hxu
      · rw [seqs_set hb]
        show (seqs (bs.take blk.toNat) ++ (seqsP (b.pages.set k p) ++ seqs (bs.drop (blk.toNat + 1)))).Nodup
        rw [seqsP_set hq hpu]
        have h2 := hok.nodup
        have hnot := hP.2.2
        rw [seqs_split hb, seqsP_split hq, hqu] at h2 hnot
        simp only [Bool.false_eq_true, if_false, List.nil_append, List.append_assoc] at h2 hnot
        simp only [List.append_assoc, List.cons_append]
        have e : (seqs (bs.take blk.toNat) ++ (seqsP (b.pages.take k) ++ (p.seq :: (seqsP (b.pages.drop (k + 1)) ++ seqs (bs.drop (blk.toNat + 1)))))).Perm (p.seq :: (seqs (bs.take blk.toNat) ++ (seqsP (b.pages.take k) ++ (seqsP (b.pages.drop (k + 1)) ++ seqs (bs.drop (blk.toNat + 1)))))) := by
          rw [← List.append_assoc, ← List.append_assoc]
          exact List.perm_middle
        exact e.nodup_iff.2 (List.nodup_cons.2 ⟨hnot, h2⟩)
    · omega

/-- One op is done. -/
def OpStep (bs : List Bk) (x : Opn) (out : List Bk) : Prop := (x.kind = 1 ∧ ProgIs bs x.block x.page out 0) ∨ (x.kind = 2 ∧ ErasedIs bs x.block out 0 ∧ isZero x.page = true)
theorem OpStep.one {bs : List Bk} {x : Opn} {o1 o2 : List Bk} (h : OpStep bs x o1) (k : OpStep bs x o2) : o1 = o2 := by
  rcases h with ⟨h1, h2⟩ | ⟨h1, h2, _⟩
  · rcases k with ⟨_, k2⟩ | ⟨k1, _⟩
    · exact (h2.one k2).1
    · omega
  · rcases k with ⟨k1, _⟩ | ⟨_, k2, _⟩
    · omega
    · exact (h2.one k2).1
theorem OpStep.ok {bs : List Bk} {x : Opn} {out : List Bk} (h : OpStep bs x out) : ChipOk bs ∧ ChipOk out := by
  rcases h with ⟨_, h2⟩ | ⟨_, h2, _⟩
  · have hok : ChipOk bs := by
      rcases h2 with ⟨_, _, h⟩ | ⟨h, _⟩ | ⟨h, _⟩
      · omega
      · exact h
      · exact h
    exact ⟨hok, h2.ok hok⟩
  · have hok : ChipOk bs := by
      rcases h2 with ⟨_, _, h⟩ | ⟨h, _⟩ | ⟨h, _⟩
      · omega
      · exact h
      · exact h
    exact ⟨hok, h2.ok hok⟩
/-- All ops are done, one behind the other. -/
def Runs : List Bk → List Opn → List Bk → Prop
  | bs, [], out => out = bs
  | bs, x :: xs, out => ∃ mid, OpStep bs x mid ∧ Runs mid xs out
theorem Runs.one {xs : List Opn} : ∀ {bs o1 o2 : List Bk}, Runs bs xs o1 → Runs bs xs o2 → o1 = o2 := by
  induction xs with
  | nil => intro bs o1 o2 h k; exact h.trans k.symm
  | cons x xs ih =>
    rintro bs o1 o2 ⟨m1, h1, h2⟩ ⟨m2, k1, k2⟩
    obtain rfl := h1.one k1
    exact ih h2 k2
theorem runs_snoc {xs : List Opn} {x : Opn} : ∀ {bs out : List Bk}, Runs bs (xs ++ [x]) out ↔ ∃ mid, Runs bs xs mid ∧ OpStep mid x out := by
  induction xs with
  | nil =>
    intro bs out
    constructor
    · rintro ⟨mid, h1, h2⟩; cases h2; exact ⟨bs, rfl, h1⟩
    · rintro ⟨mid, h1, h2⟩; cases h1; exact ⟨out, h2, rfl⟩
  | cons y ys ih =>
    intro bs out
    constructor
    · rintro ⟨m1, h1, h2⟩
      obtain ⟨m2, h3, h4⟩ := ih.1 h2
      exact ⟨m2, ⟨m1, h1, h3⟩, h4⟩
    · rintro ⟨m2, ⟨m1, h1, h3⟩, h4⟩
      exact ⟨m1, h1, ih.2 ⟨m2, h3, h4⟩⟩
theorem Runs.split {xs ys : List Opn} : ∀ {bs out : List Bk}, Runs bs (xs ++ ys) out → ∃ mid, Runs bs xs mid ∧ Runs mid ys out := by
  induction xs with
  | nil => intro bs out h; exact ⟨bs, rfl, h⟩
  | cons x xs ih =>
    rintro bs out ⟨m, h1, h2⟩
    obtain ⟨m2, h3, h4⟩ := ih h2
    exact ⟨m2, ⟨m, h1, h3⟩, h4⟩
theorem Runs.ok {xs : List Opn} : ∀ {bs out : List Bk}, Runs bs xs out → ChipOk bs → ChipOk out := by
  induction xs with
  | nil => intro bs out h hok; cases h; exact hok
  | cons x xs ih => rintro bs out ⟨m, h1, h2⟩ hok; exact ih h2 h1.ok.2
/-- What Did answers. -/
def DidIs (bs : List Bk) (xs : List Opn) (out : List Bk) (r : Bool) : Prop :=
  (r = true ∧ ChipOk bs ∧ xs.length ≤ 20 ∧ Runs bs xs out) ∨ (r = false ∧ out = [] ∧ ¬ (ChipOk bs ∧ xs.length ≤ 20 ∧ ∃ o, Runs bs xs o))
theorem DidIs.one {bs : List Bk} {xs : List Opn} {o1 o2 : List Bk} {r1 r2 : Bool} (h : DidIs bs xs o1 r1) (k : DidIs bs xs o2 r2) : o1 = o2 ∧ r1 = r2 := by
  rcases h with ⟨rfl, h1, h2, h3⟩ | ⟨rfl, rfl, h1⟩
  · rcases k with ⟨rfl, _, _, k3⟩ | ⟨_, _, k1⟩
    · exact ⟨h3.one k3, rfl⟩
    · exact absurd ⟨h1, h2, _, h3⟩ k1
  · rcases k with ⟨_, k1, k2, k3⟩ | ⟨rfl, rfl, _⟩
    · exact absurd ⟨k1, k2, _, k3⟩ h1
    · exact ⟨rfl, rfl⟩
theorem lens_of_ok {bs : List Bk} (h : ChipOk bs) : Lens 1048576 bs := ⟨by have := h.count; omega, fun b hb => by rw [(h.block b hb).four]; omega⟩
end Go.Proofs.YtjgcjeaplckbbaaGreat

/- The program's answer whether a number is a used page's. -/
namespace Go.Proofs.YtjgcjeaplckbbaaGreat
open Go.RowKit Go.Shelf
set_option linter.unusedVariables false
set_option linter.unusedSimpArgs false
attribute [local go_sem] Oper.semAt_some

def HasI (w : World) (s : Int) (pre : List (Int × Pg)) (W : World) : Prop :=
  W.heap[w.heap.size + 1]? = some (.cells #[Value.int .i64 s] 2 (0, 0)) ∧ W.heap[w.heap.size + 1 + 1]? = some (.cells #[Value.bool false] 4 (0, 0)) ∧ s ∉ usedSeqs pre ∧ w.heap.size + 1 + 1 + 1 < W.heap.size
def HasX (w : World) (s : Int) (c : Code) (pre : List (Int × Pg)) (W : World) : Prop :=
  c = .ret ∧ s ∈ usedSeqs pre ∧ W.heap[w.heap.size + 1 + 1]? = some (.cells #[Value.bool true] 4 (0, 0))
theorem HasI.own (w : World) (s : Int) : Own (HasI w s) := fun p W W' row ⟨h1, h2, h3, h4⟩ hg hr => ⟨blk_kept h1 hg hr, blk_kept h2 hg hr, h3, Nat.lt_of_lt_of_le h4 hg.size⟩
theorem HasX.own (w : World) (s : Int) (c : Code) : Own (HasX w s c) := fun p W W' row ⟨h1, h2, h3⟩ hg hr => ⟨h1, h2, blk_kept h3 hg hr⟩

theorem heap3 (w : World) (o1 o2 o3 : Obj) :
    (((w.alloc o1).alloc o2).alloc o3).heap[w.heap.size]? = some o1 ∧ (((w.alloc o1).alloc o2).alloc o3).heap[w.heap.size + 1]? = some o2 ∧ (((w.alloc o1).alloc o2).alloc o3).heap[w.heap.size + 1 + 1]? = some o3 := by
  have e : (((w.alloc o1).alloc o2).alloc o3).heap = ((w.heap.push o1).push o2).push o3 := rfl
  rw [e]
  simp only [Array.getElem?_push, Array.size_push]
  refine ⟨?_, ?_, ?_⟩
  · rw [if_neg (by omega), if_neg (by omega), if_pos trivial]
  · rw [if_neg (by omega), if_pos trivial]
  · rw [if_pos trivial]

set_option maxRecDepth 100000 in
set_option maxHeartbeats 1000000 in
theorem hasSeq_any (m : CC) (c : Nat) (hm : m.count = c) (hc : c ≤ 12) (s : Int) (w : World) :
    Calls Tryz.prog 98 #[.agg (ccA m), .int .i64 s] w fun e w' => RetIff (s ∈ usedSeqs (usedAll m c)) e ∧ Below w.heap.size w w' := by
  refine (callsIn_wide (n := 8)).1 ?_
  refine callsIn_of_wp_marks Tryz.func98 rfl trivial ?_ rfl
  simp only [Tryz.ntmps98, List.size_toArray, List.length_cons, List.length_nil, Nat.reduceAdd, Nat.reduceSub, Array.replicate_succ, Array.replicate_zero, List.push_toArray, List.append_toArray, List.nil_append, List.cons_append]
  gi_wp2_with (first | (refine wpListIn_load_mid rfl 57 _ rfl w.heap.size 0 rfl (ccA m) 205 (ccA_size m) (fun j hj => by rw [Nat.zero_add]; exact cell_of_row _ _ _ _ _ _ (heap3 w _ _ _).1) _ Tryz.underlying57 rfl sizeCC' ?_) | (refine ⟨trivial, ?_⟩; gi_at_call 69; refine (usedPages_in Fence.wide _ trivial rfl m _).mono ?_; rintro e w' ⟨rfl, rfl⟩))
  obtain ⟨W4, hW4⟩ : ∃ W4, W4 = ((w.alloc (.cells (ccA m) 57)).alloc (.cells #[.int .i64 s] 2)).alloc (.cells #[.bool false] 4) := ⟨_, rfl⟩
  have h4 := heap3 w (.cells (ccA m) 57) (.cells #[.int .i64 s] 2) (.cells #[.bool false] 4)
  have hs4 : W4.heap.size = w.heap.size + 1 + 1 + 1 := by rw [hW4]; simp
  have hB4 : Below w.heap.size w W4 := by
    rw [hW4]
    exact (((Below.refl _ w).alloc (Nat.le_refl _) _).alloc (by simp) _).alloc (by simp; omega) _
  rw [← hW4] at h4 ⊢
  clear hW4
  obtain ⟨_, h41, h42⟩ := h4
  have hbel : Below w.heap.size w (W4.alloc (.cells (ccA m) 57)) := hB4.alloc hB4.size _
  have hbox : ∀ i, (W4.alloc (.cells (ccA m) 57)).cell? ⟨w.heap.size + 1 + 1 + 1, i, none⟩ = (ccA m)[i]? := fun i => by rw [← hs4]; simp
  refine wpIn_rangeFunc_ownH rfl (by omega) (gf := 92) (lb := #[.pointer (some ⟨w.heap.size + 1 + 1 + 1, 0, none⟩)]) rfl trivial (enters_of Tryz.func92 (by kernel_rfl) rfl)
    (used_stops Fence.wide _ trivial rfl (by omega) (w.heap.size + 1 + 1 + 1) c m hm hc _ (by simp; omega) hbox) KeepB.trans (keepB_b (by simp; omega)) (Below.refl _ _) (fun _ => rfl)
    (fun pre W => HasI w s pre W ∧ Below w.heap.size w W) (fun c pre W => HasX w s c pre W ∧ Below w.heap.size w W)
    (OwnFrom.and (Own.from (HasI.own w s) _) (ownFrom_below (Nat.le_refl _) (by simp; omega)))
    (fun c => OwnFrom.and (Own.from (HasX.own w s c) _) (ownFrom_below (Nat.le_refl _) (by simp; omega)))
    ⟨⟨by rw [Below.heap_alloc _ _ _ (by rw [hs4]; omega)]; exact h41, by rw [Below.heap_alloc _ _ _ (by rw [hs4]; omega)]; exact h42, by simp [usedSeqs], by simp; omega⟩, hbel⟩
    (fun x a' W => ∃ Bp, w.heap.size + 1 + 1 + 1 < Bp ∧ W.heap[Bp]? = some (.cells #[Value.bool x.2.used, Value.int .i64 x.2.log, Value.int .i64 x.2.seq, Value.string x.2.data] 51 (0, 0)) ∧
      a' = { tmps := #[.agg (ccA m), .int .i64 s, .pointer (some ⟨w.heap.size, 0, none⟩), .pointer (some ⟨w.heap.size + 1, 0, none⟩), .pointer (some ⟨w.heap.size + 1 + 1, 0, none⟩), undef, .pointer (some ⟨Bp, 0, none⟩), .agg (ccA m), .func (.func 92) #[] #[.pointer (some ⟨w.heap.size + 1 + 1 + 1, 0, none⟩)], .int .i64 x.1, .agg #[Value.bool x.2.used, Value.int .i64 x.2.log, Value.int .i64 x.2.seq, Value.string x.2.data], undef, undef, undef, undef], defers := [] })
    (fun x a' => Own.from (fun _ W W' row ⟨Bp, h1, h2, h3⟩ hg hr => ⟨Bp, h1, blk_kept h2 hg hr, h3⟩) _) ?assign ?body ?done ?stop
  case assign =>
    rintro l pre x W K ⟨hi, hb⟩ hK
    obtain ⟨xi, xp⟩ := x
    simp only [encU]
    gi_wp2
    have hWs : w.heap.size + 1 + 1 + 1 < W.heap.size := hi.2.2.2
    exact hK _ _ ((KeepsOthers.alloc _ _).from _) (KeepB.alloc _ _ hWs) ⟨HasI.own w s pre W _ none hi (World.grownBy_alloc W _ none) (fun r e => by cases e), hb.alloc hb.size _⟩ ⟨W.heap.size, hWs, World.alloc_heap_new _ _, rfl⟩
  case body =>
    rintro l pre ⟨xi, xp⟩ a' W hl hlr ⟨⟨hA1, hA2, hnot, hWs⟩, hb⟩ ⟨Bp, hBp, hpb, rfl⟩ hlen
    have hcS := cell_of_row _ _ 2 _ _ _ hpb
    have hcQ := cell_of_row _ _ 0 _ _ _ hA1
    have hcF := cell_of_row _ _ 0 _ _ _ hA2
    have hfF := frozen_of_row _ _ 0 _ _ hA2
    have HN := hide hnot
    have HP := hide hpb
    clear hnot hpb
    simp only [] at hcS
    by_cases hin : xp.seq = s
    · have hbe : (xp.seq == s) = true := by simpa using hin
      gi_wp2
      refine ⟨((KeepsOthers.setCell _ _ _).from _), ⟨rfl, ?_, ?_⟩, ?_⟩
      · rw [usedSeqs_snoc, hin]
        simp
      · exact blk_setCell_same 0 (.bool true) hA2
      · exact hb.setCell (p := ⟨w.heap.size + 1 + 1, 0, none⟩) (by simp; omega) _
    · have hbe : (xp.seq == s) = false := by simpa using hin
      gi_wp2
      refine ⟨(KeepsOthers.refl _).from _, KeepB.refl _ _, ⟨hA1, hA2, ?_, hWs⟩, hb⟩
      rw [usedSeqs_snoc]
      intro hc
      rcases List.mem_append.1 hc with h1 | h1
      · exact unhide HN h1
      · simp at h1
        exact hin h1.symm
  case done =>
    rintro D ys W hD rfl ⟨⟨hA1, hA2, hnot, hWs⟩, hb⟩ hK
    have hcF := cell_of_row _ _ 0 _ _ _ hA2
    have hfF := frozen_of_row _ _ 0 _ _ hA2
    have HA := hide hnot
    clear hnot
    gi_wp2
    have hK' := (KeepsOthers.setCell W ⟨w.heap.size + 1 + 1, 0, none⟩ (.bool false)).same D _ hK rfl
    refine ⟨by simp, .inl ⟨_, _, rfl, run_takeDeferred hK', ?_⟩⟩
    have hc5 := cell_kept (World.cell?_setCell_same' W ⟨w.heap.size + 1 + 1, 0, none⟩ (.bool false) (by rw [hcF]; rfl)) (grownBy_putObj' _ D (.deferred none)) (fun r e => by cases e; exact ⟨_, hK', rfl⟩)
    refine ⟨.bool false, ?_, RetIff.no (unhide HA), (hb.setCell (p := ⟨w.heap.size + 1 + 1, 0, none⟩) (by simp; omega) _).trans (belowK_b (w := w) (Nat.le_refl _) _ D _ _ (by simp at hD; omega) hK' rfl rfl)⟩
    simp [results, Tryz.f98, go_sem, hc5]
  case stop =>
    rintro D c' pre W hD hpre ⟨⟨rfl, hin, hA2⟩, hb⟩ hK
    have hcF := cell_of_row _ _ 0 _ _ _ hA2
    have HA := hide hin
    clear hin
    gi_wp2
    refine ⟨by simp, .inl ⟨_, _, rfl, run_takeDeferred hK, ?_⟩⟩
    have hc5 := cell_kept hcF (grownBy_putObj' _ D (.deferred none)) (fun r e => by cases e; exact ⟨_, hK, rfl⟩)
    refine ⟨.bool true, ?_, RetIff.yes ?_, hb.trans (belowK_b (w := w) (Nat.le_refl _) W D _ _ (by simp at hD; omega) hK rfl rfl)⟩
    · simp [results, Tryz.f98, go_sem, hc5]
    · obtain ⟨t, ht⟩ := hpre
      rw [← ht]
      have := unhide HA
      simp [usedSeqs] at this ⊢
      exact .inl this
end Go.Proofs.YtjgcjeaplckbbaaGreat
