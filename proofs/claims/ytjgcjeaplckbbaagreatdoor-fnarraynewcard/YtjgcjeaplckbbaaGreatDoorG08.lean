/- 8 texts in one. -/
import Derived.Test.YtjgcjeaplckbbaaGreatDoorG07
import Derived.WalkKit
import Derived.Outline
import Derived.Test.YtjgcjeaplckbbaaGreatDoorG02
import Derived.Test.YtjgcjeaplckbbaaGreatDoorG06
import Derived.Deep.AppendLies
import Derived.Test.YtjgcjeaplckbbaaGreatDoorG01
import Derived.Test.YtjgcjeaplckbbaaGreatDoorG03
import Derived.Test.YtjgcjeaplckbbaaGreatDoorG04
import Derived.Deep.MidRow
import Derived.Deep.RegionHeld3

/- The program's Erased. -/
namespace Go.Proofs.YtjgcjeaplckbbaaGreatDoor
open Go.RowKit
set_option linter.unusedVariables false
set_option linter.unusedSimpArgs false

def InB (bs : List Bk) (blk : Int) : Prop := 0 ≤ blk ∧ blk ≤ (bs.length : Int) - 1
/-- What Erased answers. -/
def ErasedIs (bs : List Bk) (blk : Int) (out : List Bk) (code : Int) : Prop :=
  (¬ ChipOk bs ∧ out = [] ∧ code = 1) ∨ (ChipOk bs ∧ ¬ InB bs blk ∧ out = bs ∧ code = 2) ∨
  (ChipOk bs ∧ InB bs blk ∧ ∃ b, bs[blk.toNat]? = some b ∧ ((b.wear = 1000000000 ∧ out = bs ∧ code = 4) ∨ (b.wear ≠ 1000000000 ∧ out = bs.set blk.toNat ⟨b.wear + 1, zeroBk.pages⟩ ∧ code = 0)))
theorem ErasedIs.one {bs : List Bk} {blk : Int} {o1 o2 : List Bk} {c1 c2 : Int} (h : ErasedIs bs blk o1 c1) (k : ErasedIs bs blk o2 c2) : o1 = o2 ∧ c1 = c2 := by
  rcases h with ⟨h1, rfl, rfl⟩ | ⟨h1, h2, rfl, rfl⟩ | ⟨h1, h2, b, hb, h3⟩
  · rcases k with ⟨k1, rfl, rfl⟩ | ⟨k1, _⟩ | ⟨k1, _⟩
    · exact ⟨rfl, rfl⟩
    · exact absurd k1 h1
    · exact absurd k1 h1
  · rcases k with ⟨k1, _⟩ | ⟨k1, k2, rfl, rfl⟩ | ⟨k1, k2, _⟩
    · exact absurd h1 k1
    · exact ⟨rfl, rfl⟩
    · exact absurd k2 h2
  · rcases k with ⟨k1, _⟩ | ⟨k1, k2, _⟩ | ⟨k1, k2, d, hd, k3⟩
    · exact absurd h1 k1
    · exact absurd h2 k2
    · rw [hb] at hd
      cases hd
      rcases h3 with ⟨e1, rfl, rfl⟩ | ⟨e1, rfl, rfl⟩
      · rcases k3 with ⟨f1, rfl, rfl⟩ | ⟨f1, _⟩
        · exact ⟨rfl, rfl⟩
        · exact absurd e1 f1
      · rcases k3 with ⟨f1, _⟩ | ⟨f1, rfl, rfl⟩
        · exact absurd f1 e1
        · exact ⟨rfl, rfl⟩

theorem ccBs_set (m : CC) (n k : Nat) (x : Int) (hk : k < n) : ccBs ((m.setWear k x).setPages k (fun _ => zeroPg)) n = (ccBs m n).set k ⟨x, zeroBk.pages⟩ := by
  apply List.ext_getElem?
  intro i
  rw [List.getElem?_set]
  by_cases hi : i < n
  · rw [ccBs_at _ hi, ccBs_at _ hi]
    by_cases e : k = i
    · subst e
      rw [if_pos rfl, if_pos (by rw [ccBs_length]; exact hi)]
      simp [CC.setWear, CC.setPages, ccPs, zeroBk]
    · rw [if_neg e]
      have e' : ¬ i = k := fun x => e x.symm
      simp [CC.setWear, CC.setPages, ccPs, e']
  · rw [List.getElem?_eq_none (by rw [ccBs_length]; omega), List.getElem?_eq_none (by rw [ccBs_length]; omega), if_neg (by omega)]

/-- erased, whatever the block: the cells m2 and the code. -/
theorem erased_any (bs : List Bk) (hok : ChipOk bs) (m : CC) (hct : m.count = bs.length) (hbs : ccBs m bs.length = bs) (blk : Int) (w : World) :
    Calls Tryz.prog 207 #[.agg (ccA m), .int .i64 blk] w fun e w' => ∃ m2 code, e = .returned (.tuple #[.agg (ccA m2), .int .i64 code]) ∧ m2.count = bs.length ∧ ErasedIs bs blk (ccBs m2 bs.length) code ∧ Below w.heap.size w w' := by
  have hc := hok.count
  by_cases hin : InB bs blk
  · obtain ⟨k, rfl⟩ := Int.eq_ofNat_of_zero_le hin.1
    have hkl : k < bs.length := by have := hin.2; omega
    have hbk : bs[k]? = some ⟨m.wear k, ccPs m k⟩ := by have := ccBs_at m hkl; rwa [hbs] at this
    have hw := (hok.block _ (List.mem_of_getElem? hbk)).wear
    refine (erased_in m bs.length hct hc.2 k hkl hw.1 hw.2 w).mono ?_
    rintro e w' ⟨⟨hx, rfl⟩ | ⟨hx, rfl⟩, hB⟩
    · exact ⟨m, 4, rfl, hct, .inr (.inr ⟨hok, hin, _, by simpa using hbk, .inl ⟨hx, hbs, rfl⟩⟩), hB⟩
    · refine ⟨_, 0, rfl, hct, .inr (.inr ⟨hok, hin, _, by simpa using hbk, .inr ⟨hx, ?_, rfl⟩⟩), hB⟩
      rw [ccBs_set m _ k _ hkl, hbs]
      rfl
  · refine (erased_out m bs.length hct hc.2 blk hin w).mono ?_
    rintro e w' ⟨rfl, hB⟩
    exact ⟨m, 2, rfl, hct, .inr (.inl ⟨hok, hin, hbs, rfl⟩), hB⟩

end Go.Proofs.YtjgcjeaplckbbaaGreatDoor

/- What Programmed answers, in plain lists. No program is named here. -/
namespace Go.Proofs.YtjgcjeaplckbbaaGreatDoor
open Go.RowKit
set_option linter.unusedVariables false
set_option linter.unusedSimpArgs false

/-- The page may be programmed into the block, as far as its form goes. -/
def ProgOk (bs : List Bk) (blk : Int) (p : Pg) : Prop := InB bs blk ∧ rightUsed p = true ∧ p.seq ∉ seqs bs

def ProgIs (bs : List Bk) (blk : Int) (p : Pg) (out : List Bk) (code : Int) : Prop :=
  (¬ ChipOk bs ∧ out = [] ∧ code = 1) ∨ (ChipOk bs ∧ ¬ ProgOk bs blk p ∧ out = bs ∧ code = 2) ∨
  (ChipOk bs ∧ ProgOk bs blk p ∧ ∃ b r, bs[blk.toNat]? = some b ∧ NextIs (fun k => (pagesF b.pages k).used) 4 r ∧ ((r < 0 ∧ out = bs ∧ code = 3) ∨ (0 ≤ r ∧ out = bs.set blk.toNat ⟨b.wear, b.pages.set r.toNat p⟩ ∧ code = 0)))

theorem ProgIs.one {bs : List Bk} {blk : Int} {p : Pg} {o1 o2 : List Bk} {c1 c2 : Int} (h : ProgIs bs blk p o1 c1) (k : ProgIs bs blk p o2 c2) : o1 = o2 ∧ c1 = c2 := by
  rcases h with ⟨h1, rfl, rfl⟩ | ⟨h1, h2, rfl, rfl⟩ | ⟨h1, h2, b, r, hb, hr, h3⟩
  · rcases k with ⟨k1, rfl, rfl⟩ | ⟨k1, _⟩ | ⟨k1, _⟩
    · exact ⟨rfl, rfl⟩
    · exact absurd k1 h1
    · exact absurd k1 h1
  · rcases k with ⟨k1, _⟩ | ⟨k1, k2, rfl, rfl⟩ | ⟨k1, k2, _⟩
    · exact absurd h1 k1
    · exact ⟨rfl, rfl⟩
    · exact absurd k2 h2
  · rcases k with ⟨k1, _⟩ | ⟨k1, k2, _⟩ | ⟨k1, k2, d, q, hd, hq, k3⟩
    · exact absurd h1 k1
    · exact absurd h2 k2
    · rw [hb] at hd
      cases hd
      obtain rfl := hr.one hq
      rcases h3 with ⟨e1, rfl, rfl⟩ | ⟨e1, rfl, rfl⟩
      · rcases k3 with ⟨f1, rfl, rfl⟩ | ⟨f1, _⟩
        · exact ⟨rfl, rfl⟩
        · omega
      · rcases k3 with ⟨f1, _⟩ | ⟨f1, rfl, rfl⟩
        · omega
        · exact ⟨rfl, rfl⟩

theorem ProgIs.lens {bs : List Bk} {blk : Int} {p : Pg} {out : List Bk} {code : Int} (h : ProgIs bs blk p out code) (hn : Lens 1048576 bs) : Lens 1048576 out := by
  rcases h with ⟨_, rfl, _⟩ | ⟨_, _, rfl, _⟩ | ⟨_, _, b, r, hb, _, ⟨_, rfl, _⟩ | ⟨_, rfl, _⟩⟩
  · exact ⟨by simp, fun b hb => by simp at hb⟩
  · exact hn
  · exact hn
  · refine ⟨by rw [List.length_set]; exact hn.1, fun c hc => ?_⟩
    rcases List.mem_or_eq_of_mem_set hc with h1 | rfl
    · exact hn.2 c h1
    · show (b.pages.set r.toNat p).length ≤ _
      rw [List.length_set]
      exact hn.at hb

/-- A page is put into a block's cells. -/
def CC.putPage (m : CC) (b j : Nat) (p : Pg) : CC := m.setPages b (fun i => if i = j then p else m.page b i)

theorem ccA_putPage (m : CC) (b j : Nat) (p : Pg) (hb : b < 12) (hj : j < 4) :
    ((((ccA m).setIfInBounds (1 + b * 17 + 1 + j * 4) (.bool p.used)).setIfInBounds (1 + b * 17 + 1 + j * 4 + 1) (.int .i64 p.log)).setIfInBounds (1 + b * 17 + 1 + j * 4 + 2) (.int .i64 p.seq)).setIfInBounds (1 + b * 17 + 1 + j * 4 + 3) (.string p.data) = ccA (m.putPage b j p) := by
  apply Array.ext_getElem?
  intro i
  by_cases hi : i < 205
  · rw [ccA_get _ hi]
    simp only [Array.getElem?_setIfInBounds, Array.size_setIfInBounds, ccA_size]
    have hF : ¬ (1 + b * 17 + 1 + j * 4 ≤ i ∧ i < 1 + b * 17 + 1 + j * 4 + 4) → ccF (m.putPage b j p) i = ccF m i := by
      intro hn
      unfold ccF CC.putPage CC.setPages
      by_cases h0 : i = 0
      · simp [h0]
      · simp only [if_neg h0]
        by_cases h1 : (i - 1) % 17 = 0
        · simp only [if_pos h1]
        · simp only [if_neg h1]
          by_cases h2 : (i - 1) / 17 = b
          · have h3 : ¬ ((i - 1) % 17 - 1) / 4 = j := by omega
            simp [h2, h3]
          · simp [h2]
    have hT : ∀ t, t < 4 → i = 1 + b * 17 + 1 + j * 4 + t → ccF (m.putPage b j p) i = pgV p t := by
      intro t ht e
      subst e
      unfold ccF CC.putPage CC.setPages
      have h0 : ¬ 1 + b * 17 + 1 + j * 4 + t = 0 := by omega
      have e9 : 1 + b * 17 + 1 + j * 4 + t - 1 = 17 * b + (1 + j * 4 + t) := by omega
      have e8 : (17 * b + (1 + j * 4 + t)) % 17 = 1 + j * 4 + t := by rw [Nat.mul_add_mod, Nat.mod_eq_of_lt (by omega)]
      have h1 : ¬ (1 + b * 17 + 1 + j * 4 + t - 1) % 17 = 0 := by rw [e9, e8]; omega
      have h2 : (1 + b * 17 + 1 + j * 4 + t - 1) / 17 = b := by rw [e9, Nat.mul_add_div (by omega), Nat.div_eq_of_lt (by omega)]; rfl
      have h3 : ((1 + b * 17 + 1 + j * 4 + t - 1) % 17 - 1) / 4 = j := by rw [e9, e8]; omega
      have h4 : ((1 + b * 17 + 1 + j * 4 + t - 1) % 17 - 1) % 4 = t := by rw [e9, e8]; omega
      simp only [if_neg h0, if_neg h1, h2, h3, h4, if_true]
    by_cases e3 : 1 + b * 17 + 1 + j * 4 + 3 = i
    · rw [if_pos e3, if_pos (by omega), hT 3 (by omega) e3.symm]; rfl
    · rw [if_neg e3]
      by_cases e2 : 1 + b * 17 + 1 + j * 4 + 2 = i
      · rw [if_pos e2, if_pos (by omega), hT 2 (by omega) e2.symm]; rfl
      · rw [if_neg e2]
        by_cases e1 : 1 + b * 17 + 1 + j * 4 + 1 = i
        · rw [if_pos e1, if_pos (by omega), hT 1 (by omega) e1.symm]; rfl
        · rw [if_neg e1]
          by_cases e0 : 1 + b * 17 + 1 + j * 4 = i
          · rw [if_pos e0, if_pos (by omega), hT 0 (by omega) e0.symm]; rfl
          · rw [if_neg e0, ccA_get _ hi, hF (by omega)]
  · rw [Array.getElem?_eq_none (by simp [ccA_size]; omega), Array.getElem?_eq_none (by simp [ccA_size]; omega)]

theorem ccBs_putPage (m : CC) (n k j : Nat) (p : Pg) (hk : k < n) (hj : j < 4) : ccBs (m.putPage k j p) n = (ccBs m n).set k ⟨m.wear k, (ccPs m k).set j p⟩ := by
  apply List.ext_getElem?
  intro i
  rw [List.getElem?_set]
  by_cases hi : i < n
  · rw [ccBs_at _ hi, ccBs_at _ hi]
    by_cases e : k = i
    · subst e
      rw [if_pos rfl, if_pos (by rw [ccBs_length]; exact hi)]
      have h4 : j = 0 ∨ j = 1 ∨ j = 2 ∨ j = 3 := by omega
      rcases h4 with rfl | rfl | rfl | rfl <;> simp [CC.putPage, CC.setPages, ccPs]
    · rw [if_neg e]
      have e' : ¬ i = k := fun x => e x.symm
      simp [CC.putPage, CC.setPages, ccPs, e']
  · rw [List.getElem?_eq_none (by rw [ccBs_length]; omega), List.getElem?_eq_none (by rw [ccBs_length]; omega), if_neg (by omega)]

end Go.Proofs.YtjgcjeaplckbbaaGreatDoor

/- Ops done one by one, as plain lists say it; a right chip stays one. No program is named here. -/
namespace Go.Proofs.YtjgcjeaplckbbaaGreatDoor
open Go.RowKit
set_option linter.unusedVariables false
set_option linter.unusedSimpArgs false

theorem seqs_split {bs : List Bk} {i : Nat} {b : Bk} (h : bs[i]? = some b) : seqs bs = seqs (bs.take i) ++ (seqsP b.pages ++ seqs (bs.drop (i + 1))) := by
  obtain ⟨hi, rfl⟩ := List.getElem?_eq_some_iff.1 h
  have e : bs = bs.take i ++ (bs[i] :: bs.drop (i + 1)) := by simp
  conv => lhs; rw [e]
  rw [seqs_append]
  rfl
theorem seqs_set {bs : List Bk} {i : Nat} {b c : Bk} (h : bs[i]? = some b) : seqs (bs.set i c) = seqs (bs.take i) ++ (seqsP c.pages ++ seqs (bs.drop (i + 1))) := by
  have hi := (List.getElem?_eq_some_iff.1 h).1
  have h2 : (bs.set i c)[i]? = some c := by simp [hi]
  rw [seqs_split h2]
  have e1 : (bs.set i c).take i = bs.take i := by rw [List.take_set]; exact List.set_eq_of_length_le (by simp; omega)
  have e2 : (bs.set i c).drop (i + 1) = bs.drop (i + 1) := by rw [List.drop_set]; simp
  rw [e1, e2]
theorem seqsP_split {ps : List Pg} {r : Nat} {q : Pg} (h : ps[r]? = some q) : seqsP ps = seqsP (ps.take r) ++ ((if q.used then [q.seq] else []) ++ seqsP (ps.drop (r + 1))) := by
  obtain ⟨hi, rfl⟩ := List.getElem?_eq_some_iff.1 h
  have e : ps = ps.take r ++ ([ps[r]] ++ ps.drop (r + 1)) := by simp
  conv => lhs; rw [e]
  rw [seqsP_append, seqsP_append]
  congr 2
  by_cases hu : ps[r].used <;> simp [seqsP, hu]
theorem seqsP_set {ps : List Pg} {r : Nat} {q p : Pg} (h : ps[r]? = some q) (hp : p.used = true) : seqsP (ps.set r p) = seqsP (ps.take r) ++ (p.seq :: seqsP (ps.drop (r + 1))) := by
  have hi := (List.getElem?_eq_some_iff.1 h).1
  have h2 : (ps.set r p)[r]? = some p := by simp [hi]
  rw [seqsP_split h2]
  have e1 : (ps.set r p).take r = ps.take r := by rw [List.take_set]; exact List.set_eq_of_length_le (by simp; omega)
  have e2 : (ps.set r p).drop (r + 1) = ps.drop (r + 1) := by rw [List.drop_set]; simp
  rw [e1, e2, hp]
  rfl

theorem chipOk_set {bs : List Bk} (h : ChipOk bs) {i : Nat} {b c : Bk} (hb : bs[i]? = some b) (hc : BkOk c) (hn : (seqs (bs.set i c)).Nodup) : ChipOk (bs.set i c) := by
  refine ⟨by rw [List.length_set]; exact h.count, fun x hx => ?_, hn⟩
  rcases List.mem_or_eq_of_mem_set hx with h1 | rfl
  · exact h.block x h1
  · exact hc
theorem ErasedIs.ok {bs : List Bk} {blk : Int} {out : List Bk} {code : Int} (h : ErasedIs bs blk out code) (hok : ChipOk bs) : ChipOk out := by
  rcases h with ⟨h1, _⟩ | ⟨_, _, rfl, _⟩ | ⟨_, _, b, hb, ⟨_, rfl, _⟩ | ⟨hw, rfl, _⟩⟩
  · exact absurd hok h1
  · exact hok
  · exact hok
  · have hbk := hok.block b (List.mem_of_getElem? hb)
    refine chipOk_set hok hb ⟨?_, rfl, fun k p hp => ?_, fun k p q hq hp hu => ?_⟩ ?_
    · have := hbk.wear
      show 0 ≤ b.wear + 1 ∧ b.wear + 1 ≤ 1000000000
      omega
    · have hm := List.mem_of_getElem? hp
      simp [zeroBk] at hm
      rw [hm]; rfl
    · have hm := List.mem_of_getElem? hp
      simp [zeroBk] at hm
      rw [hm] at hu
      cases hu
    · rw [seqs_set hb]
      have e : seqsP zeroBk.pages = [] := rfl
      have h2 := hok.nodup
      rw [seqs_split hb] at h2
      refine List.Sublist.nodup (List.Sublist.append_left ?_ _) h2
      show (seqsP zeroBk.pages ++ seqs (bs.drop (blk.toNat + 1))).Sublist _
      rw [e]
      exact List.sublist_append_right _ _
theorem ProgIs.ok {bs : List Bk} {blk : Int} {p : Pg} {out : List Bk} {code : Int} (h : ProgIs bs blk p out code) (hok : ChipOk bs) : ChipOk out := by
  rcases h with ⟨h1, _⟩ | ⟨_, _, rfl, _⟩ | ⟨_, hP, b, r, hb, hr, ⟨_, rfl, _⟩ | ⟨hr0, rfl, _⟩⟩
  · exact absurd hok h1
  · exact hok
  · exact hok
  · have hbk := hok.block b (List.mem_of_getElem? hb)
    rcases hr with ⟨k, hk, rfl, hu, hall⟩ | ⟨rfl, _⟩
    · have h4 := hbk.four
      obtain ⟨q, hq⟩ := getElem?_ex (l := b.pages) (k := k) (by omega)
      have hqu : q.used = false := by simpa [pagesF, hq] using hu
      have hru := hP.2.1
      have hpu : p.used = true := by unfold rightUsed at hru; simp at hru; exact hru.1.1.1
      have hkn : ((k : Int)).toNat = k := by simp
      rw [hkn]
      refine chipOk_set hok hb ⟨hbk.wear, by simpa using h4, fun j x hx => ?_, fun j x y hy hx hxu => ?_⟩ ?_
      · simp only [List.getElem?_set] at hx
        split at hx
        · split at hx
          · cases hx
            unfold pgOk
            rw [hpu]
            exact hru
          · cases hx
        · exact hbk.page j x hx
      · simp only [List.getElem?_set] at hx hy
        by_cases e1 : k = j
        · subst e1
          rw [if_pos rfl] at hy
          split at hy
          · cases hy; exact hpu
          · cases hy
        · rw [if_neg e1] at hy
          by_cases e2 : k = j + 1
          · have hj := hall j (by omega)
            simpa [pagesF, hy] using hj
          · rw [if_neg e2] at hx
            exact hbk.order j x y hy hx hxu
      · rw [seqs_set hb]
        show (seqs (bs.take blk.toNat) ++ (seqsP (b.pages.set k p) ++ seqs (bs.drop (blk.toNat + 1)))).Nodup
        rw [seqsP_set hq hpu]
        have h2 := hok.nodup
        have hnot := hP.2.2
        rw [seqs_split hb, seqsP_split hq, hqu] at h2 hnot
        simp only [Bool.false_eq_true, if_false, List.nil_append, List.append_assoc] at h2 hnot
        simp only [List.append_assoc, List.cons_append]
        have e : (seqs (bs.take blk.toNat) ++ (seqsP (b.pages.take k) ++ (p.seq :: (seqsP (b.pages.drop (k + 1)) ++ seqs (bs.drop (blk.toNat + 1)))))).Perm (p.seq :: (seqs (bs.take blk.toNat) ++ (seqsP (b.pages.take k) ++ (seqsP (b.pages.drop (k + 1)) ++ seqs (bs.drop (blk.toNat + 1)))))) := by
          rw [← List.append_assoc, ← List.append_assoc]
          exact List.perm_middle
        exact e.nodup_iff.2 (List.nodup_cons.2 ⟨hnot, h2⟩)
    · omega

/-- One op is done. -/
def OpStep (bs : List Bk) (x : Opn) (out : List Bk) : Prop := (x.kind = 1 ∧ ProgIs bs x.block x.page out 0) ∨ (x.kind = 2 ∧ ErasedIs bs x.block out 0 ∧ isZero x.page = true)
theorem OpStep.one {bs : List Bk} {x : Opn} {o1 o2 : List Bk} (h : OpStep bs x o1) (k : OpStep bs x o2) : o1 = o2 := by
  rcases h with ⟨h1, h2⟩ | ⟨h1, h2, _⟩
  · rcases k with ⟨_, k2⟩ | ⟨k1, _⟩
    · exact (h2.one k2).1
    · omega
  · rcases k with ⟨k1, _⟩ | ⟨_, k2, _⟩
    · omega
    · exact (h2.one k2).1
theorem OpStep.ok {bs : List Bk} {x : Opn} {out : List Bk} (h : OpStep bs x out) : ChipOk bs ∧ ChipOk out := by
  rcases h with ⟨_, h2⟩ | ⟨_, h2, _⟩
  · have hok : ChipOk bs := by
      rcases h2 with ⟨_, _, h⟩ | ⟨h, _⟩ | ⟨h, _⟩
      · omega
      · exact h
      · exact h
    exact ⟨hok, h2.ok hok⟩
  · have hok : ChipOk bs := by
      rcases h2 with ⟨_, _, h⟩ | ⟨h, _⟩ | ⟨h, _⟩
      · omega
      · exact h
      · exact h
    exact ⟨hok, h2.ok hok⟩
/-- All ops are done, one behind the other. -/
def Runs : List Bk → List Opn → List Bk → Prop
  | bs, [], out => out = bs
  | bs, x :: xs, out => ∃ mid, OpStep bs x mid ∧ Runs mid xs out
theorem Runs.one {xs : List Opn} : ∀ {bs o1 o2 : List Bk}, Runs bs xs o1 → Runs bs xs o2 → o1 = o2 := by
  induction xs with
  | nil => intro bs o1 o2 h k; exact h.trans k.symm
  | cons x xs ih =>
    rintro bs o1 o2 ⟨m1, h1, h2⟩ ⟨m2, k1, k2⟩
    obtain rfl := h1.one k1
    exact ih h2 k2
theorem runs_snoc {xs : List Opn} {x : Opn} : ∀ {bs out : List Bk}, Runs bs (xs ++ [x]) out ↔ ∃ mid, Runs bs xs mid ∧ OpStep mid x out := by
  induction xs with
  | nil =>
    intro bs out
    constructor
    · rintro ⟨mid, h1, h2⟩; cases h2; exact ⟨bs, rfl, h1⟩
    · rintro ⟨mid, h1, h2⟩; cases h1; exact ⟨out, h2, rfl⟩
  | cons y ys ih =>
    intro bs out
    constructor
    · rintro ⟨m1, h1, h2⟩
      obtain ⟨m2, h3, h4⟩ := ih.1 h2
      exact ⟨m2, ⟨m1, h1, h3⟩, h4⟩
    · rintro ⟨m2, ⟨m1, h1, h3⟩, h4⟩
      exact ⟨m1, h1, ih.2 ⟨m2, h3, h4⟩⟩
theorem Runs.split {xs ys : List Opn} : ∀ {bs out : List Bk}, Runs bs (xs ++ ys) out → ∃ mid, Runs bs xs mid ∧ Runs mid ys out := by
  induction xs with
  | nil => intro bs out h; exact ⟨bs, rfl, h⟩
  | cons x xs ih =>
    rintro bs out ⟨m, h1, h2⟩
    obtain ⟨m2, h3, h4⟩ := ih h2
    exact ⟨m2, ⟨m, h1, h3⟩, h4⟩
theorem Runs.ok {xs : List Opn} : ∀ {bs out : List Bk}, Runs bs xs out → ChipOk bs → ChipOk out := by
  induction xs with
  | nil => intro bs out h hok; cases h; exact hok
  | cons x xs ih => rintro bs out ⟨m, h1, h2⟩ hok; exact ih h2 h1.ok.2
/-- What Did answers. -/
def DidIs (bs : List Bk) (xs : List Opn) (out : List Bk) (r : Bool) : Prop :=
  (r = true ∧ ChipOk bs ∧ xs.length ≤ 20 ∧ Runs bs xs out) ∨ (r = false ∧ out = [] ∧ ¬ (ChipOk bs ∧ xs.length ≤ 20 ∧ ∃ o, Runs bs xs o))
theorem DidIs.one {bs : List Bk} {xs : List Opn} {o1 o2 : List Bk} {r1 r2 : Bool} (h : DidIs bs xs o1 r1) (k : DidIs bs xs o2 r2) : o1 = o2 ∧ r1 = r2 := by
  rcases h with ⟨rfl, h1, h2, h3⟩ | ⟨rfl, rfl, h1⟩
  · rcases k with ⟨rfl, _, _, k3⟩ | ⟨_, _, k1⟩
    · exact ⟨h3.one k3, rfl⟩
    · exact absurd ⟨h1, h2, _, h3⟩ k1
  · rcases k with ⟨_, k1, k2, k3⟩ | ⟨rfl, rfl, _⟩
    · exact absurd ⟨k1, k2, _, k3⟩ h1
    · exact ⟨rfl, rfl⟩
theorem lens_of_ok {bs : List Bk} (h : ChipOk bs) : Lens 1048576 bs := ⟨by have := h.count; omega, fun b hb => by rw [(h.block b hb).four]; omega⟩
end Go.Proofs.YtjgcjeaplckbbaaGreatDoor

/- The ops of a write are none that a chip refuses: in plain lists. No program is named here. -/
namespace Go.Proofs.YtjgcjeaplckbbaaGreatDoor
open Go.RowKit
set_option linter.unusedVariables false
set_option linter.unusedSimpArgs false

-- the victim has the fewest
theorem vicTo_min {bs : List Bk} {L : List Int} {o : Int} : ∀ (k : Nat), ∀ (i : Nat) (x : Bk), i < k → bs[i]? = some x → (i : Int) ≠ o → fullB x = true → validIn L (vicTo bs L o k) ≤ validIn L (i : Int) := by
  intro k
  induction k with
  | zero => intro i x hi; omega
  | succ k ih =>
    intro i x hi hx hn hf
    by_cases e : i = k
    · subst e
      by_cases hb : beats bs L (vicTo bs L o i) (i : Int) x.wear = true
      · rw [vicTo_take hx hn hf hb]; exact Nat.le_refl _
      · rw [vicTo_keep hx hn hf (by simpa using hb)]
        have h2 : ¬ validIn L (i : Int) < validIn L (vicTo bs L o i) := fun h => hb (beats_few h)
        omega
    · have h1 := ih i x (by omega) hx hn hf
      have h0 := vicTo_full (L := L) hx hn hf k (by omega)
      cases hk : bs[k]? with
      | none =>
        rw [vicTo_succ]; unfold vicStep; rw [hk]; exact h1
      | some y =>
        by_cases hs : (k : Int) = o ∨ fullB y = false
        · rw [vicTo_skip hk hs]; exact h1
        · have hn2 : (k : Int) ≠ o := fun h => hs (.inl h)
          have hf2 : fullB y = true := by cases h : fullB y with
            | true => rfl
            | false => exact absurd (.inr h) hs
          by_cases hb : beats bs L (vicTo bs L o k) (k : Int) y.wear = true
          · rw [vicTo_take hk hn2 hf2 hb]
            have : validIn L (k : Int) ≤ validIn L (vicTo bs L o k) := by
              unfold beats at hb
              simp only [Bool.or_eq_true, Bool.and_eq_true, decide_eq_true_eq] at hb
              rcases hb with (h | h) | h
              · omega
              · omega
              · omega
            omega
          · rw [vicTo_keep hk hn2 hf2 (by simpa using hb)]; exact h1
-- how many places are named in all
def sumTo (f : Nat → Nat) : Nat → Nat
  | 0 => 0
  | k + 1 => sumTo f k + f k
theorem sumTo_le {f g : Nat → Nat} : ∀ n, (∀ i, i < n → f i ≤ g i) → sumTo f n ≤ sumTo g n := by
  intro n
  induction n with
  | zero => intro _; exact Nat.le_refl _
  | succ n ih => intro h; have := ih (fun i hi => h i (by omega)); have := h n (by omega); simp only [sumTo]; omega
theorem sumTo_add {f g : Nat → Nat} : ∀ n, sumTo (fun i => f i + g i) n = sumTo f n + sumTo g n := by
  intro n
  induction n with
  | zero => rfl
  | succ n ih => simp only [sumTo]; omega
theorem sumTo_zero : ∀ n, sumTo (fun _ => 0) n = 0 := by
  intro n
  induction n with
  | zero => rfl
  | succ n ih => simp only [sumTo]; omega
theorem sumTo_one (x : Int) : ∀ n, sumTo (fun i => if hit (i : Int) x = true then 1 else 0) n ≤ 1 := by
  suffices H : ∀ n, sumTo (fun i => if hit (i : Int) x = true then 1 else 0) n ≤ (if 0 ≤ x ∧ x / 4 < (n : Int) then 1 else 0) by
    intro n; have := H n; split at this <;> omega
  intro n
  induction n with
  | zero => simp [sumTo]
  | succ n ih =>
    simp only [sumTo]
    have e : (hit (n : Int) x = true) ↔ (0 ≤ x ∧ x / 4 = (n : Int)) := by simp [hit]
    by_cases h : hit (n : Int) x = true
    · rw [if_pos h]
      have h2 := e.1 h
      have h3 : ¬ (0 ≤ x ∧ x / 4 < (n : Int)) := by omega
      rw [if_neg h3] at ih
      rw [if_pos (by omega)]
      omega
    · rw [if_neg h]
      have h2 : ¬ (0 ≤ x ∧ x / 4 = (n : Int)) := fun k => h (e.2 k)
      split at ih
      · rw [if_pos (by omega)]; omega
      · omega
theorem validIn_sum (L : List Int) (n : Nat) : sumTo (fun i => validIn L (i : Int)) n ≤ L.length := by
  induction L with
  | nil => have : (fun i : Nat => validIn [] (i : Int)) = fun _ => 0 := rfl
           rw [this, sumTo_zero]; simp
  | cons x L ih =>
    have e : (fun i : Nat => validIn (x :: L) (i : Int)) = fun i : Nat => validIn L (i : Int) + (if hit (i : Int) x = true then 1 else 0) := by
      funext i
      unfold validIn
      by_cases h : hit (i : Int) x = true
      · rw [List.filter_cons_of_pos h, if_pos h]; rfl
      · rw [List.filter_cons_of_neg h, if_neg h]; rfl
    rw [e, sumTo_add, List.length_cons]
    have := sumTo_one x n
    omega
theorem sumTo_but (f : Nat) (c : Nat) : ∀ n, sumTo (fun i => if i = f then 0 else c) n = if f < n then (n - 1) * c else n * c := by
  intro n
  induction n with
  | zero => simp [sumTo]
  | succ n ih =>
    simp only [sumTo, ih]
    by_cases h1 : f < n
    · rw [if_pos h1, if_neg (by omega), if_pos (by omega)]
      obtain ⟨k, rfl⟩ : ∃ k, n = k + 1 := ⟨n - 1, by omega⟩
      rw [Nat.add_sub_cancel, Nat.add_sub_cancel, Nat.add_mul]
      omega
    · rw [if_neg h1]
      by_cases h2 : n = f
      · rw [if_pos h2, if_pos (by omega)]; simp
      · rw [if_neg h2, if_neg (by omega), Nat.add_mul]; omega
-- how many pages are moved
def cnt (L : List Int) (x : Int) : Nat := (L.filter fun y => decide (y = x)).length
theorem cnt_pos {L : List Int} {x : Int} (h : x ∈ L) : 1 ≤ cnt L x := by
  unfold cnt
  exact List.length_pos_iff.2 (fun e => by
    have : x ∈ L.filter fun y => decide (y = x) := List.mem_filter.2 ⟨h, by simp⟩
    rw [e] at this
    simp at this)
theorem cnt_cons (L : List Int) (y x : Int) : cnt (y :: L) x = cnt L x + if y = x then 1 else 0 := by
  unfold cnt
  by_cases h : y = x
  · rw [List.filter_cons_of_pos (by simpa using h), if_pos h]; rfl
  · rw [List.filter_cons_of_neg (by simpa using h), if_neg h]; rfl
theorem cnt_valid (L : List Int) (v : Int) (hv : 0 ≤ v) : cnt L (v * 4 + 0) + cnt L (v * 4 + 1) + cnt L (v * 4 + 2) + cnt L (v * 4 + 3) = validIn L v := by
  induction L with
  | nil => rfl
  | cons x L ih =>
    simp only [cnt_cons]
    have e : validIn (x :: L) v = validIn L v + if hit v x = true then 1 else 0 := by
      unfold validIn
      by_cases h : hit v x = true
      · rw [List.filter_cons_of_pos h, if_pos h]; rfl
      · rw [List.filter_cons_of_neg h, if_neg h]; rfl
    have e2 : (hit v x = true) ↔ (0 ≤ x ∧ x / 4 = v) := by simp [hit]
    rw [e, ← ih]
    by_cases h : hit v x = true
    · have h2 := e2.1 h
      rw [if_pos h]
      split <;> split <;> split <;> split <;> omega
    · have h2 : ¬ (0 ≤ x ∧ x / 4 = v) := fun k => h (e2.2 k)
      rw [if_neg h]
      split <;> split <;> split <;> split <;> omega
theorem moved_few {bs : List Bk} {L : List Int} {seq o into s : Int} (h : FtlOk bs L seq o) {v : Int} (hv : 0 ≤ v) : (movedTo bs L v into s 4).length ≤ validIn L v := by
  have st : ∀ k, k < 4 → (movedTo bs L v into s (k + 1)).length ≤ (movedTo bs L v into s k).length + cnt L (v * 4 + (k : Int)) := by
    intro k hk
    simp only [movedTo, List.length_append]
    have hm := h.moves hv hk
    by_cases hx : (v * 4 + (k : Int)) ∈ L
    · have := cnt_pos hx
      split <;> simp <;> omega
    · rw [hm]
      simp [hx]
  have s0 : (movedTo bs L v into s 1).length ≤ (movedTo bs L v into s 0).length + cnt L (v * 4 + 0) := st 0 (by omega)
  have s1 : (movedTo bs L v into s 2).length ≤ (movedTo bs L v into s 1).length + cnt L (v * 4 + 1) := st 1 (by omega)
  have s2 : (movedTo bs L v into s 3).length ≤ (movedTo bs L v into s 2).length + cnt L (v * 4 + 2) := st 2 (by omega)
  have s3 : (movedTo bs L v into s 4).length ≤ (movedTo bs L v into s 3).length + cnt L (v * 4 + 3) := st 3 (by omega)
  have hc := cnt_valid L v hv
  have z : (movedTo bs L v into s 0).length = 0 := rfl
  omega
/-- The victim has a page at least that is not the newest of its log. -/
theorem FtlOk.victimFew {bs : List Bk} {L : List Int} {seq o : Int} (h : FtlOk bs L seq o) {x : Bk} (hx : bs[o.toNat]? = some x) (hf : fullB x = true) (hal : freshOf bs (freshOf bs (-1)) < 0) :
    validIn L (vicOf bs L (freshOf bs (-1))) ≤ 3 ∧ ∃ (v : Nat) (y : Bk), vicOf bs L (freshOf bs (-1)) = (v : Int) ∧ bs[v]? = some y ∧ (v : Int) ≠ freshOf bs (-1) := by
  obtain ⟨fi, fx, hfr, hfx, hff, hfl, _⟩ := h.fresh
  have hvb := h.victim hx hf
  have hL := h.len
  have hc := h.chip.count
  have ho := h.opn
  rw [hfr] at hvb hal ⊢
  have h1 := (freshIn_neg (bs := bs) (but := (fi : Int)) (L := freeTo bs bs.length) (fun y hy => by obtain ⟨i, _, rfl, _⟩ := mem_freeTo hy; omega)).1 hal
  have hfull : ∀ i y, bs[i]? = some y → i ≠ fi → fullB y = true := by
    intro i y hy hn
    have hi := (List.getElem?_eq_some_iff.1 hy).1
    have hnf : freeB y = false := by
      cases hfy : freeB y with
      | false => rfl
      | true =>
        exfalso
        have hb : begun bs i = false := by rw [begun_pu hy]; unfold freeB at hfy; simpa using hfy
        have := h1 _ (freeTo_mem hi hb)
        omega
    by_cases e : (i : Int) = o
    · have e2 : o.toNat = i := by omega
      rw [e2, hy] at hx
      cases hx
      exact hf
    · have hh := h.settled.1 i y hi hy e
      unfold halfB at hh
      unfold freeB at hnf
      have hp : pu y 0 = true := by simpa using hnf
      rw [hp] at hh
      simpa using hh
  have hmin : ∀ i, i < bs.length → i ≠ fi → validIn L (vicOf bs L (fi : Int)) ≤ validIn L (i : Int) := by
    intro i hi hn
    obtain ⟨y, hy⟩ := getElem?_ex (l := bs) (k := i) hi
    exact vicTo_min bs.length i y hi hy (by omega) (hfull i y hy hn)
  have hsum := validIn_sum L bs.length
  have hle := sumTo_le (f := fun i => if i = fi then 0 else validIn L (vicOf bs L (fi : Int))) (g := fun i => validIn L (i : Int)) bs.length (fun i hi => by
    by_cases e : i = fi
    · rw [if_pos e]; exact Nat.zero_le _
    · rw [if_neg e]; exact hmin i hi e)
  rw [sumTo_but, if_pos hfl] at hle
  constructor
  · rcases Nat.lt_or_ge 3 (validIn L (vicOf bs L (fi : Int))) with hg | hg
    · exfalso
      have h4 : (bs.length - 1) * 4 ≤ (bs.length - 1) * validIn L (vicOf bs L (fi : Int)) := Nat.mul_le_mul_left _ hg
      omega
    · exact hg
  · obtain ⟨v, hv⟩ := Int.eq_ofNat_of_zero_le hvb.1
    obtain ⟨y, hy⟩ := getElem?_ex (l := bs) (k := v) (by omega)
    refine ⟨v, y, hv, hy, ?_⟩
    rw [← hv]
    intro e
    have hk : ∀ k, vicTo bs L (fi : Int) k ≠ (fi : Int) := by
      intro k
      induction k with
      | zero => show (-1 : Int) ≠ _; omega
      | succ k ih =>
        rw [vicTo_succ]
        unfold vicStep
        split
        · exact ih
        · split
          · exact ih
          · rename_i hne
            split
            · exact fun e => hne (.inl e)
            · exact ih
    exact hk _ e
end Go.Proofs.YtjgcjeaplckbbaaGreatDoor

/- A write's ops run on a right member's chip: in plain lists. No program is named here. -/
namespace Go.Proofs.YtjgcjeaplckbbaaGreatDoor
open Go.RowKit
set_option linter.unusedVariables false
set_option linter.unusedSimpArgs false

theorem isZero_zero {p : Pg} (h : isZero p = true) : p = zeroPg := by
  obtain ⟨u, l, s, d⟩ := p
  unfold isZero at h
  simp only [Bool.and_eq_true, Bool.not_eq_true', decide_eq_true_eq] at h
  obtain ⟨⟨⟨rfl, rfl⟩, rfl⟩, hd⟩ := h
  have : d = ByteArray.empty := by
    obtain ⟨a⟩ := d
    have e : a = #[] := Array.eq_empty_of_size_eq_zero hd
    rw [e]; rfl
  rw [this]
  rfl
theorem free_pages {x : Bk} (h : BkOk x) (hf : freeB x = true) : x.pages = List.replicate 4 zeroPg := by
  obtain ⟨w, ps⟩ := x
  have h4 := h.four
  match ps, h4 with
  | [p0, p1, p2, p3], _ =>
    have u0 : p0.used = false := by simpa [freeB, pu, pagesF] using hf
    have o1 := h.order 0 p1 p0 rfl rfl
    have o2 := h.order 1 p2 p1 rfl rfl
    have o3 := h.order 2 p3 p2 rfl rfl
    have u1 : p1.used = false := by cases e : p1.used with
      | false => rfl
      | true => have := o1 e; rw [u0] at this; cases this
    have u2 : p2.used = false := by cases e : p2.used with
      | false => rfl
      | true => have := o2 e; rw [u1] at this; cases this
    have u3 : p3.used = false := by cases e : p3.used with
      | false => rfl
      | true => have := o3 e; rw [u2] at this; cases this
    have z : ∀ (k : Nat) (p : Pg), [p0, p1, p2, p3][k]? = some p → p.used = false → p = zeroPg := fun k p hp hu => by
      have := h.page k p hp
      unfold pgOk at this
      rw [hu] at this
      exact isZero_zero (by simpa using this)
    rw [z 0 p0 rfl u0, z 1 p1 rfl u1, z 2 p2 rfl u2, z 3 p3 rfl u3]
    rfl
def padded (ps : List Pg) : List Pg := ps ++ List.replicate (4 - ps.length) zeroPg
theorem padded_at {ps : List Pg} {k : Nat} (hk : k < ps.length) : (padded ps)[k]? = ps[k]? := by
  unfold padded; rw [List.getElem?_append_left hk]
theorem padded_rest {ps : List Pg} {k : Nat} (hk : ps.length ≤ k) (h4 : k < 4) : (padded ps)[k]? = some zeroPg := by
  unfold padded
  rw [List.getElem?_append_right hk, List.getElem?_replicate, if_pos (by omega)]
theorem next_padded {ps : List Pg} (hlt : ps.length < 4) (hu : ∀ p ∈ ps, p.used = true) : NextIs (fun k => (pagesF (padded ps) k).used) 4 (ps.length : Int) := by
  refine .inl ⟨ps.length, hlt, rfl, ?_, fun j hj => ?_⟩
  · simp only [pagesF, padded_rest (Nat.le_refl _) hlt]; rfl
  · obtain ⟨p, hp⟩ := getElem?_ex (l := ps) (k := j) hj
    simp only [pagesF, padded_at hj, hp]
    exact hu p (List.mem_of_getElem? hp)
theorem set_padded {ps : List Pg} (hlt : ps.length < 4) (p : Pg) : (padded ps).set ps.length p = padded (ps ++ [p]) := by
  unfold padded
  rw [List.set_append_right _ _ (Nat.le_refl _), Nat.sub_self]
  obtain ⟨k, hk⟩ : ∃ k, 4 - ps.length = k + 1 := ⟨3 - ps.length, by omega⟩
  have hk2 : 4 - (ps ++ [p]).length = k := by simp; omega
  rw [hk, hk2, List.replicate_succ, List.set_cons_zero]
  simp
theorem mem_usedOf {bs : List Bk} {b k : Nat} {x : Bk} {p : Pg} (hx : bs[b]? = some x) (hp : x.pages[k]? = some p) (hk : k < 4) (hu : p.used = true) : (((b : Int) * 4 + (k : Int)), p) ∈ usedOf bs := by
  have hb := (List.getElem?_eq_some_iff.1 hx).1
  unfold usedOf usedAll usedB
  simp only [List.mem_flatMap, List.mem_range]
  refine ⟨b, hb, ?_⟩
  simp only [List.mem_map, List.mem_filter, List.mem_range]
  refine ⟨k, ⟨hk, ?_⟩, ?_⟩
  · rw [mOf_page hx hp]; exact hu
  · rw [mOf_page hx hp]
theorem topOf_ge {xs : List (Int × Pg)} {x : Int × Pg} (h : x ∈ xs) : x.2.seq ≤ (topOf xs).1 := by
  suffices H : ∀ (xs : List (Int × Pg)) (c : Int × Int), c.1 ≤ (xs.foldl topStep c).1 ∧ ∀ x ∈ xs, x.2.seq ≤ (xs.foldl topStep c).1 from (H xs (0, 0)).2 x h
  intro xs
  induction xs with
  | nil => intro c; exact ⟨Int.le_refl _, fun x hx => by simp at hx⟩
  | cons y ys ih =>
    intro c
    simp only [List.foldl_cons]
    obtain ⟨h1, h2⟩ := ih (topStep c y)
    have h3 : c.1 ≤ (topStep c y).1 ∧ y.2.seq ≤ (topStep c y).1 := by
      unfold topStep
      split
      · simp only; omega
      · exact ⟨Int.le_refl _, by omega⟩
    refine ⟨by omega, fun x hx => ?_⟩
    rcases List.mem_cons.1 hx with rfl | hx
    · omega
    · exact h2 x hx
theorem ChipOk.seqs_top {bs : List Bk} (h : ChipOk bs) {s : Int} (hs : s ∈ seqs bs) : s ≤ topSeq bs := by
  obtain ⟨i, b, k, p, hb, hp, hu, rfl⟩ := seqs_mem hs
  have hk : k < 4 := by have := (List.getElem?_eq_some_iff.1 hp).1; have := (h.block b (List.mem_of_getElem? hb)).four; omega
  exact topOf_ge (mem_usedOf hb hp hk hu)
theorem seqs_set_mem {bs : List Bk} {f : Nat} {c : Bk} {s : Int} (h : s ∈ seqs (bs.set f c)) : s ∈ seqs bs ∨ ∃ p ∈ c.pages, p.used = true ∧ p.seq = s := by
  obtain ⟨i, b, k, p, hb, hp, hu, rfl⟩ := seqs_mem h
  by_cases e : i = f
  · subst e
    rw [List.getElem?_set] at hb
    simp at hb
    obtain ⟨_, rfl⟩ := hb
    exact .inr ⟨p, List.mem_of_getElem? hp, hu, rfl⟩
  · rw [List.getElem?_set_ne (fun h => e h.symm)] at hb
    exact .inl (mem_seqs hb hp hu)
/-- A page is programmed behind those of a block. -/
theorem step_prog {bs : List Bk} {f : Nat} {wf : Int} {ps : List Pg} {p : Pg} (hok : ChipOk bs) (hx : bs[f]? = some ⟨wf, padded ps⟩) (hlt : ps.length < 4) (hu : ∀ q ∈ ps, q.used = true) (hr : rightUsed p = true) (hs : ∀ s ∈ seqs bs, s < p.seq) :
    OpStep bs ⟨1, (f : Int), p⟩ (bs.set f ⟨wf, padded (ps ++ [p])⟩) := by
  have hf := (List.getElem?_eq_some_iff.1 hx).1
  refine .inl ⟨rfl, .inr (.inr ⟨hok, ⟨⟨by show (0 : Int) ≤ (f : Int); omega, by show (f : Int) ≤ _; omega⟩, hr, fun h => by have := hs _ h; exact absurd this (Int.lt_irrefl _)⟩, ⟨wf, padded ps⟩, (ps.length : Int), by simpa using hx, next_padded hlt hu, .inr ⟨by omega, ?_, rfl⟩⟩)⟩
  simp only [Int.toNat_natCast]
  rw [set_padded hlt]
/-- A block is erased. -/
theorem step_erase {bs : List Bk} {v : Nat} {y : Bk} (hok : ChipOk bs) (hy : bs[v]? = some y) (hw : y.wear ≠ 1000000000) : OpStep bs ⟨2, (v : Int), zeroPg⟩ (bs.set v ⟨y.wear + 1, zeroBk.pages⟩) := by
  have hv := (List.getElem?_eq_some_iff.1 hy).1
  refine .inr ⟨rfl, .inr (.inr ⟨hok, ⟨by show (0 : Int) ≤ (v : Int); omega, by show (v : Int) ≤ _; omega⟩, y, by simpa using hy, .inr ⟨hw, ?_, rfl⟩⟩), rfl⟩
  simp only [Int.toNat_natCast]

theorem rightUsed_seq {p : Pg} (h : rightUsed p = true) {s : Int} (h1 : 1 ≤ s) (h2 : s ≤ 1000000000) : rightUsed { p with seq := s } = true := by
  unfold rightUsed at h ⊢
  simp only [Bool.and_eq_true, decide_eq_true_eq] at h ⊢
  exact ⟨⟨h.1.1, h1, h2⟩, h.2⟩
theorem runs_moves {bs : List Bk} {L : List Int} {seq o : Int} (h : FtlOk bs L seq o) (hq : seq ≤ 999999990) {f : Nat} {x : Bk} (hx : bs[f]? = some x) (hfree : freeB x = true) {v : Nat} (hv : v < bs.length) :
    ∀ k, k ≤ 4 → Runs bs (movedTo bs L (v : Int) (f : Int) seq k) (bs.set f ⟨x.wear, padded ((movedTo bs L (v : Int) (f : Int) seq k).map (·.page))⟩) ∧ (∀ p ∈ (movedTo bs L (v : Int) (f : Int) seq k).map (·.page), p.used = true) ∧
      ∀ s ∈ seqs (bs.set f ⟨x.wear, padded ((movedTo bs L (v : Int) (f : Int) seq k).map (·.page))⟩), s < seq + ((movedTo bs L (v : Int) (f : Int) seq k).length : Int) := by
  have hf := (List.getElem?_eq_some_iff.1 hx).1
  have hxb := h.chip.block x (List.mem_of_getElem? hx)
  have hpx := free_pages hxb hfree
  have hsq := h.seq
  have htp := h.chip.top
  intro k
  induction k with
  | zero =>
    intro _
    have e : bs.set f ⟨x.wear, padded ((movedTo bs L (v : Int) (f : Int) seq 0).map (·.page))⟩ = bs := by
      have e2 : (⟨x.wear, padded ((movedTo bs L (v : Int) (f : Int) seq 0).map (·.page))⟩ : Bk) = x := by
        obtain ⟨xw, xp⟩ := x
        simp only at hpx
        rw [hpx]
        rfl
      rw [e2, ← (List.getElem?_eq_some_iff.1 hx).2]
      exact List.set_getElem_self _
    rw [e]
    refine ⟨rfl, fun p hp => by simp [movedTo] at hp, fun s hs => ?_⟩
    have := h.chip.seqs_top hs
    simp [movedTo]
    omega
  | succ k ih =>
    intro hk
    obtain ⟨i1, i2, i3⟩ := ih (by omega)
    by_cases hm : movesAt bs L (v : Int) k = true
    · have e : movedTo bs L (v : Int) (f : Int) seq (k + 1) = movedTo bs L (v : Int) (f : Int) seq k ++ [⟨1, (f : Int), { pageIn bs (v : Int) k with seq := seq + ((movedTo bs L (v : Int) (f : Int) seq k).length : Int) }⟩] := by simp [movedTo, hm]
      have hln := movedTo_length bs L (v : Int) (f : Int) seq k
      rw [e]
      obtain ⟨M, hM⟩ : ∃ M, M = movedTo bs L (v : Int) (f : Int) seq k := ⟨_, rfl⟩
      rw [← hM] at i1 i2 i3 hln ⊢
      obtain ⟨y, hy⟩ := getElem?_ex (l := bs) (k := v) hv
      have hyb := h.chip.block y (List.mem_of_getElem? hy)
      obtain ⟨p, hp⟩ := getElem?_ex (l := y.pages) (k := k) (by have := hyb.four; omega)
      have hpi := pageIn_of hy hp
      have hpu : p.used = true := by unfold movesAt at hm; rw [hpi] at hm; simp at hm; exact hm.1
      have hpr : rightUsed p = true := by have := hyb.page k p hp; unfold pgOk at this; rw [hpu] at this; simpa using this
      rw [hpi]
      have hr := rightUsed_seq hpr (s := seq + (M.length : Int)) (by omega) (by omega)
      have hst := step_prog (f := f) (wf := x.wear) (ps := M.map (·.page)) (p := { p with seq := seq + (M.length : Int) }) (i1.ok h.chip) (by simp [hf]) (by simp; omega) i2 hr i3
      rw [List.set_set] at hst
      refine ⟨runs_snoc.2 ⟨_, i1, ?_⟩, fun q hq2 => ?_, fun s hs => ?_⟩
      · simpa using hst
      · simp only [List.map_append, List.map_cons, List.map_nil, List.mem_append, List.mem_singleton] at hq2
        rcases hq2 with hq2 | rfl
        · exact i2 q hq2
        · exact hpu
      · rw [← List.set_set (a := (⟨x.wear, padded (M.map (·.page))⟩ : Bk))] at hs
        rw [List.length_append]
        rcases seqs_set_mem hs with h1 | ⟨q, hq2, hqu, rfl⟩
        · have := i3 s h1; simp; omega
        · simp only [padded, List.map_append, List.map_cons, List.map_nil, List.mem_append, List.mem_singleton] at hq2
          rcases hq2 with (hq2 | rfl) | hq2
          · have hmem : q.seq ∈ seqs (bs.set f ⟨x.wear, padded (M.map (·.page))⟩) := by
              obtain ⟨t, ht, rfl⟩ := List.getElem_of_mem hq2
              have h5 : (bs.set f (⟨x.wear, padded (M.map (·.page))⟩ : Bk))[f]? = some ⟨x.wear, padded (M.map (·.page))⟩ := by simp [hf]
              exact mem_seqs h5 (k := t) (by show (padded (M.map (·.page)))[t]? = _; rw [padded_at ht]; exact List.getElem?_eq_getElem ht) hqu
            have := i3 _ hmem
            simp
            omega
          · simp
            omega
          · have := List.eq_of_mem_replicate hq2
            rw [this] at hqu
            cases hqu
    · have e : movedTo bs L (v : Int) (f : Int) seq (k + 1) = movedTo bs L (v : Int) (f : Int) seq k := by simp [movedTo, hm]
      rw [e]
      exact ⟨i1, i2, i3⟩
theorem full_order {b : Bk} (h : BkOk b) {r : Int} (hr : NextIs (fun k => (pagesF b.pages k).used) 4 r) (h0 : 0 ≤ r) : b.pages = padded (b.pages.take r.toNat) ∧ r.toNat < 4 ∧ ∀ p ∈ b.pages.take r.toNat, p.used = true := by
  rcases hr with ⟨k, hk, rfl, h1, h2⟩ | ⟨rfl, _⟩
  · have h4 := h.four
    simp only [Int.toNat_natCast]
    have hz : ∀ j, k ≤ j → j < 4 → ∀ p, b.pages[j]? = some p → p.used = false := by
      intro j
      induction j with
      | zero =>
        intro hj _ p hp
        obtain rfl : k = 0 := by omega
        simpa [pagesF, hp] using h1
      | succ j ih =>
        intro hj hj4 p hp
        by_cases e : k = j + 1
        · subst e; simpa [pagesF, hp] using h1
        · obtain ⟨q, hq⟩ := getElem?_ex (l := b.pages) (k := j) (by omega)
          have hqf := ih (by omega) (by omega) q hq
          cases hpu : p.used with
          | false => rfl
          | true => have := h.order j p q hq hp hpu; rw [hqf] at this; cases this
    refine ⟨?_, hk, fun p hp => ?_⟩
    · refine List.ext_getElem? (fun j => ?_)
      have hl : (b.pages.take k).length = k := by rw [List.length_take]; omega
      by_cases hj : j < k
      · rw [padded_at (by omega), List.getElem?_take, if_pos hj]
      · by_cases hj4 : j < 4
        · rw [padded_rest (by omega) hj4]
          obtain ⟨q, hq⟩ := getElem?_ex (l := b.pages) (k := j) (by omega)
          have hqu := hz j (by omega) hj4 q hq
          have hpo := h.page j q hq
          unfold pgOk at hpo
          rw [hqu] at hpo
          have hq0 : q = zeroPg := isZero_zero (by simpa using hpo)
          rw [hq, hq0]
        · rw [List.getElem?_eq_none (by omega), List.getElem?_eq_none (by unfold padded; rw [List.length_append, List.length_replicate]; omega)]
    · obtain ⟨j, hj, rfl⟩ := List.getElem_of_mem hp
      have hl : (b.pages.take k).length = k := by rw [List.length_take]; omega
      have := h2 j (by omega)
      have e : b.pages[j]? = some (b.pages.take k)[j] := by rw [List.getElem_take]; exact List.getElem?_eq_getElem _
      simpa [pagesF, e] using this
  · omega
/-- The ops of a write run. -/
theorem FtlOk.runs {bs : List Bk} {L : List Int} {seq o lg : Int} {data : ByteArray} (h : FtlOk bs L seq o) (hfo : formOk bs lg data) (hro : roomy bs seq) : ∃ out, Runs bs (writeOps bs L seq o lg data) out ∧ out.length = bs.length := by
  have hop := h.opn
  have hsq := h.seq
  have htp := h.chip.top
  have hc := h.chip.count
  obtain ⟨ob, rfl⟩ := Int.eq_ofNat_of_zero_le hop.1
  obtain ⟨x, hx⟩ := getElem?_ex (l := bs) (k := ob) (by omega)
  have hx' : bs[((ob : Int)).toNat]? = some x := by simpa using hx
  have hxb := h.chip.block x (List.mem_of_getElem? hx)
  have hrm : (roomOf bs : Int) ≤ 36 := by unfold roomOf; omega
  have hright : ∀ s : Int, 1 ≤ s → s ≤ 1000000000 → rightUsed ⟨true, lg, s, data⟩ = true := fun s h1 h2 => by
    obtain ⟨f1, f2, f3⟩ := hfo
    unfold rightUsed
    simp only [Bool.and_eq_true, decide_eq_true_eq, Bool.true_and]
    exact ⟨⟨⟨f1, by omega⟩, h1, h2⟩, f3⟩
  have hs0 : ∀ s ∈ seqs bs, s < seq := fun s hs => by have := h.chip.seqs_top hs; omega
  have hro2 := hro.2
  cases hfu : fullB x with
  | false =>
    have hne : ∃ r, NextIs (pu x) 4 r ∧ 0 ≤ r := by
      have hfu2 := hfu
      unfold fullB at hfu2
      cases e0 : pu x 0 with
      | false => exact ⟨0, .inl ⟨0, by omega, rfl, e0, fun j hj => by omega⟩, by omega⟩
      | true =>
        cases e1 : pu x 1 with
        | false => exact ⟨1, .inl ⟨1, by omega, rfl, e1, fun j hj => by
            have : j = 0 := by omega
            subst this
            exact e0⟩, by omega⟩
        | true =>
          cases e2 : pu x 2 with
          | false => exact ⟨2, .inl ⟨2, by omega, rfl, e2, fun j hj => by
              have : j = 0 ∨ j = 1 := by omega
              rcases this with rfl | rfl
              · exact e0
              · exact e1⟩, by omega⟩
          | true =>
            cases e3 : pu x 3 with
            | false => exact ⟨3, .inl ⟨3, by omega, rfl, e3, fun j hj => by
                have : j = 0 ∨ j = 1 ∨ j = 2 := by omega
                rcases this with rfl | rfl | rfl
                · exact e0
                · exact e1
                · exact e2⟩, by omega⟩
            | true => rw [e0, e1, e2, e3] at hfu2; cases hfu2
    obtain ⟨r, hr, hr0⟩ := hne
    obtain ⟨e1, e2, e3⟩ := full_order hxb hr hr0
    have hl4 := hxb.four
    have hst := step_prog (f := ob) (wf := x.wear) (ps := x.pages.take r.toNat) (p := ⟨true, lg, seq, data⟩) h.chip (by rw [← e1]; exact hx) (by rw [List.length_take]; omega) e3 (hright seq (by omega) hsq.2) hs0
    have ew : writeOps bs L seq (ob : Int) lg data = [⟨1, (ob : Int), ⟨true, lg, seq, data⟩⟩] := by unfold writeOps; rw [fullAt_of hx', hfu]; rfl
    rw [ew]
    exact ⟨_, ⟨_, hst, rfl⟩, by rw [List.length_set]⟩
  | true =>
    obtain ⟨fi, fx, hfr, hfx, hff, hfl, _⟩ := h.fresh
    have hfxb := h.chip.block fx (List.mem_of_getElem? hfx)
    by_cases hal : freshOf bs (freshOf bs (-1)) < 0
    · obtain ⟨hfew, v, y, hv, hy, hvn⟩ := h.victimFew hx' hfu hal
      have hvl := (List.getElem?_eq_some_iff.1 hy).1
      rw [hv] at hfew
      rw [hfr] at hvn
      have hj3 := moved_few (into := (fi : Int)) (s := seq) h (v := (v : Int)) (by omega)
      obtain ⟨m1, m2, m3⟩ := runs_moves h hro.2 hfx hff hvl 4 (Nat.le_refl _)
      have ew : writeOps bs L seq (ob : Int) lg data = moveOps bs L (v : Int) (fi : Int) seq ++ [⟨1, (fi : Int), ⟨true, lg, seq + ((movedTo bs L (v : Int) (fi : Int) seq 4).length : Int), data⟩⟩] := by
        unfold writeOps
        rw [fullAt_of hx', hfu, if_pos rfl, if_pos hal, hfr]
        rw [hfr] at hv
        rw [hv]
      rw [ew]
      obtain ⟨M, hM⟩ : ∃ M, M = movedTo bs L (v : Int) (fi : Int) seq 4 := ⟨_, rfl⟩
      unfold moveOps
      rw [← hM] at m1 m2 m3 hj3 ⊢
      have ok1 := m1.ok h.chip
      have hyw : y.wear ≠ 1000000000 := fun e => hro.1 ⟨v, y, hvl, hy, e⟩
      have hy1 : (bs.set fi ⟨fx.wear, padded (M.map (·.page))⟩)[v]? = some y := by rw [List.getElem?_set_ne (by omega)]; exact hy
      have st1 := step_erase ok1 hy1 hyw
      have r1 := runs_snoc.2 ⟨_, m1, st1⟩
      have ok2 := r1.ok h.chip
      have hf2 : ((bs.set fi ⟨fx.wear, padded (M.map (·.page))⟩).set v ⟨y.wear + 1, zeroBk.pages⟩)[fi]? = some ⟨fx.wear, padded (M.map (·.page))⟩ := by
        rw [List.getElem?_set_ne (by omega)]
        simp [hfl]
      have st2 := step_prog (p := ⟨true, lg, seq + (M.length : Int), data⟩) ok2 hf2 (by simp; omega) m2 (hright _ (by omega) (by omega)) (fun s hs => by
        rcases seqs_set_mem hs with h1 | ⟨q, hq2, hqu, rfl⟩
        · exact m3 s h1
        · simp [zeroBk] at hq2
          rw [hq2] at hqu
          cases hqu)
      have r2 := runs_snoc.2 ⟨_, r1, st2⟩
      exact ⟨_, r2, by rw [List.length_set, List.length_set, List.length_set]⟩
    · have hp := free_pages hfxb hff
      have e1 : fx = ⟨fx.wear, padded []⟩ := by
        obtain ⟨fw, fp⟩ := fx
        simp only at hp
        rw [hp]
        rfl
      have hst := step_prog (f := fi) (wf := fx.wear) (ps := []) (p := ⟨true, lg, seq, data⟩) h.chip (by rw [← e1]; exact hfx) (by simp) (fun q hq => by simp at hq) (hright seq (by omega) hsq.2) hs0
      have ew : writeOps bs L seq (ob : Int) lg data = [⟨1, (fi : Int), ⟨true, lg, seq, data⟩⟩] := by unfold writeOps; rw [fullAt_of hx', hfu, if_pos rfl, if_neg hal, hfr]
      rw [ew]
      exact ⟨_, ⟨_, hst, rfl⟩, by rw [List.length_set]⟩
end Go.Proofs.YtjgcjeaplckbbaaGreatDoor

/- What Written answers, in plain lists. No program is named here. -/
namespace Go.Proofs.YtjgcjeaplckbbaaGreatDoor
open Go.RowKit
set_option linter.unusedVariables false
set_option linter.unusedSimpArgs false

def lastOp (xs : List Opn) : Opn := (xs[xs.length - 1]?).getD zeroOp
theorem lastOp_at {xs : List Opn} (h : 1 ≤ xs.length) : xs[xs.length - 1]? = some (lastOp xs) := by
  unfold lastOp
  obtain ⟨x, hx⟩ := getElem?_ex (l := xs) (k := xs.length - 1) (by omega)
  rw [hx]; rfl
/-- A write that is taken. -/
def DoneIs (bs : List Bk) (L : List Int) (seq o lg : Int) (data : ByteArray) (bs' : List Bk) (L' : List Int) (seq' o' : Int) : Prop :=
  Runs bs (writeOps bs L seq o lg data) bs' ∧ (∃ r, MapIs bs' r L') ∧ seq' = (lastOp (writeOps bs L seq o lg data)).page.seq + 1 ∧ o' = (lastOp (writeOps bs L seq o lg data)).block
/-- What Written answers. -/
def WrittenIs (bs : List Bk) (L : List Int) (seq o lg : Int) (data : ByteArray) (bs' : List Bk) (L' : List Int) (seq' o' code : Int) : Prop :=
  (¬ FtlOk bs L seq o ∧ bs' = [] ∧ L' = [] ∧ seq' = 0 ∧ o' = 0 ∧ code = 1) ∨
  (FtlOk bs L seq o ∧ ¬ formOk bs lg data ∧ bs' = bs ∧ L' = L ∧ seq' = seq ∧ o' = o ∧ code = 2) ∨
  (FtlOk bs L seq o ∧ formOk bs lg data ∧ ¬ roomy bs seq ∧ bs' = bs ∧ L' = L ∧ seq' = seq ∧ o' = o ∧ code = 4) ∨
  (FtlOk bs L seq o ∧ formOk bs lg data ∧ roomy bs seq ∧ DoneIs bs L seq o lg data bs' L' seq' o' ∧ code = 0)
theorem DoneIs.one {bs : List Bk} {L : List Int} {seq o lg : Int} {data : ByteArray} {b1 b2 : List Bk} {L1 L2 : List Int} {s1 s2 o1 o2 : Int} (h : DoneIs bs L seq o lg data b1 L1 s1 o1) (k : DoneIs bs L seq o lg data b2 L2 s2 o2) : b1 = b2 ∧ L1 = L2 ∧ s1 = s2 ∧ o1 = o2 := by
  obtain ⟨h1, ⟨r, h2⟩, h3, h4⟩ := h
  obtain ⟨k1, ⟨t, k2⟩, k3, k4⟩ := k
  obtain rfl := h1.one k1
  exact ⟨rfl, (h2.one k2).2, h3.trans k3.symm, h4.trans k4.symm⟩
theorem WrittenIs.one {bs : List Bk} {L : List Int} {seq o lg : Int} {data : ByteArray} {b1 b2 : List Bk} {L1 L2 : List Int} {s1 s2 o1 o2 c1 c2 : Int} (h : WrittenIs bs L seq o lg data b1 L1 s1 o1 c1) (k : WrittenIs bs L seq o lg data b2 L2 s2 o2 c2) : b1 = b2 ∧ L1 = L2 ∧ s1 = s2 ∧ o1 = o2 ∧ c1 = c2 := by
  rcases h with ⟨h0, rfl, rfl, rfl, rfl, rfl⟩ | ⟨h0, h1, rfl, rfl, rfl, rfl, rfl⟩ | ⟨h0, h1, h2, rfl, rfl, rfl, rfl, rfl⟩ | ⟨h0, h1, h2, h3, rfl⟩
  · rcases k with ⟨_, rfl, rfl, rfl, rfl, rfl⟩ | ⟨k0, _⟩ | ⟨k0, _⟩ | ⟨k0, _⟩
    · exact ⟨rfl, rfl, rfl, rfl, rfl⟩
    · exact absurd k0 h0
    · exact absurd k0 h0
    · exact absurd k0 h0
  · rcases k with ⟨k0, _⟩ | ⟨_, _, rfl, rfl, rfl, rfl, rfl⟩ | ⟨_, k1, _⟩ | ⟨_, k1, _⟩
    · exact absurd h0 k0
    · exact ⟨rfl, rfl, rfl, rfl, rfl⟩
    · exact absurd k1 h1
    · exact absurd k1 h1
  · rcases k with ⟨k0, _⟩ | ⟨_, k1, _⟩ | ⟨_, _, _, rfl, rfl, rfl, rfl, rfl⟩ | ⟨_, _, k2, _⟩
    · exact absurd h0 k0
    · exact absurd h1 k1
    · exact ⟨rfl, rfl, rfl, rfl, rfl⟩
    · exact absurd k2 h2
  · rcases k with ⟨k0, _⟩ | ⟨_, k1, _⟩ | ⟨_, _, k2, _⟩ | ⟨_, _, _, k3, rfl⟩
    · exact absurd h0 k0
    · exact absurd h1 k1
    · exact absurd h2 k2
    · obtain ⟨e1, e2, e3, e4⟩ := h3.one k3
      exact ⟨e1, e2, e3, e4, rfl⟩
theorem Runs.len {xs : List Opn} : ∀ {bs out : List Bk}, Runs bs xs out → out.length = bs.length := by
  induction xs with
  | nil => intro bs out h; cases h; rfl
  | cons x xs ih =>
    rintro bs out ⟨mid, h1, h2⟩
    rw [ih h2]
    rcases h1 with ⟨_, h | h | h⟩ | ⟨_, h | h | h, _⟩
    · omega
    · omega
    · obtain ⟨_, _, b, r, _, _, ⟨_, rfl, _⟩ | ⟨_, rfl, _⟩⟩ := h
      · rfl
      · rw [List.length_set]
    · omega
    · omega
    · obtain ⟨_, _, b, _, ⟨_, rfl, _⟩ | ⟨_, rfl, _⟩⟩ := h
      · rfl
      · rw [List.length_set]
/-- Of what is written no list is long. -/
theorem WrittenIs.short {bs : List Bk} {L : List Int} {seq o lg : Int} {data : ByteArray} {bs' : List Bk} {L' : List Int} {seq' o' code : Int} (h : WrittenIs bs L seq o lg data bs' L' seq' o' code) : Lens 1048576 bs' ∧ bs'.length ≤ 12 ∧ L'.length ≤ 36 := by
  rcases h with ⟨_, rfl, rfl, _⟩ | ⟨h0, _, rfl, rfl, _⟩ | ⟨h0, _, _, rfl, rfl, _⟩ | ⟨h0, _, _, ⟨h1, ⟨r, h2⟩, _⟩, _⟩
  · exact ⟨⟨by simp, fun b hb => by simp at hb⟩, by simp, by simp⟩
  · exact ⟨lens_of_ok h0.chip, h0.chip.count.2, h0.len36⟩
  · exact ⟨lens_of_ok h0.chip, h0.chip.count.2, h0.len36⟩
  · have ok := h1.ok h0.chip
    exact ⟨lens_of_ok ok, ok.count.2, h2.length ok.count.2⟩
theorem lastOp_seq (bs : List Bk) (L : List Int) (seq o log : Int) (data : ByteArray) : seq ≤ (lastOp (writeOps bs L seq o log data)).page.seq ∧ (lastOp (writeOps bs L seq o log data)).page.seq ≤ seq + 4 := by
  have hm := movedTo_length bs L (vicOf bs L (freshOf bs (-1))) (freshOf bs (-1)) seq 4
  unfold writeOps lastOp
  split
  · split
    · simp
      omega
    · simp
      omega
  · simp
    omega
end Go.Proofs.YtjgcjeaplckbbaaGreatDoor

/- A list of numbers is copied: slices.Clone. -/
namespace Go.Proofs.YtjgcjeaplckbbaaGreatDoor
open Go.RowKit
set_option linter.unusedVariables false
set_option linter.unusedSimpArgs false

theorem equalIn_nil {P : Program} {t e : TypeId} (d : Nat) (x : Addr) (n c : Nat) (ht : P.underlying t = some (.slice e)) (W : World) : (Op.equalIn (d + 1) t (.slice (some x) n c) (.slice none 0 0)).run P W = .ok false W := by
  simp [Op.equalIn, run_underlying ht]
theorem nil_ne {P : Program} {t e : TypeId} (x : Addr) (n c : Nat) (ht : P.underlying t = some (.slice e)) (W : World) : (binOp BinOp.eql t (.slice (some x) n c) (.slice none 0 0)).run P W = .ok (.bool false) W := by
  have h := equalIn_nil 9999 x n c ht W
  simp only [binOp]
  simp [Op.equal, Op.maxDepth, h]

set_option maxRecDepth 100000 in
set_option maxHeartbeats 1000000 in
theorem clone_any (ma : Option Addr) (mc : Nat) (L : List Int) (mn : Nat) (hL : L.length = mn) (h1 : 1 ≤ mn) (h36 : mn ≤ 1048576) (w : World) (hI : IntsAt w ma L) :
    Calls Tryz.prog 102 #[.slice ma mn mc] w fun e w' => ∃ v, e = .returned v ∧ OwnInts w' 2 w.heap.size v L ∧ Below w.heap.size w w' := by
  obtain ⟨i0, hi, hz0, hz1, hz2⟩ := info_parts infoInt64I
  obtain ⟨x, hx⟩ := getElem?_ex (l := L) (k := 0) (by omega)
  obtain ⟨b1, o1, rfl, _⟩ := hI 0 x hx
  obtain ⟨X, hX⟩ : ∃ X, X = ints L := ⟨_, rfl⟩
  have hXl : X.length = mn * 1 := by rw [hX, ints_length]; omega
  have hX1 : ∀ u ∈ X, u.oneCell' = true := fun u hu => by rw [hX] at hu; simp [ints] at hu; obtain ⟨y, _, rfl⟩ := hu; rfl
  have HI := hide (hI.below ((Below.refl _ w).alloc (Nat.le_refl _) (.cells #[] 2)) (Nat.le_refl _))
  have HXN : Hid (∀ j u, X[j]? = some u → (w.alloc (.cells #[] 2)).cell? ((⟨b1, o1, none⟩ : Addr).add j) = some u) := fun j u hu => by
    rw [hX] at hu
    simp only [ints, List.getElem?_map, Option.map_eq_some_iff] at hu
    obtain ⟨y, hy, rfl⟩ := hu
    obtain ⟨b2, o2, e2, hcy⟩ := (unhide HI) j y hy
    cases e2
    rw [Go.WideShapes.add_plain]
    exact hcy
  have HX := hide hX
  have HL := hide hL
  have HR : Hid ((w.alloc (.cells #[] 2)).ownsRow w.heap.size 2 1 (.slice (some ⟨w.heap.size, 0, none⟩) 0 0) 0 []) := by
    have := World.ownsRow_lit (base := w.heap.size) (e := 2) (size := 1) w #[] 0 (Nat.le_refl _) (by unfold maxLen; omega) rfl
    refine hide ?_
    simpa using this
  have hnil : ∀ W : World, (binOp BinOp.eql 24 (.slice (some ⟨b1, o1, none⟩) mn mc) (.slice none 0 0)).run Tryz.prog W = .ok (.bool false) W := nil_ne _ _ _ Tryz.underlying24
  clear hI hx hL hX
  go_enter Tryz.func102, Tryz.ntmps102
  go_wp2_with (refine wpList_append_lies _ rfl (.tmp 5) (.tmp 6) 24 rfl w.heap.size 2 i0 _ 1 8 Tryz.underlying24 hi hz0 hz1 hz2 rfl (by decide) (.slice (some ⟨w.heap.size, 0, none⟩) 0 0) 0 [] (by simp [Act.eval]) (unhide HR) ⟨b1, o1, none⟩ mn mc X (by simp [Act.eval]) hXl (unhide HXN) hX1 (by omega) (by unfold maxLen; omega) (by omega) (by simp) _ rfl ?_; intro g1 cap wE hown hgrow hat hlt1)
  go_ret
  refine ⟨_, rfl, ?_, ?_⟩
  · unfold OwnInts
    rw [unhide HL, ← unhide HX]
    simpa using hown
  · exact Below.grown ((Below.refl _ w).alloc (Nat.le_refl _) _) hgrow (by simp) (fun j e => ((unhide HR).lt j e).1)
end Go.Proofs.YtjgcjeaplckbbaaGreatDoor

/- A member is copied, and made of cells: the program's copied and memberOf. -/
namespace Go.Proofs.YtjgcjeaplckbbaaGreatDoor
open Go.RowKit
set_option linter.unusedVariables false
set_option linter.unusedSimpArgs false

theorem touch4 (w : World) (P : Nat) (v0 v1 v2 v3 : Value) : Touch (fun k => k = P) w ((((w.setCell ⟨P, 0, none⟩ v0).setCell ⟨P, 1, none⟩ v1).setCell ⟨P, 2, none⟩ v2).setCell ⟨P, 3, none⟩ v3) := by
  have h0 : Touch (fun k => k = P) w w := Touch.refl _ _
  have h1 := Touch.setCell (p := ⟨P, 0, none⟩) h0 rfl v0
  have h2 := Touch.setCell (p := ⟨P, 1, none⟩) h1 rfl v1
  have h3 := Touch.setCell (p := ⟨P, 2, none⟩) h2 rfl v2
  exact Touch.setCell (p := ⟨P, 3, none⟩) h3 rfl v3
theorem FtlOwn.lower {w : World} {B B' T : Nat} {a : Option Addr} {n c : Nat} {out : List Bk} {ma : Option Addr} {mn : Nat} {L : List Int} (h : FtlOwn w B T a n c out ma mn L) (hB : B' ≤ B) : FtlOwn w B' T a n c out ma mn L := by
  obtain ⟨h0, h1, h2, h6, C, K, h3, h4, h5⟩ := h
  refine ⟨h0, h1, ?_, h6, C, K, by omega, h4, h5⟩
  rcases h2 with h2 | ⟨g, q1, q2, q3⟩
  · exact .inl h2
  · exact .inr ⟨g, q1, by omega, q3⟩
theorem FtlOwn.higher {w : World} {B T T' : Nat} {a : Option Addr} {n c : Nat} {out : List Bk} {ma : Option Addr} {mn : Nat} {L : List Int} (h : FtlOwn w B T a n c out ma mn L) (hT : T ≤ T') : FtlOwn w B T' a n c out ma mn L := by
  obtain ⟨h0, h1, h2, h6, C, K, h3, h4, h5, h7⟩ := h
  exact ⟨h0, h1, h2, fun g hg => by have := h6 g hg; omega, C, K, h3, h4, by omega, h7⟩
/-- A chip and a map, each made by a call of its own. -/
theorem FtlOwn.made {w : World} {B C K : Nat} {g : Nat} {H : Nat → Nat} {n : Nat} {out : List Bk} {v : Value} {mn : Nat} {L : List Int} (hl : out.length = n) (hO : OwnBlocks w 220 122 g H n out) (hBC : B ≤ C) (hg : C ≤ g) (hgK : g < K) (hH : ∀ i, i < n → H i < K) (hK : K ≤ w.heap.size)
    (hI : OwnInts w 2 B v L) (hL : L.length = mn) (hap : ∀ k, v.ownBlock = some k → ¬ (C ≤ k ∧ k < K)) : ∃ ma mc, v = .slice ma mn mc ∧ FtlOwn w B w.heap.size (some ⟨g, 0, none⟩) n n out ma mn L := by
  obtain ⟨ma, mc, rfl, hIA, hM⟩ := hI.form
  rw [hL] at hM
  refine ⟨ma, mc, by rw [hL], hL, hIA, hM, fun k hk => ?_, C, K, hBC, ⟨hl, .inr ⟨g, H, rfl, hg, hgK, fun i hi => ⟨hO.ahead i (by omega), hH i hi⟩, hO⟩⟩, hK, fun k hk => hap k (by rw [hk]; rfl)⟩
  rcases hM with ⟨e, _⟩ | ⟨k', e, _, h3, _⟩
  · rw [e] at hk; cases hk
  · rw [hk] at e; cases e; exact h3

set_option maxRecDepth 100000 in
set_option maxHeartbeats 4000000 in
theorem copied_any (va : Value) (hva : ∃ x y z, va = .slice x y z) (m : CC) (bs : List Bk) (n : Nat) (hl : bs.length = n) (hct : m.count = n) (hbs : ccBs m n = bs) (ma : Option Addr) (mc : Nat) (L : List Int) (mn : Nat) (hL : L.length = mn) (seq o : Int) (hok : FtlOk bs L seq o) (w : World) (hI : IntsAt w ma L) :
    Calls Tryz.prog 81 #[.agg #[va, .slice ma mn mc, .int .i64 seq, .int .i64 o], .agg (ccA m)] w fun e w' => ∃ g ma2 mc2, e = .returned (.agg #[.slice (some ⟨g, 0, none⟩) n n, .slice ma2 mn mc2, .int .i64 seq, .int .i64 o]) ∧ FtlOwn w' w.heap.size w'.heap.size (some ⟨g, 0, none⟩) n n bs ma2 mn L ∧ Below w.heap.size w w' := by
  obtain ⟨vx, vy, vz, rfl⟩ := hva
  have hlen := hok.len
  have hc := hok.chip.count
  have hm4 : 1 ≤ mn ∧ mn ≤ 1048576 := by omega
  have hCA := ccA_size m
  obtain ⟨cs, hcs⟩ : ∃ cs, cs = (ccA m).toList := ⟨_, rfl⟩
  have hcs2 : ccA m = cs.toArray := by rw [hcs]
  have hcl : cs.length = 205 := by rw [hcs]; simp [ccA_size]
  have HCH : Hid (∀ W, Calls Tryz.prog 148 #[.agg cs.toArray] W fun e w' => ∃ g H, e = .returned (.agg #[.slice (some ⟨g, 0, none⟩) n n]) ∧ W.heap.size ≤ g ∧ OwnBlocks w' 220 122 g H n bs ∧ Below W.heap.size W w') := fun W => by
    have := chip_any m n hct (by omega) W
    rw [hbs, hcs2] at this
    exact this
  have hu97 := Tryz.underlying128
  have hi97 : (Tryz.prog.info? 128).map (·.size) = some cs.length := by rw [hcl]; exact sizeCC'
  have HL := hide hL
  have HLB := hide hl
  have HI := hide hI
  rw [hcs2]
  clear hcs hcs2 hCA hbs hct hok hI hL hl hlen hc
  go_enter Tryz.func81, Tryz.ntmps81
  go_wp2_with fail
  obtain ⟨w0, hw0⟩ : ∃ w0, w0 = ((w.alloc (.cells #[.slice vx vy vz, .slice ma mn mc, .int .i64 seq, .int .i64 o] 53)).alloc (.cells cs.toArray 128)).alloc (.cells #[.slice none 0 0, .slice none 0 0, .int .i64 0, .int .i64 0] 53) := ⟨_, rfl⟩
  have hs0 : w0.heap.size = w.heap.size + 3 := by rw [hw0]; simp
  have hB0 : Below w.heap.size w w0 := by rw [hw0]; exact (((Below.refl _ w).alloc (Nat.le_refl _) _).alloc (by simp) _).alloc (by simp; omega) _
  obtain ⟨R0, R1, R2⟩ := heap3 w (.cells #[.slice vx vy vz, .slice ma mn mc, .int .i64 seq, .int .i64 o] 53) (.cells cs.toArray 128) (.cells #[.slice none 0 0, .slice none 0 0, .int .i64 0, .int .i64 0] 53)
  rw [← hw0] at R0 R1 R2 ⊢
  have k1 := cell_of_row _ _ 1 _ _ _ R0
  have k2 := cell_of_row _ _ 2 _ _ _ R0
  have k3 := cell_of_row _ _ 3 _ _ _ R0
  simp at k1 k2 k3
  have HRG : Hid (∀ W : World, (∀ b o, b < w.heap.size + 1 + 1 → W.cell? ⟨b, o, none⟩ = w0.cell? ⟨b, o, none⟩) → W.rangeAt (w.heap.size + 1) 0 cs) := fun W hW j v hv => by
    rw [hW _ _ (by omega), Nat.zero_add, cell_of_row _ _ j _ _ _ R1]
    simpa using hv
  have HZR : Hid (∀ W, Below w0.heap.size w0 W → (∀ i, W.cell? ⟨w.heap.size + 1 + 1, i, none⟩ = (#[Value.slice none 0 0, .slice none 0 0, .int .i64 0, .int .i64 0])[i]?) ∧ ∀ i, W.frozen? ⟨w.heap.size + 1 + 1, i, none⟩ = false) := fun W hW => by
    have hr := (hW.block (w.heap.size + 1 + 1) (by omega)).trans R2
    exact ⟨fun i => cell_of_row _ _ i _ _ _ hr, fun i => frozen_of_row _ _ i _ _ hr⟩
  have HCL : Hid (∀ W, Below w0.heap.size w0 W → Calls Tryz.prog 102 #[.slice ma mn mc] W fun e w' => ∃ v, e = .returned v ∧ OwnInts w' 2 W.heap.size v L ∧ Below W.heap.size W w') := fun W hW => clone_any ma mc L mn (unhide HL) hm4.1 hm4.2 W (((unhide HI).below hB0 (Nat.le_refl _)).below hW (Nat.le_refl _))
  have HBD : Hid (Below w0.heap.size w0 w0.drew) := (Below.refl _ _).drew
  have HS0 := hide hs0
  have hsl : w.heap.size + 1 + 1 < w0.heap.size := by omega
  clear hw0 R0 R1 R2 hs0
  have hmix : Tryz.prog.follows .mixedOrders = true := by kernel_rfl
  refine wp_region_held_drew (S := fun W => W.rangeAt (w.heap.size + 1) 0 cs ∧ ∀ b o, b < w.heap.size + 1 + 1 → W.cell? ⟨b, o, none⟩ = w0.cell? ⟨b, o, none⟩) hmix ⟨unhide HRG _ (fun b o hb => rfl), fun b o hb => rfl⟩ (fun hHeld => ?_)
  refine wpAnyH_take (i := 0) (v := .agg cs.toArray) rfl (by kernel_rfl) (by kernel_rfl) (by kernel_rfl) (fun _ _ _ h => h) (yieldsIf_load_mid (by rfl) _ _ rfl _ _ rfl cs _ (fun W hS => hS.1) hu97 rfl hi97) hHeld ?_
  simp only [Act.put, List.setIfInBounds_toArray, List.set_cons_zero, List.set_cons_succ]
  refine wpAnyH_take (i := 2) (v := .pointer (some ⟨w.heap.size, 1, none⟩)) rfl (by kernel_rfl) (by kernel_rfl) (by kernel_rfl) (fun _ _ _ h => h) (Or.inl ⟨by rfl, ?_⟩) hHeld ?_
  · (intro W hSW; have hSW2 := hSW.2; clear hSW; go_simp)
  simp only [Act.put, List.setIfInBounds_toArray, List.set_cons_zero, List.set_cons_succ]
  refine wpAnyH_take (i := 3) (v := .slice ma mn mc) rfl (by kernel_rfl) (by kernel_rfl) (by kernel_rfl) (fun _ _ _ h => h) (Or.inl ⟨by rfl, ?_⟩) hHeld ?_
  · (intro W hSW; have hSW2 := hSW.2; clear hSW; go_simp)
  simp only [Act.put, List.setIfInBounds_toArray, List.set_cons_zero, List.set_cons_succ]
  refine wpAnyH_take (i := 5) (v := .pointer (some ⟨w.heap.size, 2, none⟩)) rfl (by kernel_rfl) (by kernel_rfl) (by kernel_rfl) (fun _ _ _ h => h) (Or.inl ⟨by rfl, ?_⟩) hHeld ?_
  · (intro W hSW; have hSW2 := hSW.2; clear hSW; go_simp)
  simp only [Act.put, List.setIfInBounds_toArray, List.set_cons_zero, List.set_cons_succ]
  refine wpAnyH_take (i := 6) (v := .int .i64 seq) rfl (by kernel_rfl) (by kernel_rfl) (by kernel_rfl) (fun _ _ _ h => h) (Or.inl ⟨by rfl, ?_⟩) hHeld ?_
  · (intro W hSW; have hSW2 := hSW.2; clear hSW; go_simp)
  simp only [Act.put, List.setIfInBounds_toArray, List.set_cons_zero, List.set_cons_succ]
  refine wpAnyH_take (i := 7) (v := .pointer (some ⟨w.heap.size, 3, none⟩)) rfl (by kernel_rfl) (by kernel_rfl) (by kernel_rfl) (fun _ _ _ h => h) (Or.inl ⟨by rfl, ?_⟩) hHeld ?_
  · (intro W hSW; have hSW2 := hSW.2; clear hSW; go_simp)
  simp only [Act.put, List.setIfInBounds_toArray, List.set_cons_zero, List.set_cons_succ]
  refine wpAnyH_take (i := 8) (v := .int .i64 o) rfl (by kernel_rfl) (by kernel_rfl) (by kernel_rfl) (fun _ _ _ h => h) (Or.inl ⟨by rfl, ?_⟩) hHeld ?_
  · (intro W hSW; have hSW2 := hSW.2; clear hSW; go_simp)
  simp only [Act.put, List.setIfInBounds_toArray, List.set_cons_zero, List.set_cons_succ]
  refine wpAnyH_ready (rs := [1]) (by kernel_rfl) (by simp) ?_
  refine AllReadyH.cons rfl (fun K hK => ?_) AllReadyH.nil
  · go_simp
    refine (unhide HCH w0.drew).mono ?_
    rintro e wC ⟨g, H, rfl, hg, hO, hB⟩
    have HBC := hide ((unhide HBD).trans hB)
    have hsC := (unhide HBC).size
    have HOC := hide (And.intro (show w0.heap.size ≤ g from hg) hO)
    clear hg hO hB
    try go_wp2_with fail
    refine hK.out _ _ ?_ (fun hHeld2 => ?_)
    · (refine (fun H => ⟨unhide HRG _ H, H⟩) ?_; intro b o hb; exact (unhide HBC).cell (p := ⟨b, o, none⟩) (by show b < _; omega))
    clear hK K hHeld
    have hHeld := hHeld2
    clear hHeld2
    try simp only [Act.put, List.setIfInBounds_toArray, List.set_cons_zero, List.set_cons_succ]
    refine wpAnyH_ready (rs := [4]) (by kernel_rfl) (by simp) ?_
    refine AllReadyH.cons rfl (fun K hK => ?_) AllReadyH.nil
    go_simp
    refine (unhide HCL _ (unhide HBC)).mono ?_
    rintro e wF ⟨v, rfl, hv, hB⟩
    have hsF := hB.size
    have HBF := hide ((unhide HBC).trans (hB.mono hsC))
    obtain ⟨hg, hO⟩ := unhide HOC
    obtain ⟨ma2, mc2, rfl, hF2⟩ := FtlOwn.made (B := w0.heap.size) (C := w0.heap.size) (K := wC.heap.size) (unhide HLB) (hO.below hB (Nat.le_refl _)) (Nat.le_refl _) hg hO.row.lt (fun i hi => hO.lt (by rw [unhide HLB]; exact hi)) hsF (hv.lower hsC) (unhide HL) (fun k hk => by have := (hv.lt k hk).1; omega)
    have HF2 := hide hF2
    obtain ⟨hzc, hzf⟩ := unhide HZR wF (unhide HBF)
    have z0 := hzc 0
    have z1 := hzc 1
    have z2 := hzc 2
    have z3 := hzc 3
    simp at z0 z1 z2 z3
    have f0 := hzf 0
    have f1 := hzf 1
    have f2 := hzf 2
    have f3 := hzf 3
    clear hv hB hg hO hzc hzf hF2 HOC HCH HCL HZR
    try go_wp2_with fail
    refine hK.out _ _ ?_ (fun hHeld2 => ?_)
    · (refine (fun H => ⟨unhide HRG _ H, H⟩) ?_; intro b o hb; exact (unhide HBF).cell (p := ⟨b, o, none⟩) (by show b < _; omega))
    clear hK K hHeld
    have hHeld := hHeld2
    clear hHeld2
    try simp only [Act.put, List.setIfInBounds_toArray, List.set_cons_zero, List.set_cons_succ]
    refine wpAnyH_take (i := 9) (v := .agg #[.slice (some ⟨g, 0, none⟩) n n, .slice ma2 mn mc2, .int .i64 seq, .int .i64 o]) rfl (by kernel_rfl) (by kernel_rfl) (by kernel_rfl) (fun _ _ _ h => h) (Or.inl ⟨by rfl, ?_⟩) hHeld ?_
    · (intro W hSW; have hSW2 := hSW.2; clear hSW; go_simp)
    simp only [Act.put, List.setIfInBounds_toArray, List.set_cons_zero, List.set_cons_succ]
    refine wpAnyH_ready (rs := [10]) (by kernel_rfl) (by simp) ?_
    refine AllReadyH.cons rfl (fun K hK => ?_) AllReadyH.nil
    go_simp
    refine hK.out _ _ ?_ (fun hHeld2 => ?_)
    · (refine (fun H => ⟨unhide HRG _ H, H⟩) ?_; intro b o hb; rw [World.cell?_setCell_other _ _ _ _ (by simp <;> omega), World.cell?_setCell_other _ _ _ _ (by simp <;> omega), World.cell?_setCell_other _ _ _ _ (by simp <;> omega), World.cell?_setCell_other _ _ _ _ (by simp <;> omega)]; exact (unhide HBF).cell (p := ⟨b, o, none⟩) (by show b < _; omega))
    clear hK K hHeld
    have hHeld := hHeld2
    clear hHeld2
    try simp only [Act.put, List.setIfInBounds_toArray, List.set_cons_zero, List.set_cons_succ]
    refine wpAnyH_done (by kernel_rfl) ?_ _
    have hT5 : Touch (· = w.heap.size + 1 + 1) wF ((((wF.setCell ⟨w.heap.size + 1 + 1, 0, none⟩ (.slice (some ⟨g, 0, none⟩) n n)).setCell ⟨w.heap.size + 1 + 1, 1, none⟩ (.slice ma2 mn mc2)).setCell ⟨w.heap.size + 1 + 1, 2, none⟩ (.int .i64 seq)).setCell ⟨w.heap.size + 1 + 1, 3, none⟩ (.int .i64 o)) := touch4 wF (w.heap.size + 1 + 1) _ _ _ _
    obtain ⟨W5, hW5⟩ : ∃ W5, W5 = (((wF.setCell ⟨w.heap.size + 1 + 1, 0, none⟩ (.slice (some ⟨g, 0, none⟩) n n)).setCell ⟨w.heap.size + 1 + 1, 1, none⟩ (.slice ma2 mn mc2)).setCell ⟨w.heap.size + 1 + 1, 2, none⟩ (.int .i64 seq)).setCell ⟨w.heap.size + 1 + 1, 3, none⟩ (.int .i64 o) := ⟨_, rfl⟩
    have y0 : W5.cell? ⟨w.heap.size + 1 + 1, 0, none⟩ = some (.slice (some ⟨g, 0, none⟩) n n) := by rw [hW5, World.cell?_setCell_other _ _ _ _ (by simp), World.cell?_setCell_other _ _ _ _ (by simp), World.cell?_setCell_other _ _ _ _ (by simp), World.cell?_setCell_same' _ _ _ (by rw [z0]; rfl)]
    have y1 : W5.cell? ⟨w.heap.size + 1 + 1, 1, none⟩ = some (.slice ma2 mn mc2) := by rw [hW5, World.cell?_setCell_other _ _ _ _ (by simp), World.cell?_setCell_other _ _ _ _ (by simp), World.cell?_setCell_same' _ _ _ (by rw [World.cell?_setCell_other _ _ _ _ (by simp), z1]; rfl)]
    have y2 : W5.cell? ⟨w.heap.size + 1 + 1, 2, none⟩ = some (.int .i64 seq) := by rw [hW5, World.cell?_setCell_other _ _ _ _ (by simp), World.cell?_setCell_same' _ _ _ (by rw [World.cell?_setCell_other _ _ _ _ (by simp), World.cell?_setCell_other _ _ _ _ (by simp), z2]; rfl)]
    have y3 : W5.cell? ⟨w.heap.size + 1 + 1, 3, none⟩ = some (.int .i64 o) := by rw [hW5, World.cell?_setCell_same' _ _ _ (by rw [World.cell?_setCell_other _ _ _ _ (by simp), World.cell?_setCell_other _ _ _ _ (by simp), World.cell?_setCell_other _ _ _ _ (by simp), z3]; rfl)]
    have hs5 : W5.heap.size = wF.heap.size := by rw [hW5]; simp [World.setCell]
    rw [← hW5] at hT5 ⊢
    have HFF : Hid (FtlOwn W5 w.heap.size W5.heap.size (some ⟨g, 0, none⟩) n n bs ma2 mn L) := by rw [hs5]; exact ((unhide HF2).touch hT5 (fun k hk => by rw [hk]; exact hsl)).lower (by omega)
    have hWW : Below w.heap.size w W5 := (hB0.trans ((unhide HBF).mono hB0.size)).trans (hT5.below (by omega) (fun k hk => by rw [hk]; omega))
    clear hW5 hT5 z0 z1 z2 z3 f0 f1 f2 f3 k1 k2 k3 hHeld
    go_wp2
    exact bodyPost_ret (v := .agg #[.slice (some ⟨g, 0, none⟩) n n, .slice ma2 mn mc2, .int .i64 seq, .int .i64 o]) (by simp [results, Tryz.results81, go_sem, y0, y1, y2, y3]) rfl ⟨g, ma2, mc2, rfl, unhide HFF, hWW⟩
end Go.Proofs.YtjgcjeaplckbbaaGreatDoor
