/- The laws' own marks: each field of each page and block is written with a number of its own, and found there again. -/
import Derived.Test.YtageolbmplhgaaaChecked
import Derived.Test.YtageolbmplhgaaaOwn
import Derived.WalkKit
import Derived.Outline
import Derived.Deep.RegionHeld3
import Derived.Laws.BytesArg
namespace Go.Proofs.Ytageolbmplhgaaa
open Go.RowKit
set_option linter.unusedVariables false

/-- The digits of m ahead of s. -/
def mtF : Nat → Nat → ByteArray → ByteArray
  | 0, _, s => s
  | f + 1, m, s => if 0 < m then mtF f (m / 10) (strOfNums [48 + (m : Int) % 10] ++ s) else s
/-- The text of a mark. -/
def mt (k : Nat) : ByteArray := ⟨#[109]⟩ ++ mtF k k ⟨#[]⟩

theorem mtF_zero (f : Nat) (s : ByteArray) : mtF f 0 s = s := by cases f <;> simp [mtF]
theorem mtF_step (f m : Nat) (s : ByteArray) (hm : 0 < m) (hf : m ≤ f) : ∃ g, m / 10 ≤ g ∧ mtF f m s = mtF g (m / 10) (strOfNums [48 + (m : Int) % 10] ++ s) := by
  cases f with
  | zero => omega
  | succ g => exact ⟨g, by omega, by simp [mtF, hm]⟩

theorem conv1 (x : Int) (w : World) : (convert 123 9 (.slice (some ⟨w.heap.size, 0, none⟩) 1 1)).run Try.prog (w.alloc (.cells #[.int .u8 x] 5)) = .ok (.string (strOfNums [x])) (w.alloc (.cells #[.int .u8 x] 5)) :=
  run_convert_bytes_arg _ 123 5 Try.underlying123 Try.underlying5 w.heap.size 0 1 1 [x] rfl (fun i hi => by
    obtain rfl : i = 0 := by omega
    simp) 9 Try.underlying9

set_option maxRecDepth 100000 in
set_option maxHeartbeats 1000000 in
theorem markText_any (k : Int) (w : World) (h0 : 0 < k) (h1 : k ≤ 1125899906842624) :
    Calls Try.prog 109 #[.int .i64 k] w fun e w' => e = .returned (.string (mt k.toNat)) ∧ Below w.heap.size w w' := by
  go_enter Try.func109, Try.ntmps109
  go_wp2
  go_loopw [0, 3] (fun i v wr => ∃ (m f : Nat) (s : ByteArray), i = .int .i64 m ∧ v = .string s ∧ s.size + m ≤ k ∧ m ≤ f ∧ mtF f m s = mtF k.toNat k.toNat ⟨#[]⟩ ∧ Below w.heap.size w wr) (fun i _ _ => (intOf i).toNat)
  case atStart => exact ⟨k.toNat, k.toNat, _, by simp; omega, rfl, by simp [ByteArray.size]; omega, Nat.le_refl _, rfl, Below.refl _ _⟩
  case round =>
    obtain ⟨m, f, s, rfl, rfl, hs, hf, he, hB⟩ := hrel
    have HE := hide he
    clear he
    by_cases hm : 0 < m
    · have hcv := conv1 (48 + (m : Int) % 10) wr
      have hz := strOfNums_size [48 + (m : Int) % 10]
      generalize hx : strOfNums [48 + (m : Int) % 10] = x at hcv hz
      have HX := hide hx
      have hz1 : x.size ≤ 1 := by simp at hz; omega
      clear hz hx
      go_wp2
      obtain ⟨g, hg, hge⟩ := mtF_step f m s hm hf
      rw [unhide HX] at hge
      refine ⟨⟨m / 10, g, x ++ s, by go_num, rfl, by rw [ByteArray.size_append]; omega, hg, by rw [← hge]; exact unhide HE, hB.alloc hB.size _⟩, by simp [intOf]; omega⟩
    · obtain rfl : m = 0 := by omega
      go_wp2
      go_ret
      refine ⟨?_, hB⟩
      have := unhide HE
      rw [mtF_zero] at this
      rw [this]
      rfl

/-- A page that bears the marks from k on. -/
def mkPg (k : Int) : Pg := ⟨k % 3 == 0, k + 1, k + 1 + 1, mt (k + 1 + 1 + 1).toNat⟩
def markPs (k : Int) (n : Nat) : List Pg := (List.range n).map fun (i : Nat) => mkPg (k + 4 * (i : Int))
def markTo (k : Int) (ps : List Pg) (j : Nat) : List Pg := markPs k j ++ ps.drop j

theorem markPs_length (k : Int) (n : Nat) : (markPs k n).length = n := by simp [markPs]
theorem markPs_at (k : Int) {n i : Nat} (hi : i < n) : (markPs k n)[i]? = some (mkPg (k + 4 * (i : Int))) := by simp [markPs, hi]
theorem markTo_length (k : Int) (ps : List Pg) {j : Nat} (hj : j ≤ ps.length) : (markTo k ps j).length = ps.length := by simp [markTo, markPs_length]; omega
theorem markTo_zero (k : Int) (ps : List Pg) : markTo k ps 0 = ps := by simp [markTo, markPs]
theorem markTo_full (k : Int) (ps : List Pg) : markTo k ps ps.length = markPs k ps.length := by simp [markTo]
theorem markTo_step (k : Int) (ps : List Pg) {j : Nat} (hj : j < ps.length) : (markTo k ps j).set j (mkPg (k + 4 * (j : Int))) = markTo k ps (j + 1) := by
  have h1 : markPs k (j + 1) = markPs k j ++ [mkPg (k + 4 * (j : Int))] := by simp [markPs, List.range_succ]
  unfold markTo
  rw [h1, List.set_append_right _ _ (by simp [markPs_length]), markPs_length, Nat.sub_self, List.append_assoc]
  congr 1
  rw [List.drop_eq_getElem_cons hj]
  rfl

set_option maxRecDepth 100000 in
set_option maxHeartbeats 1000000 in
theorem markPageS_any (b c : Nat) (ps : List Pg) (k : Int) (w : World) (h : OwnPages w 44 b ps.length ps) (hn : ps.length ≤ 1048576) (h0 : 0 < k) (h1 : k + 4 * ps.length ≤ 1125899906842624) :
    Calls Try.prog 92 #[.slice (some ⟨b, 0, none⟩) ps.length c, .int .i64 k] w fun e w' => e = .returned (.int .i64 (k + 4 * ps.length)) ∧ OwnPages w' 44 b ps.length (markPs k ps.length) ∧ Touch (· = b) w w' := by
  go_enter Try.func92, Try.ntmps92
  go_wp2
  go_loopw [1, 5] (fun v i wr => ∃ j : Nat, j ≤ ps.length ∧ i = .int .i64 j ∧ v = .int .i64 (k + 4 * (j : Int)) ∧ OwnPages wr 44 b ps.length (markTo k ps j) ∧ Touch (· = b) w wr) (fun _ i _ => ps.length - (intOf i).toNat)
  case atStart => exact ⟨0, Nat.zero_le _, rfl, by simp, by rw [markTo_zero]; exact h, Touch.refl _ _⟩
  case round =>
    obtain ⟨j, hj, rfl, rfl, hO, hT⟩ := hrel
    by_cases hlt : j < ps.length
    · obtain ⟨⟨v0, c0⟩, ⟨v1, c1⟩, ⟨v2, c2⟩, ⟨v3, c3⟩⟩ := hO.cells hlt
      have f0 := World.rowIs.frozen hO
      have hlb := World.rowIs.lt hO
      clear h
      go_wp2_with fail
      refine (markText_any _ _ (by omega) (by omega)).mono ?_
      rintro e w1 ⟨rfl, hc⟩
      have h3 := World.rowIs.set (World.rowIs.set (World.rowIs.set hO (j * 4) (Value.bool ((k + 4 * (j : Int)) % 3 == 0))) (j * 4 + 1) (Value.int .i64 (k + 4 * (j : Int) + 1))) (j * 4 + 2) (Value.int .i64 (k + 4 * (j : Int) + 1 + 1))
      have h4 := h3.of_block (hc.block b (by simpa using hlb))
      have c3' := h4.cell (i := j * 4 + 3) (by omega)
      have f3' := h4.frozen
      have H4 := hide h4
      have HC := hide hc
      clear h3 h4 hc c0 c1 c2 c3 f0
      go_wp2
      go_roundw
      case rel =>
        refine ⟨j + 1, by omega, by go_num, by go_num, ?_, ?_⟩
        · refine ((unhide H4).set (j * 4 + 3) _).congr (fun x _ => ?_)
          rw [← markTo_step k ps hlt]
          exact pgsF_set (p := mkPg (k + 4 * (j : Int))) (by rw [markTo_length k ps hj]; exact hlt) x
        · exact ((((hT.setCell rfl _).setCell rfl _).setCell rfl _).trans (Touch.of_below (unhide HC))).setCell rfl _
      case measure => simp [intOf]; omega
    · have hk' : j = ps.length := by omega
      subst hk'
      rw [markTo_full] at hO
      go_wp2
      go_ret
      exact ⟨rfl, hO, hT⟩

set_option maxRecDepth 100000 in
set_option maxHeartbeats 1000000 in
theorem heldPageS_any (a : Option Addr) (c n : Nat) (k : Int) (w : World) (h : PagesAt w a (markPs k n)) (hn : n ≤ 1048576) (h0 : 0 < k) (h1 : k + 4 * n ≤ 1125899906842624) :
    Calls Try.prog 93 #[.slice a n c, .int .i64 k] w fun e w' => e = .returned (.int .i64 (k + 4 * n)) ∧ Below w.heap.size w w' := by
  go_enter Try.func93, Try.ntmps93
  go_wp2
  go_loopw [1, 5] (fun v i wr => ∃ j : Nat, j ≤ n ∧ i = .int .i64 j ∧ v = .int .i64 (k + 4 * (j : Int)) ∧ Below w.heap.size w wr) (fun _ i _ => n - (intOf i).toNat)
  case atStart => exact ⟨0, Nat.zero_le _, rfl, by simp, Below.refl _ _⟩
  case round =>
    obtain ⟨j, hj, rfl, rfl, hB⟩ := hrel
    by_cases hlt : j < n
    · obtain ⟨b1, o1, rfl, g10, g11, g12, g13⟩ := (h.below hB (Nat.le_refl _)) j _ (markPs_at k hlt)
      have hb1 : b1 < wr.heap.size := World.block_lt_of_cell? _ _ g10
      simp only [mkPg] at g10 g11 g12 g13
      clear h
      go_wp2
      go_region_held3 (fun W => ∀ b o, b < wr.heap.size → W.cell? ⟨b, o, none⟩ = wr.cell? ⟨b, o, none⟩) (first | (intro b o hb; simp; done) | (intro b o hb; rw [hc.cell (p := ⟨b, o, none⟩) hb]; rfl))
        (first | (go_at_call 109; refine (markText_any _ _ (by omega) (by omega)).mono ?_; rintro e w1 ⟨rfl, hc⟩))
      go_wp2
      go_roundw
      case rel => exact ⟨j + 1, by omega, by go_num, by go_num, hB.drew.trans (hc.mono hB.size)⟩
      case measure => simp [intOf]; omega
    · have hk' : j = n := by omega
      subst hk'
      go_wp2
      go_ret
      exact ⟨rfl, hB⟩

/-- The number behind all marks of the blocks. -/
def kAfter (k : Int) : List Bk → Int
  | [] => k
  | b :: r => kAfter (k + 1 + 4 * (b.pages.length : Int)) r
def markBs (k : Int) : List Bk → List Bk
  | [] => []
  | b :: r => ⟨k, markPs (k + 1) b.pages.length⟩ :: markBs (k + 1 + 4 * (b.pages.length : Int)) r

theorem kAfter_snoc (l : List Bk) (b : Bk) : ∀ k, kAfter k (l ++ [b]) = kAfter k l + 1 + 4 * (b.pages.length : Int) := by
  induction l with
  | nil => intro k; rfl
  | cons c l ih => intro k; exact ih _
theorem markBs_snoc (l : List Bk) (b : Bk) : ∀ k, markBs k (l ++ [b]) = markBs k l ++ [⟨kAfter k l, markPs (kAfter k l + 1) b.pages.length⟩] := by
  induction l with
  | nil => intro k; rfl
  | cons c l ih => intro k; show _ :: markBs _ (l ++ [b]) = _; rw [ih]; rfl
theorem markBs_length (l : List Bk) : ∀ k, (markBs k l).length = l.length := by
  induction l with
  | nil => intro k; rfl
  | cons c l ih => intro k; show (markBs _ l).length + 1 = l.length + 1; rw [ih]
theorem kAfter_le (l : List Bk) : ∀ k, k ≤ kAfter k l := by
  induction l with
  | nil => intro k; exact Int.le_refl _
  | cons c l ih => intro k; have := ih (k + 1 + 4 * (c.pages.length : Int)); show k ≤ kAfter _ l; omega
theorem kAfter_append (l m : List Bk) : ∀ k, kAfter k (l ++ m) = kAfter (kAfter k l) m := by
  induction l with
  | nil => intro k; rfl
  | cons c l ih => intro k; exact ih _
theorem take_snoc {l : List Bk} {i : Nat} {b : Bk} (h : l[i]? = some b) : l.take (i + 1) = l.take i ++ [b] := by
  obtain ⟨hi, rfl⟩ := List.getElem?_eq_some_iff.1 h
  rw [List.take_succ_eq_append_getElem hi]
theorem kAfter_take {l : List Bk} {i : Nat} {b : Bk} (h : l[i]? = some b) (k : Int) : kAfter k (l.take i) + 1 + 4 * (b.pages.length : Int) ≤ kAfter k l := by
  have e : l = l.take (i + 1) ++ l.drop (i + 1) := (List.take_append_drop _ _).symm
  have h1 : kAfter k l = kAfter (kAfter k (l.take (i + 1))) (l.drop (i + 1)) := by rw [← kAfter_append, ← e]
  rw [h1, take_snoc h, kAfter_snoc]
  exact kAfter_le _ _

def markBTo (k : Int) (bs : List Bk) (i : Nat) : List Bk := markBs k (bs.take i) ++ bs.drop i
theorem markBTo_zero (k : Int) (bs : List Bk) : markBTo k bs 0 = bs := by simp [markBTo, markBs]
theorem markBTo_full (k : Int) (bs : List Bk) : markBTo k bs bs.length = markBs k bs := by simp [markBTo]
theorem markBTo_at (k : Int) {bs : List Bk} {i : Nat} {b : Bk} (h : bs[i]? = some b) : (markBTo k bs i)[i]? = some b := by
  obtain ⟨hi, rfl⟩ := List.getElem?_eq_some_iff.1 h
  unfold markBTo
  rw [List.getElem?_append_right (by rw [markBs_length]; simp; omega), markBs_length]
  simp [Nat.min_eq_left (Nat.le_of_lt hi), hi]
theorem markBTo_step (k : Int) {bs : List Bk} {i : Nat} {b : Bk} (h : bs[i]? = some b) : (markBTo k bs i).set i ⟨kAfter k (bs.take i), markPs (kAfter k (bs.take i) + 1) b.pages.length⟩ = markBTo k bs (i + 1) := by
  obtain ⟨hi, hb⟩ := List.getElem?_eq_some_iff.1 h
  have hl : (markBs k (bs.take i)).length = i := by rw [markBs_length]; simp; omega
  unfold markBTo
  rw [take_snoc h, markBs_snoc, List.set_append_right _ _ (by omega), hl, Nat.sub_self, List.append_assoc]
  congr 1
  rw [List.drop_eq_getElem_cons hi]
  rfl
theorem markBs_at (k : Int) {bs : List Bk} {i : Nat} {b : Bk} (h : bs[i]? = some b) : (markBs k bs)[i]? = some ⟨kAfter k (bs.take i), markPs (kAfter k (bs.take i) + 1) b.pages.length⟩ := by
  have hi : i < bs.length := (List.getElem?_eq_some_iff.1 h).1
  have e : markBs k bs = markBs k (bs.take (i + 1) ++ bs.drop (i + 1)) := by rw [List.take_append_drop]
  have ap : ∀ (l m : List Bk) k, markBs k (l ++ m) = markBs k l ++ markBs (kAfter k l) m := by
    intro l
    induction l with
    | nil => intro m k; rfl
    | cons c l ih => intro m k; show _ :: markBs _ (l ++ m) = _; rw [ih]; rfl
  rw [e, ap, take_snoc h, markBs_snoc, List.getElem?_append_left (by simp [markBs_length]; omega), List.getElem?_append_right (by rw [markBs_length]; simp; omega), markBs_length]
  simp [Nat.min_eq_left (Nat.le_of_lt hi)]

set_option maxRecDepth 100000 in
set_option maxHeartbeats 1000000 in
theorem markBlockS_any (g : Nat) (H : Nat → Nat) (c : Nat) (bs : List Bk) (k : Int) (w : World) (h : OwnBlocks w 75 44 g H bs.length bs) (hn : Lens 1048576 bs) (h0 : 0 < k) (h1 : kAfter k bs ≤ 1125899906842624) :
    Calls Try.prog 63 #[.slice (some ⟨g, 0, none⟩) bs.length c, .int .i64 k] w fun e w' => e = .returned (.int .i64 (kAfter k bs)) ∧ OwnBlocks w' 75 44 g H bs.length (markBs k bs) ∧ Touch (fun j => j = g ∨ ∃ i, i < bs.length ∧ j = H i) w w' := by
  have hn1 := hn.1
  go_enter Try.func63, Try.ntmps63
  go_wp2
  go_loopw [1, 5] (fun v i wr => ∃ j : Nat, j ≤ bs.length ∧ i = .int .i64 j ∧ v = .int .i64 (kAfter k (bs.take j)) ∧ OwnBlocks wr 75 44 g H bs.length (markBTo k bs j) ∧ Touch (fun j => j = g ∨ ∃ i, i < bs.length ∧ j = H i) w wr) (fun _ i _ => bs.length - (intOf i).toNat)
  case atStart => exact ⟨0, Nat.zero_le _, rfl, rfl, by rw [markBTo_zero]; exact h, Touch.refl _ _⟩
  case round =>
    obtain ⟨j, hj, rfl, rfl, hO, hT⟩ := hrel
    by_cases hlt : j < bs.length
    · obtain ⟨b, hb⟩ := getElem?_ex hlt
      have hbt := markBTo_at k hb
      have c0 := hO.row.cell (i := j * 2 + 0) (by omega)
      have c1 := hO.row.cell (i := j * 2 + 1) (by omega)
      rw [bksF_at H hbt 0 (by omega)] at c0
      rw [bksF_at H hbt 1 (by omega)] at c1
      simp only [bkV, Nat.add_zero] at c0 c1
      have f0 := hO.row.frozen
      have hlb := hO.row.lt
      have hpl := hn.at hb
      have hka := kAfter_take hb k
      have hkb := kAfter_le (bs.take j) k
      have hW := hO.setWear hbt (kAfter k (bs.take j))
      have hset : ((markBTo k bs j).set j ⟨kAfter k (bs.take j), b.pages⟩)[j]? = some ⟨kAfter k (bs.take j), b.pages⟩ := by
        have : j < (markBTo k bs j).length := (List.getElem?_eq_some_iff.1 hbt).1
        simp [this]
      have HS := hide hset
      have HB := hide hb
      have HBT := hide hbt
      generalize hkk : kAfter k (bs.take j) = kk at *
      have HK := hide hkk
      clear h hset hb hbt hkk
      go_wp2_with fail
      refine (markPageS_any _ _ b.pages _ _ (hW.pages j ⟨kk, b.pages⟩ (unhide HS)) hpl (by omega) (by omega)).mono ?_
      rintro e w1 ⟨rfl, hP, hT1⟩
      have h2 := hW.setPages (unhide HS) (ps := markPs (kk + 1) b.pages.length) (markPs_length _ _) hP hT1
      clear hW c0 c1 f0 hP
      have H2 := hide h2
      have HT1 := hide hT1
      clear h2 hT1 hO
      go_wp2
      go_roundw
      case rel =>
        refine ⟨j + 1, by omega, by go_num, ?_, ?_, ?_⟩
        · rw [take_snoc (unhide HB), kAfter_snoc, unhide HK]
        · have h3 := unhide H2
          rw [List.set_set] at h3
          have h4 := markBTo_step k (unhide HB)
          rw [unhide HK] at h4
          rw [← h4]
          exact h3
        · exact (hT.setCell (Or.inl rfl) _).trans ((unhide HT1).mono (fun x hx => Or.inr ⟨j, hlt, hx⟩))
      case measure => simp [intOf]; omega
    · have hk' : j = bs.length := by omega
      subst hk'
      rw [markBTo_full] at hO
      rw [List.take_length]
      go_wp2
      go_ret
      exact ⟨rfl, hO, hT⟩

set_option maxRecDepth 100000 in
set_option maxHeartbeats 1000000 in
theorem heldBlockS_any (a : Option Addr) (c : Nat) (bs : List Bk) (k : Int) (w : World) (h : BlocksAt w a (markBs k bs)) (hn : Lens 1048576 bs) (h0 : 0 < k) (h1 : kAfter k bs ≤ 1125899906842624) :
    Calls Try.prog 64 #[.slice a bs.length c, .int .i64 k] w fun e w' => e = .returned (.int .i64 (kAfter k bs)) ∧ Below w.heap.size w w' := by
  have hn1 := hn.1
  go_enter Try.func64, Try.ntmps64
  go_wp2
  go_loopw [1, 5] (fun v i wr => ∃ j : Nat, j ≤ bs.length ∧ i = .int .i64 j ∧ v = .int .i64 (kAfter k (bs.take j)) ∧ Below w.heap.size w wr) (fun _ i _ => bs.length - (intOf i).toNat)
  case atStart => exact ⟨0, Nat.zero_le _, rfl, rfl, Below.refl _ _⟩
  case round =>
    obtain ⟨j, hj, rfl, rfl, hB⟩ := hrel
    by_cases hlt : j < bs.length
    · obtain ⟨b, hb⟩ := getElem?_ex hlt
      obtain ⟨b1, o1, pa, pc, rfl, g10, g11, q⟩ := (h.below hB (Nat.le_refl _)) j _ (markBs_at k hb)
      have hpl := hn.at hb
      have hka := kAfter_take hb k
      have hkb := kAfter_le (bs.take j) k
      simp only [markPs_length] at g10 g11
      have HB := hide hb
      generalize hkk : kAfter k (bs.take j) = kk at *
      have HK := hide hkk
      clear h hb hkk
      go_wp2_with fail
      refine (heldPageS_any _ _ b.pages.length _ _ q hpl (by omega) (by omega)).mono ?_
      rintro e w1 ⟨rfl, hc⟩
      clear g10 g11 q
      go_wp2
      go_roundw
      case rel =>
        refine ⟨j + 1, by omega, by go_num, ?_, hB.trans (hc.mono hB.size)⟩
        rw [take_snoc (unhide HB), kAfter_snoc, unhide HK]
      case measure => simp [intOf]; omega
    · have hk' : j = bs.length := by omega
      subst hk'
      rw [List.take_length]
      go_wp2
      go_ret
      exact ⟨rfl, hB⟩

theorem markChip_any (g : Nat) (H : Nat → Nat) (c : Nat) (bs : List Bk) (k : Int) (w : World) (h : OwnBlocks w 75 44 g H bs.length bs) (hn : Lens 1048576 bs) (h0 : 0 < k) (h1 : kAfter k bs ≤ 1125899906842624) :
    Calls Try.prog 22 #[.agg #[.slice (some ⟨g, 0, none⟩) bs.length c], .int .i64 k] w fun e w' => e = .returned (.int .i64 (kAfter k bs)) ∧ OwnBlocks w' 75 44 g H bs.length (markBs k bs) ∧ Touch (fun j => j = g ∨ ∃ i, i < bs.length ∧ j = H i) w w' := by
  go_enter Try.func22, Try.ntmps22
  go_wp2_with fail
  have hb0 : ∀ o1, Below w.heap.size w (w.alloc o1) := fun o1 => (Below.refl _ w).alloc (Nat.le_refl _) _
  refine (markBlockS_any g H c bs k _ (h.below (hb0 _) (Nat.le_refl _)) hn h0 h1).mono ?_
  rintro e w1 ⟨rfl, hO, hT⟩
  have HO := hide hO
  have HT := hide hT
  clear h hO hT
  go_wp2
  go_ret
  exact ⟨rfl, unhide HO, (Touch.of_below (hb0 _)).trans (unhide HT)⟩

theorem heldChip_any (a : Option Addr) (c : Nat) (bs : List Bk) (k : Int) (w : World) (h : BlocksAt w a (markBs k bs)) (hn : Lens 1048576 bs) (h0 : 0 < k) (h1 : kAfter k bs ≤ 1125899906842624) :
    Calls Try.prog 23 #[.agg #[.slice a bs.length c], .int .i64 k] w fun e w' => e = .returned (.int .i64 (kAfter k bs)) ∧ Below w.heap.size w w' := by
  have hkb := kAfter_le bs k
  go_enter Try.func23, Try.ntmps23
  go_wp2_with fail
  have hb0 : ∀ o1, Below w.heap.size w (w.alloc o1) := fun o1 => (Below.refl _ w).alloc (Nat.le_refl _) _
  refine (heldBlockS_any a c bs k _ (h.below (hb0 _) (Nat.le_refl _)) hn h0 h1).mono ?_
  rintro e w1 ⟨rfl, hc⟩
  clear h
  go_wp2
  go_ret
  exact ⟨rfl, (hb0 _).trans (hc.mono (by simp))⟩
set_option maxRecDepth 100000 in
theorem markBlockS_nil (k : Int) (w : World) : Calls Try.prog 63 #[.slice none 0 0, .int .i64 k] w fun e w' => e = .returned (.int .i64 k) ∧ w' = w := by
  go_enter Try.func63, Try.ntmps63
  go_wp2
  go_loopw [1, 5] (fun v i wr => i = .int .i64 0 ∧ v = .int .i64 k ∧ wr = w) (fun _ _ _ => 0)
  case atStart => exact ⟨rfl, rfl, rfl⟩
  case round =>
    obtain ⟨rfl, rfl, rfl⟩ := hrel
    go_wp2
    go_ret
    exact ⟨rfl, rfl⟩

theorem markChip_nil (k : Int) (w : World) : Calls Try.prog 22 #[.agg #[.slice none 0 0], .int .i64 k] w fun e w' => e = .returned (.int .i64 k) ∧ Below w.heap.size w w' := by
  go_enter Try.func22, Try.ntmps22
  go_wp2_with fail
  refine (markBlockS_nil k _).mono ?_
  rintro e w1 ⟨rfl, rfl⟩
  go_wp2
  go_ret
  exact ⟨rfl, (Below.refl _ w).alloc (Nat.le_refl _) _⟩
end Go.Proofs.Ytageolbmplhgaaa
