/- What is read of a log: in plain words, and the model's l2Page and PageAt. -/
import Derived.Test.YtageolbmplhgaaaValP
import Derived.Test.YtageolbmplhgaaaFtlS
import Derived.WalkKit
import Derived.Laws.IdiomStrings
namespace Go.Proofs.Ytageolbmplhgaaa
open Go.RowKit
set_option linter.unusedVariables false
set_option linter.unusedSimpArgs false

def zeros4 : ByteArray := ⟨#[0, 0, 0, 0]⟩
/-- What stands at a place. -/
def pageOf (bs : List Bk) (x : Int) : Pg := pagesF ((bs[(x / 4).toNat]?.map (·.pages)).getD []) (x % 4).toNat
def dataOf (bs : List Bk) (x : Int) : ByteArray := if x < 0 then zeros4 else (pageOf bs x).data
theorem pageOf_at {bs : List Bk} {x : Int} {b k : Nat} {y : Bk} {p : Pg} (hb : x / 4 = (b : Int)) (hk : x % 4 = (k : Int)) (hy : bs[b]? = some y) (hp : y.pages[k]? = some p) : pageOf bs x = p := by
  unfold pageOf
  rw [hb, hk]
  simp [hy, pagesF, hp]
theorem dataOf_at {bs : List Bk} {x : Int} {b k : Nat} {y : Bk} {p : Pg} (h0 : 0 ≤ x) (hb : x / 4 = (b : Int)) (hk : x % 4 = (k : Int)) (hy : bs[b]? = some y) (hp : y.pages[k]? = some p) : dataOf bs x = p.data := by
  unfold dataOf
  rw [if_neg (by omega), pageOf_at hb hk hy hp]
theorem dataOf_none {bs : List Bk} {x : Int} (h : x < 0) : dataOf bs x = zeros4 := if_pos h
/-- What PageAt answers. -/
def PageIs (bs : List Bk) (L : List Int) (seq o lg : Int) (d : ByteArray) (r : Bool) : Prop :=
  ((FtlOk bs L seq o ∧ 0 ≤ lg ∧ lg ≤ (L.length : Int) - 1) ∧ r = true ∧ ∃ x, L[lg.toNat]? = some x ∧ d = dataOf bs x) ∨ (¬ (FtlOk bs L seq o ∧ 0 ≤ lg ∧ lg ≤ (L.length : Int) - 1) ∧ r = false ∧ d = ByteArray.empty)
theorem PageIs.one {bs : List Bk} {L : List Int} {seq o lg : Int} {d e : ByteArray} {r s : Bool} (h : PageIs bs L seq o lg d r) (k : PageIs bs L seq o lg e s) : d = e ∧ r = s := by
  rcases h with ⟨h1, rfl, x, hx, rfl⟩ | ⟨h1, rfl, rfl⟩
  · rcases k with ⟨_, rfl, y, hy, rfl⟩ | ⟨k1, _⟩
    · rw [hx] at hy; cases hy; exact ⟨rfl, rfl⟩
    · exact absurd h1 k1
  · rcases k with ⟨k1, _⟩ | ⟨_, rfl, rfl⟩
    · exact absurd k1 h1
    · exact ⟨rfl, rfl⟩

/-- The page at a place that the map of a right member names. -/
theorem FtlOk.placed {bs : List Bk} {L : List Int} {seq o : Int} (h : FtlOk bs L seq o) {x : Int} (hx : x ∈ L) (h0 : 0 ≤ x) : ∃ (b k : Nat) (y : Bk) (p : Pg), x / 4 = (b : Int) ∧ x % 4 = (k : Int) ∧ b < bs.length ∧ k < 4 ∧ bs[b]? = some y ∧ y.pages[k]? = some p := by
  have hp := h.places x hx
  have hc := h.chip.count
  obtain ⟨y, hy⟩ := getElem?_ex (l := bs) (k := (x / 4).toNat) (by omega)
  have h4 := (h.chip.block y (List.mem_of_getElem? hy)).four
  obtain ⟨p, hp'⟩ := getElem?_ex (l := y.pages) (k := (x % 4).toNat) (by omega)
  exact ⟨(x / 4).toNat, (x % 4).toNat, y, p, by omega, by omega, by omega, by omega, hy, hp'⟩

theorem infoByteP : (Try.prog.info? 5).map (fun i => (i.zero, i.size, i.bytes)) = some (some (.int .u8 0), 1, 1) := by kernel_rfl
theorem make_bytes4P (w : World) : (Instr.makeSlice 123 (.int .i64 4) (.int .i64 4)).run Try.prog w = .ok (.slice (some ⟨w.heap.size, 0, none⟩) 4 4) (w.alloc (.cells #[.int .u8 0, .int .u8 0, .int .u8 0, .int .u8 0] 5)) := by
  obtain ⟨i, hi, hz⟩ := Option.map_eq_some_iff.1 infoByteP
  simp only [Prod.mk.injEq] at hz
  obtain ⟨hz0, hz1, hz2⟩ := hz
  have h := run_make (P := Try.prog) w 123 5 i _ Try.underlying123 hi hz0 .i64 .i64 4 4 (by omega) (Int.le_refl _) (by rw [hz2]; omega) (by omega)
  rw [hz1] at h
  have e : madeCells (Value.int .u8 0).cells (4 * 1) = #[.int .u8 0, .int .u8 0, .int .u8 0, .int .u8 0] := by kernel_rfl
  simpa [e] using h
theorem bytes4_string (w : World) : (convert 123 9 (.slice (some ⟨w.heap.size, 0, none⟩) 4 4)).run Try.prog (w.alloc (.cells #[.int .u8 0, .int .u8 0, .int .u8 0, .int .u8 0] 5)) = .ok (.string zeros4) (w.alloc (.cells #[.int .u8 0, .int .u8 0, .int .u8 0, .int .u8 0] 5)) := by
  have h := run_convert_bytes_back (P := Try.prog) (w.alloc (.cells #[.int .u8 0, .int .u8 0, .int .u8 0, .int .u8 0] 5)) 123 9 5 ⟨w.heap.size, 0, none⟩ 4 [0, 0, 0, 0] Try.underlying123 Try.underlying5 Try.underlying9 (fun j hj => by
    rw [Go.WideShapes.add_plain, Nat.zero_add, World.cell?_alloc_mark]
    have h4 : j = 0 ∨ j = 1 ∨ j = 2 ∨ j = 3 := by simp at hj; omega
    rcases h4 with rfl | rfl | rfl | rfl <;> rfl)
  exact h

set_option maxRecDepth 100000 in
set_option maxHeartbeats 1000000 in
theorem l2Page_any (a : Option Addr) (c : Nat) (bs : List Bk) (n : Nat) (hl : bs.length = n) (ma : Option Addr) (mc : Nat) (L : List Int) (mn : Nat) (hL : L.length = mn) (seq o : Int) (hok : FtlOk bs L seq o) (k : Nat) (x : Int) (hx : L[k]? = some x) (w : World) (h : BlocksAt w a bs) (hI : IntsAt w ma L) :
    Calls Try.prog 82 #[.agg #[.slice a n c, .slice ma mn mc, .int .i64 seq, .int .i64 o], .int .i64 (k : Int)] w fun e w' => e = .returned (.string (dataOf bs x)) ∧ Below w.heap.size w w' := by
  have hb0 : ∀ o, Below w.heap.size w (w.alloc o) := fun o => (Below.refl _ w).alloc (Nat.le_refl _) _
  have hk : k < mn := by have := (List.getElem?_eq_some_iff.1 hx).1; omega
  have hm36 : mn ≤ 36 := by have := hok.len36; omega
  have hn12 : n ≤ 12 := by have := hok.chip.count; omega
  obtain ⟨b1, o1, rfl, c1⟩ := hI k x hx
  have hc1 : ∀ o, (w.alloc o).cell? ⟨b1, o1 + k, none⟩ = some (.int .i64 x) := fun o => (cell_alloc_lt _ _ _ _ (World.block_lt_of_cell? _ _ c1)).trans c1
  have hkm : (k : Int) < (mn : Int) := by omega
  by_cases h0 : x < 0
  · have HD := hide (dataOf_none (bs := bs) h0)
    have hmk := make_bytes4P
    have hcv := fun o => bytes4_string (w.alloc o)
    simp only [World.size_alloc] at hcv
    clear h hI c1 hx hok hl hL
    go_enter Try.func82, Try.ntmps82
    go_wp2
    go_ret
    exact ⟨by rw [unhide HD]; rfl, ((Below.refl _ w).alloc (Nat.le_refl _) _).alloc (by simp) _⟩
  · obtain ⟨q, t, y, p, hq, ht, hqb, ht4, hy, hp⟩ := hok.placed (List.mem_of_getElem? hx) (by omega)
    obtain ⟨g, og, pa, pc, rfl, _, hcp, hpa⟩ := h q y hy
    have h4 := (hok.chip.block y (List.mem_of_getElem? hy)).four
    rw [h4] at hcp
    obtain ⟨g2, o2, rfl, _, _, _, hcd⟩ := hpa t p hp
    have HD := hide (dataOf_at (bs := bs) (by omega) hq ht hy hp)
    have hcp' : ∀ o, (w.alloc o).cell? ⟨g, og + q * 2 + 1, none⟩ = some (.slice (some ⟨g2, o2, none⟩) 4 pc) := fun o => (cell_alloc_lt _ _ _ _ (World.block_lt_of_cell? _ _ hcp)).trans hcp
    have hcd' : ∀ o, (w.alloc o).cell? ⟨g2, o2 + t * 4 + 3, none⟩ = some (.string p.data) := fun o => (cell_alloc_lt _ _ _ _ (World.block_lt_of_cell? _ _ hcd)).trans hcd
    have hqn : (q : Int) < (n : Int) := by omega
    have ht4' : (t : Int) < 4 := by omega
    have hx48 : x < 48 := by omega
    have hx0 : 0 ≤ x := by omega
    clear h hI c1 hx hok hl hL hcp hcd hpa hy hp
    go_enter Try.func82, Try.ntmps82
    go_wp2
    go_ret
    exact ⟨by rw [unhide HD]; rfl, hb0 _⟩

set_option maxRecDepth 100000 in
set_option maxHeartbeats 1000000 in
theorem specPageAt_any (a : Option Addr) (c : Nat) (bs : List Bk) (n : Nat) (hl : bs.length = n) (ma : Option Addr) (mc : Nat) (L : List Int) (mn : Nat) (hL : L.length = mn) (seq o lg : Int) (w : World) (h : BlocksAt w a bs) (hn : Lens 1048576 bs) (hI : IntsAt w ma L) (hmn : mn ≤ 1048576) :
    Calls Try.prog 50 #[.agg #[.slice a n c, .slice ma mn mc, .int .i64 seq, .int .i64 o], .int .i64 lg] w fun e w' => ∃ (d : ByteArray) (r : Bool), e = .returned (.tuple #[.string d, .bool r]) ∧ PageIs bs L seq o lg d r ∧ Below w.heap.size w w' := by
  have hb0 : ∀ o, Below w.heap.size w (w.alloc o) := fun o => (Below.refl _ w).alloc (Nat.le_refl _) _
  go_enter Try.func50, Try.ntmps50
  go_wp2_with fail
  refine (specFtlOk_any a c bs n hl ma mc L mn hL seq o _ (h.below (hb0 _) (Nat.le_refl _)) hn (hI.below (hb0 _) (Nat.le_refl _)) hmn).mono ?_
  rintro e w1 ⟨⟨r, rfl, hr⟩, hB1⟩
  have hs1 := hB1.size
  simp at hs1
  have hx0 : w1.cell? ⟨w.heap.size, 0, none⟩ = some (.slice a n c) := by
    rw [hB1.cell (p := ⟨w.heap.size, 0, none⟩) (by simp)]
    simp
  have hx1 : w1.cell? ⟨w.heap.size, 1, none⟩ = some (.slice ma mn mc) := by
    rw [hB1.cell (p := ⟨w.heap.size, 1, none⟩) (by simp)]
    simp
  have hx2 : w1.cell? ⟨w.heap.size, 2, none⟩ = some (.int .i64 seq) := by
    rw [hB1.cell (p := ⟨w.heap.size, 2, none⟩) (by simp)]
    simp
  have hx3 : w1.cell? ⟨w.heap.size, 3, none⟩ = some (.int .i64 o) := by
    rw [hB1.cell (p := ⟨w.heap.size, 3, none⟩) (by simp)]
    simp
  have hW1 : Below w.heap.size w w1 := (hb0 _).trans (hB1.mono (by simp))
  have HR := hide hr
  have HA := hide (h.below hW1 (Nat.le_refl _))
  have HI := hide (hI.below hW1 (Nat.le_refl _))
  have HL := hide hl
  have HLL := hide hL
  clear hr hB1 hb0 h hI hn hl hL
  cases r with
  | false =>
    go_wp2
    exact bodyPost_ret (v := .tuple #[.string ⟨#[]⟩, .bool false]) (by simp [results, Try.results50, go_sem]) rfl ⟨_, _, rfl, .inr ⟨(fun hc => by have := (unhide HR).2 hc.1; cases this), rfl, rfl⟩, hW1⟩
  | true =>
    have hok := (unhide HR).1 (by trivial)
    have HOK := hide hok
    clear hok
    go_wp2_with fail
    refine (l1In_any _ _ _ _).mono ?_
    rintro e w2 ⟨rfl, rfl⟩
    by_cases hin : 0 ≤ lg ∧ lg ≤ (mn : Int) - 1
    · obtain ⟨k, rfl⟩ := Int.eq_ofNat_of_zero_le hin.1
      obtain ⟨x, hx⟩ := getElem?_ex (l := L) (k := k) (by have := unhide HLL; omega)
      have hd : decide ((0 : Int) ≤ (k : Int) ∧ (k : Int) ≤ (mn : Int) - 1) = true := by simpa using hin
      rw [hd]
      have HX := hide hx
      have HIN := hide hin
      clear hx hin hd
      go_wp2_with fail
      refine (l2Page_any a c bs n (unhide HL) ma mc L mn (unhide HLL) seq o (unhide HOK) k x (unhide HX) _ (unhide HA) (unhide HI)).mono ?_
      rintro e w3 ⟨rfl, hB3⟩
      have hW3 := hW1.trans (hB3.mono hW1.size)
      clear hB3 hx0 hx1 hx2 hx3
      go_wp2
      exact bodyPost_ret (v := .tuple #[.string (dataOf bs x), .bool true]) (by simp [results, Try.results50, go_sem]) rfl ⟨_, _, rfl, .inl ⟨⟨unhide HOK, (unhide HIN).1, by rw [unhide HLL]; exact (unhide HIN).2⟩, rfl, x, by simpa using unhide HX, rfl⟩, hW3⟩
    · have hd : decide ((0 : Int) ≤ lg ∧ lg ≤ (mn : Int) - 1) = false := by simpa using hin
      rw [hd]
      go_wp2
      exact bodyPost_ret (v := .tuple #[.string ⟨#[]⟩, .bool false]) (by simp [results, Try.results50, go_sem]) rfl ⟨_, _, rfl, .inr ⟨fun hc => hin (by rw [← unhide HLL]; exact hc.2), rfl, rfl⟩, hW1⟩
end Go.Proofs.Ytageolbmplhgaaa
