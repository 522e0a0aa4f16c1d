/- The model's FreeOf. -/
import Derived.Test.YtageolbmplhgaaaFreeP
import Derived.Test.YtageolbmplhgaaaSpecOk
import Derived.Test.YtageolbmplhgaaaNew
import Derived.WalkKit
import Derived.Outline
namespace Go.Proofs.Ytageolbmplhgaaa
open Go.RowKit
set_option linter.unusedVariables false
set_option linter.unusedSimpArgs false

theorem infoInt64 : (Try.prog.info? 2).map (fun i => (i.zero, i.size, i.bytes)) = some (some (.int .i64 0), 1, 8) := by kernel_rfl

set_option maxRecDepth 100000 in
set_option maxHeartbeats 1000000 in
theorem l1Free_any (a : Option Addr) (c : Nat) (bs : List Bk) (n : Nat) (hl : bs.length = n) (hok : ChipOk bs) (w : World) (h : BlocksAt w a bs) :
    Calls Try.prog 71 #[.agg #[.slice a n c]] w fun e w' => ∃ v, e = .returned v ∧ OwnInts w' 2 (w.heap.size + 1) v (freeTo bs n) ∧ Below w.heap.size w w' := by
  have hn12 : n ≤ 12 := by have := hok.count; omega
  go_enter Try.func71, Try.ntmps71
  go_wp2
  go_loopw [3, 4] (fun v i wr => ∃ k : Nat, k ≤ n ∧ i = .int .i64 k ∧ OwnInts wr 2 (w.heap.size + 1) v (freeTo bs k) ∧ Below (w.heap.size + 1) (w.alloc (.cells #[.slice a n c] 29)) wr) (fun _ i _ => n - (intOf i).toNat)
  case atStart =>
    refine ⟨0, Nat.zero_le _, rfl, ?_, ?_⟩
    · have := World.ownsRow_lit (base := w.heap.size + 1) (e := 2) (size := 1) (w.alloc (.cells #[.slice a n c] 29)) #[] 0 (by simp) (by unfold maxLen; omega) rfl
      simpa [OwnInts, ints, freeTo] using this
    · exact (Below.refl _ _).alloc (by simp) _
  case round =>
    obtain ⟨k, hk, rfl, hO, hB⟩ := hrel
    have hsz := hB.size
    simp at hsz
    have hbox : wr.cell? ⟨w.heap.size, 0, none⟩ = some (.slice a n c) := by
      rw [hB.cell (p := ⟨w.heap.size, 0, none⟩) (by simp)]
      simp
    by_cases hlt : k < n
    · obtain ⟨x, hx⟩ := getElem?_ex (l := bs) (k := k) (by omega)
      have hW : Below w.heap.size w wr := ((Below.refl _ w).alloc (Nat.le_refl _) _).trans (hB.mono (by omega))
      obtain ⟨g, o, pa, pc, rfl, hcw, hcp, hpa⟩ := (h.below hW (Nat.le_refl _)) k x hx
      have h4 := (hok.block x (List.mem_of_getElem? hx)).four
      rw [h4] at hcp
      obtain ⟨p, hp⟩ := getElem?_ex (l := x.pages) (k := 0) (by omega)
      obtain ⟨pb, po, rfl, c0, _⟩ := hpa 0 p hp
      have hbg : begun bs k = p.used := by simp [begun, hx, pu, pagesF, hp]
      have hst := freeTo_succ bs k
      have hln := freeTo_length bs k
      rw [hbg] at hst
      obtain ⟨u, lg, s, d⟩ := p
      simp only at c0 hst
      rw [Nat.zero_mul, Nat.add_zero] at c0
      have HO := hide hO
      have HS := hide hst
      clear hO hst hbg hp hpa h hok
      cases u with
      | true =>
        go_wp2
        go_roundw
        case rel =>
          refine ⟨k + 1, by omega, by go_num, ?_, hB⟩
          rw [unhide HS]
          simpa using unhide HO
        case measure => simp [intOf]; omega
      | false =>
        obtain ⟨i0, hi, hz0, hz1, hz2⟩ := info_parts infoInt64
        obtain ⟨X, hX⟩ : ∃ X, X = ints (freeTo bs k) := ⟨_, rfl⟩
        obtain ⟨m, hm⟩ : ∃ m, m = (freeTo bs k).length := ⟨_, rfl⟩
        have hR : wr.ownsRow (w.heap.size + 1) 2 1 u3 m X := by rw [hX, hm]; exact unhide HO
        rw [← hm] at hln
        have HX := hide (And.intro hX hm)
        clear hX hm
        go_wp2_with (refine wpList_append_lies _ rfl (.tmp 23) (.tmp 25) 48 rfl (w.heap.size + 1) 2 i0 _ 1 8 Try.underlying48 hi hz0 hz1 hz2 rfl (by decide) u3 m X (by simp [Act.eval]) (by exact hR.alloc _) ⟨wr.heap.size, 0, none⟩ 1 1 [.int .i64 (k : Int)] (by simp [Act.eval]) rfl (World.news_of_block (cs := #[.int .i64 (k : Int)]) (t := 2) (fr := (0, 0)) (by exact Go.Deep.blk_alloc_new _ _)) (by simp [Value.oneCell']) (by omega) (by unfold maxLen; omega) (by omega) (by simp; omega) (wr.heap.size + 1) (by simp) ?_; intro g1 cap w1 hown hgrow hat hlt1)
        go_roundw
        case rel =>
          refine ⟨k + 1, by omega, by go_num, ?_, ?_⟩
          · rw [unhide HS]
            obtain ⟨e1, e2⟩ := unhide HX
            rw [e1, e2] at hown
            rw [e2]
            simpa [OwnInts, ints] using hown
          · refine Below.grown (hB.alloc (by omega) _) hgrow (by simp; omega) (fun j e => ?_)
            exact (hR.lt j e).1
        case measure => simp [intOf]; omega
    · have hk' : k = n := by omega
      subst hk'
      have HO := hide hO
      clear hO h
      go_wp2
      go_ret
      exact ⟨_, rfl, unhide HO, ((Below.refl _ w).alloc (Nat.le_refl _) _).trans (hB.mono (by omega))⟩

end Go.Proofs.Ytageolbmplhgaaa
