/- Lists of texts that a call has built itself; drawn texts. -/
import Derived.Test.YtaelbmilicfkhaaChecked
import Derived.Test.YtaelbmilicfkhaaOpenI
import Derived.Test.YtaelbmilicfkhaaDr0
import Derived.WalkKit
import Derived.Outline
namespace Go.Proofs.Ytaelbmilicfkhaa
open Go.RowKit
set_option linter.unusedVariables false
set_option linter.unusedSimpArgs false

def texts (T : List ByteArray) : List Value := T.map Value.string
theorem texts_length (T : List ByteArray) : (texts T).length = T.length := by simp [texts]

/-- The slice v holds the texts T, in a row that was made from block B on and may be written. -/
def OwnTexts (w : World) (t : TypeId) (B : Nat) (v : Value) (T : List ByteArray) : Prop := w.ownsRow B t 1 v T.length (texts T)

theorem OwnTexts.touch {w w' : World} {t : TypeId} {B r : Nat} {v : Value} {T : List ByteArray} (h : OwnTexts w t B v T) (hr : r < B) (hT : Touch (· = r) w w') : OwnTexts w' t B v T := by
  refine ⟨h.1, ?_⟩
  rcases h.2 with ⟨hv, hl⟩ | ⟨g, cap, cur, rfl, hb, hg, hrest⟩
  · exact .inl ⟨hv, hl⟩
  · refine .inr ⟨g, cap, cur, rfl, hb, ?_, hrest⟩
    rw [hT.block g (Array.getElem?_eq_some_iff.1 hg).1 (by show ¬ g = r; omega)]
    exact hg

theorem OwnTexts.below {w w' : World} {t : TypeId} {B : Nat} {v : Value} {T : List ByteArray} (h : OwnTexts w t B v T) (hb : Below w.heap.size w w') : OwnTexts w' t B v T := by
  refine ⟨h.1, ?_⟩
  rcases h.2 with ⟨hv, hl⟩ | ⟨g, cap, cur, rfl, hB, hg, hrest⟩
  · exact .inl ⟨hv, hl⟩
  · refine .inr ⟨g, cap, cur, rfl, hB, ?_, hrest⟩
    rw [hb.block g (Array.getElem?_eq_some_iff.1 hg).1]
    exact hg

theorem OwnTexts.form {w : World} {t : TypeId} {B : Nat} {v : Value} {T : List ByteArray} (h : OwnTexts w t B v T) : ∃ a c, v = .slice a T.length c ∧ TextsAt w a T ∧ T.length ≤ c := by
  have h0 := h
  rcases h.2 with ⟨hv, hl⟩ | ⟨g, cap, cur, rfl, hb, hg, hn, hm, _⟩
  · exact ⟨none, 0, by rw [hv, hl], fun i x hx => by have := (List.getElem?_eq_some_iff.1 hx).1; omega, by omega⟩
  · refine ⟨_, _, rfl, fun i x hx => ⟨g, 0, rfl, ?_⟩, hn⟩
    have hi := (List.getElem?_eq_some_iff.1 hx).1
    rw [Nat.zero_add, World.ownsRow.cellAt h0 i (by omega)]
    simp [texts, hx]

theorem OwnTexts.nil (w : World) (t : TypeId) (B : Nat) (hB : B ≤ w.heap.size) : OwnTexts (w.alloc (.cells #[] t)) t B (.slice (some ⟨w.heap.size, 0, none⟩) 0 0) [] := by
  have := World.ownsRow_lit (base := B) (e := t) (size := 1) w #[] 0 hB (by unfold maxLen; omega) rfl
  simpa [OwnTexts, texts] using this

theorem infoText : (Try.prog.info? 9).map (fun i => (i.zero, i.size, i.bytes)) = some (some (.string ByteArray.empty), 1, 16) := by kernel_rfl

theorem info_got {P : Program} {t : TypeId} {z : Value} {s b : Nat} (h : (P.info? t).map (fun i => (i.zero, i.size, i.bytes)) = some (some z, s, b)) : ∃ i, P.info? t = some i ∧ i.zero = some z ∧ i.size = s ∧ i.bytes = b := by
  obtain ⟨i, hi, hz⟩ := Option.map_eq_some_iff.1 h
  simp only [Prod.mk.injEq] at hz
  exact ⟨i, hi, hz.1, hz.2.1, hz.2.2⟩

set_option maxHeartbeats 1000000 in
theorem data_any (r : Nat) (w : World) (h : RdAt w r) :
    Calls Try.prog 68 #[.pointer (some ⟨r, 0, none⟩)] w fun e w' => ∃ x : ByteArray, e = .returned (.string x) ∧ x.size = 4 ∧ RdAt w' r ∧ Touch (· = r) w w' := by
  have hrl := h.lt
  have hB1 : ∀ o, Below w.heap.size w (w.alloc o) := fun o => (Below.refl _ _).alloc (Nat.le_refl _) _
  go_enter Try.func68, Try.ntmps68
  go_wp2_with fail
  refine (below_any r 6 _ (h.below (hB1 _)) (by omega) (by omega)).mono ?_
  rintro e w2 ⟨y, rfl, hy0, hy1, hR2, hT2⟩
  have HR2 := hide hR2
  have hT3 := ((Touch.refl (· = r) w).alloc _).trans hT2
  have hc := fun o => hT2.cell (b := w.heap.size) (o := o) (by simp) (by show ¬ w.heap.size = r; omega)
  have c0 := (hc 0).trans (by simp; rfl)
  have c1 := (hc 1).trans (by simp; rfl)
  have c2 := (hc 2).trans (by simp; rfl)
  have c3 := (hc 3).trans (by simp; rfl)
  have c4 := (hc 4).trans (by simp; rfl)
  have c5 := (hc 5).trans (by simp; rfl)
  have h4 : y = 0 ∨ y = 1 ∨ y = 2 ∨ y = 3 ∨ y = 4 ∨ y = 5 := by omega
  clear hR2 hT2 hc h hB1
  rcases h4 with rfl | rfl | rfl | rfl | rfl | rfl
  all_goals (
    go_wp2
    go_ret
    exact ⟨_, rfl, rfl, unhide HR2, hT3⟩)

end Go.Proofs.Ytaelbmilicfkhaa
