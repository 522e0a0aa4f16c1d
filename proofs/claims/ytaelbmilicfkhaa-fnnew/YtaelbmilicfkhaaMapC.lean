/- MapOf, the model's and the program's. -/
import Derived.Test.YtaelbmilicfkhaaMapS
import Derived.Test.YtaelbmilicfkhaaMapI
import Derived.Test.YtaelbmilicfkhaaFreeI
namespace Go.Proofs.Ytaelbmilicfkhaa
open Go.RowKit
set_option linter.unusedVariables false
set_option linter.unusedSimpArgs false

/-- What MapOf answers. -/
def MapOfIs (bs : List Bk) (r : Bool) (L : List Int) : Prop := (ChipOk bs ∧ MapIs bs r L) ∨ (¬ ChipOk bs ∧ r = false ∧ L = [])
theorem MapOfIs.one {bs : List Bk} {r s : Bool} {L M : List Int} (h : MapOfIs bs r L) (k : MapOfIs bs s M) : r = s ∧ L = M := by
  rcases h with ⟨h1, h2⟩ | ⟨h1, rfl, rfl⟩
  · rcases k with ⟨_, k2⟩ | ⟨k1, _⟩
    · exact h2.one k2
    · exact absurd h1 k1
  · rcases k with ⟨k1, _⟩ | ⟨_, rfl, rfl⟩
    · exact absurd k1 h1
    · exact ⟨rfl, rfl⟩
theorem MapOfIs.length {bs : List Bk} {r : Bool} {L : List Int} (h : MapOfIs bs r L) : L.length ≤ 36 := by
  rcases h with ⟨h1, h2⟩ | ⟨_, _, rfl⟩
  · exact h2.length h1.count.2
  · simp
def MapOfRet (bs : List Bk) (t : TypeId) (B : Nat) (e : Ending) (w' : World) : Prop := ∃ (v : Value) (r : Bool) (L : List Int), e = .returned (.tuple #[v, .bool r]) ∧ MapOfIs bs r L ∧ OwnInts w' t B v L


set_option maxRecDepth 100000 in
set_option maxHeartbeats 1000000 in
theorem implMapOf_any (a : Option Addr) (c : Nat) (bs : List Bk) (n : Nat) (hl : bs.length = n) (w : World) (h : BlocksAt w a bs) (hn : Lens 9223372036854775807 bs) :
    Calls Try.prog 50 #[.agg #[.slice a n c]] w fun e w' => MapOfRet bs 2 w.heap.size e w' ∧ Below w.heap.size w w' := by
  subst hl
  have hb0 : ∀ o, Below w.heap.size w (w.alloc o) := fun o => (Below.refl _ w).alloc (Nat.le_refl _) _
  go_enter Try.func50, Try.ntmps50
  go_wp2_with fail
  refine (cellsOf_any a c bs _ (h.below (hb0 _) (Nat.le_refl _)) hn).mono ?_
  rintro e w1 ⟨⟨m, r, rfl, hr, hm⟩, hB1⟩
  have hW1 : Below w.heap.size w w1 := (hb0 _).trans (hB1.mono (by simp))
  have hs1 := hB1.size
  simp at hs1
  have hsc := store_cc m w1
  have hAs := ccA_size m
  have HSZ := hide (sizeCC m)
  have HR := hide hr
  have HM := hide hm
  obtain ⟨A, hA⟩ : ∃ A, A = ccA m := ⟨_, rfl⟩
  rw [← hA] at hsc hAs HSZ ⊢
  have HAE := hide hA
  clear hr hm h hn hB1 hb0 hA
  cases r with
  | false =>
    go_wp2
    go_ret2
    exact ⟨⟨_, false, [], rfl, .inr ⟨(fun hc => by have := (unhide HR).2 hc; cases this), rfl, rfl⟩, World.ownsRow_nil _ _ _ _⟩, hW1.alloc hW1.size _⟩
  | true =>
    have hok := (unhide HR).1 rfl
    have hc12 := hok.count
    obtain ⟨hct, hbss⟩ := unhide HM rfl
    have HO := hide hok
    have HS := hide hbss
    have HC := hide hct
    clear hok hbss hct HM
    go_wp2_with fail
    refine wp_load_row 74 _ rfl w1.heap.size rfl 74 A (0, 0) _ (Go.Deep.blk_alloc_new _ _) Try.underlying74 rfl (unhide HSZ) ?_
    clear hsc
    go_wp2_with fail
    rw [unhide HAE]
    refine (newestPlaces_any m bs.length (unhide HC) hc12.1 hc12.2 bs rfl (unhide HS) (unhide HO) _).mono ?_
    rintro e w2 ⟨⟨v, r, L, rfl, hM, hv⟩, hB2⟩
    have HV := hide hv
    have HM := hide hM
    have hW2 : Below w.heap.size w w2 := (hW1.alloc hW1.size _).trans (hB2.mono (by simp; omega))
    clear hv hB2 hM
    generalize ccA m = A2 at *
    go_wp2
    go_ret2
    exact ⟨⟨_, r, L, rfl, .inl ⟨unhide HO, unhide HM⟩, (unhide HV).lower (by simp; omega)⟩, hW2⟩
end Go.Proofs.Ytaelbmilicfkhaa
