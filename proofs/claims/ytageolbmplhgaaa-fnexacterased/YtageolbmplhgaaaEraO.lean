/- Erased's answer owns its memory. -/
import Derived.Test.YtageolbmplhgaaaEraC
import Derived.Test.YtageolbmplhgaaaChipA
namespace Go.Proofs.Ytageolbmplhgaaa
open Go.RowKit
set_option linter.unusedVariables false
set_option linter.unusedSimpArgs false

theorem ErasedIs.lens {bs : List Bk} {blk : Int} {out : List Bk} {code : Int} (h : ErasedIs bs blk out code) (hn : Lens 1048576 bs) : Lens 1048576 out := by
  rcases h with ⟨_, rfl, _⟩ | ⟨_, _, rfl, _⟩ | ⟨_, _, b, hb, ⟨_, rfl, _⟩ | ⟨_, rfl, _⟩⟩
  · exact ⟨by simp, fun b hb => by simp at hb⟩
  · exact hn
  · exact hn
  · refine ⟨by rw [List.length_set]; exact hn.1, fun c hc => ?_⟩
    rcases List.mem_or_eq_of_mem_set hc with h1 | rfl
    · exact hn.2 c h1
    · show (4 : Nat) ≤ _
      omega

theorem implErased_own (a : Option Addr) (c : Nat) (bs : List Bk) (n : Nat) (hl : bs.length = n) (blk : Int) (w : World) (h : BlocksAt w a bs) (hn : Lens 9223372036854775807 bs) :
    Calls Try.prog 31 #[.agg #[.slice a n c], .int .i64 blk] w fun e w' => ∃ a2 n2 c2 out code, e = .returned (.tuple #[.agg #[.slice a2 n2 c2], .int .i64 code]) ∧ ErasedIs bs blk out code ∧ ChipOwn w' w.heap.size w'.heap.size a2 n2 c2 out ∧ Below w.heap.size w w' := by
  refine (implErased_any a c bs n hl blk w h hn).mono ?_
  rintro e w' (⟨hno, rfl, hB⟩ | ⟨hok, g, H, out, code, rfl, hE, hol, hg, hO, hB⟩)
  · exact ⟨none, 0, 0, [], 1, rfl, .inl ⟨hno, rfl, rfl⟩, ⟨rfl, .inl ⟨rfl, rfl, rfl⟩⟩, hB⟩
  · exact ⟨_, n, n, out, code, rfl, hE, ⟨hol, .inr ⟨g, H, rfl, hg, hO.row.lt, fun i hi => ⟨hO.ahead i (by omega), hO.lt (by omega)⟩, hO⟩⟩, hB⟩
end Go.Proofs.Ytageolbmplhgaaa
