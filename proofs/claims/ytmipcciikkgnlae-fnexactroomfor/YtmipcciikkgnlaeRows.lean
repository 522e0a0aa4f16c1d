/-
  No cell of these rows narrows 'for every input' (looked for: loops, veiled, ifaces, maps, wideKeys, modest, calm, conditions, laid).
  DERIVED. THE GIVEN ROWS OF THIS SEAT. 6 by the template 'for every input the law returns true; each argument reads behind the call as it read before'; 0 by the template 'total and deterministic' (their statements: YtmipcciikkgnlaeTotals.lean).
  GIVEN WITH THE SEED: the statements are not yours to turn. If you find one false, say at which input.
  Laid BY PROGRAM, IN A SANDBOX (cutbox-rows.mjs): the forced cells as the released guide's own fill.sh prints them over the translation 8ec12fb16e83280e… (all of the seat's roots in one cut). By AI agents, Wed Nov 11 2026. No macro, syntax, notation, axiom, sorry.
-/
import Derived.Test.YtmipcciikkgnlaeChecked
import GoSem.Claim
import GoSem.ClaimJoined
import GoSem.ClaimMapViews
import Derived.JoinedTies
import Derived.KernelRfl
namespace Go.Proofs.Ytmipcciikkgnlae
/- THE CELL 'sum', in the pinned program and in every row, IS THE sha256 OF THE DUMP (.gsa) THAT YtmipcciikkgnlaeProg.lean LOADS. Nothing in Lean hashes anything: it is a label: what it is worth is what the hold of that sum in a sandbox is worth. -/
noncomputable def Try.pinned : Pinned := { name := "ytmipcciikkgnlae", sum := "8ec12fb16e83280edbadede4276baf82bd3e57b6e116a9866d37a1075845c5d3", checked := Try.checked }
namespace Rows
def none {H : Type} : Left H := { results := [], args := [] }

/-- 'laws.FnExactNextOf': WHATEVER THE INPUT: true; the input reads as it did. -/
def fnExactNextOfSpec : ChangeSpec := { name := "fnExactNextOf", fn := fun _ => fun
  | [d1, d2] => { results := [.lit (.bool true)], args := [d1, d2] }
  | _ => none }
def fnExactNextOfRow : OpenClaim := { program := "ytmipcciikkgnlae", sum := "8ec12fb16e83280edbadede4276baf82bd3e57b6e116a9866d37a1075845c5d3", func := "loop.example/g00374/laws.FnExactNextOf", spec := "fnExactNextOf", unfollowed := true, recurses := true, apart := false }
def FnExactNextOfSaid : Prop := fnExactNextOfRow.holds Try.pinned (OpenSpec.ofChange fnExactNextOfSpec)

/-- ITS FALSE NEIGHBOUR: 'it returns false'. Refute it at one input. -/
def fnExactNextOfWrong : ChangeSpec := { name := "fnExactNextOf", fn := fun _ => fun
  | [d1, d2] => { results := [.lit (.bool false)], args := [d1, d2] }
  | _ => none }
def FnExactNextOfWrongFalsely : Prop := fnExactNextOfRow.holds Try.pinned (OpenSpec.ofChange fnExactNextOfWrong)

/-- 'laws.FnExactProgrammed': WHATEVER THE INPUT: true; the input reads as it did. -/
def fnExactProgrammedSpec : ChangeSpec := { name := "fnExactProgrammed", fn := fun _ => fun
  | [d1, d2, d3] => { results := [.lit (.bool true)], args := [d1, d2, d3] }
  | _ => none }
def fnExactProgrammedRow : OpenClaim := { program := "ytmipcciikkgnlae", sum := "8ec12fb16e83280edbadede4276baf82bd3e57b6e116a9866d37a1075845c5d3", func := "loop.example/g00374/laws.FnExactProgrammed", spec := "fnExactProgrammed", unfollowed := true, recurses := true, apart := false }
def FnExactProgrammedSaid : Prop := fnExactProgrammedRow.holds Try.pinned (OpenSpec.ofChange fnExactProgrammedSpec)

/-- ITS FALSE NEIGHBOUR: 'it returns false'. Refute it at one input. -/
def fnExactProgrammedWrong : ChangeSpec := { name := "fnExactProgrammed", fn := fun _ => fun
  | [d1, d2, d3] => { results := [.lit (.bool false)], args := [d1, d2, d3] }
  | _ => none }
def FnExactProgrammedWrongFalsely : Prop := fnExactProgrammedRow.holds Try.pinned (OpenSpec.ofChange fnExactProgrammedWrong)

/-- 'laws.FnExactErased': WHATEVER THE INPUT: true; the input reads as it did. -/
def fnExactErasedSpec : ChangeSpec := { name := "fnExactErased", fn := fun _ => fun
  | [d1, d2] => { results := [.lit (.bool true)], args := [d1, d2] }
  | _ => none }
def fnExactErasedRow : OpenClaim := { program := "ytmipcciikkgnlae", sum := "8ec12fb16e83280edbadede4276baf82bd3e57b6e116a9866d37a1075845c5d3", func := "loop.example/g00374/laws.FnExactErased", spec := "fnExactErased", unfollowed := true, recurses := true, apart := false }
def FnExactErasedSaid : Prop := fnExactErasedRow.holds Try.pinned (OpenSpec.ofChange fnExactErasedSpec)

/-- ITS FALSE NEIGHBOUR: 'it returns false'. Refute it at one input. -/
def fnExactErasedWrong : ChangeSpec := { name := "fnExactErased", fn := fun _ => fun
  | [d1, d2] => { results := [.lit (.bool false)], args := [d1, d2] }
  | _ => none }
def FnExactErasedWrongFalsely : Prop := fnExactErasedRow.holds Try.pinned (OpenSpec.ofChange fnExactErasedWrong)

/-- 'laws.FnExactFreeOf': WHATEVER THE INPUT: true; the input reads as it did. -/
def fnExactFreeOfSpec : ChangeSpec := { name := "fnExactFreeOf", fn := fun _ => fun
  | [d] => { results := [.lit (.bool true)], args := [d] }
  | _ => none }
def fnExactFreeOfRow : OpenClaim := { program := "ytmipcciikkgnlae", sum := "8ec12fb16e83280edbadede4276baf82bd3e57b6e116a9866d37a1075845c5d3", func := "loop.example/g00374/laws.FnExactFreeOf", spec := "fnExactFreeOf", unfollowed := true, recurses := true, apart := false }
def FnExactFreeOfSaid : Prop := fnExactFreeOfRow.holds Try.pinned (OpenSpec.ofChange fnExactFreeOfSpec)

/-- ITS FALSE NEIGHBOUR: 'it returns false'. Refute it at one input. -/
def fnExactFreeOfWrong : ChangeSpec := { name := "fnExactFreeOf", fn := fun _ => fun
  | [d] => { results := [.lit (.bool false)], args := [d] }
  | _ => none }
def FnExactFreeOfWrongFalsely : Prop := fnExactFreeOfRow.holds Try.pinned (OpenSpec.ofChange fnExactFreeOfWrong)

/-- 'laws.FnExactRoomFor': WHATEVER THE INPUT: true; the input reads as it did. -/
def fnExactRoomForSpec : ChangeSpec := { name := "fnExactRoomFor", fn := fun _ => fun
  | [d] => { results := [.lit (.bool true)], args := [d] }
  | _ => none }
def fnExactRoomForRow : OpenClaim := { program := "ytmipcciikkgnlae", sum := "8ec12fb16e83280edbadede4276baf82bd3e57b6e116a9866d37a1075845c5d3", func := "loop.example/g00374/laws.FnExactRoomFor", spec := "fnExactRoomFor", apart := false }
def FnExactRoomForSaid : Prop := fnExactRoomForRow.holds Try.pinned (OpenSpec.ofChange fnExactRoomForSpec)

/-- ITS FALSE NEIGHBOUR: 'it returns false'. Refute it at one input. -/
def fnExactRoomForWrong : ChangeSpec := { name := "fnExactRoomFor", fn := fun _ => fun
  | [d] => { results := [.lit (.bool false)], args := [d] }
  | _ => none }
def FnExactRoomForWrongFalsely : Prop := fnExactRoomForRow.holds Try.pinned (OpenSpec.ofChange fnExactRoomForWrong)

/-- 'laws.FnExactFtlOk': WHATEVER THE INPUT: true; the input reads as it did. -/
def fnExactFtlOkSpec : ChangeSpec := { name := "fnExactFtlOk", fn := fun _ => fun
  | [d] => { results := [.lit (.bool true)], args := [d] }
  | _ => none }
def fnExactFtlOkRow : OpenClaim := { program := "ytmipcciikkgnlae", sum := "8ec12fb16e83280edbadede4276baf82bd3e57b6e116a9866d37a1075845c5d3", func := "loop.example/g00374/laws.FnExactFtlOk", spec := "fnExactFtlOk", unfollowed := true, recurses := true, apart := false }
def FnExactFtlOkSaid : Prop := fnExactFtlOkRow.holds Try.pinned (OpenSpec.ofChange fnExactFtlOkSpec)

/-- ITS FALSE NEIGHBOUR: 'it returns false'. Refute it at one input. -/
def fnExactFtlOkWrong : ChangeSpec := { name := "fnExactFtlOk", fn := fun _ => fun
  | [d] => { results := [.lit (.bool false)], args := [d] }
  | _ => none }
def FnExactFtlOkWrongFalsely : Prop := fnExactFtlOkRow.holds Try.pinned (OpenSpec.ofChange fnExactFtlOkWrong)

/- THE SECOND FORM. 'bulk': how many values and letters a reading holds, each counted each time it is reached (what is shared counts as often as it is met; a slice's spare places count too). A statement '..UptoSaid' is the law's where the arguments, and the package variables that the reading takes, are together of bulk at most 1048576: NARROWER than '..Said'. Prove '..Said' where nothing that the law and all that it calls make is longer than what came in: it says more and counts as full. Else prove '..UptoSaid'. A law counts once. -/
mutual
def uptoBulk {H : Type} : DataW H → Nat
  | .lit (.string bytes) => bytes.length + 1
  | .lit _ => 1
  | .nil => 1
  | .ptr d => uptoBulk d + 1
  | .slice elems spare => uptoBulkAll elems + uptoBulkAll spare + 1
  | .agg parts => uptoBulkAll parts + 1
  | .iface _ d => uptoBulk d + 1
  | .map entries => uptoBulkEntries entries + 1
  | .held _ => 1
def uptoBulkAll {H : Type} : List (DataW H) → Nat
  | [] => 0
  | d :: r => uptoBulk d + uptoBulkAll r
def uptoBulkEntries {H : Type} : List (Lit × DataW H) → Nat
  | [] => 0
  | x :: r => uptoBulkEntry x + uptoBulkEntries r
def uptoBulkEntry {H : Type} : Lit × DataW H → Nat
  | (.string bytes, d) => bytes.length + uptoBulk d + 1
  | (_, d) => uptoBulk d + 1
 end
def uptoSmall : (H : Type) → List (DataW H) → Bool := fun _ ds => decide (uptoBulkAll ds ≤ 1048576)
def OpenSpec.upto (s : _root_.Go.ChangeSpec) : _root_.Go.OpenSpec := { _root_.Go.OpenSpec.ofChange s with cond := some uptoSmall }

/-- 'laws.FnExactNextOf', WHERE WHAT IT READS IS OF BULK AT MOST 1048576: true; the input reads as it did. -/
def fnExactNextOfUptoRow : OpenClaim := { program := "ytmipcciikkgnlae", sum := "8ec12fb16e83280edbadede4276baf82bd3e57b6e116a9866d37a1075845c5d3", func := "loop.example/g00374/laws.FnExactNextOf", spec := "fnExactNextOf", unfollowed := true, recurses := true, apart := false, narrowed := true }
def FnExactNextOfUptoSaid : Prop := fnExactNextOfUptoRow.holds Try.pinned (OpenSpec.upto fnExactNextOfSpec)

/-- 'laws.FnExactProgrammed', WHERE WHAT IT READS IS OF BULK AT MOST 1048576: true; the input reads as it did. -/
def fnExactProgrammedUptoRow : OpenClaim := { program := "ytmipcciikkgnlae", sum := "8ec12fb16e83280edbadede4276baf82bd3e57b6e116a9866d37a1075845c5d3", func := "loop.example/g00374/laws.FnExactProgrammed", spec := "fnExactProgrammed", unfollowed := true, recurses := true, apart := false, narrowed := true }
def FnExactProgrammedUptoSaid : Prop := fnExactProgrammedUptoRow.holds Try.pinned (OpenSpec.upto fnExactProgrammedSpec)

/-- 'laws.FnExactErased', WHERE WHAT IT READS IS OF BULK AT MOST 1048576: true; the input reads as it did. -/
def fnExactErasedUptoRow : OpenClaim := { program := "ytmipcciikkgnlae", sum := "8ec12fb16e83280edbadede4276baf82bd3e57b6e116a9866d37a1075845c5d3", func := "loop.example/g00374/laws.FnExactErased", spec := "fnExactErased", unfollowed := true, recurses := true, apart := false, narrowed := true }
def FnExactErasedUptoSaid : Prop := fnExactErasedUptoRow.holds Try.pinned (OpenSpec.upto fnExactErasedSpec)

/-- 'laws.FnExactFreeOf', WHERE WHAT IT READS IS OF BULK AT MOST 1048576: true; the input reads as it did. -/
def fnExactFreeOfUptoRow : OpenClaim := { program := "ytmipcciikkgnlae", sum := "8ec12fb16e83280edbadede4276baf82bd3e57b6e116a9866d37a1075845c5d3", func := "loop.example/g00374/laws.FnExactFreeOf", spec := "fnExactFreeOf", unfollowed := true, recurses := true, apart := false, narrowed := true }
def FnExactFreeOfUptoSaid : Prop := fnExactFreeOfUptoRow.holds Try.pinned (OpenSpec.upto fnExactFreeOfSpec)

/-- 'laws.FnExactRoomFor', WHERE WHAT IT READS IS OF BULK AT MOST 1048576: true; the input reads as it did. -/
def fnExactRoomForUptoRow : OpenClaim := { program := "ytmipcciikkgnlae", sum := "8ec12fb16e83280edbadede4276baf82bd3e57b6e116a9866d37a1075845c5d3", func := "loop.example/g00374/laws.FnExactRoomFor", spec := "fnExactRoomFor", apart := false, narrowed := true }
def FnExactRoomForUptoSaid : Prop := fnExactRoomForUptoRow.holds Try.pinned (OpenSpec.upto fnExactRoomForSpec)

/-- 'laws.FnExactFtlOk', WHERE WHAT IT READS IS OF BULK AT MOST 1048576: true; the input reads as it did. -/
def fnExactFtlOkUptoRow : OpenClaim := { program := "ytmipcciikkgnlae", sum := "8ec12fb16e83280edbadede4276baf82bd3e57b6e116a9866d37a1075845c5d3", func := "loop.example/g00374/laws.FnExactFtlOk", spec := "fnExactFtlOk", unfollowed := true, recurses := true, apart := false, narrowed := true }
def FnExactFtlOkUptoSaid : Prop := fnExactFtlOkUptoRow.holds Try.pinned (OpenSpec.upto fnExactFtlOkSpec)

end Rows
end Go.Proofs.Ytmipcciikkgnlae
