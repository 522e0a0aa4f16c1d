/-
  No cell of these rows narrows 'for every input' (looked for: loops, veiled, ifaces, maps, wideKeys, modest, calm, conditions, laid).
  DERIVED. THE GIVEN ROWS OF THIS SEAT. 9 by the template 'for every input the law returns true; each argument reads behind the call as it read before'; 0 by the template 'total and deterministic' (their statements: YtimencianaclmaaTotals.lean).
  GIVEN WITH THE SEED: the statements are not yours to turn. If you find one false, say at which input.
  Laid BY PROGRAM, IN A SANDBOX (cutbox-rows.mjs): the forced cells as the released guide's own fill.sh prints them over the translation 98e511d20bb9462e… (all of the seat's roots in one cut). By AI agents, Wed Nov 11 2026. No macro, syntax, notation, axiom, sorry.
-/
import Derived.Test.YtimencianaclmaaChecked
import GoSem.Claim
import GoSem.ClaimJoined
import GoSem.ClaimMapViews
import Derived.JoinedTies
import Derived.KernelRfl
namespace Go.Proofs.Ytimencianaclmaa
/- THE CELL 'sum', in the pinned program and in every row, IS THE sha256 OF THE DUMP (.gsa) THAT YtimencianaclmaaProg.lean LOADS. Nothing in Lean hashes anything: it is a label: what it is worth is what the hold of that sum in a sandbox is worth. -/
noncomputable def Try.pinned : Pinned := { name := "ytimencianaclmaa", sum := "98e511d20bb9462e8b5b343fac7c2fd34fb4d1d6980082e1cb0e65152eed2e33", checked := Try.checked }
namespace Rows
def none {H : Type} : Left H := { results := [], args := [] }

/-- 'laws.FnProgrammed': WHATEVER THE INPUT: true; the input reads as it did. -/
def fnProgrammedSpec : ChangeSpec := { name := "fnProgrammed", fn := fun _ => fun
  | [d] => { results := [.lit (.bool true)], args := [d] }
  | _ => none }
def fnProgrammedRow : OpenClaim := { program := "ytimencianaclmaa", sum := "98e511d20bb9462e8b5b343fac7c2fd34fb4d1d6980082e1cb0e65152eed2e33", func := "loop.example/g00374/laws.FnProgrammed", spec := "fnProgrammed", unfollowed := true, recurses := true, apart := false }
def FnProgrammedSaid : Prop := fnProgrammedRow.holds Try.pinned (OpenSpec.ofChange fnProgrammedSpec)

/-- ITS FALSE NEIGHBOUR: 'it returns false'. Refute it at one input. -/
def fnProgrammedWrong : ChangeSpec := { name := "fnProgrammed", fn := fun _ => fun
  | [d] => { results := [.lit (.bool false)], args := [d] }
  | _ => none }
def FnProgrammedWrongFalsely : Prop := fnProgrammedRow.holds Try.pinned (OpenSpec.ofChange fnProgrammedWrong)

/-- 'laws.FnErased': WHATEVER THE INPUT: true; the input reads as it did. -/
def fnErasedSpec : ChangeSpec := { name := "fnErased", fn := fun _ => fun
  | [d] => { results := [.lit (.bool true)], args := [d] }
  | _ => none }
def fnErasedRow : OpenClaim := { program := "ytimencianaclmaa", sum := "98e511d20bb9462e8b5b343fac7c2fd34fb4d1d6980082e1cb0e65152eed2e33", func := "loop.example/g00374/laws.FnErased", spec := "fnErased", unfollowed := true, recurses := true, apart := false }
def FnErasedSaid : Prop := fnErasedRow.holds Try.pinned (OpenSpec.ofChange fnErasedSpec)

/-- ITS FALSE NEIGHBOUR: 'it returns false'. Refute it at one input. -/
def fnErasedWrong : ChangeSpec := { name := "fnErased", fn := fun _ => fun
  | [d] => { results := [.lit (.bool false)], args := [d] }
  | _ => none }
def FnErasedWrongFalsely : Prop := fnErasedRow.holds Try.pinned (OpenSpec.ofChange fnErasedWrong)

/-- 'laws.FnPageAt': WHATEVER THE INPUT: true; the input reads as it did. -/
def fnPageAtSpec : ChangeSpec := { name := "fnPageAt", fn := fun _ => fun
  | [d] => { results := [.lit (.bool true)], args := [d] }
  | _ => none }
def fnPageAtRow : OpenClaim := { program := "ytimencianaclmaa", sum := "98e511d20bb9462e8b5b343fac7c2fd34fb4d1d6980082e1cb0e65152eed2e33", func := "loop.example/g00374/laws.FnPageAt", spec := "fnPageAt", inPlace := ["internal/abi.NoEscape", "internal/bytealg.MakeNoZero"], unfollowed := true, recurses := true, apart := false }
def FnPageAtSaid : Prop := fnPageAtRow.holds Try.pinned (OpenSpec.ofChange fnPageAtSpec)

/-- ITS FALSE NEIGHBOUR: 'it returns false'. Refute it at one input. -/
def fnPageAtWrong : ChangeSpec := { name := "fnPageAt", fn := fun _ => fun
  | [d] => { results := [.lit (.bool false)], args := [d] }
  | _ => none }
def FnPageAtWrongFalsely : Prop := fnPageAtRow.holds Try.pinned (OpenSpec.ofChange fnPageAtWrong)

/-- 'laws.FnVictim': WHATEVER THE INPUT: true; the input reads as it did. -/
def fnVictimSpec : ChangeSpec := { name := "fnVictim", fn := fun _ => fun
  | [d] => { results := [.lit (.bool true)], args := [d] }
  | _ => none }
def fnVictimRow : OpenClaim := { program := "ytimencianaclmaa", sum := "98e511d20bb9462e8b5b343fac7c2fd34fb4d1d6980082e1cb0e65152eed2e33", func := "loop.example/g00374/laws.FnVictim", spec := "fnVictim", unfollowed := true, recurses := true, apart := false }
def FnVictimSaid : Prop := fnVictimRow.holds Try.pinned (OpenSpec.ofChange fnVictimSpec)

/-- ITS FALSE NEIGHBOUR: 'it returns false'. Refute it at one input. -/
def fnVictimWrong : ChangeSpec := { name := "fnVictim", fn := fun _ => fun
  | [d] => { results := [.lit (.bool false)], args := [d] }
  | _ => none }
def FnVictimWrongFalsely : Prop := fnVictimRow.holds Try.pinned (OpenSpec.ofChange fnVictimWrong)

/-- 'laws.FnOps': WHATEVER THE INPUT: true; the input reads as it did. -/
def fnOpsSpec : ChangeSpec := { name := "fnOps", fn := fun _ => fun
  | [d] => { results := [.lit (.bool true)], args := [d] }
  | _ => none }
def fnOpsRow : OpenClaim := { program := "ytimencianaclmaa", sum := "98e511d20bb9462e8b5b343fac7c2fd34fb4d1d6980082e1cb0e65152eed2e33", func := "loop.example/g00374/laws.FnOps", spec := "fnOps", unfollowed := true, recurses := true, apart := false }
def FnOpsSaid : Prop := fnOpsRow.holds Try.pinned (OpenSpec.ofChange fnOpsSpec)

/-- ITS FALSE NEIGHBOUR: 'it returns false'. Refute it at one input. -/
def fnOpsWrong : ChangeSpec := { name := "fnOps", fn := fun _ => fun
  | [d] => { results := [.lit (.bool false)], args := [d] }
  | _ => none }
def FnOpsWrongFalsely : Prop := fnOpsRow.holds Try.pinned (OpenSpec.ofChange fnOpsWrong)

/-- 'laws.FnDid': WHATEVER THE INPUT: true; the input reads as it did. -/
def fnDidSpec : ChangeSpec := { name := "fnDid", fn := fun _ => fun
  | [d] => { results := [.lit (.bool true)], args := [d] }
  | _ => none }
def fnDidRow : OpenClaim := { program := "ytimencianaclmaa", sum := "98e511d20bb9462e8b5b343fac7c2fd34fb4d1d6980082e1cb0e65152eed2e33", func := "loop.example/g00374/laws.FnDid", spec := "fnDid", unfollowed := true, recurses := true, apart := false }
def FnDidSaid : Prop := fnDidRow.holds Try.pinned (OpenSpec.ofChange fnDidSpec)

/-- ITS FALSE NEIGHBOUR: 'it returns false'. Refute it at one input. -/
def fnDidWrong : ChangeSpec := { name := "fnDid", fn := fun _ => fun
  | [d] => { results := [.lit (.bool false)], args := [d] }
  | _ => none }
def FnDidWrongFalsely : Prop := fnDidRow.holds Try.pinned (OpenSpec.ofChange fnDidWrong)

/-- 'laws.FnExactOpsOf': WHATEVER THE INPUT: true; the input reads as it did. -/
def fnExactOpsOfSpec : ChangeSpec := { name := "fnExactOpsOf", fn := fun _ => fun
  | [d1, d2, d3] => { results := [.lit (.bool true)], args := [d1, d2, d3] }
  | _ => none }
def fnExactOpsOfRow : OpenClaim := { program := "ytimencianaclmaa", sum := "98e511d20bb9462e8b5b343fac7c2fd34fb4d1d6980082e1cb0e65152eed2e33", func := "loop.example/g00374/laws.FnExactOpsOf", spec := "fnExactOpsOf", unfollowed := true, recurses := true, apart := false }
def FnExactOpsOfSaid : Prop := fnExactOpsOfRow.holds Try.pinned (OpenSpec.ofChange fnExactOpsOfSpec)

/-- ITS FALSE NEIGHBOUR: 'it returns false'. Refute it at one input. -/
def fnExactOpsOfWrong : ChangeSpec := { name := "fnExactOpsOf", fn := fun _ => fun
  | [d1, d2, d3] => { results := [.lit (.bool false)], args := [d1, d2, d3] }
  | _ => none }
def FnExactOpsOfWrongFalsely : Prop := fnExactOpsOfRow.holds Try.pinned (OpenSpec.ofChange fnExactOpsOfWrong)

/-- 'laws.FnExactDid': WHATEVER THE INPUT: true; the input reads as it did. -/
def fnExactDidSpec : ChangeSpec := { name := "fnExactDid", fn := fun _ => fun
  | [d1, d2] => { results := [.lit (.bool true)], args := [d1, d2] }
  | _ => none }
def fnExactDidRow : OpenClaim := { program := "ytimencianaclmaa", sum := "98e511d20bb9462e8b5b343fac7c2fd34fb4d1d6980082e1cb0e65152eed2e33", func := "loop.example/g00374/laws.FnExactDid", spec := "fnExactDid", unfollowed := true, recurses := true, apart := false }
def FnExactDidSaid : Prop := fnExactDidRow.holds Try.pinned (OpenSpec.ofChange fnExactDidSpec)

/-- ITS FALSE NEIGHBOUR: 'it returns false'. Refute it at one input. -/
def fnExactDidWrong : ChangeSpec := { name := "fnExactDid", fn := fun _ => fun
  | [d1, d2] => { results := [.lit (.bool false)], args := [d1, d2] }
  | _ => none }
def FnExactDidWrongFalsely : Prop := fnExactDidRow.holds Try.pinned (OpenSpec.ofChange fnExactDidWrong)

/-- 'laws.FnExactArrayNew': WHATEVER THE INPUT: true; the input reads as it did. -/
def fnExactArrayNewSpec : ChangeSpec := { name := "fnExactArrayNew", fn := fun _ => fun
  | [d1, d2] => { results := [.lit (.bool true)], args := [d1, d2] }
  | _ => none }
def fnExactArrayNewRow : OpenClaim := { program := "ytimencianaclmaa", sum := "98e511d20bb9462e8b5b343fac7c2fd34fb4d1d6980082e1cb0e65152eed2e33", func := "loop.example/g00374/laws.FnExactArrayNew", spec := "fnExactArrayNew", unfollowed := true, recurses := true, apart := false }
def FnExactArrayNewSaid : Prop := fnExactArrayNewRow.holds Try.pinned (OpenSpec.ofChange fnExactArrayNewSpec)

/-- ITS FALSE NEIGHBOUR: 'it returns false'. Refute it at one input. -/
def fnExactArrayNewWrong : ChangeSpec := { name := "fnExactArrayNew", fn := fun _ => fun
  | [d1, d2] => { results := [.lit (.bool false)], args := [d1, d2] }
  | _ => none }
def FnExactArrayNewWrongFalsely : Prop := fnExactArrayNewRow.holds Try.pinned (OpenSpec.ofChange fnExactArrayNewWrong)

/- THE SECOND FORM. 'bulk': how many values and letters a reading holds, each counted each time it is reached (what is shared counts as often as it is met; a slice's spare places count too). A statement '..UptoSaid' is the law's where the arguments, and the package variables that the reading takes, are together of bulk at most 1048576: NARROWER than '..Said'. Prove '..Said' where nothing that the law and all that it calls make is longer than what came in: it says more and counts as full. Else prove '..UptoSaid'. A law counts once. -/
mutual
def uptoBulk {H : Type} : DataW H → Nat
  | .lit (.string bytes) => bytes.length + 1
  | .lit _ => 1
  | .nil => 1
  | .ptr d => uptoBulk d + 1
  | .slice elems spare => uptoBulkAll elems + uptoBulkAll spare + 1
  | .agg parts => uptoBulkAll parts + 1
  | .iface _ d => uptoBulk d + 1
  | .map entries => uptoBulkEntries entries + 1
  | .held _ => 1
def uptoBulkAll {H : Type} : List (DataW H) → Nat
  | [] => 0
  | d :: r => uptoBulk d + uptoBulkAll r
def uptoBulkEntries {H : Type} : List (Lit × DataW H) → Nat
  | [] => 0
  | x :: r => uptoBulkEntry x + uptoBulkEntries r
def uptoBulkEntry {H : Type} : Lit × DataW H → Nat
  | (.string bytes, d) => bytes.length + uptoBulk d + 1
  | (_, d) => uptoBulk d + 1
 end
def uptoSmall : (H : Type) → List (DataW H) → Bool := fun _ ds => decide (uptoBulkAll ds ≤ 1048576)
def OpenSpec.upto (s : _root_.Go.ChangeSpec) : _root_.Go.OpenSpec := { _root_.Go.OpenSpec.ofChange s with cond := some uptoSmall }

/-- 'laws.FnProgrammed', WHERE WHAT IT READS IS OF BULK AT MOST 1048576: true; the input reads as it did. -/
def fnProgrammedUptoRow : OpenClaim := { program := "ytimencianaclmaa", sum := "98e511d20bb9462e8b5b343fac7c2fd34fb4d1d6980082e1cb0e65152eed2e33", func := "loop.example/g00374/laws.FnProgrammed", spec := "fnProgrammed", unfollowed := true, recurses := true, apart := false, narrowed := true }
def FnProgrammedUptoSaid : Prop := fnProgrammedUptoRow.holds Try.pinned (OpenSpec.upto fnProgrammedSpec)

/-- 'laws.FnErased', WHERE WHAT IT READS IS OF BULK AT MOST 1048576: true; the input reads as it did. -/
def fnErasedUptoRow : OpenClaim := { program := "ytimencianaclmaa", sum := "98e511d20bb9462e8b5b343fac7c2fd34fb4d1d6980082e1cb0e65152eed2e33", func := "loop.example/g00374/laws.FnErased", spec := "fnErased", unfollowed := true, recurses := true, apart := false, narrowed := true }
def FnErasedUptoSaid : Prop := fnErasedUptoRow.holds Try.pinned (OpenSpec.upto fnErasedSpec)

/-- 'laws.FnPageAt', WHERE WHAT IT READS IS OF BULK AT MOST 1048576: true; the input reads as it did. -/
def fnPageAtUptoRow : OpenClaim := { program := "ytimencianaclmaa", sum := "98e511d20bb9462e8b5b343fac7c2fd34fb4d1d6980082e1cb0e65152eed2e33", func := "loop.example/g00374/laws.FnPageAt", spec := "fnPageAt", inPlace := ["internal/abi.NoEscape", "internal/bytealg.MakeNoZero"], unfollowed := true, recurses := true, apart := false, narrowed := true }
def FnPageAtUptoSaid : Prop := fnPageAtUptoRow.holds Try.pinned (OpenSpec.upto fnPageAtSpec)

/-- 'laws.FnVictim', WHERE WHAT IT READS IS OF BULK AT MOST 1048576: true; the input reads as it did. -/
def fnVictimUptoRow : OpenClaim := { program := "ytimencianaclmaa", sum := "98e511d20bb9462e8b5b343fac7c2fd34fb4d1d6980082e1cb0e65152eed2e33", func := "loop.example/g00374/laws.FnVictim", spec := "fnVictim", unfollowed := true, recurses := true, apart := false, narrowed := true }
def FnVictimUptoSaid : Prop := fnVictimUptoRow.holds Try.pinned (OpenSpec.upto fnVictimSpec)

/-- 'laws.FnOps', WHERE WHAT IT READS IS OF BULK AT MOST 1048576: true; the input reads as it did. -/
def fnOpsUptoRow : OpenClaim := { program := "ytimencianaclmaa", sum := "98e511d20bb9462e8b5b343fac7c2fd34fb4d1d6980082e1cb0e65152eed2e33", func := "loop.example/g00374/laws.FnOps", spec := "fnOps", unfollowed := true, recurses := true, apart := false, narrowed := true }
def FnOpsUptoSaid : Prop := fnOpsUptoRow.holds Try.pinned (OpenSpec.upto fnOpsSpec)

/-- 'laws.FnDid', WHERE WHAT IT READS IS OF BULK AT MOST 1048576: true; the input reads as it did. -/
def fnDidUptoRow : OpenClaim := { program := "ytimencianaclmaa", sum := "98e511d20bb9462e8b5b343fac7c2fd34fb4d1d6980082e1cb0e65152eed2e33", func := "loop.example/g00374/laws.FnDid", spec := "fnDid", unfollowed := true, recurses := true, apart := false, narrowed := true }
def FnDidUptoSaid : Prop := fnDidUptoRow.holds Try.pinned (OpenSpec.upto fnDidSpec)

/-- 'laws.FnExactOpsOf', WHERE WHAT IT READS IS OF BULK AT MOST 1048576: true; the input reads as it did. -/
def fnExactOpsOfUptoRow : OpenClaim := { program := "ytimencianaclmaa", sum := "98e511d20bb9462e8b5b343fac7c2fd34fb4d1d6980082e1cb0e65152eed2e33", func := "loop.example/g00374/laws.FnExactOpsOf", spec := "fnExactOpsOf", unfollowed := true, recurses := true, apart := false, narrowed := true }
def FnExactOpsOfUptoSaid : Prop := fnExactOpsOfUptoRow.holds Try.pinned (OpenSpec.upto fnExactOpsOfSpec)

/-- 'laws.FnExactDid', WHERE WHAT IT READS IS OF BULK AT MOST 1048576: true; the input reads as it did. -/
def fnExactDidUptoRow : OpenClaim := { program := "ytimencianaclmaa", sum := "98e511d20bb9462e8b5b343fac7c2fd34fb4d1d6980082e1cb0e65152eed2e33", func := "loop.example/g00374/laws.FnExactDid", spec := "fnExactDid", unfollowed := true, recurses := true, apart := false, narrowed := true }
def FnExactDidUptoSaid : Prop := fnExactDidUptoRow.holds Try.pinned (OpenSpec.upto fnExactDidSpec)

/-- 'laws.FnExactArrayNew', WHERE WHAT IT READS IS OF BULK AT MOST 1048576: true; the input reads as it did. -/
def fnExactArrayNewUptoRow : OpenClaim := { program := "ytimencianaclmaa", sum := "98e511d20bb9462e8b5b343fac7c2fd34fb4d1d6980082e1cb0e65152eed2e33", func := "loop.example/g00374/laws.FnExactArrayNew", spec := "fnExactArrayNew", unfollowed := true, recurses := true, apart := false, narrowed := true }
def FnExactArrayNewUptoSaid : Prop := fnExactArrayNewUptoRow.holds Try.pinned (OpenSpec.upto fnExactArrayNewSpec)

end Rows
end Go.Proofs.Ytimencianaclmaa
