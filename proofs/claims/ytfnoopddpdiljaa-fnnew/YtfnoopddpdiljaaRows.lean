/-
  No cell of these rows narrows 'for every input' (looked for: loops, veiled, ifaces, maps, wideKeys, modest, calm, conditions, laid).
  DERIVED. THE GIVEN ROWS OF THIS SEAT. 12 by the template 'for every input the law returns true; each argument reads behind the call as it read before'; 0 by the template 'total and deterministic' (their statements: YtfnoopddpdiljaaTotals.lean).
  GIVEN WITH THE SEED: the statements are not yours to turn. If you find one false, say at which input.
  Laid BY PROGRAM, IN A SANDBOX (cutbox-rows.mjs): the forced cells as the released guide's own fill.sh prints them over the translation 2f3c460d702c9877… (all of the seat's roots in one cut). By AI agents, Wed Nov 11 2026. No macro, syntax, notation, axiom, sorry.
-/
import Derived.Test.YtfnoopddpdiljaaChecked
import GoSem.Claim
import GoSem.ClaimJoined
import GoSem.ClaimMapViews
import Derived.JoinedTies
import Derived.KernelRfl
namespace Go.Proofs.Ytfnoopddpdiljaa
/- THE CELL 'sum', in the pinned program and in every row, IS THE sha256 OF THE DUMP (.gsa) THAT YtfnoopddpdiljaaProg.lean LOADS. Nothing in Lean hashes anything: it is a label: what it is worth is what the hold of that sum in a sandbox is worth. -/
noncomputable def Try.pinned : Pinned := { name := "ytfnoopddpdiljaa", sum := "2f3c460d702c987734f1dd71ec43a05766e1c5feb10e57ca2b33eb16fe44f6fe", checked := Try.checked }
namespace Rows
def none {H : Type} : Left H := { results := [], args := [] }

/-- 'laws.FnExactFtlOk': WHATEVER THE INPUT: true; the input reads as it did. -/
def fnExactFtlOkSpec : ChangeSpec := { name := "fnExactFtlOk", fn := fun _ => fun
  | [d] => { results := [.lit (.bool true)], args := [d] }
  | _ => none }
def fnExactFtlOkRow : OpenClaim := { program := "ytfnoopddpdiljaa", sum := "2f3c460d702c987734f1dd71ec43a05766e1c5feb10e57ca2b33eb16fe44f6fe", func := "loop.example/g00374/laws.FnExactFtlOk", spec := "fnExactFtlOk", unfollowed := true, recurses := true, apart := false }
def FnExactFtlOkSaid : Prop := fnExactFtlOkRow.holds Try.pinned (OpenSpec.ofChange fnExactFtlOkSpec)

/-- ITS FALSE NEIGHBOUR: 'it returns false'. Refute it at one input. -/
def fnExactFtlOkWrong : ChangeSpec := { name := "fnExactFtlOk", fn := fun _ => fun
  | [d] => { results := [.lit (.bool false)], args := [d] }
  | _ => none }
def FnExactFtlOkWrongFalsely : Prop := fnExactFtlOkRow.holds Try.pinned (OpenSpec.ofChange fnExactFtlOkWrong)

/-- 'laws.FnExactFtlNew': WHATEVER THE INPUT: true; the input reads as it did. -/
def fnExactFtlNewSpec : ChangeSpec := { name := "fnExactFtlNew", fn := fun _ => fun
  | [d] => { results := [.lit (.bool true)], args := [d] }
  | _ => none }
def fnExactFtlNewRow : OpenClaim := { program := "ytfnoopddpdiljaa", sum := "2f3c460d702c987734f1dd71ec43a05766e1c5feb10e57ca2b33eb16fe44f6fe", func := "loop.example/g00374/laws.FnExactFtlNew", spec := "fnExactFtlNew", unfollowed := true, recurses := true, apart := false }
def FnExactFtlNewSaid : Prop := fnExactFtlNewRow.holds Try.pinned (OpenSpec.ofChange fnExactFtlNewSpec)

/-- ITS FALSE NEIGHBOUR: 'it returns false'. Refute it at one input. -/
def fnExactFtlNewWrong : ChangeSpec := { name := "fnExactFtlNew", fn := fun _ => fun
  | [d] => { results := [.lit (.bool false)], args := [d] }
  | _ => none }
def FnExactFtlNewWrongFalsely : Prop := fnExactFtlNewRow.holds Try.pinned (OpenSpec.ofChange fnExactFtlNewWrong)

/-- 'laws.FnExactValidOf': WHATEVER THE INPUT: true; the input reads as it did. -/
def fnExactValidOfSpec : ChangeSpec := { name := "fnExactValidOf", fn := fun _ => fun
  | [d1, d2] => { results := [.lit (.bool true)], args := [d1, d2] }
  | _ => none }
def fnExactValidOfRow : OpenClaim := { program := "ytfnoopddpdiljaa", sum := "2f3c460d702c987734f1dd71ec43a05766e1c5feb10e57ca2b33eb16fe44f6fe", func := "loop.example/g00374/laws.FnExactValidOf", spec := "fnExactValidOf", unfollowed := true, recurses := true, apart := false }
def FnExactValidOfSaid : Prop := fnExactValidOfRow.holds Try.pinned (OpenSpec.ofChange fnExactValidOfSpec)

/-- ITS FALSE NEIGHBOUR: 'it returns false'. Refute it at one input. -/
def fnExactValidOfWrong : ChangeSpec := { name := "fnExactValidOf", fn := fun _ => fun
  | [d1, d2] => { results := [.lit (.bool false)], args := [d1, d2] }
  | _ => none }
def FnExactValidOfWrongFalsely : Prop := fnExactValidOfRow.holds Try.pinned (OpenSpec.ofChange fnExactValidOfWrong)

/-- 'laws.FnExactVictimOf': WHATEVER THE INPUT: true; the input reads as it did. -/
def fnExactVictimOfSpec : ChangeSpec := { name := "fnExactVictimOf", fn := fun _ => fun
  | [d] => { results := [.lit (.bool true)], args := [d] }
  | _ => none }
def fnExactVictimOfRow : OpenClaim := { program := "ytfnoopddpdiljaa", sum := "2f3c460d702c987734f1dd71ec43a05766e1c5feb10e57ca2b33eb16fe44f6fe", func := "loop.example/g00374/laws.FnExactVictimOf", spec := "fnExactVictimOf", unfollowed := true, recurses := true, apart := false }
def FnExactVictimOfSaid : Prop := fnExactVictimOfRow.holds Try.pinned (OpenSpec.ofChange fnExactVictimOfSpec)

/-- ITS FALSE NEIGHBOUR: 'it returns false'. Refute it at one input. -/
def fnExactVictimOfWrong : ChangeSpec := { name := "fnExactVictimOf", fn := fun _ => fun
  | [d] => { results := [.lit (.bool false)], args := [d] }
  | _ => none }
def FnExactVictimOfWrongFalsely : Prop := fnExactVictimOfRow.holds Try.pinned (OpenSpec.ofChange fnExactVictimOfWrong)

/-- 'laws.FnExactPageAt': WHATEVER THE INPUT: true; the input reads as it did. -/
def fnExactPageAtSpec : ChangeSpec := { name := "fnExactPageAt", fn := fun _ => fun
  | [d1, d2] => { results := [.lit (.bool true)], args := [d1, d2] }
  | _ => none }
def fnExactPageAtRow : OpenClaim := { program := "ytfnoopddpdiljaa", sum := "2f3c460d702c987734f1dd71ec43a05766e1c5feb10e57ca2b33eb16fe44f6fe", func := "loop.example/g00374/laws.FnExactPageAt", spec := "fnExactPageAt", inPlace := ["internal/abi.NoEscape", "internal/bytealg.MakeNoZero"], unfollowed := true, recurses := true, apart := false }
def FnExactPageAtSaid : Prop := fnExactPageAtRow.holds Try.pinned (OpenSpec.ofChange fnExactPageAtSpec)

/-- ITS FALSE NEIGHBOUR: 'it returns false'. Refute it at one input. -/
def fnExactPageAtWrong : ChangeSpec := { name := "fnExactPageAt", fn := fun _ => fun
  | [d1, d2] => { results := [.lit (.bool false)], args := [d1, d2] }
  | _ => none }
def FnExactPageAtWrongFalsely : Prop := fnExactPageAtRow.holds Try.pinned (OpenSpec.ofChange fnExactPageAtWrong)

/-- 'laws.FnExactDid': WHATEVER THE INPUT: true; the input reads as it did. -/
def fnExactDidSpec : ChangeSpec := { name := "fnExactDid", fn := fun _ => fun
  | [d1, d2] => { results := [.lit (.bool true)], args := [d1, d2] }
  | _ => none }
def fnExactDidRow : OpenClaim := { program := "ytfnoopddpdiljaa", sum := "2f3c460d702c987734f1dd71ec43a05766e1c5feb10e57ca2b33eb16fe44f6fe", func := "loop.example/g00374/laws.FnExactDid", spec := "fnExactDid", unfollowed := true, recurses := true, apart := false }
def FnExactDidSaid : Prop := fnExactDidRow.holds Try.pinned (OpenSpec.ofChange fnExactDidSpec)

/-- ITS FALSE NEIGHBOUR: 'it returns false'. Refute it at one input. -/
def fnExactDidWrong : ChangeSpec := { name := "fnExactDid", fn := fun _ => fun
  | [d1, d2] => { results := [.lit (.bool false)], args := [d1, d2] }
  | _ => none }
def FnExactDidWrongFalsely : Prop := fnExactDidRow.holds Try.pinned (OpenSpec.ofChange fnExactDidWrong)

/-- 'laws.FnExactMapOf': WHATEVER THE INPUT: true; the input reads as it did. -/
def fnExactMapOfSpec : ChangeSpec := { name := "fnExactMapOf", fn := fun _ => fun
  | [d] => { results := [.lit (.bool true)], args := [d] }
  | _ => none }
def fnExactMapOfRow : OpenClaim := { program := "ytfnoopddpdiljaa", sum := "2f3c460d702c987734f1dd71ec43a05766e1c5feb10e57ca2b33eb16fe44f6fe", func := "loop.example/g00374/laws.FnExactMapOf", spec := "fnExactMapOf", unfollowed := true, recurses := true, apart := false }
def FnExactMapOfSaid : Prop := fnExactMapOfRow.holds Try.pinned (OpenSpec.ofChange fnExactMapOfSpec)

/-- ITS FALSE NEIGHBOUR: 'it returns false'. Refute it at one input. -/
def fnExactMapOfWrong : ChangeSpec := { name := "fnExactMapOf", fn := fun _ => fun
  | [d] => { results := [.lit (.bool false)], args := [d] }
  | _ => none }
def FnExactMapOfWrongFalsely : Prop := fnExactMapOfRow.holds Try.pinned (OpenSpec.ofChange fnExactMapOfWrong)

/-- 'laws.FnProgrammed': WHATEVER THE INPUT: true; the input reads as it did. -/
def fnProgrammedSpec : ChangeSpec := { name := "fnProgrammed", fn := fun _ => fun
  | [d] => { results := [.lit (.bool true)], args := [d] }
  | _ => none }
def fnProgrammedRow : OpenClaim := { program := "ytfnoopddpdiljaa", sum := "2f3c460d702c987734f1dd71ec43a05766e1c5feb10e57ca2b33eb16fe44f6fe", func := "loop.example/g00374/laws.FnProgrammed", spec := "fnProgrammed", unfollowed := true, recurses := true, apart := false }
def FnProgrammedSaid : Prop := fnProgrammedRow.holds Try.pinned (OpenSpec.ofChange fnProgrammedSpec)

/-- ITS FALSE NEIGHBOUR: 'it returns false'. Refute it at one input. -/
def fnProgrammedWrong : ChangeSpec := { name := "fnProgrammed", fn := fun _ => fun
  | [d] => { results := [.lit (.bool false)], args := [d] }
  | _ => none }
def FnProgrammedWrongFalsely : Prop := fnProgrammedRow.holds Try.pinned (OpenSpec.ofChange fnProgrammedWrong)

/-- 'laws.FnErased': WHATEVER THE INPUT: true; the input reads as it did. -/
def fnErasedSpec : ChangeSpec := { name := "fnErased", fn := fun _ => fun
  | [d] => { results := [.lit (.bool true)], args := [d] }
  | _ => none }
def fnErasedRow : OpenClaim := { program := "ytfnoopddpdiljaa", sum := "2f3c460d702c987734f1dd71ec43a05766e1c5feb10e57ca2b33eb16fe44f6fe", func := "loop.example/g00374/laws.FnErased", spec := "fnErased", unfollowed := true, recurses := true, apart := false }
def FnErasedSaid : Prop := fnErasedRow.holds Try.pinned (OpenSpec.ofChange fnErasedSpec)

/-- ITS FALSE NEIGHBOUR: 'it returns false'. Refute it at one input. -/
def fnErasedWrong : ChangeSpec := { name := "fnErased", fn := fun _ => fun
  | [d] => { results := [.lit (.bool false)], args := [d] }
  | _ => none }
def FnErasedWrongFalsely : Prop := fnErasedRow.holds Try.pinned (OpenSpec.ofChange fnErasedWrong)

/-- 'laws.FnNew': WHATEVER THE INPUT: true; the input reads as it did. -/
def fnNewSpec : ChangeSpec := { name := "fnNew", fn := fun _ => fun
  | [d] => { results := [.lit (.bool true)], args := [d] }
  | _ => none }
def fnNewRow : OpenClaim := { program := "ytfnoopddpdiljaa", sum := "2f3c460d702c987734f1dd71ec43a05766e1c5feb10e57ca2b33eb16fe44f6fe", func := "loop.example/g00374/laws.FnNew", spec := "fnNew", inPlace := ["internal/abi.NoEscape", "internal/bytealg.MakeNoZero"], unfollowed := true, recurses := true, apart := false }
def FnNewSaid : Prop := fnNewRow.holds Try.pinned (OpenSpec.ofChange fnNewSpec)

/-- ITS FALSE NEIGHBOUR: 'it returns false'. Refute it at one input. -/
def fnNewWrong : ChangeSpec := { name := "fnNew", fn := fun _ => fun
  | [d] => { results := [.lit (.bool false)], args := [d] }
  | _ => none }
def FnNewWrongFalsely : Prop := fnNewRow.holds Try.pinned (OpenSpec.ofChange fnNewWrong)

/-- 'laws.FnPageAt': WHATEVER THE INPUT: true; the input reads as it did. -/
def fnPageAtSpec : ChangeSpec := { name := "fnPageAt", fn := fun _ => fun
  | [d] => { results := [.lit (.bool true)], args := [d] }
  | _ => none }
def fnPageAtRow : OpenClaim := { program := "ytfnoopddpdiljaa", sum := "2f3c460d702c987734f1dd71ec43a05766e1c5feb10e57ca2b33eb16fe44f6fe", func := "loop.example/g00374/laws.FnPageAt", spec := "fnPageAt", inPlace := ["internal/abi.NoEscape", "internal/bytealg.MakeNoZero"], unfollowed := true, recurses := true, apart := false }
def FnPageAtSaid : Prop := fnPageAtRow.holds Try.pinned (OpenSpec.ofChange fnPageAtSpec)

/-- ITS FALSE NEIGHBOUR: 'it returns false'. Refute it at one input. -/
def fnPageAtWrong : ChangeSpec := { name := "fnPageAt", fn := fun _ => fun
  | [d] => { results := [.lit (.bool false)], args := [d] }
  | _ => none }
def FnPageAtWrongFalsely : Prop := fnPageAtRow.holds Try.pinned (OpenSpec.ofChange fnPageAtWrong)

/-- 'laws.FnVictim': WHATEVER THE INPUT: true; the input reads as it did. -/
def fnVictimSpec : ChangeSpec := { name := "fnVictim", fn := fun _ => fun
  | [d] => { results := [.lit (.bool true)], args := [d] }
  | _ => none }
def fnVictimRow : OpenClaim := { program := "ytfnoopddpdiljaa", sum := "2f3c460d702c987734f1dd71ec43a05766e1c5feb10e57ca2b33eb16fe44f6fe", func := "loop.example/g00374/laws.FnVictim", spec := "fnVictim", unfollowed := true, recurses := true, apart := false }
def FnVictimSaid : Prop := fnVictimRow.holds Try.pinned (OpenSpec.ofChange fnVictimSpec)

/-- ITS FALSE NEIGHBOUR: 'it returns false'. Refute it at one input. -/
def fnVictimWrong : ChangeSpec := { name := "fnVictim", fn := fun _ => fun
  | [d] => { results := [.lit (.bool false)], args := [d] }
  | _ => none }
def FnVictimWrongFalsely : Prop := fnVictimRow.holds Try.pinned (OpenSpec.ofChange fnVictimWrong)

/- THE SECOND FORM. 'bulk': how many values and letters a reading holds, each counted each time it is reached (what is shared counts as often as it is met; a slice's spare places count too). A statement '..UptoSaid' is the law's where the arguments, and the package variables that the reading takes, are together of bulk at most 1048576: NARROWER than '..Said'. Prove '..Said' where nothing that the law and all that it calls make is longer than what came in: it says more and counts as full. Else prove '..UptoSaid'. A law counts once. -/
mutual
def uptoBulk {H : Type} : DataW H → Nat
  | .lit (.string bytes) => bytes.length + 1
  | .lit _ => 1
  | .nil => 1
  | .ptr d => uptoBulk d + 1
  | .slice elems spare => uptoBulkAll elems + uptoBulkAll spare + 1
  | .agg parts => uptoBulkAll parts + 1
  | .iface _ d => uptoBulk d + 1
  | .map entries => uptoBulkEntries entries + 1
  | .held _ => 1
def uptoBulkAll {H : Type} : List (DataW H) → Nat
  | [] => 0
  | d :: r => uptoBulk d + uptoBulkAll r
def uptoBulkEntries {H : Type} : List (Lit × DataW H) → Nat
  | [] => 0
  | x :: r => uptoBulkEntry x + uptoBulkEntries r
def uptoBulkEntry {H : Type} : Lit × DataW H → Nat
  | (.string bytes, d) => bytes.length + uptoBulk d + 1
  | (_, d) => uptoBulk d + 1
 end
def uptoSmall : (H : Type) → List (DataW H) → Bool := fun _ ds => decide (uptoBulkAll ds ≤ 1048576)
def OpenSpec.upto (s : _root_.Go.ChangeSpec) : _root_.Go.OpenSpec := { _root_.Go.OpenSpec.ofChange s with cond := some uptoSmall }

/-- 'laws.FnExactFtlOk', WHERE WHAT IT READS IS OF BULK AT MOST 1048576: true; the input reads as it did. -/
def fnExactFtlOkUptoRow : OpenClaim := { program := "ytfnoopddpdiljaa", sum := "2f3c460d702c987734f1dd71ec43a05766e1c5feb10e57ca2b33eb16fe44f6fe", func := "loop.example/g00374/laws.FnExactFtlOk", spec := "fnExactFtlOk", unfollowed := true, recurses := true, apart := false, narrowed := true }
def FnExactFtlOkUptoSaid : Prop := fnExactFtlOkUptoRow.holds Try.pinned (OpenSpec.upto fnExactFtlOkSpec)

/-- 'laws.FnExactFtlNew', WHERE WHAT IT READS IS OF BULK AT MOST 1048576: true; the input reads as it did. -/
def fnExactFtlNewUptoRow : OpenClaim := { program := "ytfnoopddpdiljaa", sum := "2f3c460d702c987734f1dd71ec43a05766e1c5feb10e57ca2b33eb16fe44f6fe", func := "loop.example/g00374/laws.FnExactFtlNew", spec := "fnExactFtlNew", unfollowed := true, recurses := true, apart := false, narrowed := true }
def FnExactFtlNewUptoSaid : Prop := fnExactFtlNewUptoRow.holds Try.pinned (OpenSpec.upto fnExactFtlNewSpec)

/-- 'laws.FnExactValidOf', WHERE WHAT IT READS IS OF BULK AT MOST 1048576: true; the input reads as it did. -/
def fnExactValidOfUptoRow : OpenClaim := { program := "ytfnoopddpdiljaa", sum := "2f3c460d702c987734f1dd71ec43a05766e1c5feb10e57ca2b33eb16fe44f6fe", func := "loop.example/g00374/laws.FnExactValidOf", spec := "fnExactValidOf", unfollowed := true, recurses := true, apart := false, narrowed := true }
def FnExactValidOfUptoSaid : Prop := fnExactValidOfUptoRow.holds Try.pinned (OpenSpec.upto fnExactValidOfSpec)

/-- 'laws.FnExactVictimOf', WHERE WHAT IT READS IS OF BULK AT MOST 1048576: true; the input reads as it did. -/
def fnExactVictimOfUptoRow : OpenClaim := { program := "ytfnoopddpdiljaa", sum := "2f3c460d702c987734f1dd71ec43a05766e1c5feb10e57ca2b33eb16fe44f6fe", func := "loop.example/g00374/laws.FnExactVictimOf", spec := "fnExactVictimOf", unfollowed := true, recurses := true, apart := false, narrowed := true }
def FnExactVictimOfUptoSaid : Prop := fnExactVictimOfUptoRow.holds Try.pinned (OpenSpec.upto fnExactVictimOfSpec)

/-- 'laws.FnExactPageAt', WHERE WHAT IT READS IS OF BULK AT MOST 1048576: true; the input reads as it did. -/
def fnExactPageAtUptoRow : OpenClaim := { program := "ytfnoopddpdiljaa", sum := "2f3c460d702c987734f1dd71ec43a05766e1c5feb10e57ca2b33eb16fe44f6fe", func := "loop.example/g00374/laws.FnExactPageAt", spec := "fnExactPageAt", inPlace := ["internal/abi.NoEscape", "internal/bytealg.MakeNoZero"], unfollowed := true, recurses := true, apart := false, narrowed := true }
def FnExactPageAtUptoSaid : Prop := fnExactPageAtUptoRow.holds Try.pinned (OpenSpec.upto fnExactPageAtSpec)

/-- 'laws.FnExactDid', WHERE WHAT IT READS IS OF BULK AT MOST 1048576: true; the input reads as it did. -/
def fnExactDidUptoRow : OpenClaim := { program := "ytfnoopddpdiljaa", sum := "2f3c460d702c987734f1dd71ec43a05766e1c5feb10e57ca2b33eb16fe44f6fe", func := "loop.example/g00374/laws.FnExactDid", spec := "fnExactDid", unfollowed := true, recurses := true, apart := false, narrowed := true }
def FnExactDidUptoSaid : Prop := fnExactDidUptoRow.holds Try.pinned (OpenSpec.upto fnExactDidSpec)

/-- 'laws.FnExactMapOf', WHERE WHAT IT READS IS OF BULK AT MOST 1048576: true; the input reads as it did. -/
def fnExactMapOfUptoRow : OpenClaim := { program := "ytfnoopddpdiljaa", sum := "2f3c460d702c987734f1dd71ec43a05766e1c5feb10e57ca2b33eb16fe44f6fe", func := "loop.example/g00374/laws.FnExactMapOf", spec := "fnExactMapOf", unfollowed := true, recurses := true, apart := false, narrowed := true }
def FnExactMapOfUptoSaid : Prop := fnExactMapOfUptoRow.holds Try.pinned (OpenSpec.upto fnExactMapOfSpec)

/-- 'laws.FnProgrammed', WHERE WHAT IT READS IS OF BULK AT MOST 1048576: true; the input reads as it did. -/
def fnProgrammedUptoRow : OpenClaim := { program := "ytfnoopddpdiljaa", sum := "2f3c460d702c987734f1dd71ec43a05766e1c5feb10e57ca2b33eb16fe44f6fe", func := "loop.example/g00374/laws.FnProgrammed", spec := "fnProgrammed", unfollowed := true, recurses := true, apart := false, narrowed := true }
def FnProgrammedUptoSaid : Prop := fnProgrammedUptoRow.holds Try.pinned (OpenSpec.upto fnProgrammedSpec)

/-- 'laws.FnErased', WHERE WHAT IT READS IS OF BULK AT MOST 1048576: true; the input reads as it did. -/
def fnErasedUptoRow : OpenClaim := { program := "ytfnoopddpdiljaa", sum := "2f3c460d702c987734f1dd71ec43a05766e1c5feb10e57ca2b33eb16fe44f6fe", func := "loop.example/g00374/laws.FnErased", spec := "fnErased", unfollowed := true, recurses := true, apart := false, narrowed := true }
def FnErasedUptoSaid : Prop := fnErasedUptoRow.holds Try.pinned (OpenSpec.upto fnErasedSpec)

/-- 'laws.FnNew', WHERE WHAT IT READS IS OF BULK AT MOST 1048576: true; the input reads as it did. -/
def fnNewUptoRow : OpenClaim := { program := "ytfnoopddpdiljaa", sum := "2f3c460d702c987734f1dd71ec43a05766e1c5feb10e57ca2b33eb16fe44f6fe", func := "loop.example/g00374/laws.FnNew", spec := "fnNew", inPlace := ["internal/abi.NoEscape", "internal/bytealg.MakeNoZero"], unfollowed := true, recurses := true, apart := false, narrowed := true }
def FnNewUptoSaid : Prop := fnNewUptoRow.holds Try.pinned (OpenSpec.upto fnNewSpec)

/-- 'laws.FnPageAt', WHERE WHAT IT READS IS OF BULK AT MOST 1048576: true; the input reads as it did. -/
def fnPageAtUptoRow : OpenClaim := { program := "ytfnoopddpdiljaa", sum := "2f3c460d702c987734f1dd71ec43a05766e1c5feb10e57ca2b33eb16fe44f6fe", func := "loop.example/g00374/laws.FnPageAt", spec := "fnPageAt", inPlace := ["internal/abi.NoEscape", "internal/bytealg.MakeNoZero"], unfollowed := true, recurses := true, apart := false, narrowed := true }
def FnPageAtUptoSaid : Prop := fnPageAtUptoRow.holds Try.pinned (OpenSpec.upto fnPageAtSpec)

/-- 'laws.FnVictim', WHERE WHAT IT READS IS OF BULK AT MOST 1048576: true; the input reads as it did. -/
def fnVictimUptoRow : OpenClaim := { program := "ytfnoopddpdiljaa", sum := "2f3c460d702c987734f1dd71ec43a05766e1c5feb10e57ca2b33eb16fe44f6fe", func := "loop.example/g00374/laws.FnVictim", spec := "fnVictim", unfollowed := true, recurses := true, apart := false, narrowed := true }
def FnVictimUptoSaid : Prop := fnVictimUptoRow.holds Try.pinned (OpenSpec.upto fnVictimSpec)

end Rows
end Go.Proofs.Ytfnoopddpdiljaa
