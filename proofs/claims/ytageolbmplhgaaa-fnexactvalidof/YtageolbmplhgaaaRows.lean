/-
  No cell of these rows narrows 'for every input' (looked for: loops, veiled, ifaces, maps, wideKeys, modest, calm, conditions, laid).
  DERIVED. THE GIVEN ROWS OF THIS SEAT. 12 by the template 'for every input the law returns true; each argument reads behind the call as it read before'; 0 by the template 'total and deterministic' (their statements: YtageolbmplhgaaaTotals.lean).
  GIVEN WITH THE SEED: the statements are not yours to turn. If you find one false, say at which input.
  Laid BY PROGRAM, IN A SANDBOX (cutbox-rows.mjs): the forced cells as the released guide's own fill.sh prints them over the translation 4964723b481dcd5f… (all of the seat's roots in one cut). By AI agents, Wed Nov 11 2026. No macro, syntax, notation, axiom, sorry.
-/
import Derived.Test.YtageolbmplhgaaaChecked
import GoSem.Claim
import GoSem.ClaimJoined
import GoSem.ClaimMapViews
import Derived.JoinedTies
import Derived.KernelRfl
namespace Go.Proofs.Ytageolbmplhgaaa
/- THE CELL 'sum', in the pinned program and in every row, IS THE sha256 OF THE DUMP (.gsa) THAT YtageolbmplhgaaaProg.lean LOADS. Nothing in Lean hashes anything: it is a label: what it is worth is what the hold of that sum in a sandbox is worth. -/
noncomputable def Try.pinned : Pinned := { name := "ytageolbmplhgaaa", sum := "4964723b481dcd5f9d1c4c69f08c494b3b05739d9026b0158f51f9a3c59d6929", checked := Try.checked }
namespace Rows
def none {H : Type} : Left H := { results := [], args := [] }

/-- 'laws.FnExactChipOk': WHATEVER THE INPUT: true; the input reads as it did. -/
def fnExactChipOkSpec : ChangeSpec := { name := "fnExactChipOk", fn := fun _ => fun
  | [d] => { results := [.lit (.bool true)], args := [d] }
  | _ => none }
def fnExactChipOkRow : OpenClaim := { program := "ytageolbmplhgaaa", sum := "4964723b481dcd5f9d1c4c69f08c494b3b05739d9026b0158f51f9a3c59d6929", func := "loop.example/g00374/laws.FnExactChipOk", spec := "fnExactChipOk", unfollowed := true, recurses := true, apart := false }
def FnExactChipOkSaid : Prop := fnExactChipOkRow.holds Try.pinned (OpenSpec.ofChange fnExactChipOkSpec)

/-- ITS FALSE NEIGHBOUR: 'it returns false'. Refute it at one input. -/
def fnExactChipOkWrong : ChangeSpec := { name := "fnExactChipOk", fn := fun _ => fun
  | [d] => { results := [.lit (.bool false)], args := [d] }
  | _ => none }
def FnExactChipOkWrongFalsely : Prop := fnExactChipOkRow.holds Try.pinned (OpenSpec.ofChange fnExactChipOkWrong)

/-- 'laws.FnExactChipNew': WHATEVER THE INPUT: true; the input reads as it did. -/
def fnExactChipNewSpec : ChangeSpec := { name := "fnExactChipNew", fn := fun _ => fun
  | [d] => { results := [.lit (.bool true)], args := [d] }
  | _ => none }
def fnExactChipNewRow : OpenClaim := { program := "ytageolbmplhgaaa", sum := "4964723b481dcd5f9d1c4c69f08c494b3b05739d9026b0158f51f9a3c59d6929", func := "loop.example/g00374/laws.FnExactChipNew", spec := "fnExactChipNew", apart := false }
def FnExactChipNewSaid : Prop := fnExactChipNewRow.holds Try.pinned (OpenSpec.ofChange fnExactChipNewSpec)

/-- ITS FALSE NEIGHBOUR: 'it returns false'. Refute it at one input. -/
def fnExactChipNewWrong : ChangeSpec := { name := "fnExactChipNew", fn := fun _ => fun
  | [d] => { results := [.lit (.bool false)], args := [d] }
  | _ => none }
def FnExactChipNewWrongFalsely : Prop := fnExactChipNewRow.holds Try.pinned (OpenSpec.ofChange fnExactChipNewWrong)

/-- 'laws.FnExactNextOf': WHATEVER THE INPUT: true; the input reads as it did. -/
def fnExactNextOfSpec : ChangeSpec := { name := "fnExactNextOf", fn := fun _ => fun
  | [d1, d2] => { results := [.lit (.bool true)], args := [d1, d2] }
  | _ => none }
def fnExactNextOfRow : OpenClaim := { program := "ytageolbmplhgaaa", sum := "4964723b481dcd5f9d1c4c69f08c494b3b05739d9026b0158f51f9a3c59d6929", func := "loop.example/g00374/laws.FnExactNextOf", spec := "fnExactNextOf", unfollowed := true, recurses := true, apart := false }
def FnExactNextOfSaid : Prop := fnExactNextOfRow.holds Try.pinned (OpenSpec.ofChange fnExactNextOfSpec)

/-- ITS FALSE NEIGHBOUR: 'it returns false'. Refute it at one input. -/
def fnExactNextOfWrong : ChangeSpec := { name := "fnExactNextOf", fn := fun _ => fun
  | [d1, d2] => { results := [.lit (.bool false)], args := [d1, d2] }
  | _ => none }
def FnExactNextOfWrongFalsely : Prop := fnExactNextOfRow.holds Try.pinned (OpenSpec.ofChange fnExactNextOfWrong)

/-- 'laws.FnExactProgrammed': WHATEVER THE INPUT: true; the input reads as it did. -/
def fnExactProgrammedSpec : ChangeSpec := { name := "fnExactProgrammed", fn := fun _ => fun
  | [d1, d2, d3] => { results := [.lit (.bool true)], args := [d1, d2, d3] }
  | _ => none }
def fnExactProgrammedRow : OpenClaim := { program := "ytageolbmplhgaaa", sum := "4964723b481dcd5f9d1c4c69f08c494b3b05739d9026b0158f51f9a3c59d6929", func := "loop.example/g00374/laws.FnExactProgrammed", spec := "fnExactProgrammed", unfollowed := true, recurses := true, apart := false }
def FnExactProgrammedSaid : Prop := fnExactProgrammedRow.holds Try.pinned (OpenSpec.ofChange fnExactProgrammedSpec)

/-- ITS FALSE NEIGHBOUR: 'it returns false'. Refute it at one input. -/
def fnExactProgrammedWrong : ChangeSpec := { name := "fnExactProgrammed", fn := fun _ => fun
  | [d1, d2, d3] => { results := [.lit (.bool false)], args := [d1, d2, d3] }
  | _ => none }
def FnExactProgrammedWrongFalsely : Prop := fnExactProgrammedRow.holds Try.pinned (OpenSpec.ofChange fnExactProgrammedWrong)

/-- 'laws.FnExactErased': WHATEVER THE INPUT: true; the input reads as it did. -/
def fnExactErasedSpec : ChangeSpec := { name := "fnExactErased", fn := fun _ => fun
  | [d1, d2] => { results := [.lit (.bool true)], args := [d1, d2] }
  | _ => none }
def fnExactErasedRow : OpenClaim := { program := "ytageolbmplhgaaa", sum := "4964723b481dcd5f9d1c4c69f08c494b3b05739d9026b0158f51f9a3c59d6929", func := "loop.example/g00374/laws.FnExactErased", spec := "fnExactErased", unfollowed := true, recurses := true, apart := false }
def FnExactErasedSaid : Prop := fnExactErasedRow.holds Try.pinned (OpenSpec.ofChange fnExactErasedSpec)

/-- ITS FALSE NEIGHBOUR: 'it returns false'. Refute it at one input. -/
def fnExactErasedWrong : ChangeSpec := { name := "fnExactErased", fn := fun _ => fun
  | [d1, d2] => { results := [.lit (.bool false)], args := [d1, d2] }
  | _ => none }
def FnExactErasedWrongFalsely : Prop := fnExactErasedRow.holds Try.pinned (OpenSpec.ofChange fnExactErasedWrong)

/-- 'laws.FnExactFreeOf': WHATEVER THE INPUT: true; the input reads as it did. -/
def fnExactFreeOfSpec : ChangeSpec := { name := "fnExactFreeOf", fn := fun _ => fun
  | [d] => { results := [.lit (.bool true)], args := [d] }
  | _ => none }
def fnExactFreeOfRow : OpenClaim := { program := "ytageolbmplhgaaa", sum := "4964723b481dcd5f9d1c4c69f08c494b3b05739d9026b0158f51f9a3c59d6929", func := "loop.example/g00374/laws.FnExactFreeOf", spec := "fnExactFreeOf", unfollowed := true, recurses := true, apart := false }
def FnExactFreeOfSaid : Prop := fnExactFreeOfRow.holds Try.pinned (OpenSpec.ofChange fnExactFreeOfSpec)

/-- ITS FALSE NEIGHBOUR: 'it returns false'. Refute it at one input. -/
def fnExactFreeOfWrong : ChangeSpec := { name := "fnExactFreeOf", fn := fun _ => fun
  | [d] => { results := [.lit (.bool false)], args := [d] }
  | _ => none }
def FnExactFreeOfWrongFalsely : Prop := fnExactFreeOfRow.holds Try.pinned (OpenSpec.ofChange fnExactFreeOfWrong)

/-- 'laws.FnExactFtlOk': WHATEVER THE INPUT: true; the input reads as it did. -/
def fnExactFtlOkSpec : ChangeSpec := { name := "fnExactFtlOk", fn := fun _ => fun
  | [d] => { results := [.lit (.bool true)], args := [d] }
  | _ => none }
def fnExactFtlOkRow : OpenClaim := { program := "ytageolbmplhgaaa", sum := "4964723b481dcd5f9d1c4c69f08c494b3b05739d9026b0158f51f9a3c59d6929", func := "loop.example/g00374/laws.FnExactFtlOk", spec := "fnExactFtlOk", unfollowed := true, recurses := true, apart := false }
def FnExactFtlOkSaid : Prop := fnExactFtlOkRow.holds Try.pinned (OpenSpec.ofChange fnExactFtlOkSpec)

/-- ITS FALSE NEIGHBOUR: 'it returns false'. Refute it at one input. -/
def fnExactFtlOkWrong : ChangeSpec := { name := "fnExactFtlOk", fn := fun _ => fun
  | [d] => { results := [.lit (.bool false)], args := [d] }
  | _ => none }
def FnExactFtlOkWrongFalsely : Prop := fnExactFtlOkRow.holds Try.pinned (OpenSpec.ofChange fnExactFtlOkWrong)

/-- 'laws.FnExactFtlNew': WHATEVER THE INPUT: true; the input reads as it did. -/
def fnExactFtlNewSpec : ChangeSpec := { name := "fnExactFtlNew", fn := fun _ => fun
  | [d] => { results := [.lit (.bool true)], args := [d] }
  | _ => none }
def fnExactFtlNewRow : OpenClaim := { program := "ytageolbmplhgaaa", sum := "4964723b481dcd5f9d1c4c69f08c494b3b05739d9026b0158f51f9a3c59d6929", func := "loop.example/g00374/laws.FnExactFtlNew", spec := "fnExactFtlNew", unfollowed := true, recurses := true, apart := false }
def FnExactFtlNewSaid : Prop := fnExactFtlNewRow.holds Try.pinned (OpenSpec.ofChange fnExactFtlNewSpec)

/-- ITS FALSE NEIGHBOUR: 'it returns false'. Refute it at one input. -/
def fnExactFtlNewWrong : ChangeSpec := { name := "fnExactFtlNew", fn := fun _ => fun
  | [d] => { results := [.lit (.bool false)], args := [d] }
  | _ => none }
def FnExactFtlNewWrongFalsely : Prop := fnExactFtlNewRow.holds Try.pinned (OpenSpec.ofChange fnExactFtlNewWrong)

/-- 'laws.FnExactValidOf': WHATEVER THE INPUT: true; the input reads as it did. -/
def fnExactValidOfSpec : ChangeSpec := { name := "fnExactValidOf", fn := fun _ => fun
  | [d1, d2] => { results := [.lit (.bool true)], args := [d1, d2] }
  | _ => none }
def fnExactValidOfRow : OpenClaim := { program := "ytageolbmplhgaaa", sum := "4964723b481dcd5f9d1c4c69f08c494b3b05739d9026b0158f51f9a3c59d6929", func := "loop.example/g00374/laws.FnExactValidOf", spec := "fnExactValidOf", unfollowed := true, recurses := true, apart := false }
def FnExactValidOfSaid : Prop := fnExactValidOfRow.holds Try.pinned (OpenSpec.ofChange fnExactValidOfSpec)

/-- ITS FALSE NEIGHBOUR: 'it returns false'. Refute it at one input. -/
def fnExactValidOfWrong : ChangeSpec := { name := "fnExactValidOf", fn := fun _ => fun
  | [d1, d2] => { results := [.lit (.bool false)], args := [d1, d2] }
  | _ => none }
def FnExactValidOfWrongFalsely : Prop := fnExactValidOfRow.holds Try.pinned (OpenSpec.ofChange fnExactValidOfWrong)

/-- 'laws.FnExactVictimOf': WHATEVER THE INPUT: true; the input reads as it did. -/
def fnExactVictimOfSpec : ChangeSpec := { name := "fnExactVictimOf", fn := fun _ => fun
  | [d] => { results := [.lit (.bool true)], args := [d] }
  | _ => none }
def fnExactVictimOfRow : OpenClaim := { program := "ytageolbmplhgaaa", sum := "4964723b481dcd5f9d1c4c69f08c494b3b05739d9026b0158f51f9a3c59d6929", func := "loop.example/g00374/laws.FnExactVictimOf", spec := "fnExactVictimOf", unfollowed := true, recurses := true, apart := false }
def FnExactVictimOfSaid : Prop := fnExactVictimOfRow.holds Try.pinned (OpenSpec.ofChange fnExactVictimOfSpec)

/-- ITS FALSE NEIGHBOUR: 'it returns false'. Refute it at one input. -/
def fnExactVictimOfWrong : ChangeSpec := { name := "fnExactVictimOf", fn := fun _ => fun
  | [d] => { results := [.lit (.bool false)], args := [d] }
  | _ => none }
def FnExactVictimOfWrongFalsely : Prop := fnExactVictimOfRow.holds Try.pinned (OpenSpec.ofChange fnExactVictimOfWrong)

/-- 'laws.FnExactPageAt': WHATEVER THE INPUT: true; the input reads as it did. -/
def fnExactPageAtSpec : ChangeSpec := { name := "fnExactPageAt", fn := fun _ => fun
  | [d1, d2] => { results := [.lit (.bool true)], args := [d1, d2] }
  | _ => none }
def fnExactPageAtRow : OpenClaim := { program := "ytageolbmplhgaaa", sum := "4964723b481dcd5f9d1c4c69f08c494b3b05739d9026b0158f51f9a3c59d6929", func := "loop.example/g00374/laws.FnExactPageAt", spec := "fnExactPageAt", inPlace := ["internal/abi.NoEscape", "internal/bytealg.MakeNoZero"], unfollowed := true, recurses := true, apart := false }
def FnExactPageAtSaid : Prop := fnExactPageAtRow.holds Try.pinned (OpenSpec.ofChange fnExactPageAtSpec)

/-- ITS FALSE NEIGHBOUR: 'it returns false'. Refute it at one input. -/
def fnExactPageAtWrong : ChangeSpec := { name := "fnExactPageAt", fn := fun _ => fun
  | [d1, d2] => { results := [.lit (.bool false)], args := [d1, d2] }
  | _ => none }
def FnExactPageAtWrongFalsely : Prop := fnExactPageAtRow.holds Try.pinned (OpenSpec.ofChange fnExactPageAtWrong)

/-- 'laws.FnExactMapOf': WHATEVER THE INPUT: true; the input reads as it did. -/
def fnExactMapOfSpec : ChangeSpec := { name := "fnExactMapOf", fn := fun _ => fun
  | [d] => { results := [.lit (.bool true)], args := [d] }
  | _ => none }
def fnExactMapOfRow : OpenClaim := { program := "ytageolbmplhgaaa", sum := "4964723b481dcd5f9d1c4c69f08c494b3b05739d9026b0158f51f9a3c59d6929", func := "loop.example/g00374/laws.FnExactMapOf", spec := "fnExactMapOf", unfollowed := true, recurses := true, apart := false }
def FnExactMapOfSaid : Prop := fnExactMapOfRow.holds Try.pinned (OpenSpec.ofChange fnExactMapOfSpec)

/-- ITS FALSE NEIGHBOUR: 'it returns false'. Refute it at one input. -/
def fnExactMapOfWrong : ChangeSpec := { name := "fnExactMapOf", fn := fun _ => fun
  | [d] => { results := [.lit (.bool false)], args := [d] }
  | _ => none }
def FnExactMapOfWrongFalsely : Prop := fnExactMapOfRow.holds Try.pinned (OpenSpec.ofChange fnExactMapOfWrong)

/- THE SECOND FORM. 'bulk': how many values and letters a reading holds, each counted each time it is reached (what is shared counts as often as it is met; a slice's spare places count too). A statement '..UptoSaid' is the law's where the arguments, and the package variables that the reading takes, are together of bulk at most 1048576: NARROWER than '..Said'. Prove '..Said' where nothing that the law and all that it calls make is longer than what came in: it says more and counts as full. Else prove '..UptoSaid'. A law counts once. -/
mutual
def uptoBulk {H : Type} : DataW H → Nat
  | .lit (.string bytes) => bytes.length + 1
  | .lit _ => 1
  | .nil => 1
  | .ptr d => uptoBulk d + 1
  | .slice elems spare => uptoBulkAll elems + uptoBulkAll spare + 1
  | .agg parts => uptoBulkAll parts + 1
  | .iface _ d => uptoBulk d + 1
  | .map entries => uptoBulkEntries entries + 1
  | .held _ => 1
def uptoBulkAll {H : Type} : List (DataW H) → Nat
  | [] => 0
  | d :: r => uptoBulk d + uptoBulkAll r
def uptoBulkEntries {H : Type} : List (Lit × DataW H) → Nat
  | [] => 0
  | x :: r => uptoBulkEntry x + uptoBulkEntries r
def uptoBulkEntry {H : Type} : Lit × DataW H → Nat
  | (.string bytes, d) => bytes.length + uptoBulk d + 1
  | (_, d) => uptoBulk d + 1
 end
def uptoSmall : (H : Type) → List (DataW H) → Bool := fun _ ds => decide (uptoBulkAll ds ≤ 1048576)
def OpenSpec.upto (s : _root_.Go.ChangeSpec) : _root_.Go.OpenSpec := { _root_.Go.OpenSpec.ofChange s with cond := some uptoSmall }

/-- 'laws.FnExactChipOk', WHERE WHAT IT READS IS OF BULK AT MOST 1048576: true; the input reads as it did. -/
def fnExactChipOkUptoRow : OpenClaim := { program := "ytageolbmplhgaaa", sum := "4964723b481dcd5f9d1c4c69f08c494b3b05739d9026b0158f51f9a3c59d6929", func := "loop.example/g00374/laws.FnExactChipOk", spec := "fnExactChipOk", unfollowed := true, recurses := true, apart := false, narrowed := true }
def FnExactChipOkUptoSaid : Prop := fnExactChipOkUptoRow.holds Try.pinned (OpenSpec.upto fnExactChipOkSpec)

/-- 'laws.FnExactChipNew', WHERE WHAT IT READS IS OF BULK AT MOST 1048576: true; the input reads as it did. -/
def fnExactChipNewUptoRow : OpenClaim := { program := "ytageolbmplhgaaa", sum := "4964723b481dcd5f9d1c4c69f08c494b3b05739d9026b0158f51f9a3c59d6929", func := "loop.example/g00374/laws.FnExactChipNew", spec := "fnExactChipNew", apart := false, narrowed := true }
def FnExactChipNewUptoSaid : Prop := fnExactChipNewUptoRow.holds Try.pinned (OpenSpec.upto fnExactChipNewSpec)

/-- 'laws.FnExactNextOf', WHERE WHAT IT READS IS OF BULK AT MOST 1048576: true; the input reads as it did. -/
def fnExactNextOfUptoRow : OpenClaim := { program := "ytageolbmplhgaaa", sum := "4964723b481dcd5f9d1c4c69f08c494b3b05739d9026b0158f51f9a3c59d6929", func := "loop.example/g00374/laws.FnExactNextOf", spec := "fnExactNextOf", unfollowed := true, recurses := true, apart := false, narrowed := true }
def FnExactNextOfUptoSaid : Prop := fnExactNextOfUptoRow.holds Try.pinned (OpenSpec.upto fnExactNextOfSpec)

/-- 'laws.FnExactProgrammed', WHERE WHAT IT READS IS OF BULK AT MOST 1048576: true; the input reads as it did. -/
def fnExactProgrammedUptoRow : OpenClaim := { program := "ytageolbmplhgaaa", sum := "4964723b481dcd5f9d1c4c69f08c494b3b05739d9026b0158f51f9a3c59d6929", func := "loop.example/g00374/laws.FnExactProgrammed", spec := "fnExactProgrammed", unfollowed := true, recurses := true, apart := false, narrowed := true }
def FnExactProgrammedUptoSaid : Prop := fnExactProgrammedUptoRow.holds Try.pinned (OpenSpec.upto fnExactProgrammedSpec)

/-- 'laws.FnExactErased', WHERE WHAT IT READS IS OF BULK AT MOST 1048576: true; the input reads as it did. -/
def fnExactErasedUptoRow : OpenClaim := { program := "ytageolbmplhgaaa", sum := "4964723b481dcd5f9d1c4c69f08c494b3b05739d9026b0158f51f9a3c59d6929", func := "loop.example/g00374/laws.FnExactErased", spec := "fnExactErased", unfollowed := true, recurses := true, apart := false, narrowed := true }
def FnExactErasedUptoSaid : Prop := fnExactErasedUptoRow.holds Try.pinned (OpenSpec.upto fnExactErasedSpec)

/-- 'laws.FnExactFreeOf', WHERE WHAT IT READS IS OF BULK AT MOST 1048576: true; the input reads as it did. -/
def fnExactFreeOfUptoRow : OpenClaim := { program := "ytageolbmplhgaaa", sum := "4964723b481dcd5f9d1c4c69f08c494b3b05739d9026b0158f51f9a3c59d6929", func := "loop.example/g00374/laws.FnExactFreeOf", spec := "fnExactFreeOf", unfollowed := true, recurses := true, apart := false, narrowed := true }
def FnExactFreeOfUptoSaid : Prop := fnExactFreeOfUptoRow.holds Try.pinned (OpenSpec.upto fnExactFreeOfSpec)

/-- 'laws.FnExactFtlOk', WHERE WHAT IT READS IS OF BULK AT MOST 1048576: true; the input reads as it did. -/
def fnExactFtlOkUptoRow : OpenClaim := { program := "ytageolbmplhgaaa", sum := "4964723b481dcd5f9d1c4c69f08c494b3b05739d9026b0158f51f9a3c59d6929", func := "loop.example/g00374/laws.FnExactFtlOk", spec := "fnExactFtlOk", unfollowed := true, recurses := true, apart := false, narrowed := true }
def FnExactFtlOkUptoSaid : Prop := fnExactFtlOkUptoRow.holds Try.pinned (OpenSpec.upto fnExactFtlOkSpec)

/-- 'laws.FnExactFtlNew', WHERE WHAT IT READS IS OF BULK AT MOST 1048576: true; the input reads as it did. -/
def fnExactFtlNewUptoRow : OpenClaim := { program := "ytageolbmplhgaaa", sum := "4964723b481dcd5f9d1c4c69f08c494b3b05739d9026b0158f51f9a3c59d6929", func := "loop.example/g00374/laws.FnExactFtlNew", spec := "fnExactFtlNew", unfollowed := true, recurses := true, apart := false, narrowed := true }
def FnExactFtlNewUptoSaid : Prop := fnExactFtlNewUptoRow.holds Try.pinned (OpenSpec.upto fnExactFtlNewSpec)

/-- 'laws.FnExactValidOf', WHERE WHAT IT READS IS OF BULK AT MOST 1048576: true; the input reads as it did. -/
def fnExactValidOfUptoRow : OpenClaim := { program := "ytageolbmplhgaaa", sum := "4964723b481dcd5f9d1c4c69f08c494b3b05739d9026b0158f51f9a3c59d6929", func := "loop.example/g00374/laws.FnExactValidOf", spec := "fnExactValidOf", unfollowed := true, recurses := true, apart := false, narrowed := true }
def FnExactValidOfUptoSaid : Prop := fnExactValidOfUptoRow.holds Try.pinned (OpenSpec.upto fnExactValidOfSpec)

/-- 'laws.FnExactVictimOf', WHERE WHAT IT READS IS OF BULK AT MOST 1048576: true; the input reads as it did. -/
def fnExactVictimOfUptoRow : OpenClaim := { program := "ytageolbmplhgaaa", sum := "4964723b481dcd5f9d1c4c69f08c494b3b05739d9026b0158f51f9a3c59d6929", func := "loop.example/g00374/laws.FnExactVictimOf", spec := "fnExactVictimOf", unfollowed := true, recurses := true, apart := false, narrowed := true }
def FnExactVictimOfUptoSaid : Prop := fnExactVictimOfUptoRow.holds Try.pinned (OpenSpec.upto fnExactVictimOfSpec)

/-- 'laws.FnExactPageAt', WHERE WHAT IT READS IS OF BULK AT MOST 1048576: true; the input reads as it did. -/
def fnExactPageAtUptoRow : OpenClaim := { program := "ytageolbmplhgaaa", sum := "4964723b481dcd5f9d1c4c69f08c494b3b05739d9026b0158f51f9a3c59d6929", func := "loop.example/g00374/laws.FnExactPageAt", spec := "fnExactPageAt", inPlace := ["internal/abi.NoEscape", "internal/bytealg.MakeNoZero"], unfollowed := true, recurses := true, apart := false, narrowed := true }
def FnExactPageAtUptoSaid : Prop := fnExactPageAtUptoRow.holds Try.pinned (OpenSpec.upto fnExactPageAtSpec)

/-- 'laws.FnExactMapOf', WHERE WHAT IT READS IS OF BULK AT MOST 1048576: true; the input reads as it did. -/
def fnExactMapOfUptoRow : OpenClaim := { program := "ytageolbmplhgaaa", sum := "4964723b481dcd5f9d1c4c69f08c494b3b05739d9026b0158f51f9a3c59d6929", func := "loop.example/g00374/laws.FnExactMapOf", spec := "fnExactMapOf", unfollowed := true, recurses := true, apart := false, narrowed := true }
def FnExactMapOfUptoSaid : Prop := fnExactMapOfUptoRow.holds Try.pinned (OpenSpec.upto fnExactMapOfSpec)

end Rows
end Go.Proofs.Ytageolbmplhgaaa
