/- Lists of int64: the laws' own comparison, marks, and whether they are held. -/
import Derived.Test.YtaelbmilicfkhaaChecked
import Derived.Test.YtaelbmilicfkhaaIntT
import Derived.Test.YtaelbmilicfkhaaOwnI
import Derived.Test.YtaelbmilicfkhaaOwn
import Derived.WalkKit
import Derived.Outline
namespace Go.Proofs.Ytaelbmilicfkhaa
open Go.RowKit
set_option linter.unusedVariables false
set_option linter.unusedSimpArgs false

def marksI (k : Int) (n : Nat) : List Int := (List.range n).map fun (i : Nat) => k + (i : Int)

end Go.Proofs.Ytaelbmilicfkhaa
