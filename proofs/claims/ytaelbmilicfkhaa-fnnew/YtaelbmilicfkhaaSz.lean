/- The laws' own measure of an argument: it answers a number not above the one that it was given; not below nought only where no list is longer than that. -/
import Derived.Test.YtaelbmilicfkhaaChecked
import Derived.Test.YtaelbmilicfkhaaMem
import Derived.WalkKit
import Derived.Outline
namespace Go.Proofs.Ytaelbmilicfkhaa
open Go.RowKit
set_option linter.unusedVariables false





end Go.Proofs.Ytaelbmilicfkhaa
