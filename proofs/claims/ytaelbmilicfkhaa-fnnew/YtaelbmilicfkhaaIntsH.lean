/- Lists of int64: the laws' own heldInt64S. -/
import Derived.Test.YtaelbmilicfkhaaChecked
import Derived.Test.YtaelbmilicfkhaaInts
import Derived.Test.YtaelbmilicfkhaaIntT
import Derived.Test.YtaelbmilicfkhaaOwnI
import Derived.Test.YtaelbmilicfkhaaOwn
import Derived.WalkKit
import Derived.Outline
namespace Go.Proofs.Ytaelbmilicfkhaa
open Go.RowKit
set_option linter.unusedVariables false
set_option linter.unusedSimpArgs false

end Go.Proofs.Ytaelbmilicfkhaa
