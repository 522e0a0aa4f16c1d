/- What every law over a chip calls, told for a length by name. -/
import Derived.Test.YtaelbmilicfkhaaLaw0
import Derived.Test.YtaelbmilicfkhaaEq
import Derived.Test.YtaelbmilicfkhaaSz
import Derived.Test.YtaelbmilicfkhaaTo
import Derived.Test.YtaelbmilicfkhaaOpenC
import Derived.WalkKit
import Derived.ProofKit
namespace Go.Proofs.Ytaelbmilicfkhaa
open Go.RowKit
set_option linter.unusedVariables false

end Go.Proofs.Ytaelbmilicfkhaa
