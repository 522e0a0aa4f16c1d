/- The model's NextOf. -/
import Derived.Test.YtaelbmilicfkhaaNextP
import Derived.Test.YtaelbmilicfkhaaSpecOk
import Derived.Test.YtaelbmilicfkhaaNew
import Derived.WalkKit
import Derived.Outline
namespace Go.Proofs.Ytaelbmilicfkhaa
open Go.RowKit
set_option linter.unusedVariables false
set_option linter.unusedSimpArgs false


end Go.Proofs.Ytaelbmilicfkhaa
