/- Members: the laws' own copy, comparison and size of them; an argument that is a member, opened. -/
import Derived.Test.YtaelbmilicfkhaaLawC
import Derived.Test.YtaelbmilicfkhaaIntT
import Derived.Test.YtaelbmilicfkhaaOpenI
import Derived.Test.YtaelbmilicfkhaaHasSeq
import Derived.WalkKit
import Derived.ProofKit
namespace Go.Proofs.Ytaelbmilicfkhaa
open Go.RowKit
set_option linter.unusedVariables false
set_option linter.unusedSimpArgs false






end Go.Proofs.Ytaelbmilicfkhaa
