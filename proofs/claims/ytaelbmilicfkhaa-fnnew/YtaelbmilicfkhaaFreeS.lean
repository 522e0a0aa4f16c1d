/- The model's FreeOf. -/
import Derived.Test.YtaelbmilicfkhaaFreeP
import Derived.Test.YtaelbmilicfkhaaSpecOk
import Derived.Test.YtaelbmilicfkhaaNew
import Derived.WalkKit
import Derived.Outline
namespace Go.Proofs.Ytaelbmilicfkhaa
open Go.RowKit
set_option linter.unusedVariables false
set_option linter.unusedSimpArgs false

theorem infoInt64 : (Try.prog.info? 2).map (fun i => (i.zero, i.size, i.bytes)) = some (some (.int .i64 0), 1, 8) := by kernel_rfl


end Go.Proofs.Ytaelbmilicfkhaa
