/- What every law asks of the whole program. -/
import Derived.Test.YtaelbmilicfkhaaChecked
import Derived.WalkKit
import Derived.ProofKit
import Derived.Below
namespace Go.Proofs.Ytaelbmilicfkhaa
open Go.RowKit

theorem own : ownKnob Try.prog.godebug = none := by kernel_rfl
theorem laidOut : laidOutB Try.prog = true := by kernel_rfl

end Go.Proofs.Ytaelbmilicfkhaa
