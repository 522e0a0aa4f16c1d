/- The greatest number on a chip: the model's l2Seq. -/
import Derived.Test.YtaelbmilicfkhaaFtlP
import Derived.Test.YtaelbmilicfkhaaSpecOk
namespace Go.Proofs.Ytaelbmilicfkhaa
open Go.RowKit
set_option linter.unusedVariables false
set_option linter.unusedSimpArgs false

theorem topStep_max (c : Int × Int) (x : Int × Pg) : (topStep c x).1 = max c.1 x.2.seq := by
  unfold topStep
  split
  · simp; omega
  · omega

end Go.Proofs.Ytaelbmilicfkhaa
