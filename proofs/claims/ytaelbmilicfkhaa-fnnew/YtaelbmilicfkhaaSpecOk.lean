/- The model's answer whether a chip is right. -/
import Derived.Test.YtaelbmilicfkhaaChecked
import Derived.Test.YtaelbmilicfkhaaOk
import Derived.Test.YtaelbmilicfkhaaNew
import Derived.WalkKit
import Derived.Outline
import Derived.Laws.Closers25b
namespace Go.Proofs.Ytaelbmilicfkhaa
open Go.RowKit
set_option linter.unusedVariables false
set_option linter.unusedSimpArgs false

theorem isEmpty_size (d : ByteArray) : d.toList.isEmpty = decide (d.size = 0) := by
  rw [Bool.eq_iff_iff]
  simp [List.isEmpty_iff, toList_nil_iff_emptyBytes]
theorem size_four (d : ByteArray) : ((d.size : Int) == 4) = decide (d.size = 4) := by
  rw [Bool.eq_iff_iff]
  simp
  omega
theorem ret_bool {a b : Bool} (h : a = b) : Ending.returned (.bool a) = .returned (.bool b) := by rw [h]



end Go.Proofs.Ytaelbmilicfkhaa
