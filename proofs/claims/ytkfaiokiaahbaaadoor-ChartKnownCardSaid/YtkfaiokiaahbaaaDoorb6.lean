/- Closed calls of package chart: named. -/
import Derived.Test.YtkfaiokiaahbaaaDoorb1
set_option linter.unusedVariables false
set_option linter.unusedSimpArgs false
namespace Go.Proofs.YtkfaiokiaahbaaaDoor
open Go.AI
theorem run5 : eqRG (@call Tryd.prog (Oracle.ofG Tryd.prog gl kn4) 3000 (.fn 71) [] (baseHeap gl)) (.bool true) gl.length = true := by kernel_rfl
end Go.Proofs.YtkfaiokiaahbaaaDoor
