/- Closed calls of package chart: drawn. -/
import Derived.Test.YtkfaiokiaahbaaaDoorb1
set_option linter.unusedVariables false
set_option linter.unusedSimpArgs false
namespace Go.Proofs.YtkfaiokiaahbaaaDoor
open Go.AI
theorem run4 : eqRG (@call Tryd.prog (Oracle.ofG Tryd.prog gl kn3) 3000 (.fn 70) [] (baseHeap gl)) (.bool true) gl.length = true := by kernel_rfl
end Go.Proofs.YtkfaiokiaahbaaaDoor
