/- A closed call of package hearth. -/
import Derived.Test.YtglkphjjinmgmaaDoorPy
set_option linter.unusedVariables false
set_option linter.unusedSimpArgs false
namespace Go.Proofs.YtglkphjjinmgmaaDoor
open Go.AI
theorem lay1_run : eqRow (@call Tryd.prog (orG kn1) 3000 (.fn lay1.f) lay1.args lay1.heap) lay1 = true := by kernel_rfl
end Go.Proofs.YtglkphjjinmgmaaDoor
