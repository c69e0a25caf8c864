/- A closed call of package hearth. -/
import Derived.Test.YtglkphjjinmgmaaDoorPy
set_option linter.unusedVariables false
set_option linter.unusedSimpArgs false
namespace Go.Proofs.YtglkphjjinmgmaaDoor
open Go.AI
theorem lay3_run : eqRow (@call Tryd.prog (orG kn1) 3000 (.fn lay3.f) lay3.args lay3.heap) lay3 = true := by kernel_rfl
end Go.Proofs.YtglkphjjinmgmaaDoor
