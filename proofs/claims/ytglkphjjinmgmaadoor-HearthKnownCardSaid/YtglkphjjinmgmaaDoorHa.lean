/- A closed call of package hearth. -/
import Derived.Test.YtglkphjjinmgmaaDoorPy
set_option linter.unusedVariables false
set_option linter.unusedSimpArgs false
namespace Go.Proofs.YtglkphjjinmgmaaDoor
open Go.AI
theorem lay2_run : eqRT (@call Tryd.prog (orG kn1) 3000 (.fn lay2.f) lay2.args lay2.heap) lay2.v lay2.n = true := by kernel_rfl
end Go.Proofs.YtglkphjjinmgmaaDoor
