/- Closed calls of package hearth: HearthKnown. -/
import Derived.Test.YtglkphjjinmgmaaDoorHd
import Derived.Test.YtglkphjjinmgmaaDoorHe
set_option linter.unusedVariables false
set_option linter.unusedSimpArgs false
namespace Go.Proofs.YtglkphjjinmgmaaDoor
open Go.AI
theorem run2m_run : eqRow (@call Tryd.prog (orG kn2) 3000 (.fn run2m.f) run2m.args run2m.heap) run2m = true := by kernel_rfl
end Go.Proofs.YtglkphjjinmgmaaDoor
