/- Closed calls of package hearth: what is known of the warmth, and when the kettle sings. -/
import Derived.Test.YtglkphjjinmgmaaDoorPy
set_option linter.unusedVariables false
set_option linter.unusedSimpArgs false
namespace Go.Proofs.YtglkphjjinmgmaaDoor
open Go.AI
theorem sings1_run : eqRow (@call Tryd.prog (orG kn2) 3000 (.fn sings1.f) sings1.args sings1.heap) sings1 = true := by kernel_rfl
theorem when1_run : eqRT (@call Tryd.prog (orG kn2) 3000 (.fn when1.f) when1.args when1.heap) when1.v when1.n = true := by kernel_rfl
theorem run1m_run : eqRow (@call Tryd.prog (orG kn2) 3000 (.fn run1m.f) run1m.args run1m.heap) run1m = true := by kernel_rfl
end Go.Proofs.YtglkphjjinmgmaaDoor
