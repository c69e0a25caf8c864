/- Closed calls of package hearth: HearthKnown. -/
import Derived.Test.YtglkphjjinmgmaaDoorHf
set_option linter.unusedVariables false
set_option linter.unusedSimpArgs false
namespace Go.Proofs.YtglkphjjinmgmaaDoor
open Go.AI
theorem run3 : eqRG (@call Tryd.prog ((orG kn2).plus [when1] [sings1, run1m, run2m]) 3000 (.fn 3) [] (baseHeap gl)) (.bool true) gl.length = true := by kernel_rfl
theorem ok3 (B : Nat) : @OracleOK Tryd.prog (orG kn3) B := okG_consP (ok2 B) (.cons rfl when1_run .nil) (.cons rfl rfl sings1_run (.cons rfl rfl run1m_run (.cons rfl rfl run2m_run .nil))) rfl run3
end Go.Proofs.YtglkphjjinmgmaaDoor
