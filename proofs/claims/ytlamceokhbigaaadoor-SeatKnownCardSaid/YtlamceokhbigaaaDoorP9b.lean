/- Closed calls of package seat: SeatKnown. -/
import Derived.Test.YtlamceokhbigaaaDoorP9a
set_option linter.unusedVariables false
set_option linter.unusedSimpArgs false
namespace Go.Proofs.YtlamceokhbigaaaDoor
open Go.AI
theorem run3 : eqRG (@call Tryd.prog (Oracle.ofM Tryd.prog gl kn2 memos) 3000 (.fn 3) [] (baseHeap gl)) (.bool true) gl.length = true := by kernel_rfl
theorem ok3 (B : Nat) : @OracleOK Tryd.prog (Oracle.ofG Tryd.prog gl kn3) B := ofM_cons mixed glCalm nglobs (ok2 B) memosOk rfl run3
end Go.Proofs.YtlamceokhbigaaaDoor
