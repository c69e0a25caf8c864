/- Closed calls of package seat: awake. -/
import Derived.Test.YtlamceokhbigaaaEy
import Derived.Test.YtlamceokhbigaaaChecked
set_option linter.unusedVariables false
set_option linter.unusedSimpArgs false
namespace Go.Proofs.Ytlamceokhbigaaa
open Go.AI
theorem mixed : Try.prog.follows .mixedOrders = true := by kernel_rfl
theorem nglobs : Try.prog.globals.size = 0 := by kernel_rfl
abbrev kn2 : List (Nat × Value) := [(17, .bool true)]
theorem run2 : eqR (@call Try.prog (Oracle.of Try.prog []) 3000 (.fn 17) [] (baseHeap [])) (.bool true) = true := by kernel_rfl
theorem ok2 (B : Nat) : @OracleOK Try.prog (Oracle.of Try.prog kn2) B := of_cons mixed nglobs of_nil rfl run2
end Go.Proofs.Ytlamceokhbigaaa
