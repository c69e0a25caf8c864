
/- The rules that an order does not keep. -/
import Derived.Test.YtlamceokhbigaaaT5g
set_option linter.unusedVariables false
set_option linter.unusedSimpArgs false
namespace Go.Proofs.Ytlamceokhbigaaa
open Go.AI
/-- Nobody sits before anyone with a greater rank. -/
def downR (R : List Int) (n : Nat) : Bool := (List.range (n - 1)).all fun j => decide (R[j + 1]! ≤ R[j]!)
end Go.Proofs.Ytlamceokhbigaaa

