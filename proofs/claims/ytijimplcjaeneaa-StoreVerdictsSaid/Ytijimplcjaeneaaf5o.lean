
/- Repeats of a plan, by the reference. -/
import Derived.Test.Ytijimplcjaeneaaf4o
set_option linter.unusedVariables false
set_option linter.unusedSimpArgs false
namespace Go.Proofs.Ytijimplcjaeneaa
open Go.AI
end Go.Proofs.Ytijimplcjaeneaa

