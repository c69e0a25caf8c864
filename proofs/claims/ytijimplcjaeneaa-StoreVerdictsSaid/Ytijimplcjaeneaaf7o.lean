
/- Copies of seasons; whether two are equal; those that are vast. -/
import Derived.Test.Ytijimplcjaeneaaf6o
import Derived.Test.Ytijimplcjaeneaad5o
set_option linter.unusedVariables false
set_option linter.unusedSimpArgs false
namespace Go.Proofs.Ytijimplcjaeneaa
open Go.AI
end Go.Proofs.Ytijimplcjaeneaa

