
/- Combinations, by the program and by the reference. -/
import Derived.Test.Ytijimplcjaeneaaf1o
set_option linter.unusedVariables false
set_option linter.unusedSimpArgs false
namespace Go.Proofs.Ytijimplcjaeneaa
open Go.AI
end Go.Proofs.Ytijimplcjaeneaa

