
/- The reference's Orders; what is the same. -/
import Derived.Test.Ytijimplcjaeneaam0o
set_option linter.unusedVariables false
set_option linter.unusedSimpArgs false
namespace Go.Proofs.Ytijimplcjaeneaa
open Go.AI
end Go.Proofs.Ytijimplcjaeneaa

