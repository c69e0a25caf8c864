
/- The reference's dated: the walk. -/
import Derived.Test.Ytijimplcjaeneaal1o
set_option linter.unusedVariables false
set_option linter.unusedSimpArgs false
namespace Go.Proofs.Ytijimplcjaeneaa
open Go.AI
end Go.Proofs.Ytijimplcjaeneaa

