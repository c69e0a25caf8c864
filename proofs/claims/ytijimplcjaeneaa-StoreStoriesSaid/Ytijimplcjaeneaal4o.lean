
/- The reference's stories: the walk. -/
import Derived.Test.Ytijimplcjaeneaal3o
set_option linter.unusedVariables false
set_option linter.unusedSimpArgs false
namespace Go.Proofs.Ytijimplcjaeneaa
open Go.AI
end Go.Proofs.Ytijimplcjaeneaa

