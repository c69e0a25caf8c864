
/- Which loans may be; Lend. -/
import Derived.Test.Ytijimplcjaeneaad2o
set_option linter.unusedVariables false
set_option linter.unusedSimpArgs false
namespace Go.Proofs.Ytijimplcjaeneaa
open Go.AI
end Go.Proofs.Ytijimplcjaeneaa

