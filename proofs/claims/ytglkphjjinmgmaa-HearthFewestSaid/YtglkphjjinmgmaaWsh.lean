
/- How a fire truly burns, made of numbers; true heats. -/
import Derived.Test.YtglkphjjinmgmaaWrh
set_option linter.unusedVariables false
set_option linter.unusedSimpArgs false
namespace Go.Proofs.Ytglkphjjinmgmaa
open Go.AI
end Go.Proofs.Ytglkphjjinmgmaa

