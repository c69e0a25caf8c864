
/- How a fire truly burns, made of numbers. -/
import Derived.Test.YtglkphjjinmgmaaWsh
set_option linter.unusedVariables false
set_option linter.unusedSimpArgs false
namespace Go.Proofs.Ytglkphjjinmgmaa
open Go.AI
end Go.Proofs.Ytglkphjjinmgmaa

