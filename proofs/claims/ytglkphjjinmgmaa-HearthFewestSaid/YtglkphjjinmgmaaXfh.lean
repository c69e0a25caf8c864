
/- HearthWarmth. -/
import Derived.Test.YtglkphjjinmgmaaXeh
import Derived.Test.YtglkphjjinmgmaaWuh
set_option linter.unusedVariables false
set_option linter.unusedSimpArgs false
namespace Go.Proofs.Ytglkphjjinmgmaa
open Go.AI
end Go.Proofs.Ytglkphjjinmgmaa

