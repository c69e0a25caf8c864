
/- HearthCalm. -/
import Derived.Test.YtglkphjjinmgmaaW8h
import Derived.Test.YtglkphjjinmgmaaWrh
set_option linter.unusedVariables false
set_option linter.unusedSimpArgs false
namespace Go.Proofs.Ytglkphjjinmgmaa
open Go.AI
end Go.Proofs.Ytglkphjjinmgmaa

