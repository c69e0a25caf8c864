
/- Water that stays as warm, or gets no colder. -/
import Derived.Test.YtglkphjjinmgmaaWyh
import Derived.Test.YtglkphjjinmgmaaWqh
set_option linter.unusedVariables false
set_option linter.unusedSimpArgs false
namespace Go.Proofs.Ytglkphjjinmgmaa
open Go.AI
end Go.Proofs.Ytglkphjjinmgmaa

