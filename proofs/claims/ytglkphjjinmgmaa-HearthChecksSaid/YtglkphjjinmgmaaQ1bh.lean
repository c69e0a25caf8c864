
/- Picked out of Tp.tpl. -/
import Derived.Test.YtglkphjjinmgmaaQ1h
set_option linter.unusedVariables false
set_option linter.unusedSimpArgs false
namespace Go.Proofs.Ytglkphjjinmgmaa
open Go.AI
end Go.Proofs.Ytglkphjjinmgmaa


