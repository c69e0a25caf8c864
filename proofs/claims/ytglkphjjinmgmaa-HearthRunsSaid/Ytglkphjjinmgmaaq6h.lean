/- Copies and comparisons of fires and pours. -/
import Derived.Test.Ytglkphjjinmgmaaq5h
import Derived.Test.YtglkphjjinmgmaaM5h
set_option linter.unusedVariables false
set_option linter.unusedSimpArgs false
namespace Go.Proofs.Ytglkphjjinmgmaa
open Go.AI
end Go.Proofs.Ytglkphjjinmgmaa
