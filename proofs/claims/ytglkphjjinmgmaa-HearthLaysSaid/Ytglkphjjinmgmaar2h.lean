/- Run,for whatever pours. -/
import Derived.Test.Ytglkphjjinmgmaar1h
import Derived.Test.YtglkphjjinmgmaaM3h
set_option linter.unusedVariables false
set_option linter.unusedSimpArgs false
namespace Go.Proofs.Ytglkphjjinmgmaa
open Go.AI
end Go.Proofs.Ytglkphjjinmgmaa
