/- When the kettle sings first. -/
import Derived.Test.Ytglkphjjinmgmaar4h
import Derived.Test.YtglkphjjinmgmaaM7h
set_option linter.unusedVariables false
set_option linter.unusedSimpArgs false
namespace Go.Proofs.Ytglkphjjinmgmaa
open Go.AI
end Go.Proofs.Ytglkphjjinmgmaa
