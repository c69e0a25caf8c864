
/- More warmth: a coal more, warmer pours. Copies of fires and pours. -/
import Derived.Test.YtglkphjjinmgmaaW9h
set_option linter.unusedVariables false
set_option linter.unusedSimpArgs false
namespace Go.Proofs.Ytglkphjjinmgmaa
open Go.AI
end Go.Proofs.Ytglkphjjinmgmaa

