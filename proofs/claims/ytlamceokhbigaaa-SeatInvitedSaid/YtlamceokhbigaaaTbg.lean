
/- The orders that are allowed, handed out one by one. -/
import Derived.Test.YtlamceokhbigaaaT9g
set_option linter.unusedVariables false
set_option linter.unusedSimpArgs false
namespace Go.Proofs.Ytlamceokhbigaaa
open Go.AI
end Go.Proofs.Ytlamceokhbigaaa

