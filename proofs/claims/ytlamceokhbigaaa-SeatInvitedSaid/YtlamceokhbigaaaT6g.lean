
/- The rules that an order does not keep. -/
import Derived.Test.YtlamceokhbigaaaT5g
set_option linter.unusedVariables false
set_option linter.unusedSimpArgs false
namespace Go.Proofs.Ytlamceokhbigaaa
open Go.AI
end Go.Proofs.Ytlamceokhbigaaa

