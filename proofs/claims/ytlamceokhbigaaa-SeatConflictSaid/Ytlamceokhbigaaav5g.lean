
/- SeatConflict: the walk. -/
import Derived.Test.Ytlamceokhbigaaav3g
import Derived.Test.Ytlamceokhbigaaav4g
set_option linter.unusedVariables false
set_option linter.unusedSimpArgs false
namespace Go.Proofs.Ytlamceokhbigaaa
open Go.AI
end Go.Proofs.Ytlamceokhbigaaa

