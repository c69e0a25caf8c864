
/- SeatConflict: the row. -/
import Derived.Test.YtlamceokhbigaaaWzg
import Derived.Test.Ytlamceokhbigaaav5g
set_option linter.unusedVariables false
set_option linter.unusedSimpArgs false
namespace Go.Proofs.Ytlamceokhbigaaa
open Go.AI Go.ChangeShapes Go.WideShapes Go.ChangeAt Go.RowKit

end Go.Proofs.Ytlamceokhbigaaa

