
/- However warm the water truly is: rounding, and what lies within. -/
import Derived.Test.YtglkphjjinmgmaaXah
set_option linter.unusedVariables false
set_option linter.unusedSimpArgs false
namespace Go.Proofs.Ytglkphjjinmgmaa
open Go.AI
section
variable {P : Program} {tm : Tm} {H : Heap} {o : Oper}
end
end Go.Proofs.Ytglkphjjinmgmaa

