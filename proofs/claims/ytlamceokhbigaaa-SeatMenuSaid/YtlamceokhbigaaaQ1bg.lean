
/- Picked out of Tp.tpl. -/
import Derived.Test.YtlamceokhbigaaaQ1g
set_option linter.unusedVariables false
set_option linter.unusedSimpArgs false
namespace Go.Proofs.Ytlamceokhbigaaa
open Go.AI
end Go.Proofs.Ytlamceokhbigaaa


