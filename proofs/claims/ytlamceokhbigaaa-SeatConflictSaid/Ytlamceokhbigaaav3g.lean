
/- The conflict, as it runs. -/
import Derived.Test.Ytlamceokhbigaaav1g
import Derived.Test.Ytlamceokhbigaaav2g
set_option linter.unusedVariables false
set_option linter.unusedSimpArgs false
namespace Go.Proofs.Ytlamceokhbigaaa
open Go.AI
end Go.Proofs.Ytlamceokhbigaaa

