
/- Parties most of whose rules must be kept; some rules alone. -/
import Derived.Test.Ytlamceokhbigaaav0g
import Derived.Test.YtlamceokhbigaaaTfg
import Derived.Test.YtlamceokhbigaaaTkg
set_option linter.unusedVariables false
set_option linter.unusedSimpArgs false
namespace Go.Proofs.Ytlamceokhbigaaa
open Go.AI
end Go.Proofs.Ytlamceokhbigaaa

