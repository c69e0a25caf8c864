
/- All orders, handed out one by one till it is enough. -/
import Derived.Test.YtlamceokhbigaaaTbg
set_option linter.unusedVariables false
set_option linter.unusedSimpArgs false
namespace Go.Proofs.Ytlamceokhbigaaa
open Go.AI
end Go.Proofs.Ytlamceokhbigaaa

