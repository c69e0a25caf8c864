
/- Rows of structs that are made at once, and written whole. -/
import Derived.Test.YtlamceokhbigaaaQ1bg
set_option linter.unusedVariables false
set_option linter.unusedSimpArgs false
namespace Go.AI
end Go.AI
namespace Go.AI
end Go.AI
namespace Go.Proofs.Ytlamceokhbigaaa
open Go.AI
end Go.Proofs.Ytlamceokhbigaaa

