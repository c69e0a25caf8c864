
/- Which list comes first; who is invited. -/
import Derived.Test.Ytlamceokhbigaaau0g
set_option linter.unusedVariables false
set_option linter.unusedSimpArgs false
namespace Go.Proofs.Ytlamceokhbigaaa
open Go.AI
end Go.Proofs.Ytlamceokhbigaaa

