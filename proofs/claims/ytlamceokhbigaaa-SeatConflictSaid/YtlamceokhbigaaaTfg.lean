
/- Rules and parties made of numbers; copies of parties. -/
import Derived.Test.YtlamceokhbigaaaTeg
set_option linter.unusedVariables false
set_option linter.unusedSimpArgs false
namespace Go.Proofs.Ytlamceokhbigaaa
open Go.AI
end Go.Proofs.Ytlamceokhbigaaa

