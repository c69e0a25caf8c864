
/- The fewest rules, as it runs. -/
import Derived.Test.Ytlamceokhbigaaav0g
import Derived.Test.Ytlamceokhbigaaau1g
set_option linter.unusedVariables false
set_option linter.unusedSimpArgs false
namespace Go.AI
end Go.AI
namespace Go.Proofs.Ytlamceokhbigaaa
open Go.AI
section
variable {P : Program} {tm : Tm} {H : Heap} {q : Oper} {t u : TypeId} {x y : Operand}
end
end Go.Proofs.Ytlamceokhbigaaa

