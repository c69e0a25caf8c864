
/- What rules ask; the rules that an order does not keep. -/
import Derived.Test.YtlamceokhbigaaaT4g
set_option linter.unusedVariables false
set_option linter.unusedSimpArgs false
namespace Go.Proofs.Ytlamceokhbigaaa
open Go.AI
section
variable {P : Program} {tm : Tm} {H : Heap} {q : Oper} {t u : TypeId} {x y : Operand}
end
end Go.Proofs.Ytlamceokhbigaaa

