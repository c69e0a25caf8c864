
/- Comparing orders; lists of lists; the reference's orders. -/
import Derived.Test.YtlamceokhbigaaaTng
set_option linter.unusedVariables false
set_option linter.unusedSimpArgs false
namespace Go.AI
section
variable {P : Program} {H : Heap} {t e : TypeId} {z : Value} {by' : Nat}
end
end Go.AI
namespace Go.Proofs.Ytlamceokhbigaaa
open Go.AI
end Go.Proofs.Ytlamceokhbigaaa

