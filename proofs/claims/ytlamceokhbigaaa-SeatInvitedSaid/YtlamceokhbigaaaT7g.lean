
/- The rules that an order does not keep: the walk. -/
import Derived.Test.YtlamceokhbigaaaT6g
set_option linter.unusedVariables false
set_option linter.unusedSimpArgs false
namespace Go.Proofs.Ytlamceokhbigaaa
open Go.AI
abbrev fnV (k : Nat) : Value := .func (.func k) #[] #[]
end Go.Proofs.Ytlamceokhbigaaa

