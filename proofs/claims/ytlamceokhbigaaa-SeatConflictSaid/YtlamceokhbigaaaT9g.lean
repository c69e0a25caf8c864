
/- Rules that must be kept; prices. -/
import Derived.Test.YtlamceokhbigaaaT8g
set_option linter.unusedVariables false
set_option linter.unusedSimpArgs false
namespace Go.Proofs.Ytlamceokhbigaaa
open Go.AI
/-- The first rules that must be kept, as bits. -/
def strN (rs : List Ru) : Nat → Nat
  | 0 => 0
  | i + 1 => bif rs[i]!.wt == 0 then setB (strN rs i) i else strN rs i
end Go.Proofs.Ytlamceokhbigaaa

