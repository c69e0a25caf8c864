
/- The orders that are allowed, handed out one by one. -/
import Derived.Test.YtlamceokhbigaaaT9g
set_option linter.unusedVariables false
set_option linter.unusedSimpArgs false
namespace Go.Proofs.Ytlamceokhbigaaa
open Go.AI
/-- Whether an order is allowed. -/
def okB (gs : List Gu) (rs : List Ru) (o : List Int) : Bool := (brkO gs rs o &&& strN rs rs.length) == 0
def okL (gs : List Gu) (rs : List Ru) : List (List Int) := (fillL gs.length gs.length []).filter (okB gs rs)
end Go.Proofs.Ytlamceokhbigaaa

