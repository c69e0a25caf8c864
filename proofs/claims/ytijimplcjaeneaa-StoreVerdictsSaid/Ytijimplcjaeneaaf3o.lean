
/- Meetings: a map keyed by guests and combinations. -/
import Derived.Test.Ytijimplcjaeneaaf2o
set_option linter.unusedVariables false
set_option linter.unusedSimpArgs false
namespace Go.Proofs.Ytijimplcjaeneaa
open Go.AI
/-- What is added, for the first of the guests. -/
def addF (f : Int → Int → Int) (gl : List Int) (c t : Int) : Int → Int → Int := fun g d => f g d + if d = c ∧ g ∈ gl then t else 0
end Go.Proofs.Ytijimplcjaeneaa

