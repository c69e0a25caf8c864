
/- Loans that contradict each other; what they are worth; whether they may be. -/
import Derived.Test.Ytijimplcjaeneaad1o
set_option linter.unusedVariables false
set_option linter.unusedSimpArgs false
namespace Go.Proofs.Ytijimplcjaeneaa
open Go.AI
def contra (a b : Lo) : Bool := decide (a.t = b.t) && (decide (a.f ≤ b.o) && decide (b.f ≤ a.o))
def AccP (l : List Lo) : Prop := ∀ i, i < l.length → ∀ j, j < i → contra l[i]! l[j]! = false
def wsum : List Lo → Int
  | [] => 0
  | x :: t => x.w + wsum t
end Go.Proofs.Ytijimplcjaeneaa

