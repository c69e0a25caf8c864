
/- In how many orders one sits before another: the table. -/
import Derived.Test.YtlamceokhbigaaaTqg
set_option linter.unusedVariables false
set_option linter.unusedSimpArgs false
namespace Go.Proofs.Ytlamceokhbigaaa
open Go.AI
def upd (f : Int → Int → Int) (x y : Int) : Int → Int → Int := fun a b => if a = x ∧ b = y then f a b + 1 else f a b
/-- Whether one sits before another. -/
def sits : List Int → Int → Int → Bool
  | [], _, _ => false
  | z :: r, a, b => (decide (a = z) && decide (b ∈ r)) || sits r a b
end Go.Proofs.Ytlamceokhbigaaa

