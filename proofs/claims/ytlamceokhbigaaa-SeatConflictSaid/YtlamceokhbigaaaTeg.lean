
/- Guests made of numbers. -/
import Derived.Test.YtlamceokhbigaaaTdg
import Derived.Test.YtlamceokhbigaaaW7g
set_option linter.unusedVariables false
set_option linter.unusedSimpArgs false
namespace Go.Proofs.Ytlamceokhbigaaa
open Go.AI
structure RaOk (g : Gu) : Prop where
  ra : 0 ≤ g.ra
  ra' : g.ra ≤ 9
  ho : 0 ≤ g.ho
  ho' : g.ho ≤ 1000
  ne : 0 ≤ g.ne
  ne' : g.ne ≤ 255
  ma : 0 ≤ g.ma
  ma' : g.ma ≤ 255
end Go.Proofs.Ytlamceokhbigaaa

