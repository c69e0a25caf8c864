
/- Invitations, as numbers. -/
import Derived.Test.YtlamceokhbigaaaTog
set_option linter.unusedVariables false
set_option linter.unusedSimpArgs false
namespace Go.Proofs.Ytlamceokhbigaaa
open Go.AI
structure Bo where
  kd : Int
  a : Int
  b : Int
deriving Inhabited
/-- A bond between so many guests that may be. -/
structure BoOk (n : Int) (b : Bo) : Prop where
  k : b.kd = 1 ∨ b.kd = 2
  a0 : 0 ≤ b.a
  a1 : b.a < n
  b0 : 0 ≤ b.b
  b1 : b.b < n
  ne : b.a ≠ b.b
end Go.Proofs.Ytlamceokhbigaaa

