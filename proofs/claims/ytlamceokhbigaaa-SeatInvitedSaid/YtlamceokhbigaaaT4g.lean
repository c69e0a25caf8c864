
/- Guests who sit in a row, and what rules ask of it. -/
import Derived.Test.YtlamceokhbigaaaT3g
set_option linter.unusedVariables false
set_option linter.unusedSimpArgs false
namespace Go.Proofs.Ytlamceokhbigaaa
open Go.AI
/-- Some of so many guests, each once. -/
structure Pre (n : Nat) (o : List Int) : Prop where
  nd : o.Nodup
  r : ∀ x ∈ o, 0 ≤ x ∧ x < n
  l : o.length ≤ n
end Go.Proofs.Ytlamceokhbigaaa

