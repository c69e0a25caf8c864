
/- Guests who sit in a row, and what rules ask of it. -/
import Derived.Test.YtlamceokhbigaaaT3g
set_option linter.unusedVariables false
set_option linter.unusedSimpArgs false
namespace Go.Proofs.Ytlamceokhbigaaa
open Go.AI
/-- In which seat each guest sits. -/
def seatL (o : List Int) : List Int := (List.range 7).map fun (x : Nat) => if (x : Int) ∈ o then (o.idxOf (x : Int) : Int) else 0
/-- The ranks in the seats. -/
def rankL (gs : List Gu) (o : List Int) : List Int := (List.range 7).map fun j => if j < o.length then gs[o[j]!.toNat]!.ra else 0
/-- Some of so many guests, each once. -/
structure Pre (n : Nat) (o : List Int) : Prop where
  nd : o.Nodup
  r : ∀ x ∈ o, 0 ≤ x ∧ x < n
  l : o.length ≤ n
end Go.Proofs.Ytlamceokhbigaaa

