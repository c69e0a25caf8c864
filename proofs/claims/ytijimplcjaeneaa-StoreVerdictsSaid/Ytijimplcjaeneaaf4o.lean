
/- Repeats of a plan. -/
import Derived.Test.Ytijimplcjaeneaaf3o
set_option linter.unusedVariables false
set_option linter.unusedSimpArgs false
namespace Go.Proofs.Ytijimplcjaeneaa
open Go.AI
/-- How often a guest met a combination, at the first gatherings. -/
def cntF (gs : List (List Int)) (plan : List Int) : Nat → Int → Int → Int
  | 0 => fun _ _ => 0
  | i + 1 => addF (cntF gs plan i) gs[i]! plan[i]! 1
/-- The guests of a gathering who meet its combination again. -/
def againL (gs : List (List Int)) (plan : List Int) (i : Nat) : List Int := gs[i]!.filter fun g => decide (0 < cntF gs plan i g plan[i]!)
structure GsOk (gs : List (List Int)) : Prop where
  n : gs.length ≤ 9
  p : ∀ i, i < gs.length → 0 < gs[i]!.length
  nd : ∀ i, i < gs.length → gs[i]!.Nodup
  r : ∀ i, i < gs.length → ∀ x ∈ gs[i]!, 0 ≤ x ∧ x ≤ 11
end Go.Proofs.Ytijimplcjaeneaa

