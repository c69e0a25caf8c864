
/- Parties that may be. -/
import Derived.Test.YtlamceokhbigaaaT2g
set_option linter.unusedVariables false
set_option linter.unusedSimpArgs false
namespace Go.AI
end Go.AI
namespace Go.Proofs.Ytlamceokhbigaaa
open Go.AI
/-- Guests that may be. -/
structure GsOk (gs : List Gu) : Prop where
  ok : ∀ i, i < gs.length → GuOk gs[i]!
  ne : ∀ i j, i < j → j < gs.length → gs[i]!.nm ≠ gs[j]!.nm
/-- A rule for so many guests that may be. -/
structure RuOk (n : Int) (r : Ru) : Prop where
  k1 : 1 ≤ r.kd
  k6 : r.kd ≤ 6
  a : r.kd ≤ 5 → 0 ≤ r.a ∧ r.a < n
  a0 : 5 < r.kd → r.a = 0
  b : r.kd ≤ 3 → 0 ≤ r.b ∧ r.b < n ∧ r.a ≠ r.b
  b0 : 3 < r.kd → r.b = 0
  w : 0 ≤ r.wt
  w' : r.wt ≤ 1000
/-- A party that may be. -/
structure PaOk (gs : List Gu) (rs : List Ru) : Prop where
  n1 : 1 ≤ gs.length
  n7 : gs.length ≤ 7
  gk : GsOk gs
  m : rs.length ≤ 12
  rk : ∀ i, i < rs.length → RuOk gs.length rs[i]!
end Go.Proofs.Ytlamceokhbigaaa

