
/- Conflicts, as numbers. -/
import Derived.Test.YtlamceokhbigaaaTtg
import Derived.Test.Ytlamceokhbigaaau0g
set_option linter.unusedVariables false
set_option linter.unusedSimpArgs false
namespace Go.Proofs.Ytlamceokhbigaaa
open Go.AI
/-- What an order breaks of the rules that must be kept. -/
def brS (gs : List Gu) (rs : List Ru) (o : List Int) : Nat := brkO gs rs o &&& strN rs rs.length
/-- Some rules alone, all of which must be kept. -/
def zeR (r : Ru) : Ru := ⟨r.kd, r.a, r.b, 0⟩
def onlyR (rs : List Ru) (l : List Int) : List Ru := l.map fun x => zeR rs[x.toNat]!
/-- What the orders break, each once. -/
structure AllB (gs : List Gu) (rs : List Ru) (O : List (List Int)) (A : List Nat) : Prop where
  a : ∀ a ∈ A, ∃ o ∈ O, a = brS gs rs o
  o : ∀ o ∈ O, brS gs rs o ∈ A
  nz : ∀ a ∈ A, a ≠ 0
/-- The conflict that is found. -/
structure ConfL (gs : List Gu) (rs : List Ru) (l : List Int) : Prop where
  r : ∀ x ∈ l, 0 ≤ x ∧ x < rs.length ∧ rs[x.toNat]!.wt = 0
  asc : l.Pairwise (· < ·)
  non : okL gs (onlyR rs l) = []
  min : ∀ i, i < l.length → okL gs (onlyR rs (l.take i ++ l.drop (i + 1))) ≠ []
end Go.Proofs.Ytlamceokhbigaaa

