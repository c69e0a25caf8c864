
/- Comparing orders; lists of lists; the reference's orders. -/
import Derived.Test.YtlamceokhbigaaaTng
set_option linter.unusedVariables false
set_option linter.unusedSimpArgs false
namespace Go.AI
section
variable {P : Program} {H : Heap} {t e : TypeId} {z : Value} {by' : Nat}
end
end Go.AI
namespace Go.Proofs.Ytlamceokhbigaaa
open Go.AI
/-- Which of two lists comes first. -/
def befL : List Int → List Int → Bool
  | x :: a, y :: b => if x = y then befL a b else decide (x < y)
  | _, _ => false
theorem drop_at {a : List Int} {i : Nat} (h : i < a.length) : a.drop i = a[i]! :: a.drop (i + 1) := by
  rw [List.drop_eq_getElem_cons h, getElem!_pos a i h]
end Go.Proofs.Ytlamceokhbigaaa

