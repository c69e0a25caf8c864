
/- Choices as bits: their numbers, their lists, what they choose; loans that are chosen. -/
import Derived.Test.Ytijimplcjaeneaad0o
import Derived.Test.YtijimplcjaeneaaQ1bo
set_option linter.unusedVariables false
set_option linter.unusedSimpArgs false
namespace Go.AI
/-- The bits of a number below n, the highest one first. -/
def bitsB (c : Nat) : Nat → List Bool
  | 0 => []
  | n + 1 => c.testBit n :: bitsB c n
/-- What is chosen of a list. -/
def selX {α : Type} : List Bool → List α → List α
  | b :: bs, x :: xs => if b then x :: selX bs xs else selX bs xs
  | _, _ => []
end Go.AI
namespace Go.Proofs.Ytijimplcjaeneaa
open Go.AI
section
variable {P : Program} {tm : Tm} {H : Heap} {q : Oper} {t u : TypeId} {x y : Operand}
end
end Go.Proofs.Ytijimplcjaeneaa

