/- DesignKnown: its parts, and all of it, by the kernel. -/
import Derived.Test.YtbgbepnccdndoaaP0
set_option linter.unusedVariables false
set_option linter.unusedSimpArgs false
namespace Go.Proofs.Ytbgbepnccdndoaa
open Go.AI
abbrev kn3 : List (Nat × Value) := (59, .bool true) :: kn2
abbrev kn4 : List (Nat × Value) := (60, .bool true) :: kn3
abbrev kn5 : List (Nat × Value) := (8, .bool true) :: kn4
theorem run3 : eqR (@call Try.prog (Oracle.of Try.prog kn2) 3000 (.fn 59) [] (baseHeap [])) (.bool true) = true := by kernel_rfl
theorem run4 : eqR (@call Try.prog (Oracle.of Try.prog kn3) 3000 (.fn 60) [] (baseHeap [])) (.bool true) = true := by kernel_rfl
theorem run5 : eqR (@call Try.prog (Oracle.of Try.prog kn4) 3000 (.fn 8) [] (baseHeap [])) (.bool true) = true := by kernel_rfl
theorem ok3 (B : Nat) : @OracleOK Try.prog (Oracle.of Try.prog kn3) B := of_cons mixed nglobs (ok2 B) rfl run3
theorem ok4 (B : Nat) : @OracleOK Try.prog (Oracle.of Try.prog kn4) B := of_cons mixed nglobs (ok3 B) rfl run4
theorem ok5 (B : Nat) : @OracleOK Try.prog (Oracle.of Try.prog kn5) B := of_cons mixed nglobs (ok4 B) rfl run5
end Go.Proofs.Ytbgbepnccdndoaa
