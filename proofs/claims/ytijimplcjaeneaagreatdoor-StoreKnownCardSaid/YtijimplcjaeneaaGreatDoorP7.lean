/- Closed calls of package store: the chapter's examples. -/
import Derived.Test.YtijimplcjaeneaaGreatDoorcbz
set_option linter.unusedVariables false
set_option linter.unusedSimpArgs false
namespace Go.Proofs.YtijimplcjaeneaaGreatDoor
open Go.AI
abbrev kn1 : List (Nat × Value) := [(7, .bool true)]
abbrev kn2 : List (Nat × Value) := (24, .bool true) :: kn1
abbrev kn3 : List (Nat × Value) := (25, .bool true) :: kn2
abbrev kn4 : List (Nat × Value) := (4, .bool true) :: kn3
theorem run1 : eqRG (@call Tryz.prog (orG []) 3000 (.fn 7) [] (baseHeap gl)) (.bool true) gl.length = true := by kernel_rfl
theorem ok1 (B : Nat) : @OracleOK Tryz.prog (orG kn1) B := okG_cons okG_nil rfl run1
theorem run2 : eqRG (@call Tryz.prog (orG kn1) 3000 (.fn 24) [] (baseHeap gl)) (.bool true) gl.length = true := by kernel_rfl
theorem ok2 (B : Nat) : @OracleOK Tryz.prog (orG kn2) B := okG_cons (ok1 B) rfl run2
theorem run3 : eqRG (@call Tryz.prog (orG kn2) 3000 (.fn 25) [] (baseHeap gl)) (.bool true) gl.length = true := by kernel_rfl
theorem ok3 (B : Nat) : @OracleOK Tryz.prog (orG kn3) B := okG_cons (ok2 B) rfl run3
theorem run4 : eqRG (@call Tryz.prog (orG kn3) 3000 (.fn 4) [] (baseHeap gl)) (.bool true) gl.length = true := by kernel_rfl
theorem ok4 (B : Nat) : @OracleOK Tryz.prog (orG kn4) B := okG_cons (ok3 B) rfl run4
end Go.Proofs.YtijimplcjaeneaaGreatDoor
