/- Closed calls of package design: the table of endings, awake. -/
import Derived.Test.YtlpkbcgdcimglaaEy
import Derived.Test.YtlpkbcgdcimglaaChecked
set_option linter.unusedVariables false
set_option linter.unusedSimpArgs false
namespace Go.Proofs.Ytlpkbcgdcimglaa
open Go.AI
def endT : List Int := [1,1,1,1,1,1,1,1,1,1,1,2,3,4,5,6,7,8,9,0,2,5,10,17,26,37,50,65,0,0,5,15,37,77,141,235,365,0,0,0,15,52,151,372,799,1540,0,0,0,0,52,203,674,1915,4736,0,0,0,0,0,203,877,3263,10481,0,0,0,0,0,0,877,4140,17007,0,0,0,0,0,0,0,4140,21147,0,0,0,0,0,0,0,0,21147,0,0,0,0,0,0,0,0,0]
def tabV (l : List Int) : Value := .agg (l.map (Value.int .i64)).toArray
theorem tab_plain (l : List Int) : plain (tabV l) = true := by
  simp [plain, flat, tabV, scalar]
theorem mixed : Try.prog.follows .mixedOrders = true := by kernel_rfl
theorem nglobs : Try.prog.globals.size = 0 := by kernel_rfl
abbrev kn1 : List (Nat × Value) := [(107, tabV endT)]
abbrev kn1a : List (Nat × Value) := (18, .bool true) :: kn1
abbrev kn2 : List (Nat × Value) := (73, .bool true) :: kn1a
theorem run1 : eqR (@call Try.prog (Oracle.of Try.prog []) 3000 (.fn 107) [] (baseHeap [])) (tabV endT) = true := by kernel_rfl
theorem run2 : eqR (@call Try.prog (Oracle.of Try.prog kn1) 3000 (.fn 18) [] (baseHeap [])) (.bool true) = true := by kernel_rfl
theorem ok1 (B : Nat) : @OracleOK Try.prog (Oracle.of Try.prog kn1) B := of_cons mixed nglobs of_nil (tab_plain _) run1
theorem run2a : eqR (@call Try.prog (Oracle.of Try.prog kn1a) 3000 (.fn 73) [] (baseHeap [])) (.bool true) = true := by kernel_rfl
theorem ok1a (B : Nat) : @OracleOK Try.prog (Oracle.of Try.prog kn1a) B := of_cons mixed nglobs (ok1 B) rfl run2
theorem ok2 (B : Nat) : @OracleOK Try.prog (Oracle.of Try.prog kn2) B := of_cons mixed nglobs (ok1a B) rfl run2a
end Go.Proofs.Ytlpkbcgdcimglaa
