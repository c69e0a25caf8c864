/- Closed calls of package chart: the table of endings, some examples. -/
import Derived.Test.YtkfaiokiaahbaaaDoorEy
import Derived.Test.YtkfaiokiaahbaaaDoorChecked
set_option linter.unusedVariables false
set_option linter.unusedSimpArgs false
namespace Go.Proofs.YtkfaiokiaahbaaaDoor
open Go.AI
theorem mixed : Tryd.prog.follows .mixedOrders = true := by kernel_rfl
abbrev gl : List AObj := [.cells ([32,45,124,111,124,120].map fun n => Value.int .u8 n) 0 0, .gone, .gone, .gone]
theorem nglobs : gl.length = Tryd.prog.globals.size := by kernel_rfl
theorem glCalm : gl.all calm = true := by kernel_rfl
def endT : List Int := [1,1,1,1,1,1,1,1,1,1,1,2,3,4,5,6,7,8,9,0,2,5,10,17,26,37,50,65,0,0,5,15,37,77,141,235,365,0,0,0,15,52,151,372,799,1540,0,0,0,0,52,203,674,1915,4736,0,0,0,0,0,203,877,3263,10481,0,0,0,0,0,0,877,4140,17007,0,0,0,0,0,0,0,4140,21147,0,0,0,0,0,0,0,0,21147,0,0,0,0,0,0,0,0,0]
def tabV (l : List Int) : Value := .agg (l.map (Value.int .i64)).toArray
theorem tab_plain (l : List Int) : plain (tabV l) = true := by
  simp [plain, flat, tabV, scalar]
abbrev kn0 : List (Nat × Value) := [(82, tabV endT)]
abbrev kn1 : List (Nat × Value) := (19, .bool true) :: kn0
abbrev kn2 : List (Nat × Value) := (68, .bool true) :: kn1
abbrev kn3 : List (Nat × Value) := (69, .bool true) :: kn2
abbrev kn4 : List (Nat × Value) := (70, .bool true) :: kn3
abbrev kn5 : List (Nat × Value) := (71, .bool true) :: kn4
abbrev kn6 : List (Nat × Value) := (9, .bool true) :: kn5
theorem run0 : eqRG (@call Tryd.prog (Oracle.ofG Tryd.prog gl []) 3000 (.fn 82) [] (baseHeap gl)) (tabV endT) gl.length = true := by kernel_rfl
theorem ok0 (B : Nat) : @OracleOK Tryd.prog (Oracle.ofG Tryd.prog gl kn0) B := ofG_cons mixed glCalm nglobs ofG_nil (tab_plain _) run0
end Go.Proofs.YtkfaiokiaahbaaaDoor
