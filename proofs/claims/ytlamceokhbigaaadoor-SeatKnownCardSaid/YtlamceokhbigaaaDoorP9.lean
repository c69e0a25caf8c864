/- Closed calls of package seat: the chapter's examples. -/
import Derived.Test.YtlamceokhbigaaaDoorEy
import Derived.Test.YtlamceokhbigaaaDoorChecked
set_option linter.unusedVariables false
set_option linter.unusedSimpArgs false
namespace Go.Proofs.YtlamceokhbigaaaDoor
open Go.AI
theorem mixed : Tryd.prog.follows .mixedOrders = true := by kernel_rfl
abbrev gl : List AObj := [.gone, .gone, .gone, .gone]
theorem nglobs : gl.length = Tryd.prog.globals.size := by kernel_rfl
theorem glCalm : gl.all calm = true := by kernel_rfl
abbrev kn1 : List (Nat × Value) := [(5, .bool true)]
abbrev kn2 : List (Nat × Value) := (13, .bool true) :: kn1
abbrev kn3 : List (Nat × Value) := (3, .bool true) :: kn2
abbrev i64 (n : Int) : Value := .int .i64 n
abbrev cellsG : AObj := .cells [.string ⟨#[97, 110, 110]⟩, i64 3, i64 5, i64 0, i64 0, .string ⟨#[98, 111, 98]⟩, i64 1, i64 5, i64 0, i64 0, .string ⟨#[99, 105, 100]⟩, i64 2, i64 5, i64 0, i64 0] 30 2
abbrev cellsR : AObj := .cells [i64 6, i64 0, i64 0, i64 10, i64 4, i64 1, i64 0, i64 0, i64 2, i64 0, i64 2, i64 4] 28 2
abbrev memoA (f b : Nat) (v : Value) : Memo := ⟨f, [.agg #[.slice (some ⟨b, 0, none⟩) 3 0, .slice (some ⟨b + 1, 0, none⟩) 3 0]], b + 2, [(0, .gone), (1, .gone), (2, .gone), (3, .gone), (b, cellsG), (b + 1, cellsR)], v⟩
abbrev memos : List Memo := [memoA 8 181 (.tuple #[i64 2, i64 0]), memoA 11 333 (.tuple #[.slice none 0 0, i64 7])]
theorem run1 : eqRG (@call Tryd.prog (Oracle.ofG Tryd.prog gl []) 3000 (.fn 5) [] (baseHeap gl)) (.bool true) gl.length = true := by kernel_rfl
theorem ok1 (B : Nat) : @OracleOK Tryd.prog (Oracle.ofG Tryd.prog gl kn1) B := ofG_cons mixed glCalm nglobs ofG_nil rfl run1
theorem run2 : eqRG (@call Tryd.prog (Oracle.ofG Tryd.prog gl kn1) 3000 (.fn 13) [] (baseHeap gl)) (.bool true) gl.length = true := by kernel_rfl
theorem ok2 (B : Nat) : @OracleOK Tryd.prog (Oracle.ofG Tryd.prog gl kn2) B := ofG_cons mixed glCalm nglobs (ok1 B) rfl run2
end Go.Proofs.YtlamceokhbigaaaDoor
