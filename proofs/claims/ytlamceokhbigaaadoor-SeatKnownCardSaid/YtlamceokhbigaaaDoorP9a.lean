/- Closed calls of package seat: how many orders are allowed, and no conflict. -/
import Derived.Test.YtlamceokhbigaaaDoorP9
set_option linter.unusedVariables false
set_option linter.unusedSimpArgs false
namespace Go.Proofs.YtlamceokhbigaaaDoor
open Go.AI
theorem memo1 : eqRM (@call Tryd.prog (Oracle.ofG Tryd.prog gl kn2) 3000 (.fn 8) (memoA 8 181 (.tuple #[i64 2, i64 0])).args (memoA 8 181 (.tuple #[i64 2, i64 0])).heap) (.tuple #[i64 2, i64 0]) 183 = true := by kernel_rfl
theorem memo2 : eqRM (@call Tryd.prog (Oracle.ofG Tryd.prog gl kn2) 3000 (.fn 11) (memoA 11 333 (.tuple #[.slice none 0 0, i64 7])).args (memoA 11 333 (.tuple #[.slice none 0 0, i64 7])).heap) (.tuple #[.slice none 0 0, i64 7]) 335 = true := by kernel_rfl
theorem memosOk : MemoOK Tryd.prog gl kn2 memos := .cons rfl memo1 (.cons rfl memo2 .nil)
end Go.Proofs.YtlamceokhbigaaaDoor
