
/- What an argument is: seasons. -/
import Derived.Test.Ytijimplcjaeneaae0o
import Derived.Test.YtijimplcjaeneaaO5
set_option linter.unusedVariables false
set_option linter.unusedSimpArgs false
namespace Go.Proofs.Ytijimplcjaeneaa
open Go.AI
set_option maxRecDepth 100000
theorem agI0 : isAggB Try.prog 3 = some false := by kernel_rfl
theorem dat_int {H : Heap} {v : Value} (h : DatV Try.prog H 3 v) : ∃ n, v = VI n := by
  simp only [DatV, agI0] at h
  obtain ⟨n, rfl, _⟩ := datL_int h
  exact ⟨n, rfl⟩
end Go.Proofs.Ytijimplcjaeneaa

