
/- StoreNarrows. -/
import Derived.Test.Ytijimplcjaeneaai9o
set_option linter.unusedVariables false
set_option linter.unusedSimpArgs false
namespace Go.Proofs.Ytijimplcjaeneaa
open Go.AI
theorem sp_addr {H : Heap} {v : Value} {ps : List (Int × Int)} (h : RowS 2 H v (ps.map Spl)) {n : Int} (h0 : 0 ≤ n) (h1 : n < ps.length) : aindexAddr Try.prog sS v (.int .i64 n) = some (elemS v 2 n.toNat) := h.addr unSs2 szSp h0 (by rw [List.length_map]; exact h1)
end Go.Proofs.Ytijimplcjaeneaa

