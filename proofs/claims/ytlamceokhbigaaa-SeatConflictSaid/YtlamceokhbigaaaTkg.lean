
/- What an order costs; a party that is turned. -/
import Derived.Test.YtlamceokhbigaaaTfg
import Derived.Test.YtlamceokhbigaaaTig
import Derived.Test.YtlamceokhbigaaaTjg
set_option linter.unusedVariables false
set_option linter.unusedSimpArgs false
namespace Go.Proofs.Ytlamceokhbigaaa
open Go.AI
theorem ru_f {H : Heap} {v : Value} {l : List Ru} (h : RowS 4 H v (l.map Rul)) {f o n j : Nat} (hf : fieldOff Try.prog 81 f = some (o, n)) (hn : n ≠ 0) (hj : j < l.length) : afieldAddr Try.prog 81 (elemS v 4 j) f = some (fieldOf (elemS v 4 j) o) := h.faddr hf hn (by rw [List.length_map]; exact hj)
theorem ru_l {H : Heap} {v : Value} {l : List Ru} (h : RowS 4 H v (l.map Rul)) {o j : Nat} {w : Value} (hj : j < l.length) (ho : (Rul l[j]!)[o]? = some w) : aload Try.prog 3 H (fieldOf (elemS v 4 j) o) = some w := h.fload ag3 (ru_at hj) ho
end Go.Proofs.Ytlamceokhbigaaa

