
/- ChartLabels: its function answers true. -/
import Derived.Test.YtcpklnekpdhlmaaA3s
set_option linter.unusedVariables false
set_option linter.unusedSimpArgs false
namespace Go.Proofs.Ytcpklnekpdhlmaa
open Go.AI

theorem take_next {xs : List Int} {i : Nat} (f : Int → Int) (h : i < xs.length) : (xs.take (i + 1)).map f = (xs.take i).map f ++ [f xs[i]!] := by
  rw [List.take_add_one, List.getElem?_eq_getElem h, getElem!_pos xs i h, List.map_append]; rfl
theorem own_ints {H : Heap} {v : Value} {xs : List Int} {B : Nat} (h : Own 3 H v (xs.map VI) B) : Ints H v xs := h.row

end Go.Proofs.Ytcpklnekpdhlmaa
