
/- When coals truly begin: the walk. -/
import Derived.Test.YtglkphjjinmgmaaWmh
import Derived.Test.YtglkphjjinmgmaaWnh
set_option linter.unusedVariables false
set_option linter.unusedSimpArgs false
namespace Go.Proofs.Ytglkphjjinmgmaa
open Go.AI
theorem foR0 : fieldOff Try.prog 71 0 = some (0, 1) := by kernel_rfl
theorem foR1 : fieldOff Try.prog 71 1 = some (1, 1) := by kernel_rfl
theorem allocRv {H : Heap} {c t : Value} (h1 : c.cells.toList = [c]) (h2 : t.cells.toList = [t]) : anew H (Value.cells (Fv c t)).toList 71 1 = H.new (.cells (Fl c t) 71 1) := by
  have : (Value.cells (Fv c t)).toList = c.cells.toList ++ (t.cells.toList ++ []) := by
    rw [h1, h2]; rfl
  rw [this, h1, h2]; rfl
theorem row_cells {H : Heap} {v : Value} {vs : List Value} (h : Row H v vs) : v.cells.toList = [v] := by
  rcases h with ⟨rfl, _⟩ | ⟨rfl, _⟩ | ⟨_, _, _, _, _, _, rfl, _⟩ <;> rfl
theorem ag22h : isAggB Try.prog 33 = some false := by kernel_rfl
theorem ag4h : isAggB Try.prog 4 = some false := by kernel_rfl
theorem cs_lit {H : Heap} {v : Value} {l : List Co} (h : RowS 7 H v (l.map Col)) {j : Nat} (hj : j < l.length) : aload Try.prog 4 H (fieldOf (elemS v 7 j) 6) = some (.bool l[j]!.lt) := h.fload ag4h (j := j) (o := 6) (r := Col l[j]!) (col_at hj) rfl
theorem map_at {α : Type} [Inhabited α] {f : α → Int} {l : List α} {i : Nat} (h : i < l.length) : (l.map f)[i]! = f l[i]! := by
  rw [getElem!_pos _ i (by simpa using h), List.getElem_map, getElem!_pos l i h]
theorem mem_at2 {l : List (Int × Int)} {i : Nat} (h : i < l.length) : ((l[i]!).1, (l[i]!).2) ∈ l := by
  show l[i]! ∈ l
  rw [getElem!_pos l i h]; exact List.getElem_mem h
end Go.Proofs.Ytglkphjjinmgmaa

