
/- What an order costs; a party that is turned. -/
import Derived.Test.YtlamceokhbigaaaTfg
import Derived.Test.YtlamceokhbigaaaTig
import Derived.Test.YtlamceokhbigaaaTjg
set_option linter.unusedVariables false
set_option linter.unusedSimpArgs false
namespace Go.Proofs.Ytlamceokhbigaaa
open Go.AI
theorem same_pav {x y : Option Addr} {n m c d : Nat} (h1 : sameFix (.slice x n c) (.slice x n c) = true) (h2 : sameFix (.slice y m d) (.slice y m d) = true) : sameFix (Pav (.slice x n c) (.slice y m d)) (Pav (.slice x n c) (.slice y m d)) = true := by
  have e1 : sameFix1 (.slice x n c) (.slice x n c) = true := h1
  have e2 : sameFix1 (.slice y m d) (.slice y m d) = true := h2
  simp [sameFix, sameFixL, e1, e2]
theorem nil_row {s : Nat} {H : Heap} {v : Value} {rs : List (List Value)} {j : Nat} (h : RowS s H v rs) (hj : j < rs.length) : nilOk (elemS v s j) = some (elemS v s j) := by
  rcases h.2 with ⟨_, h⟩ | ⟨_, h⟩ | ⟨b, o, c, cs, e, k, rfl, _⟩
  · subst h; simp at hj
  · subst h; simp at hj
  · rfl
theorem ru_nil {H : Heap} {v : Value} {l : List Ru} {j : Nat} (h : RowS 4 H v (l.map Rul)) (hj : j < l.length) : nilOk (elemS v 4 j) = some (elemS v 4 j) := nil_row h (by rw [List.length_map]; exact hj)
theorem ru_f {H : Heap} {v : Value} {l : List Ru} (h : RowS 4 H v (l.map Rul)) {f o n j : Nat} (hf : fieldOff Try.prog 81 f = some (o, n)) (hn : n ≠ 0) (hj : j < l.length) : afieldAddr Try.prog 81 (elemS v 4 j) f = some (fieldOf (elemS v 4 j) o) := h.faddr hf hn (by rw [List.length_map]; exact hj)
theorem ru_l {H : Heap} {v : Value} {l : List Ru} (h : RowS 4 H v (l.map Rul)) {o j : Nat} {w : Value} (hj : j < l.length) (ho : (Rul l[j]!)[o]? = some w) : aload Try.prog 3 H (fieldOf (elemS v 4 j) o) = some w := h.fload ag3 (ru_at hj) ho
theorem upd_at {α : Type} [Inhabited α] {f : α → α} {ls gs : List α} {i : Nat} {y : α} (hl : ls.length = gs.length) (hi : i < gs.length) (hy : y = f gs[i]!) (h : ∀ j, j < gs.length → ls[j]! = if j < i then f gs[j]! else gs[j]!) :
    (ls.set i y).length = gs.length ∧ ∀ j, j < gs.length → (ls.set i y)[j]! = if j < i + 1 then f gs[j]! else gs[j]! := by
  refine ⟨by rw [List.length_set]; exact hl, fun j hj => ?_⟩
  rw [getElem!_pos (ls.set i y) j (by rw [List.length_set]; omega), List.getElem_set]
  split
  · rename_i e
    subst e
    rw [if_pos (by omega), hy]
  · rename_i e
    have h1 := h j hj
    rw [getElem!_pos ls j (by omega)] at h1
    rw [h1]
    by_cases c : j < i
    · rw [if_pos c, if_pos (by omega)]
    · rw [if_neg c, if_neg (by omega)]
theorem upd_end {α : Type} [Inhabited α] {f : α → α} {ls gs : List α} {i : Nat} (hl : ls.length = gs.length) (hi : i = gs.length) (h : ∀ j, j < gs.length → ls[j]! = if j < i then f gs[j]! else gs[j]!) : ls = gs.map f := by
  apply List.ext_getElem (by rw [List.length_map]; exact hl)
  intro j h1 h2
  have h3 := h j (by omega)
  rw [if_pos (by omega), getElem!_pos ls j h1, getElem!_pos gs j (by omega)] at h3
  rw [h3, List.getElem_map]
end Go.Proofs.Ytlamceokhbigaaa

