
/- StoreNarrows: what it calls. -/
import Derived.Test.Ytijimplcjaeneaai8o
set_option linter.unusedVariables false
set_option linter.unusedSimpArgs false
namespace Go.Proofs.Ytijimplcjaeneaa
open Go.AI
/-- The day of a link, read and written. -/
theorem lk_day {H : Heap} {v : Value} {ls : List Lk} (hr : RowS 4 H v (ls.map Lkl)) {i : Nat} (hi : i < ls.length) : afieldAddr Try.prog 28 (elemS v 4 i) 2 = some (fieldOf (elemS v 4 i) 2) ∧ aload Try.prog sT H (fieldOf (elemS v 4 i) 2) = some (Spv ls[i]!.lo ls[i]!.hi) := by
  refine ⟨hr.faddr foL2 (by decide) (by rw [List.length_map]; exact hi), ?_⟩
  have hj := lk_at hi
  rcases hr.2 with ⟨_, h0⟩ | ⟨_, h0⟩ | ⟨b, o, c, cs, e, k, rfl, _, hb, _, hle, hc⟩
  · rw [List.map_eq_nil_iff] at h0; subst h0; cases hi
  · rw [List.map_eq_nil_iff] at h0; subst h0; cases hi
  · have h2 := hc i 2 _ _ hj rfl
    have h3 := hc i 3 _ _ hj rfl
    have l2 := (List.getElem?_eq_some_iff.1 h2).1
    have l3 := (List.getElem?_eq_some_iff.1 h3).1
    simp only [elemS, fieldOf, aload, hb, agSp, szSp]
    rw [if_pos (by omega)]
    congr 2
    apply Array.toList_inj.1
    show (cs.drop (o + i * 4 + 2)).take 2 = [VI ls[i]!.lo, VI ls[i]!.hi]
    rw [List.drop_eq_getElem_cons l2, List.drop_eq_getElem_cons (by omega : o + i * 4 + 2 + 1 < cs.length)]
    simp only [List.take_succ_cons, List.take_zero]
    rw [(List.getElem?_eq_some_iff.1 h2).2]
    congr 2
    exact (List.getElem?_eq_some_iff.1 h3).2
end Go.Proofs.Ytijimplcjaeneaa

