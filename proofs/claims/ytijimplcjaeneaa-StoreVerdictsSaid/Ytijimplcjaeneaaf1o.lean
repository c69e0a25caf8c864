
/- Seasons: the reference's check; how many combinations. -/
import Derived.Test.Ytijimplcjaeneaaf0o
import Derived.Test.Ytijimplcjaeneaad3o
set_option linter.unusedVariables false
set_option linter.unusedSimpArgs false
namespace Go.Proofs.Ytijimplcjaeneaa
open Go.AI
theorem combos_bd : ∀ {l : List Int}, (∀ x ∈ l, 1 ≤ x ∧ x ≤ 6) → 1 ≤ combos l ∧ combos l ≤ 6 ^ l.length
  | [], _ => by simp [combos]
  | s :: t, h => by
    have h1 := h s (by simp)
    have h2 := combos_bd (l := t) fun x hx => h x (by simp [hx])
    have h3 : s * combos t ≤ 6 * 6 ^ t.length := Int.mul_le_mul h1.2 h2.2 (by omega) (by omega)
    have h4 : 1 * 1 ≤ s * combos t := Int.mul_le_mul h1.1 h2.1 (by omega) (by omega)
    simp only [combos, List.length_cons]
    rw [Int.pow_succ]
    omega
structure SoOk (st : List Int) : Prop where
  n : st.length ≤ 4
  p : 0 < st.length
  m : ∀ x ∈ st, 1 ≤ x ∧ x ≤ 6
theorem SoOk.bd {st : List Int} (h : SoOk st) (i : Nat) : 1 ≤ combos (st.take i) ∧ combos (st.take i) ≤ 1296 := by
  have h1 := combos_bd (l := st.take i) fun x hx => h.m x (List.mem_of_mem_take hx)
  have h2 : (st.take i).length ≤ 4 := by rw [List.length_take]; have := h.n; omega
  refine ⟨h1.1, ?_⟩
  have h3 : (6 : Int) ^ (st.take i).length ≤ 1296 := by
    generalize (st.take i).length = n at h2
    rcases (by omega : n = 0 ∨ n = 1 ∨ n = 2 ∨ n = 3 ∨ n = 4) with rfl | rfl | rfl | rfl | rfl <;> decide
  omega
theorem SoOk.all {st : List Int} (h : SoOk st) : 1 ≤ combos st ∧ combos st ≤ 1296 := by
  have := h.bd st.length
  rwa [List.take_length] at this
end Go.Proofs.Ytijimplcjaeneaa

