
/- Rows of arrays: whole rows stored, new ones made. -/
import Derived.Test.YtlpkbcgdcimglaaR0d
set_option linter.unusedVariables false
set_option linter.unusedSimpArgs false
namespace Go.AI
theorem flat_put {s : Nat} {row : List Value} : ∀ {rs : List (List Value)} {j : Nat}, (∀ r ∈ rs, r.length = s) → j < rs.length → rs.flatten.take (j * s) ++ row ++ rs.flatten.drop (j * s + s) = (rs.set j row).flatten
  | r :: rs, 0, h, _ => by
    have hr := h r (by simp)
    subst hr
    simp
  | r :: rs, j + 1, h, hj => by
    have hr := h r (by simp)
    subst hr
    have ih := flat_put (row := row) (rs := rs) (j := j) (fun q hq => h q (by simp [hq])) (by simpa using hj)
    rw [List.set_cons_succ, List.flatten_cons, List.flatten_cons, ← ih]
    have e1 : (j + 1) * r.length = r.length + j * r.length := by rw [Nat.succ_mul]; omega
    have e2 : (j + 1) * r.length + r.length = r.length + (j * r.length + r.length) := by rw [Nat.succ_mul]; omega
    rw [e2, e1, List.take_length_add_append, List.drop_length_add_append]
    simp [List.append_assoc]
theorem rstore_askS {P : Program} {H : Heap} {e ft : TypeId} {K : Heap → Prop} {B B0 s : Nat} {x : Value} {row : List Value} {rs : List (List Value)} {j : Nat} (hs : sizeB P ft = some s) (hx : OwnS e s H x rs B0) (hB : B ≤ B0) (hj : j < rs.length) (hr : row.length = s) (hw : row.all oneC = true)
    (hk : ∀ H', OwnS e s H' x (rs.set j row) B0 → KeepBut x H H' → K H') :
    ∃ H' b, astore P ft H (.agg row.toArray) (elemS x s j) = some (H', b) ∧ B ≤ b ∧ K H' := by
  rcases hx.2 with ⟨rfl, rfl⟩ | ⟨b0, rfl, h2, h3, h4⟩
  · simp at hj
  · have hm : (j + 1) * s ≤ rs.length * s := Nat.mul_le_mul_right _ hj
    rw [Nat.succ_mul] at hm
    have hst : astore P ft H (.agg row.toArray) (elemS (.slice (some ⟨b0, 0, none⟩) rs.length 0) s j) = some (H.set b0 (.cells (rs.set j row).flatten e 2), b0) := by
      have h1 : (Value.agg row.toArray).cells = row.toArray := rfl
      simp only [astore, elemS, h4, h1, hs, spliceQ_eq, Nat.zero_add]
      rw [if_pos ⟨by simp [hr], by rw [flat_len hx.1]; simp [hr]; omega, rfl, by simpa using hw⟩, splice_all _ _ _ (by rw [flat_len hx.1, hr]; omega), hr, flat_put hx.1 hj]
    refine ⟨_, _, hst, Nat.le_trans hB h2, hk _ ⟨fun q hq => ?_, .inr ⟨b0, by simp, h2, h3, by rw [Heap.get_set_eq]⟩⟩ ⟨Nat.le_refl _, fun c hc hne => Heap.get_set_ne _ _ fun h => hne (by rw [h]; rfl)⟩⟩
    rcases List.mem_or_eq_of_mem_set hq with h | h
    · exact hx.1 q h
    · rw [h]; exact hr
end Go.AI
