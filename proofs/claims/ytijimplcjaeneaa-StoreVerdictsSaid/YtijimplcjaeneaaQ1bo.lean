
/- Picked out of Tp.tpl. -/
import Derived.Test.YtijimplcjaeneaaQ1o
set_option linter.unusedVariables false
set_option linter.unusedSimpArgs false
namespace Go.Proofs.Ytijimplcjaeneaa
open Go.AI
def cntN (p : Nat → Bool) : Nat → Nat
  | 0 => 0
  | n + 1 => cntN p n + (if p n = true then 1 else 0)
theorem cntN_le (p : Nat → Bool) : ∀ n, cntN p n ≤ n
  | 0 => Nat.le_refl _
  | n + 1 => by have := cntN_le p n; rw [cntN]; split <;> omega
theorem cntN_congr {p q : Nat → Bool} : ∀ n, (∀ j, j < n → p j = q j) → cntN p n = cntN q n
  | 0, _ => rfl
  | n + 1, h => by rw [cntN, cntN, cntN_congr n fun j hj => h j (by omega), h n (by omega)]
theorem cntN_mono {p q : Nat → Bool} : ∀ n, (∀ j, j < n → p j = true → q j = true) → cntN p n ≤ cntN q n
  | 0, _ => Nat.le_refl _
  | n + 1, h => by
    have := cntN_mono (p := p) (q := q) n fun j hj => h j (by omega)
    have h2 := h n (by omega)
    rw [cntN, cntN]
    by_cases hp : p n = true
    · rw [if_pos hp, if_pos (h2 hp)]; omega
    · rw [if_neg hp]; split <;> omega
theorem cntN_filter (p : Nat → Bool) : ∀ n, cntN p n = ((List.range n).filter p).length
  | 0 => rfl
  | n + 1 => by
    rw [cntN, cntN_filter p n, List.range_succ, List.filter_append, List.length_append]
    congr 1
    by_cases h : p n = true
    · rw [if_pos h, List.filter_cons_of_pos h]; rfl
    · rw [if_neg h, List.filter_cons_of_neg h]; rfl
theorem cntN_inj {p : Nat → Bool} {f : Nat → Nat} {n : Nat} (hf : ∀ i, i < n → f i < n) (hi : ∀ i j, i < n → j < n → f i = f j → i = j) : cntN (fun j => p (f j)) n ≤ cntN p n := by
  rw [cntN_filter, cntN_filter, ← List.length_map (f := f)]
  apply List.Nodup.length_le_of_subset
  · rw [List.nodup_iff_pairwise_ne, List.pairwise_map]
    have hn : ((List.range n).filter fun j => p (f j)).Nodup := List.Nodup.sublist List.filter_sublist List.nodup_range
    rw [List.nodup_iff_pairwise_ne] at hn
    refine List.Pairwise.imp_of_mem (fun {a b} ha hb hab e => hab ?_) hn
    have ha := List.mem_range.1 (List.mem_filter.1 ha).1
    have hb := List.mem_range.1 (List.mem_filter.1 hb).1
    exact hi a b ha hb e
  · intro x hx
    obtain ⟨j, hj, rfl⟩ := List.mem_map.1 hx
    have h := List.mem_filter.1 hj
    exact List.mem_filter.2 ⟨List.mem_range.2 (hf j (List.mem_range.1 h.1)), h.2⟩
end Go.Proofs.Ytijimplcjaeneaa

