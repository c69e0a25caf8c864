
/- How many repeats there are, by guests; who comes too often. -/
import Derived.Test.Ytijimplcjaeneaag0o
set_option linter.unusedVariables false
set_option linter.unusedSimpArgs false
namespace Go.Proofs.Ytijimplcjaeneaa
open Go.AI
def cntG (l : List Int) : Nat → Int
  | 0 => 0
  | k + 1 => cntG l k + if (k : Int) ∈ l then 1 else 0
theorem cntG_congr {l m : List Int} : ∀ {k : Nat}, (∀ j : Nat, j < k → ((j : Int) ∈ l ↔ (j : Int) ∈ m)) → cntG l k = cntG m k
  | 0, _ => rfl
  | k + 1, h => by
    rw [cntG, cntG, cntG_congr fun j hj => h j (by omega)]
    congr 1
    by_cases e : (k : Int) ∈ l
    · rw [if_pos e, if_pos ((h k (by omega)).1 e)]
    · rw [if_neg e, if_neg fun h' => e ((h k (by omega)).2 h')]
theorem cntG_len : ∀ {k : Nat} {l : List Int}, l.Nodup → (∀ x ∈ l, 0 ≤ x ∧ x < k) → cntG l k = l.length
  | 0, l, _, h => by
    cases l with
    | nil => rfl
    | cons x t => have := h x (by simp); omega
  | k + 1, l, hd, h => by
    rw [cntG]
    by_cases e : (k : Int) ∈ l
    · have h1 := cntG_len (k := k) (l := l.erase (k : Int)) (hd.erase _) fun x hx => by
        have a := (hd.mem_erase_iff).1 hx
        have b := h x a.2
        have c := a.1
        omega
      have h2 : cntG l k = cntG (l.erase (k : Int)) k := cntG_congr fun j hj => by
        rw [hd.mem_erase_iff]
        exact ⟨fun hm => ⟨by omega, hm⟩, fun hm => hm.2⟩
      have h3 := List.length_erase_of_mem e
      have h4 := List.length_pos_of_mem e
      rw [if_pos e, h2, h1]
      omega
    · rw [if_neg e, Int.add_zero]
      exact cntG_len hd fun x hx => by
        have b := h x hx
        have : x ≠ (k : Int) := fun h' => e (h' ▸ hx)
        omega
theorem rep_mono {gs : List (List Int)} {plan : List Int} {n : Nat} : ∀ {m : Nat}, n ≤ m → (repS gs plan n).2.2 ≤ (repS gs plan m).2.2
  | 0, h => by obtain rfl : n = 0 := by omega
               exact Int.le_refl _
  | m + 1, h => by
    by_cases e : n = m + 1
    · rw [e]; exact Int.le_refl _
    · have := rep_mono (gs := gs) (plan := plan) (n := n) (m := m) (by omega)
      have e3 : (repS gs plan (m + 1)).2.2 = (repS gs plan m).2.2 + (againL gs plan m).length := rfl
      omega
end Go.Proofs.Ytijimplcjaeneaa

