
/- Invitations, as numbers. -/
import Derived.Test.YtlamceokhbigaaaTog
set_option linter.unusedVariables false
set_option linter.unusedSimpArgs false
namespace Go.Proofs.Ytlamceokhbigaaa
open Go.AI
structure Bo where
  kd : Int
  a : Int
  b : Int
deriving Inhabited
/-- A bond between so many guests that may be. -/
structure BoOk (n : Int) (b : Bo) : Prop where
  k : b.kd = 1 ∨ b.kd = 2
  a0 : 0 ≤ b.a
  a1 : b.a < n
  b0 : 0 ≤ b.b
  b1 : b.b < n
  ne : b.a ≠ b.b
/-- Which of two lists comes first: the shorter one, or by what they hold. -/
def cfL (a b : List Int) : Bool := decide (a.length < b.length) || (decide (a.length = b.length) && befL a b)
theorem befL_trans : ∀ {a b c : List Int}, befL a b = true → befL b c = true → befL a c = true
  | [], _, _, h, _ => by simp [befL] at h
  | _ :: _, [], _, h, _ => by simp [befL] at h
  | _ :: _, _ :: _, [], _, h => by simp [befL] at h
  | x :: a, y :: b, z :: c, h1, h2 => by
    simp only [befL] at h1 h2 ⊢
    by_cases e1 : x = y
    · subst e1
      rw [if_pos rfl] at h1
      by_cases e2 : x = z
      · rw [if_pos e2] at h2 ⊢
        exact befL_trans h1 h2
      · rw [if_neg e2] at h2 ⊢
        exact h2
    · rw [if_neg e1] at h1
      have h1 := of_decide_eq_true h1
      by_cases e2 : y = z
      · subst e2
        rw [if_neg e1]
        exact decide_eq_true h1
      · rw [if_neg e2] at h2
        have h2 := of_decide_eq_true h2
        rw [if_neg (by omega)]
        exact decide_eq_true (by omega)
theorem cfL_iff {a b : List Int} : cfL a b = true ↔ a.length < b.length ∨ a.length = b.length ∧ befL a b = true := by
  unfold cfL
  rw [Bool.or_eq_true, Bool.and_eq_true, decide_eq_true_iff, decide_eq_true_iff]
theorem cfL_self {a : List Int} : ¬ cfL a a = true := by
  rw [cfL_iff, befL_self]
  rintro (h | ⟨_, h⟩)
  · omega
  · cases h
theorem cfL_trans {a b c : List Int} (h1 : cfL a b = true) (h2 : cfL b c = true) : cfL a c = true := by
  rw [cfL_iff] at h1 h2 ⊢
  rcases h1 with h1 | ⟨h1, h3⟩
  · rcases h2 with h2 | ⟨h2, _⟩
    · exact .inl (by omega)
    · exact .inl (by omega)
  · rcases h2 with h2 | ⟨h2, h4⟩
    · exact .inl (by omega)
    · exact .inr ⟨by omega, befL_trans h3 h4⟩
theorem bits_more {N i : Nat} (h : N >>> i = 0) : ∀ {k : Nat}, bitsL N (i + k) = bitsL N i
  | 0 => rfl
  | k + 1 => by
    have ih := bits_more h (k := k)
    rw [← Nat.add_assoc, bitsL, has_none h (by omega), cond_false, ih]
/-- All bits, however far one looks. -/
theorem bits_stop {N i j : Nat} (h : N >>> i = 0) (h2 : N >>> j = 0) : bitsL N i = bitsL N j := by
  by_cases c : i ≤ j
  · have := bits_more h (k := j - i)
    rw [show i + (j - i) = j by omega] at this
    exact this.symm
  · have := bits_more h2 (k := i - j)
    rw [show j + (i - j) = i by omega] at this
    exact this
theorem shr_zero {N n : Nat} (h : N < 2 ^ n) : N >>> n = 0 := by
  rw [Nat.shiftRight_eq_div_pow]
  exact Nat.div_eq_of_lt h
theorem bits_lt {N i : Nat} {x : Int} (h : x ∈ bitsL N i) : 0 ≤ x ∧ x < i := by
  obtain ⟨j, hj, rfl, _⟩ := mem_bits.1 h
  omega
end Go.Proofs.Ytlamceokhbigaaa

