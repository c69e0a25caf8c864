
/- Invitations, as numbers. -/
import Derived.Test.YtlamceokhbigaaaTog
set_option linter.unusedVariables false
set_option linter.unusedSimpArgs false
namespace Go.Proofs.Ytlamceokhbigaaa
open Go.AI
structure Bo where
  kd : Int
  a : Int
  b : Int
deriving Inhabited
/-- A bond between so many guests that may be. -/
structure BoOk (n : Int) (b : Bo) : Prop where
  k : b.kd = 1 ∨ b.kd = 2
  a0 : 0 ≤ b.a
  a1 : b.a < n
  b0 : 0 ≤ b.b
  b1 : b.b < n
  ne : b.a ≠ b.b
/-- Which of two lists comes first: the shorter one, or by what they hold. -/
def cfL (a b : List Int) : Bool := decide (a.length < b.length) || (decide (a.length = b.length) && befL a b)
theorem cfL_iff {a b : List Int} : cfL a b = true ↔ a.length < b.length ∨ a.length = b.length ∧ befL a b = true := by
  unfold cfL
  rw [Bool.or_eq_true, Bool.and_eq_true, decide_eq_true_iff, decide_eq_true_iff]
theorem bits_more {N i : Nat} (h : N >>> i = 0) : ∀ {k : Nat}, bitsL N (i + k) = bitsL N i
  | 0 => rfl
  | k + 1 => by
    have ih := bits_more h (k := k)
    rw [← Nat.add_assoc, bitsL, has_none h (by omega), cond_false, ih]
/-- All bits, however far one looks. -/
theorem bits_stop {N i j : Nat} (h : N >>> i = 0) (h2 : N >>> j = 0) : bitsL N i = bitsL N j := by
  by_cases c : i ≤ j
  · have := bits_more h (k := j - i)
    rw [show i + (j - i) = j by omega] at this
    exact this.symm
  · have := bits_more h2 (k := i - j)
    rw [show j + (i - j) = i by omega] at this
    exact this
theorem shr_zero {N n : Nat} (h : N < 2 ^ n) : N >>> n = 0 := by
  rw [Nat.shiftRight_eq_div_pow]
  exact Nat.div_eq_of_lt h
end Go.Proofs.Ytlamceokhbigaaa

