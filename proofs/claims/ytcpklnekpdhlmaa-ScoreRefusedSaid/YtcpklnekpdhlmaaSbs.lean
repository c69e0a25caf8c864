
/- What is written, what is right, what is wrong: how they hang together. -/
import Derived.Test.YtcpklnekpdhlmaaW4
set_option linter.unusedVariables false
set_option linter.unusedSimpArgs false
namespace Go.Proofs.Ytcpklnekpdhlmaa
open Go.AI
/-- For how many packets something is written. -/
def wtN (ws : List Int) : Nat → Nat
  | 0 => 0
  | i + 1 => wtN ws i + if wrt ws i = true then 1 else 0
theorem wt_le (ws : List Int) : ∀ i, wtN ws i ≤ i
  | 0 => Nat.le_refl _
  | i + 1 => by have := wt_le ws i; rw [wtN]; split <;> omega
theorem rw_eq (ts ws : List Int) (k : Nat) : ∀ i, rtN ts ws k i + wgN ts ws k i = wtN ws i
  | 0 => rfl
  | i + 1 => by
    have := rw_eq ts ws k i
    rw [rtN, wgN, wtN]
    cases wrt ws i <;> cases prR ts ws k i <;> simp <;> omega
theorem pk_eq (ts ws : List Int) : ∀ i, pkN ts ws i + wrN ts ws i = wtN ws i
  | 0 => rfl
  | i + 1 => by
    have := pk_eq ts ws i
    rw [pkN, wrN, wtN]
    by_cases h : wgN ts ws i i = 0 <;> cases wrt ws i <;> simp [h] <;> omega
theorem two_pr (ts ws : List Int) : ∀ i, 2 * (prN ts ws i : Int) ≤ (wtN ws i : Int) * ((wtN ws i : Int) - 1)
  | 0 => by simp [prN, wtN]
  | i + 1 => by
    have h1 := two_pr ts ws i
    have h2 := rw_eq ts ws i i
    rw [prN, wtN]
    cases hw : wrt ws i with
    | false => simpa using h1
    | true =>
      simp only [if_true]
      have e : (((wtN ws i + 1 : Nat) : Int)) * (((wtN ws i + 1 : Nat) : Int) - 1) = (wtN ws i : Int) * ((wtN ws i : Int) - 1) + 2 * (wtN ws i : Int) := by
        rw [Int.natCast_add]; simp only [Int.natCast_one]
        rw [Int.add_sub_cancel, Int.add_mul, Int.mul_sub]; omega
      rw [e]; omega
theorem whole_pr (ts ws : List Int) : ∀ i, pkN ts ws i = i → 2 * (prN ts ws i : Int) = (i : Int) * ((i : Int) - 1) ∧ wtN ws i = i
  | 0, _ => by simp [prN, wtN]
  | i + 1, h => by
    have h0 := pk_le ts ws i
    have hp := h
    rw [pkN] at h
    have hw : wrt ws i = true ∧ wgN ts ws i i = 0 := by
      by_cases hc : wrt ws i = true ∧ wgN ts ws i i = 0
      · exact hc
      · rw [if_neg hc] at h; omega
    rw [if_pos hw] at h
    obtain ⟨h1, h2⟩ := whole_pr ts ws i (by omega)
    have h3 := rw_eq ts ws i i
    rw [prN, wtN, if_pos hw.1, if_pos hw.1]
    refine ⟨?_, by omega⟩
    have e : (((i + 1 : Nat) : Int)) * (((i + 1 : Nat) : Int) - 1) = (i : Int) * ((i : Int) - 1) + 2 * (i : Int) := by
      rw [Int.natCast_add]; simp only [Int.natCast_one]
      rw [Int.add_sub_cancel, Int.add_mul, Int.mul_sub]; omega
    rw [e]; omega
end Go.Proofs.Ytcpklnekpdhlmaa
