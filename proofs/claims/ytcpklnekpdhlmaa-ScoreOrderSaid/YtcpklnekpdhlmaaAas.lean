/- awake answers true: by the kernel, on the globals alone. -/
import Derived.Test.YtcpklnekpdhlmaaA0s
set_option linter.unusedVariables false
set_option linter.unusedSimpArgs false
namespace Go.Proofs.Ytcpklnekpdhlmaa
open Go.AI

def isTrueB : Option Res → Nat → Bool
  | some (.bool true, _, lo), n => Nat.ble n lo
  | _, _ => false
theorem isTrueB_spec {r : Option Res} {n : Nat} (h : isTrueB r n = true) : ∃ H lo, r = some (.bool true, H, lo) ∧ n ≤ lo := by
  unfold isTrueB at h
  split at h
  · exact ⟨_, _, rfl, Nat.le_of_ble_eq_true h⟩
  · cases h
theorem scoredB : isTrueB (@call Try.prog (Oracle.none Try.prog) 3000 (.fn 46) [] (baseHeap globs)) 0 = true := by kernel_rfl
theorem scoredFound : found Try.prog globs 3000 46 (.bool true) := by
  obtain ⟨H, lo, h1, h2⟩ := isTrueB_spec scoredB
  exact ⟨H, lo, h1, by rw [base_n]; exact h2⟩
theorem awakeB : isTrueB (@call Try.prog (Oracle.none Try.prog) 3000 (.fn 13) [] (baseHeap globs)) 0 = true := by kernel_rfl
theorem awakeFound : found Try.prog globs 3000 13 (.bool true) := by
  obtain ⟨H, lo, h1, h2⟩ := isTrueB_spec awakeB
  exact ⟨H, lo, h1, by rw [base_n]; exact h2⟩
theorem mixed : Try.prog.follows .mixedOrders = true := by kernel_rfl
theorem nglobs : Try.prog.globals.size = 0 := by kernel_rfl
theorem oracleOK (B : Nat) : OracleOK Try.prog B := by
  intro f v hv H hb ρ w args k hR ha
  have hv' : (bif Nat.beq f 46 then some (Value.bool true) else bif Nat.beq f 13 then some (.bool true) else none) = some v := hv
  cases h : Nat.beq f 46 with
  | true =>
    rw [h] at hv'
    obtain rfl := Nat.eq_of_beq_eq_true h
    obtain rfl := Option.some.inj hv'
    exact found_ok mixed (by rfl) (by rw [nglobs]; rfl) rfl scoredFound hb.2 k hR ha
  | false =>
    rw [h, cond_false] at hv'
    cases h2 : Nat.beq f 13 with
    | true =>
      rw [h2] at hv'
      obtain rfl := Nat.eq_of_beq_eq_true h2
      obtain rfl := Option.some.inj hv'
      exact found_ok mixed (by rfl) (by rw [nglobs]; rfl) rfl awakeFound hb.2 k hR ha
    | false => rw [h2] at hv'; cases hv'
end Go.Proofs.Ytcpklnekpdhlmaa
