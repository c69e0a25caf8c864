/- awake answers true: by the kernel, on the globals alone. -/
import Derived.Test.YthjieekbbhhjgaaDoorA0
namespace Go.Proofs.YthjieekbbhhjgaaDoor
open Go.AI

def isTrueB : Option Res → Nat → Bool
  | some (.bool true, _, lo), n => Nat.ble n lo
  | _, _ => false
theorem isTrueB_spec {r : Option Res} {n : Nat} (h : isTrueB r n = true) : ∃ H lo, r = some (.bool true, H, lo) ∧ n ≤ lo := by
  unfold isTrueB at h
  split at h
  · exact ⟨_, _, rfl, Nat.le_of_ble_eq_true h⟩
  · cases h
theorem awakeB : isTrueB (@call Tryd.prog (Oracle.none Tryd.prog) 3000 19 [] (baseHeap globs)) 4 = true := by kernel_rfl
theorem awakeFound : found Tryd.prog globs 3000 19 (.bool true) := by
  obtain ⟨H, lo, h1, h2⟩ := isTrueB_spec awakeB
  exact ⟨H, lo, h1, by rw [base_n]; exact h2⟩
theorem mixed : Tryd.prog.follows .mixedOrders = true := by kernel_rfl
theorem nglobs : Tryd.prog.globals.size = 4 := by kernel_rfl
theorem oracleOK (B : Nat) : OracleOK Tryd.prog B := by
  intro f v hv H hb ρ w args k hR ha
  have hf : f = 19 ∧ v = .bool true := by
    have hv' : (bif Nat.beq f 19 then some (Value.bool true) else none) = some v := hv
    cases h : Nat.beq f 19 with
    | true => rw [h] at hv'; exact ⟨Nat.eq_of_beq_eq_true h, (Option.some.inj hv').symm⟩
    | false => rw [h] at hv'; cases hv'
  obtain ⟨rfl, rfl⟩ := hf
  exact found_ok mixed (by rfl) (by rw [nglobs]; rfl) rfl awakeFound hb.2 k hR ha
end Go.Proofs.YthjieekbbhhjgaaDoor
