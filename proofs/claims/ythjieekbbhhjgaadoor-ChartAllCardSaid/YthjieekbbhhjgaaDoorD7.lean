/- ChartAll: its function answers true. -/
import Derived.Test.YthjieekbbhhjgaaDoorD6
import Derived.Test.YthjieekbbhhjgaaDoorD3
namespace Go.Proofs.YthjieekbbhhjgaaDoor
open Go.AI
def lessF : List Int → List Int → Bool
  | x :: r, y :: s => if x = y then lessF r s else decide (x < y)
  | _, _ => false
def finB (n : Nat) (cs : List Int) : Bool := Nat.beq cs.length (n + 1) && (List.range n).all fun j => decide (partT[n * 10 + (j + 1)]! = cs[j + 1]!)
/-- All partitions from one on, looked at one by one. -/
def goB (n : Nat) : Nat → Int → List Int → List Int → Bool
  | 0, _, _, _ => false
  | f + 1, k, p, cs =>
    decide (check p = 0) && Nat.beq p.length n && decide (rkF p 0 = k) && decide (unE n k = 0) && decide (unL n k = p) && decide (1 ≤ blkFrom p 0) && decide (blkFrom p 0 ≤ n) && Nat.beq cs.length (n + 1) &&
    decide (0 ≤ cs[(blkFrom p 0).toNat]!) && decide (cs[(blkFrom p 0).toNat]! ≤ 100000) &&
    match nxO p with
    | none => decide (k = (cntR n).1 - 1) && finB n (cs.set (blkFrom p 0).toNat (cs[(blkFrom p 0).toNat]! + 1))
    | some q => decide (k < (cntR n).1 - 1) && lessF p q && goB n f (k + 1) q (cs.set (blkFrom p 0).toNat (cs[(blkFrom p 0).toNat]! + 1))
theorem all1 : goB 1 2 0 [0] [0, 0] = true := by decide +kernel
theorem all2 : goB 2 3 0 [0, 0] [0, 0, 0] = true := by decide +kernel
theorem all3 : goB 3 6 0 [0, 0, 0] [0, 0, 0, 0] = true := by decide +kernel
theorem all4 : goB 4 16 0 [0, 0, 0, 0] [0, 0, 0, 0, 0] = true := by decide +kernel
theorem all5 : goB 5 53 0 [0, 0, 0, 0, 0] [0, 0, 0, 0, 0, 0] = true := by decide +kernel
theorem all6 : goB 6 204 0 [0, 0, 0, 0, 0, 0] [0, 0, 0, 0, 0, 0, 0] = true := by decide +kernel
theorem all7 : goB 7 878 0 [0, 0, 0, 0, 0, 0, 0] [0, 0, 0, 0, 0, 0, 0, 0] = true := by decide +kernel
theorem goAll {n : Nat} (h1 : 1 ≤ n) (h7 : n ≤ 7) : ∃ f, goB n f 0 (List.replicate n 0) (List.replicate (n + 1) 0) = true := by
  obtain rfl | rfl | rfl | rfl | rfl | rfl | rfl : n = 1 ∨ n = 2 ∨ n = 3 ∨ n = 4 ∨ n = 5 ∨ n = 6 ∨ n = 7 := by omega
  · exact ⟨_, all1⟩
  · exact ⟨_, all2⟩
  · exact ⟨_, all3⟩
  · exact ⟨_, all4⟩
  · exact ⟨_, all5⟩
  · exact ⟨_, all6⟩
  · exact ⟨_, all7⟩
theorem un0 {n : Nat} (h1 : 1 ≤ n) (h7 : n ≤ 7) : unE n 0 = 0 ∧ unL n 0 = List.replicate n 0 ∧ unE n (cntR n).1 = 7 ∧ (cntR n).2 = 0 := by
  obtain rfl | rfl | rfl | rfl | rfl | rfl | rfl : n = 1 ∨ n = 2 ∨ n = 3 ∨ n = 4 ∨ n = 5 ∨ n = 6 ∨ n = 7 := by omega
  all_goals decide +kernel
end Go.Proofs.YthjieekbbhhjgaaDoor
