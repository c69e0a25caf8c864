
/- Which blocks are equal, by the model's equality of arrays. -/
import Derived.Test.YtlpkbcgdcimglaaR9d
set_option linter.unusedVariables false
set_option linter.unusedSimpArgs false
namespace Go.Proofs.Ytlpkbcgdcimglaa
open Go.AI
set_option linter.unusedVariables false
set_option linter.unusedSimpArgs false
/-- The blocks of all partitions of up to six packets, once each. -/
def keysB : List (List Int) := ((List.range 7).flatMap fun (n : Nat) => if Nat.beq n 0 then [] else (List.range (cntR n).1.toNat).map fun (r : Nat) => blocksN (unL n r)).eraseDups
def sameB (P : Program) (t : TypeId) (a b : List Int) : Bool := match pureRun P (Op.equal t (Dv a) (Dv b)) with
  | some x => x == decide (a = b)
  | none => false
def hashB (P : Program) (t : TypeId) (a : List Int) : Bool := (pureRun P (Instr.checkKey false 10000 t (Dv a))).isSome && (pureRun P (Instr.checkKey true 10000 t (Dv a))).isSome
theorem keys_same : (keysB.all fun a => hashB Try.prog 96 a && keysB.all fun b => sameB Try.prog 96 a b) = true := by kernel_rfl
theorem keys_in : ((List.range 7).all fun (n : Nat) => Nat.beq n 0 || (List.range (cntR n).1.toNat).all fun (r : Nat) => keysB.any fun k => k == blocksN (unL n r)) = true := by decide +kernel
end Go.Proofs.Ytlpkbcgdcimglaa
