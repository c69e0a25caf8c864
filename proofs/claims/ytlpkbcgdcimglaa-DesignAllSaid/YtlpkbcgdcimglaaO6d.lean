
/- The kernel's part, 5. -/
import Derived.Test.YtlpkbcgdcimglaaO3d
set_option linter.unusedVariables false
set_option linter.unusedSimpArgs false
namespace Go.Proofs.Ytlpkbcgdcimglaa
open Go.AI
def chkE (d : Nat) (xs : List Int) : Bool := chkS (bsL d) xs d && chkT (bsL d) xs d
theorem chk_5s : ((List.range 4).all fun n => (lists4 n).all fun xs => chkE 5 xs) = true := by decide +kernel
theorem chk_5a : ((lists4 3).all fun xs => chkE 5 (1 :: xs)) = true := by decide +kernel
theorem chk_5b : ((lists4 3).all fun xs => chkE 5 (2 :: xs)) = true := by decide +kernel
theorem chk_5c : ((lists4 3).all fun xs => chkE 5 (3 :: xs)) = true := by decide +kernel
theorem chk_5d : ((lists4 3).all fun xs => chkE 5 (4 :: xs)) = true := by decide +kernel
theorem chk_5 : chkD 5 = true := by
  show ((List.range 5).all fun n => (lists4 n).all fun xs => chkE 5 xs) = true
  rw [show List.range 5 = List.range 4 ++ [4] from rfl, List.all_append, chk_5s, Bool.true_and]
  simp only [List.all_cons, List.all_nil, Bool.and_true]
  refine List.all_eq_true.2 fun xs hx => ?_
  rw [show lists4 4 = (lists4 3).flatMap fun l => [1 :: l, 2 :: l, 3 :: l, 4 :: l] from rfl, List.mem_flatMap] at hx
  obtain ⟨l, hl, hx⟩ := hx
  simp only [List.mem_cons, List.not_mem_nil, or_false] at hx
  rcases hx with rfl | rfl | rfl | rfl
  · exact List.all_eq_true.1 chk_5a l hl
  · exact List.all_eq_true.1 chk_5b l hl
  · exact List.all_eq_true.1 chk_5c l hl
  · exact List.all_eq_true.1 chk_5d l hl
end Go.Proofs.Ytlpkbcgdcimglaa
