
/- SeatConflict: the walk. -/
import Derived.Test.Ytlamceokhbigaaav3g
import Derived.Test.Ytlamceokhbigaaav4g
set_option linter.unusedVariables false
set_option linter.unusedSimpArgs false
namespace Go.Proofs.Ytlamceokhbigaaa
open Go.AI
set_option maxRecDepth 100000 in
theorem awakeC_spec {B : Nat} {H : Heap} (hB : B ≤ H.n) :
    CallB Try.prog B 17 [] H (fun r H' => r = .bool true ∧ Keep H H') :=
  CallB.known (v := .bool true) rfl trivial (by omega) ⟨rfl, Keep.refl _⟩
end Go.Proofs.Ytlamceokhbigaaa

