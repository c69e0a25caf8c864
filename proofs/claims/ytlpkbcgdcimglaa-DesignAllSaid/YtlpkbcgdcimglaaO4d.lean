
/- The kernel's part, 3. -/
import Derived.Test.YtlpkbcgdcimglaaO3d
set_option linter.unusedVariables false
set_option linter.unusedSimpArgs false
namespace Go.Proofs.Ytlpkbcgdcimglaa
open Go.AI
theorem chk_3 : chkD 3 = true := by decide +kernel
end Go.Proofs.Ytlpkbcgdcimglaa
