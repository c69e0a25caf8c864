
/- The kernel's part, 4. -/
import Derived.Test.YtlpkbcgdcimglaaO3d
set_option linter.unusedVariables false
set_option linter.unusedSimpArgs false
namespace Go.Proofs.Ytlpkbcgdcimglaa
open Go.AI
theorem chk_4 : chkD 4 = true := by decide +kernel
end Go.Proofs.Ytlpkbcgdcimglaa
