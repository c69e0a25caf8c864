/- Closed calls of package chart: all of them. -/
import Derived.Test.YtkfaiokiaahbaaaDoorb2
import Derived.Test.YtkfaiokiaahbaaaDoorb3
import Derived.Test.YtkfaiokiaahbaaaDoorb4
import Derived.Test.YtkfaiokiaahbaaaDoorb5
import Derived.Test.YtkfaiokiaahbaaaDoorb6
import Derived.Test.YtkfaiokiaahbaaaDoorb7
set_option linter.unusedVariables false
set_option linter.unusedSimpArgs false
namespace Go.Proofs.YtkfaiokiaahbaaaDoor
open Go.AI
theorem ok1 (B : Nat) : @OracleOK Tryd.prog (Oracle.ofG Tryd.prog gl kn1) B := ofG_cons mixed glCalm nglobs (ok0 B) rfl run1
theorem ok2 (B : Nat) : @OracleOK Tryd.prog (Oracle.ofG Tryd.prog gl kn2) B := ofG_cons mixed glCalm nglobs (ok1 B) rfl run2
theorem ok3 (B : Nat) : @OracleOK Tryd.prog (Oracle.ofG Tryd.prog gl kn3) B := ofG_cons mixed glCalm nglobs (ok2 B) rfl run3
theorem ok4 (B : Nat) : @OracleOK Tryd.prog (Oracle.ofG Tryd.prog gl kn4) B := ofG_cons mixed glCalm nglobs (ok3 B) rfl run4
theorem ok5 (B : Nat) : @OracleOK Tryd.prog (Oracle.ofG Tryd.prog gl kn5) B := ofG_cons mixed glCalm nglobs (ok4 B) rfl run5
theorem ok6 (B : Nat) : @OracleOK Tryd.prog (Oracle.ofG Tryd.prog gl kn6) B := ofG_cons mixed glCalm nglobs (ok5 B) rfl run6
end Go.Proofs.YtkfaiokiaahbaaaDoor
