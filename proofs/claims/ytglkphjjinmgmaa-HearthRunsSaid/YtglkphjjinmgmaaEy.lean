/- Closed calls, one after the other: what was found before is known. -/
import Derived.Test.YtglkphjjinmgmaaX4
set_option linter.unusedVariables false
set_option linter.unusedSimpArgs false
namespace Go.AI
@[instance_reducible] def Oracle.of (P : Program) (l : List (Nat × Value)) : Oracle P := ⟨fun f => assocV l f, fun _ => True, [], rfl, fun _ => instDecidableTrue, fun _ => false, fun _ _ _ => Option.none⟩
theorem of_nil {P : Program} {B : Nat} : @OracleOK P (Oracle.of P []) B := fun f v hv => by cases hv
end Go.AI
