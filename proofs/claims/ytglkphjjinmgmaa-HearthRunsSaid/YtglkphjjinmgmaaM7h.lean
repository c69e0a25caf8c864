/- Several texts in one. -/
import Derived.Test.YtglkphjjinmgmaaM6h
set_option linter.unusedVariables false
set_option linter.unusedSimpArgs false
namespace Go.Proofs.Ytglkphjjinmgmaa
open Go.AI
def lessB:List Int->List Int->Bool
  | a :: x,b :: y=>if a = b then lessB x y else decide (a < b)
  | _,_=>false
abbrev pt (b:Nat):Value:=.pointer (some ⟨b,0,none⟩)
end Go.Proofs.Ytglkphjjinmgmaa
namespace Go.AI
end Go.AI
namespace Go.Proofs.Ytglkphjjinmgmaa
open Go.AI
end Go.Proofs.Ytglkphjjinmgmaa
