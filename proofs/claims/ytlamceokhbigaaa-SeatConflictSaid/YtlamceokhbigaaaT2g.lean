
/- Guests and rules that may be. -/
import Derived.Test.YtlamceokhbigaaaT1g
set_option linter.unusedVariables false
set_option linter.unusedSimpArgs false
namespace Go.Proofs.Ytlamceokhbigaaa
open Go.AI
/-- A name. -/
def Name (l : List Int) : Prop := 1 ≤ l.length ∧ l.length ≤ 8 ∧ ∀ x ∈ l, 97 ≤ x ∧ x ≤ 122
theorem Name.bytes {l : List Int} (h : Name l) : Bytes l := fun x hx => by have := h.2.2 x hx; omega
structure GuOk (g : Gu) : Prop where
  nm : Name g.nm
  ra : 0 ≤ g.ra
  ra' : g.ra ≤ 9
  ho : 0 ≤ g.ho
  ho' : g.ho ≤ 1000
  ne : 0 ≤ g.ne
  ne' : g.ne ≤ 255
  ma : 0 ≤ g.ma
  ma' : g.ma ≤ 255
end Go.Proofs.Ytlamceokhbigaaa

