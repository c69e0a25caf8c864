
/- Strings as lists of bytes. -/
import Derived.Test.YtlamceokhbigaaaQ1bg
import Derived.Lib.Bytealg
set_option linter.unusedVariables false
set_option linter.unusedSimpArgs false
namespace Go.AI
/-- The bytes of a list of numbers. -/
def strOf (l : List Int) : ByteArray := ⟨(l.map fun x => UInt8.ofNat x.toNat).toArray⟩
section
variable {P : Program} {H : Heap} {t : TypeId} {l : List Int}
end
end Go.AI
namespace Go.Proofs.Ytlamceokhbigaaa
open Go.AI
abbrev VS (l : List Int) : Value := .string (strOf l)
def Bytes (l : List Int) : Prop := ∀ x ∈ l, 0 ≤ x ∧ x < 256
end Go.Proofs.Ytlamceokhbigaaa

