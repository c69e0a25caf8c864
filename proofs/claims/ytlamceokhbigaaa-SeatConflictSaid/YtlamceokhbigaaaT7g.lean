
/- The rules that an order does not keep: the walk. -/
import Derived.Test.YtlamceokhbigaaaT6g
set_option linter.unusedVariables false
set_option linter.unusedSimpArgs false
namespace Go.Proofs.Ytlamceokhbigaaa
open Go.AI
abbrev fnV (k : Nat) : Value := .func (.func k) #[] #[]
abbrev setB (N k : Nat) : Nat := N ||| 2 ^ k
/-- Whether a rule is kept. -/
def keepN (n : Nat) (S R : List Int) (r : Ru) : Bool :=
  if r.kd = 1 then decide (S[r.a.toNat]! < S[r.b.toNat]!) else
  if r.kd = 2 then decide (S[r.a.toNat]! - S[r.b.toNat]! = 1 ∨ S[r.a.toNat]! - S[r.b.toNat]! = -1) else
  if r.kd = 3 then !decide (S[r.a.toNat]! - S[r.b.toNat]! = 1 ∨ S[r.a.toNat]! - S[r.b.toNat]! = -1) else
  if r.kd = 4 then decide (S[r.a.toNat]! = 0) else
  if r.kd = 5 then decide (S[r.a.toNat]! = (n : Int) - 1) else downR R n
/-- The first rules that are not kept, as bits. -/
def brkN (n : Nat) (S R : List Int) (rs : List Ru) : Nat → Nat
  | 0 => 0
  | i + 1 => bif keepN n S R rs[i]! then brkN n S R rs i else brkN n S R rs i ||| 2 ^ i
def brkO (gs : List Gu) (rs : List Ru) (o : List Int) : Nat := brkN gs.length (seatL o) (rankL gs o) rs rs.length
end Go.Proofs.Ytlamceokhbigaaa

