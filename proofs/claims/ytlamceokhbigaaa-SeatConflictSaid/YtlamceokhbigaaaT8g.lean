
/- All orders, handed out one by one. -/
import Derived.Test.YtlamceokhbigaaaT7g
set_option linter.unusedVariables false
set_option linter.unusedSimpArgs false
namespace Go.Proofs.Ytlamceokhbigaaa
open Go.AI
/-- All lists that begin so, of so many more numbers, each once. -/
def fillL (n : Nat) : Nat → List Int → List (List Int)
  | 0, pre => [pre]
  | r + 1, pre => (List.range n).flatMap fun (x : Nat) => if (x : Int) ∈ pre then [] else fillL n r (pre ++ [(x : Int)])
theorem Pre.nil {n : Nat} : Pre n [] := ⟨by simp, fun x hx => by simp at hx, by simp⟩
abbrev yT : TypeId := 79
abbrev fT : TypeId := 95
abbrev gT : TypeId := 112
/-- The function that fills the places from one on. -/
abbrev fillV (c b : Nat) : Value := .func (.func 146) #[] #[.pointer (some ⟨c, 0, none⟩), .pointer (some ⟨b, 0, none⟩), .pointer (some ⟨b + 2, 0, none⟩), .pointer (some ⟨c + 1, 0, none⟩), .pointer (some ⟨c + 2, 0, none⟩), .pointer (some ⟨b + 3, 0, none⟩)]
/-- What is captured. -/
structure Caps (c n : Nat) (X : Heap) : Prop where
  a : X.get c = some (.cells [VI n] 3 1)
  b : X.get (c + 1) = some (.cells [VI n] 3 1)
  f : X.get (c + 2) = some (.cells [fnV 129] fT 1)
/-- What is its own. -/
structure Mine (c b l n : Nat) (xs : List Int) (X : Heap) : Prop where
  y : X.get b = some (.cells [.func (.yield l) #[] #[]] yT 1)
  a : X.get (b + 1) = some (.cells (xs.map VI) 3 2)
  l : X.get (b + 2) = some (.cells [.slice (some ⟨b + 1, 0, none⟩) n 0] 26 1)
  f : X.get (b + 3) = some (.cells [fillV c b] gT 1)
  n : xs.length = n
theorem Mine.row {c b l n : Nat} {xs : List Int} {X : Heap} (h : Mine c b l n xs X) (hb : b + 1 < X.n) : Ints X (.slice (some ⟨b + 1, 0, none⟩) n 0) xs :=
  .inr (.inr ⟨b + 1, 0, 0, xs.map VI, 3, 2, by rw [List.length_map, h.n], hb, h.a, by decide, by simp, fun j w hj => by simpa using hj⟩)
end Go.Proofs.Ytlamceokhbigaaa

