
/- The best order. -/
import Derived.Test.YtlamceokhbigaaaTcg
set_option linter.unusedVariables false
set_option linter.unusedSimpArgs false
namespace Go.Proofs.Ytlamceokhbigaaa
open Go.AI
def prO (gs : List Gu) (rs : List Ru) (o : List Int) : Int := priceN (brkO gs rs o) rs
def bstep (gs : List Gu) (rs : List Ru) (acc : Option (List Int × Int)) (o : List Int) : Option (List Int × Int) :=
  match acc with
  | none => some (o, prO gs rs o)
  | some (b, p) => if prO gs rs o < p then some (o, prO gs rs o) else some (b, p)
/-- The best one of some orders, and its price. -/
def bestF (gs : List Gu) (rs : List Ru) (F : List (List Int)) : Option (List Int × Int) := F.foldl (bstep gs rs) none
/-- The best one yet, in its variables. -/
def BS (b1 b2 e : Nat) (X : Heap) (acc : Option (List Int × Int)) : Prop :=
  match acc with
  | none => X.get b1 = some (.cells [nilS] 26 1) ∧ X.get b2 = some (.cells [VI 0] 3 1)
  | some (b, p) => ∃ q, X.get b1 = some (.cells [q] 26 1) ∧ X.get b2 = some (.cells [VI p] 3 1) ∧ Own 3 X q (b.map VI) e ∧ b ≠ []
theorem BS.keepX {b1 b2 e q : Nat} {X X' : Heap} {acc : Option (List Int × Int)} (h : BS b1 b2 e X acc) (k : KeepX q X X') (h1 : b1 < X.n) (h2 : b2 < X.n) (n1 : b1 ≠ q) (n2 : b2 ≠ q) (hq : q < e) : BS b1 b2 e X' acc := by
  cases acc with
  | none => exact ⟨(k.2 b1 h1 n1).trans h.1, (k.2 b2 h2 n2).trans h.2⟩
  | some a =>
    obtain ⟨b, p⟩ := a
    obtain ⟨v, a1, a2, a3, a4⟩ := h
    exact ⟨v, (k.2 b1 h1 n1).trans a1, (k.2 b2 h2 n2).trans a2, own_keepN a3 k (fun hh => by have := (a3.lt hh).1; omega), a4⟩
theorem own_shape {H : Heap} {v : Value} {b : List Int} {B : Nat} (h : Own 3 H v (b.map VI) B) (hb : b ≠ []) : ∃ a n c, v = .slice (some a) n c := by
  rcases h with ⟨_, h⟩ | ⟨q, h, _⟩
  · exact absurd (by simpa using h) hb
  · exact ⟨_, _, _, h⟩
end Go.Proofs.Ytlamceokhbigaaa

