
/- Chains made of numbers. -/
import Derived.Test.YtijimplcjaeneaaO4
import Derived.Test.YtijimplcjaeneaaO3
set_option linter.unusedVariables false
set_option linter.unusedSimpArgs false
namespace Go.Proofs.Ytijimplcjaeneaa
open Go.AI
theorem OwnS.oneC {e : TypeId} {s : Nat} {H : Heap} {v : Value} {rs : List (List Value)} {B : Nat} (h : OwnS e s H v rs B) : AI.oneC v = true := by
  rcases h.2 with ⟨rfl, _⟩ | ⟨_, rfl, _⟩ <;> rfl
theorem OwnS.same {e : TypeId} {s : Nat} {H : Heap} {v : Value} {rs : List (List Value)} {B : Nat} (h : OwnS e s H v rs B) : sameFix v v = true := by
  rcases h.2 with ⟨rfl, _⟩ | ⟨b, rfl, _⟩
  · rfl
  · exact same_sl
theorem row_but {H H' : Heap} {x v : Value} {vs : List Value} (h : Row H v vs) (k : KeepBut x H H') (ha : ∀ c, blkOf v = some c → blkOf x ≠ some c) : Row H' v vs := by
  rcases h with h | h | ⟨b, i, c, cs, e, kd, rfl, h2, h3, h4⟩
  · exact .inl h
  · exact .inr (.inl h)
  · exact .inr (.inr ⟨b, i, c, cs, e, kd, rfl, Nat.lt_of_lt_of_le h2 k.le, by rw [k.get b h2 (ha b rfl)]; exact h3, h4⟩)
end Go.Proofs.Ytijimplcjaeneaa

