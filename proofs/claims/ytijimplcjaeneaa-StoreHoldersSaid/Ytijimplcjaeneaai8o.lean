
/- Days that are known better: the pure part. -/
import Derived.Test.Ytijimplcjaeneaai3o
import Derived.Test.Ytijimplcjaeneaai7o
set_option linter.unusedVariables false
set_option linter.unusedSimpArgs false
namespace Go.Proofs.Ytijimplcjaeneaa
open Go.AI
/-- The same links, with narrower days. -/
structure Nar (ls ms : List Lk) : Prop where
  n : ms.length = ls.length
  l : ∀ i, i < ls.length → ms[i]!.f = ls[i]!.f ∧ ms[i]!.t = ls[i]!.t ∧ ls[i]!.lo ≤ ms[i]!.lo ∧ ms[i]!.lo ≤ ms[i]!.hi ∧ ms[i]!.hi ≤ ls[i]!.hi
def NarE : List Ev → List Ev → Prop
  | [], [] => True
  | e :: t, f :: s => (f.k = e.k ∧ f.o = e.o ∧ e.lo ≤ f.lo ∧ f.hi ≤ e.hi) ∧ NarE t s
  | _, _ => False
/-- As much is known, or less. -/
structure Wide (s t : DSt) : Prop where
  a : s.1.1 ≤ t.1.1
  b : t.1.2 ≤ s.1.2
  n : t.2.length = s.2.length
  l : ∀ j, j < s.2.length → s.2[j]!.1 ≤ t.2[j]!.1 ∧ t.2[j]!.2 ≤ s.2[j]!.2
theorem Wide.refl (s : DSt) : Wide s s := ⟨Int.le_refl _, Int.le_refl _, rfl, fun _ _ => ⟨Int.le_refl _, Int.le_refl _⟩⟩
theorem Wide.trans {s t u : DSt} (h : Wide s t) (k : Wide t u) : Wide s u :=
  ⟨Int.le_trans h.a k.a, Int.le_trans k.b h.b, by rw [k.n, h.n], fun j hj => ⟨Int.le_trans (h.l j hj).1 (k.l j (by rw [h.n]; exact hj)).1, Int.le_trans (k.l j (by rw [h.n]; exact hj)).2 (h.l j hj).2⟩⟩
def HasE (s : DSt) (e : Ev) : Prop := if e.k = -1 then s.1.1 ≤ e.lo ∧ e.hi ≤ s.1.2 else e.k.toNat < s.2.length ∧ s.2[e.k.toNat]!.1 ≤ e.lo ∧ e.hi ≤ s.2[e.k.toNat]!.2
theorem Wide.has {s t : DSt} {e : Ev} (h : Wide s t) (k : HasE t e) : HasE s e := by
  unfold HasE at k ⊢
  split
  · rename_i c
    rw [if_pos c] at k
    exact ⟨Int.le_trans h.a k.1, Int.le_trans k.2 h.b⟩
  · rename_i c
    rw [if_neg c] at k
    have := h.l e.k.toNat (by have := h.n; omega)
    exact ⟨by have := h.n; omega, by omega, by omega⟩
end Go.Proofs.Ytijimplcjaeneaa

