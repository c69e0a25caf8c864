
/- Lend. -/
import Derived.Test.Ytijimplcjaeneaad3o
set_option linter.unusedVariables false
set_option linter.unusedSimpArgs false
namespace Go.Proofs.Ytijimplcjaeneaa
open Go.AI
def memL (l : List Lo) (c : Nat) : List Lo := selX (bitsB c l.length) l
/-- A choice that may be, and than which none of the first ones is better, nor as good and greater. -/
def BestN (l : List Lo) (k best : Nat) : Prop := best < 2 ^ l.length ∧ AccP (memL l best) ∧ ∀ c, c < k → AccP (memL l c) → wsum (memL l c) < wsum (memL l best) ∨ (wsum (memL l c) = wsum (memL l best) ∧ ((memL l best).length < (memL l c).length ∨ ((memL l best).length = (memL l c).length ∧ c ≤ best)))
theorem selX_zero {α : Type} {n : Nat} : ∀ {l : List α}, selX (bitsB 0 n) l = [] := by
  induction n with
  | zero => intro l; simp [bitsB, selX]
  | succ n ih =>
    intro l
    cases l with
    | nil => simp [bitsB, selX]
    | cons x t => simp [bitsB, selX, ih]
theorem BestN.start {l : List Lo} : BestN l 0 0 := by
  refine ⟨Nat.two_pow_pos _, ?_, fun c h => by omega⟩
  unfold memL
  rw [selX_zero]
  intro i hi
  simp at hi
theorem BestN.skip {l : List Lo} {k best : Nat} (h : BestN l k best) (hs : AccP (memL l k) → wsum (memL l k) < wsum (memL l best) ∨ (wsum (memL l k) = wsum (memL l best) ∧ (memL l best).length < (memL l k).length)) : BestN l (k + 1) best := by
  refine ⟨h.1, h.2.1, fun c hc ha => ?_⟩
  by_cases e : c = k
  · subst e
    rcases hs ha with h1 | ⟨h1, h2⟩
    · exact .inl h1
    · exact .inr ⟨h1, .inl h2⟩
  · exact h.2.2 c (by omega) ha
theorem BestN.take {l : List Lo} {k best : Nat} (h : BestN l k best) (hk : k < 2 ^ l.length) (ha : AccP (memL l k)) (hle : wsum (memL l best) ≤ wsum (memL l k)) (hn : wsum (memL l k) = wsum (memL l best) → (memL l k).length ≤ (memL l best).length) : BestN l (k + 1) k := by
  refine ⟨hk, ha, fun c hc hac => ?_⟩
  by_cases e : c = k
  · subst e; exact .inr ⟨rfl, .inr ⟨rfl, Nat.le_refl _⟩⟩
  · rcases h.2.2 c (by omega) hac with h1 | ⟨h1, h2⟩
    · exact .inl (by omega)
    · by_cases e2 : wsum (memL l k) = wsum (memL l best)
      · have h3 := hn e2
        refine .inr ⟨by omega, ?_⟩
        omega
      · exact .inl (by omega)
end Go.Proofs.Ytijimplcjaeneaa

