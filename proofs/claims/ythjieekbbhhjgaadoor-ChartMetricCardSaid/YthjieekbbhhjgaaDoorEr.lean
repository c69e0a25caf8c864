/- Conditions, step by step: where ways meet again. -/
import Derived.Test.YthjieekbbhhjgaaDoorEq
namespace Go.AI
variable {P : Program} [Oracle P] {N B : Nat} {wr : Bool} {L : Kn} {H : Heap} {Q : Exit → Kn → Heap → Prop} {a b : Code}
/-- Behind a piece of code, only what is listed stays known. -/
theorem CV.midK {α : Type} (S : α → List (Nat × Value)) (I : α → Heap → Prop) (h1 : CV P N B wr a L H (seqK (fun L H => ∃ x, covers L (S x) ∧ I x H) Q))
    (h2 : ∀ x H, I x H → B ≤ H.n → mkK (S x) .leaf fun L' => CV P N B wr b L' H Q) : CV P N B wr a L H (seqK (fun L H => CV P N B wr b L H Q) Q) := by
  refine ⟨⟨fun tm lo ha hl hB => ?_⟩⟩
  refine (h1.run.run tm lo ha hl hB).mono ?_
  rintro e ⟨tm', H', lo'⟩ ⟨hl', hB', L', h3, h4⟩
  cases e with
  | normal =>
    obtain ⟨x, h5, h6⟩ := h4
    exact ⟨hl', hB', L', h3, ⟨WCv.forget (S x) h5 ((mkK_mono _ _ (fun L h => h.run)) (h2 x H' h6 hB'))⟩⟩
  | _ => exact ⟨hl', hB', L', h3, h4⟩
end Go.AI
