
/- Rules and parties made of numbers; copies of parties. -/
import Derived.Test.YtlamceokhbigaaaTeg
set_option linter.unusedVariables false
set_option linter.unusedSimpArgs false
namespace Go.Proofs.Ytlamceokhbigaaa
open Go.AI
theorem gsOk_of {gs : List Gu} (hl : gs.length ≤ 10) (h : ∀ i, i < gs.length → gs[i]!.nm = nmL[i]! ∧ RaOk gs[i]!) : GsOk gs := by
  refine ⟨fun i hi => ?_, fun i j hij hj => ?_⟩
  · obtain ⟨h1, h2⟩ := h i hi
    exact ⟨by rw [h1]; exact nm_ok (by omega), h2.ra, h2.ra', h2.ho, h2.ho', h2.ne, h2.ne', h2.ma, h2.ma'⟩
  · rw [(h i (by omega)).1, (h j hj).1]
    exact nm_ne (by omega) (by omega) (by omega)
end Go.Proofs.Ytlamceokhbigaaa

