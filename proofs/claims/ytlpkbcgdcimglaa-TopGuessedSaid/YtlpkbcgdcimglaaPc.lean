/- What the arguments are seen as: no variables. -/
import Derived.Test.YtlpkbcgdcimglaaPb
set_option linter.unusedVariables false
set_option linter.unusedSimpArgs false
namespace Go.Proofs.Ytlpkbcgdcimglaa
open Go.AI Go.ChangeShapes Go.WideShapes Go.ChangeAt Go.RowKit
def seenG : List Seen := []
theorem seenG_hr {W : World} (l : List Seen) (hB : ∀ s ∈ l, s.ent.blk < W.heap.size) (hc : ∀ s ∈ l, calm s.obj = true)
    (ho : ∀ s ∈ l, ∀ cs e k, s.obj = .cells cs e k → ∀ (i : Nat) v, cs[i]? = some v → W.cell? ⟨s.ent.blk, s.ent.base + i, none⟩ = some v) : HR Try.prog W.heap.size (seenR (seenG ++ l)) (seenH (seenG ++ l)) W := by
  refine seen_hr (seenG ++ l) hB hc ho ?_
  intro g hg
  rw [nglobs] at hg; omega
end Go.Proofs.Ytlpkbcgdcimglaa
