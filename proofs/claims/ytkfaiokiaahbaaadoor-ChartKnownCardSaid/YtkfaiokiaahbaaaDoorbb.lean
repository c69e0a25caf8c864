/- What the globals are seen as. -/
import Derived.Test.YtkfaiokiaahbaaaDoorba
set_option linter.unusedVariables false
set_option linter.unusedSimpArgs false
namespace Go.Proofs.YtkfaiokiaahbaaaDoor
open Go.AI Go.ChangeShapes Go.WideShapes Go.ChangeAt Go.RowKit

/-- What the globals are seen as. -/
def seenG : List Seen := [⟨⟨0, 0, 0⟩, .cells ([32,45,124,111,124,120].map fun n => Value.int .u8 n) 0 0⟩, ⟨⟨1, 0, 0⟩, .gone⟩, ⟨⟨2, 0, 0⟩, .gone⟩, ⟨⟨3, 0, 0⟩, .gone⟩]
theorem seenG_hr {W : World} (hbig : 4 ≤ W.heap.size) (hL : laidMet Tryd.prog laidL W) (l : List Seen) (hB : ∀ s ∈ l, s.ent.blk < W.heap.size) (hc : ∀ s ∈ l, calm s.obj = true)
    (ho : ∀ s ∈ l, ∀ cs e k, s.obj = .cells cs e k → ∀ (i : Nat) v, cs[i]? = some v → W.cell? ⟨s.ent.blk, s.ent.base + i, none⟩ = some v) : HR Tryd.prog W.heap.size (seenR (seenG ++ l)) (seenH (seenG ++ l)) W := by
  refine seen_hr (seenG ++ l) ?_ ?_ ?_ ?_
  · intro s hs
    rcases List.mem_append.1 hs with hs | hs
    · simp only [seenG, List.mem_cons, List.not_mem_nil, or_false] at hs
      rcases hs with rfl | rfl | rfl | rfl
      · show 0 < _; omega
      · show 1 < _; omega
      · show 2 < _; omega
      · show 3 < _; omega
    · exact hB s hs
  · intro s hs
    rcases List.mem_append.1 hs with hs | hs
    · simp only [seenG, List.mem_cons, List.not_mem_nil, or_false] at hs
      rcases hs with rfl | rfl | rfl | rfl <;> rfl
    · exact hc s hs
  · intro s hs
    rcases List.mem_append.1 hs with hs | hs
    · simp only [seenG, List.mem_cons, List.not_mem_nil, or_false] at hs
      rcases hs with rfl | rfl | rfl | rfl
      · intro cs e k hcs i v hv
        cases hcs
        have h1 := World.var?_cell signsAt (cells_of_laid hL) i
        have : signs[i]? = some v := by
          rw [← hv]; simp [signs]
        simpa [this] using h1
      all_goals (intro cs e k h; cases h)
    · exact ho s hs
  · intro g hg
    rw [nglobs4] at hg
    match g, hg with
    | 0, _ => exact ⟨0, rfl⟩
    | 1, _ => exact ⟨0, rfl⟩
    | 2, _ => exact ⟨0, rfl⟩
    | 3, _ => exact ⟨0, rfl⟩
theorem seenG_base : baseB gl (seenH (seenG ++ [])) 0 = true := by kernel_rfl
end Go.Proofs.YtkfaiokiaahbaaaDoor
