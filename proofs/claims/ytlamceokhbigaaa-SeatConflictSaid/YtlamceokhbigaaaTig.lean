
/- Parties that are turned. -/
import Derived.Test.YtlamceokhbigaaaTdg
set_option linter.unusedVariables false
set_option linter.unusedSimpArgs false
namespace Go.Proofs.Ytlamceokhbigaaa
open Go.AI
/-- All of so many numbers, each once. -/
structure Full (n : Nat) (o : List Int) : Prop where
  nd : o.Nodup
  r : ∀ x ∈ o, 0 ≤ x ∧ x < n
  l : o.length = n
theorem Full.pre {n : Nat} {o : List Int} (h : Full n o) : Pre n o := ⟨h.nd, h.r, by have := h.l; omega⟩
theorem Full.all {n : Nat} {o : List Int} (h : Full n o) {x : Nat} (hx : x < n) : (x : Int) ∈ o := by
  by_cases hm : (x : Int) ∈ o
  · exact hm
  · exfalso
    have h1 : ((x : Int) :: o).Nodup := List.nodup_cons.2 ⟨hm, h.nd⟩
    have h2 : ((x : Int) :: o) ⊆ (List.range n).map (fun (k : Nat) => (k : Int)) := by
      intro y hy
      rw [List.mem_map]
      rcases List.mem_cons.1 hy with e | e
      · exact ⟨x, List.mem_range.2 hx, e.symm⟩
      · have := h.r y e
        exact ⟨y.toNat, List.mem_range.2 (by omega), by omega⟩
    have := h1.length_le_of_subset h2
    rw [List.length_cons, List.length_map, List.length_range, h.l] at this
    omega
end Go.Proofs.Ytlamceokhbigaaa

