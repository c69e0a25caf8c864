
/- What an argument is: seasons. -/
import Derived.Test.Ytijimplcjaeneaae0o
import Derived.Test.YtijimplcjaeneaaO5
set_option linter.unusedVariables false
set_option linter.unusedSimpArgs false
namespace Go.Proofs.Ytijimplcjaeneaa
open Go.AI
set_option maxRecDepth 100000
theorem lvN : leaves Try.prog 9 29 = some [29] := by kernel_rfl
theorem lvSe : leaves Try.prog 9 68 = some [29, 39] := by kernel_rfl
theorem datL_lists {d : Nat} {H : Heap} {v : Value} (h : DatL Try.prog (d + 3) H 39 v) : ∃ (vs : List Value) (gs : List (List Int)), Gri H v vs gs ∧ gs.length ≤ 9223372036854775807 ∧ ∀ i, i < gs.length → gs[i]!.length ≤ 9223372036854775807 := by
  obtain ⟨rs, h1, h2, h3⟩ := datL_row unG lvN h
  obtain ⟨ps, rfl, hp⟩ := map_of (f := fun p : Value × List Int => [p.1]) (p := fun p => Ints H p.1 p.2 ∧ p.2.length ≤ 9223372036854775807) fun r hr => by
    cases h3 r hr with
    | cons a b =>
      cases b
      obtain ⟨xs, h4, h5, _⟩ := datL_ints a
      exact ⟨(_, xs), rfl, h4, h5⟩
  rw [List.length_map] at h2
  have key : ∀ i, i < ps.length → Ints H (ps.map Prod.fst)[i]! (ps.map Prod.snd)[i]! ∧ ((ps.map Prod.snd)[i]!).length ≤ 9223372036854775807 := fun i hi => by
    rw [getElem!_pos _ i (by rw [List.length_map]; exact hi), getElem!_pos _ i (by rw [List.length_map]; exact hi), List.getElem_map, List.getElem_map]
    exact hp _ (List.getElem_mem _)
  refine ⟨ps.map Prod.fst, ps.map Prod.snd, ⟨rowS_one ?_, by simp, fun i hi => (key i (by simpa using hi)).1⟩, by rw [List.length_map]; exact h2, fun i hi => (key i (by simpa using hi)).2⟩
  rw [List.map_map]
  exact h1
theorem dat_season {H : Heap} {v : Value} (h : DatV Try.prog H 68 v) : ∃ (s g : Value) (vs : List Value) (st : List Int) (gs : List (List Int)), v = Sev s g ∧ Ints H s st ∧ Gri H g vs gs ∧ st.length ≤ 9223372036854775807 ∧ gs.length ≤ 9223372036854775807 ∧ ∀ i, i < gs.length → gs[i]!.length ≤ 9223372036854775807 := by
  simp only [DatV, agSe] at h
  obtain ⟨ts, cs, h1, rfl, h2⟩ := h
  rw [lvSe] at h1
  cases h1
  cases h2 with
  | cons a h2 =>
    cases h2 with
    | cons b h2 =>
      cases h2
      obtain ⟨st, a1, a2, _⟩ := datL_ints a
      obtain ⟨vs, gs, b1, b2, b3⟩ := datL_lists b
      exact ⟨_, _, vs, st, gs, rfl, a1, b1, a2, b2, b3⟩
end Go.Proofs.Ytijimplcjaeneaa

