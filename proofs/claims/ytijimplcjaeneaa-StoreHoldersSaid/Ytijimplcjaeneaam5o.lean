
/- What an argument is: chains, links. -/
import Derived.Test.Ytijimplcjaeneaae0o
import Derived.Test.YtijimplcjaeneaaO2
set_option linter.unusedVariables false
set_option linter.unusedSimpArgs false
namespace Go.Proofs.Ytijimplcjaeneaa
open Go.AI
set_option maxRecDepth 100000
theorem lvLk : leaves Try.prog 9 28 = some [3, 3, 3, 3] := by kernel_rfl
theorem lvCh : leaves Try.prog 9 26 = some [3, 3, 3, 24] := by kernel_rfl
theorem datL_links {d : Nat} {H : Heap} {v : Value} (h : DatL Try.prog (d + 2) H 24 v) : ∃ l : List Lk, RowS 4 H v (l.map Lkl) ∧ l.length ≤ 9223372036854775807 := by
  obtain ⟨rs, h1, h2, h3⟩ := datL_row unLs lvLk h
  obtain ⟨xs, rfl, _⟩ := map_of (f := Lkl) (p := fun _ => True) fun r hr => by
    cases h3 r hr with
    | cons a h =>
      cases h with
      | cons b h =>
        cases h with
        | cons c h =>
          cases h with
          | cons e h =>
            cases h
            obtain ⟨n, rfl, _⟩ := datL_int a
            obtain ⟨n2, rfl, _⟩ := datL_int b
            obtain ⟨n3, rfl, _⟩ := datL_int c
            obtain ⟨n4, rfl, _⟩ := datL_int e
            exact ⟨⟨n, n2, n3, n4⟩, rfl, trivial⟩
  rw [List.length_map] at h2
  exact ⟨xs, h1, h2⟩
theorem dat_link {H : Heap} {v : Value} (h : DatV Try.prog H 28 v) : ∃ p : Lk, v = Lkv p := by
  simp only [DatV, agLk] at h
  obtain ⟨ts, cs, h1, rfl, h2⟩ := h
  rw [lvLk] at h1
  cases h1
  cases h2 with
  | cons a h =>
    cases h with
    | cons b h =>
      cases h with
      | cons c h =>
        cases h with
        | cons e h =>
          cases h
          obtain ⟨n, rfl, _⟩ := datL_int a
          obtain ⟨n2, rfl, _⟩ := datL_int b
          obtain ⟨n3, rfl, _⟩ := datL_int c
          obtain ⟨n4, rfl, _⟩ := datL_int e
          exact ⟨⟨n, n2, n3, n4⟩, rfl⟩
theorem dat_chain {H : Heap} {v : Value} (h : DatV Try.prog H 26 v) : ∃ (mk lo hh : Int) (sv : Value) (l : List Lk), v = Chv mk lo hh sv ∧ RowS 4 H sv (l.map Lkl) ∧ l.length ≤ 9223372036854775807 := by
  simp only [DatV, agCh] at h
  obtain ⟨ts, cs, h1, rfl, h2⟩ := h
  rw [lvCh] at h1
  cases h1
  cases h2 with
  | cons a h =>
    cases h with
    | cons b h =>
      cases h with
      | cons c h =>
        cases h with
        | cons e h =>
          cases h
          obtain ⟨n, rfl, _⟩ := datL_int a
          obtain ⟨n2, rfl, _⟩ := datL_int b
          obtain ⟨n3, rfl, _⟩ := datL_int c
          obtain ⟨l, h5, h6⟩ := datL_links e
          exact ⟨_, _, _, _, l, rfl, h5, h6⟩
end Go.Proofs.Ytijimplcjaeneaa
