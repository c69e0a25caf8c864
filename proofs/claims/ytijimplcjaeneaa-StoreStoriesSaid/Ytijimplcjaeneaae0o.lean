
/- What an argument is, by its type: rows of numbers, loans. -/
import Derived.Test.YtijimplcjaeneaaEo
import Derived.Test.YtijimplcjaeneaaO4
set_option linter.unusedVariables false
set_option linter.unusedSimpArgs false
namespace Go.Proofs.Ytijimplcjaeneaa
open Go.AI
set_option maxRecDepth 100000
theorem datL_int {d : Nat} {H : Heap} {c : Value} (h : DatL Try.prog (d + 1) H 3 c) : ∃ n, c = VI n ∧ inI64 n := by
  simp only [DatL, un3] at h
  obtain ⟨n, rfl, hn⟩ := h
  simp [Lit.wf, IntKind.min, IntKind.max, IntKind.signed, IntKind.bits] at hn
  exact ⟨n, rfl, by omega, by omega⟩
theorem datL_row {d : Nat} {H : Heap} {t e : TypeId} {ts : List TypeId} {v : Value} (ht : Try.prog.underlying t = some (.slice e)) (hl : leaves Try.prog 9 e = some ts) (h : DatL Try.prog (d + 1) H t v) :
    ∃ rs, RowS ts.length H v rs ∧ rs.length ≤ 9223372036854775807 ∧ ∀ r ∈ rs, L2 (DatL Try.prog d H) ts r := by
  simp only [DatL, ht] at h
  obtain ⟨ts', rs, h1, h2, h3, h4⟩ := h
  rw [hl] at h1
  cases h1
  exact ⟨rs, h2, h3, h4⟩
theorem map_of {α β : Type} {p : α → Prop} {f : α → β} : ∀ {rs : List β}, (∀ r ∈ rs, ∃ x, r = f x ∧ p x) → ∃ xs : List α, rs = xs.map f ∧ ∀ x ∈ xs, p x
  | [], _ => ⟨[], rfl, fun _ h => by cases h⟩
  | r :: rs, h => by
    obtain ⟨x, rfl, hx⟩ := h r (by simp)
    obtain ⟨xs, rfl, hxs⟩ := map_of (rs := rs) fun r hr => h r (by simp [hr])
    exact ⟨x :: xs, rfl, fun y hy => by
      rcases List.mem_cons.1 hy with rfl | hy
      · exact hx
      · exact hxs y hy⟩
theorem rowS_one {H : Heap} {v : Value} {vs : List Value} (h : RowS 1 H v (vs.map fun x => [x])) : Row H v vs := by
  rcases h.2 with ⟨h1, h2⟩ | ⟨h1, h2⟩ | ⟨b, i, c, cs, e, k, h1, h2, h3, h4, h5, h6⟩
  · exact .inl ⟨h1, List.map_eq_nil_iff.1 h2⟩
  · exact .inr (.inl ⟨h1, List.map_eq_nil_iff.1 h2⟩)
  · refine .inr (.inr ⟨b, i, c, cs, e, k, by rw [h1, List.length_map], h2, h3, h4, by rw [List.length_map] at h5; omega, fun j w hj => ?_⟩)
    have := h6 j 0 [w] w (by rw [List.getElem?_map, hj]; rfl) rfl
    rwa [Nat.mul_one, Nat.add_zero] at this
theorem lvI : leaves Try.prog 9 3 = some [3] := by kernel_rfl
theorem lvLo : leaves Try.prog 9 99 = some [3, 3, 3, 3] := by kernel_rfl
theorem datL_ints {d : Nat} {H : Heap} {v : Value} (h : DatL Try.prog (d + 2) H 29 v) : ∃ xs, Ints H v xs ∧ xs.length ≤ 9223372036854775807 ∧ ∀ x ∈ xs, inI64 x := by
  obtain ⟨rs, h1, h2, h3⟩ := datL_row un22 lvI h
  obtain ⟨xs, rfl, hx⟩ := map_of (f := fun n => [VI n]) (p := inI64) fun r hr => by
    cases h3 r hr with
    | cons a b =>
      cases b
      obtain ⟨n, rfl, hn⟩ := datL_int a
      exact ⟨n, rfl, hn⟩
  rw [List.length_map] at h2
  refine ⟨xs, rowS_one ?_, h2, hx⟩
  rw [List.map_map]
  exact h1
theorem datL_loans {d : Nat} {H : Heap} {v : Value} (h : DatL Try.prog (d + 2) H 59 v) : ∃ l : List Lo, RowS 4 H v (l.map Lol) ∧ l.length ≤ 9223372036854775807 := by
  obtain ⟨rs, h1, h2, h3⟩ := datL_row unOs lvLo h
  obtain ⟨xs, rfl, _⟩ := map_of (f := Lol) (p := fun _ => True) fun r hr => by
    cases h3 r hr with
    | cons a h =>
      cases h with
      | cons b h =>
        cases h with
        | cons c h =>
          cases h with
          | cons e h =>
            cases h
            obtain ⟨n, rfl, _⟩ := datL_int a
            obtain ⟨n2, rfl, _⟩ := datL_int b
            obtain ⟨n3, rfl, _⟩ := datL_int c
            obtain ⟨n4, rfl, _⟩ := datL_int e
            exact ⟨⟨n, n2, n3, n4⟩, rfl, trivial⟩
  rw [List.length_map] at h2
  exact ⟨xs, h1, h2⟩
theorem agIs : isAggB Try.prog 29 = some false := by kernel_rfl
theorem agLos : isAggB Try.prog 59 = some false := by kernel_rfl
theorem dat_ints {H : Heap} {v : Value} (h : DatV Try.prog H 29 v) : ∃ xs, Ints H v xs ∧ xs.length ≤ 9223372036854775807 ∧ ∀ x ∈ xs, inI64 x := by
  simp only [DatV, agIs] at h
  exact datL_ints h
theorem dat_loans {H : Heap} {v : Value} (h : DatV Try.prog H 59 v) : ∃ l : List Lo, RowS 4 H v (l.map Lol) ∧ l.length ≤ 9223372036854775807 := by
  simp only [DatV, agLos] at h
  exact datL_loans h
end Go.Proofs.Ytijimplcjaeneaa
