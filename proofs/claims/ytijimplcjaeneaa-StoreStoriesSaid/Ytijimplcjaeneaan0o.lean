
/- Who holds on a day: by gaps. -/
import Derived.Test.Ytijimplcjaeneaam3o
import Derived.Test.YtijimplcjaeneaaO3
import Derived.Test.Ytijimplcjaeneaal1o
set_option linter.unusedVariables false
set_option linter.unusedSimpArgs false
namespace Go.Proofs.Ytijimplcjaeneaa
open Go.AI
def GapJ (d : Int) (E : List Ev) (j : Nat) : Prop := E[j]!.lo ≤ d ∧ (j + 1 = E.length ∨ d < E[j + 1]!.hi)
instance {d : Int} {E : List Ev} {j : Nat} : Decidable (GapJ d E j) := by unfold GapJ; exact inferInstance
/-- Later and later. -/
def Mono : List Ev → Prop
  | [] => True
  | e :: t => (∀ f ∈ t, e.lo ≤ f.lo) ∧ Mono t
theorem gathK_gap {d x : Int} : ∀ {E : List Ev} {h : Int}, Mono E → (x ∈ gathK d [] h E ↔ (E = [] ∧ x = h) ∨ (E ≠ [] ∧ d < E[0]!.hi ∧ x = h) ∨ ∃ j, j < E.length ∧ GapJ d E j ∧ x = E[j]!.o)
  | [], h, _ => by
    show x ∈ addK [] h ↔ _
    rw [addK_mem]
    constructor
    · rintro (h | h)
      · cases h
      · exact .inl ⟨rfl, h⟩
    · rintro (⟨_, h⟩ | ⟨h, _⟩ | ⟨j, h, _⟩)
      · exact .inr h
      · exact absurd rfl h
      · cases h
  | e :: t, h, hm => by
    have ih := gathK_gap (d := d) (x := x) (E := t) (h := e.o) hm.2
    have hk : x ∈ (if d < e.hi then addK [] h else []) ↔ d < e.hi ∧ x = h := by
      split
      · rename_i hd
        rw [addK_mem]
        exact ⟨(fun h => (by rcases h with h | h; exact absurd h (by simp); exact ⟨hd, h⟩)), fun h => .inr h.2⟩
      · rename_i hd
        exact ⟨fun h => (by cases h), fun h => absurd h.1 hd⟩
    have hs : ∀ j, (e :: t)[j + 1]! = t[j]! := fun j => by
      by_cases hj : j < t.length
      · rw [getElem!_pos _ _ (by simp; omega), getElem!_pos t j hj, List.getElem_cons_succ]
      · rw [getElem!_neg _ _ (by simp; omega), getElem!_neg t j hj]
    simp only [gathK]
    by_cases hd : d < e.lo
    · rw [if_pos hd, hk]
      constructor
      · rintro ⟨h1, h2⟩; exact .inr (.inl ⟨by simp, h1, h2⟩)
      · rintro (⟨h1, _⟩ | ⟨_, h1, h2⟩ | ⟨j, h1, ⟨h2, _⟩, _⟩)
        · cases h1
        · exact ⟨h1, h2⟩
        · exfalso
          cases j with
          | zero => exact absurd h2 (by show ¬ e.lo ≤ d; omega)
          | succ j =>
            rw [hs] at h2
            have hj : j < t.length := by simpa using h1
            have := hm.1 t[j]! (by rw [getElem!_pos t j hj]; exact List.getElem_mem _)
            omega
    · rw [if_neg hd, gathK_mem, hk, ih]
      constructor
      · rintro (⟨h1, h2⟩ | ⟨rfl, h2⟩ | ⟨h0, h1, h2⟩ | ⟨j, h1, ⟨h2, h3⟩, h4⟩)
        · exact .inr (.inl ⟨by simp, h1, h2⟩)
        · exact .inr (.inr ⟨0, by simp, ⟨by show e.lo ≤ d; omega, .inl rfl⟩, h2⟩)
        · exact .inr (.inr ⟨0, by simp, ⟨by show e.lo ≤ d; omega, .inr (by rw [hs]; exact h1)⟩, h2⟩)
        · exact .inr (.inr ⟨j + 1, by simpa using h1, ⟨by rw [hs]; exact h2, (by rw [hs]; rcases h3 with h3 | h3; exact .inl (by rw [List.length_cons, h3]); exact .inr h3)⟩, by rw [hs]; exact h4⟩)
      · rintro (⟨h1, _⟩ | ⟨_, h1, h2⟩ | ⟨j, h1, ⟨h2, h3⟩, h4⟩)
        · cases h1
        · exact .inl ⟨h1, h2⟩
        · cases j with
          | zero =>
            by_cases ht : t = []
            · exact .inr (.inl ⟨ht, h4⟩)
            · rcases h3 with h3 | h3
              · exfalso; apply ht; apply List.eq_nil_of_length_eq_zero; rw [List.length_cons] at h3; omega
              · exact .inr (.inr (.inl ⟨ht, by rw [hs] at h3; exact h3, h4⟩))
          | succ j =>
            rw [hs] at h2 h3 h4
            exact .inr (.inr (.inr ⟨j, by simpa using h1, ⟨h2, (by rcases h3 with h3 | h3; exact .inl (by simpa using h3); exact .inr h3)⟩, h4⟩))
theorem mono_map : ∀ {E F : List Ev}, E.map (·.lo) = F.map (·.lo) → Mono F → Mono E
  | [], _, _, _ => trivial
  | e :: t, [], h, _ => by cases h
  | e :: t, f :: r, h, hm => by
    simp only [List.map_cons, List.cons.injEq] at h
    refine ⟨fun x hx => ?_, mono_map h.2 hm.2⟩
    obtain ⟨y, hy, hxy⟩ := List.mem_map.1 (show x.lo ∈ r.map (·.lo) by rw [← h.2]; exact List.mem_map_of_mem hx)
    have := hm.1 y hy
    omega
theorem incr_mono : ∀ {E : List Ev}, Incr E → Mono E
  | [], _ => trivial
  | [a], _ => ⟨fun x hx => (by cases hx), trivial⟩
  | a :: f :: t, h => by
    have ih := incr_mono h.2
    have h1 := h.1
    refine ⟨fun x hx => ?_, ih⟩
    rcases List.mem_cons.1 hx with rfl | hx
    · omega
    · have := ih.1 x hx; omega
theorem evs_mono {mk lo hi : Int} {ls : List Lk} {o : List Int} : Mono (evsL mk lo hi ls o) := mono_map downL_lo (incr_mono (upL_incr (a := ⟨-1, mk, lo, hi⟩)))
/-- What one story marks. -/
def markJ (d : Int) (M : List Int) (E : List Ev) : Nat → List Int
  | 0 => if d < E[0]!.hi then -1 :: M else M
  | j + 1 => if GapJ d E j then E[j]!.o :: markJ d M E j else markJ d M E j
theorem markJ_mem {d x : Int} {M : List Int} {E : List Ev} : ∀ {n : Nat}, x ∈ markJ d M E n ↔ x ∈ M ∨ (d < E[0]!.hi ∧ x = -1) ∨ ∃ j, j < n ∧ GapJ d E j ∧ x = E[j]!.o
  | 0 => by
    unfold markJ
    split
    · rename_i h
      rw [List.mem_cons]
      constructor
      · rintro (h1 | h1)
        · exact .inr (.inl ⟨h, h1⟩)
        · exact .inl h1
      · rintro (h1 | ⟨_, h1⟩ | ⟨j, h1, _⟩)
        · exact .inr h1
        · exact .inl h1
        · omega
    · rename_i h
      constructor
      · intro h1; exact .inl h1
      · rintro (h1 | ⟨h1, _⟩ | ⟨j, h1, _⟩)
        · exact h1
        · exact absurd h1 h
        · omega
  | n + 1 => by
    have ih := markJ_mem (d := d) (x := x) (M := M) (E := E) (n := n)
    have key : (x ∈ markJ d M E (n + 1)) ↔ (x ∈ markJ d M E n ∨ (GapJ d E n ∧ x = E[n]!.o)) := by
      rw [markJ]
      split
      · rename_i h
        rw [List.mem_cons]
        exact ⟨fun h1 => (by rcases h1 with h1 | h1; exact .inr ⟨h, h1⟩; exact .inl h1), fun h1 => (by rcases h1 with h1 | h1; exact .inr h1; exact .inl h1.2)⟩
      · rename_i h
        exact ⟨.inl, fun h1 => (by rcases h1 with h1 | h1; exact h1; exact absurd h1.1 h)⟩
    rw [key, ih]
    constructor
    · rintro ((h1 | h1 | ⟨j, h1, h2⟩) | h1)
      · exact .inl h1
      · exact .inr (.inl h1)
      · exact .inr (.inr ⟨j, by omega, h2⟩)
      · exact .inr (.inr ⟨n, by omega, h1⟩)
    · rintro (h1 | h1 | ⟨j, h1, h2⟩)
      · exact .inl (.inl h1)
      · exact .inl (.inr (.inl h1))
      · by_cases hj : j = n
        · subst hj; exact .inr h2
        · exact .inl (.inr (.inr ⟨j, by omega, h2⟩))
def markS (mk lo hi : Int) (ls : List Lk) (d : Int) (S : List (List Int)) : List Int := S.foldl (fun M o => markJ d M (evsL mk lo hi ls o) (o.length + 1)) []
theorem mark_fold {mk lo hi d x : Int} {ls : List Lk} : ∀ {S : List (List Int)} {M : List Int}, x ∈ S.foldl (fun M o => markJ d M (evsL mk lo hi ls o) (o.length + 1)) M ↔ x ∈ M ∨ ∃ o ∈ S, x ∈ gathK d [] (-1) (evsL mk lo hi ls o)
  | [], M => by simp
  | o :: t, M => by
    have hg := gathK_gap (d := d) (x := x) (h := -1) (evs_mono (mk := mk) (lo := lo) (hi := hi) (ls := ls) (o := o))
    have hl := evs_len (mk := mk) (lo := lo) (hi := hi) (ls := ls) (o := o)
    have hne : evsL mk lo hi ls o ≠ [] := fun h => by rw [h] at hl; simp at hl
    have h1 : x ∈ markJ d M (evsL mk lo hi ls o) (o.length + 1) ↔ x ∈ M ∨ x ∈ gathK d [] (-1) (evsL mk lo hi ls o) := by
      rw [markJ_mem, hg, hl]
      constructor
      · rintro (h | h | h)
        · exact .inl h
        · exact .inr (.inr (.inl ⟨hne, h⟩))
        · exact .inr (.inr (.inr h))
      · rintro (h | h | h | h)
        · exact .inl h
        · exact absurd h.1 hne
        · exact .inr (.inl h.2)
        · exact .inr (.inr h)
    rw [List.foldl_cons, mark_fold, h1]
    simp only [List.mem_cons, exists_eq_or_imp, or_assoc]
theorem markS_mem {mk lo hi d x : Int} {ls : List Lk} {S : List (List Int)} : x ∈ markS mk lo hi ls d S ↔ x ∈ keysF mk lo hi ls d S := by
  unfold markS
  rw [mark_fold, keysF_mem]
  simp
/-- The table that the marks stand for, and the list of it. -/
def tabM (M : List Int) : List Bool := (List.range 21).map fun i => decide (((i : Nat) : Int) - 1 ∈ M)
theorem tabM_len {M : List Int} : (tabM M).length = 21 := by simp [tabM]
theorem tabM_at {M : List Int} {i : Nat} (hi : i < 21) : (tabM M)[i]! = decide ((i : Int) - 1 ∈ M) := by
  unfold tabM
  rw [getElem!_pos _ i (by simpa using hi), List.getElem_map, List.getElem_range]
theorem tabM_set {M : List Int} {x : Int} (h0 : -1 ≤ x) (h1 : x ≤ 19) : (tabM M).set (x + 1).toNat true = tabM (x :: M) := by
  apply List.ext_getElem
  · simp [tabM]
  · intro i h2 h3
    rw [List.length_set, tabM_len] at h2
    rw [List.getElem_set]
    have e1 := tabM_at (M := x :: M) h2
    have e2 := tabM_at (M := M) h2
    rw [getElem!_pos _ _ (by rw [tabM_len]; exact h2)] at e1 e2
    rw [e1]
    split
    · rename_i he
      rw [decide_eq_true]
      rw [List.mem_cons]; left; omega
    · rename_i he
      rw [e2]
      congr 1
      rw [List.mem_cons]
      apply propext
      constructor
      · intro h; exact .inr h
      · rintro (h | h)
        · exfalso; omega
        · exact h
theorem tabM_nil : tabM [] = List.replicate 21 false := by decide
theorem tab_list {mk lo hi d : Int} {ls : List Lk} : ((List.range 21).filter fun i => (tabM (markS mk lo hi ls d (ordersL mk lo ls)))[i]!).map (fun i => ((i : Nat) : Int) - 1) = hoL mk lo hi ls d := by
  unfold hoL
  rw [List.filter_map]
  congr 1
  apply List.filter_congr
  intro i hi
  rw [tabM_at (List.mem_range.1 hi)]
  simp only [Function.comp]
  congr 1
  rw [markS_mem]
end Go.Proofs.Ytijimplcjaeneaa
