
/- Parties that are turned. -/
import Derived.Test.YtlamceokhbigaaaTdg
set_option linter.unusedVariables false
set_option linter.unusedSimpArgs false
namespace Go.Proofs.Ytlamceokhbigaaa
open Go.AI
/-- All of so many numbers, each once. -/
structure Full (n : Nat) (o : List Int) : Prop where
  nd : o.Nodup
  r : ∀ x ∈ o, 0 ≤ x ∧ x < n
  l : o.length = n
theorem Full.pre {n : Nat} {o : List Int} (h : Full n o) : Pre n o := ⟨h.nd, h.r, by have := h.l; omega⟩
theorem Full.all {n : Nat} {o : List Int} (h : Full n o) {x : Nat} (hx : x < n) : (x : Int) ∈ o := by
  by_cases hm : (x : Int) ∈ o
  · exact hm
  · exfalso
    have h1 : ((x : Int) :: o).Nodup := List.nodup_cons.2 ⟨hm, h.nd⟩
    have h2 : ((x : Int) :: o) ⊆ (List.range n).map (fun (k : Nat) => (k : Int)) := by
      intro y hy
      rw [List.mem_map]
      rcases List.mem_cons.1 hy with e | e
      · exact ⟨x, List.mem_range.2 hx, e.symm⟩
      · have := h.r y e
        exact ⟨y.toNat, List.mem_range.2 (by omega), by omega⟩
    have := h1.length_le_of_subset h2
    rw [List.length_cons, List.length_map, List.length_range, h.l] at this
    omega
theorem fillL_mem {n : Nat} : ∀ {r : Nat} {pre o : List Int}, pre.length + r = n → Full n o → pre <+: o → o ∈ fillL n r pre
  | 0, pre, o, hl, ho, hpre => by
    have : pre = o := hpre.eq_of_length (by rw [ho.l]; omega)
    simp [fillL, this]
  | r + 1, pre, o, hl, ho, hpre => by
    obtain ⟨t, rfl⟩ := hpre
    cases t with
    | nil => have := ho.l; simp at this; omega
    | cons y t =>
      have hy := ho.r y (by simp)
      simp only [fillL, List.mem_flatMap]
      refine ⟨y.toNat, List.mem_range.2 (by omega), ?_⟩
      have hy' : ((y.toNat : Nat) : Int) = y := by omega
      rw [hy']
      have hn : y ∉ pre := fun hm => (List.nodup_append.1 ho.nd).2.2 y hm y (by simp) rfl
      rw [if_neg hn]
      exact fillL_mem (by rw [List.length_append, List.length_singleton]; omega) ho ⟨t, by simp⟩
theorem fillL_pfx {n : Nat} : ∀ {r : Nat} {pre o : List Int}, o ∈ fillL n r pre → pre <+: o
  | 0, pre, o, ho => by
    simp only [fillL, List.mem_singleton] at ho
    subst ho
    exact List.prefix_refl _
  | r + 1, pre, o, ho => by
    simp only [fillL, List.mem_flatMap] at ho
    obtain ⟨x, hx, ho⟩ := ho
    split at ho
    · cases ho
    · exact (List.prefix_append _ _).trans (fillL_pfx ho)
theorem fillL_nodup {n : Nat} : ∀ {r : Nat} {pre : List Int}, (fillL n r pre).Nodup
  | 0, pre => by simp [fillL]
  | r + 1, pre => by
    unfold fillL List.Nodup
    rw [List.pairwise_flatMap]
    refine ⟨fun x _ => ?_, List.Pairwise.imp ?_ (List.nodup_range (n := n))⟩
    · split
      · exact List.Pairwise.nil
      · exact fillL_nodup
    · intro a b hab x hx y hy
      split at hx
      · cases hx
      · split at hy
        · cases hy
        · intro e
          subst e
          have h1 := fillL_pfx hx
          have h2 := fillL_pfx hy
          have h3 := (List.prefix_of_prefix_length_le h1 h2 (by simp)).eq_of_length (by simp)
          have h4 := List.append_cancel_left h3
          simp at h4
          exact hab (by omega)
theorem mem_orders {n : Nat} {o : List Int} : o ∈ fillL n n [] ↔ Full n o := by
  constructor
  · intro h
    have := fillL_pre Pre.nil (by simp) h
    exact ⟨this.1.nd, this.1.r, this.2⟩
  · exact fun h => fillL_mem (by simp) h (List.nil_prefix)
theorem mem_okL {gs : List Gu} {rs : List Ru} {o : List Int} : o ∈ okL gs rs ↔ Full gs.length o ∧ okB gs rs o = true := by
  unfold okL
  rw [List.mem_filter, mem_orders]
theorem okL_nodup {gs : List Gu} {rs : List Ru} : (okL gs rs).Nodup := List.Pairwise.sublist List.filter_sublist fillL_nodup
theorem map_at {α β : Type} [Inhabited α] [Inhabited β] {f : α → β} {l : List α} {i : Nat} (h : i < l.length) : (l.map f)[i]! = f l[i]! := by
  rw [getElem!_pos (l.map f) i (by rw [List.length_map]; exact h), getElem!_pos l i h, List.getElem_map]
/-- What the best one is. -/
theorem bestF_some {gs : List Gu} {rs : List Ru} : ∀ {F : List (List Int)} {b : List Int} {p : Int}, p = prO gs rs b → ∃ b' p', F.foldl (bstep gs rs) (some (b, p)) = some (b', p') ∧ p' = prO gs rs b' ∧ (b' = b ∨ b' ∈ F) ∧ p' ≤ p ∧ ∀ o ∈ F, p' ≤ prO gs rs o
  | [], b, p, hp => ⟨b, p, rfl, hp, .inl rfl, by omega, by simp⟩
  | o :: F, b, p, hp => by
    rw [List.foldl_cons]
    by_cases c : prO gs rs o < p
    · obtain ⟨b', p', e, h1, h2, h3, h4⟩ := bestF_some (gs := gs) (rs := rs) (F := F) (b := o) (p := prO gs rs o) rfl
      refine ⟨b', p', by rw [show bstep gs rs (some (b, p)) o = some (o, prO gs rs o) by simp only [bstep]; rw [if_pos c]]; exact e, h1, ?_, by omega, fun q hq => ?_⟩
      · rcases h2 with h2 | h2
        · exact .inr (by rw [h2]; simp)
        · exact .inr (List.mem_cons_of_mem _ h2)
      · rcases List.mem_cons.1 hq with e2 | e2
        · rw [e2]; exact h3
        · exact h4 q e2
    · obtain ⟨b', p', e, h1, h2, h3, h4⟩ := bestF_some (gs := gs) (rs := rs) (F := F) (b := b) (p := p) hp
      refine ⟨b', p', by rw [show bstep gs rs (some (b, p)) o = some (b, p) by simp only [bstep]; rw [if_neg c]]; exact e, h1, ?_, h3, fun q hq => ?_⟩
      · rcases h2 with h2 | h2
        · exact .inl h2
        · exact .inr (List.mem_cons_of_mem _ h2)
      · rcases List.mem_cons.1 hq with e2 | e2
        · rw [e2]; omega
        · exact h4 q e2
theorem bestF_is {gs : List Gu} {rs : List Ru} {F : List (List Int)} : (F = [] ∧ bestF gs rs F = none) ∨ ∃ b, bestF gs rs F = some (b, prO gs rs b) ∧ b ∈ F ∧ ∀ o ∈ F, prO gs rs b ≤ prO gs rs o := by
  cases F with
  | nil => exact .inl ⟨rfl, rfl⟩
  | cons o F =>
    obtain ⟨b', p', e, h1, h2, h3, h4⟩ := bestF_some (gs := gs) (rs := rs) (F := F) (b := o) (p := prO gs rs o) rfl
    subst h1
    refine .inr ⟨b', e, ?_, fun q hq => ?_⟩
    · rcases h2 with h2 | h2
      · rw [h2]; simp
      · exact List.mem_cons_of_mem _ h2
    · rcases List.mem_cons.1 hq with e2 | e2
      · rw [e2]; exact h3
      · exact h4 q e2
end Go.Proofs.Ytlamceokhbigaaa

