
/- Parties that are turned. -/
import Derived.Test.YtlamceokhbigaaaTdg
set_option linter.unusedVariables false
set_option linter.unusedSimpArgs false
namespace Go.Proofs.Ytlamceokhbigaaa
open Go.AI
/-- All of so many numbers, each once. -/
structure Full (n : Nat) (o : List Int) : Prop where
  nd : o.Nodup
  r : ∀ x ∈ o, 0 ≤ x ∧ x < n
  l : o.length = n
theorem Full.pre {n : Nat} {o : List Int} (h : Full n o) : Pre n o := ⟨h.nd, h.r, by have := h.l; omega⟩
theorem Full.all {n : Nat} {o : List Int} (h : Full n o) {x : Nat} (hx : x < n) : (x : Int) ∈ o := by
  by_cases hm : (x : Int) ∈ o
  · exact hm
  · exfalso
    have h1 : ((x : Int) :: o).Nodup := List.nodup_cons.2 ⟨hm, h.nd⟩
    have h2 : ((x : Int) :: o) ⊆ (List.range n).map (fun (k : Nat) => (k : Int)) := by
      intro y hy
      rw [List.mem_map]
      rcases List.mem_cons.1 hy with e | e
      · exact ⟨x, List.mem_range.2 hx, e.symm⟩
      · have := h.r y e
        exact ⟨y.toNat, List.mem_range.2 (by omega), by omega⟩
    have := h1.length_le_of_subset h2
    rw [List.length_cons, List.length_map, List.length_range, h.l] at this
    omega
theorem fillL_mem {n : Nat} : ∀ {r : Nat} {pre o : List Int}, pre.length + r = n → Full n o → pre <+: o → o ∈ fillL n r pre
  | 0, pre, o, hl, ho, hpre => by
    have : pre = o := hpre.eq_of_length (by rw [ho.l]; omega)
    simp [fillL, this]
  | r + 1, pre, o, hl, ho, hpre => by
    obtain ⟨t, rfl⟩ := hpre
    cases t with
    | nil => have := ho.l; simp at this; omega
    | cons y t =>
      have hy := ho.r y (by simp)
      simp only [fillL, List.mem_flatMap]
      refine ⟨y.toNat, List.mem_range.2 (by omega), ?_⟩
      have hy' : ((y.toNat : Nat) : Int) = y := by omega
      rw [hy']
      have hn : y ∉ pre := fun hm => (List.nodup_append.1 ho.nd).2.2 y hm y (by simp) rfl
      rw [if_neg hn]
      exact fillL_mem (by rw [List.length_append, List.length_singleton]; omega) ho ⟨t, by simp⟩
theorem mem_orders {n : Nat} {o : List Int} : o ∈ fillL n n [] ↔ Full n o := by
  constructor
  · intro h
    have := fillL_pre Pre.nil (by simp) h
    exact ⟨this.1.nd, this.1.r, this.2⟩
  · exact fun h => fillL_mem (by simp) h (List.nil_prefix)
theorem mem_okL {gs : List Gu} {rs : List Ru} {o : List Int} : o ∈ okL gs rs ↔ Full gs.length o ∧ okB gs rs o = true := by
  unfold okL
  rw [List.mem_filter, mem_orders]
theorem map_at {α β : Type} [Inhabited α] [Inhabited β] {f : α → β} {l : List α} {i : Nat} (h : i < l.length) : (l.map f)[i]! = f l[i]! := by
  rw [getElem!_pos (l.map f) i (by rw [List.length_map]; exact h), getElem!_pos l i h, List.getElem_map]
end Go.Proofs.Ytlamceokhbigaaa

