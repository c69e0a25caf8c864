
/- Joins; three partitions. -/
import Derived.Test.YtcpklnekpdhlmaaB4s
set_option linter.unusedVariables false
set_option linter.unusedSimpArgs false
namespace Go.Proofs.Ytcpklnekpdhlmaa
open Go.AI
theorem rel_step_eq {l : List Int} {a b : Int} {i : Nat} (h : i < l.length) (he : l[i]! = a) : (upTo (fun j => (rel l a b)[j]!) l i).set i b = upTo (fun j => (rel l a b)[j]!) l (i + 1) := by
  have := upTo_set (f := fun j => (rel l a b)[j]!) h
  simp only [rel_at h, if_pos he] at this
  exact this
theorem rel_step_ne {l : List Int} {a b : Int} {i : Nat} (h : i < l.length) (he : ¬ l[i]! = a) : upTo (fun j => (rel l a b)[j]!) l i = upTo (fun j => (rel l a b)[j]!) l (i + 1) := by
  have := upTo_set (f := fun j => (rel l a b)[j]!) h
  rw [← this]
  simp only [rel_at h, if_neg he]
  apply List.ext_getElem
  · simp
  · intro j h1 h2
    rw [List.getElem_set]
    split
    · rename_i hj
      subst hj
      rw [← upTo_get (f := fun j => (rel l a b)[j]!) h, getElem!_pos (upTo (fun j => (rel l a b)[j]!) l i) i h1]
    · rfl

/-- What holds while a list is joined: all pairs before a place have been seen to. -/
structure Joining (xs ys m : List Int) (i j : Int) : Prop where
  len : m.length = xs.length
  fine : Fine xs m
  least : ∀ t, Fine xs t → Fine ys t → Fine m t
  seen : ∀ a b : Nat, b < a → ((a : Int) < i ∨ ((a : Int) = i ∧ (b : Int) < j)) → ys[a]! = ys[b]! → m[a]! = m[b]!
theorem Joining.isJoin {xs ys m : List Int} {i j : Int} (h : Joining xs ys m i j) (hl : xs.length = ys.length) (hi : (ys.length : Int) ≤ i) : IsJoin xs ys m :=
  ⟨h.len, h.fine, fun a b hab ha he => h.seen a b hab (.inl (by omega)) he, h.least⟩
theorem Joining.skip {xs ys m : List Int} {i j : Int} (h : Joining xs ys m i j) (hi : 0 ≤ i) (hj : 0 ≤ j) (hne : ¬ ys[i.toNat]! = ys[j.toNat]!) : Joining xs ys m i (j + 1) :=
  ⟨h.len, h.fine, h.least, fun a b hab hc he => by
    by_cases hb : (a : Int) < i ∨ ((a : Int) = i ∧ (b : Int) < j)
    · exact h.seen a b hab hb he
    · have h1 : a = i.toNat := by omega
      have h2 : b = j.toNat := by omega
      subst h1; subst h2; exact absurd he hne⟩
theorem Joining.join {xs ys m : List Int} {i j : Int} (h : Joining xs ys m i j) (hl : xs.length = ys.length) (hi : 0 ≤ i) (hil : i < ys.length) (hj : 0 ≤ j) (hji : j < i) (he : ys[i.toNat]! = ys[j.toNat]!) : Joining xs ys (rel m m[i.toNat]! m[j.toNat]!) i (j + 1) := by
  have hlm := h.len
  refine ⟨by rw [rel_length, h.len], h.fine.trans h.len.symm (fine_rel _ _ _), fun t h1 h2 => rel_fine (by omega) (by omega) (h.least t h1 h2) (h2.all (by omega) (by omega) he), fun a b hab hc he' => ?_⟩
  have hf := fine_rel m m[i.toNat]! m[j.toNat]!
  by_cases hb : (a : Int) < i ∨ ((a : Int) = i ∧ (b : Int) < j)
  · exact hf.all (by omega) (by omega) (h.seen a b hab hb he')
  · have h1 : a = i.toNat := by omega
    have h2 : b = j.toNat := by omega
    subst h1; subst h2
    rw [rel_at (by omega), rel_at (by omega), if_pos rfl]
    split <;> rfl
theorem Joining.next {xs ys m : List Int} {i j : Int} (h : Joining xs ys m i j) (hj : j = i) : Joining xs ys m (i + 1) 0 :=
  ⟨h.len, h.fine, h.least, fun a b hab hc he => h.seen a b hab (by omega) he⟩

end Go.Proofs.Ytcpklnekpdhlmaa
