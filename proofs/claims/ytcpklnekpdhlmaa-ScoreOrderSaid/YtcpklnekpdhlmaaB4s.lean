
/- Blocks, meets and joins. -/
import Derived.Test.YtcpklnekpdhlmaaB3s
set_option linter.unusedVariables false
set_option linter.unusedSimpArgs false
namespace Go.Proofs.Ytcpklnekpdhlmaa
open Go.AI
theorem from_bound : ∀ (xs : List Int) (b : Int), checkFrom xs b = 0 → ∀ i, i < xs.length → 0 ≤ xs[i]! ∧ xs[i]! < 9
  | [], _, _, i, h => by simp at h
  | x :: r, b, h, i, hi => by
    rw [checkFrom] at h
    split at h
    · cases h
    split at h
    · cases h
    cases i with
    | zero => simp; omega
    | succ i => simpa using from_bound r _ h i (by simpa using hi)
theorem check_bound {xs : List Int} (h : check xs = 0) {i : Nat} (hi : i < xs.length) : 0 ≤ xs[i]! ∧ xs[i]! < 9 := from_bound xs 0 (check_from h).1 i hi
theorem chk2_of {xs ys : List Int} (hx : check xs = 0) (hy : check ys = 0) (hl : xs.length = ys.length) : chk2 xs ys = 0 := by rw [chk2, if_pos hx, if_pos hy, if_pos hl]
theorem blk_bound {xs : List Int} (h : ∀ i, i < xs.length → 0 ≤ xs[i]! ∧ xs[i]! < 9) : True := trivial

/-- A pair of numbers as one. -/
def meetL (xs ys : List Int) : List Int := List.zipWith (fun a b => a * 9 + b) xs ys
theorem meetL_length {xs ys : List Int} (hl : xs.length = ys.length) : (meetL xs ys).length = xs.length := by simp [meetL, hl]
theorem meetL_at {xs ys : List Int} (hl : xs.length = ys.length) {i : Nat} (hi : i < xs.length) : (meetL xs ys)[i]! = xs[i]! * 9 + ys[i]! := by
  rw [getElem!_pos _ i (by rw [meetL_length hl]; exact hi), getElem!_pos xs i hi, getElem!_pos ys i (by omega)]
  simp [meetL]

/-- A list that is filled up to a place. -/
def upTo (f : Nat → Int) (l : List Int) (i : Nat) : List Int := (List.range i).map f ++ l.drop i
theorem upTo_length {f : Nat → Int} {l : List Int} {i : Nat} (h : i ≤ l.length) : (upTo f l i).length = l.length := by simp [upTo]; omega
theorem upTo_set {f : Nat → Int} {l : List Int} {i : Nat} (h : i < l.length) : (upTo f l i).set i (f i) = upTo f l (i + 1) := by
  unfold upTo
  rw [List.set_append_right _ _ (by simp), List.range_succ, List.map_append]
  simp only [List.length_map, List.length_range, Nat.sub_self]
  rw [List.drop_eq_getElem_cons h, List.set_cons_zero, List.append_assoc]
  rfl
theorem upTo_get {f : Nat → Int} {l : List Int} {i : Nat} (h : i < l.length) : (upTo f l i)[i]! = l[i]! := by
  rw [getElem!_pos _ i (by rw [upTo_length (by omega)]; exact h), getElem!_pos _ i h]
  simp [upTo]
theorem upTo_all {f : Nat → Int} {l m : List Int} (hl : l.length = m.length) (h : ∀ i, i < m.length → m[i]! = f i) : upTo f l l.length = m := by
  apply List.ext_getElem
  · rw [upTo_length (Nat.le_refl _), hl]
  · intro i h1 h2
    have := h i h2
    rw [getElem!_pos _ i h2] at this
    rw [this]
    simp [upTo, List.getElem_append, h2, hl]

/-- What a function of two partitions answers. -/
def TwoR (H : Heap) (xs ys : List Int) (good : List Int → Prop) (r : Value) (H' : Heap) : Prop :=
  if chk2 xs ys = 0 then ∃ u l, r = .tuple #[u, .int .i64 0] ∧ good l ∧ Own 3 H' u (l.map VI) H.n else r = .tuple #[.slice none 0 0, .int .i64 (chk2 xs ys)]

end Go.Proofs.Ytcpklnekpdhlmaa
