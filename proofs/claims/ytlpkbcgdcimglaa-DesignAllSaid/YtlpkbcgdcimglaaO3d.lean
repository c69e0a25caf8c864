
/- All ways, one by one: what the program's tables say, by the kernel. -/
import Derived.Test.YtlpkbcgdcimglaaO2d
set_option linter.unusedVariables false
set_option linter.unusedSimpArgs false
namespace Go.Proofs.Ytlpkbcgdcimglaa
open Go.AI
set_option linter.unusedVariables false
set_option linter.unusedSimpArgs false
def tabK (F : Nat → List Int → List Int) : Nat → List Int → List Int
  | 0, o => o
  | k + 1, o => F k (tabK F k o)
/-- The table of all courses, each with how often it comes. -/
def tabC : Nat → List Int → List Int → Int → List Int → List Int
  | 0, c, _, m, o => o.set (rkC c) (o[rkC c]! + m)
  | f + 1, c, left, m, o => tabK (fun k o => if left[k]! = 0 then o else tabC f (c ++ [(k : Int)]) (left.set k (left[k]! - 1)) (m * left[k]!) o) left.length o
theorem tab_eq : ∀ (f : Nat) (c left : List Int) (m : Int) (o : List Int), tabC f c left m o = addL o (fun r => m * cw f c left r)
  | 0, c, left, m, o => by
    rw [tabC, addL_set]
    refine addL_congr fun r _ => ?_
    rw [cw]
    by_cases e : rkC c = r
    · rw [if_pos e, if_pos e]; simp
    · rw [if_neg e, if_neg e]; simp
  | f + 1, c, left, m, o => by
    have h : ∀ n, tabK (fun k o => if left[k]! = 0 then o else tabC f (c ++ [(k : Int)]) (left.set k (left[k]! - 1)) (m * left[k]!) o) n o = addL o (fun r => m * sumW (fun k => left[k]! * cw f (c ++ [(k : Int)]) (left.set k (left[k]! - 1)) r) n) := by
      intro n
      induction n with
      | zero => rw [tabK, addL_zero (fun r _ => by simp [sumW])]
      | succ n ih =>
        rw [tabK, ih]
        by_cases h0 : left[n]! = 0
        · rw [if_pos h0]
          refine addL_congr fun r _ => ?_
          rw [sumW, h0]; simp
        · rw [if_neg h0, tab_eq f, addL_add]
          refine addL_congr fun r _ => ?_
          rw [sumW, Int.mul_add, Int.mul_assoc]
    rw [tabC, h]
    refine addL_congr fun r _ => ?_
    rw [cw]
def lists4 : Nat → List (List Int)
  | 0 => [[]]
  | n + 1 => (lists4 n).flatMap fun l => [1 :: l, 2 :: l, 3 :: l, 4 :: l]
theorem lists4_mem : ∀ (xs : List Int), (∀ i, i < xs.length → 1 ≤ xs[i]! ∧ xs[i]! ≤ 4) → xs ∈ lists4 xs.length
  | [], _ => by simp [lists4]
  | x :: l, h => by
    have h0 : 1 ≤ x ∧ x ≤ 4 := h 0 (by simp)
    have ih := lists4_mem l fun i hi => by have := h (i + 1) (by simp; omega); rwa [cons_at hi] at this
    rw [List.length_cons, lists4, List.mem_flatMap]
    refine ⟨l, ih, ?_⟩
    have : x = 1 ∨ x = 2 ∨ x = 3 ∨ x = 4 := by omega
    rcases this with rfl | rfl | rfl | rfl <;> simp
def eqI : List Int → List Int → Bool
  | [], [] => true
  | x :: l, y :: m => decide (x = y) && eqI l m
  | _, _ => false
theorem eqI_eq : ∀ {l m : List Int}, eqI l m = true → l = m
  | [], [], _ => rfl
  | x :: l, y :: m, h => by
    simp only [eqI, Bool.and_eq_true, decide_eq_true_eq] at h
    rw [h.1, eqI_eq h.2]
  | [], _ :: _, h => by cases h
  | _ :: _, [], h => by cases h
def allNn : List Int → Bool
  | [] => true
  | x :: l => decide (0 ≤ x) && (decide (x ≤ 3000) && allNn l)
theorem allNn_at : ∀ {l : List Int}, allNn l = true → ∀ i, i < l.length → 0 ≤ l[i]! ∧ l[i]! ≤ 3000
  | [], _, i, hi => by simp at hi
  | x :: l, h, 0, _ => by
    simp only [allNn, Bool.and_eq_true, decide_eq_true_eq] at h
    exact ⟨h.1, h.2.1⟩
  | x :: l, h, i + 1, hi => by
    simp only [allNn, Bool.and_eq_true, decide_eq_true_eq] at h
    have hl : i < l.length := by simpa using hi
    rw [cons_at hl]
    exact allNn_at h.2.2 i hl
def insI (x : Int) : List Int → List Int
  | [] => [x]
  | y :: l => bif decide (x ≤ y) then x :: y :: l else y :: insI x l
def isortI : List Int → List Int
  | [] => []
  | x :: l => insI x (isortI l)
theorem insI_perm (x : Int) : ∀ l, (insI x l).Perm (x :: l)
  | [] => .refl _
  | y :: l => by
    rw [insI]
    cases decide (x ≤ y) with
    | true => exact .refl _
    | false => exact ((insI_perm x l).cons y).trans (.swap x y l)
theorem isortI_perm : ∀ l, (isortI l).Perm l
  | [] => .refl _
  | x :: l => (insI_perm x (isortI l)).trans ((isortI_perm l).cons x)
/-- The sum, for stocks in order; the table, for few ways. -/
def chkS (bs : List (List Int)) (xs : List Int) (d : Nat) : Bool :=
  !(eqI (isortI xs) xs) || (decide (sumL xs < d) || decide (sumL (bs.map fun b => waysN b 9 (pad xs)) = drawnN (sumL xs) d))
def chkT (bs : List (List Int)) (xs : List Int) (d : Nat) : Bool :=
  decide (sumL xs < d) || (decide (3000 < drawnN (sumL xs) d) || (allNn (bs.map fun b => waysN b 9 (pad xs)) && eqI (tabC d [] xs 1 (List.replicate bs.length 0)) (bs.map fun b => waysN b 9 (pad xs))))
theorem isort_twice : ((List.range 5).all fun n => (lists4 n).all fun xs => eqI (isortI (isortI xs)) (isortI xs)) = true := by decide +kernel
theorem lists4_perm {xs ys : List Int} (h : xs.Perm ys) (he : ∀ i, i < xs.length → 1 ≤ xs[i]! ∧ xs[i]! ≤ 4) : ys ∈ lists4 xs.length := by
  rw [h.length_eq]
  refine lists4_mem ys fun i hi => ?_
  obtain ⟨t, ht, hte⟩ := mem_at.1 (h.mem_iff.2 (mem_at.2 ⟨i, hi, rfl⟩))
  rw [← hte]; exact he t ht
theorem outL_all {bs : List (List Int)} {W : List Int → Int} : outL bs W bs.length = bs.map W :=
  List.ext_getElem (by simp [outL]) fun i h1 h2 => by
    have h3 : i < bs.length := by simpa [outL] using h1
    simp only [outL, List.getElem_map, List.getElem_range]
    rw [if_pos h3, getElem!_pos bs i h3]
theorem shapesL_map {xs : List Int} {n : Nat} : shapesL xs n = (bsL n).map fun b => waysN b 9 (pad xs) := outL_all
def chkD (d : Nat) : Bool := (List.range 5).all fun n => (lists4 n).all fun xs => chkS (bsL d) xs d && chkT (bsL d) xs d
theorem chk_1 : chkD 1 = true := by decide +kernel
theorem chk_2 : chkD 2 = true := by decide +kernel
end Go.Proofs.Ytlpkbcgdcimglaa
