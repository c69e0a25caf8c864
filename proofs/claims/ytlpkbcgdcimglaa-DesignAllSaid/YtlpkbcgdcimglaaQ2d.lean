
/- Stocks, courses, what is left: as numbers. -/
import Derived.Test.YtlpkbcgdcimglaaQ1bd
set_option linter.unusedVariables false
set_option linter.unusedSimpArgs false
namespace Go.Proofs.Ytlpkbcgdcimglaa
open Go.AI
set_option linter.unusedVariables false
set_option linter.unusedSimpArgs false
def sumL : List Int → Int
  | [] => 0
  | x :: r => x + sumL r
theorem sumL_snoc : ∀ (l : List Int) (x : Int), sumL (l ++ [x]) = sumL l + x
  | [], x => by simp [sumL]
  | y :: l, x => by rw [List.cons_append, sumL, sumL_snoc l x, sumL]; omega
theorem sumL_set : ∀ (l : List Int) (i : Nat) (y : Int), i < l.length → sumL (l.set i y) = sumL l - l[i]! + y
  | x :: l, 0, y, _ => by simp [sumL]; omega
  | x :: l, i + 1, y, h => by
    have h' : i < l.length := by simpa using h
    have e : (x :: l)[i + 1]! = l[i]! := by rw [getElem!_pos (x :: l) (i + 1) h, getElem!_pos l i h']; rfl
    rw [List.set_cons_succ, sumL, sumL, sumL_set l i y h', e]; omega
theorem take_one {l : List Int} {i : Nat} (h : i < l.length) : l.take (i + 1) = l.take i ++ [l[i]!] := by
  rw [List.take_add_one, List.getElem?_eq_getElem h, getElem!_pos l i h]; rfl
theorem cons_at {x : Int} {l : List Int} {i : Nat} (h : i < l.length) : (x :: l)[i + 1]! = l[i]! := by
  rw [getElem!_pos (x :: l) (i + 1) (by simp; omega), getElem!_pos l i h]; rfl
theorem sumL_nn : ∀ (l : List Int), (∀ i, i < l.length → 0 ≤ l[i]!) → 0 ≤ sumL l
  | [], _ => Int.le_refl _
  | x :: l, h => by
    have h0 := h 0 (by simp)
    have h0' : 0 ≤ x := h0
    have := sumL_nn l fun i hi => by have := h (i + 1) (by simp; omega); rwa [cons_at hi] at this
    rw [sumL]; omega
theorem sumL_le : ∀ (l : List Int) (k : Nat), (∀ i, i < l.length → 0 ≤ l[i]!) → k < l.length → l[k]! ≤ sumL l
  | x :: l, 0, h, _ => by
    have := sumL_nn l fun i hi => by have := h (i + 1) (by simp; omega); rwa [cons_at hi] at this
    show x ≤ x + sumL l
    omega
  | x :: l, k + 1, h, hk => by
    have hk' : k < l.length := by simpa using hk
    have h0 : 0 ≤ x := h 0 (by simp)
    have := sumL_le l k (fun i hi => by have := h (i + 1) (by simp; omega); rwa [cons_at hi] at this) hk'
    rw [cons_at hk', sumL]; omega
theorem sumL_zero : ∀ (l : List Int), (∀ i, i < l.length → l[i]! = 0) → sumL l = 0
  | [], _ => rfl
  | x :: l, h => by
    have h0 : x = 0 := h 0 (by simp)
    have := sumL_zero l fun i hi => by have := h (i + 1) (by simp; omega); rwa [cons_at hi] at this
    rw [sumL]; omega
theorem sumL_one : ∀ (l : List Int) (k : Nat), k < l.length → (∀ i, i < l.length → i ≠ k → l[i]! = 0) → sumL l = l[k]!
  | x :: l, 0, _, h => by
    have := sumL_zero l fun i hi => by have := h (i + 1) (by simp; omega) (by omega); rwa [cons_at hi] at this
    show x + sumL l = x
    omega
  | x :: l, k + 1, hk, h => by
    have hk' : k < l.length := by simpa using hk
    have h0 : x = 0 := h 0 (by simp) (by omega)
    have := sumL_one l k hk' fun i hi hne => by have := h (i + 1) (by simp; omega) (by omega); rwa [cons_at hi] at this
    rw [cons_at hk', sumL]; omega
/-- Two or more of at least 1 are more than each of them. -/
theorem sumL_two {l : List Int} {k j : Nat} (h : ∀ i, i < l.length → 1 ≤ l[i]!) (hk : k < l.length) (hj : j < l.length) (hkj : k ≠ j) : l[k]! < sumL l := by
  have e := sumL_set l k 0 hk
  have := sumL_le (l.set k 0) j (fun i hi => by
    rw [List.length_set] at hi
    rw [getElem!_pos _ i (by rw [List.length_set]; exact hi), List.getElem_set]
    split
    · exact Int.le_refl _
    · have := h i hi; rw [getElem!_pos l i hi] at this; omega) (by rw [List.length_set]; exact hj)
  rw [getElem!_pos _ j (by rw [List.length_set]; exact hj), List.getElem_set, if_neg hkj, ← getElem!_pos l j hj] at this
  have := h j hj
  omega
/-- A stock that may be. -/
structure SV (xs : List Int) (d : Int) : Prop where
  l0 : 0 < xs.length
  l6 : xs.length ≤ 6
  el : ∀ i, i < xs.length → 1 ≤ xs[i]! ∧ xs[i]! ≤ 9
  d0 : 1 ≤ d
  d9 : d ≤ 9
  ds : d ≤ sumL xs
theorem sumL_bound : ∀ (l : List Int), (∀ i, i < l.length → l[i]! ≤ 9) → sumL l ≤ 9 * l.length
  | [], _ => by simp [sumL]
  | x :: l, h => by
    have h0 : x ≤ 9 := h 0 (by simp)
    have := sumL_bound l fun i hi => by have := h (i + 1) (by simp; omega); rwa [cons_at hi] at this
    rw [sumL, List.length_cons]; omega
theorem SV.sum {xs : List Int} {d : Int} (h : SV xs d) : sumL xs ≤ 54 := by
  have := sumL_bound xs fun i hi => (h.el i hi).2
  have := h.l6
  omega
def IsMax (xs : List Int) (m : Int) : Prop := (∃ k, k < xs.length ∧ xs[k]! = m) ∧ ∀ i, i < xs.length → xs[i]! ≤ m
def leftL (xs : List Int) : List Int → List Int
  | [] => xs
  | c :: cs => leftL (xs.set c.toNat (xs[c.toNat]! - 1)) cs
theorem leftL_snoc : ∀ (cs xs : List Int) (c : Int), leftL xs (cs ++ [c]) = (leftL xs cs).set c.toNat ((leftL xs cs)[c.toNat]! - 1)
  | [], xs, c => rfl
  | e :: cs, xs, c => by rw [List.cons_append, leftL, leftL_snoc cs, leftL]
theorem leftL_len : ∀ (cs xs : List Int), (leftL xs cs).length = xs.length
  | [], _ => rfl
  | e :: cs, xs => by rw [leftL, leftL_len cs, List.length_set]
/-- How often a kind comes among the first so many. -/
def often (cs : List Int) (k m : Nat) : Nat := cntN (fun t => decide (cs[t]! = (k : Int))) m
theorem often_succ {cs : List Int} {k m : Nat} : often cs k (m + 1) = often cs k m + if cs[m]! = (k : Int) then 1 else 0 := by
  unfold often; rw [cntN]; simp only [decide_eq_true_eq]
theorem often_le {cs : List Int} {k : Nat} : ∀ {m n : Nat}, m ≤ n → often cs k m ≤ often cs k n
  | m, 0, h => by have : m = 0 := by omega
                  subst this; exact Nat.le_refl _
  | m, n + 1, h => by
    by_cases e : m = n + 1
    · subst e; exact Nat.le_refl _
    · have := often_le (cs := cs) (k := k) (m := m) (n := n) (by omega)
      unfold often at this ⊢
      rw [cntN]; omega
/-- A course that a stock has. -/
structure Fits (xs cs : List Int) : Prop where
  el : ∀ i, i < cs.length → 0 ≤ cs[i]! ∧ cs[i]! < xs.length
  few : ∀ k : Nat, k < xs.length → (often cs k cs.length : Int) ≤ xs[k]!
theorem left_at {xs cs : List Int} (he : ∀ i, i < cs.length → 0 ≤ cs[i]! ∧ cs[i]! < xs.length) : ∀ (i : Nat), i ≤ cs.length →
    (∀ k : Nat, k < xs.length → (leftL xs (cs.take i))[k]! = xs[k]! - often cs k i) ∧ sumL (leftL xs (cs.take i)) = sumL xs - i
  | 0, _ => ⟨fun k _ => by simp [leftL, often, cntN], by simp [leftL]⟩
  | i + 1, h => by
    obtain ⟨h1, h2⟩ := left_at he i (by omega)
    obtain ⟨e0, e1⟩ := he i (by omega)
    have hlen := leftL_len (cs.take i) xs
    have hc : (cs[i]!).toNat < (leftL xs (cs.take i)).length := by rw [hlen]; omega
    rw [take_one (by omega), leftL_snoc]
    refine ⟨fun k hk => ?_, ?_⟩
    · rw [getElem!_pos _ k (by rw [List.length_set, hlen]; exact hk), List.getElem_set]
      have hk' : (leftL xs (cs.take i))[k]'(by rw [hlen]; exact hk) = xs[k]! - often cs k i := by rw [← h1 k hk, getElem!_pos _ k (by rw [hlen]; exact hk)]
      split
      · rename_i hck
        have : cs[i]! = (k : Int) := by omega
        rw [hck, h1 k hk, often_succ, if_pos this]; omega
      · rename_i hck
        have : ¬ cs[i]! = (k : Int) := by omega
        rw [hk', often_succ, if_neg this]; omega
    · rw [sumL_set _ _ _ hc, h2]; omega
theorem Fits.nn {xs cs : List Int} (h : Fits xs cs) {i : Nat} (hi : i ≤ cs.length) : ∀ k, k < (leftL xs (cs.take i)).length → 0 ≤ (leftL xs (cs.take i))[k]! := fun k hk => by
  rw [leftL_len] at hk
  have h1 := (left_at h.el i hi).1 k hk
  have h2 := h.few k hk
  have h3 := often_le (cs := cs) (k := k) hi
  omega
/-- The kinds of which some is left. -/
def kindsL (l : List Int) : Nat → List Int
  | 0 => []
  | k + 1 => kindsL l k ++ if 0 < l[k]! then [(k : Int)] else []
theorem kinds_mem {l : List Int} : ∀ {n : Nat} {x : Int}, x ∈ kindsL l n ↔ ∃ k : Nat, k < n ∧ x = k ∧ 0 < l[k]!
  | 0, x => by simp [kindsL]
  | n + 1, x => by
    rw [kindsL, List.mem_append, kinds_mem]
    constructor
    · rintro (⟨k, h1, h2, h3⟩ | h)
      · exact ⟨k, by omega, h2, h3⟩
      · split at h
        · exact ⟨n, by omega, by simpa using h, by assumption⟩
        · cases h
    · rintro ⟨k, h1, h2, h3⟩
      by_cases e : k = n
      · subst e; right; rw [if_pos h3]; simp [h2]
      · exact .inl ⟨k, by omega, h2, h3⟩
theorem kinds_len (l : List Int) : ∀ n, (kindsL l n).length ≤ n
  | 0 => Nat.le_refl _
  | n + 1 => by rw [kindsL, List.length_append]; have := kinds_len l n; split <;> simp <;> omega
/-- One kind alone: all else is gone. -/
theorem kinds_one {l : List Int} : ∀ {n : Nat}, (kindsL l n).length = 1 → ∃ k, k < n ∧ 0 < l[k]! ∧ ∀ j, j < n → j ≠ k → ¬ 0 < l[j]!
  | 0, h => by simp [kindsL] at h
  | n + 1, h => by
    rw [kindsL, List.length_append] at h
    by_cases hn : 0 < l[n]!
    · rw [if_pos hn] at h
      simp only [List.length_singleton] at h
      refine ⟨n, by omega, hn, fun j hj hne hp => ?_⟩
      have : (j : Int) ∈ kindsL l n := kinds_mem.2 ⟨j, by omega, rfl, hp⟩
      have := List.length_pos_of_mem this
      omega
    · rw [if_neg hn] at h
      simp only [List.length_nil, Nat.add_zero] at h
      obtain ⟨k, h1, h2, h3⟩ := kinds_one h
      exact ⟨k, by omega, h2, fun j hj hne => if e : j = n then e ▸ hn else h3 j (by omega) hne⟩
theorem kinds_all {l : List Int} : ∀ {n : Nat}, (∀ k, k < n → 0 < l[k]!) → (kindsL l n).length = n
  | 0, _ => rfl
  | n + 1, h => by rw [kindsL, if_pos (h n (by omega)), List.length_append, kinds_all fun k hk => h k (by omega)]; rfl
theorem kinds_pad {p l : List Int} {m : Nat} (h1 : ∀ k, k < m → p[k]! = l[k]!) : ∀ n, n ≤ m → kindsL p n = kindsL l n
  | 0, _ => rfl
  | n + 1, h => by rw [kindsL, kindsL, h1 n (by omega), kinds_pad h1 n (by omega)]
theorem kinds_more {p : List Int} {m : Nat} : ∀ n, m ≤ n → (∀ k, m ≤ k → k < n → ¬ 0 < p[k]!) → kindsL p n = kindsL p m
  | 0, h, _ => by have : m = 0 := by omega
                  subst this; rfl
  | n + 1, h, hp => by
    by_cases e : m = n + 1
    · subst e; rfl
    · rw [kindsL, if_neg (hp n (by omega) (by omega)), List.append_nil, kinds_more n (by omega) fun k h1 h2 => hp k h1 (by omega)]
/-- What counting tells of a course so far. -/
def restK (xs : List Int) (d : Int) (cs : List Int) : List Int := if (cs.length : Int) = d then [] else kindsL (leftL xs cs) xs.length
def restS (xs : List Int) (d : Int) (cs : List Int) : Int := if (restK xs d cs).length = 1 then d - cs.length else 0
end Go.Proofs.Ytlpkbcgdcimglaa
