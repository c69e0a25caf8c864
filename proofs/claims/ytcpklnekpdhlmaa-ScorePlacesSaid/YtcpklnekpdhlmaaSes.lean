
/- The truth as an answer; an answer with all right. -/
import Derived.Test.YtcpklnekpdhlmaaSds
set_option linter.unusedVariables false
set_option linter.unusedSimpArgs false
namespace Go.Proofs.Ytcpklnekpdhlmaa
open Go.AI
variable {ts ws : List Int}
theorem self_pr {k i : Nat} : prR ts ts k i = true := by unfold prR; simp
theorem self_wg {k : Nat} : ∀ i, wgN ts ts k i = 0
  | 0 => rfl
  | i + 1 => by rw [wgN, self_wg i, self_pr]; simp
theorem self_nums (hp : ∀ i, i < ts.length → 0 ≤ ts[i]!) : ∀ i, i ≤ ts.length → pkN ts ts i = i ∧ wrN ts ts i = 0 ∧ stN ts ts i = i
  | 0, _ => ⟨rfl, rfl, rfl⟩
  | i + 1, hi => by
    obtain ⟨h1, h2, h3⟩ := self_nums hp i (by omega)
    have hw : wrt ts i = true := decide_eq_true (fun h => by have := hp i (by omega); omega)
    rw [pkN, wrN, stN, h1, h2, h3, hw, self_wg]
    simp
theorem hd_self : ∀ i, hdN ts ws i ≤ hdN ts ts i ∨ ¬ (∀ j, j < i → wrt ts j = true)
  | 0 => .inl (Nat.le_refl _)
  | i + 1 => by
    by_cases h : ∀ j, j < i + 1 → wrt ts j = true
    · left
      rcases hd_self i with h1 | h1
      · rw [hdN, hdN]
        have := h i (by omega)
        cases ha : alo ts i <;> cases hb : alo ws i <;> cases hc : wrt ws i <;> simp [this] <;> omega
      · exact absurd (fun j hj => h j (by omega)) h1
    · exact .inr h
theorem tri : ∀ n : Fin 10, ∀ w : Fin 10, w.val ≤ n.val → (w.val : Int) * ((w.val : Int) - 1) ≤ (n.val : Int) * ((n.val : Int) - 1) := by decide
theorem wg_zero {k : Nat} : ∀ i, wgN ts ws k i = 0 → ∀ j, j < i → wrt ws j = true → prR ts ws k j = true
  | 0, _, j, hj, _ => by omega
  | i + 1, h, j, hj, hw => by
    rw [wgN] at h
    by_cases hji : j = i
    · subst hji
      cases hp : prR ts ws k j with
      | true => rfl
      | false => rw [hw, hp] at h; simp at h
    · exact wg_zero i (by omega) j (by omega) hw
theorem pk_all : ∀ i, pkN ts ws i = i → ∀ j, j < i → wrt ws j = true ∧ wgN ts ws j j = 0
  | 0, _, j, hj => by omega
  | i + 1, h, j, hj => by
    have := pk_le ts ws i
    rw [pkN] at h
    by_cases hc : wrt ws i = true ∧ wgN ts ws i i = 0
    · rw [if_pos hc] at h
      by_cases hji : j = i
      · subst hji; exact hc
      · exact pk_all i (by omega) j (by omega)
    · rw [if_neg hc] at h; omega
theorem prR_iff {k i : Nat} (h : prR ts ws k i = true) : ws[i]! = ws[k]! ↔ ts[i]! = ts[k]! := by
  unfold prR at h
  by_cases h1 : ws[i]! = ws[k]! <;> by_cases h2 : ts[i]! = ts[k]! <;> simp only [h1, h2, decide_true, decide_false] at h ⊢ <;> first | rfl | (simp at h)
theorem whole_same (hp : ∀ i, i < ts.length → 0 ≤ ts[i]!) (hl : ws.length = ts.length) (h : pkN ts ws ws.length = ws.length) : Same ts ws := by
  have ha := pk_all ws.length h
  have hw : ∀ i, i < ws.length → ws[i]! ≠ -1 := fun i hi => of_decide_eq_true (ha i hi).1
  have hlt : ∀ j i, j < i → i < ws.length → (ts[j]! = ts[i]! ↔ ws[j]! = ws[i]!) := fun j i hj hi => (prR_iff (wg_zero i (ha i hi).2 j hj (ha j (by omega)).1)).symm
  refine ⟨hl, fun i hi => ?_, fun i k hi hk => ?_⟩
  · have := hp i hi
    have := hw i (by omega)
    constructor
    · intro e; omega
    · intro e; exact absurd e this
  · rcases Nat.lt_trichotomy i k with h1 | h1 | h1
    · exact hlt i k h1 (by omega)
    · subst h1; exact ⟨fun _ => rfl, fun _ => rfl⟩
    · have := hlt k i h1 (by omega)
      exact ⟨fun e => (this.1 e.symm).symm, fun e => (this.2 e.symm).symm⟩
theorem num_own (ct : check ts = 0) : num ts [] = ts := by
  have c9 := check_len ct
  exact eq_of_fine (check_of (by omega) (by omega)) ct (num_length _ _) num_fine fine_num
theorem hon_same (ct : check ts = 0) (hl : ws.length = ts.length) (h : Hon ts ws 3) (hp : ∀ i, i < ts.length → 0 ≤ ts[i]!) : Same ts ws := by
  have c9 := check_len ct
  rcases h with ⟨_, h⟩ | ⟨h1, m, h2, h3⟩
  · cases h
  · have ln : (num ws []).length = ws.length := num_length _ _
    have hle := h2.le (by omega)
    have e : num ws [] = ts := (h2.full (check_of (by omega) (by omega)) ct (by omega)).1 (by omega)
    refine ⟨hl, fun i hi => ?_, fun i k hi hk => ?_⟩
    · have := hp i hi
      constructor
      · intro e; omega
      · intro e; exact absurd (mem_at.2 ⟨i, by omega, e⟩) h1
    · have := num_eq (xs := ws) (i := i) (k := k) (by omega) (by omega)
      rw [e] at this; exact this
theorem hon_self (ct : check ts = 0) (hp : ∀ i, i < ts.length → 0 ≤ ts[i]!) {h : Int} (hh : Hon ts ts h) : h = 3 := by
  have c9 := check_len ct
  rcases hh with ⟨h1, _⟩ | ⟨_, m, h2, h3⟩
  · obtain ⟨j, hj, e⟩ := mem_at.1 h1
    have := hp j hj; omega
  · rw [num_own ct] at h2
    have := (h2.full ct ct rfl).2 rfl
    omega
end Go.Proofs.Ytcpklnekpdhlmaa
