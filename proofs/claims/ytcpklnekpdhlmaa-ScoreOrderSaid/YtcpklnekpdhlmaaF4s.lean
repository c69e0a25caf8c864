
/- Moves as a distance. -/
import Derived.Test.YtcpklnekpdhlmaaF3s
set_option linter.unusedVariables false
set_option linter.unusedSimpArgs false
namespace Go.Proofs.Ytcpklnekpdhlmaa
open Go.AI
def Agr (a b : List Int) (n s : Nat) : Prop := ∀ i j, i < n → j < n → s.testBit i = true → s.testBit j = true → (a[i]! = a[j]! ↔ b[i]! = b[j]!)
theorem dis_false {a b : List Int} {i j : Nat} : dis a b i j = false ↔ (a[i]! = a[j]! ↔ b[i]! = b[j]!) := by
  unfold dis
  by_cases h1 : a[i]! = a[j]! <;> by_cases h2 : b[i]! = b[j]! <;> simp [h1, h2]
theorem dM_row {a b : List Int} {i : Nat} (h : i < a.length) : dM a b a.length 0 i = dB (dis a b i) a.length := by
  unfold dM; rw [if_pos h]
theorem good_iff {a b : List Int} {s : Nat} : Good (dM a b a.length 0) a.length s ↔ Agr a b a.length s := by
  constructor
  · intro h i j hi hj h1 h2
    have := h i hi h1
    rw [dM_row hi] at this
    have h3 : (s &&& dB (dis a b i) a.length).testBit j = false := by rw [this]; simp
    rw [Nat.testBit_and, dB_bit, h2, decide_eq_true hj, Bool.true_and, Bool.true_and] at h3
    exact dis_false.1 h3
  · intro h i hi h1
    rw [dM_row hi]
    apply Nat.eq_of_testBit_eq
    intro j
    rw [Nat.testBit_and, dB_bit, Nat.zero_testBit]
    by_cases hj : j < a.length
    · cases h2 : s.testBit j with
      | false => rfl
      | true => rw [dis_false.2 (h i j hi hj h1 h2)]; simp
    · rw [decide_eq_false hj]; simp
theorem filter_both {α : Type} (p q : α → Bool) : ∀ l : List α, (l.filter fun x => p x && q x).length + (l.filter fun x => p x || q x).length = (l.filter p).length + (l.filter q).length
  | [] => rfl
  | x :: l => by
    have := filter_both p q l
    simp only [List.filter_cons]
    cases p x <;> cases q x <;> simp <;> omega
theorem pop_both (s t : Nat) : pop (s &&& t) + pop (s ||| t) = pop s + pop t := by
  unfold pop
  have := filter_both (fun i => s.testBit i) (fun i => t.testBit i) (List.range 9)
  simp only [Nat.testBit_and, Nat.testBit_or]
  exact this
theorem pop_in : ((List.range 10).all fun n => (List.range (2 ^ n)).all fun s => decide (pop s ≤ n) && (decide (pop s ≠ n) || (List.range n).all fun i => s.testBit i)) = true := by decide +kernel
theorem pop_le_n {n s : Nat} (hn : n ≤ 9) (hs : s < 2 ^ n) : pop s ≤ n ∧ (pop s = n → ∀ i, i < n → s.testBit i = true) := by
  have h1 := List.all_eq_true.1 (List.all_eq_true.1 pop_in n (List.mem_range.2 (by omega))) s (List.mem_range.2 hs)
  simp only [Bool.and_eq_true, Bool.or_eq_true, decide_eq_true_eq, List.all_eq_true, List.mem_range] at h1
  refine ⟨h1.1, fun h i hi => ?_⟩
  rcases h1.2 with h2 | h2
  · exact absurd h h2
  · exact h2 i hi
theorem full_in : ((List.range 10).all fun n => decide (pop (2 ^ n - 1) = n) && (List.range n).all fun x => decide (pop ((2 ^ n - 1) ^^^ 2 ^ x) + 1 = n) && decide ((2 ^ n - 1) ^^^ 2 ^ x < 2 ^ n) && !((2 ^ n - 1) ^^^ 2 ^ x).testBit x) = true := by decide +kernel
theorem full_pop {n : Nat} (hn : n ≤ 9) : pop (2 ^ n - 1) = n := by
  have h1 := List.all_eq_true.1 full_in n (List.mem_range.2 (by omega))
  simp only [Bool.and_eq_true, decide_eq_true_eq] at h1
  exact h1.1
theorem but_one {n x : Nat} (hn : n ≤ 9) (hx : x < n) : pop ((2 ^ n - 1) ^^^ 2 ^ x) + 1 = n ∧ (2 ^ n - 1) ^^^ 2 ^ x < 2 ^ n ∧ ((2 ^ n - 1) ^^^ 2 ^ x).testBit x = false := by
  have h1 := List.all_eq_true.1 full_in n (List.mem_range.2 (by omega))
  simp only [Bool.and_eq_true, decide_eq_true_eq, List.all_eq_true, List.mem_range, Bool.not_eq_true'] at h1
  have h2 := h1.2 x hx
  exact ⟨h2.1.1, h2.1.2, h2.2⟩

/-- The greatest number of packets that can stay. -/
structure Stay (a b : List Int) (m : Nat) : Prop where
  has : ∃ t, t < 2 ^ a.length ∧ Agr a b a.length t ∧ pop t = m
  top : ∀ t, t < 2 ^ a.length → Agr a b a.length t → pop t ≤ m
theorem Most.stay {a b : List Int} {m : Nat} (h : Most (dM a b a.length 0) a.length m) : Stay a b m :=
  ⟨by obtain ⟨t, h1, h2, h3⟩ := h.has; exact ⟨t, h1, good_iff.1 h2, h3⟩, fun t h1 h2 => h.top t h1 (good_iff.2 h2)⟩
theorem Stay.sym {a b : List Int} {m k : Nat} (hl : a.length = b.length) (h : Stay a b m) (g : Stay b a k) : m = k := by
  obtain ⟨t, h1, h2, h3⟩ := h.has
  obtain ⟨u, g1, g2, g3⟩ := g.has
  have e1 := g.top t (by rw [← hl]; exact h1) (by rw [← hl]; exact fun i j hi hj x y => (h2 i j hi hj x y).symm)
  have e2 := h.top u (by rw [hl]; exact g1) (by rw [hl]; exact fun i j hi hj x y => (g2 i j hi hj x y).symm)
  omega
theorem Stay.le {a b : List Int} {m : Nat} (h9 : a.length ≤ 9) (h : Stay a b m) : m ≤ a.length := by
  obtain ⟨t, h1, _, rfl⟩ := h.has
  exact (pop_le_n h9 h1).1
theorem Stay.pos {a b : List Int} {m : Nat} (h0 : 0 < a.length) (h : Stay a b m) : 1 ≤ m := by
  have := h.top 1 (Nat.one_lt_two_pow (by omega)) (fun i j _ _ h1 h2 => by
    have e : ∀ k, (1 : Nat).testBit k = true → k = 0 := fun k hk => by
      cases k with
      | zero => rfl
      | succ k => simp [Nat.testBit_succ] at hk
    rw [e i h1, e j h2]; exact ⟨fun _ => rfl, fun _ => rfl⟩)
  have h1 : pop 1 = 1 := by decide
  omega
theorem Stay.full {a b : List Int} {m : Nat} (ha : check a = 0) (hb : check b = 0) (hl : a.length = b.length) (h : Stay a b m) : m = a.length ↔ a = b := by
  have h9 := (check_len ha).2
  constructor
  · intro hm
    obtain ⟨t, h1, h2, h3⟩ := h.has
    have h4 := (pop_le_n h9 h1).2 (by omega)
    refine eq_of_fine ha hb hl (fun i j hij hi he => (h2 i j hi (by omega) (h4 i hi) (h4 j (by omega))).1 he) (fun i j hij hi he => (h2 i j (by omega) (by omega) (h4 i (by omega)) (h4 j (by omega))).2 he)
  · intro he
    subst he
    have := h.top (2 ^ a.length - 1) (by have := Nat.two_pow_pos a.length; omega) (fun _ _ _ _ _ _ => Iff.rfl)
    rw [full_pop h9] at this
    have := h.le h9
    omega
theorem Stay.tri {a b c : List Int} {m k l : Nat} (h9 : a.length ≤ 9) (hl : a.length = b.length) (h : Stay a b m) (g : Stay b c k) (f : Stay a c l) : m + k ≤ l + a.length := by
  obtain ⟨t, h1, h2, rfl⟩ := h.has
  obtain ⟨u, g1, g2, rfl⟩ := g.has
  rw [← hl] at g1 g2
  have h3 := f.top (t &&& u) (Nat.and_lt_two_pow _ g1) (fun i j hi hj x y => by
    rw [Nat.testBit_and, Bool.and_eq_true] at x y
    exact (h2 i j hi hj x.1 y.1).trans (g2 i j hi hj x.2 y.2))
  have h4 := pop_both t u
  have h5 := (pop_le_n h9 (Nat.or_lt_two_pow h1 g1)).1
  omega
theorem Stay.moved {a : List Int} {x : Nat} {y : Int} {m : Nat} (h9 : a.length ≤ 9) (hx : x < a.length) (h : Stay a (num (a.set x y) []) m) : a.length ≤ m + 1 := by
  have hb := but_one h9 hx
  have := h.top _ hb.2.1 (fun i j hi hj h1 h2 => by
    have hix : i ≠ x := fun e => by rw [e, hb.2.2] at h1; cases h1
    have hjx : j ≠ x := fun e => by rw [e, hb.2.2] at h2; cases h2
    rw [num_eq (by rw [List.length_set]; exact hi) (by rw [List.length_set]; exact hj)]
    rw [getElem!_pos (a.set x y) i (by rw [List.length_set]; exact hi), getElem!_pos (a.set x y) j (by rw [List.length_set]; exact hj), List.getElem_set_ne (Ne.symm hix), List.getElem_set_ne (Ne.symm hjx), getElem!_pos a i hi, getElem!_pos a j hj])
  omega
end Go.Proofs.Ytcpklnekpdhlmaa
