/- Several texts in one. -/
import Derived.Test.YtkfaiokiaahbaaaDoorY3
import Derived.Test.YtkfaiokiaahbaaaDoorX4
import Derived.Test.YtkfaiokiaahbaaaDoorY4
set_option linter.unusedVariables false
set_option linter.unusedSimpArgs false
/- Bits. -/
namespace Go.Proofs.YtkfaiokiaahbaaaDoor
open Go.AI
/-- How many bits there are. -/
def pop (s : Nat) : Nat := ((List.range 9).filter fun i => s.testBit i).length
end Go.Proofs.YtkfaiokiaahbaaaDoor


/- Of which packets two partitions do not agree. -/
namespace Go.Proofs.YtkfaiokiaahbaaaDoor
open Go.AI
/-- Bits, one by one. -/
def dB (f : Nat → Bool) : Nat → Nat
  | 0 => 0
  | k + 1 => dB f k ||| (if f k then 1 <<< k else 0)
theorem dB_lt (f : Nat → Bool) : ∀ k, dB f k < 2 ^ k
  | 0 => by simp [dB]
  | k + 1 => by
    rw [dB]
    refine Nat.or_lt_two_pow (Nat.lt_of_lt_of_le (dB_lt f k) (Nat.pow_le_pow_right (by decide) (by omega))) ?_
    split
    · rw [Nat.one_shiftLeft]; exact Nat.pow_lt_pow_right (by decide) (by omega)
    · exact Nat.two_pow_pos _
theorem dB_bit (f : Nat → Bool) : ∀ k j, (dB f k).testBit j = (decide (j < k) && f j)
  | 0, j => by simp [dB]
  | k + 1, j => by
    rw [dB, Nat.testBit_or, dB_bit f k j]
    by_cases hj : j = k
    · subst hj
      cases hf : f j <;> simp [Nat.one_shiftLeft, Nat.testBit_two_pow]
    · have h1 : decide (j < k + 1) = decide (j < k) := by
        rw [Bool.eq_iff_iff, decide_eq_true_eq, decide_eq_true_eq]; omega
      rw [h1]
      cases hf : f k <;> simp [Nat.one_shiftLeft, Nat.testBit_two_pow, Ne.symm hj]
/-- Whether just one of two partitions has two packets in one block. -/
def dis (xs ys : List Int) (i j : Nat) : Bool := decide (xs[i]! = xs[j]!) != decide (ys[i]! = ys[j]!)
def dM (xs ys : List Int) (i j : Nat) (q : Nat) : Nat := if q < i then dB (dis xs ys q) xs.length else if q = i then dB (dis xs ys q) j else 0
end Go.Proofs.YtkfaiokiaahbaaaDoor


/- How many packets have to be moved. -/
namespace Go.Proofs.YtkfaiokiaahbaaaDoor
open Go.AI
/-- A set of packets of which no two are in dispute. -/
def Good (d : Nat → Nat) (n s : Nat) : Prop := ∀ i, i < n → s.testBit i = true → s &&& d i = 0
structure Most (d : Nat → Nat) (n m : Nat) : Prop where
  has : ∃ t, t < 2 ^ n ∧ Good d n t ∧ pop t = m
  top : ∀ t, t < 2 ^ n → Good d n t → pop t ≤ m
end Go.Proofs.YtkfaiokiaahbaaaDoor


/- Moves as a distance. -/
namespace Go.Proofs.YtkfaiokiaahbaaaDoor
open Go.AI
def Agr (a b : List Int) (n s : Nat) : Prop := ∀ i j, i < n → j < n → s.testBit i = true → s.testBit j = true → (a[i]! = a[j]! ↔ b[i]! = b[j]!)
theorem dis_false {a b : List Int} {i j : Nat} : dis a b i j = false ↔ (a[i]! = a[j]! ↔ b[i]! = b[j]!) := by
  unfold dis
  by_cases h1 : a[i]! = a[j]! <;> by_cases h2 : b[i]! = b[j]! <;> simp [h1, h2]
theorem dM_row {a b : List Int} {i : Nat} (h : i < a.length) : dM a b a.length 0 i = dB (dis a b i) a.length := by
  unfold dM; rw [if_pos h]
theorem good_iff {a b : List Int} {s : Nat} : Good (dM a b a.length 0) a.length s ↔ Agr a b a.length s := by
  constructor
  · intro h i j hi hj h1 h2
    have := h i hi h1
    rw [dM_row hi] at this
    have h3 : (s &&& dB (dis a b i) a.length).testBit j = false := by rw [this]; simp
    rw [Nat.testBit_and, dB_bit, h2, decide_eq_true hj, Bool.true_and, Bool.true_and] at h3
    exact dis_false.1 h3
  · intro h i hi h1
    rw [dM_row hi]
    apply Nat.eq_of_testBit_eq
    intro j
    rw [Nat.testBit_and, dB_bit, Nat.zero_testBit]
    by_cases hj : j < a.length
    · cases h2 : s.testBit j with
      | false => rfl
      | true => rw [dis_false.2 (h i j hi hj h1 h2)]; simp
    · rw [decide_eq_false hj]; simp
theorem pop_in : ((List.range 10).all fun n => (List.range (2 ^ n)).all fun s => decide (pop s ≤ n) && (decide (pop s ≠ n) || (List.range n).all fun i => s.testBit i)) = true := by decide +kernel
theorem pop_le_n {n s : Nat} (hn : n ≤ 9) (hs : s < 2 ^ n) : pop s ≤ n ∧ (pop s = n → ∀ i, i < n → s.testBit i = true) := by
  have h1 := List.all_eq_true.1 (List.all_eq_true.1 pop_in n (List.mem_range.2 (by omega))) s (List.mem_range.2 hs)
  simp only [Bool.and_eq_true, Bool.or_eq_true, decide_eq_true_eq, List.all_eq_true, List.mem_range] at h1
  refine ⟨h1.1, fun h i hi => ?_⟩
  rcases h1.2 with h2 | h2
  · exact absurd h h2
  · exact h2 i hi
theorem full_in : ((List.range 10).all fun n => decide (pop (2 ^ n - 1) = n) && (List.range n).all fun x => decide (pop ((2 ^ n - 1) ^^^ 2 ^ x) + 1 = n) && decide ((2 ^ n - 1) ^^^ 2 ^ x < 2 ^ n) && !((2 ^ n - 1) ^^^ 2 ^ x).testBit x) = true := by decide +kernel
theorem but_one {n x : Nat} (hn : n ≤ 9) (hx : x < n) : pop ((2 ^ n - 1) ^^^ 2 ^ x) + 1 = n ∧ (2 ^ n - 1) ^^^ 2 ^ x < 2 ^ n ∧ ((2 ^ n - 1) ^^^ 2 ^ x).testBit x = false := by
  have h1 := List.all_eq_true.1 full_in n (List.mem_range.2 (by omega))
  simp only [Bool.and_eq_true, decide_eq_true_eq, List.all_eq_true, List.mem_range, Bool.not_eq_true'] at h1
  have h2 := h1.2 x hx
  exact ⟨h2.1.1, h2.1.2, h2.2⟩

/-- The greatest number of packets that can stay. -/
structure Stay (a b : List Int) (m : Nat) : Prop where
  has : ∃ t, t < 2 ^ a.length ∧ Agr a b a.length t ∧ pop t = m
  top : ∀ t, t < 2 ^ a.length → Agr a b a.length t → pop t ≤ m
theorem Most.stay {a b : List Int} {m : Nat} (h : Most (dM a b a.length 0) a.length m) : Stay a b m :=
  ⟨by obtain ⟨t, h1, h2, h3⟩ := h.has; exact ⟨t, h1, good_iff.1 h2, h3⟩, fun t h1 h2 => h.top t h1 (good_iff.2 h2)⟩
theorem Stay.le {a b : List Int} {m : Nat} (h9 : a.length ≤ 9) (h : Stay a b m) : m ≤ a.length := by
  obtain ⟨t, h1, _, rfl⟩ := h.has
  exact (pop_le_n h9 h1).1
theorem Stay.pos {a b : List Int} {m : Nat} (h0 : 0 < a.length) (h : Stay a b m) : 1 ≤ m := by
  have := h.top 1 (Nat.one_lt_two_pow (by omega)) (fun i j _ _ h1 h2 => by
    have e : ∀ k, (1 : Nat).testBit k = true → k = 0 := fun k hk => by
      cases k with
      | zero => rfl
      | succ k => simp [Nat.testBit_succ] at hk
    rw [e i h1, e j h2]; exact ⟨fun _ => rfl, fun _ => rfl⟩)
  have h1 : pop 1 = 1 := by decide
  omega
theorem Stay.moved {a : List Int} {x : Nat} {y : Int} {m : Nat} (h9 : a.length ≤ 9) (hx : x < a.length) (h : Stay a (num (a.set x y) []) m) : a.length ≤ m + 1 := by
  have hb := but_one h9 hx
  have := h.top _ hb.2.1 (fun i j hi hj h1 h2 => by
    have hix : i ≠ x := fun e => by rw [e, hb.2.2] at h1; cases h1
    have hjx : j ≠ x := fun e => by rw [e, hb.2.2] at h2; cases h2
    rw [num_eq (by rw [List.length_set]; exact hi) (by rw [List.length_set]; exact hj)]
    rw [getElem!_pos (a.set x y) i (by rw [List.length_set]; exact hi), getElem!_pos (a.set x y) j (by rw [List.length_set]; exact hj), List.getElem_set_ne (Ne.symm hix), List.getElem_set_ne (Ne.symm hjx), getElem!_pos a i hi, getElem!_pos a j hj])
  omega
end Go.Proofs.YtkfaiokiaahbaaaDoor


/- What stays when memory is added, by one name for all that stays. -/
namespace Go.Proofs.YtkfaiokiaahbaaaDoor
open Go.AI
theorem Base.keep {H H' : Heap} (h : Base H) (k : Keep H H') : Base H' := base_keep h k
theorem Base.keepX {b : Nat} {H H' : Heap} (h : Base H) (k : KeepX b H H') (hb : 4 ≤ b) : Base H' :=
  ⟨Nat.le_trans h.1 k.1, fun c o hc => by
    have h1 : c < 4 := (List.getElem?_eq_some_iff.1 hc).1
    rw [k.2 c (Nat.lt_of_lt_of_le h1 h.1) (by omega)]; exact h.2 c o hc⟩
end Go.Proofs.YtkfaiokiaahbaaaDoor
namespace Go.AI
open Go.Proofs.YtkfaiokiaahbaaaDoor
theorem slot_int {k : IntKind} {a b : Int} (h : a = b) : Value.int k a = Value.int k b := by rw [h]
theorem Ints.keep {H H' : Heap} {v : Value} {xs : List Int} (h : Ints H v xs) (k : Keep H H') : Ints H' v xs := Row.keep h k
theorem Ints.box {b : Nat} {H H' : Heap} {v : Value} {xs : List Int} (h : Ints H v xs) (k : KeepX b H H') (hb : Box b H) : Ints H' v xs := row_box h k hb
theorem Row.box {b : Nat} {H H' : Heap} {v : Value} {xs : List Value} (h : Row H v xs) (k : KeepX b H H') (hb : Box b H) : Row H' v xs := row_box h k hb
theorem Own.box {b : Nat} {e : TypeId} {H H' : Heap} {v : Value} {vs : List Value} {B : Nat} (h : Own e H v vs B) (k : KeepX b H H') (hb : Box b H) : Own e H' v vs B := own_box h k hb
theorem Own.low {e : TypeId} {H : Heap} {v : Value} {vs : List Value} {B B' : Nat} (h : Own e H v vs B) (hB : B' ≤ B) : Own e H v vs B' := by
  rcases h with h | ⟨b, h1, h2, h3, h4⟩
  · exact .inl h
  · exact .inr ⟨b, h1, Nat.le_trans hB h2, h3, h4⟩
theorem Own.ints {H : Heap} {v : Value} {xs : List Int} {B : Nat} (h : Own 3 H v (xs.map VI) B) : Ints H v xs := h.row
end Go.AI

