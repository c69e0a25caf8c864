/- Several texts in one. -/
import Derived.Test.YtkfaiokiaahbaaaDoorY5
import Derived.Test.YtkfaiokiaahbaaaDoorY4
set_option linter.unusedVariables false
set_option linter.unusedSimpArgs false
/- Which packets can stay: blocks of the one become blocks of the other. -/
namespace Go.Proofs.YtkfaiokiaahbaaaDoor
open Go.AI
/-- How many of the first numbers. -/
def cnt (p : Nat → Bool) (n : Nat) : Nat := ((List.range n).filter p).length
theorem filter_le_of {α : Type} {p q : α → Bool} : ∀ {l : List α}, (∀ x ∈ l, p x = true → q x = true) → (l.filter p).length ≤ (l.filter q).length
  | [], _ => by simp
  | x :: l, h => by
    have h1 := filter_le_of (p := p) (q := q) (l := l) fun y hy => h y (by simp [hy])
    have h2 := h x (by simp)
    simp only [List.filter_cons]
    cases hp : p x <;> cases hq : q x <;> simp_all <;> omega
theorem cnt_le {p q : Nat → Bool} {n : Nat} (h : ∀ i, i < n → p i = true → q i = true) : cnt p n ≤ cnt q n := filter_le_of fun x hx => h x (List.mem_range.1 hx)
theorem filter_split {α : Type} {p q : α → Bool} : ∀ l : List α, (l.filter p).length = (l.filter fun x => p x && q x).length + (l.filter fun x => p x && !q x).length
  | [] => by simp
  | x :: l => by
    have := filter_split (p := p) (q := q) l
    simp only [List.filter_cons]
    cases hp : p x <;> cases hq : q x <;> simp_all <;> omega
theorem cnt_split (p q : Nat → Bool) (n : Nat) : cnt p n = cnt (fun i => p i && q i) n + cnt (fun i => p i && !q i) n := filter_split _
theorem cnt_zero {p : Nat → Bool} {n i : Nat} (h : cnt p n = 0) (hi : i < n) : p i = false := by
  unfold cnt at h
  rw [List.length_eq_zero_iff, List.filter_eq_nil_iff] at h
  simpa using h i (List.mem_range.2 hi)
/-- In a block of the one, and in one of the other. -/
def both (a b : List Int) (x y : Int) (i : Nat) : Bool := a[i]! == x && b[i]! == y
theorem both_iff {a b : List Int} {x y : Int} {i : Nat} : both a b x y i = true ↔ a[i]! = x ∧ b[i]! = y := by simp only [both, Bool.and_eq_true, beq_iff_eq]
def common (a b : List Int) (x y : Int) : Nat := cnt (both a b x y) a.length
/-- Packets that can stay, of the blocks from x on, if some blocks are taken. -/
structure Mat (a b : List Int) (x : Int) (tk : List Bool) (p : Nat → Bool) : Prop where
  from' : ∀ i, i < a.length → p i = true → x ≤ a[i]!
  free : ∀ i, i < a.length → p i = true → tk[(b[i]!).toNat]? = some false
  agr : ∀ i j, i < a.length → j < a.length → p i = true → p j = true → (a[i]! = a[j]! ↔ b[i]! = b[j]!)
structure Best (a b : List Int) (x : Int) (tk : List Bool) (m : Nat) : Prop where
  has : ∃ p, Mat a b x tk p ∧ cnt p a.length = m
  top : ∀ p, Mat a b x tk p → cnt p a.length ≤ m
/-- What is known when some blocks of the other have been tried. -/
structure Try (a b : List Int) (x : Int) (tk : List Bool) (y : Int) (m : Nat) : Prop where
  has : ∃ p, Mat a b x tk p ∧ cnt p a.length = m
  top : ∀ p, Mat a b x tk p → (∀ i, i < a.length → p i = true → a[i]! = x → b[i]! < y) → cnt p a.length ≤ m
variable {a b : List Int} {x y : Int} {tk : List Bool} {m k : Nat}
theorem Mat.down {p : Nat → Bool} (h : Mat a b (x + 1) tk p) : Mat a b x tk p := ⟨fun i hi hp => by have := h.from' i hi hp; omega, h.free, h.agr⟩
theorem Best.start (hb : ∀ i, i < a.length → 0 ≤ b[i]!) (h : Best a b (x + 1) tk m) : Try a b x tk 0 m :=
  ⟨by obtain ⟨p, h1, h2⟩ := h.has; exact ⟨p, h1.down, h2⟩,
   fun p hp hy => h.top p ⟨fun i hi hpi => by
      have h1 := hp.from' i hi hpi
      by_cases he : a[i]! = x
      · have := hy i hi hpi he; have := hb i hi; omega
      · omega, hp.free, hp.agr⟩⟩
theorem Try.done (h : Try a b x tk y m) (hy : tk.length ≤ y) (hb : ∀ i, i < a.length → 0 ≤ b[i]!) : Best a b x tk m :=
  ⟨h.has, fun p hp => h.top p hp fun i hi hpi _ => by
    have := hp.free i hi hpi
    have h1 := (List.getElem?_eq_some_iff.1 this).1
    have := hb i hi
    omega⟩
theorem Try.skip (hy : 0 ≤ y) (h : Try a b x tk y m) (hn : common a b x y = 0 ∨ tk[y.toNat]? ≠ some false) : Try a b x tk (y + 1) m :=
  ⟨h.has, fun p hp hq => h.top p hp fun i hi hpi he => by
    have h1 := hq i hi hpi he
    by_cases h2 : b[i]! = y
    · exfalso
      rcases hn with hn | hn
      · have := cnt_zero (p := both a b x y) hn hi
        simp [both, he, h2] at this
      · exact hn (by rw [← h2]; exact hp.free i hi hpi)
    · omega⟩
theorem get_set {l : List Bool} {i j : Nat} {v : Bool} : (l.set i v)[j]? = if i = j then (if i < l.length then some v else none) else l[j]? := by
  rw [List.getElem?_set]
theorem Try.put (hy : 0 ≤ y) (hb : ∀ i, i < a.length → 0 ≤ b[i]!) (h : Try a b x tk y m) (hf : tk[y.toNat]? = some false) (hk : Best a b (x + 1) (tk.set y.toNat true) k) : Try a b x tk (y + 1) (max m (common a b x y + k)) := by
  have hlt := (List.getElem?_eq_some_iff.1 hf).1
  refine ⟨?_, fun p hp hq => ?_⟩
  · by_cases hc : common a b x y + k ≤ m
    · rw [Nat.max_eq_left hc]; exact h.has
    rw [Nat.max_eq_right (by omega)]
    obtain ⟨p, hp, hpc⟩ := hk.has
    have hpf : ∀ i, i < a.length → p i = true → tk[(b[i]!).toNat]? = some false ∧ b[i]! ≠ y := fun i hi hpi => by
      have := hp.free i hi hpi
      rw [get_set, if_pos hlt] at this
      split at this
      · cases this
      · rename_i hne
        exact ⟨this, fun h => hne (by rw [h])⟩
    refine ⟨fun i => p i || both a b x y i, ⟨fun i hi hpi => ?_, fun i hi hpi => ?_, fun i j hi hj hpi hpj => ?_⟩, ?_⟩
    · simp only [Bool.or_eq_true] at hpi
      rcases hpi with hpi | hpi
      · have := hp.from' i hi hpi; omega
      · have := both_iff.1 hpi; omega
    · simp only [Bool.or_eq_true] at hpi
      rcases hpi with hpi | hpi
      · exact (hpf i hi hpi).1
      · rw [(both_iff.1 hpi).2]; exact hf
    · simp only [Bool.or_eq_true] at hpi hpj
      rcases hpi with hpi | hpi <;> rcases hpj with hpj | hpj
      · exact hp.agr i j hi hj hpi hpj
      · have h1 := hp.from' i hi hpi
        have h2 := (hpf i hi hpi).2
        have hpj := both_iff.1 hpj
        rw [hpj.1, hpj.2]
        exact ⟨fun h => by omega, fun h => absurd h h2⟩
      · have h1 := hp.from' j hj hpj
        have h2 := (hpf j hj hpj).2
        have hpi := both_iff.1 hpi
        rw [hpi.1, hpi.2]
        exact ⟨fun h => by omega, fun h => absurd h.symm h2⟩
      · have hpi := both_iff.1 hpi
        have hpj := both_iff.1 hpj
        rw [hpi.1, hpi.2, hpj.1, hpj.2]; simp
    · rw [cnt_split _ (both a b x y)]
      unfold common
      congr 1
      · unfold cnt; congr 2; funext i; cases p i <;> cases both a b x y i <;> rfl
      · rw [← hpc]
        unfold cnt; congr 1
        apply List.filter_congr
        intro i hi
        have hi' := List.mem_range.1 hi
        cases hpi : p i with
        | false => cases both a b x y i <;> rfl
        | true =>
          cases hbi : both a b x y i with
          | false => rfl
          | true => exact absurd (both_iff.1 hbi).2 (hpf i hi' hpi).2
  · by_cases he : ∃ i, i < a.length ∧ p i = true ∧ a[i]! = x ∧ b[i]! = y
    · obtain ⟨i0, hi0, hp0, ha0, hb0⟩ := he
      refine Nat.le_trans ?_ (Nat.le_max_right _ _)
      rw [cnt_split p (both a b x y)]
      refine Nat.add_le_add (cnt_le fun i hi h => by simp at h; exact h.2) (hk.top _ ⟨fun i hi h => ?_, fun i hi h => ?_, fun i j hi hj h1 h2 => ?_⟩)
      · simp only [Bool.and_eq_true, Bool.not_eq_true'] at h
        have h1 := hp.from' i hi h.1
        by_cases hx : a[i]! = x
        · have := (hp.agr i i0 hi hi0 h.1 hp0).1 (by omega)
          have h2 := h.2
          rw [both_iff.2 ⟨hx, by omega⟩] at h2; cases h2
        · omega
      · simp only [Bool.and_eq_true, Bool.not_eq_true'] at h
        rw [get_set]
        have h1 := hp.free i hi h.1
        split
        · rename_i hne
          have hby : b[i]! = y := by have := hb i hi; omega
          have := (hp.agr i i0 hi hi0 h.1 hp0).2 (by omega)
          have h2 := h.2
          rw [both_iff.2 ⟨by omega, hby⟩] at h2; cases h2
        · exact h1
      · simp only [Bool.and_eq_true] at h1 h2
        exact hp.agr i j hi hj h1.1 h2.1
    · refine Nat.le_trans (h.top p hp fun i hi hpi hx => ?_) (Nat.le_max_left _ _)
      have h1 := hq i hi hpi hx
      by_cases h2 : b[i]! = y
      · exact absurd ⟨i, hi, hpi, hx, h2⟩ he
      · omega
/-- The same, by sets of bits. -/
theorem cnt_dB {p : Nat → Bool} {n : Nat} (hn : n ≤ 9) : pop (dB p n) = cnt p n := by
  unfold pop cnt
  have e : (List.range 9).filter (fun i => (dB p n).testBit i) = (List.range n).filter p := by
    have h9 : List.range 9 = List.range n ++ (List.range (9 - n)).map (n + ·) := by
      rw [← List.range_add, show n + (9 - n) = 9 by omega]
    rw [h9, List.filter_append]
    have h1 : ((List.range (9 - n)).map (n + ·)).filter (fun i => (dB p n).testBit i) = [] := by
      rw [List.filter_eq_nil_iff]
      intro i hi
      obtain ⟨j, _, rfl⟩ := List.mem_map.1 hi
      rw [dB_bit, decide_eq_false (by omega)]; simp
    rw [h1, List.append_nil]
    apply List.filter_congr
    intro i hi
    rw [dB_bit, decide_eq_true (List.mem_range.1 hi), Bool.true_and]
  rw [e]
theorem pop_cnt {t n : Nat} (hn : n ≤ 9) (ht : t < 2 ^ n) : pop t = cnt (fun i => t.testBit i) n := by
  rw [← cnt_dB hn]
  congr 1
  apply Nat.eq_of_testBit_eq
  intro i
  rw [dB_bit]
  by_cases h : i < n
  · rw [decide_eq_true h, Bool.true_and]
  · rw [decide_eq_false h, Bool.false_and, Nat.testBit_lt_two_pow (Nat.lt_of_lt_of_le ht (Nat.pow_le_pow_right (by decide) (by omega)))]
theorem Best.stay {a b : List Int} {tk : List Bool} {m : Nat} (h9 : a.length ≤ 9) (ha : ∀ i, i < a.length → 0 ≤ a[i]!) (hb : ∀ i, i < a.length → tk[(b[i]!).toNat]? = some false) (h : Best a b 0 tk m) : Stay a b m := by
  refine ⟨?_, fun t ht hA => ?_⟩
  · obtain ⟨p, hp, rfl⟩ := h.has
    refine ⟨dB p a.length, dB_lt _ _, fun i j hi hj h1 h2 => ?_, cnt_dB h9⟩
    rw [dB_bit, Bool.and_eq_true] at h1 h2
    exact hp.agr i j hi hj h1.2 h2.2
  · rw [pop_cnt h9 ht]
    exact h.top _ ⟨fun i hi _ => ha i hi, fun i hi _ => hb i hi, fun i j hi hj h1 h2 => hA i j hi hj h1 h2⟩
end Go.Proofs.YtkfaiokiaahbaaaDoor


/- Moves: the reference, and both held against each other. -/
namespace Go.Proofs.YtkfaiokiaahbaaaDoor
open Go.AI
end Go.Proofs.YtkfaiokiaahbaaaDoor


/- ChartMoves: its function answers true. -/
namespace Go.Proofs.YtkfaiokiaahbaaaDoor
open Go.AI
/-- A row of rows of numbers. -/
structure Lists (H : Heap) (r : Value) (vals : List Value) (ls : List (List Int)) (n : Nat) : Prop where
  row : Row H r vals
  len : vals.length = n
  at' : ∀ i : Nat, i < n → Ints H vals[i]! ls[i]!
theorem Lists.keep {H H' : Heap} {r : Value} {vals : List Value} {ls : List (List Int)} {n : Nat} (h : Lists H r vals ls n) (k : Keep H H') : Lists H' r vals ls n :=
  ⟨h.row.keep k, h.len, fun i hi => (h.at' i hi).keep k⟩
theorem Lists.box {b : Nat} {H H' : Heap} {r : Value} {vals : List Value} {ls : List (List Int)} {n : Nat} (h : Lists H r vals ls n) (k : KeepX b H H') (hb : Box b H) : Lists H' r vals ls n :=
  ⟨h.row.box k hb, h.len, fun i hi => (h.at' i hi).box k hb⟩
theorem Lists.alen {H : Heap} {r : Value} {vals : List Value} {ls : List (List Int)} {n : Nat} (h : Lists H r vals ls n) : alen Tryd.prog H 41 r = some (.int .i64 n) := by
  rw [← h.len]; exact lists_len h.row
theorem Lists.addr {H : Heap} {r : Value} {vals : List Value} {ls : List (List Int)} {n : Nat} (h : Lists H r vals ls n) {i : Int} (h0 : 0 ≤ i) (h1 : i < n) : aindexAddr Tryd.prog 41 r (.int .i64 i) = some (elemAt r i.toNat) :=
  lists_addr h.row h0 (by rw [h.len]; exact h1)
theorem Lists.load {H : Heap} {r : Value} {vals : List Value} {ls : List (List Int)} {n : Nat} (h : Lists H r vals ls n) {i : Int} (h0 : 0 ≤ i) (h1 : i < n) : aload Tryd.prog 22 H (elemAt r i.toNat) = some vals[i.toNat]! :=
  lists_load h.row h0 (by rw [h.len]; exact h1)

end Go.Proofs.YtkfaiokiaahbaaaDoor


/- Joins and meets by the reference. -/
namespace Go.Proofs.YtkfaiokiaahbaaaDoor
open Go.AI
/-- Labels while those that belong together are made equal. -/
structure Lab (a b l : List Int) : Prop where
  len : l.length = a.length
  old : ∀ i, i < a.length → ∃ j, j < a.length ∧ l[i]! = a[j]! ∧ ∀ t, Fine a t → Fine b t → t[i]! = t[j]!
theorem set_at {l : List Int} {k i : Nat} {y : Int} (hk : k < l.length) : (l.set k y)[i]! = if i = k then y else l[i]! := by
  by_cases h : i = k
  · subst h; rw [if_pos rfl, getElem!_pos _ i (by rw [List.length_set]; exact hk)]; simp
  · rw [if_neg h]
    by_cases hi : i < l.length
    · rw [getElem!_pos _ i (by rw [List.length_set]; exact hi), getElem!_pos _ i hi, List.getElem_set_ne (fun e => h e.symm)]
    · rw [getElem!_neg _ i (by rw [List.length_set]; exact hi), getElem!_neg _ i hi]
theorem Lab.start (a b : List Int) : Lab a b a := ⟨rfl, fun i hi => ⟨i, hi, rfl, fun _ _ _ => rfl⟩⟩
theorem Lab.put {a b l : List Int} {i k : Nat} (h : Lab a b l) (hl : a.length = b.length) (hi : i < a.length) (hk : k < a.length) (he : a[i]! = a[k]! ∨ b[i]! = b[k]!) : Lab a b (l.set k l[i]!) := by
  refine ⟨by rw [List.length_set, h.len], fun q hq => ?_⟩
  rw [set_at (by rw [h.len]; exact hk)]
  split
  · rename_i hqk
    subst hqk
    obtain ⟨j, hj, e, ht⟩ := h.old i hi
    refine ⟨j, hj, e, fun t h1 h2 => ?_⟩
    rw [← ht t h1 h2]
    rcases he with he | he
    · exact h1.all hq hi he.symm
    · exact h2.all (by omega) (by omega) he.symm
  · exact h.old q hq
/-- What all labels are together. -/
def wt (l : List Int) : Nat := (l.map Int.toNat).sum
theorem wt_set : ∀ {l : List Int} {k : Nat} {y : Int}, k < l.length → 0 ≤ y → y < l[k]! → wt (l.set k y) < wt l
  | x :: l, 0, y, _, h0, h1 => by simp [wt] at h1 ⊢; omega
  | x :: l, k + 1, y, hk, h0, h1 => by
    have := wt_set (l := l) (k := k) (y := y) (by simpa using hk) h0 (by simpa using h1)
    simp [wt] at this ⊢; exact this
theorem set_bound {l : List Int} {k : Nat} {y : Int} {P : Int → Prop} (hl : ∀ i, i < l.length → P l[i]!) (hy : P y) : ∀ i, i < (l.set k y).length → P (l.set k y)[i]! := by
  intro i hi
  rw [List.length_set] at hi
  by_cases hk : k < l.length
  · rw [set_at hk]
    split
    · exact hy
    · exact hl i hi
  · rw [List.set_eq_of_length_le (by omega)]; exact hl i hi
/-- What the reference's joining knows in one go over all pairs. -/
structure Pass (a b l0 l : List Int) (more : Bool) (i k : Nat) : Prop where
  lab : Lab a b l
  pos : ∀ q, q < l.length → 0 ≤ l[q]!
  less : more = true → wt l < wt l0
  same : more = false → l = l0 ∧ ∀ u w, u < a.length → w < a.length → (u < i ∨ (u = i ∧ w < k)) → (a[u]! = a[w]! ∨ b[u]! = b[w]!) → ¬ l[u]! < l[w]!
theorem Pass.skip {a b l0 l : List Int} {more : Bool} {i k : Nat} (h : Pass a b l0 l more i k) (hn : ¬ ((a[i]! = a[k]! ∨ b[i]! = b[k]!) ∧ l[i]! < l[k]!)) : Pass a b l0 l more i (k + 1) :=
  ⟨h.lab, h.pos, h.less, fun hm => ⟨(h.same hm).1, fun u w hu hw hc he => by
    by_cases h1 : u = i ∧ w = k
    · obtain ⟨rfl, rfl⟩ := h1
      exact fun hlt => hn ⟨he, hlt⟩
    · exact (h.same hm).2 u w hu hw (by omega) he⟩⟩
theorem Pass.put {a b l0 l : List Int} {more : Bool} {i k : Nat} (h : Pass a b l0 l more i k) (hl : a.length = b.length) (hi : i < a.length) (hk : k < a.length) (he : a[i]! = a[k]! ∨ b[i]! = b[k]!) (hlt : l[i]! < l[k]!) : Pass a b l0 (l.set k l[i]!) true i (k + 1) :=
  ⟨h.lab.put hl hi hk he, set_bound h.pos (h.pos i (by rw [h.lab.len]; exact hi)), fun _ => by
    have h1 := wt_set (l := l) (k := k) (y := l[i]!) (by rw [h.lab.len]; exact hk) (h.pos i (by rw [h.lab.len]; exact hi)) hlt
    cases more with
    | true => have := h.less rfl; omega
    | false => rw [← (h.same rfl).1]; exact h1, fun hm => by cases hm⟩
theorem Pass.next {a b l0 l : List Int} {more : Bool} {i k : Nat} (h : Pass a b l0 l more i k) (hk : a.length ≤ k) : Pass a b l0 l more (i + 1) 0 :=
  ⟨h.lab, h.pos, h.less, fun hm => ⟨(h.same hm).1, fun u w hu hw hc he => (h.same hm).2 u w hu hw (by omega) he⟩⟩
def bn (b : Bool) : Nat := if b then 1 else 0

end Go.Proofs.YtkfaiokiaahbaaaDoor

