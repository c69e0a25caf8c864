
/- Other numbers, equal just where they were equal: the same marks. -/
import Derived.Test.YtcpklnekpdhlmaaSbs
set_option linter.unusedVariables false
set_option linter.unusedSimpArgs false
namespace Go.Proofs.Ytcpklnekpdhlmaa
open Go.AI
structure Same (ws us : List Int) : Prop where
  len : us.length = ws.length
  wr : ∀ i, i < ws.length → (ws[i]! = -1 ↔ us[i]! = -1)
  eq : ∀ i k, i < ws.length → k < ws.length → (ws[i]! = ws[k]! ↔ us[i]! = us[k]!)
variable {ts ws us : List Int}
theorem Same.wrt (h : Same ws us) {i : Nat} (hi : i < ws.length) : wrt ws i = wrt us i := by
  unfold Go.Proofs.Ytcpklnekpdhlmaa.wrt
  have := h.wr i hi
  by_cases h1 : ws[i]! = -1
  · rw [decide_eq_false (p := ws[i]! ≠ -1) (fun g => g h1), decide_eq_false (p := us[i]! ≠ -1) (fun g => g (this.1 h1))]
  · rw [decide_eq_true h1, decide_eq_true (p := us[i]! ≠ -1) (fun g => h1 (this.2 g))]
theorem Same.prR (h : Same ws us) {i k : Nat} (hi : i < ws.length) (hk : k < ws.length) : prR ts ws k i = prR ts us k i := by
  unfold Go.Proofs.Ytcpklnekpdhlmaa.prR
  have := h.eq i k hi hk
  by_cases h1 : ws[i]! = ws[k]!
  · rw [decide_eq_true h1, decide_eq_true (this.1 h1)]
  · rw [decide_eq_false h1, decide_eq_false (fun g => h1 (this.2 g))]
theorem Same.rt (h : Same ws us) {k : Nat} (hk : k < ws.length) : ∀ i, i ≤ ws.length → rtN ts ws k i = rtN ts us k i ∧ wgN ts ws k i = wgN ts us k i
  | 0, _ => ⟨rfl, rfl⟩
  | i + 1, hi => by
    obtain ⟨h1, h2⟩ := h.rt hk i (by omega)
    rw [rtN, rtN, wgN, wgN, h1, h2, h.wrt (by omega), h.prR (by omega) hk]
    exact ⟨rfl, rfl⟩
theorem Same.nums (h : Same ws us) : ∀ i, i ≤ ws.length → pkN ts ws i = pkN ts us i ∧ wrN ts ws i = wrN ts us i ∧ prN ts ws i = prN ts us i ∧ stN ts ws i = stN ts us i
  | 0, _ => ⟨rfl, rfl, rfl, rfl⟩
  | i + 1, hi => by
    obtain ⟨h1, h2, h3, h4⟩ := h.nums i (by omega)
    obtain ⟨h5, h6⟩ := h.rt (ts := ts) (k := i) (by omega) i (by omega)
    rw [pkN, pkN, wrN, wrN, prN, prN, stN, stN, h1, h2, h3, h4, h5, h6, h.wrt (by omega)]
    exact ⟨rfl, rfl, rfl, rfl⟩
theorem mem_take {l : List Int} {x : Int} {i : Nat} (hi : i ≤ l.length) : x ∈ l.take i ↔ ∃ j, j < i ∧ l[j]! = x := by
  constructor
  · intro h
    obtain ⟨j, hj, he⟩ := List.getElem_of_mem h
    rw [List.length_take] at hj
    rw [List.getElem_take] at he
    exact ⟨j, by omega, by rw [getElem!_pos l j (by omega)]; exact he⟩
  · rintro ⟨j, hj, rfl⟩
    rw [getElem!_pos l j (by omega)]
    have : (l.take i)[j]'(by rw [List.length_take]; omega) = l[j] := List.getElem_take
    rw [← this]; exact List.getElem_mem _
theorem mem_drop {l : List Int} {x : Int} {i : Nat} : x ∈ l.drop i ↔ ∃ j, i ≤ j ∧ j < l.length ∧ l[j]! = x := by
  constructor
  · intro h
    obtain ⟨j, hj, he⟩ := List.getElem_of_mem h
    rw [List.length_drop] at hj
    rw [List.getElem_drop] at he
    exact ⟨i + j, by omega, by omega, by rw [getElem!_pos l (i + j) (by omega)]; exact he⟩
  · rintro ⟨j, h1, h2, rfl⟩
    rw [getElem!_pos l j h2]
    have : (l.drop i)[j - i]'(by rw [List.length_drop]; omega) = l[j] := by rw [List.getElem_drop]; congr 1; omega
    rw [← this]; exact List.getElem_mem _
theorem Same.alo (h : Same ws us) {i : Nat} (hi : i < ws.length) : alo ws i = alo us i := by
  have e := h.len
  have h1 : ws[i]! ∈ ws.take i ↔ us[i]! ∈ us.take i := by
    rw [mem_take (by omega), mem_take (by omega)]
    exact ⟨fun ⟨j, hj, he⟩ => ⟨j, hj, (h.eq j i (by omega) hi).1 he⟩, fun ⟨j, hj, he⟩ => ⟨j, hj, (h.eq j i (by omega) hi).2 he⟩⟩
  have h2 : ws[i]! ∈ ws.drop (i + 1) ↔ us[i]! ∈ us.drop (i + 1) := by
    rw [mem_drop, mem_drop]
    exact ⟨fun ⟨j, hj, hl, he⟩ => ⟨j, hj, by omega, (h.eq j i hl hi).1 he⟩, fun ⟨j, hj, hl, he⟩ => ⟨j, hj, by omega, (h.eq j i (by omega) hi).2 he⟩⟩
  unfold Go.Proofs.Ytcpklnekpdhlmaa.alo
  by_cases g1 : ws[i]! ∈ ws.take i
  · rw [decide_eq_true g1, decide_eq_true (h1.1 g1)]; rfl
  · rw [decide_eq_false g1, decide_eq_false (fun g => g1 (h1.2 g))]
    by_cases g2 : ws[i]! ∈ ws.drop (i + 1)
    · rw [decide_eq_true g2, decide_eq_true (h2.1 g2)]
    · rw [decide_eq_false g2, decide_eq_false (fun g => g2 (h2.2 g))]
theorem Same.hd (h : Same ws us) : ∀ i, i ≤ ws.length → hdN ts ws i = hdN ts us i
  | 0, _ => rfl
  | i + 1, hi => by rw [hdN, hdN, h.hd i (by omega), h.wrt (by omega), h.alo (by omega)]
theorem mem_at {l : List Int} {x : Int} : x ∈ l ↔ ∃ j, j < l.length ∧ l[j]! = x := by
  have := mem_drop (l := l) (x := x) (i := 0)
  rw [List.drop_zero] at this
  rw [this]
  exact ⟨fun ⟨j, _, h, e⟩ => ⟨j, h, e⟩, fun ⟨j, h, e⟩ => ⟨j, Nat.zero_le _, h, e⟩⟩
theorem Same.num (h : Same ws us) (h0 : 0 < ws.length) (h9 : ws.length ≤ 9) : num ws [] = num us [] := by
  have e := h.len
  refine eq_of_fine (check_of (by omega) (by omega)) (check_of (by omega) (by omega)) (by rw [num_length, num_length]; omega) (fun i j hij hi he => ?_) (fun i j hij hi he => ?_)
  · rw [num_length] at hi
    exact (num_eq (by omega) (by omega)).2 ((h.eq i j (by omega) (by omega)).1 ((num_eq (by omega) (by omega)).1 he))
  · rw [num_length] at hi
    exact (num_eq (by omega) (by omega)).2 ((h.eq i j (by omega) (by omega)).2 ((num_eq (by omega) (by omega)).1 he))
theorem Same.hon (h : Same ws us) (h0 : 0 < ws.length) (h9 : ws.length ≤ 9) {x : Int} (hx : Hon ts ws x) : Hon ts us x := by
  have e := h.len
  have hm : -1 ∈ ws ↔ -1 ∈ us := by
    rw [mem_at, mem_at]
    exact ⟨fun ⟨j, hj, he⟩ => ⟨j, by omega, (h.wr j hj).1 he⟩, fun ⟨j, hj, he⟩ => ⟨j, by omega, (h.wr j (by omega)).2 he⟩⟩
  rcases hx with ⟨h1, h2⟩ | ⟨h1, m, h2, h3⟩
  · exact .inl ⟨hm.1 h1, h2⟩
  · exact .inr ⟨fun g => h1 (hm.2 g), m, by rw [← h.num h0 h9]; exact h2, by rw [e]; exact h3⟩
end Go.Proofs.Ytcpklnekpdhlmaa
