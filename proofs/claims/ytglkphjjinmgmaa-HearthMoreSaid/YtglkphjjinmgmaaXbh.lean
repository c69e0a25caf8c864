
/- HearthMore. -/
import Derived.Test.YtglkphjjinmgmaaXah
set_option linter.unusedVariables false
set_option linter.unusedSimpArgs false
namespace Go.Proofs.Ytglkphjjinmgmaa
open Go.AI
theorem at_oldG {α : Type} [Inhabited α] {l : List α} {d : α} {i : Nat} (h : i < l.length) : (l ++ [d])[i]! = l[i]! := by
  rw [getElem!_pos (l ++ [d]) i (by rw [List.length_append]; omega), List.getElem_append_left h, getElem!_pos l i h]
theorem at_newG {α : Type} [Inhabited α] {l : List α} {d : α} {n : Nat} (hn : l.length = n) : (l ++ [d])[n]! = d := by
  subst hn
  rw [getElem!_pos (l ++ [d]) l.length (by rw [List.length_append, List.length_singleton]; omega), List.getElem_append_right (Nat.le_refl _)]
  simp
theorem fok_snoc {cs : List Co} {ts : List (Int × Int)} {c : Co} (hf : FOk cs ts) (hn : cs.length < 12) (hc : CoOk c) : FOk (cs ++ [c]) ts := by
  have hl : (cs ++ [c]).length = cs.length + 1 := by rw [List.length_append, List.length_singleton]
  exact ⟨by omega, getAt_snoc hf.c hc, hf.m, fun i hi => by have := hf.t i hi; rw [hl]; omega⟩
theorem beg_snoc {e : Int} {cs : List Co} {ts : List (Int × Int)} {B : List Int} {c : Co} (hf : FOk cs ts) (h : IsBeg e cs ts B) : IsBeg e (cs ++ [c]) ts (B ++ [if c.lt then 0 else 1000000]) := by
  have hl := h.len
  have hlc : (cs ++ [c]).length = cs.length + 1 := by rw [List.length_append, List.length_singleton]
  have hlb : (B ++ [if c.lt then (0 : Int) else 1000000]).length = cs.length + 1 := by rw [List.length_append, List.length_singleton]; omega
  have arc : ∀ p, Arc e (cs ++ [c]) ts p → Arc e cs ts p ∧ p.1.toNat < cs.length ∧ p.2.toNat < cs.length ∧ coAt (cs ++ [c]) p.2 = coAt cs p.2 := fun p hp => by
    have hb : (0 ≤ p.1 ∧ p.1 < cs.length) ∧ (0 ≤ p.2 ∧ p.2 < cs.length) := by
      rcases hp.1 with h | h
      · obtain ⟨i, hi, rfl⟩ := mem_ats h
        have := hf.t i hi; omega
      · obtain ⟨i, hi, e⟩ := mem_ats h
        have := hf.t i hi
        rw [e] at this
        exact ⟨this.2.1, this.1⟩
    have e1 : coAt (cs ++ [c]) p.1 = coAt cs p.1 := at_oldG (by omega)
    have e2 : coAt (cs ++ [c]) p.2 = coAt cs p.2 := at_oldG (by omega)
    have h2 := hp.2
    rw [e1, e2] at h2
    exact ⟨⟨hp.1, h2⟩, by omega, by omega, e2⟩
  refine ⟨by omega, fun i hi => ?_, fun i hi hlit => ?_, fun p hp => ?_, fun i hi hlit => ?_⟩
  · by_cases hi2 : i < cs.length
    · rw [at_oldG (by omega)]; exact h.lo i (by omega)
    · rw [at_newG (by omega)]; split <;> decide
  · by_cases hi2 : i < cs.length
    · rw [at_oldG hi2] at hlit
      rw [at_oldG (by omega)]; exact h.lit i (by omega) hlit
    · rw [at_newG (n := i) (by omega)] at hlit
      rw [at_newG (by omega), hlit]; rfl
  · obtain ⟨a, b1, b2, e2⟩ := arc p hp
    rw [at_oldG (by omega), at_oldG (by omega), e2]
    exact h.le p a
  · by_cases hi2 : i < cs.length
    · rw [at_oldG hi2] at hlit
      rw [at_oldG (by omega)]
      rcases h.via i (by omega) hlit with h2 | ⟨p, hp, hpi, h3, h4⟩
      · exact .inl h2
      · have hok := hp.ok hf
        have e1 : coAt (cs ++ [c]) p.1 = coAt cs p.1 := at_oldG (by omega)
        have e2 : coAt (cs ++ [c]) p.2 = coAt cs p.2 := at_oldG (by omega)
        refine .inr ⟨p, ⟨hp.1, by rw [e1, e2]; exact hp.2⟩, hpi, ?_, h4⟩
        rw [at_oldG (by omega), e2]; exact h3
    · left
      rw [at_newG (n := i) (by omega)] at hlit
      rw [at_newG (by omega), hlit]; rfl
theorem emL_snoc {cs : List Co} {B0 B1 : List Int} {c : Co} {x y : Int} (h0 : B0.length = cs.length) (h1 : B1.length = cs.length) : emL (cs ++ [c]) (B0 ++ [x]) (B1 ++ [y]) = emL cs B0 B1 ++ [⟨x, y, c.bl, c.bh, c.hl, c.hh⟩] := by
  unfold emL
  rw [List.length_append, List.length_singleton, List.range_succ, List.map_append, List.map_cons, List.map_nil]
  congr 1
  · apply List.map_congr_left
    intro i hi
    have hi2 := List.mem_range.1 hi
    unfold emAt
    rw [at_oldG (by omega), at_oldG (by omega), at_oldG hi2]
  · unfold emAt
    rw [at_newG h0, at_newG h1, at_newG rfl]
theorem heat_more {cs : List Co} {B0 B1 : List Int} {c : Co} {x y m : Int} (h0 : B0.length = cs.length) (h1 : B1.length = cs.length) (hc : 0 ≤ c.hl ∧ 0 ≤ c.hh) : (heatL (emL cs B0 B1) m).1 ≤ (heatL (emL (cs ++ [c]) (B0 ++ [x]) (B1 ++ [y])) m).1 ∧ (heatL (emL cs B0 B1) m).2 ≤ (heatL (emL (cs ++ [c]) (B0 ++ [x]) (B1 ++ [y])) m).2 := by
  rw [emL_snoc h0 h1, heat_app]
  have e1 : (giv m ⟨x, y, c.bl, c.bh, c.hl, c.hh⟩).1 = if y ≤ m ∧ m < x + c.bl then c.hl else 0 := rfl
  have e2 : (giv m ⟨x, y, c.bl, c.bh, c.hl, c.hh⟩).2 = if x ≤ m ∧ m < y + c.bh then c.hh else 0 := rfl
  rw [e1, e2]
  dsimp only
  constructor
  · split <;> omega
  · split <;> omega
end Go.Proofs.Ytglkphjjinmgmaa
