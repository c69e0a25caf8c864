/- What the reference's labels of a chart are. -/
import Derived.Test.YteocbhefhobehaaDoorY9
set_option linter.unusedVariables false
set_option linter.unusedSimpArgs false
namespace Go.Proofs.YteocbhefhobehaaDoor
open Go.AI
/-- One packet of a row: from where the line comes, and the labels. -/
def lkStep (l : List Int) (at' i : Nat) (s : Int × List Int) : Int × List Int :=
  let f := if 0 < i ∧ l[at' + 2 * i - 1]! ≠ 45 then -1 else s.1
  if l[at' + 2 * i]! ≠ 111 then (f, s.2) else (i, if 0 ≤ f then s.2.set i s.2[f.toNat]! else s.2)
def lkRow (l : List Int) (at' : Nat) (ys : List Int) : Nat → Int × List Int
  | 0 => (-1, ys)
  | i + 1 => lkStep l at' i (lkRow l at' ys i)
def lkAll (l : List Int) (n : Nat) : Nat → List Int
  | 0 => (List.range n).map fun (i : Nat) => (i : Int)
  | r + 1 => (lkRow l (r * (2 * n)) (lkAll l n r) n).2
theorem lkStep_fst {l : List Int} {at' i : Nat} {s : Int × List Int} (h : -1 ≤ s.1 ∧ s.1 < i ∨ s.1 = -1) : -1 ≤ (lkStep l at' i s).1 ∧ (lkStep l at' i s).1 < (i + 1 : Nat) := by
  unfold lkStep
  dsimp only
  split <;> split <;> (try dsimp only) <;> omega
theorem lkStep_len {l : List Int} {at' i : Nat} {s : Int × List Int} : (lkStep l at' i s).2.length = s.2.length := by
  unfold lkStep
  dsimp only
  generalize (if 0 < i ∧ l[at' + 2 * i - 1]! ≠ 45 then (-1 : Int) else s.1) = f
  split
  · rfl
  · dsimp only
    split <;> simp
theorem lkRow_inv {l : List Int} {at' : Nat} {ys : List Int} : ∀ i : Nat, (-1 ≤ (lkRow l at' ys i).1 ∧ (lkRow l at' ys i).1 < i) ∧ (lkRow l at' ys i).2.length = ys.length
  | 0 => ⟨by simp [lkRow], rfl⟩
  | i + 1 => by
    have := lkRow_inv (l := l) (at' := at') (ys := ys) i
    rw [lkRow]
    exact ⟨lkStep_fst (.inl this.1), by rw [lkStep_len]; exact this.2⟩
theorem lkAll_len {l : List Int} {n : Nat} : ∀ r, (lkAll l n r).length = n
  | 0 => by simp [lkAll]
  | r + 1 => by rw [lkAll, (lkRow_inv n).2, lkAll_len r]
/-- A character of a chart. -/
theorem drwN_at {xs : List Int} (h0 : 0 < xs.length) : ∀ {d r c : Nat}, r < d → c < 2 * xs.length - 1 → (drwN xs d)[r * (2 * xs.length) + c]? = some (ch xs ((r : Int) + 1) c)
  | d + 1, r, c, hr, hc => by
    have hl := drwN_len xs d
    have e : d * (2 * xs.length - 1 + 1) = d * (2 * xs.length) := by rw [show 2 * xs.length - 1 + 1 = 2 * xs.length by omega]
    rw [e] at hl
    rw [drwN]
    by_cases h : r < d
    · have h1 : (r + 1) * (2 * xs.length) ≤ d * (2 * xs.length) := Nat.mul_le_mul_right _ h
      rw [Nat.succ_mul] at h1
      rw [List.getElem?_append_left (by omega)]
      exact drwN_at h0 h hc
    · have : r = d := by omega
      subst this
      rw [List.getElem?_append_right (by omega), hl, Nat.add_sub_cancel_left, List.getElem?_append_left (by rw [rowL_len]; exact hc)]
      rw [rowL, List.getElem?_map, List.getElem?_range hc]
      rfl
theorem ch_o {xs : List Int} (hc : check xs = 0) {row : Int} {i : Nat} (hi : i < xs.length) : ch xs row (2 * (i : Int)) = 111 ↔ row = lev xs xs[i]!.toNat ∧ fst xs xs[i]! < lst xs xs[i]! := by
  rw [ch_even hc hi]
  constructor
  · intro h
    split at h
    · cases h
    · split at h
      · cases h
      · split at h
        · assumption
        · split at h <;> cases h
  · intro h
    rw [if_neg (fun e => by omega), if_neg (by omega), if_pos h]
theorem ch_gap {xs : List Int} {row : Int} {i : Nat} : ch xs row (2 * (i : Int) + 1) = 45 ↔ ovr xs row i (i + 1) (bk xs) = true := by
  rw [ch_odd]
  cases ovr xs row i (i + 1) (bk xs) <;> simp
theorem same_span {xs : List Int} {a b : Nat} (ha : Span xs a) (hb : Span xs b) (he : lev xs a = lev xs b) {i : Int} (h1 : fst xs a ≤ i) (h2 : i ≤ lst xs a) (h3 : fst xs b ≤ i) (h4 : i ≤ lst xs b) : a = b := by
  by_cases h : a = b
  · exact h
  · rcases lev_apart ha hb h he with h5 | h5 <;> omega
theorem set_get {l : List Int} {i k : Nat} {v : Int} (_ : i < l.length) (hk : k < l.length) : (l.set i v)[k]! = if k = i then v else l[k]! := by
  rw [getElem!_pos _ k (by rw [List.length_set]; exact hk), getElem!_pos l k hk, List.getElem_set]
  by_cases h : i = k
  · rw [if_pos h, if_pos h.symm]
  · rw [if_neg h, if_neg (fun e => h e.symm)]
theorem lkRow_chart {xs : List Int} (hc : check xs = 0) {d r : Nat} (hr : r < d + 1) {ys : List Int} (hl : ys.length = xs.length)
    (hA : ∀ k, k < xs.length → ys[k]! = if lev xs xs[k]!.toNat ≤ r then fst xs xs[k]! else (k : Int)) : ∀ i, i ≤ xs.length →
    (∀ k, k < xs.length → (lkRow (drwN xs (d + 1)) (r * (2 * xs.length)) ys i).2[k]! = if lev xs xs[k]!.toNat ≤ r ∨ lev xs xs[k]!.toNat = (r : Int) + 1 ∧ k < i then fst xs xs[k]! else (k : Int)) ∧
    (∀ b : Nat, b < bk xs → lev xs b = (r : Int) + 1 → fst xs b < i → (i : Int) ≤ lst xs b → 0 ≤ (lkRow (drwN xs (d + 1)) (r * (2 * xs.length)) ys i).1 ∧ xs[(lkRow (drwN xs (d + 1)) (r * (2 * xs.length)) ys i).1.toNat]! = (b : Int))
  | 0, _ => by
    refine ⟨fun k hk => ?_, fun b hb _ h1 _ => ?_⟩
    · rw [lkRow]
      have := hA k hk
      rw [this]
      by_cases h : lev xs xs[k]!.toNat ≤ r
      · rw [if_pos h, if_pos (.inl h)]
      · rw [if_neg h, if_neg (fun e => e.elim h (fun e => by omega))]
    · have := (span_blk hc hb).f0; omega
  | i + 1, hi => by
    obtain ⟨ih1, ih2⟩ := lkRow_chart hc hr hl hA i (by omega)
    obtain ⟨⟨f0, f1⟩, hlen⟩ := lkRow_inv (l := drwN xs (d + 1)) (at' := r * (2 * xs.length)) (ys := ys) i
    rw [lkRow]
    generalize lkRow (drwN xs (d + 1)) (r * (2 * xs.length)) ys i = s at ih1 ih2 f0 f1 hlen
    obtain ⟨f, zs⟩ := s
    dsimp only at ih1 ih2 f0 f1 hlen
    have hzl : zs.length = xs.length := by rw [hlen, hl]
    have hix : i < xs.length := by omega
    obtain ⟨b0, b1, b2⟩ := blk_of hc hix
    have hs : Span xs xs[i]!.toNat := span_blk hc b1
    have hof := hs.of i hix b2.symm
    have h0 : (drwN xs (d + 1))[r * (2 * xs.length) + 2 * i]! = ch xs ((r : Int) + 1) (2 * (i : Int)) := by
      rw [List.getElem!_eq_getElem?_getD, drwN_at (by omega) hr (by omega)]
      simp
    have hg : 0 < i → ((drwN xs (d + 1))[r * (2 * xs.length) + 2 * i - 1]! = 45 ↔ ovr xs ((r : Int) + 1) ((i : Int) - 1) i (bk xs) = true) := by
      intro hi0
      have e : r * (2 * xs.length) + 2 * i - 1 = r * (2 * xs.length) + (2 * (i - 1) + 1) := by omega
      have h1 : (drwN xs (d + 1))[r * (2 * xs.length) + (2 * (i - 1) + 1)]! = ch xs ((r : Int) + 1) (2 * ((i - 1 : Nat) : Int) + 1) := by
        rw [List.getElem!_eq_getElem?_getD, drwN_at (by omega) hr (by omega)]
        simp
      rw [e, h1, ch_gap, show ((i - 1 : Nat) : Int) = (i : Int) - 1 by omega, show (i : Int) - 1 + 1 = i by omega]
    have hdash : ∀ b : Nat, b < bk xs → lev xs b = (r : Int) + 1 → fst xs b < i → (i : Int) ≤ lst xs b → ¬ (0 < i ∧ (drwN xs (d + 1))[r * (2 * xs.length) + 2 * i - 1]! ≠ 45) := by
      rintro b hb h1 h2 h3 ⟨h4, h5⟩
      exact h5 ((hg h4).2 (ovr_iff.2 ⟨b, hb, h1, by omega, h3⟩))
    unfold lkStep
    dsimp only
    rw [h0]
    by_cases ho : ch xs ((r : Int) + 1) (2 * (i : Int)) = 111
    · rw [if_neg (fun h => h ho)]
      obtain ⟨ho1, ho2⟩ := (ch_o hc hix).1 ho
      dsimp only
      refine ⟨fun k hk => ?_, fun b hb h1 h2 h3 => ⟨by omega, ?_⟩⟩
      · by_cases hfi : fst xs xs[i]! < i
        · rw [b2] at hof
          obtain ⟨g1, g2⟩ := ih2 xs[i]!.toNat b1 ho1.symm (by rw [b2]; exact hfi) (by rw [b2]; exact hof.2)
          rw [if_neg (hdash xs[i]!.toNat b1 ho1.symm (by rw [b2]; exact hfi) (by rw [b2]; exact hof.2)), if_pos g1, set_get (by omega) (by omega)]
          by_cases hki : k = i
          · subst hki
            rw [if_pos rfl, if_pos (.inr ⟨ho1.symm, by omega⟩), ih1 f.toNat (by omega), g2, b2, if_pos (.inr ⟨ho1.symm, by omega⟩)]
          · rw [if_neg hki, ih1 k hk]
            by_cases h5 : lev xs xs[k]!.toNat ≤ r ∨ lev xs xs[k]!.toNat = (r : Int) + 1 ∧ k < i
            · rw [if_pos h5, if_pos (h5.imp id fun e => ⟨e.1, by omega⟩)]
            · rw [if_neg h5, if_neg (fun e => h5 (e.imp id fun e => ⟨e.1, by omega⟩))]
        · rw [b2] at hof
          have hfe : fst xs xs[i]! = i := by omega
          have hneg : (if 0 < i ∧ (drwN xs (d + 1))[r * (2 * xs.length) + 2 * i - 1]! ≠ 45 then (-1 : Int) else f) = -1 := by
            by_cases hi0 : 0 < i
            · rw [if_pos]
              refine ⟨hi0, fun e => ?_⟩
              obtain ⟨b, hb, h1, h2, h3⟩ := ovr_iff.1 ((hg hi0).1 e)
              have := same_span (span_blk hc hb) hs (by rw [h1, ho1]) (i := i) (by omega) h3 (by rw [b2]; omega) (by rw [b2]; omega)
              subst this
              rw [b2] at h2; omega
            · rw [if_neg (fun e => hi0 e.1)]; omega
          rw [hneg, if_neg (by omega), ih1 k hk]
          by_cases hki : k = i
          · subst hki
            rw [if_neg (fun e => by omega), if_pos (.inr ⟨ho1.symm, by omega⟩), hfe]
          · by_cases h5 : lev xs xs[k]!.toNat ≤ r ∨ lev xs xs[k]!.toNat = (r : Int) + 1 ∧ k < i
            · rw [if_pos h5, if_pos (h5.imp id fun e => ⟨e.1, by omega⟩)]
            · rw [if_neg h5, if_neg (fun e => h5 (e.imp id fun e => ⟨e.1, by omega⟩))]
      · have := same_span (span_blk hc hb) hs (by rw [h1, ho1]) (i := i) (by omega) (by omega) hof.1 hof.2
        rw [this, Int.toNat_natCast, b2]
    · rw [if_pos ho]
      dsimp only
      refine ⟨fun k hk => ?_, fun b hb h1 h2 h3 => ?_⟩
      · rw [ih1 k hk]
        by_cases hki : k = i
        · subst hki
          by_cases h6 : lev xs xs[k]!.toNat = (r : Int) + 1
          · have hlone : ¬ fst xs xs[k]! < lst xs xs[k]! := fun e => ho ((ch_o hc hix).2 ⟨h6.symm, e⟩)
            rw [b2] at hof
            rw [if_neg (fun e => by omega), if_pos (.inr ⟨h6, by omega⟩)]
            omega
          · by_cases h5 : lev xs xs[k]!.toNat ≤ r
            · rw [if_pos (.inl h5), if_pos (.inl h5)]
            · rw [if_neg (fun e => by omega), if_neg (fun e => by omega)]
        · by_cases h5 : lev xs xs[k]!.toNat ≤ r ∨ lev xs xs[k]!.toNat = (r : Int) + 1 ∧ k < i
          · rw [if_pos h5, if_pos (h5.imp id fun e => ⟨e.1, by omega⟩)]
          · rw [if_neg h5, if_neg (fun e => h5 (e.imp id fun e => ⟨e.1, by omega⟩))]
      · have hsb := span_blk hc hb
        have hfi : fst xs b < i := by
          by_cases hfe : fst xs b = i
          · exfalso
            have hfa := hsb.fa
            rw [hfe, Int.toNat_natCast] at hfa
            refine ho ((ch_o hc hix).2 ?_)
            rw [hfa, Int.toNat_natCast]
            exact ⟨h1.symm, by omega⟩
          · omega
        rw [if_neg (hdash b hb h1 hfi (by omega))]
        exact ih2 b hb h1 hfi (by omega)
theorem lkAll_chart {xs : List Int} (hc : check xs = 0) {d : Nat} : ∀ r, r ≤ d + 1 → ∀ k, k < xs.length → (lkAll (drwN xs (d + 1)) xs.length r)[k]! = if lev xs xs[k]!.toNat ≤ r then fst xs xs[k]! else (k : Int)
  | 0, _, k, hk => by
    have := lev_pos xs xs[k]!.toNat
    rw [if_neg (by omega), lkAll, getElem!_pos _ k (by simpa using hk)]
    simp
  | r + 1, hr, k, hk => by
    have ih := lkAll_chart hc (d := d) r (by omega)
    have := (lkRow_chart hc (d := d) (r := r) (by omega) (lkAll_len r) ih xs.length (Nat.le_refl _)).1 k hk
    rw [lkAll, this]
    by_cases h : lev xs xs[k]!.toNat ≤ ((r + 1 : Nat) : Int)
    · rw [if_pos h, if_pos]
      omega
    · rw [if_neg h, if_neg]
      omega
theorem lk_back {xs : List Int} (hc : check xs = 0) {d : Nat} (hd : deepN xs (bk xs) ≤ d) : num (lkAll (drwN xs (d + 1)) xs.length (d + 1)) [] = xs := by
  have e : lkAll (drwN xs (d + 1)) xs.length (d + 1) = xs.map (fst xs) := by
    apply List.ext_getElem (by rw [lkAll_len]; simp)
    intro i h1 h2
    have hi : i < xs.length := by simpa using h2
    obtain ⟨b0, b1, b2⟩ := blk_of hc hi
    have hg := deepN_ge xs b1
    have := lkAll_chart hc (d := d) (d + 1) (Nat.le_refl _) i hi
    rw [getElem!_pos _ i h1, if_pos (by omega), getElem!_pos xs i hi] at this
    rw [this]; simp
  rw [e, num_inj (fst xs) xs]
  · exact num_canon hc
  · intro a b ha hb hab
    obtain ⟨i, hi, rfl⟩ := List.getElem_of_mem ha
    obtain ⟨j, hj, rfl⟩ := List.getElem_of_mem hb
    have sa : Span xs xs[i] := span_of hi (getElem!_pos xs i hi)
    have sb : Span xs xs[j] := span_of hj (getElem!_pos xs j hj)
    have := sa.fa
    rw [hab, sb.fa] at this
    exact this.symm
end Go.Proofs.YteocbhefhobehaaDoor
