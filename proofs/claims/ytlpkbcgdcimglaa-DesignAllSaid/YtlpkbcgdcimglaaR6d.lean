
/- The blocks of a partition are together its packets. -/
import Derived.Test.YtlpkbcgdcimglaaR5d
set_option linter.unusedVariables false
set_option linter.unusedSimpArgs false
namespace Go.Proofs.Ytlpkbcgdcimglaa
open Go.AI
set_option linter.unusedVariables false
set_option linter.unusedSimpArgs false
theorem sink_sum : ∀ (j : Nat) (l : List Int), j < l.length → sumL (sink j l) = sumL l
  | 0, _, _ => rfl
  | j + 1, l, hj => by
    rw [sink]
    split
    · rw [sink_sum j _ (by rw [List.length_set, List.length_set]; omega), sumL_set _ _ _ (by rw [List.length_set]; omega), sumL_set _ _ _ hj, get_set (by omega), if_neg (by omega)]
      omega
    · rfl
theorem sort_sum {l : List Int} : ∀ i, i < l.length → sumL (sortN l i) = sumL l
  | 0, _ => rfl
  | i + 1, hi => by rw [sortN, sink_sum _ _ (by rw [sort_len]; exact hi), sort_sum i (by omega)]
theorem hist_sum : ∀ (cs l : List Int), (∀ i, i < cs.length → 0 ≤ cs[i]! ∧ cs[i]! < l.length) → sumL (histL l cs) = sumL l + cs.length
  | [], _, _ => by simp [histL]
  | c :: cs, l, h => by
    have h0 := h 0 (by simp)
    have hc : 0 ≤ c ∧ c < l.length := h0
    rw [histL, hist_sum cs _ (fun i hi => by
      have := h (i + 1) (by simp; omega)
      rw [cons_at hi] at this
      rw [List.length_set]; exact this), sumL_set _ _ _ (by omega), List.length_cons]
    omega
theorem blocks_sum {p : List Int} (h : ∀ i, i < p.length → 0 ≤ p[i]! ∧ p[i]! < 9) : sumL (blocksN p) = p.length := by
  rw [blocksN, sort_sum 8 (by rw [histL_len]; decide), hist_sum p z9 h]
  simp [z9, sumL]
theorem rem_sum {bl : List Int} (hl : bl.length = 9) (hb : AllN (fun x => 0 ≤ x ∧ x ≤ 9) bl) : (remS bl 9 : Int) = sumL bl := by
  obtain ⟨a, b, c, d, e, f, g, h, i, rfl⟩ : ∃ a b c d e f g h i, bl = [a, b, c, d, e, f, g, h, i] := by
    match bl, hl with
    | [a, b, c, d, e, f, g, h, i], _ => exact ⟨a, b, c, d, e, f, g, h, i, rfl⟩
  have h0 : ((a.toNat : Nat) : Int) = a := Int.toNat_of_nonneg (show 0 ≤ a from (hb 0 (by simp)).1)
  have h1 : ((b.toNat : Nat) : Int) = b := Int.toNat_of_nonneg (show 0 ≤ b from (hb 1 (by simp)).1)
  have h2 : ((c.toNat : Nat) : Int) = c := Int.toNat_of_nonneg (show 0 ≤ c from (hb 2 (by simp)).1)
  have h3 : ((d.toNat : Nat) : Int) = d := Int.toNat_of_nonneg (show 0 ≤ d from (hb 3 (by simp)).1)
  have h4 : ((e.toNat : Nat) : Int) = e := Int.toNat_of_nonneg (show 0 ≤ e from (hb 4 (by simp)).1)
  have h5 : ((f.toNat : Nat) : Int) = f := Int.toNat_of_nonneg (show 0 ≤ f from (hb 5 (by simp)).1)
  have h6 : ((g.toNat : Nat) : Int) = g := Int.toNat_of_nonneg (show 0 ≤ g from (hb 6 (by simp)).1)
  have h7 : ((h.toNat : Nat) : Int) = h := Int.toNat_of_nonneg (show 0 ≤ h from (hb 7 (by simp)).1)
  have h8 : ((i.toNat : Nat) : Int) = i := Int.toNat_of_nonneg (show 0 ≤ i from (hb 8 (by simp)).1)
  have er : remS [a, b, c, d, e, f, g, h, i] 9 = a.toNat + (b.toNat + (c.toNat + (d.toNat + (e.toNat + (f.toNat + (g.toNat + (h.toNat + (i.toNat + 0)))))))) := rfl
  have es : sumL [a, b, c, d, e, f, g, h, i] = a + (b + (c + (d + (e + (f + (g + (h + (i + 0)))))))) := rfl
  rw [er, es]
  simp only [Int.natCast_add, h0, h1, h2, h3, h4, h5, h6, h7, h8]
  rfl
end Go.Proofs.Ytlpkbcgdcimglaa
