
/- Places: who is before whom. -/
import Derived.Test.YtcpklnekpdhlmaaSas
set_option linter.unusedVariables false
set_option linter.unusedSimpArgs false
namespace Go.Proofs.Ytcpklnekpdhlmaa
open Go.AI
def cntN (p : Nat → Bool) : Nat → Nat
  | 0 => 0
  | n + 1 => cntN p n + (if p n = true then 1 else 0)
theorem cntN_le (p : Nat → Bool) : ∀ n, cntN p n ≤ n
  | 0 => Nat.le_refl _
  | n + 1 => by have := cntN_le p n; rw [cntN]; split <;> omega
theorem cntN_congr {p q : Nat → Bool} : ∀ n, (∀ j, j < n → p j = q j) → cntN p n = cntN q n
  | 0, _ => rfl
  | n + 1, h => by rw [cntN, cntN, cntN_congr n fun j hj => h j (by omega), h n (by omega)]
theorem cntN_mono {p q : Nat → Bool} : ∀ n, (∀ j, j < n → p j = true → q j = true) → cntN p n ≤ cntN q n
  | 0, _ => Nat.le_refl _
  | n + 1, h => by
    have := cntN_mono (p := p) (q := q) n fun j hj => h j (by omega)
    have h2 := h n (by omega)
    rw [cntN, cntN]
    by_cases hp : p n = true
    · rw [if_pos hp, if_pos (h2 hp)]; omega
    · rw [if_neg hp]; split <;> omega
theorem cntN_lt {p q : Nat → Bool} : ∀ n, (∀ j, j < n → p j = true → q j = true) → ∀ x, x < n → p x = false → q x = true → cntN p n < cntN q n
  | 0, _, x, hx, _, _ => by omega
  | n + 1, h, x, hx, hp, hq => by
    rw [cntN, cntN]
    by_cases e : x = n
    · subst e
      have := cntN_mono (p := p) (q := q) x fun j hj => h j (by omega)
      rw [if_neg (by rw [hp]; decide), if_pos hq]; omega
    · have := cntN_lt (p := p) (q := q) n (fun j hj => h j (by omega)) x (by omega) hp hq
      have h2 := h n (by omega)
      by_cases hp : p n = true
      · rw [if_pos hp, if_pos (h2 hp)]; omega
      · rw [if_neg hp]; split <;> omega
theorem cntN_filter (p : Nat → Bool) : ∀ n, cntN p n = ((List.range n).filter p).length
  | 0 => rfl
  | n + 1 => by
    rw [cntN, cntN_filter p n, List.range_succ, List.filter_append, List.length_append]
    congr 1
    by_cases h : p n = true
    · rw [if_pos h, List.filter_cons_of_pos h]; rfl
    · rw [if_neg h, List.filter_cons_of_neg h]; rfl
theorem cntN_not (p : Nat → Bool) : ∀ n, cntN p n + cntN (fun j => !p j) n = n
  | 0 => rfl
  | n + 1 => by
    have := cntN_not p n
    rw [cntN, cntN]
    cases h : p n <;> simp <;> omega
theorem cntN_inj {p : Nat → Bool} {f : Nat → Nat} {n : Nat} (hf : ∀ i, i < n → f i < n) (hi : ∀ i j, i < n → j < n → f i = f j → i = j) : cntN (fun j => p (f j)) n ≤ cntN p n := by
  rw [cntN_filter, cntN_filter, ← List.length_map (f := f)]
  apply List.Nodup.length_le_of_subset
  · rw [List.nodup_iff_pairwise_ne, List.pairwise_map]
    have hn : ((List.range n).filter fun j => p (f j)).Nodup := List.Nodup.sublist List.filter_sublist List.nodup_range
    rw [List.nodup_iff_pairwise_ne] at hn
    refine List.Pairwise.imp_of_mem (fun {a b} ha hb hab e => hab ?_) hn
    have ha := List.mem_range.1 (List.mem_filter.1 ha).1
    have hb := List.mem_range.1 (List.mem_filter.1 hb).1
    exact hi a b ha hb e
  · intro x hx
    obtain ⟨j, hj, rfl⟩ := List.mem_map.1 hx
    have h := List.mem_filter.1 hj
    exact List.mem_filter.2 ⟨List.mem_range.2 (hf j (List.mem_range.1 h.1)), h.2⟩
theorem cntN_perm {p : Nat → Bool} {f : Nat → Nat} {n : Nat} (hf : ∀ i, i < n → f i < n) (hi : ∀ i j, i < n → j < n → f i = f j → i = j) : cntN (fun j => p (f j)) n = cntN p n := by
  have h1 := cntN_inj (p := p) hf hi
  have h2 := cntN_inj (p := fun j => !p j) hf hi
  have h3 := cntN_not p n
  have h4 := cntN_not (fun j => p (f j)) n
  omega
/-- Who has more of the first key in which they differ is before. -/
def bef : List Int → (Int → Int) → (Int → Int) → Bool
  | [], _, _ => false
  | k :: ks, f, g => if f k = g k then bef ks f g else decide (g k < f k)
theorem bef_irr : ∀ (ks : List Int) (f : Int → Int), bef ks f f = false
  | [], _ => rfl
  | k :: ks, f => by rw [bef, if_pos rfl]; exact bef_irr ks f
theorem bef_trans : ∀ (ks : List Int) {f g h : Int → Int}, bef ks f g = true → bef ks g h = true → bef ks f h = true
  | [], _, _, _, h, _ => by cases h
  | k :: ks, f, g, h, h1, h2 => by
    rw [bef] at h1 h2 ⊢
    by_cases e1 : f k = g k
    · rw [if_pos e1] at h1
      by_cases e2 : g k = h k
      · rw [if_pos e2] at h2; rw [if_pos (e1.trans e2)]; exact bef_trans ks h1 h2
      · rw [if_neg e2] at h2; rw [if_neg (by rw [e1]; exact e2), e1]; exact h2
    · rw [if_neg e1] at h1
      have l1 := of_decide_eq_true h1
      by_cases e2 : g k = h k
      · rw [if_neg (by rw [← e2]; exact e1), ← e2]; exact h1
      · rw [if_neg e2] at h2
        have l2 := of_decide_eq_true h2
        rw [if_neg (by omega)]; exact decide_eq_true (by omega)
theorem bef_tot : ∀ (ks : List Int) {f g : Int → Int}, bef ks f g = false → bef ks g f = false → ∀ k, k ∈ ks → f k = g k
  | [], _, _, _, _, _, h => by cases h
  | k :: ks, f, g, h1, h2, q, hq => by
    rw [bef] at h1 h2
    by_cases e1 : f k = g k
    · rw [if_pos e1] at h1
      rw [if_pos e1.symm] at h2
      rcases List.mem_cons.1 hq with rfl | hq
      · exact e1
      · exact bef_tot ks h1 h2 q hq
    · rw [if_neg e1] at h1
      rw [if_neg (fun h => e1 h.symm)] at h2
      have l1 := of_decide_eq_false h1
      have l2 := of_decide_eq_false h2
      omega
theorem bef_congr : ∀ (ks : List Int) {f g f' g' : Int → Int}, (∀ k, k ∈ ks → f k = f' k ∧ g k = g' k) → bef ks f g = bef ks f' g'
  | [], _, _, _, _, _ => rfl
  | k :: ks, f, g, f', g', h => by
    obtain ⟨a, b⟩ := h k (by simp)
    rw [bef, bef, a, b, bef_congr ks fun q hq => h q (by simp [hq])]
/-- The place of a guest. -/
def plN (ks : List Int) (F : Nat → Int → Int) (n i : Nat) : Nat := 1 + cntN (fun j => bef ks (F j) (F i)) n
theorem pl_lt {ks : List Int} {F : Nat → Int → Int} {n i k : Nat} (hi : i < n) (hk : k < n) : plN ks F n k < plN ks F n i ↔ bef ks (F k) (F i) = true := by
  constructor
  · intro h
    cases hb : bef ks (F k) (F i) with
    | true => rfl
    | false =>
      exfalso
      cases hb2 : bef ks (F i) (F k) with
      | true =>
        have := cntN_lt (p := fun j => bef ks (F j) (F i)) (q := fun j => bef ks (F j) (F k)) n (fun j _ hj => bef_trans ks hj hb2) i hi (bef_irr ks _) hb2
        unfold plN at h; omega
      | false =>
        have he := bef_tot ks hb hb2
        have := cntN_congr (p := fun j => bef ks (F j) (F i)) (q := fun j => bef ks (F j) (F k)) n fun j _ => bef_congr ks fun q hq => ⟨rfl, (he q hq).symm⟩
        unfold plN at h; omega
  · intro hb
    have := cntN_lt (p := fun j => bef ks (F j) (F k)) (q := fun j => bef ks (F j) (F i)) n (fun j _ hj => bef_trans ks hj hb) k hk (bef_irr ks _) hb
    unfold plN; omega
theorem pl_count {ks : List Int} {F : Nat → Int → Int} {n i : Nat} (hi : i < n) : cntN (fun k => decide (plN ks F n k < plN ks F n i)) n + 1 = plN ks F n i := by
  have : cntN (fun k => decide (plN ks F n k < plN ks F n i)) n = cntN (fun j => bef ks (F j) (F i)) n := cntN_congr n fun k hk => by
    have h := pl_lt (ks := ks) (F := F) hi hk
    cases hb : bef ks (F k) (F i) with
    | true => exact decide_eq_true (h.2 hb)
    | false => exact decide_eq_false fun hl => by rw [h.1 hl] at hb; cases hb
  rw [this, plN]; omega
theorem pl_same {ks : List Int} {F : Nat → Int → Int} {n i k : Nat} (hi : i < n) (hk : k < n) (h : plN ks F n k = plN ks F n i) : ∀ q, q ∈ ks → F k q = F i q := by
  refine bef_tot ks ?_ ?_
  · cases hb : bef ks (F k) (F i) with
    | false => rfl
    | true => have := (pl_lt hi hk).2 hb; omega
  · cases hb : bef ks (F i) (F k) with
    | false => rfl
    | true => have := (pl_lt hk hi).2 hb; omega
theorem pl_perm {ks : List Int} {F G : Nat → Int → Int} {n : Nat} {f : Nat → Nat} (hf : ∀ i, i < n → f i < n) (hi : ∀ i j, i < n → j < n → f i = f j → i = j) (hG : ∀ i, i < n → ∀ q, q ∈ ks → G i q = F (f i) q) {i : Nat} (h : i < n) : plN ks G n i = plN ks F n (f i) := by
  unfold plN
  rw [← cntN_perm (p := fun j => bef ks (F j) (F (f i))) hf hi]
  congr 1
  exact cntN_congr n fun j hj => bef_congr ks fun q hq => ⟨hG j hj q hq, hG i h q hq⟩
theorem plN_bound (ks : List Int) (F : Nat → Int → Int) (n i : Nat) : 1 ≤ plN ks F n i ∧ plN ks F n i ≤ n + 1 := by
  have := cntN_le (fun j => bef ks (F j) (F i)) n
  unfold plN; omega
end Go.Proofs.Ytcpklnekpdhlmaa
