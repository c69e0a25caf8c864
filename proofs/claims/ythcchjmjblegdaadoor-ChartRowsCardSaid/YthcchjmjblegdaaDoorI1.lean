/- Levels and charts: what follows from lists alone. -/
import Derived.Test.YthcchjmjblegdaaDoorH1
namespace Go.Proofs.YthcchjmjblegdaaDoor
open Go.AI
/-- Where a block begins and where it ends, as far as a place. -/
def firstTo (xs : List Int) (b : Int) : Nat → Int
  | 0 => -1
  | i + 1 => if firstTo xs b i = -1 ∧ xs[i]! = b then i else firstTo xs b i
def lastTo (xs : List Int) (b : Int) : Nat → Int
  | 0 => -1
  | i + 1 => if xs[i]! = b then i else lastTo xs b i
theorem firstTo_spec (xs : List Int) (b : Int) : ∀ n, (firstTo xs b n = -1 ∧ ∀ i, i < n → xs[i]! ≠ b) ∨ ∃ f : Nat, firstTo xs b n = f ∧ f < n ∧ xs[f]! = b ∧ ∀ i, i < n → xs[i]! = b → f ≤ i
  | 0 => .inl ⟨rfl, fun i h => by omega⟩
  | n + 1 => by
    rw [firstTo]
    rcases firstTo_spec xs b n with ⟨h1, h2⟩ | ⟨f, h1, h2, h3, h4⟩
    · by_cases h : xs[n]! = b
      · rw [if_pos ⟨h1, h⟩]
        exact .inr ⟨n, rfl, by omega, h, fun i hi he => by
          by_cases hin : i < n
          · exact absurd he (h2 i hin)
          · omega⟩
      · rw [if_neg (fun e => h e.2)]
        exact .inl ⟨h1, fun i hi => by
          by_cases hin : i < n
          · exact h2 i hin
          · rwa [show i = n by omega]⟩
    · rw [if_neg (by omega)]
      exact .inr ⟨f, h1, by omega, h3, fun i hi he => by
        by_cases hin : i < n
        · exact h4 i hin he
        · omega⟩
theorem lastTo_spec (xs : List Int) (b : Int) : ∀ n, (lastTo xs b n = -1 ∧ ∀ i, i < n → xs[i]! ≠ b) ∨ ∃ f : Nat, lastTo xs b n = f ∧ f < n ∧ xs[f]! = b ∧ ∀ i, i < n → xs[i]! = b → i ≤ f
  | 0 => .inl ⟨rfl, fun i h => by omega⟩
  | n + 1 => by
    rw [lastTo]
    by_cases h : xs[n]! = b
    · rw [if_pos h]
      exact .inr ⟨n, rfl, by omega, h, fun i hi he => by omega⟩
    · rw [if_neg h]
      rcases lastTo_spec xs b n with ⟨h1, h2⟩ | ⟨f, h1, h2, h3, h4⟩
      · exact .inl ⟨h1, fun i hi => by
          by_cases hin : i < n
          · exact h2 i hin
          · rwa [show i = n by omega]⟩
      · exact .inr ⟨f, h1, by omega, h3, fun i hi he => by
          by_cases hin : i < n
          · exact h4 i hin he
          · exact absurd he (by rwa [show i = n by omega])⟩
def fst (xs : List Int) (b : Int) : Int := firstTo xs b xs.length
def lst (xs : List Int) (b : Int) : Int := lastTo xs b xs.length
/-- The place of a packet lies within its block. -/
structure Span (xs : List Int) (b : Int) : Prop where
  f0 : 0 ≤ fst xs b
  fl : fst xs b ≤ lst xs b
  ln : lst xs b < xs.length
  fa : xs[(fst xs b).toNat]! = b
  la : xs[(lst xs b).toNat]! = b
  of : ∀ i : Nat, i < xs.length → xs[i]! = b → fst xs b ≤ i ∧ (i : Int) ≤ lst xs b
theorem span_of {xs : List Int} {b : Int} {i : Nat} (hi : i < xs.length) (he : xs[i]! = b) : Span xs b := by
  rcases firstTo_spec xs b xs.length with ⟨_, h2⟩ | ⟨f, f1, f2, f3, f4⟩
  · exact absurd he (h2 i hi)
  rcases lastTo_spec xs b xs.length with ⟨_, h2⟩ | ⟨l, l1, l2, l3, l4⟩
  · exact absurd he (h2 i hi)
  have e1 : fst xs b = f := f1
  have e2 : lst xs b = l := l1
  have := f4 i hi he
  have := l4 i hi he
  refine ⟨by omega, by omega, by omega, by rw [e1]; exact f3, by rw [e2]; exact l3, fun j hj hb => ⟨by have := f4 j hj hb; omega, by have := l4 j hj hb; omega⟩⟩

/-- The level of a block above those before it. -/
def levA (xs : List Int) (L : List Int) (b : Nat) : Nat → Int
  | 0 => 1
  | a + 1 => if fst xs b < lst xs a then max (levA xs L b a) (L[a]! + 1) else levA xs L b a
def levs (xs : List Int) : Nat → List Int
  | 0 => []
  | b + 1 => levs xs b ++ [levA xs (levs xs b) b b]
theorem levs_length (xs : List Int) : ∀ k, (levs xs k).length = k
  | 0 => rfl
  | k + 1 => by simp [levs, levs_length xs k]
def lev (xs : List Int) (b : Nat) : Int := levA xs (levs xs b) b b
theorem levs_at (xs : List Int) : ∀ {k a : Nat}, a < k → (levs xs k)[a]! = lev xs a
  | k + 1, a, h => by
    have hl := levs_length xs k
    by_cases hk : a < k
    · rw [← levs_at xs hk, levs, getElem!_pos _ a (by simp; omega), getElem!_pos _ a (by omega), List.getElem_append_left (by omega)]
    · have : a = k := by omega
      subst this
      rw [levs, getElem!_pos _ a (by simp; omega), List.getElem_append_right (by omega)]
      simp [hl, lev]
theorem levA_ge (xs L : List Int) (b : Nat) : ∀ {a j : Nat}, j < a → fst xs b < lst xs j → L[j]! + 1 ≤ levA xs L b a
  | a + 1, j, h, hj => by
    rw [levA]
    by_cases hk : j < a
    · have := levA_ge xs L b hk hj
      split <;> omega
    · have : j = a := by omega
      subst this
      rw [if_pos hj]; omega
theorem levA_pos (xs L : List Int) (b : Nat) : ∀ a, 1 ≤ levA xs L b a
  | 0 => by simp [levA]
  | a + 1 => by
    have := levA_pos xs L b a
    rw [levA]; split <;> omega
theorem lev_pos (xs : List Int) (b : Nat) : 1 ≤ lev xs b := levA_pos _ _ _ _
theorem lev_above {xs : List Int} {a b : Nat} (h : a < b) (hl : fst xs b < lst xs a) : lev xs a + 1 ≤ lev xs b := by
  have := levA_ge xs (levs xs b) b h hl
  rwa [levs_at xs h] at this
/-- Blocks on one level lie apart. -/
theorem lev_apart {xs : List Int} {a b : Nat} (ha : Span xs a) (hb : Span xs b) (hne : a ≠ b) (he : lev xs a = lev xs b) : lst xs a < fst xs b ∨ lst xs b < fst xs a := by
  have key : ∀ {a b : Nat}, Span xs a → Span xs b → a < b → lev xs a = lev xs b → lst xs a < fst xs b := by
    intro a b ha hb h he
    have h1 : ¬ fst xs b < lst xs a := fun hl => by have := lev_above h hl; omega
    have h2 : lst xs a ≠ fst xs b := fun h3 => by
      have h4 := ha.la
      rw [h3, hb.fa] at h4
      omega
    omega
  rcases Nat.lt_or_gt_of_ne hne with h | h
  · exact .inl (key ha hb h he)
  · exact .inr (key hb ha h he.symm)
/-- A block on a level goes over some packets. -/
def covN (xs : List Int) (row i j : Int) : Nat → Bool
  | 0 => false
  | k + 1 => covN xs row i j k || (lev xs k == row && decide (fst xs k < lst xs k) && decide (fst xs k ≤ i) && decide (j ≤ lst xs k))
theorem covN_iff {xs : List Int} {row i j : Int} : ∀ {k : Nat}, covN xs row i j k = true ↔ ∃ b : Nat, b < k ∧ lev xs b = row ∧ fst xs b < lst xs b ∧ fst xs b ≤ i ∧ j ≤ lst xs b
  | 0 => by simp [covN]
  | k + 1 => by
    rw [covN, Bool.or_eq_true, covN_iff (k := k)]
    simp only [Bool.and_eq_true, beq_iff_eq, decide_eq_true_eq]
    constructor
    · rintro (⟨b, h1, h2⟩ | ⟨⟨⟨h1, h2⟩, h3⟩, h4⟩)
      · exact ⟨b, by omega, h2⟩
      · exact ⟨k, by omega, h1, h2, h3, h4⟩
    · rintro ⟨b, h1, h2, h3, h4, h5⟩
      by_cases hb : b < k
      · exact .inl ⟨b, hb, h2, h3, h4, h5⟩
      · have : b = k := by omega
        subst this; exact .inr ⟨⟨⟨h2, h3⟩, h4⟩, h5⟩
/-- How many blocks. -/
def bk (xs : List Int) : Nat := (blkFrom xs 0).toNat
theorem bk_cast (xs : List Int) : (bk xs : Int) = blkFrom xs 0 := by
  have := blk_from_ge xs 0
  unfold bk; omega
theorem bk_le9 {xs : List Int} (h : check xs = 0) : bk xs ≤ 9 := by
  have := blk_le9 xs 0 (by omega) fun i hi => (check_bound h hi).2
  unfold bk; omega
theorem blk_take_succ {xs : List Int} {i : Nat} (h : i < xs.length) : blkFrom (xs.take (i + 1)) 0 = max (blkFrom (xs.take i) 0) (xs[i]! + 1) := by
  rw [take_snoc h, blk_snoc]
theorem checkFrom_at : ∀ (xs : List Int) (m : Int) (i : Nat), checkFrom xs m = 0 → i < xs.length → xs[i]! ≤ blkFrom (xs.take i) m
  | x :: r, m, 0, h, _ => by
    obtain ⟨h1, h2, h3, _⟩ := from_step h
    simpa [blkFrom] using h3
  | x :: r, m, i + 1, h, hi => by
    obtain ⟨h1, h2, h3, h4⟩ := from_step h
    have := checkFrom_at r _ i h4 (by simpa using hi)
    simpa [blkFrom] using this
theorem at_blk {xs : List Int} (h : check xs = 0) {i : Nat} (hi : i < xs.length) : xs[i]! ≤ blkFrom (xs.take i) 0 := checkFrom_at xs 0 i (check_from h).1 hi
/-- Each block has a packet. -/
theorem blk_onto {xs : List Int} (h : check xs = 0) : ∀ i, i ≤ xs.length → ∀ b : Int, 0 ≤ b → b < blkFrom (xs.take i) 0 → ∃ j, j < i ∧ xs[j]! = b
  | 0, _, b, h0, h1 => by simp [blkFrom] at h1; omega
  | i + 1, hi, b, h0, h1 => by
    rw [blk_take_succ (by omega)] at h1
    have h2 := at_blk h (i := i) (by omega)
    by_cases hb : b < blkFrom (xs.take i) 0
    · obtain ⟨j, hj, e⟩ := blk_onto h i (by omega) b h0 hb
      exact ⟨j, by omega, e⟩
    · exact ⟨i, by omega, by omega⟩
theorem span_blk {xs : List Int} (h : check xs = 0) {b : Nat} (hb : b < bk xs) : Span xs b := by
  have hc := bk_cast xs
  obtain ⟨j, hj, e⟩ := blk_onto h xs.length (Nat.le_refl _) b (by omega) (by rw [List.take_length]; omega)
  exact span_of hj e
theorem blk_of {xs : List Int} (h : check xs = 0) {i : Nat} (hi : i < xs.length) : 0 ≤ xs[i]! ∧ xs[i]!.toNat < bk xs ∧ ((xs[i]!.toNat : Nat) : Int) = xs[i]! := by
  have h1 := (check_bound h hi).1
  have h2 := blk_gt xs 0 i hi
  have := bk_cast xs
  exact ⟨h1, by omega, by omega⟩
theorem span_at {xs : List Int} (h : check xs = 0) {i : Nat} (hi : i < xs.length) : Span xs (xs[i]!.toNat : Nat) := span_blk h (blk_of h hi).2.1
/-- The levels are at most as many as blocks. -/
theorem levA_le (xs L : List Int) (b : Nat) (m : Int) : ∀ a, (∀ j, j < a → L[j]! ≤ m) → 0 ≤ m → levA xs L b a ≤ m + 1
  | 0, _, hm => by simp [levA]; omega
  | a + 1, h, hm => by
    have h1 := levA_le xs L b m a (fun j hj => h j (by omega)) hm
    have h2 := h a (by omega)
    rw [levA]; split <;> omega
theorem lev_le (xs : List Int) : ∀ b : Nat, lev xs b ≤ b + 1 := by
  intro b
  induction b using Nat.strongRecOn with
  | _ b ih =>
    unfold lev
    refine levA_le xs _ b b b (fun j hj => ?_) (by omega)
    rw [levs_at xs hj]
    have := ih j hj
    omega
def deepN (xs : List Int) : Nat → Int
  | 0 => 0
  | k + 1 => max (deepN xs k) (lev xs k)
theorem deepN_ge (xs : List Int) : ∀ {k b : Nat}, b < k → lev xs b ≤ deepN xs k
  | k + 1, b, h => by
    rw [deepN]
    by_cases hb : b < k
    · have := deepN_ge xs hb; omega
    · have : b = k := by omega
      subst this; omega
theorem deepN_le (xs : List Int) : ∀ k : Nat, 0 ≤ deepN xs k ∧ deepN xs k ≤ k
  | 0 => by simp [deepN]
  | k + 1 => by
    have := deepN_le xs k
    have := lev_le xs k
    have := lev_pos xs k
    rw [deepN]; omega
/-- Whether a beam is at a character of a row. -/
def cvr (xs : List Int) (row c : Int) : Nat → Bool
  | 0 => false
  | k + 1 => cvr xs row c k || (lev xs k == row && decide (fst xs k < lst xs k) && decide (2 * fst xs k ≤ c) && decide (c ≤ 2 * lst xs k))
theorem cvr_iff {xs : List Int} {row c : Int} : ∀ {k : Nat}, cvr xs row c k = true ↔ ∃ b : Nat, b < k ∧ lev xs b = row ∧ fst xs b < lst xs b ∧ 2 * fst xs b ≤ c ∧ c ≤ 2 * lst xs b
  | 0 => by simp [cvr]
  | k + 1 => by
    rw [cvr, Bool.or_eq_true, cvr_iff (k := k)]
    simp only [Bool.and_eq_true, beq_iff_eq, decide_eq_true_eq]
    constructor
    · rintro (⟨b, h1, h2⟩ | ⟨⟨⟨h1, h2⟩, h3⟩, h4⟩)
      · exact ⟨b, by omega, h2⟩
      · exact ⟨k, by omega, h1, h2, h3, h4⟩
    · rintro ⟨b, h1, h2, h3, h4, h5⟩
      by_cases hb : b < k
      · exact .inl ⟨b, hb, h2, h3, h4, h5⟩
      · have : b = k := by omega
        subst this; exact .inr ⟨⟨⟨h2, h3⟩, h4⟩, h5⟩
/-- A character of a row of the chart. -/
def ch (xs : List Int) (row c : Int) : Int :=
  if c % 2 = 1 then (if cvr xs row c (bk xs) then 45 else 32)
  else if row < lev xs (xs[(c / 2).toNat]!).toNat then (if cvr xs row c (bk xs) then 45 else 32)
  else if row = lev xs (xs[(c / 2).toNat]!).toNat then (if cvr xs row c (bk xs) then 111 else 124)
  else (if cvr xs row c (bk xs) then 120 else 124)
def rowL (xs : List Int) (row : Int) : List Int := (List.range (2 * xs.length - 1)).map fun c => ch xs row (c : Nat)
def drwN (xs : List Int) : Nat → List Int
  | 0 => []
  | r + 1 => drwN xs r ++ (rowL xs ((r : Int) + 1) ++ [10])
def drw (xs : List Int) : List Int := drwN xs (deepN xs (bk xs) + 1).toNat
theorem ch_bytes (xs : List Int) (row c : Int) : 0 ≤ ch xs row c ∧ ch xs row c < 128 := by
  unfold ch
  split
  · split <;> decide
  · split
    · split <;> decide
    · split
      · split <;> decide
      · split <;> decide
theorem rowL_len (xs : List Int) (row : Int) : (rowL xs row).length = 2 * xs.length - 1 := by simp [rowL]
theorem drwN_len (xs : List Int) : ∀ r, (drwN xs r).length = r * (2 * xs.length - 1 + 1)
  | 0 => by simp [drwN]
  | r + 1 => by rw [drwN, List.length_append, drwN_len xs r, List.length_append, rowL_len, Nat.add_mul r 1]; simp
/-- A block on a level goes over packets: without asking that it has two. -/
def ovr (xs : List Int) (row a b : Int) : Nat → Bool
  | 0 => false
  | k + 1 => ovr xs row a b k || (lev xs k == row && decide (fst xs k ≤ a) && decide (b ≤ lst xs k))
theorem ovr_iff {xs : List Int} {row i j : Int} : ∀ {k : Nat}, ovr xs row i j k = true ↔ ∃ b : Nat, b < k ∧ lev xs b = row ∧ fst xs b ≤ i ∧ j ≤ lst xs b
  | 0 => by simp [ovr]
  | k + 1 => by
    rw [ovr, Bool.or_eq_true, ovr_iff (k := k)]
    simp only [Bool.and_eq_true, beq_iff_eq, decide_eq_true_eq]
    constructor
    · rintro (⟨b, h1, h2⟩ | ⟨⟨h1, h2⟩, h3⟩)
      · exact ⟨b, by omega, h2⟩
      · exact ⟨k, by omega, h1, h2, h3⟩
    · rintro ⟨b, h1, h2, h3, h4⟩
      by_cases hb : b < k
      · exact .inl ⟨b, hb, h2, h3, h4⟩
      · have : b = k := by omega
        subst this; exact .inr ⟨⟨h2, h3⟩, h4⟩
theorem bool_eq {a b : Bool} (h : a = true ↔ b = true) : a = b := by cases a <;> cases b <;> simp_all
/-- Between two packets. -/
theorem ch_odd {xs : List Int} {row : Int} {i : Nat} : ch xs row (2 * (i : Int) + 1) = if ovr xs row i (i + 1) (bk xs) then 45 else 32 := by
  have e : cvr xs row (2 * (i : Int) + 1) (bk xs) = ovr xs row i (i + 1) (bk xs) := by
    apply bool_eq
    rw [cvr_iff, ovr_iff]
    constructor
    · rintro ⟨b, h1, h2, h3, h4, h5⟩; exact ⟨b, h1, h2, by omega, by omega⟩
    · rintro ⟨b, h1, h2, h3, h4⟩; exact ⟨b, h1, h2, by omega, by omega, by omega⟩
  unfold ch
  rw [if_pos (by omega), e]
/-- At a packet. -/
theorem ch_even {xs : List Int} (hc : check xs = 0) {row : Int} {i : Nat} (hi : i < xs.length) :
    ch xs row (2 * (i : Int)) = if row < lev xs xs[i]!.toNat ∧ ovr xs row ((i : Int) - 1) (i + 1) (bk xs) = true then 45 else if row < lev xs xs[i]!.toNat then 32
      else if row = lev xs xs[i]!.toNat ∧ fst xs xs[i]! < lst xs xs[i]! then 111 else if lev xs xs[i]!.toNat < row ∧ ovr xs row ((i : Int) - 1) (i + 1) (bk xs) = true then 120 else 124 := by
  obtain ⟨b0, b1, b2⟩ := blk_of hc hi
  have hs := span_at hc hi
  have hof := hs.of i hi (by rw [b2])
  have hdiv : ((2 * (i : Int)) / 2).toNat = i := by omega
  have other : row ≠ lev xs xs[i]!.toNat → cvr xs row (2 * (i : Int)) (bk xs) = ovr xs row ((i : Int) - 1) (i + 1) (bk xs) := fun hne => by
    apply bool_eq
    rw [cvr_iff, ovr_iff]
    constructor
    · rintro ⟨b, h1, h2, h3, h4, h5⟩
      have hsb := span_blk hc h1
      have hbi : xs[i]! ≠ (b : Int) := fun e => hne (by rw [e, Int.toNat_natCast, h2])
      have h6 : fst xs b ≠ i := fun e => hbi (by have := hsb.fa; rw [e, Int.toNat_natCast] at this; exact this)
      have h7 : lst xs b ≠ i := fun e => hbi (by have := hsb.la; rw [e, Int.toNat_natCast] at this; exact this)
      exact ⟨b, h1, h2, by omega, by omega⟩
    · rintro ⟨b, h1, h2, h3, h4⟩; exact ⟨b, h1, h2, by omega, by omega, by omega⟩
  have own : row = lev xs xs[i]!.toNat → (cvr xs row (2 * (i : Int)) (bk xs) = true ↔ fst xs xs[i]! < lst xs xs[i]!) := fun h2 => by
    rw [cvr_iff]
    constructor
    · rintro ⟨b, k1, k2, k3, k4, k5⟩
      have hsb := span_blk hc k1
      by_cases hbi : b = xs[i]!.toNat
      · subst hbi; rw [b2] at k3; exact k3
      · rcases lev_apart hsb hs hbi (by rw [k2, h2]) with h | h
        · omega
        · omega
    · intro h3
      rw [b2] at hof
      exact ⟨xs[i]!.toNat, b1, h2.symm, by rw [b2]; exact h3, by rw [b2]; omega, by rw [b2]; omega⟩
  unfold ch
  rw [if_neg (by omega), hdiv]
  clear hs hof b0 b1 b2
  generalize lev xs xs[i]!.toNat = L at *
  generalize cvr xs row (2 * (i : Int)) (bk xs) = C at *
  generalize ovr xs row ((i : Int) - 1) (i + 1) (bk xs) = O at *
  generalize fst xs xs[i]! = f0 at *
  generalize lst xs xs[i]! = l0 at *
  by_cases h1 : row < L
  · have := other (by omega)
    subst this
    simp only [h1, true_and, if_true]
  · by_cases h2 : row = L
    · have h3 := own h2
      subst h2
      have hL : ¬ row < row := by omega
      by_cases hF : f0 < l0
      · simp only [h3.2 hF, hF, hL, false_and, if_false, true_and, if_true, and_self]
      · have hC : C = false := by
          cases C with
          | false => rfl
          | true => exact absurd (h3.1 rfl) hF
        simp only [hC, hF, hL, false_and, if_false, and_false, if_true]
        rfl
    · have := other h2
      subst this
      have h4 : L < row := by omega
      simp only [h1, false_and, if_false, h2, h4, true_and]
end Go.Proofs.YthcchjmjblegdaaDoor
