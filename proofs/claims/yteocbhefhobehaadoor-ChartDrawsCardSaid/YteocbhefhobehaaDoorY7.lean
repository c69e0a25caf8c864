/- Several texts in one. -/
import Derived.Test.YteocbhefhobehaaDoorY6
import Derived.Test.YteocbhefhobehaaDoorEu
set_option linter.unusedVariables false
set_option linter.unusedSimpArgs false
/- Levels and charts: what follows from lists alone. -/
namespace Go.Proofs.YteocbhefhobehaaDoor
open Go.AI
/-- Where a block begins and where it ends, as far as a place. -/
def firstTo (xs : List Int) (b : Int) : Nat → Int
  | 0 => -1
  | i + 1 => if firstTo xs b i = -1 ∧ xs[i]! = b then i else firstTo xs b i
def lastTo (xs : List Int) (b : Int) : Nat → Int
  | 0 => -1
  | i + 1 => if xs[i]! = b then i else lastTo xs b i
theorem firstTo_spec (xs : List Int) (b : Int) : ∀ n, (firstTo xs b n = -1 ∧ ∀ i, i < n → xs[i]! ≠ b) ∨ ∃ f : Nat, firstTo xs b n = f ∧ f < n ∧ xs[f]! = b ∧ ∀ i, i < n → xs[i]! = b → f ≤ i
  | 0 => .inl ⟨rfl, fun i h => by omega⟩
  | n + 1 => by
    rw [firstTo]
    rcases firstTo_spec xs b n with ⟨h1, h2⟩ | ⟨f, h1, h2, h3, h4⟩
    · by_cases h : xs[n]! = b
      · rw [if_pos ⟨h1, h⟩]
        exact .inr ⟨n, rfl, by omega, h, fun i hi he => by
          by_cases hin : i < n
          · exact absurd he (h2 i hin)
          · omega⟩
      · rw [if_neg (fun e => h e.2)]
        exact .inl ⟨h1, fun i hi => by
          by_cases hin : i < n
          · exact h2 i hin
          · rwa [show i = n by omega]⟩
    · rw [if_neg (by omega)]
      exact .inr ⟨f, h1, by omega, h3, fun i hi he => by
        by_cases hin : i < n
        · exact h4 i hin he
        · omega⟩
theorem lastTo_spec (xs : List Int) (b : Int) : ∀ n, (lastTo xs b n = -1 ∧ ∀ i, i < n → xs[i]! ≠ b) ∨ ∃ f : Nat, lastTo xs b n = f ∧ f < n ∧ xs[f]! = b ∧ ∀ i, i < n → xs[i]! = b → i ≤ f
  | 0 => .inl ⟨rfl, fun i h => by omega⟩
  | n + 1 => by
    rw [lastTo]
    by_cases h : xs[n]! = b
    · rw [if_pos h]
      exact .inr ⟨n, rfl, by omega, h, fun i hi he => by omega⟩
    · rw [if_neg h]
      rcases lastTo_spec xs b n with ⟨h1, h2⟩ | ⟨f, h1, h2, h3, h4⟩
      · exact .inl ⟨h1, fun i hi => by
          by_cases hin : i < n
          · exact h2 i hin
          · rwa [show i = n by omega]⟩
      · exact .inr ⟨f, h1, by omega, h3, fun i hi he => by
          by_cases hin : i < n
          · exact h4 i hin he
          · exact absurd he (by rwa [show i = n by omega])⟩
def fst (xs : List Int) (b : Int) : Int := firstTo xs b xs.length
def lst (xs : List Int) (b : Int) : Int := lastTo xs b xs.length
/-- The place of a packet lies within its block. -/
structure Span (xs : List Int) (b : Int) : Prop where
  f0 : 0 ≤ fst xs b
  fl : fst xs b ≤ lst xs b
  ln : lst xs b < xs.length
  fa : xs[(fst xs b).toNat]! = b
  la : xs[(lst xs b).toNat]! = b
  of : ∀ i : Nat, i < xs.length → xs[i]! = b → fst xs b ≤ i ∧ (i : Int) ≤ lst xs b
theorem span_of {xs : List Int} {b : Int} {i : Nat} (hi : i < xs.length) (he : xs[i]! = b) : Span xs b := by
  rcases firstTo_spec xs b xs.length with ⟨_, h2⟩ | ⟨f, f1, f2, f3, f4⟩
  · exact absurd he (h2 i hi)
  rcases lastTo_spec xs b xs.length with ⟨_, h2⟩ | ⟨l, l1, l2, l3, l4⟩
  · exact absurd he (h2 i hi)
  have e1 : fst xs b = f := f1
  have e2 : lst xs b = l := l1
  have := f4 i hi he
  have := l4 i hi he
  refine ⟨by omega, by omega, by omega, by rw [e1]; exact f3, by rw [e2]; exact l3, fun j hj hb => ⟨by have := f4 j hj hb; omega, by have := l4 j hj hb; omega⟩⟩

/-- The level of a block above those before it. -/
def levA (xs : List Int) (L : List Int) (b : Nat) : Nat → Int
  | 0 => 1
  | a + 1 => if fst xs b < lst xs a then max (levA xs L b a) (L[a]! + 1) else levA xs L b a
def levs (xs : List Int) : Nat → List Int
  | 0 => []
  | b + 1 => levs xs b ++ [levA xs (levs xs b) b b]
theorem levs_length (xs : List Int) : ∀ k, (levs xs k).length = k
  | 0 => rfl
  | k + 1 => by simp [levs, levs_length xs k]
def lev (xs : List Int) (b : Nat) : Int := levA xs (levs xs b) b b
theorem levs_at (xs : List Int) : ∀ {k a : Nat}, a < k → (levs xs k)[a]! = lev xs a
  | k + 1, a, h => by
    have hl := levs_length xs k
    by_cases hk : a < k
    · rw [← levs_at xs hk, levs, getElem!_pos _ a (by simp; omega), getElem!_pos _ a (by omega), List.getElem_append_left (by omega)]
    · have : a = k := by omega
      subst this
      rw [levs, getElem!_pos _ a (by simp; omega), List.getElem_append_right (by omega)]
      simp [hl, lev]
theorem levA_ge (xs L : List Int) (b : Nat) : ∀ {a j : Nat}, j < a → fst xs b < lst xs j → L[j]! + 1 ≤ levA xs L b a
  | a + 1, j, h, hj => by
    rw [levA]
    by_cases hk : j < a
    · have := levA_ge xs L b hk hj
      split <;> omega
    · have : j = a := by omega
      subst this
      rw [if_pos hj]; omega
theorem levA_pos (xs L : List Int) (b : Nat) : ∀ a, 1 ≤ levA xs L b a
  | 0 => by simp [levA]
  | a + 1 => by
    have := levA_pos xs L b a
    rw [levA]; split <;> omega
theorem lev_pos (xs : List Int) (b : Nat) : 1 ≤ lev xs b := levA_pos _ _ _ _
theorem lev_above {xs : List Int} {a b : Nat} (h : a < b) (hl : fst xs b < lst xs a) : lev xs a + 1 ≤ lev xs b := by
  have := levA_ge xs (levs xs b) b h hl
  rwa [levs_at xs h] at this
/-- Blocks on one level lie apart. -/
theorem lev_apart {xs : List Int} {a b : Nat} (ha : Span xs a) (hb : Span xs b) (hne : a ≠ b) (he : lev xs a = lev xs b) : lst xs a < fst xs b ∨ lst xs b < fst xs a := by
  have key : ∀ {a b : Nat}, Span xs a → Span xs b → a < b → lev xs a = lev xs b → lst xs a < fst xs b := by
    intro a b ha hb h he
    have h1 : ¬ fst xs b < lst xs a := fun hl => by have := lev_above h hl; omega
    have h2 : lst xs a ≠ fst xs b := fun h3 => by
      have h4 := ha.la
      rw [h3, hb.fa] at h4
      omega
    omega
  rcases Nat.lt_or_gt_of_ne hne with h | h
  · exact .inl (key ha hb h he)
  · exact .inr (key hb ha h he.symm)
/-- A block on a level goes over some packets. -/
def covN (xs : List Int) (row i j : Int) : Nat → Bool
  | 0 => false
  | k + 1 => covN xs row i j k || (lev xs k == row && decide (fst xs k < lst xs k) && decide (fst xs k ≤ i) && decide (j ≤ lst xs k))
theorem covN_iff {xs : List Int} {row i j : Int} : ∀ {k : Nat}, covN xs row i j k = true ↔ ∃ b : Nat, b < k ∧ lev xs b = row ∧ fst xs b < lst xs b ∧ fst xs b ≤ i ∧ j ≤ lst xs b
  | 0 => by simp [covN]
  | k + 1 => by
    rw [covN, Bool.or_eq_true, covN_iff (k := k)]
    simp only [Bool.and_eq_true, beq_iff_eq, decide_eq_true_eq]
    constructor
    · rintro (⟨b, h1, h2⟩ | ⟨⟨⟨h1, h2⟩, h3⟩, h4⟩)
      · exact ⟨b, by omega, h2⟩
      · exact ⟨k, by omega, h1, h2, h3, h4⟩
    · rintro ⟨b, h1, h2, h3, h4, h5⟩
      by_cases hb : b < k
      · exact .inl ⟨b, hb, h2, h3, h4, h5⟩
      · have : b = k := by omega
        subst this; exact .inr ⟨⟨⟨h2, h3⟩, h4⟩, h5⟩
/-- How many blocks. -/
def bk (xs : List Int) : Nat := (blkFrom xs 0).toNat
theorem bk_cast (xs : List Int) : (bk xs : Int) = blkFrom xs 0 := by
  have := blk_from_ge xs 0
  unfold bk; omega
theorem bk_le9 {xs : List Int} (h : check xs = 0) : bk xs ≤ 9 := by
  have := blk_le9 xs 0 (by omega) fun i hi => (check_bound h hi).2
  unfold bk; omega
theorem blk_take_succ {xs : List Int} {i : Nat} (h : i < xs.length) : blkFrom (xs.take (i + 1)) 0 = max (blkFrom (xs.take i) 0) (xs[i]! + 1) := by
  rw [take_snoc h, blk_snoc]
theorem checkFrom_at : ∀ (xs : List Int) (m : Int) (i : Nat), checkFrom xs m = 0 → i < xs.length → xs[i]! ≤ blkFrom (xs.take i) m
  | x :: r, m, 0, h, _ => by
    obtain ⟨h1, h2, h3, _⟩ := from_step h
    simpa [blkFrom] using h3
  | x :: r, m, i + 1, h, hi => by
    obtain ⟨h1, h2, h3, h4⟩ := from_step h
    have := checkFrom_at r _ i h4 (by simpa using hi)
    simpa [blkFrom] using this
theorem at_blk {xs : List Int} (h : check xs = 0) {i : Nat} (hi : i < xs.length) : xs[i]! ≤ blkFrom (xs.take i) 0 := checkFrom_at xs 0 i (check_from h).1 hi
/-- Each block has a packet. -/
theorem blk_onto {xs : List Int} (h : check xs = 0) : ∀ i, i ≤ xs.length → ∀ b : Int, 0 ≤ b → b < blkFrom (xs.take i) 0 → ∃ j, j < i ∧ xs[j]! = b
  | 0, _, b, h0, h1 => by simp [blkFrom] at h1; omega
  | i + 1, hi, b, h0, h1 => by
    rw [blk_take_succ (by omega)] at h1
    have h2 := at_blk h (i := i) (by omega)
    by_cases hb : b < blkFrom (xs.take i) 0
    · obtain ⟨j, hj, e⟩ := blk_onto h i (by omega) b h0 hb
      exact ⟨j, by omega, e⟩
    · exact ⟨i, by omega, by omega⟩
theorem span_blk {xs : List Int} (h : check xs = 0) {b : Nat} (hb : b < bk xs) : Span xs b := by
  have hc := bk_cast xs
  obtain ⟨j, hj, e⟩ := blk_onto h xs.length (Nat.le_refl _) b (by omega) (by rw [List.take_length]; omega)
  exact span_of hj e
theorem blk_of {xs : List Int} (h : check xs = 0) {i : Nat} (hi : i < xs.length) : 0 ≤ xs[i]! ∧ xs[i]!.toNat < bk xs ∧ ((xs[i]!.toNat : Nat) : Int) = xs[i]! := by
  have h1 := (check_bound h hi).1
  have h2 := blk_gt xs 0 i hi
  have := bk_cast xs
  exact ⟨h1, by omega, by omega⟩
theorem span_at {xs : List Int} (h : check xs = 0) {i : Nat} (hi : i < xs.length) : Span xs (xs[i]!.toNat : Nat) := span_blk h (blk_of h hi).2.1
/-- The levels are at most as many as blocks. -/
theorem levA_le (xs L : List Int) (b : Nat) (m : Int) : ∀ a, (∀ j, j < a → L[j]! ≤ m) → 0 ≤ m → levA xs L b a ≤ m + 1
  | 0, _, hm => by simp [levA]; omega
  | a + 1, h, hm => by
    have h1 := levA_le xs L b m a (fun j hj => h j (by omega)) hm
    have h2 := h a (by omega)
    rw [levA]; split <;> omega
theorem lev_le (xs : List Int) : ∀ b : Nat, lev xs b ≤ b + 1 := by
  intro b
  induction b using Nat.strongRecOn with
  | _ b ih =>
    unfold lev
    refine levA_le xs _ b b b (fun j hj => ?_) (by omega)
    rw [levs_at xs hj]
    have := ih j hj
    omega
def deepN (xs : List Int) : Nat → Int
  | 0 => 0
  | k + 1 => max (deepN xs k) (lev xs k)
theorem deepN_ge (xs : List Int) : ∀ {k b : Nat}, b < k → lev xs b ≤ deepN xs k
  | k + 1, b, h => by
    rw [deepN]
    by_cases hb : b < k
    · have := deepN_ge xs hb; omega
    · have : b = k := by omega
      subst this; omega
theorem deepN_le (xs : List Int) : ∀ k : Nat, 0 ≤ deepN xs k ∧ deepN xs k ≤ k
  | 0 => by simp [deepN]
  | k + 1 => by
    have := deepN_le xs k
    have := lev_le xs k
    have := lev_pos xs k
    rw [deepN]; omega
/-- Whether a beam is at a character of a row. -/
def cvr (xs : List Int) (row c : Int) : Nat → Bool
  | 0 => false
  | k + 1 => cvr xs row c k || (lev xs k == row && decide (fst xs k < lst xs k) && decide (2 * fst xs k ≤ c) && decide (c ≤ 2 * lst xs k))
theorem cvr_iff {xs : List Int} {row c : Int} : ∀ {k : Nat}, cvr xs row c k = true ↔ ∃ b : Nat, b < k ∧ lev xs b = row ∧ fst xs b < lst xs b ∧ 2 * fst xs b ≤ c ∧ c ≤ 2 * lst xs b
  | 0 => by simp [cvr]
  | k + 1 => by
    rw [cvr, Bool.or_eq_true, cvr_iff (k := k)]
    simp only [Bool.and_eq_true, beq_iff_eq, decide_eq_true_eq]
    constructor
    · rintro (⟨b, h1, h2⟩ | ⟨⟨⟨h1, h2⟩, h3⟩, h4⟩)
      · exact ⟨b, by omega, h2⟩
      · exact ⟨k, by omega, h1, h2, h3, h4⟩
    · rintro ⟨b, h1, h2, h3, h4, h5⟩
      by_cases hb : b < k
      · exact .inl ⟨b, hb, h2, h3, h4, h5⟩
      · have : b = k := by omega
        subst this; exact .inr ⟨⟨⟨h2, h3⟩, h4⟩, h5⟩
/-- A character of a row of the chart. -/
def ch (xs : List Int) (row c : Int) : Int :=
  if c % 2 = 1 then (if cvr xs row c (bk xs) then 45 else 32)
  else if row < lev xs (xs[(c / 2).toNat]!).toNat then (if cvr xs row c (bk xs) then 45 else 32)
  else if row = lev xs (xs[(c / 2).toNat]!).toNat then (if cvr xs row c (bk xs) then 111 else 124)
  else (if cvr xs row c (bk xs) then 120 else 124)
def rowL (xs : List Int) (row : Int) : List Int := (List.range (2 * xs.length - 1)).map fun c => ch xs row (c : Nat)
def drwN (xs : List Int) : Nat → List Int
  | 0 => []
  | r + 1 => drwN xs r ++ (rowL xs ((r : Int) + 1) ++ [10])
def drw (xs : List Int) : List Int := drwN xs (deepN xs (bk xs) + 1).toNat
theorem ch_bytes (xs : List Int) (row c : Int) : 0 ≤ ch xs row c ∧ ch xs row c < 128 := by
  unfold ch
  split
  · split <;> decide
  · split
    · split <;> decide
    · split
      · split <;> decide
      · split <;> decide
theorem rowL_len (xs : List Int) (row : Int) : (rowL xs row).length = 2 * xs.length - 1 := by simp [rowL]
theorem drwN_len (xs : List Int) : ∀ r, (drwN xs r).length = r * (2 * xs.length - 1 + 1)
  | 0 => by simp [drwN]
  | r + 1 => by rw [drwN, List.length_append, drwN_len xs r, List.length_append, rowL_len, Nat.add_mul r 1]; simp
/-- A block on a level goes over packets: without asking that it has two. -/
def ovr (xs : List Int) (row a b : Int) : Nat → Bool
  | 0 => false
  | k + 1 => ovr xs row a b k || (lev xs k == row && decide (fst xs k ≤ a) && decide (b ≤ lst xs k))
theorem ovr_iff {xs : List Int} {row i j : Int} : ∀ {k : Nat}, ovr xs row i j k = true ↔ ∃ b : Nat, b < k ∧ lev xs b = row ∧ fst xs b ≤ i ∧ j ≤ lst xs b
  | 0 => by simp [ovr]
  | k + 1 => by
    rw [ovr, Bool.or_eq_true, ovr_iff (k := k)]
    simp only [Bool.and_eq_true, beq_iff_eq, decide_eq_true_eq]
    constructor
    · rintro (⟨b, h1, h2⟩ | ⟨⟨h1, h2⟩, h3⟩)
      · exact ⟨b, by omega, h2⟩
      · exact ⟨k, by omega, h1, h2, h3⟩
    · rintro ⟨b, h1, h2, h3, h4⟩
      by_cases hb : b < k
      · exact .inl ⟨b, hb, h2, h3, h4⟩
      · have : b = k := by omega
        subst this; exact .inr ⟨⟨h2, h3⟩, h4⟩
theorem bool_eq {a b : Bool} (h : a = true ↔ b = true) : a = b := by cases a <;> cases b <;> simp_all
/-- Between two packets. -/
theorem ch_odd {xs : List Int} {row : Int} {i : Nat} : ch xs row (2 * (i : Int) + 1) = if ovr xs row i (i + 1) (bk xs) then 45 else 32 := by
  have e : cvr xs row (2 * (i : Int) + 1) (bk xs) = ovr xs row i (i + 1) (bk xs) := by
    apply bool_eq
    rw [cvr_iff, ovr_iff]
    constructor
    · rintro ⟨b, h1, h2, h3, h4, h5⟩; exact ⟨b, h1, h2, by omega, by omega⟩
    · rintro ⟨b, h1, h2, h3, h4⟩; exact ⟨b, h1, h2, by omega, by omega, by omega⟩
  unfold ch
  rw [if_pos (by omega), e]
/-- At a packet. -/
theorem ch_even {xs : List Int} (hc : check xs = 0) {row : Int} {i : Nat} (hi : i < xs.length) :
    ch xs row (2 * (i : Int)) = if row < lev xs xs[i]!.toNat ∧ ovr xs row ((i : Int) - 1) (i + 1) (bk xs) = true then 45 else if row < lev xs xs[i]!.toNat then 32
      else if row = lev xs xs[i]!.toNat ∧ fst xs xs[i]! < lst xs xs[i]! then 111 else if lev xs xs[i]!.toNat < row ∧ ovr xs row ((i : Int) - 1) (i + 1) (bk xs) = true then 120 else 124 := by
  obtain ⟨b0, b1, b2⟩ := blk_of hc hi
  have hs := span_at hc hi
  have hof := hs.of i hi (by rw [b2])
  have hdiv : ((2 * (i : Int)) / 2).toNat = i := by omega
  have other : row ≠ lev xs xs[i]!.toNat → cvr xs row (2 * (i : Int)) (bk xs) = ovr xs row ((i : Int) - 1) (i + 1) (bk xs) := fun hne => by
    apply bool_eq
    rw [cvr_iff, ovr_iff]
    constructor
    · rintro ⟨b, h1, h2, h3, h4, h5⟩
      have hsb := span_blk hc h1
      have hbi : xs[i]! ≠ (b : Int) := fun e => hne (by rw [e, Int.toNat_natCast, h2])
      have h6 : fst xs b ≠ i := fun e => hbi (by have := hsb.fa; rw [e, Int.toNat_natCast] at this; exact this)
      have h7 : lst xs b ≠ i := fun e => hbi (by have := hsb.la; rw [e, Int.toNat_natCast] at this; exact this)
      exact ⟨b, h1, h2, by omega, by omega⟩
    · rintro ⟨b, h1, h2, h3, h4⟩; exact ⟨b, h1, h2, by omega, by omega, by omega⟩
  have own : row = lev xs xs[i]!.toNat → (cvr xs row (2 * (i : Int)) (bk xs) = true ↔ fst xs xs[i]! < lst xs xs[i]!) := fun h2 => by
    rw [cvr_iff]
    constructor
    · rintro ⟨b, k1, k2, k3, k4, k5⟩
      have hsb := span_blk hc k1
      by_cases hbi : b = xs[i]!.toNat
      · subst hbi; rw [b2] at k3; exact k3
      · rcases lev_apart hsb hs hbi (by rw [k2, h2]) with h | h
        · omega
        · omega
    · intro h3
      rw [b2] at hof
      exact ⟨xs[i]!.toNat, b1, h2.symm, by rw [b2]; exact h3, by rw [b2]; omega, by rw [b2]; omega⟩
  unfold ch
  rw [if_neg (by omega), hdiv]
  clear hs hof b0 b1 b2
  generalize lev xs xs[i]!.toNat = L at *
  generalize cvr xs row (2 * (i : Int)) (bk xs) = C at *
  generalize ovr xs row ((i : Int) - 1) (i + 1) (bk xs) = O at *
  generalize fst xs xs[i]! = f0 at *
  generalize lst xs xs[i]! = l0 at *
  by_cases h1 : row < L
  · have := other (by omega)
    subst this
    simp only [h1, true_and, if_true]
  · by_cases h2 : row = L
    · have h3 := own h2
      subst h2
      have hL : ¬ row < row := by omega
      by_cases hF : f0 < l0
      · simp only [h3.2 hF, hF, hL, false_and, if_false, true_and, if_true, and_self]
      · have hC : C = false := by
          cases C with
          | false => rfl
          | true => exact absurd (h3.1 rfl) hF
        simp only [hC, hF, hL, false_and, if_false, and_false, if_true]
        rfl
    · have := other h2
      subst this
      have h4 : L < row := by omega
      simp only [h1, false_and, if_false, h2, h4, true_and]
end Go.Proofs.YteocbhefhobehaaDoor

/- The beams of a partition. -/
namespace Go.AI
/-- The first elements of a slice. -/
def preS (v : Value) (i : Nat) : Value :=
  match v with
  | .slice (some a) _ c => .slice (some a) i c
  | v => v
theorem OwnS.slice {P : Program} {t e : TypeId} {s : Nat} {H : Heap} {v : Value} {rs : List (List Value)} {B : Nat} (h : OwnS e s H v rs B) (ht : P.underlying t = some (.slice e)) (hs : sizeB P e = some s) {i : Int} {kd : IntKind} (h0 : 0 ≤ i) (h1 : i ≤ rs.length) :
    aslice P t v none (some (some (.int kd i))) = some (preS v i.toNat) := by
  rcases h.2 with ⟨rfl, rfl⟩ | ⟨b, rfl, h2, h3, h4⟩
  · simp at h1
    have : i = 0 := by omega
    subst this
    simp [aslice, ht, hs, bound, preS]
  · simp [aslice, ht, hs, bound, h0, h1, preS]
theorem OwnS.pre {e : TypeId} {s : Nat} {H : Heap} {v : Value} {rs : List (List Value)} {B : Nat} (h : OwnS e s H v rs B) {i : Nat} (hi : i ≤ rs.length) : RowS s H (preS v i) (rs.take i) := by
  have hl : ∀ r ∈ rs.take i, r.length = s := fun r hr => h.1 r (List.mem_of_mem_take hr)
  refine ⟨hl, ?_⟩
  rcases h.2 with ⟨rfl, rfl⟩ | ⟨b, rfl, h2, h3, h4⟩
  · exact .inl ⟨rfl, by simp⟩
  · have hm : i * s ≤ rs.length * s := Nat.mul_le_mul_right _ hi
    refine .inr (.inr ⟨b, 0, 0, _, e, 2, ?_, h3, h4, by simp, ?_, fun j q r w hj hq => ?_⟩)
    · rw [List.length_take, Nat.min_eq_left hi]; rfl
    · rw [List.length_take, Nat.min_eq_left hi, flat_len h.1]; omega
    · rw [List.getElem?_take] at hj
      split at hj
      · rw [Nat.zero_add]; exact flat_at h.1 hj hq
      · cases hj
end Go.AI
namespace Go.Proofs.YteocbhefhobehaaDoor
open Go.AI
theorem un88 : Tryd.prog.underlying 88 = some (.slice 91) := by kernel_rfl
theorem sz91 : sizeB Tryd.prog 91 = some 3 := by kernel_rfl
theorem ag91 : isAggB Tryd.prog 91 = some true := by kernel_rfl
theorem zb91 : zeroBB Tryd.prog 91 = some ([VI 0, VI 0, VI 0], 24) := by kernel_rfl
theorem zc91 : zeroCells Tryd.prog 91 = some [VI 0, VI 0, VI 0] := by kernel_rfl
theorem fo0 : fieldOff Tryd.prog 91 0 = some (0, 1) := by kernel_rfl
theorem fo1 : fieldOff Tryd.prog 91 1 = some (1, 1) := by kernel_rfl
theorem fo2 : fieldOff Tryd.prog 91 2 = some (2, 1) := by kernel_rfl
theorem build_beam (i : Int) : abuild Tryd.prog 91 [(0, VI i)] = some (.agg [VI i, VI 0, VI 0].toArray) := by kernel_rfl

def bN (xs : List Int) (i : Nat) : Nat := (blkFrom (xs.take i) 0).toNat
theorem bN_cast (xs : List Int) (i : Nat) : (bN xs i : Int) = blkFrom (xs.take i) 0 := by
  have := blk_from_ge (xs.take i) 0
  unfold bN; omega
theorem bN_all (xs : List Int) : bN xs xs.length = bk xs := by unfold bN bk; rw [List.take_length]
def bm1 (xs : List Int) (i : Nat) : List (List Value) := (List.range (bN xs i)).map fun (b : Nat) => [VI (firstTo xs b i), VI (lastTo xs b i), VI 0]
theorem bm1_len (xs : List Int) (i : Nat) : (bm1 xs i).length = bN xs i := by simp [bm1]
theorem bm1_at {xs : List Int} {i b : Nat} (h : b < bN xs i) : (bm1 xs i)[b]? = some [VI (firstTo xs b i), VI (lastTo xs b i), VI 0] := by simp [bm1, h]
theorem first_met {xs : List Int} (hc : check xs = 0) {i b : Nat} (hi : i ≤ xs.length) (hb : b < bN xs i) : firstTo xs b i ≠ -1 := by
  have := bN_cast xs i
  obtain ⟨j, hj, e⟩ := blk_onto hc i hi b (by omega) (by omega)
  rcases firstTo_spec xs b i with ⟨_, h2⟩ | ⟨f, h1, _⟩
  · exact absurd e (h2 j hj)
  · omega
theorem bm1_old {xs : List Int} (hc : check xs = 0) {i : Nat} (hi : i < xs.length) (hx : xs[i]! < bN xs i) :
    (bm1 xs i).set xs[i]!.toNat [VI (firstTo xs xs[i]! i), VI i, VI 0] = bm1 xs (i + 1) := by
  have h0 := (check_bound hc hi).1
  have c1 := bN_cast xs i
  have c2 := bN_cast xs (i + 1)
  have hs := blk_take_succ hi
  have e : bN xs (i + 1) = bN xs i := by omega
  apply List.ext_getElem?
  intro b
  rw [List.getElem?_set]
  by_cases hb : b < bN xs i
  · rw [bm1_at (i := i + 1) (by omega), bm1_at hb]
    by_cases hbx : xs[i]!.toNat = b
    · subst hbx
      have hcast : ((xs[i]!.toNat : Nat) : Int) = xs[i]! := by omega
      rw [if_pos rfl, if_pos (by rw [bm1_len]; exact hb), hcast, firstTo, lastTo, if_pos rfl, if_neg]
      rintro ⟨h, _⟩
      have := first_met hc (by omega) hb
      rw [hcast] at this
      exact this h
    · rw [if_neg hbx, firstTo, lastTo, if_neg (fun h => hbx (by omega)), if_neg (fun h => hbx (by omega))]
  · rw [List.getElem?_eq_none (l := bm1 xs (i + 1)) (by rw [bm1_len]; omega), if_neg (by omega), List.getElem?_eq_none (by rw [bm1_len]; omega)]
theorem bm1_new {xs : List Int} (hc : check xs = 0) {i : Nat} (hi : i < xs.length) (hx : xs[i]! = bN xs i) :
    (bm1 xs i ++ [[VI i, VI 0, VI 0]]).set xs[i]!.toNat [VI i, VI i, VI 0] = bm1 xs (i + 1) := by
  have c1 := bN_cast xs i
  have c2 := bN_cast xs (i + 1)
  have hs := blk_take_succ hi
  have e : bN xs (i + 1) = bN xs i + 1 := by omega
  have hxn : xs[i]!.toNat = bN xs i := by omega
  rw [hxn, List.set_append_right _ _ (by rw [bm1_len]; omega), bm1_len, Nat.sub_self, List.set_cons_zero]
  apply List.ext_getElem?
  intro b
  by_cases hb : b < bN xs i
  · rw [List.getElem?_append_left (by rw [bm1_len]; exact hb), bm1_at hb, bm1_at (i := i + 1) (by omega), firstTo, lastTo, if_neg (fun h => by omega), if_neg (fun h => by omega)]
  · rw [List.getElem?_append_right (by rw [bm1_len]; omega), bm1_len]
    by_cases hb2 : b = bN xs i
    · subst hb2
      rw [bm1_at (i := i + 1) (by omega), Nat.sub_self]
      have hno : firstTo xs (bN xs i : Nat) i = -1 := by
        rcases firstTo_spec xs (bN xs i : Nat) i with ⟨h1, _⟩ | ⟨f, h1, h2, h3, _⟩
        · exact h1
        · have := blk_gt (xs.take i) 0 f (by rw [List.length_take]; omega)
          rw [getElem!_pos _ f (by rw [List.length_take]; omega), List.getElem_take] at this
          rw [getElem!_pos xs f (by omega)] at h3
          omega
      rw [firstTo, lastTo, if_pos ⟨hno, hx⟩, if_pos hx]
      rfl
    · rw [List.getElem?_eq_none (by simp; omega), List.getElem?_eq_none (by rw [bm1_len]; omega)]
/-- The beams, whose levels are as a function says. -/
def bmF (xs : List Int) (f : Nat → Int) : List (List Value) := (List.range (bk xs)).map fun (b : Nat) => [VI (fst xs b), VI (lst xs b), VI (f b)]
theorem bmF_len (xs : List Int) (f : Nat → Int) : (bmF xs f).length = bk xs := by simp [bmF]
theorem bmF_at {xs : List Int} {f : Nat → Int} {b : Nat} (h : b < bk xs) : (bmF xs f)[b]? = some [VI (fst xs b), VI (lst xs b), VI (f b)] := by simp [bmF, h]
theorem bmF_set {xs : List Int} {f : Nat → Int} {b : Nat} {y : Int} (_h : b < bk xs) : (bmF xs f).set b [VI (fst xs b), VI (lst xs b), VI y] = bmF xs fun q => if q = b then y else f q := by
  apply List.ext_getElem?
  intro q
  rw [List.getElem?_set]
  by_cases hq : q < bk xs
  · rw [bmF_at (f := fun q => if q = b then y else f q) hq, bmF_at hq]
    by_cases hb : b = q
    · subst hb; rw [if_pos rfl, if_pos (by rw [bmF_len]; exact hq), if_pos rfl]
    · rw [if_neg hb, if_neg (fun e => hb e.symm)]
  · rw [List.getElem?_eq_none (l := bmF xs fun q => if q = b then y else f q) (by rw [bmF_len]; omega), List.getElem?_eq_none (l := bmF xs f) (by rw [bmF_len]; omega)]
    split
    · rw [if_neg (by rw [bmF_len]; omega)]
    · rfl
theorem bmF_congr {xs : List Int} {f g : Nat → Int} (h : ∀ b, b < bk xs → f b = g b) : bmF xs f = bmF xs g := by
  unfold bmF
  apply List.map_congr_left
  intro b hb
  rw [h b (List.mem_range.1 hb)]
theorem bm1_bmF (xs : List Int) : bm1 xs xs.length = bmF xs fun _ => 0 := by
  unfold bm1 bmF
  rw [bN_all]; rfl

set_option maxHeartbeats 4000000 in
set_option maxRecDepth 100000 in
theorem beams_spec {B : Nat} {v : Value} {H : Heap} {xs : List Int} (hB : B ≤ H.n) (hv : Ints H v xs) (hc : check xs = 0) :
    CallB Tryd.prog B 96 [v] H (fun r H' => OwnS 91 3 H' r (bmF xs (lev xs)) H.n ∧ Keep H H') := by
  have hlx := check_len hc
  have hk9 := bk_le9 hc
  refine CV.enter callees false rfl Tryd.func96 rfl ok96 (Nat.le_of_ble_eq_true rfl) hB ?_
  repeat' first
    | refine CO.cons rfl ?_
    | refine CO.nil ?_
    | refine CV.seq ?_
    | refine CV.region callees ?_
    | refine CV.cond ?_
    | refine CV.block ?_
    | refine CV.skip ?_
    | refine CV.exit ?_
    | refine CV.ret ?_
    | refine CV.scope ?_
    | refine CV.draw callees rfl ?_
    | refine CH.cons rfl ?_
    | refine CH.nil ?_
    | refine CO.consG rfl ?_
    | refine CH.consG rfl ?_
    | refine CG.cons rfl ?_
    | refine CG.nil ?_
    | refine CG.consG rfl ?_
    | refine ⟨(rfl : plain _ = true), ?_⟩
    | refine ⟨(rfl : nilOk _ = some _), ?_⟩
    | refine ⟨_, ints_len (by assumption), ?_⟩
    | refine ⟨_, ints_addr (by assumption) (by omega) (by omega), ?_⟩
    | refine ⟨_, ints_load (by assumption) (by omega) (by omega), ?_⟩
    | refine ⟨(⟨by omega, by omega⟩ : inI64 _), ?_⟩
    | refine ⟨_, fun tm ha => step1_max rfl (ev_tmp ha rfl) (ev_tmp ha rfl), ?_⟩
    | refine ⟨_, fun tm ha => step1_min rfl (ev_tmp ha rfl) (ev_tmp ha rfl), ?_⟩
    | (refine ⟨fun _ => ?_, fun _ => ?_⟩ <;> first | (exfalso; omega) | skip)
    | fail
  refine CV.loopc ?_
  refine WCv.rounds callees false (α := Value × Nat) (fun (l, i) => [(3, l), (9, v), (10, .int .i64 xs.length), (11, .int .i64 i)]) (fun (l, i) Hz => i ≤ xs.length ∧ Keep H Hz ∧ OwnS 91 3 Hz l (bm1 xs i) H.n) (fun (l, i) => xs.length - i) (.slice none 0 0, 0) (by repeat' first | exact trivial | refine ⟨rfl, ?_⟩ | refine ⟨slot_int (by (try simp only [Int.toNat_natCast]); omega), ?_⟩) ?_ ?_
  · exact ⟨by omega, Keep.refl _, by
      have : bm1 xs 0 = [] := by simp [bm1, bN, blkFrom]
      show OwnS _ _ _ _ (bm1 xs 0) _
      rw [this]; exact OwnS.nil⟩
  rintro ⟨l, i⟩ Hx ⟨hi, hk, hl⟩ hBx
  have hvx := hv.keep hk
  have hll := bm1_len xs i
  by_cases hi2 : i < xs.length
  · have hb0 := check_bound hc hi2
    have hab := at_blk hc hi2
    have hbc := bN_cast xs i
    have hx9 : xs[i]! = xs[(i : Int).toNat]! := rfl
    have hle9 : bN xs i ≤ 9 := by
      have := blk_le9 (xs.take i) 0 (by omega) fun q hq => by
        rw [List.length_take] at hq
        rw [getElem!_pos _ q (by rw [List.length_take]; omega), List.getElem_take]
        have := (check_bound hc (i := q) (by omega)).2
        rwa [getElem!_pos xs q (by omega)] at this
      omega
    repeat' first
      | refine CO.cons rfl ?_
      | refine CO.nil ?_
      | refine CV.seq ?_
      | refine CV.region callees ?_
      | refine CV.cond ?_
      | refine CV.block ?_
      | refine CV.skip ?_
      | refine CV.exit ?_
      | refine CV.ret ?_
      | refine CV.scope ?_
      | refine CV.draw callees rfl ?_
      | refine CH.cons rfl ?_
      | refine CH.nil ?_
      | refine CO.consG rfl ?_
      | refine CH.consG rfl ?_
      | refine CG.cons rfl ?_
      | refine CG.nil ?_
      | refine CG.consG rfl ?_
      | refine ⟨(rfl : plain _ = true), ?_⟩
      | refine ⟨(rfl : nilOk _ = some _), ?_⟩
      | refine ⟨_, ints_len (by assumption), ?_⟩
      | refine ⟨_, ints_addr (by assumption) (by omega) (by omega), ?_⟩
      | refine ⟨_, ints_load (by assumption) (by omega) (by omega), ?_⟩
      | refine ⟨(⟨by omega, by omega⟩ : inI64 _), ?_⟩
      | refine ⟨_, fun tm ha => step1_max rfl (ev_tmp ha rfl) (ev_tmp ha rfl), ?_⟩
      | refine ⟨_, fun tm ha => step1_min rfl (ev_tmp ha rfl) (ev_tmp ha rfl), ?_⟩
      | refine ⟨_, hl.row.alen un88, ?_⟩
      | (refine ⟨fun _ => ?_, fun _ => ?_⟩ <;> first | (exfalso; omega) | skip)
      | fail
    · rename_i h1 h2
      rw [hll, ← hx9] at h2
      repeat' first
        | refine CO.cons rfl ?_
        | refine CO.nil ?_
        | refine CV.seq ?_
        | refine CV.region callees ?_
        | refine CV.cond ?_
        | refine CV.block ?_
        | refine CV.skip ?_
        | refine CV.exit ?_
        | refine CV.ret ?_
        | refine CV.scope ?_
        | refine CV.draw callees rfl ?_
        | refine CH.cons rfl ?_
        | refine CH.nil ?_
        | refine CO.consG rfl ?_
        | refine CH.consG rfl ?_
        | refine CG.cons rfl ?_
        | refine CG.nil ?_
        | refine CG.consG rfl ?_
        | refine ⟨(rfl : plain _ = true), ?_⟩
        | refine ⟨(rfl : nilOk _ = some _), ?_⟩
        | refine ⟨_, ints_len (by assumption), ?_⟩
        | refine ⟨_, ints_addr (by assumption) (by omega) (by omega), ?_⟩
        | refine ⟨_, ints_load (by assumption) (by omega) (by omega), ?_⟩
        | refine ⟨(⟨by omega, by omega⟩ : inI64 _), ?_⟩
        | refine ⟨_, fun tm ha => step1_max rfl (ev_tmp ha rfl) (ev_tmp ha rfl), ?_⟩
        | refine ⟨_, fun tm ha => step1_min rfl (ev_tmp ha rfl) (ev_tmp ha rfl), ?_⟩
        | refine ⟨_, build_beam _, ?_⟩
        | refine ⟨_, _, build_oneS (row := [VI i, VI 0, VI 0]) un88 zb91 (by decide) rfl, ?_⟩
        | (refine ⟨fun _ => ?_, fun _ => ?_⟩ <;> first | (exfalso; omega) | skip)
        | fail
      refine append_askS un88 zb91 (by decide) rfl hl hk.1 hB (by omega) ?_
      intro l2 H2 hl2 kb2 hf2
      have k2 := kb2.keep hk fun c hc => (hl.lt hc).1
      have hlen2 : (bm1 xs i ++ [[VI i, VI 0, VI 0]]).length = bN xs i + 1 := by simp [hll]
      repeat' first
        | refine CO.cons rfl ?_
        | refine CO.nil ?_
        | refine CV.seq ?_
        | refine CV.region callees ?_
        | refine CV.cond ?_
        | refine CV.block ?_
        | refine CV.skip ?_
        | refine CV.exit ?_
        | refine CV.ret ?_
        | refine CV.scope ?_
        | refine CV.draw callees rfl ?_
        | refine CH.cons rfl ?_
        | refine CH.nil ?_
        | refine CO.consG rfl ?_
        | refine CH.consG rfl ?_
        | refine CG.cons rfl ?_
        | refine CG.nil ?_
        | refine CG.consG rfl ?_
        | refine ⟨(rfl : plain _ = true), ?_⟩
        | refine ⟨(rfl : nilOk _ = some _), ?_⟩
        | refine ⟨_, ints_len (by assumption), ?_⟩
        | refine ⟨_, ints_addr (by assumption) (by omega) (by omega), ?_⟩
        | refine ⟨_, ints_load (by assumption) (by omega) (by omega), ?_⟩
        | refine ⟨(⟨by omega, by omega⟩ : inI64 _), ?_⟩
        | refine ⟨_, fun tm ha => step1_max rfl (ev_tmp ha rfl) (ev_tmp ha rfl), ?_⟩
        | refine ⟨_, fun tm ha => step1_min rfl (ev_tmp ha rfl) (ev_tmp ha rfl), ?_⟩
        | refine ⟨_, hl2.row.addr un88 sz91 (by omega) (by omega), ?_⟩
        | refine ⟨_, hl2.row.faddr fo1 (by decide) (by omega), ?_⟩
        | (refine ⟨fun _ => ?_, fun _ => ?_⟩ <;> first | (exfalso; omega) | skip)
        | fail
      refine fstore_askS (r := [VI i, VI 0, VI 0]) sz3 hl2 hB (by
        rw [← hx9, show xs[i]!.toNat = bN xs i by omega, List.getElem?_append_right (by omega), hll]; simp) (by decide) rfl ?_
      intro H3 hl3 kb3
      have k3 := kb3.keep k2 fun c hc => (hl2.lt hc).1
      repeat' first
        | refine CO.cons rfl ?_
        | refine CO.nil ?_
        | refine CV.seq ?_
        | refine CV.region callees ?_
        | refine CV.cond ?_
        | refine CV.block ?_
        | refine CV.skip ?_
        | refine CV.exit ?_
        | refine CV.ret ?_
        | refine CV.scope ?_
        | refine CV.draw callees rfl ?_
        | refine CH.cons rfl ?_
        | refine CH.nil ?_
        | refine CO.consG rfl ?_
        | refine CH.consG rfl ?_
        | refine CG.cons rfl ?_
        | refine CG.nil ?_
        | refine CG.consG rfl ?_
        | refine ⟨(rfl : plain _ = true), ?_⟩
        | refine ⟨(rfl : nilOk _ = some _), ?_⟩
        | refine ⟨_, ints_len (by assumption), ?_⟩
        | refine ⟨_, ints_addr (by assumption) (by omega) (by omega), ?_⟩
        | refine ⟨_, ints_load (by assumption) (by omega) (by omega), ?_⟩
        | refine ⟨(⟨by omega, by omega⟩ : inI64 _), ?_⟩
        | refine ⟨_, fun tm ha => step1_max rfl (ev_tmp ha rfl) (ev_tmp ha rfl), ?_⟩
        | refine ⟨_, fun tm ha => step1_min rfl (ev_tmp ha rfl) (ev_tmp ha rfl), ?_⟩
        | (refine ⟨fun _ => ?_, fun _ => ?_⟩ <;> first | (exfalso; omega) | skip)
        | fail
      refine ⟨(l2, i + 1), (by repeat' first | exact trivial | refine ⟨rfl, ?_⟩ | refine ⟨slot_int (by (try simp only [Int.toNat_natCast]); omega), ?_⟩), (by (try dsimp only); omega), ?_⟩
      refine ⟨by omega, k3, ?_⟩
      rw [← bm1_new hc hi2 h2]
      exact hl3
    · rename_i h1 h2
      rw [hll, ← hx9] at h2
      repeat' first
        | refine CO.cons rfl ?_
        | refine CO.nil ?_
        | refine CV.seq ?_
        | refine CV.region callees ?_
        | refine CV.cond ?_
        | refine CV.block ?_
        | refine CV.skip ?_
        | refine CV.exit ?_
        | refine CV.ret ?_
        | refine CV.scope ?_
        | refine CV.draw callees rfl ?_
        | refine CH.cons rfl ?_
        | refine CH.nil ?_
        | refine CO.consG rfl ?_
        | refine CH.consG rfl ?_
        | refine CG.cons rfl ?_
        | refine CG.nil ?_
        | refine CG.consG rfl ?_
        | refine ⟨(rfl : plain _ = true), ?_⟩
        | refine ⟨(rfl : nilOk _ = some _), ?_⟩
        | refine ⟨_, ints_len (by assumption), ?_⟩
        | refine ⟨_, ints_addr (by assumption) (by omega) (by omega), ?_⟩
        | refine ⟨_, ints_load (by assumption) (by omega) (by omega), ?_⟩
        | refine ⟨(⟨by omega, by omega⟩ : inI64 _), ?_⟩
        | refine ⟨_, fun tm ha => step1_max rfl (ev_tmp ha rfl) (ev_tmp ha rfl), ?_⟩
        | refine ⟨_, fun tm ha => step1_min rfl (ev_tmp ha rfl) (ev_tmp ha rfl), ?_⟩
        | refine ⟨_, hl.row.addr un88 sz91 (by omega) (by omega), ?_⟩
        | refine ⟨_, hl.row.faddr fo1 (by decide) (by omega), ?_⟩
        | (refine ⟨fun _ => ?_, fun _ => ?_⟩ <;> first | (exfalso; omega) | skip)
        | fail
      have hcast : ((xs[i]!.toNat : Nat) : Int) = xs[i]! := by omega
      refine fstore_askS (r := [VI (firstTo xs xs[i]! i), VI (lastTo xs xs[i]! i), VI 0]) sz3 hl hB (by
        have := bm1_at (xs := xs) (i := i) (b := xs[i]!.toNat) (by omega)
        rw [hcast] at this
        exact this) (by decide) rfl ?_
      intro H3 hl3 kb3
      have k3 := kb3.keep hk fun c hc => (hl.lt hc).1
      repeat' first
        | refine CO.cons rfl ?_
        | refine CO.nil ?_
        | refine CV.seq ?_
        | refine CV.region callees ?_
        | refine CV.cond ?_
        | refine CV.block ?_
        | refine CV.skip ?_
        | refine CV.exit ?_
        | refine CV.ret ?_
        | refine CV.scope ?_
        | refine CV.draw callees rfl ?_
        | refine CH.cons rfl ?_
        | refine CH.nil ?_
        | refine CO.consG rfl ?_
        | refine CH.consG rfl ?_
        | refine CG.cons rfl ?_
        | refine CG.nil ?_
        | refine CG.consG rfl ?_
        | refine ⟨(rfl : plain _ = true), ?_⟩
        | refine ⟨(rfl : nilOk _ = some _), ?_⟩
        | refine ⟨_, ints_len (by assumption), ?_⟩
        | refine ⟨_, ints_addr (by assumption) (by omega) (by omega), ?_⟩
        | refine ⟨_, ints_load (by assumption) (by omega) (by omega), ?_⟩
        | refine ⟨(⟨by omega, by omega⟩ : inI64 _), ?_⟩
        | refine ⟨_, fun tm ha => step1_max rfl (ev_tmp ha rfl) (ev_tmp ha rfl), ?_⟩
        | refine ⟨_, fun tm ha => step1_min rfl (ev_tmp ha rfl) (ev_tmp ha rfl), ?_⟩
        | (refine ⟨fun _ => ?_, fun _ => ?_⟩ <;> first | (exfalso; omega) | skip)
        | fail
      refine ⟨(l, i + 1), (by repeat' first | exact trivial | refine ⟨rfl, ?_⟩ | refine ⟨slot_int (by (try simp only [Int.toNat_natCast]); omega), ?_⟩), (by (try dsimp only); omega), ?_⟩
      refine ⟨by omega, k3, ?_⟩
      rw [← bm1_old hc hi2 (by omega)]
      exact hl3
  · have hin : i = xs.length := by omega
    subst hin
    rw [bm1_bmF] at hl
    clear hll
    repeat' first
      | refine CO.cons rfl ?_
      | refine CO.nil ?_
      | refine CV.seq ?_
      | refine CV.region callees ?_
      | refine CV.cond ?_
      | refine CV.block ?_
      | refine CV.skip ?_
      | refine CV.exit ?_
      | refine CV.ret ?_
      | refine CV.scope ?_
      | refine CV.draw callees rfl ?_
      | refine CH.cons rfl ?_
      | refine CH.nil ?_
      | refine CO.consG rfl ?_
      | refine CH.consG rfl ?_
      | refine CG.cons rfl ?_
      | refine CG.nil ?_
      | refine CG.consG rfl ?_
      | refine ⟨(rfl : plain _ = true), ?_⟩
      | refine ⟨(rfl : nilOk _ = some _), ?_⟩
      | refine ⟨_, ints_len (by assumption), ?_⟩
      | refine ⟨_, ints_addr (by assumption) (by omega) (by omega), ?_⟩
      | refine ⟨_, ints_load (by assumption) (by omega) (by omega), ?_⟩
      | refine ⟨(⟨by omega, by omega⟩ : inI64 _), ?_⟩
      | refine ⟨_, fun tm ha => step1_max rfl (ev_tmp ha rfl) (ev_tmp ha rfl), ?_⟩
      | refine ⟨_, fun tm ha => step1_min rfl (ev_tmp ha rfl) (ev_tmp ha rfl), ?_⟩
      | refine ⟨_, hl.row.alen un88, ?_⟩
      | (refine ⟨fun _ => ?_, fun _ => ?_⟩ <;> first | (exfalso; omega) | skip)
      | fail
    rw [bmF_len]
    refine CV.loopc ?_
    refine WCv.rounds callees false (α := Nat) (fun i => [(3, l), (32, .int .i64 (bk xs)), (33, .int .i64 i)]) (fun i Hz => i ≤ bk xs ∧ Keep H Hz ∧ OwnS 91 3 Hz l (bmF xs fun b => if b < i then lev xs b else 0) H.n) (fun i => bk xs - i) (0) (by repeat' first | exact trivial | refine ⟨rfl, ?_⟩ | refine ⟨slot_int (by (try simp only [Int.toNat_natCast]); omega), ?_⟩) ?_ ?_
    · exact ⟨by omega, hk, by rw [bmF_congr (g := fun _ => 0) (fun b _ => if_neg (by omega))]; exact hl⟩
    rintro i Hy ⟨hib, hky, hly⟩ hBy
    by_cases hi3 : i < bk xs
    · have hlen : ∀ f, (bmF xs f).length = bk xs := bmF_len xs
      repeat' first
        | refine CO.cons rfl ?_
        | refine CO.nil ?_
        | refine CV.seq ?_
        | refine CV.region callees ?_
        | refine CV.cond ?_
        | refine CV.block ?_
        | refine CV.skip ?_
        | refine CV.exit ?_
        | refine CV.ret ?_
        | refine CV.scope ?_
        | refine CV.draw callees rfl ?_
        | refine CH.cons rfl ?_
        | refine CH.nil ?_
        | refine CO.consG rfl ?_
        | refine CH.consG rfl ?_
        | refine CG.cons rfl ?_
        | refine CG.nil ?_
        | refine CG.consG rfl ?_
        | refine ⟨(rfl : plain _ = true), ?_⟩
        | refine ⟨(rfl : nilOk _ = some _), ?_⟩
        | refine ⟨_, ints_len (by assumption), ?_⟩
        | refine ⟨_, ints_addr (by assumption) (by omega) (by omega), ?_⟩
        | refine ⟨_, ints_load (by assumption) (by omega) (by omega), ?_⟩
        | refine ⟨(⟨by omega, by omega⟩ : inI64 _), ?_⟩
        | refine ⟨_, fun tm ha => step1_max rfl (ev_tmp ha rfl) (ev_tmp ha rfl), ?_⟩
        | refine ⟨_, fun tm ha => step1_min rfl (ev_tmp ha rfl) (ev_tmp ha rfl), ?_⟩
        | refine ⟨_, hly.row.addr un88 sz91 (by omega) (by rw [hlen]; omega), ?_⟩
        | refine ⟨_, hly.row.faddr fo2 (by decide) (by rw [hlen]; omega), ?_⟩
        | (refine ⟨fun _ => ?_, fun _ => ?_⟩ <;> first | (exfalso; omega) | skip)
        | fail
      refine fstore_askS (r := [VI (fst xs i), VI (lst xs i), VI (if i < i then lev xs i else 0)]) sz3 hly hB (bmF_at hi3) (by decide) rfl ?_
      intro H2 hl2 kb2
      have k2 := kb2.keep hky fun c hc => (hly.lt hc).1
      have e2 : (bmF xs fun b => if b < i then lev xs b else 0).set i [VI (fst xs i), VI (lst xs i), VI 1] = bmF xs fun b => if b = i then 1 else if b < i then lev xs b else 0 := bmF_set hi3
      have hl2' : OwnS 91 3 H2 l (bmF xs fun b => if b = i then levA xs (levs xs i) i 0 else if b < i then lev xs b else 0) H.n := by
        have h3 : OwnS 91 3 H2 l ((bmF xs fun b => if b < i then lev xs b else 0).set i [VI (fst xs i), VI (lst xs i), VI 1]) H.n := hl2
        rw [e2] at h3; exact h3
      clear hl2 hly
      repeat' first
        | refine CO.cons rfl ?_
        | refine CO.nil ?_
        | refine CV.seq ?_
        | refine CV.region callees ?_
        | refine CV.cond ?_
        | refine CV.block ?_
        | refine CV.skip ?_
        | refine CV.exit ?_
        | refine CV.ret ?_
        | refine CV.scope ?_
        | refine CV.draw callees rfl ?_
        | refine CH.cons rfl ?_
        | refine CH.nil ?_
        | refine CO.consG rfl ?_
        | refine CH.consG rfl ?_
        | refine CG.cons rfl ?_
        | refine CG.nil ?_
        | refine CG.consG rfl ?_
        | refine ⟨(rfl : plain _ = true), ?_⟩
        | refine ⟨(rfl : nilOk _ = some _), ?_⟩
        | refine ⟨_, ints_len (by assumption), ?_⟩
        | refine ⟨_, ints_addr (by assumption) (by omega) (by omega), ?_⟩
        | refine ⟨_, ints_load (by assumption) (by omega) (by omega), ?_⟩
        | refine ⟨(⟨by omega, by omega⟩ : inI64 _), ?_⟩
        | refine ⟨_, fun tm ha => step1_max rfl (ev_tmp ha rfl) (ev_tmp ha rfl), ?_⟩
        | refine ⟨_, fun tm ha => step1_min rfl (ev_tmp ha rfl) (ev_tmp ha rfl), ?_⟩
        | refine ⟨_, hl2'.slice un88 sz91 (by omega) (by rw [hlen]; omega), ?_⟩
        | (refine ⟨fun _ => ?_, fun _ => ?_⟩ <;> first | (exfalso; omega) | skip)
        | fail
      have hpl := (hl2'.pre (i := (i : Int).toNat) (by rw [hlen]; omega)).alen (P := Tryd.prog) un88
      rw [List.length_take, hlen, show min (i : Int).toNat (bk xs) = i by omega] at hpl
      repeat' first
        | refine CO.cons rfl ?_
        | refine CO.nil ?_
        | refine CV.seq ?_
        | refine CV.region callees ?_
        | refine CV.cond ?_
        | refine CV.block ?_
        | refine CV.skip ?_
        | refine CV.exit ?_
        | refine CV.ret ?_
        | refine CV.scope ?_
        | refine CV.draw callees rfl ?_
        | refine CH.cons rfl ?_
        | refine CH.nil ?_
        | refine CO.consG rfl ?_
        | refine CH.consG rfl ?_
        | refine CG.cons rfl ?_
        | refine CG.nil ?_
        | refine CG.consG rfl ?_
        | refine ⟨(rfl : plain _ = true), ?_⟩
        | refine ⟨(rfl : nilOk _ = some _), ?_⟩
        | refine ⟨_, ints_len (by assumption), ?_⟩
        | refine ⟨_, ints_addr (by assumption) (by omega) (by omega), ?_⟩
        | refine ⟨_, ints_load (by assumption) (by omega) (by omega), ?_⟩
        | refine ⟨(⟨by omega, by omega⟩ : inI64 _), ?_⟩
        | refine ⟨_, fun tm ha => step1_max rfl (ev_tmp ha rfl) (ev_tmp ha rfl), ?_⟩
        | refine ⟨_, fun tm ha => step1_min rfl (ev_tmp ha rfl) (ev_tmp ha rfl), ?_⟩
        | refine ⟨_, hpl, ?_⟩
        | (refine ⟨fun _ => ?_, fun _ => ?_⟩ <;> first | (exfalso; omega) | skip)
        | fail
      refine CV.loopc ?_
      refine WCv.rounds callees false (α := Nat) (fun j => [(3, l), (6, .int .i64 i), (32, .int .i64 (bk xs)), (33, .int .i64 i), (42, preS l i), (43, .int .i64 i), (44, .int .i64 j)]) (fun j Hz => j ≤ i ∧ Keep H Hz ∧ OwnS 91 3 Hz l (bmF xs fun b => if b = i then levA xs (levs xs i) i j else if b < i then lev xs b else 0) H.n) (fun j => i - j) (0) (by repeat' first | exact trivial | refine ⟨rfl, ?_⟩ | refine ⟨slot_int (by (try simp only [Int.toNat_natCast]); omega), ?_⟩) ?_ ?_
      · exact ⟨by omega, k2, hl2'⟩
      rintro j Hw ⟨hj, hkw, hlw⟩ hBw
      by_cases hj2 : j < i
      · have hpw := hlw.pre (i := i) (by rw [hlen]; omega)
        have hpwl : (List.take i (bmF xs fun b => if b = i then levA xs (levs xs i) i j else if b < i then lev xs b else 0)).length = i := by rw [List.length_take, hlen]; omega
        have hpj : (List.take i (bmF xs fun b => if b = i then levA xs (levs xs i) i j else if b < i then lev xs b else 0))[(j : Int).toNat]? = some [VI (fst xs j), VI (lst xs j), VI (lev xs j)] := by
          rw [Int.toNat_natCast, List.getElem?_take_of_lt hj2, bmF_at (by omega), if_neg (by omega), if_pos hj2]
        repeat' first
          | refine CO.cons rfl ?_
          | refine CO.nil ?_
          | refine CV.seq ?_
          | refine CV.region callees ?_
          | refine CV.cond ?_
          | refine CV.block ?_
          | refine CV.skip ?_
          | refine CV.exit ?_
          | refine CV.ret ?_
          | refine CV.scope ?_
          | refine CV.draw callees rfl ?_
          | refine CH.cons rfl ?_
          | refine CH.nil ?_
          | refine CO.consG rfl ?_
          | refine CH.consG rfl ?_
          | refine CG.cons rfl ?_
          | refine CG.nil ?_
          | refine CG.consG rfl ?_
          | refine ⟨(rfl : plain _ = true), ?_⟩
          | refine ⟨(rfl : nilOk _ = some _), ?_⟩
          | refine ⟨_, ints_len (by assumption), ?_⟩
          | refine ⟨_, ints_addr (by assumption) (by omega) (by omega), ?_⟩
          | refine ⟨_, ints_load (by assumption) (by omega) (by omega), ?_⟩
          | refine ⟨(⟨by omega, by omega⟩ : inI64 _), ?_⟩
          | refine ⟨_, fun tm ha => step1_max rfl (ev_tmp ha rfl) (ev_tmp ha rfl), ?_⟩
          | refine ⟨_, fun tm ha => step1_min rfl (ev_tmp ha rfl) (ev_tmp ha rfl), ?_⟩
          | refine ⟨_, hpw.addr un88 sz91 (by omega) (by omega), ?_⟩
          | refine ⟨_, hpw.load ag91 sz91 hpj, ?_⟩
          | refine ⟨_, _, alloc_of zc91, ?_⟩
          | (refine ⟨fun _ => ?_, fun _ => ?_⟩ <;> first | (exfalso; omega) | skip)
          | fail
        refine ⟨_, _, store_all (Heap.get_new_eq _ _) rfl sz91 rfl, Nat.le_trans hB hkw.1, ?_⟩
        have k3 : Keep Hw ((Hw.new (.cells [VI 0, VI 0, VI 0] 91 1)).set Hw.n (.cells [VI (fst xs j), VI (lst xs j), VI (lev xs j)] 91 1)) := (Keep.new _ _).set _ (Nat.le_refl _)
        have hg3 : ((Hw.new (.cells [VI 0, VI 0, VI 0] 91 1)).set Hw.n (.cells [VI (fst xs j), VI (lst xs j), VI (lev xs j)] 91 1)).get Hw.n = some (.cells [VI (fst xs j), VI (lst xs j), VI (lev xs j)] 91 1) := Heap.get_set_eq _ _ _
        have hl3 := hlw.keep k3
        have k4 := hkw.trans k3
        generalize (Hw.new (.cells [VI 0, VI 0, VI 0] 91 1)).set Hw.n (.cells [VI (fst xs j), VI (lst xs j), VI (lev xs j)] 91 1) = H3 at k3 hg3 hl3 k4 ⊢
        have hii : (bmF xs fun b => if b = i then levA xs (levs xs i) i j else if b < i then lev xs b else 0)[(i : Int).toNat]? = some [VI (fst xs i), VI (lst xs i), VI (levA xs (levs xs i) i j)] := by
          rw [Int.toNat_natCast, bmF_at hi3, if_pos rfl]
        have hsi := span_blk hc hi3
        have hsj := span_blk hc (b := j) (by omega)
        have hlj := lev_le xs j
        have hljp := lev_pos xs j
        have hlA : levA xs (levs xs i) i j ≤ 9 := by
          have := levA_le xs (levs xs i) i i j (fun q hq => by rw [levs_at xs (by omega)]; have := lev_le xs q; omega) (by omega)
          omega
        have hlAp := levA_pos xs (levs xs i) i j
        have hsucc : levA xs (levs xs i) i (j + 1) = if fst xs i < lst xs j then max (levA xs (levs xs i) i j) (lev xs j + 1) else levA xs (levs xs i) i j := by
          rw [levA, levs_at xs hj2]
        have hB3 := Nat.le_trans hB k4.1
        repeat' first
          | refine CO.cons rfl ?_
          | refine CO.nil ?_
          | refine CV.seq ?_
          | refine CV.region callees ?_
          | refine CV.cond ?_
          | refine CV.block ?_
          | refine CV.skip ?_
          | refine CV.exit ?_
          | refine CV.ret ?_
          | refine CV.scope ?_
          | refine CV.draw callees rfl ?_
          | refine CH.cons rfl ?_
          | refine CH.nil ?_
          | refine CO.consG rfl ?_
          | refine CH.consG rfl ?_
          | refine CG.cons rfl ?_
          | refine CG.nil ?_
          | refine CG.consG rfl ?_
          | refine ⟨(rfl : plain _ = true), ?_⟩
          | refine ⟨(rfl : nilOk _ = some _), ?_⟩
          | refine ⟨_, ints_len (by assumption), ?_⟩
          | refine ⟨_, ints_addr (by assumption) (by omega) (by omega), ?_⟩
          | refine ⟨_, ints_load (by assumption) (by omega) (by omega), ?_⟩
          | refine ⟨(⟨by omega, by omega⟩ : inI64 _), ?_⟩
          | refine ⟨_, fun tm ha => step1_max rfl (ev_tmp ha rfl) (ev_tmp ha rfl), ?_⟩
          | refine ⟨_, fun tm ha => step1_min rfl (ev_tmp ha rfl) (ev_tmp ha rfl), ?_⟩
          | refine ⟨_, field_addr fo1 (by decide), ?_⟩
          | refine ⟨_, vfield_load ag3 hg3 rfl, ?_⟩
          | refine ⟨_, hl3.row.addr un88 sz91 (by omega) (by rw [hlen]; omega), ?_⟩
          | refine ⟨_, hl3.row.faddr fo0 (by decide) (by rw [hlen]; omega), ?_⟩
          | refine ⟨_, hl3.row.fload ag3 hii rfl, ?_⟩
          | (refine ⟨fun _ => ?_, fun _ => ?_⟩ <;> first | (exfalso; omega) | skip)
          | fail
        · repeat' first
            | refine CO.cons rfl ?_
            | refine CO.nil ?_
            | refine CV.seq ?_
            | refine CV.region callees ?_
            | refine CV.cond ?_
            | refine CV.block ?_
            | refine CV.skip ?_
            | refine CV.exit ?_
            | refine CV.ret ?_
            | refine CV.scope ?_
            | refine CV.draw callees rfl ?_
            | refine CH.cons rfl ?_
            | refine CH.nil ?_
            | refine CO.consG rfl ?_
            | refine CH.consG rfl ?_
            | refine CG.cons rfl ?_
            | refine CG.nil ?_
            | refine CG.consG rfl ?_
            | refine ⟨(rfl : plain _ = true), ?_⟩
            | refine ⟨(rfl : nilOk _ = some _), ?_⟩
            | refine ⟨_, ints_len (by assumption), ?_⟩
            | refine ⟨_, ints_addr (by assumption) (by omega) (by omega), ?_⟩
            | refine ⟨_, ints_load (by assumption) (by omega) (by omega), ?_⟩
            | refine ⟨(⟨by omega, by omega⟩ : inI64 _), ?_⟩
            | refine ⟨_, fun tm ha => step1_max rfl (ev_tmp ha rfl) (ev_tmp ha rfl), ?_⟩
            | refine ⟨_, fun tm ha => step1_min rfl (ev_tmp ha rfl) (ev_tmp ha rfl), ?_⟩
            | refine ⟨_, field_addr fo2 (by decide), ?_⟩
            | refine ⟨_, vfield_load ag3 hg3 rfl, ?_⟩
            | refine ⟨_, hl3.row.addr un88 sz91 (by omega) (by rw [hlen]; omega), ?_⟩
            | refine ⟨_, hl3.row.faddr fo2 (by decide) (by rw [hlen]; omega), ?_⟩
            | refine ⟨_, hl3.row.fload ag3 hii rfl, ?_⟩
            | (refine ⟨fun _ => ?_, fun _ => ?_⟩ <;> first | (exfalso; omega) | skip)
            | fail
          refine fstore_askS sz3 hl3 hB hii (by decide) rfl ?_
          intro H4 hl4 kb4
          have k5 := kb4.keep k4 fun c hc => (hl3.lt hc).1
          repeat' first
            | refine CO.cons rfl ?_
            | refine CO.nil ?_
            | refine CV.seq ?_
            | refine CV.region callees ?_
            | refine CV.cond ?_
            | refine CV.block ?_
            | refine CV.skip ?_
            | refine CV.exit ?_
            | refine CV.ret ?_
            | refine CV.scope ?_
            | refine CV.draw callees rfl ?_
            | refine CH.cons rfl ?_
            | refine CH.nil ?_
            | refine CO.consG rfl ?_
            | refine CH.consG rfl ?_
            | refine CG.cons rfl ?_
            | refine CG.nil ?_
            | refine CG.consG rfl ?_
            | refine ⟨(rfl : plain _ = true), ?_⟩
            | refine ⟨(rfl : nilOk _ = some _), ?_⟩
            | refine ⟨_, ints_len (by assumption), ?_⟩
            | refine ⟨_, ints_addr (by assumption) (by omega) (by omega), ?_⟩
            | refine ⟨_, ints_load (by assumption) (by omega) (by omega), ?_⟩
            | refine ⟨(⟨by omega, by omega⟩ : inI64 _), ?_⟩
            | refine ⟨_, fun tm ha => step1_max rfl (ev_tmp ha rfl) (ev_tmp ha rfl), ?_⟩
            | refine ⟨_, fun tm ha => step1_min rfl (ev_tmp ha rfl) (ev_tmp ha rfl), ?_⟩
            | (refine ⟨fun _ => ?_, fun _ => ?_⟩ <;> first | (exfalso; omega) | skip)
            | fail
          refine ⟨(j + 1), (by repeat' first | exact trivial | refine ⟨rfl, ?_⟩ | refine ⟨slot_int (by (try simp only [Int.toNat_natCast]); omega), ?_⟩), (by (try dsimp only); omega), ?_⟩
          refine ⟨by omega, k5, ?_⟩
          rw [if_pos (by omega)] at hsucc
          have h4 : OwnS 91 3 H4 l ((bmF xs fun b => if b = i then levA xs (levs xs i) i j else if b < i then lev xs b else 0).set i [VI (fst xs i), VI (lst xs i), VI (max (levA xs (levs xs i) i j) (lev xs j + 1))]) H.n := hl4
          rw [bmF_set hi3] at h4
          rw [bmF_congr (g := fun q => if q = i then max (levA xs (levs xs i) i j) (lev xs j + 1) else if q = i then levA xs (levs xs i) i j else if q < i then lev xs q else 0) (fun b _ => by
            by_cases hb : b = i
            · rw [if_pos hb, if_pos hb, hsucc]
            · rw [if_neg hb, if_neg hb, if_neg hb])]
          exact h4
        · refine ⟨(j + 1), (by repeat' first | exact trivial | refine ⟨rfl, ?_⟩ | refine ⟨slot_int (by (try simp only [Int.toNat_natCast]); omega), ?_⟩), (by (try dsimp only); omega), ?_⟩
          refine ⟨by omega, k4, ?_⟩
          rw [if_neg (by omega)] at hsucc
          rw [hsucc]; exact hl3
      · have : j = i := by omega
        subst this
        repeat' first
          | refine CO.cons rfl ?_
          | refine CO.nil ?_
          | refine CV.seq ?_
          | refine CV.region callees ?_
          | refine CV.cond ?_
          | refine CV.block ?_
          | refine CV.skip ?_
          | refine CV.exit ?_
          | refine CV.ret ?_
          | refine CV.scope ?_
          | refine CV.draw callees rfl ?_
          | refine CH.cons rfl ?_
          | refine CH.nil ?_
          | refine CO.consG rfl ?_
          | refine CH.consG rfl ?_
          | refine CG.cons rfl ?_
          | refine CG.nil ?_
          | refine CG.consG rfl ?_
          | refine ⟨(rfl : plain _ = true), ?_⟩
          | refine ⟨(rfl : nilOk _ = some _), ?_⟩
          | refine ⟨_, ints_len (by assumption), ?_⟩
          | refine ⟨_, ints_addr (by assumption) (by omega) (by omega), ?_⟩
          | refine ⟨_, ints_load (by assumption) (by omega) (by omega), ?_⟩
          | refine ⟨(⟨by omega, by omega⟩ : inI64 _), ?_⟩
          | refine ⟨_, fun tm ha => step1_max rfl (ev_tmp ha rfl) (ev_tmp ha rfl), ?_⟩
          | refine ⟨_, fun tm ha => step1_min rfl (ev_tmp ha rfl) (ev_tmp ha rfl), ?_⟩
          | (refine ⟨fun _ => ?_, fun _ => ?_⟩ <;> first | (exfalso; omega) | skip)
          | fail
        refine ⟨(j + 1), (by repeat' first | exact trivial | refine ⟨rfl, ?_⟩ | refine ⟨slot_int (by (try simp only [Int.toNat_natCast]); omega), ?_⟩), (by (try dsimp only); omega), ?_⟩
        refine ⟨by omega, hkw, ?_⟩
        rw [bmF_congr (g := fun b => if b = j then levA xs (levs xs j) j j else if b < j then lev xs b else 0) (fun b _ => by
          by_cases hb : b = j
          · subst hb; rw [if_pos (by omega), if_pos rfl]; rfl
          · by_cases hb2 : b < j
            · rw [if_pos (by omega), if_neg hb, if_pos hb2]
            · rw [if_neg (by omega), if_neg hb, if_neg hb2])]
        exact hlw
    · repeat' first
        | refine CO.cons rfl ?_
        | refine CO.nil ?_
        | refine CV.seq ?_
        | refine CV.region callees ?_
        | refine CV.cond ?_
        | refine CV.block ?_
        | refine CV.skip ?_
        | refine CV.exit ?_
        | refine CV.ret ?_
        | refine CV.scope ?_
        | refine CV.draw callees rfl ?_
        | refine CH.cons rfl ?_
        | refine CH.nil ?_
        | refine CO.consG rfl ?_
        | refine CH.consG rfl ?_
        | refine CG.cons rfl ?_
        | refine CG.nil ?_
        | refine CG.consG rfl ?_
        | refine ⟨(rfl : plain _ = true), ?_⟩
        | refine ⟨(rfl : nilOk _ = some _), ?_⟩
        | refine ⟨_, ints_len (by assumption), ?_⟩
        | refine ⟨_, ints_addr (by assumption) (by omega) (by omega), ?_⟩
        | refine ⟨_, ints_load (by assumption) (by omega) (by omega), ?_⟩
        | refine ⟨(⟨by omega, by omega⟩ : inI64 _), ?_⟩
        | refine ⟨_, fun tm ha => step1_max rfl (ev_tmp ha rfl) (ev_tmp ha rfl), ?_⟩
        | refine ⟨_, fun tm ha => step1_min rfl (ev_tmp ha rfl) (ev_tmp ha rfl), ?_⟩
        | (refine ⟨fun _ => ?_, fun _ => ?_⟩ <;> first | (exfalso; omega) | skip)
        | fail
      refine ⟨by simp only [List.all_cons, List.all_nil, hly.notTuple]; rfl, ?_, hky⟩
      rw [bmF_congr (g := fun b => if b < i then lev xs b else 0) (fun b hb => by rw [if_pos (by omega)])]
      exact hly
end Go.Proofs.YteocbhefhobehaaDoor

/- Levels, and the characters of a chart, by the program. -/
namespace Go.AI
theorem anew_keep (H : Heap) (cs : List Value) (e : TypeId) (k : Nat) : Keep H (anew H cs e k) := Keep.new _ _
/-- The bytes of a list of numbers. -/
def strOf (l : List Int) : ByteArray := ⟨(l.map fun x => UInt8.ofNat x.toNat).toArray⟩
abbrev V8 (n : Int) : Value := .int .u8 n
theorem bytesOf_list : ∀ (l : List Int) (acc : ByteArray), bytesOfCells (l.map V8) acc = some ⟨acc.data ++ (l.map fun x => UInt8.ofNat x.toNat).toArray⟩
  | [], acc => by simp [bytesOfCells]
  | x :: l, acc => by
    simp only [List.map_cons, bytesOfCells]
    rw [bytesOf_list l]
    congr 2
    simp [ByteArray.push]
theorem conv_str {P : Program} {src dst e : TypeId} (hs : P.underlying src = some (.slice e)) (hd : P.underlying dst = some .string) (h8 : isU8 P e = true) {H : Heap} {v : Value} {l : List Int} {B : Nat} (h : Own e H v (l.map V8) B) : aconvert P H src dst v = some (.string (strOf l)) := by
  rcases h with ⟨rfl, h0⟩ | ⟨b, rfl, h2, h3, h4⟩
  · have : l = [] := by simpa using h0
    subst this
    simp only [aconvert, hs, hd, h8, if_true]
    rfl
  · simp only [aconvert, hs, hd, h8, if_true, h4]
    rw [if_pos (by simp), List.drop_zero, List.take_of_length_le (by simp), bytesOf_list]
    simp [strOf]
end Go.AI
namespace Go.Proofs.YteocbhefhobehaaDoor
open Go.AI
theorem un9 : Tryd.prog.underlying 9 = some .string := by kernel_rfl
theorem un93 : Tryd.prog.underlying 93 = some (.slice 5) := by kernel_rfl
theorem one5 : oneBB Tryd.prog 5 = some (.int .u8 0, 1) := by kernel_rfl
theorem sz5 : sizeB Tryd.prog 5 = some 1 := by kernel_rfl
theorem ag5 : isAggB Tryd.prog 5 = some false := by kernel_rfl
theorem u8_5 : isU8 Tryd.prog 5 = true := by kernel_rfl
theorem un122 : Tryd.prog.underlying 122 = some (.array 3 121) := by kernel_rfl
theorem un121 : Tryd.prog.underlying 121 = some (.array 2 5) := by kernel_rfl
theorem sz121 : sizeB Tryd.prog 121 = some 2 := by kernel_rfl
set_option maxHeartbeats 1000000 in
set_option maxRecDepth 100000 in
theorem levels_spec {B : Nat} {v : Value} {H : Heap} {xs : List Int} (hB : B ≤ H.n) (hv : Ints H v xs) :
    CallB Tryd.prog B 49 [v] H (fun r H' => (∃ u, r = .tuple #[u, .int .i64 (check xs)] ∧ Ints H' u (if check xs = 0 then levs xs (bk xs) else [])) ∧ Keep H H') := by
  refine CV.enter callees false rfl Tryd.func49 rfl ok49 (Nat.le_of_ble_eq_true rfl) hB ?_
  repeat' first
    | refine CO.cons rfl ?_
    | refine CO.nil ?_
    | refine CV.seq ?_
    | refine CV.region callees ?_
    | refine CV.cond ?_
    | refine CV.block ?_
    | refine CV.skip ?_
    | refine CV.exit ?_
    | refine CV.ret ?_
    | refine CV.scope ?_
    | refine CV.draw callees rfl ?_
    | refine CH.cons rfl ?_
    | refine CH.nil ?_
    | refine CO.consG rfl ?_
    | refine CH.consG rfl ?_
    | refine CG.cons rfl ?_
    | refine CG.nil ?_
    | refine CG.consG rfl ?_
    | refine ⟨(rfl : plain _ = true), ?_⟩
    | refine ⟨(rfl : nilOk _ = some _), ?_⟩
    | refine ⟨_, ints_len (by assumption), ?_⟩
    | refine ⟨_, ints_addr (by assumption) (by omega) (by omega), ?_⟩
    | refine ⟨_, ints_load (by assumption) (by omega) (by omega), ?_⟩
    | refine ⟨(⟨by omega, by omega⟩ : inI64 _), ?_⟩
    | refine ⟨_, fun tm ha => step1_max rfl (ev_tmp ha rfl) (ev_tmp ha rfl), ?_⟩
    | refine ⟨_, fun tm ha => step1_min rfl (ev_tmp ha rfl) (ev_tmp ha rfl), ?_⟩
    | (refine ⟨fun _ => ?_, fun _ => ?_⟩ <;> first | (exfalso; omega) | skip)
    | fail
  refine (check_spec hB hv).mono ?_
  rintro r H1 ⟨rfl, rfl⟩
  repeat' first
    | refine CO.cons rfl ?_
    | refine CO.nil ?_
    | refine CV.seq ?_
    | refine CV.region callees ?_
    | refine CV.cond ?_
    | refine CV.block ?_
    | refine CV.skip ?_
    | refine CV.exit ?_
    | refine CV.ret ?_
    | refine CV.scope ?_
    | refine CV.draw callees rfl ?_
    | refine CH.cons rfl ?_
    | refine CH.nil ?_
    | refine CO.consG rfl ?_
    | refine CH.consG rfl ?_
    | refine CG.cons rfl ?_
    | refine CG.nil ?_
    | refine CG.consG rfl ?_
    | refine ⟨(rfl : plain _ = true), ?_⟩
    | refine ⟨(rfl : nilOk _ = some _), ?_⟩
    | refine ⟨_, ints_len (by assumption), ?_⟩
    | refine ⟨_, ints_addr (by assumption) (by omega) (by omega), ?_⟩
    | refine ⟨_, ints_load (by assumption) (by omega) (by omega), ?_⟩
    | refine ⟨(⟨by omega, by omega⟩ : inI64 _), ?_⟩
    | refine ⟨_, fun tm ha => step1_max rfl (ev_tmp ha rfl) (ev_tmp ha rfl), ?_⟩
    | refine ⟨_, fun tm ha => step1_min rfl (ev_tmp ha rfl) (ev_tmp ha rfl), ?_⟩
    | (refine ⟨fun _ => ?_, fun _ => ?_⟩ <;> first | (exfalso; omega) | skip)
    | fail
  · exact ⟨rfl, ⟨_, rfl, .inl ⟨rfl, by rw [if_neg (by assumption)]; rfl⟩⟩, Keep.refl _⟩
  have hc : check xs = 0 := Classical.not_not.1 (by assumption)
  have hk9 := bk_le9 hc
  refine (beams_spec hB hv hc).mono ?_
  rintro l H2 ⟨hl, k2⟩
  have hB2 := Nat.le_trans hB k2.1
  have hlen : (bmF xs (lev xs)).length = bk xs := bmF_len xs _
  repeat' first
    | refine CO.cons rfl ?_
    | refine CO.nil ?_
    | refine CV.seq ?_
    | refine CV.region callees ?_
    | refine CV.cond ?_
    | refine CV.block ?_
    | refine CV.skip ?_
    | refine CV.exit ?_
    | refine CV.ret ?_
    | refine CV.scope ?_
    | refine CV.draw callees rfl ?_
    | refine CH.cons rfl ?_
    | refine CH.nil ?_
    | refine CO.consG rfl ?_
    | refine CH.consG rfl ?_
    | refine CG.cons rfl ?_
    | refine CG.nil ?_
    | refine CG.consG rfl ?_
    | refine ⟨(rfl : plain _ = true), ?_⟩
    | refine ⟨(rfl : nilOk _ = some _), ?_⟩
    | refine ⟨_, ints_len (by assumption), ?_⟩
    | refine ⟨_, ints_addr (by assumption) (by omega) (by omega), ?_⟩
    | refine ⟨_, ints_load (by assumption) (by omega) (by omega), ?_⟩
    | refine ⟨(⟨by omega, by omega⟩ : inI64 _), ?_⟩
    | refine ⟨_, fun tm ha => step1_max rfl (ev_tmp ha rfl) (ev_tmp ha rfl), ?_⟩
    | refine ⟨_, fun tm ha => step1_min rfl (ev_tmp ha rfl) (ev_tmp ha rfl), ?_⟩
    | refine ⟨_, hl.row.alen un88, ?_⟩
    | (refine ⟨fun _ => ?_, fun _ => ?_⟩ <;> first | (exfalso; omega) | skip)
    | fail
  rw [hlen]
  refine CV.loopc ?_
  refine WCv.rounds callees false (α := Value × Nat) (fun (o, i) => [(5, o), (14, l), (15, .int .i64 (bk xs)), (16, .int .i64 i)]) (fun (o, i) Hz => i ≤ bk xs ∧ Keep H2 Hz ∧ Own 3 Hz o ((levs xs i).map VI) H2.n) (fun (o, i) => bk xs - i) (.slice none 0 0, 0) (by repeat' first | exact trivial | refine ⟨rfl, ?_⟩ | refine ⟨slot_int (by (try simp only [Int.toNat_natCast]); omega), ?_⟩) ?_ ?_
  · exact ⟨by omega, Keep.refl _, .inl ⟨rfl, rfl⟩⟩
  rintro ⟨o, i⟩ Hx ⟨hi, hk, ho⟩ hBx
  have hlx := hl.row.keep hk
  by_cases hi2 : i < bk xs
  · have hat : (bmF xs (lev xs))[(i : Int).toNat]? = some [VI (fst xs i), VI (lst xs i), VI (lev xs i)] := bmF_at hi2
    repeat' first
      | refine CO.cons rfl ?_
      | refine CO.nil ?_
      | refine CV.seq ?_
      | refine CV.region callees ?_
      | refine CV.cond ?_
      | refine CV.block ?_
      | refine CV.skip ?_
      | refine CV.exit ?_
      | refine CV.ret ?_
      | refine CV.scope ?_
      | refine CV.draw callees rfl ?_
      | refine CH.cons rfl ?_
      | refine CH.nil ?_
      | refine CO.consG rfl ?_
      | refine CH.consG rfl ?_
      | refine CG.cons rfl ?_
      | refine CG.nil ?_
      | refine CG.consG rfl ?_
      | refine ⟨(rfl : plain _ = true), ?_⟩
      | refine ⟨(rfl : nilOk _ = some _), ?_⟩
      | refine ⟨_, ints_len (by assumption), ?_⟩
      | refine ⟨_, ints_addr (by assumption) (by omega) (by omega), ?_⟩
      | refine ⟨_, ints_load (by assumption) (by omega) (by omega), ?_⟩
      | refine ⟨(⟨by omega, by omega⟩ : inI64 _), ?_⟩
      | refine ⟨_, fun tm ha => step1_max rfl (ev_tmp ha rfl) (ev_tmp ha rfl), ?_⟩
      | refine ⟨_, fun tm ha => step1_min rfl (ev_tmp ha rfl) (ev_tmp ha rfl), ?_⟩
      | refine ⟨_, hlx.addr un88 sz91 (by omega) (by omega), ?_⟩
      | refine ⟨_, hlx.load ag91 sz91 hat, ?_⟩
      | refine ⟨_, _, alloc_of zc91, ?_⟩
      | (refine ⟨fun _ => ?_, fun _ => ?_⟩ <;> first | (exfalso; omega) | skip)
      | fail
    refine ⟨_, _, store_all (Heap.get_new_eq _ _) rfl sz91 rfl, hBx, ?_⟩
    have k3 : Keep Hx ((Hx.new (.cells [VI 0, VI 0, VI 0] 91 1)).set Hx.n (.cells [VI (fst xs i), VI (lst xs i), VI (lev xs i)] 91 1)) := (Keep.new _ _).set _ (Nat.le_refl _)
    have hg3 : ((Hx.new (.cells [VI 0, VI 0, VI 0] 91 1)).set Hx.n (.cells [VI (fst xs i), VI (lst xs i), VI (lev xs i)] 91 1)).get Hx.n = some (.cells [VI (fst xs i), VI (lst xs i), VI (lev xs i)] 91 1) := Heap.get_set_eq _ _ _
    have ho3 := ho.keep k3
    have k4 := hk.trans k3
    generalize (Hx.new (.cells [VI 0, VI 0, VI 0] 91 1)).set Hx.n (.cells [VI (fst xs i), VI (lst xs i), VI (lev xs i)] 91 1) = H3 at k3 hg3 ho3 k4 ⊢
    repeat' first
      | refine CO.cons rfl ?_
      | refine CO.nil ?_
      | refine CV.seq ?_
      | refine CV.region callees ?_
      | refine CV.cond ?_
      | refine CV.block ?_
      | refine CV.skip ?_
      | refine CV.exit ?_
      | refine CV.ret ?_
      | refine CV.scope ?_
      | refine CV.draw callees rfl ?_
      | refine CH.cons rfl ?_
      | refine CH.nil ?_
      | refine CO.consG rfl ?_
      | refine CH.consG rfl ?_
      | refine CG.cons rfl ?_
      | refine CG.nil ?_
      | refine CG.consG rfl ?_
      | refine ⟨(rfl : plain _ = true), ?_⟩
      | refine ⟨(rfl : nilOk _ = some _), ?_⟩
      | refine ⟨_, ints_len (by assumption), ?_⟩
      | refine ⟨_, ints_addr (by assumption) (by omega) (by omega), ?_⟩
      | refine ⟨_, ints_load (by assumption) (by omega) (by omega), ?_⟩
      | refine ⟨(⟨by omega, by omega⟩ : inI64 _), ?_⟩
      | refine ⟨_, fun tm ha => step1_max rfl (ev_tmp ha rfl) (ev_tmp ha rfl), ?_⟩
      | refine ⟨_, fun tm ha => step1_min rfl (ev_tmp ha rfl) (ev_tmp ha rfl), ?_⟩
      | refine ⟨_, field_addr fo2 (by decide), ?_⟩
      | refine ⟨_, vfield_load ag3 hg3 rfl, ?_⟩
      | refine ⟨_, _, build_one un22 one3 rfl, ?_⟩
      | (refine ⟨fun _ => ?_, fun _ => ?_⟩ <;> first | (exfalso; omega) | skip)
      | fail
    refine push_ask ho3 k4.1 hB2 (by rw [levs_length]; omega) ?_
    intro o2 H4 ho4 kb4 hf4
    have k5 := kb4.keep k4 fun c hc => (ho3.lt hc).1
    repeat' first
      | refine CO.cons rfl ?_
      | refine CO.nil ?_
      | refine CV.seq ?_
      | refine CV.region callees ?_
      | refine CV.cond ?_
      | refine CV.block ?_
      | refine CV.skip ?_
      | refine CV.exit ?_
      | refine CV.ret ?_
      | refine CV.scope ?_
      | refine CV.draw callees rfl ?_
      | refine CH.cons rfl ?_
      | refine CH.nil ?_
      | refine CO.consG rfl ?_
      | refine CH.consG rfl ?_
      | refine CG.cons rfl ?_
      | refine CG.nil ?_
      | refine CG.consG rfl ?_
      | refine ⟨(rfl : plain _ = true), ?_⟩
      | refine ⟨(rfl : nilOk _ = some _), ?_⟩
      | refine ⟨_, ints_len (by assumption), ?_⟩
      | refine ⟨_, ints_addr (by assumption) (by omega) (by omega), ?_⟩
      | refine ⟨_, ints_load (by assumption) (by omega) (by omega), ?_⟩
      | refine ⟨(⟨by omega, by omega⟩ : inI64 _), ?_⟩
      | refine ⟨_, fun tm ha => step1_max rfl (ev_tmp ha rfl) (ev_tmp ha rfl), ?_⟩
      | refine ⟨_, fun tm ha => step1_min rfl (ev_tmp ha rfl) (ev_tmp ha rfl), ?_⟩
      | (refine ⟨fun _ => ?_, fun _ => ?_⟩ <;> first | (exfalso; omega) | skip)
      | fail
    refine ⟨(o2, i + 1), (by repeat' first | exact trivial | refine ⟨rfl, ?_⟩ | refine ⟨slot_int (by (try simp only [Int.toNat_natCast]); omega), ?_⟩), (by (try dsimp only); omega), ?_⟩
    exact ⟨by omega, k5, ho4⟩
  · repeat' first
      | refine CO.cons rfl ?_
      | refine CO.nil ?_
      | refine CV.seq ?_
      | refine CV.region callees ?_
      | refine CV.cond ?_
      | refine CV.block ?_
      | refine CV.skip ?_
      | refine CV.exit ?_
      | refine CV.ret ?_
      | refine CV.scope ?_
      | refine CV.draw callees rfl ?_
      | refine CH.cons rfl ?_
      | refine CH.nil ?_
      | refine CO.consG rfl ?_
      | refine CH.consG rfl ?_
      | refine CG.cons rfl ?_
      | refine CG.nil ?_
      | refine CG.consG rfl ?_
      | refine ⟨(rfl : plain _ = true), ?_⟩
      | refine ⟨(rfl : nilOk _ = some _), ?_⟩
      | refine ⟨_, ints_len (by assumption), ?_⟩
      | refine ⟨_, ints_addr (by assumption) (by omega) (by omega), ?_⟩
      | refine ⟨_, ints_load (by assumption) (by omega) (by omega), ?_⟩
      | refine ⟨(⟨by omega, by omega⟩ : inI64 _), ?_⟩
      | refine ⟨_, fun tm ha => step1_max rfl (ev_tmp ha rfl) (ev_tmp ha rfl), ?_⟩
      | refine ⟨_, fun tm ha => step1_min rfl (ev_tmp ha rfl) (ev_tmp ha rfl), ?_⟩
      | (refine ⟨fun _ => ?_, fun _ => ?_⟩ <;> first | (exfalso; omega) | skip)
      | fail
    refine ⟨by simp only [List.all_cons, List.all_nil, ho.notTuple]; rfl, ⟨o, by rw [hc], ?_⟩, k2.trans hk⟩
    rw [if_pos hc, show bk xs = i by omega]
    exact ho.row
set_option maxRecDepth 100000 in
theorem isAt_spec {B : Nat} {H : Heap} {a b c lv q : Int} (hB : B ≤ H.n) (ha : 0 ≤ a ∧ a < 1000) (hb : 0 ≤ b ∧ b < 1000) :
    CallB Tryd.prog B 124 [.agg #[VI a, VI b, VI c], .int .i64 lv, .int .i64 q] H (fun r H' => r = .bool (c == lv && decide (a < b) && decide (2 * a ≤ q) && decide (q ≤ 2 * b)) ∧ Keep H H') := by
  refine CV.enter callees false rfl Tryd.func124 rfl ok124 (Nat.le_of_ble_eq_true rfl) hB ?_
  repeat' first
    | refine CO.cons rfl ?_
    | refine CO.nil ?_
    | refine CV.seq ?_
    | refine CV.region callees ?_
    | refine CV.cond ?_
    | refine CV.block ?_
    | refine CV.skip ?_
    | refine CV.exit ?_
    | refine CV.ret ?_
    | refine CV.scope ?_
    | refine CV.draw callees rfl ?_
    | refine CH.cons rfl ?_
    | refine CH.nil ?_
    | refine CO.consG rfl ?_
    | refine CH.consG rfl ?_
    | refine CG.cons rfl ?_
    | refine CG.nil ?_
    | refine CG.consG rfl ?_
    | refine ⟨(rfl : plain _ = true), ?_⟩
    | refine ⟨(rfl : nilOk _ = some _), ?_⟩
    | refine ⟨_, ints_len (by assumption), ?_⟩
    | refine ⟨_, ints_addr (by assumption) (by omega) (by omega), ?_⟩
    | refine ⟨_, ints_load (by assumption) (by omega) (by omega), ?_⟩
    | refine ⟨(⟨by omega, by omega⟩ : inI64 _), ?_⟩
    | refine ⟨_, fun tm ha => step1_max rfl (ev_tmp ha rfl) (ev_tmp ha rfl), ?_⟩
    | refine ⟨_, fun tm ha => step1_min rfl (ev_tmp ha rfl) (ev_tmp ha rfl), ?_⟩
    | refine ⟨(rfl : notTuple _ = true), ?_⟩
    | (refine ⟨fun _ => ?_, fun _ => ?_⟩ <;> first | (exfalso; omega) | skip)
    | fail
  have hg : (anew H (Value.agg #[VI a, VI b, VI c]).cells.toList 91 1).get H.n = some (.cells [VI a, VI b, VI c] 91 1) := Heap.get_new_eq _ _
  have k := anew_keep H (Value.agg #[VI a, VI b, VI c]).cells.toList 91 1
  generalize anew H (Value.agg #[VI a, VI b, VI c]).cells.toList 91 1 = H2 at hg k ⊢
  repeat' first
    | refine CO.cons rfl ?_
    | refine CO.nil ?_
    | refine CV.seq ?_
    | refine CV.region callees ?_
    | refine CV.cond ?_
    | refine CV.block ?_
    | refine CV.skip ?_
    | refine CV.exit ?_
    | refine CV.ret ?_
    | refine CV.scope ?_
    | refine CV.draw callees rfl ?_
    | refine CH.cons rfl ?_
    | refine CH.nil ?_
    | refine CO.consG rfl ?_
    | refine CH.consG rfl ?_
    | refine CG.cons rfl ?_
    | refine CG.nil ?_
    | refine CG.consG rfl ?_
    | refine ⟨(rfl : plain _ = true), ?_⟩
    | refine ⟨(rfl : nilOk _ = some _), ?_⟩
    | refine ⟨_, ints_len (by assumption), ?_⟩
    | refine ⟨_, ints_addr (by assumption) (by omega) (by omega), ?_⟩
    | refine ⟨_, ints_load (by assumption) (by omega) (by omega), ?_⟩
    | refine ⟨(⟨by omega, by omega⟩ : inI64 _), ?_⟩
    | refine ⟨_, fun tm ha => step1_max rfl (ev_tmp ha rfl) (ev_tmp ha rfl), ?_⟩
    | refine ⟨_, fun tm ha => step1_min rfl (ev_tmp ha rfl) (ev_tmp ha rfl), ?_⟩
    | refine ⟨_, field_addr fo2 (by decide), ?_⟩
    | refine ⟨_, field_addr fo1 (by decide), ?_⟩
    | refine ⟨_, field_addr fo0 (by decide), ?_⟩
    | refine ⟨_, vfield_load ag3 hg rfl, ?_⟩
    | (refine ⟨fun _ => ?_, fun _ => ?_⟩ <;> first | (exfalso; omega) | skip)
    | fail
  all_goals refine ⟨rfl, ?_, k⟩
  all_goals (congr 1; apply bool_eq; simp only [Bool.and_eq_true, beq_iff_eq, decide_eq_true_eq])
  all_goals first
    | exact ⟨fun _ => ⟨⟨⟨by omega, by omega⟩, by omega⟩, by omega⟩, fun _ => trivial⟩
    | exact ⟨fun h => (by cases h), fun h => (by exfalso; omega)⟩
theorem base_signs {H : Heap} (h : Base H) : H.get 0 = some (.cells ([32,45,124,111,124,120].map fun n => Value.int .u8 n) 0 0) := h.2 0 _ rfl
theorem sign_load {H : Heap} (h : Base H) {k w : Nat} {x : Int} (hx : ([32,45,124,111,124,120] : List Int)[k * 2 + w]? = some x) : aload Tryd.prog 5 H (.pointer (some ⟨0, 0 + k * 2 + w * 1, none⟩)) = some (.int .u8 x) := by
  simp only [aload, base_signs h, ag5]
  rw [List.getElem?_map, show 0 + k * 2 + w * 1 = k * 2 + w by omega, hx]; rfl
set_option maxRecDepth 100000 in
theorem isNaN_spec {B : Nat} {H : Heap} {a : Int} (hB : B ≤ H.n) : CallB Tryd.prog B 132 [.int .i64 a] H (fun r H' => r = .bool false ∧ H' = H) := by
  refine CV.enter callees false rfl Tryd.func132 rfl ok132 (Nat.le_of_ble_eq_true rfl) hB ?_
  repeat' first
    | refine CO.cons rfl ?_
    | refine CO.nil ?_
    | refine CV.seq ?_
    | refine CV.region callees ?_
    | refine CV.cond ?_
    | refine CV.block ?_
    | refine CV.skip ?_
    | refine CV.exit ?_
    | refine CV.ret ?_
    | refine CV.scope ?_
    | refine CV.draw callees rfl ?_
    | refine CH.cons rfl ?_
    | refine CH.nil ?_
    | refine CO.consG rfl ?_
    | refine CH.consG rfl ?_
    | refine CG.cons rfl ?_
    | refine CG.nil ?_
    | refine CG.consG rfl ?_
    | refine ⟨(rfl : plain _ = true), ?_⟩
    | refine ⟨(rfl : nilOk _ = some _), ?_⟩
    | refine ⟨_, ints_len (by assumption), ?_⟩
    | refine ⟨_, ints_addr (by assumption) (by omega) (by omega), ?_⟩
    | refine ⟨_, ints_load (by assumption) (by omega) (by omega), ?_⟩
    | refine ⟨(⟨by omega, by omega⟩ : inI64 _), ?_⟩
    | refine ⟨_, fun tm ha => step1_max rfl (ev_tmp ha rfl) (ev_tmp ha rfl), ?_⟩
    | refine ⟨_, fun tm ha => step1_min rfl (ev_tmp ha rfl) (ev_tmp ha rfl), ?_⟩
    | (refine ⟨fun _ => ?_, fun _ => ?_⟩ <;> first | (exfalso; omega) | skip)
    | fail
  exact ⟨rfl, rfl, rfl⟩
def cmpR (a b : Int) : Int := if a < b then -1 else if b < a then 1 else 0
set_option maxRecDepth 100000 in
theorem cmp_spec {B : Nat} {H : Heap} {a b : Int} (hB : B ≤ H.n) : CallB Tryd.prog B 125 [.int .i64 a, .int .i64 b] H (fun r H' => r = .int .i64 (cmpR a b) ∧ H' = H) := by
  refine CV.enter callees false rfl Tryd.func125 rfl ok125 (Nat.le_of_ble_eq_true rfl) hB ?_
  repeat' first
    | refine CO.cons rfl ?_
    | refine CO.nil ?_
    | refine CV.seq ?_
    | refine CV.region callees ?_
    | refine CV.cond ?_
    | refine CV.block ?_
    | refine CV.skip ?_
    | refine CV.exit ?_
    | refine CV.ret ?_
    | refine CV.scope ?_
    | refine CV.draw callees rfl ?_
    | refine CH.cons rfl ?_
    | refine CH.nil ?_
    | refine CO.consG rfl ?_
    | refine CH.consG rfl ?_
    | refine CG.cons rfl ?_
    | refine CG.nil ?_
    | refine CG.consG rfl ?_
    | refine ⟨(rfl : plain _ = true), ?_⟩
    | refine ⟨(rfl : nilOk _ = some _), ?_⟩
    | refine ⟨_, ints_len (by assumption), ?_⟩
    | refine ⟨_, ints_addr (by assumption) (by omega) (by omega), ?_⟩
    | refine ⟨_, ints_load (by assumption) (by omega) (by omega), ?_⟩
    | refine ⟨(⟨by omega, by omega⟩ : inI64 _), ?_⟩
    | refine ⟨_, fun tm ha => step1_max rfl (ev_tmp ha rfl) (ev_tmp ha rfl), ?_⟩
    | refine ⟨_, fun tm ha => step1_min rfl (ev_tmp ha rfl) (ev_tmp ha rfl), ?_⟩
    | (refine (isNaN_spec hB).mono ?_; rintro r H' ⟨rfl, rfl⟩)
    | (refine ⟨fun _ => ?_, fun _ => ?_⟩ <;> first | (exfalso; omega) | skip)
    | fail
  · exact ⟨rfl, by rw [cmpR, if_pos (by assumption)], rfl⟩
  · exact ⟨rfl, by rw [cmpR, if_neg (by assumption), if_pos (by omega)], rfl⟩
  · exact ⟨rfl, by rw [cmpR, if_neg (by assumption), if_neg (by omega)], rfl⟩
set_option maxHeartbeats 2000000 in
set_option maxRecDepth 100000 in
theorem sign_spec {B : Nat} {v l : Value} {H : Heap} {xs : List Int} {row : Int} {c : Nat} (hB : B ≤ H.n) (hBase : Base H) (hv : Ints H v xs) (hc : check xs = 0) (hl : RowS 3 H l (bmF xs (lev xs))) (hcn : c < 2 * xs.length - 1) :
    CallB Tryd.prog B 113 [v, l, .int .i64 row, .int .i64 c] H (fun r H' => r = .int .u8 (ch xs row c) ∧ Keep H H') := by
  have hlx := check_len hc
  have hk9 := bk_le9 hc
  have hlen : (bmF xs (lev xs)).length = bk xs := bmF_len xs _
  refine CV.enter callees false rfl Tryd.func113 rfl ok113 (Nat.le_of_ble_eq_true rfl) hB ?_
  repeat' first
    | refine CO.cons rfl ?_
    | refine CO.nil ?_
    | refine CV.seq ?_
    | refine CV.region callees ?_
    | refine CV.cond ?_
    | refine CV.block ?_
    | refine CV.skip ?_
    | refine CV.exit ?_
    | refine CV.ret ?_
    | refine CV.scope ?_
    | refine CV.draw callees rfl ?_
    | refine CH.cons rfl ?_
    | refine CH.nil ?_
    | refine CO.consG rfl ?_
    | refine CH.consG rfl ?_
    | refine CG.cons rfl ?_
    | refine CG.nil ?_
    | refine CG.consG rfl ?_
    | refine ⟨(rfl : plain _ = true), ?_⟩
    | refine ⟨(rfl : nilOk _ = some _), ?_⟩
    | refine ⟨_, ints_len (by assumption), ?_⟩
    | refine ⟨_, ints_addr (by assumption) (by omega) (by omega), ?_⟩
    | refine ⟨_, ints_load (by assumption) (by omega) (by omega), ?_⟩
    | refine ⟨(⟨by omega, by omega⟩ : inI64 _), ?_⟩
    | refine ⟨_, fun tm ha => step1_max rfl (ev_tmp ha rfl) (ev_tmp ha rfl), ?_⟩
    | refine ⟨_, fun tm ha => step1_min rfl (ev_tmp ha rfl) (ev_tmp ha rfl), ?_⟩
    | refine ⟨_, hl.alen un88, ?_⟩
    | (refine ⟨fun _ => ?_, fun _ => ?_⟩ <;> first | (exfalso; omega) | skip)
    | fail
  rw [hlen]
  refine CV.loopc ?_
  refine WCv.rounds callees false (α := Nat) (fun i => [(0, v), (1, l), (2, .int .i64 row), (3, .int .i64 c), (9, .int .i64 (if cvr xs row c i then 1 else 0)), (12, l), (13, .int .i64 (bk xs)), (14, .int .i64 i)]) (fun i Hz => i ≤ bk xs ∧ Keep H Hz) (fun i => bk xs - i) (0) (by repeat' first | exact trivial | refine ⟨rfl, ?_⟩ | refine ⟨slot_int (by (try simp only [Int.toNat_natCast]); omega), ?_⟩) ?_ ?_
  · exact ⟨by omega, Keep.refl _⟩
  rintro i Hx ⟨hi, hk⟩ hBx
  have hlx2 := hl.keep hk
  by_cases hi2 : i < bk xs
  · have hat : (bmF xs (lev xs))[(i : Int).toNat]? = some [VI (fst xs i), VI (lst xs i), VI (lev xs i)] := bmF_at hi2
    have hsp := span_blk hc hi2
    repeat' first
      | refine CO.cons rfl ?_
      | refine CO.nil ?_
      | refine CV.seq ?_
      | refine CV.region callees ?_
      | refine CV.cond ?_
      | refine CV.block ?_
      | refine CV.skip ?_
      | refine CV.exit ?_
      | refine CV.ret ?_
      | refine CV.scope ?_
      | refine CV.draw callees rfl ?_
      | refine CH.cons rfl ?_
      | refine CH.nil ?_
      | refine CO.consG rfl ?_
      | refine CH.consG rfl ?_
      | refine CG.cons rfl ?_
      | refine CG.nil ?_
      | refine CG.consG rfl ?_
      | refine ⟨(rfl : plain _ = true), ?_⟩
      | refine ⟨(rfl : nilOk _ = some _), ?_⟩
      | refine ⟨_, ints_len (by assumption), ?_⟩
      | refine ⟨_, ints_addr (by assumption) (by omega) (by omega), ?_⟩
      | refine ⟨_, ints_load (by assumption) (by omega) (by omega), ?_⟩
      | refine ⟨(⟨by omega, by omega⟩ : inI64 _), ?_⟩
      | refine ⟨_, fun tm ha => step1_max rfl (ev_tmp ha rfl) (ev_tmp ha rfl), ?_⟩
      | refine ⟨_, fun tm ha => step1_min rfl (ev_tmp ha rfl) (ev_tmp ha rfl), ?_⟩
      | refine ⟨_, hlx2.addr un88 sz91 (by omega) (by omega), ?_⟩
      | refine ⟨_, hlx2.load ag91 sz91 hat, ?_⟩
      | refine ⟨_, _, alloc_of zc91, ?_⟩
      | (refine ⟨fun _ => ?_, fun _ => ?_⟩ <;> first | (exfalso; omega) | skip)
      | fail
    refine ⟨_, _, store_all (Heap.get_new_eq _ _) rfl sz91 rfl, hBx, ?_⟩
    have k3 : Keep Hx ((Hx.new (.cells [VI 0, VI 0, VI 0] 91 1)).set Hx.n (.cells [VI (fst xs i), VI (lst xs i), VI (lev xs i)] 91 1)) := (Keep.new _ _).set _ (Nat.le_refl _)
    have hg3 : ((Hx.new (.cells [VI 0, VI 0, VI 0] 91 1)).set Hx.n (.cells [VI (fst xs i), VI (lst xs i), VI (lev xs i)] 91 1)).get Hx.n = some (.cells [VI (fst xs i), VI (lst xs i), VI (lev xs i)] 91 1) := Heap.get_set_eq _ _ _
    have k4 := hk.trans k3
    generalize (Hx.new (.cells [VI 0, VI 0, VI 0] 91 1)).set Hx.n (.cells [VI (fst xs i), VI (lst xs i), VI (lev xs i)] 91 1) = H3 at k3 hg3 k4 ⊢
    have hload : aload Tryd.prog 91 H3 (.pointer (some ⟨Hx.n, 0, none⟩)) = some (.agg #[VI (fst xs i), VI (lst xs i), VI (lev xs i)]) := by
      simp only [aload, hg3, ag91, sz91]; rfl
    repeat' first
      | refine CO.cons rfl ?_
      | refine CO.nil ?_
      | refine CV.seq ?_
      | refine CV.region callees ?_
      | refine CV.cond ?_
      | refine CV.block ?_
      | refine CV.skip ?_
      | refine CV.exit ?_
      | refine CV.ret ?_
      | refine CV.scope ?_
      | refine CV.draw callees rfl ?_
      | refine CH.cons rfl ?_
      | refine CH.nil ?_
      | refine CO.consG rfl ?_
      | refine CH.consG rfl ?_
      | refine CG.cons rfl ?_
      | refine CG.nil ?_
      | refine CG.consG rfl ?_
      | refine ⟨(rfl : plain _ = true), ?_⟩
      | refine ⟨(rfl : nilOk _ = some _), ?_⟩
      | refine ⟨_, ints_len (by assumption), ?_⟩
      | refine ⟨_, ints_addr (by assumption) (by omega) (by omega), ?_⟩
      | refine ⟨_, ints_load (by assumption) (by omega) (by omega), ?_⟩
      | refine ⟨(⟨by omega, by omega⟩ : inI64 _), ?_⟩
      | refine ⟨_, fun tm ha => step1_max rfl (ev_tmp ha rfl) (ev_tmp ha rfl), ?_⟩
      | refine ⟨_, fun tm ha => step1_min rfl (ev_tmp ha rfl) (ev_tmp ha rfl), ?_⟩
      | refine ⟨_, hload, ?_⟩
      | (refine ⟨fun _ => ?_, fun _ => ?_⟩ <;> first | (exfalso; omega) | skip)
      | fail
    refine (isAt_spec (Nat.le_trans hB k4.1) (by have := hsp.f0; have := hsp.fl; have := hsp.ln; omega) (by have := hsp.f0; have := hsp.fl; have := hsp.ln; omega)).mono ?_
    rintro r H4 ⟨rfl, k5⟩
    have hcv : cvr xs row c (i + 1) = (cvr xs row c i || (lev xs i == row && decide (fst xs i < lst xs i) && decide (2 * fst xs i ≤ c) && decide (c ≤ 2 * lst xs i))) := rfl
    cases hb : (lev xs i == row && decide (fst xs i < lst xs i) && decide (2 * fst xs i ≤ (c : Int)) && decide ((c : Int) ≤ 2 * lst xs i)) with
    | true =>
      rw [hb, Bool.or_true] at hcv
      repeat' first
        | refine CO.cons rfl ?_
        | refine CO.nil ?_
        | refine CV.seq ?_
        | refine CV.region callees ?_
        | refine CV.cond ?_
        | refine CV.block ?_
        | refine CV.skip ?_
        | refine CV.exit ?_
        | refine CV.ret ?_
        | refine CV.scope ?_
        | refine CV.draw callees rfl ?_
        | refine CH.cons rfl ?_
        | refine CH.nil ?_
        | refine CO.consG rfl ?_
        | refine CH.consG rfl ?_
        | refine CG.cons rfl ?_
        | refine CG.nil ?_
        | refine CG.consG rfl ?_
        | refine ⟨(rfl : plain _ = true), ?_⟩
        | refine ⟨(rfl : nilOk _ = some _), ?_⟩
        | refine ⟨_, ints_len (by assumption), ?_⟩
        | refine ⟨_, ints_addr (by assumption) (by omega) (by omega), ?_⟩
        | refine ⟨_, ints_load (by assumption) (by omega) (by omega), ?_⟩
        | refine ⟨(⟨by omega, by omega⟩ : inI64 _), ?_⟩
        | refine ⟨_, fun tm ha => step1_max rfl (ev_tmp ha rfl) (ev_tmp ha rfl), ?_⟩
        | refine ⟨_, fun tm ha => step1_min rfl (ev_tmp ha rfl) (ev_tmp ha rfl), ?_⟩
        | (refine ⟨fun _ => ?_, fun _ => ?_⟩ <;> first | (exfalso; omega) | skip)
        | fail
      refine ⟨i + 1, ⟨rfl, rfl, rfl, rfl, by rw [hcv]; rfl, rfl, rfl, rfl, trivial⟩, by (try dsimp only); omega, by omega, k4.trans k5⟩
    | false =>
      rw [hb, Bool.or_false] at hcv
      repeat' first
        | refine CO.cons rfl ?_
        | refine CO.nil ?_
        | refine CV.seq ?_
        | refine CV.region callees ?_
        | refine CV.cond ?_
        | refine CV.block ?_
        | refine CV.skip ?_
        | refine CV.exit ?_
        | refine CV.ret ?_
        | refine CV.scope ?_
        | refine CV.draw callees rfl ?_
        | refine CH.cons rfl ?_
        | refine CH.nil ?_
        | refine CO.consG rfl ?_
        | refine CH.consG rfl ?_
        | refine CG.cons rfl ?_
        | refine CG.nil ?_
        | refine CG.consG rfl ?_
        | refine ⟨(rfl : plain _ = true), ?_⟩
        | refine ⟨(rfl : nilOk _ = some _), ?_⟩
        | refine ⟨_, ints_len (by assumption), ?_⟩
        | refine ⟨_, ints_addr (by assumption) (by omega) (by omega), ?_⟩
        | refine ⟨_, ints_load (by assumption) (by omega) (by omega), ?_⟩
        | refine ⟨(⟨by omega, by omega⟩ : inI64 _), ?_⟩
        | refine ⟨_, fun tm ha => step1_max rfl (ev_tmp ha rfl) (ev_tmp ha rfl), ?_⟩
        | refine ⟨_, fun tm ha => step1_min rfl (ev_tmp ha rfl) (ev_tmp ha rfl), ?_⟩
        | (refine ⟨fun _ => ?_, fun _ => ?_⟩ <;> first | (exfalso; omega) | skip)
        | fail
      refine ⟨i + 1, ⟨rfl, rfl, rfl, rfl, by rw [hcv]; rfl, rfl, rfl, rfl, trivial⟩, by (try dsimp only); omega, by omega, k4.trans k5⟩
  · have hib : i = bk xs := by omega
    subst hib
    have hBx' := hBase.keep hk
    have hvx := hv.keep hk
    obtain ⟨w, hw, hsg⟩ : ∃ w : Nat, (if cvr xs row c (bk xs) then (1 : Int) else 0) = (w : Int) ∧ ∀ k : Nat, k < 3 → w < 2 ∧ ([32,45,124,111,124,120] : List Int)[k * 2 + w]? = some (if cvr xs row c (bk xs) then ([45,111,120] : List Int)[k]! else ([32,124,124] : List Int)[k]!) := by
      cases cvr xs row c (bk xs)
      · exact ⟨0, rfl, fun k hk3 => by
          have : k = 0 ∨ k = 1 ∨ k = 2 := by omega
          rcases this with rfl | rfl | rfl <;> exact ⟨by omega, rfl⟩⟩
      · exact ⟨1, rfl, fun k hk3 => by
          have : k = 0 ∨ k = 1 ∨ k = 2 := by omega
          rcases this with rfl | rfl | rfl <;> exact ⟨by omega, rfl⟩⟩
    rw [hw]
    have hw2 := (hsg 0 (by omega)).1
    have htm : (c : Int).tmod 2 = (c : Int) % 2 := Int.tmod_eq_emod_of_nonneg (by omega)
    have htd : (c : Int).tdiv 2 = (c : Int) / 2 := Int.tdiv_eq_ediv_of_nonneg (by omega)
    repeat' first
      | refine CO.cons rfl ?_
      | refine CO.nil ?_
      | refine CV.seq ?_
      | refine CV.region callees ?_
      | refine CV.cond ?_
      | refine CV.block ?_
      | refine CV.skip ?_
      | refine CV.exit ?_
      | refine CV.ret ?_
      | refine CV.scope ?_
      | refine CV.draw callees rfl ?_
      | refine CH.cons rfl ?_
      | refine CH.nil ?_
      | refine CO.consG rfl ?_
      | refine CH.consG rfl ?_
      | refine CG.cons rfl ?_
      | refine CG.nil ?_
      | refine CG.consG rfl ?_
      | refine ⟨(rfl : plain _ = true), ?_⟩
      | refine ⟨(rfl : nilOk _ = some _), ?_⟩
      | refine ⟨_, ints_len (by assumption), ?_⟩
      | refine ⟨_, ints_addr (by assumption) (by omega) (by omega), ?_⟩
      | refine ⟨_, ints_load (by assumption) (by omega) (by omega), ?_⟩
      | refine ⟨(⟨by omega, by omega⟩ : inI64 _), ?_⟩
      | refine ⟨_, fun tm ha => step1_max rfl (ev_tmp ha rfl) (ev_tmp ha rfl), ?_⟩
      | refine ⟨_, fun tm ha => step1_min rfl (ev_tmp ha rfl) (ev_tmp ha rfl), ?_⟩
      | refine ⟨_, fun tm ha => step1_rem rfl (ev_tmp ha rfl) rfl (by decide), ?_⟩
      | refine ⟨_, array_addr un122 sz121 (by omega) (by omega), ?_⟩
      | refine ⟨_, array_addr un121 sz5 (by omega) (by omega), ?_⟩
      | refine ⟨_, sign_load hBx' (hsg 0 (by omega)).2, ?_⟩
      | (refine ⟨fun _ => ?_, fun _ => ?_⟩ <;> first | (exfalso; omega) | skip)
      | fail
    · rename_i h1
      rw [htm] at h1
      refine ⟨rfl, ?_, hk⟩
      rw [ch, if_pos h1]
      rfl
    · rename_i h1
      rw [htm] at h1
      repeat' first
        | refine CO.cons rfl ?_
        | refine CO.nil ?_
        | refine CV.seq ?_
        | refine CV.region callees ?_
        | refine CV.cond ?_
        | refine CV.block ?_
        | refine CV.skip ?_
        | refine CV.exit ?_
        | refine CV.ret ?_
        | refine CV.scope ?_
        | refine CV.draw callees rfl ?_
        | refine CH.cons rfl ?_
        | refine CH.nil ?_
        | refine CO.consG rfl ?_
        | refine CH.consG rfl ?_
        | refine CG.cons rfl ?_
        | refine CG.nil ?_
        | refine CG.consG rfl ?_
        | refine ⟨(rfl : plain _ = true), ?_⟩
        | refine ⟨(rfl : nilOk _ = some _), ?_⟩
        | refine ⟨_, ints_len (by assumption), ?_⟩
        | refine ⟨_, ints_addr (by assumption) (by omega) (by omega), ?_⟩
        | refine ⟨_, ints_load (by assumption) (by omega) (by omega), ?_⟩
        | refine ⟨(⟨by omega, by omega⟩ : inI64 _), ?_⟩
        | refine ⟨_, fun tm ha => step1_max rfl (ev_tmp ha rfl) (ev_tmp ha rfl), ?_⟩
        | refine ⟨_, fun tm ha => step1_min rfl (ev_tmp ha rfl) (ev_tmp ha rfl), ?_⟩
        | refine ⟨_, fun tm ha => step1_quoI rfl (ev_tmp ha rfl) rfl (by omega) (by omega) (by omega), ?_⟩
        | (refine ⟨fun _ => ?_, fun _ => ?_⟩ <;> first | (exfalso; omega) | skip)
        | fail
      rw [htd]
      have hi := blk_of hc (i := ((c : Int) / 2).toNat) (by omega)
      have hat : (bmF xs (lev xs))[xs[((c : Int) / 2).toNat]!.toNat]? = some [VI (fst xs (xs[((c : Int) / 2).toNat]!.toNat : Nat)), VI (lst xs (xs[((c : Int) / 2).toNat]!.toNat : Nat)), VI (lev xs xs[((c : Int) / 2).toNat]!.toNat)] := bmF_at hi.2.1
      obtain ⟨k, hk1, hk2⟩ : ∃ k : Nat, cmpR row (lev xs xs[((c : Int) / 2).toNat]!.toNat) = (k : Int) - 1 ∧ k < 3 := by
        unfold cmpR
        split
        · exact ⟨0, by omega, by omega⟩
        · split
          · exact ⟨2, by omega, by omega⟩
          · exact ⟨1, by omega, by omega⟩
      have hkk : (1 + ((k : Int) - 1)).toNat = k := by omega
      repeat' first
        | refine CO.cons rfl ?_
        | refine CO.nil ?_
        | refine CV.seq ?_
        | refine CV.region callees ?_
        | refine CV.cond ?_
        | refine CV.block ?_
        | refine CV.skip ?_
        | refine CV.exit ?_
        | refine CV.ret ?_
        | refine CV.scope ?_
        | refine CV.draw callees rfl ?_
        | refine CH.cons rfl ?_
        | refine CH.nil ?_
        | refine CO.consG rfl ?_
        | refine CH.consG rfl ?_
        | refine CG.cons rfl ?_
        | refine CG.nil ?_
        | refine CG.consG rfl ?_
        | refine ⟨(rfl : plain _ = true), ?_⟩
        | refine ⟨(rfl : nilOk _ = some _), ?_⟩
        | refine ⟨_, ints_len (by assumption), ?_⟩
        | refine ⟨_, ints_addr (by assumption) (by omega) (by omega), ?_⟩
        | refine ⟨_, ints_load (by assumption) (by omega) (by omega), ?_⟩
        | refine ⟨(⟨by omega, by omega⟩ : inI64 _), ?_⟩
        | refine ⟨_, fun tm ha => step1_max rfl (ev_tmp ha rfl) (ev_tmp ha rfl), ?_⟩
        | refine ⟨_, fun tm ha => step1_min rfl (ev_tmp ha rfl) (ev_tmp ha rfl), ?_⟩
        | refine ⟨_, hlx2.addr un88 sz91 (by omega) (by omega), ?_⟩
        | refine ⟨_, hlx2.faddr fo2 (by decide) (by omega), ?_⟩
        | refine ⟨_, hlx2.fload ag3 hat rfl, ?_⟩
        | (refine (cmp_spec hBx).mono ?_; rintro r H' ⟨rfl, rfl⟩; rw [hk1])
        | refine ⟨_, array_addr un122 sz121 (by omega) (by omega), ?_⟩
        | refine ⟨_, array_addr un121 sz5 (by omega) (by omega), ?_⟩
        | refine ⟨_, sign_load hBx' (hsg _ (by omega)).2, ?_⟩
        | (refine ⟨fun _ => ?_, fun _ => ?_⟩ <;> first | (exfalso; omega) | skip)
        | fail
      rw [hkk]
      refine ⟨rfl, ?_, hk⟩
      rw [ch, if_neg h1]
      unfold cmpR at hk1
      split at hk1
      · rename_i h2
        have : k = 0 := by omega
        subst this
        rw [if_pos h2]; rfl
      · rename_i h2
        rw [if_neg h2]
        split at hk1
        · have : k = 2 := by omega
          subst this
          rw [if_neg (show ¬ row = lev xs (xs[((c : Int) / 2).toNat]!).toNat by omega)]; rfl
        · have : k = 1 := by omega
          subst this
          rw [if_pos (show row = lev xs (xs[((c : Int) / 2).toNat]!).toNat by omega)]; rfl
end Go.Proofs.YteocbhefhobehaaDoor

/- The chart that the program draws. -/
namespace Go.Proofs.YteocbhefhobehaaDoor
open Go.AI
theorem own_plain {e : TypeId} {H : Heap} {v : Value} {vs : List Value} {B : Nat} (h : Own e H v vs B) (hn : vs ≠ []) : plain v = false := by
  rcases h with ⟨_, h0⟩ | ⟨b, rfl, _⟩
  · exact absurd h0 hn
  · cases vs with
    | nil => exact absurd rfl hn
    | cons _ _ => rfl
theorem step1_convStr {P : Program} {tm : Tm} {H : Heap} {o : Oper} {s d : TypeId} {x : Operand} {v r : Value} (ho : o.op = .convert s d x) (hx : ev P tm x = some v) (hv : plain v = false) (h : aconvert P H s d v = some r) : step1 P tm H o = some (r, H, H.n) := by
  simp only [step1, ho, sConvert, hx, hv, h, ret]
  rfl
theorem bytes_ask {H : Heap} {K : Value → Heap → Prop} {B B0 : Nat} {x : Value} {y : Int} {l : List Int} (hx : Own 5 H x (l.map V8) B0) (hB0 : B0 ≤ H.n) (hB : B ≤ B0) (hn : l.length < 1000000)
    (hk : ∀ r H', Own 5 H' r ((l ++ [y]).map V8) B0 → KeepBut x H H' → (∀ c, blkOf r = some c → H.n ≤ c) → K r H') :
    ∃ v H' b, aappend Tryd.prog (H.new (.cells [.int .u8 y] 5 2)) #[93, 93] x (.slice (some ⟨H.n, 0, none⟩) 1 0) = some (v, H', b) ∧ B ≤ b ∧ K v H' :=
  append_ask un93 one5 (by omega) hx hB0 hB (by simpa using hn) fun r H' h => hk r H' (by simpa using h)
def lastN (xs : List Int) : Nat → Int
  | 0 => 0
  | i + 1 => max (lastN xs i) (lev xs i + 1)
theorem lastN_deep (xs : List Int) : ∀ i, lastN xs (i + 1) = deepN xs (i + 1) + 1
  | 0 => by
    have := lev_pos xs 0
    simp only [lastN, deepN]; omega
  | i + 1 => by
    have h := lastN_deep xs i
    have e1 : deepN xs (i + 1 + 1) = max (deepN xs (i + 1)) (lev xs (i + 1)) := rfl
    have e2 : lastN xs (i + 1 + 1) = max (lastN xs (i + 1)) (lev xs (i + 1) + 1) := rfl
    omega
theorem bk_pos {xs : List Int} (hc : check xs = 0) : 0 < bk xs := by
  have h1 := check_len hc
  have h2 := blk_gt xs 0 0 (by omega)
  have h3 := (check_bound hc (i := 0) (by omega)).1
  have := bk_cast xs
  omega
theorem lastN_all {xs : List Int} (hc : check xs = 0) : lastN xs (bk xs) = deepN xs (bk xs) + 1 := by
  obtain ⟨k, hk⟩ : ∃ k, bk xs = k + 1 := ⟨bk xs - 1, by have := bk_pos hc; omega⟩
  rw [hk]; exact lastN_deep xs k
theorem lastN_bound (xs : List Int) : ∀ i : Nat, 0 ≤ lastN xs i ∧ lastN xs i ≤ i + 1
  | 0 => by simp [lastN]
  | i + 1 => by
    have := lastN_bound xs i
    have := lev_le xs i
    have := lev_pos xs i
    rw [lastN]; omega
theorem rowL_take {xs : List Int} {row : Int} {c : Nat} (h : c < 2 * xs.length - 1) : (rowL xs row).take (c + 1) = (rowL xs row).take c ++ [ch xs row c] := by
  rw [List.take_add_one, rowL, List.getElem?_map, List.getElem?_range h]; rfl
set_option maxHeartbeats 4000000 in
set_option maxRecDepth 100000 in
theorem drawing_spec {B : Nat} {v : Value} {H : Heap} {xs : List Int} (hB : B ≤ H.n) (hBase : Base H) (hv : Ints H v xs) (hc : check xs = 0) :
    CallB Tryd.prog B 98 [v] H (fun r H' => r = .string (strOf (drw xs)) ∧ Keep H H') := by
  have hlx := check_len hc
  have hk9 := bk_le9 hc
  have hlen : (bmF xs (lev xs)).length = bk xs := bmF_len xs _
  refine CV.enter callees false rfl Tryd.func98 rfl ok98 (Nat.le_of_ble_eq_true rfl) hB ?_
  repeat' first
    | refine CO.cons rfl ?_
    | refine CO.nil ?_
    | refine CV.seq ?_
    | refine CV.region callees ?_
    | refine CV.cond ?_
    | refine CV.block ?_
    | refine CV.skip ?_
    | refine CV.exit ?_
    | refine CV.ret ?_
    | refine CV.scope ?_
    | refine CV.draw callees rfl ?_
    | refine CH.cons rfl ?_
    | refine CH.nil ?_
    | refine CO.consG rfl ?_
    | refine CH.consG rfl ?_
    | refine CG.cons rfl ?_
    | refine CG.nil ?_
    | refine CG.consG rfl ?_
    | refine ⟨(rfl : plain _ = true), ?_⟩
    | refine ⟨(rfl : nilOk _ = some _), ?_⟩
    | refine ⟨_, ints_len (by assumption), ?_⟩
    | refine ⟨_, ints_addr (by assumption) (by omega) (by omega), ?_⟩
    | refine ⟨_, ints_load (by assumption) (by omega) (by omega), ?_⟩
    | refine ⟨(⟨by omega, by omega⟩ : inI64 _), ?_⟩
    | refine ⟨_, fun tm ha => step1_max rfl (ev_tmp ha rfl) (ev_tmp ha rfl), ?_⟩
    | refine ⟨_, fun tm ha => step1_min rfl (ev_tmp ha rfl) (ev_tmp ha rfl), ?_⟩
    | (refine ⟨fun _ => ?_, fun _ => ?_⟩ <;> first | (exfalso; omega) | skip)
    | fail
  refine (beams_spec hB hv hc).mono ?_
  rintro l H2 ⟨hlo, k2⟩
  have hl := hlo.row
  have hB2 := Nat.le_trans hB k2.1
  repeat' first
    | refine CO.cons rfl ?_
    | refine CO.nil ?_
    | refine CV.seq ?_
    | refine CV.region callees ?_
    | refine CV.cond ?_
    | refine CV.block ?_
    | refine CV.skip ?_
    | refine CV.exit ?_
    | refine CV.ret ?_
    | refine CV.scope ?_
    | refine CV.draw callees rfl ?_
    | refine CH.cons rfl ?_
    | refine CH.nil ?_
    | refine CO.consG rfl ?_
    | refine CH.consG rfl ?_
    | refine CG.cons rfl ?_
    | refine CG.nil ?_
    | refine CG.consG rfl ?_
    | refine ⟨(rfl : plain _ = true), ?_⟩
    | refine ⟨(rfl : nilOk _ = some _), ?_⟩
    | refine ⟨_, ints_len (by assumption), ?_⟩
    | refine ⟨_, ints_addr (by assumption) (by omega) (by omega), ?_⟩
    | refine ⟨_, ints_load (by assumption) (by omega) (by omega), ?_⟩
    | refine ⟨(⟨by omega, by omega⟩ : inI64 _), ?_⟩
    | refine ⟨_, fun tm ha => step1_max rfl (ev_tmp ha rfl) (ev_tmp ha rfl), ?_⟩
    | refine ⟨_, fun tm ha => step1_min rfl (ev_tmp ha rfl) (ev_tmp ha rfl), ?_⟩
    | refine ⟨_, hl.alen un88, ?_⟩
    | (refine ⟨fun _ => ?_, fun _ => ?_⟩ <;> first | (exfalso; omega) | skip)
    | fail
  rw [hlen]
  refine CV.loopc ?_
  refine WCv.rounds callees false (α := Nat) (fun i => [(0, v), (3, l), (4, .int .i64 (lastN xs i)), (12, l), (13, .int .i64 (bk xs)), (14, .int .i64 i)]) (fun i Hz => i ≤ bk xs ∧ Keep H2 Hz) (fun i => bk xs - i) (0) (by repeat' first | exact trivial | refine ⟨rfl, ?_⟩ | refine ⟨slot_int (by (try simp only [Int.toNat_natCast]); omega), ?_⟩) ?_ ?_
  · exact ⟨by omega, Keep.refl _⟩
  rintro i Hx ⟨hi, hk⟩ hBx
  have hlx2 := hl.keep hk
  by_cases hi2 : i < bk xs
  · have hat : (bmF xs (lev xs))[(i : Int).toNat]? = some [VI (fst xs i), VI (lst xs i), VI (lev xs i)] := bmF_at hi2
    repeat' first
      | refine CO.cons rfl ?_
      | refine CO.nil ?_
      | refine CV.seq ?_
      | refine CV.region callees ?_
      | refine CV.cond ?_
      | refine CV.block ?_
      | refine CV.skip ?_
      | refine CV.exit ?_
      | refine CV.ret ?_
      | refine CV.scope ?_
      | refine CV.draw callees rfl ?_
      | refine CH.cons rfl ?_
      | refine CH.nil ?_
      | refine CO.consG rfl ?_
      | refine CH.consG rfl ?_
      | refine CG.cons rfl ?_
      | refine CG.nil ?_
      | refine CG.consG rfl ?_
      | refine ⟨(rfl : plain _ = true), ?_⟩
      | refine ⟨(rfl : nilOk _ = some _), ?_⟩
      | refine ⟨_, ints_len (by assumption), ?_⟩
      | refine ⟨_, ints_addr (by assumption) (by omega) (by omega), ?_⟩
      | refine ⟨_, ints_load (by assumption) (by omega) (by omega), ?_⟩
      | refine ⟨(⟨by omega, by omega⟩ : inI64 _), ?_⟩
      | refine ⟨_, fun tm ha => step1_max rfl (ev_tmp ha rfl) (ev_tmp ha rfl), ?_⟩
      | refine ⟨_, fun tm ha => step1_min rfl (ev_tmp ha rfl) (ev_tmp ha rfl), ?_⟩
      | refine ⟨_, hlx2.addr un88 sz91 (by omega) (by omega), ?_⟩
      | refine ⟨_, hlx2.load ag91 sz91 hat, ?_⟩
      | refine ⟨_, _, alloc_of zc91, ?_⟩
      | (refine ⟨fun _ => ?_, fun _ => ?_⟩ <;> first | (exfalso; omega) | skip)
      | fail
    refine ⟨_, _, store_all (Heap.get_new_eq _ _) rfl sz91 rfl, hBx, ?_⟩
    have k3 : Keep Hx ((Hx.new (.cells [VI 0, VI 0, VI 0] 91 1)).set Hx.n (.cells [VI (fst xs i), VI (lst xs i), VI (lev xs i)] 91 1)) := (Keep.new _ _).set _ (Nat.le_refl _)
    have hg3 : ((Hx.new (.cells [VI 0, VI 0, VI 0] 91 1)).set Hx.n (.cells [VI (fst xs i), VI (lst xs i), VI (lev xs i)] 91 1)).get Hx.n = some (.cells [VI (fst xs i), VI (lst xs i), VI (lev xs i)] 91 1) := Heap.get_set_eq _ _ _
    have k4 := hk.trans k3
    generalize (Hx.new (.cells [VI 0, VI 0, VI 0] 91 1)).set Hx.n (.cells [VI (fst xs i), VI (lst xs i), VI (lev xs i)] 91 1) = H3 at k3 hg3 k4 ⊢
    have hll := lev_le xs i
    have hlp := lev_pos xs i
    have hlb := lastN_bound xs i
    repeat' first
      | refine CO.cons rfl ?_
      | refine CO.nil ?_
      | refine CV.seq ?_
      | refine CV.region callees ?_
      | refine CV.cond ?_
      | refine CV.block ?_
      | refine CV.skip ?_
      | refine CV.exit ?_
      | refine CV.ret ?_
      | refine CV.scope ?_
      | refine CV.draw callees rfl ?_
      | refine CH.cons rfl ?_
      | refine CH.nil ?_
      | refine CO.consG rfl ?_
      | refine CH.consG rfl ?_
      | refine CG.cons rfl ?_
      | refine CG.nil ?_
      | refine CG.consG rfl ?_
      | refine ⟨(rfl : plain _ = true), ?_⟩
      | refine ⟨(rfl : nilOk _ = some _), ?_⟩
      | refine ⟨_, ints_len (by assumption), ?_⟩
      | refine ⟨_, ints_addr (by assumption) (by omega) (by omega), ?_⟩
      | refine ⟨_, ints_load (by assumption) (by omega) (by omega), ?_⟩
      | refine ⟨(⟨by omega, by omega⟩ : inI64 _), ?_⟩
      | refine ⟨_, fun tm ha => step1_max rfl (ev_tmp ha rfl) (ev_tmp ha rfl), ?_⟩
      | refine ⟨_, fun tm ha => step1_min rfl (ev_tmp ha rfl) (ev_tmp ha rfl), ?_⟩
      | refine ⟨_, field_addr fo2 (by decide), ?_⟩
      | refine ⟨_, vfield_load ag3 hg3 rfl, ?_⟩
      | (refine ⟨fun _ => ?_, fun _ => ?_⟩ <;> first | (exfalso; omega) | skip)
      | fail
    refine ⟨i + 1, ⟨rfl, rfl, rfl, rfl, rfl, rfl, trivial⟩, by (try dsimp only); omega, by omega, k4⟩
  · have hib : i = bk xs := by omega
    subst hib
    have hlb := lastN_bound xs (bk xs)
    obtain ⟨la, hla⟩ : ∃ la : Nat, lastN xs (bk xs) = la := ⟨(lastN xs (bk xs)).toNat, by omega⟩
    rw [hla]
    repeat' first
      | refine CO.cons rfl ?_
      | refine CO.nil ?_
      | refine CV.seq ?_
      | refine CV.region callees ?_
      | refine CV.cond ?_
      | refine CV.block ?_
      | refine CV.skip ?_
      | refine CV.exit ?_
      | refine CV.ret ?_
      | refine CV.scope ?_
      | refine CV.draw callees rfl ?_
      | refine CH.cons rfl ?_
      | refine CH.nil ?_
      | refine CO.consG rfl ?_
      | refine CH.consG rfl ?_
      | refine CG.cons rfl ?_
      | refine CG.nil ?_
      | refine CG.consG rfl ?_
      | refine ⟨(rfl : plain _ = true), ?_⟩
      | refine ⟨(rfl : nilOk _ = some _), ?_⟩
      | refine ⟨_, ints_len (by assumption), ?_⟩
      | refine ⟨_, ints_addr (by assumption) (by omega) (by omega), ?_⟩
      | refine ⟨_, ints_load (by assumption) (by omega) (by omega), ?_⟩
      | refine ⟨(⟨by omega, by omega⟩ : inI64 _), ?_⟩
      | refine ⟨_, fun tm ha => step1_max rfl (ev_tmp ha rfl) (ev_tmp ha rfl), ?_⟩
      | refine ⟨_, fun tm ha => step1_min rfl (ev_tmp ha rfl) (ev_tmp ha rfl), ?_⟩
      | (refine ⟨fun _ => ?_, fun _ => ?_⟩ <;> first | (exfalso; omega) | skip)
      | fail
    refine CV.loopc ?_
    refine WCv.rounds callees false (α := Value × Nat) (fun (t, r) => [(0, v), (3, l), (4, .int .i64 la), (7, t), (8, .int .i64 ((r : Int) + 1))]) (fun (t, r) Hz => r ≤ la ∧ Keep Hx Hz ∧ Own 5 Hz t ((drwN xs r).map V8) Hx.n) (fun (t, r) => la - r) (.slice none 0 0, 0) (by repeat' first | exact trivial | refine ⟨rfl, ?_⟩ | refine ⟨slot_int (by (try simp only [Int.toNat_natCast]); omega), ?_⟩) ?_ ?_
    · exact ⟨by omega, Keep.refl _, .inl ⟨rfl, rfl⟩⟩
    rintro ⟨t, r⟩ Hy ⟨hr, hky, hty⟩ hBy
    have hvy := (hv.keep k2).keep (hk.trans hky)
    have hll := drwN_len xs r
    have hmul : r * (2 * xs.length - 1 + 1) ≤ 10 * 18 := Nat.mul_le_mul (by omega) (by omega)
    by_cases hr2 : r < la
    · repeat' first
        | refine CO.cons rfl ?_
        | refine CO.nil ?_
        | refine CV.seq ?_
        | refine CV.region callees ?_
        | refine CV.cond ?_
        | refine CV.block ?_
        | refine CV.skip ?_
        | refine CV.exit ?_
        | refine CV.ret ?_
        | refine CV.scope ?_
        | refine CV.draw callees rfl ?_
        | refine CH.cons rfl ?_
        | refine CH.nil ?_
        | refine CO.consG rfl ?_
        | refine CH.consG rfl ?_
        | refine CG.cons rfl ?_
        | refine CG.nil ?_
        | refine CG.consG rfl ?_
        | refine ⟨(rfl : plain _ = true), ?_⟩
        | refine ⟨(rfl : nilOk _ = some _), ?_⟩
        | refine ⟨_, ints_len (by assumption), ?_⟩
        | refine ⟨_, ints_addr (by assumption) (by omega) (by omega), ?_⟩
        | refine ⟨_, ints_load (by assumption) (by omega) (by omega), ?_⟩
        | refine ⟨(⟨by omega, by omega⟩ : inI64 _), ?_⟩
        | refine ⟨_, fun tm ha => step1_max rfl (ev_tmp ha rfl) (ev_tmp ha rfl), ?_⟩
        | refine ⟨_, fun tm ha => step1_min rfl (ev_tmp ha rfl) (ev_tmp ha rfl), ?_⟩
        | (refine ⟨fun _ => ?_, fun _ => ?_⟩ <;> first | (exfalso; omega) | skip)
        | fail
      refine CV.loopc ?_
      refine WCv.rounds callees false (α := Value × Nat) (fun (t, c) => [(0, v), (3, l), (4, .int .i64 la), (7, t), (8, .int .i64 ((r : Int) + 1)), (32, .int .i64 (2 * xs.length - 1)), (33, .int .i64 c)]) (fun (t, c) Hz => c ≤ 2 * xs.length - 1 ∧ Keep Hx Hz ∧ Own 5 Hz t ((drwN xs r ++ (rowL xs ((r : Int) + 1)).take c).map V8) Hx.n) (fun (t, c) => 2 * xs.length - 1 - c) (t, 0) (by repeat' first | exact trivial | refine ⟨rfl, ?_⟩ | refine ⟨slot_int (by (try simp only [Int.toNat_natCast]); omega), ?_⟩) ?_ ?_
      · exact ⟨by omega, hky, by simpa using hty⟩
      rintro ⟨t, c⟩ Hz ⟨hcn, hkz, htz⟩ hBz
      have hvz := (hv.keep k2).keep (hk.trans hkz)
      have hlz := hl.keep (hk.trans hkz)
      have hBz' := hBase.keep (k2.trans (hk.trans hkz))
      have hrl := rowL_len xs ((r : Int) + 1)
      by_cases hc2 : c < 2 * xs.length - 1
      · repeat' first
          | refine CO.cons rfl ?_
          | refine CO.nil ?_
          | refine CV.seq ?_
          | refine CV.region callees ?_
          | refine CV.cond ?_
          | refine CV.block ?_
          | refine CV.skip ?_
          | refine CV.exit ?_
          | refine CV.ret ?_
          | refine CV.scope ?_
          | refine CV.draw callees rfl ?_
          | refine CH.cons rfl ?_
          | refine CH.nil ?_
          | refine CO.consG rfl ?_
          | refine CH.consG rfl ?_
          | refine CG.cons rfl ?_
          | refine CG.nil ?_
          | refine CG.consG rfl ?_
          | refine ⟨(rfl : plain _ = true), ?_⟩
          | refine ⟨(rfl : nilOk _ = some _), ?_⟩
          | refine ⟨_, ints_len (by assumption), ?_⟩
          | refine ⟨_, ints_addr (by assumption) (by omega) (by omega), ?_⟩
          | refine ⟨_, ints_load (by assumption) (by omega) (by omega), ?_⟩
          | refine ⟨(⟨by omega, by omega⟩ : inI64 _), ?_⟩
          | refine ⟨_, fun tm ha => step1_max rfl (ev_tmp ha rfl) (ev_tmp ha rfl), ?_⟩
          | refine ⟨_, fun tm ha => step1_min rfl (ev_tmp ha rfl) (ev_tmp ha rfl), ?_⟩
          | (refine ⟨fun _ => ?_, fun _ => ?_⟩ <;> first | (exfalso; omega) | skip)
          | fail
        refine (sign_spec hBz hBz' hvz hc hlz hc2).mono ?_
        rintro q H5 ⟨rfl, k5⟩
        have ht5 := htz.keep k5
        have k6 := hkz.trans k5
        repeat' first
          | refine CO.cons rfl ?_
          | refine CO.nil ?_
          | refine CV.seq ?_
          | refine CV.region callees ?_
          | refine CV.cond ?_
          | refine CV.block ?_
          | refine CV.skip ?_
          | refine CV.exit ?_
          | refine CV.ret ?_
          | refine CV.scope ?_
          | refine CV.draw callees rfl ?_
          | refine CH.cons rfl ?_
          | refine CH.nil ?_
          | refine CO.consG rfl ?_
          | refine CH.consG rfl ?_
          | refine CG.cons rfl ?_
          | refine CG.nil ?_
          | refine CG.consG rfl ?_
          | refine ⟨(rfl : plain _ = true), ?_⟩
          | refine ⟨(rfl : nilOk _ = some _), ?_⟩
          | refine ⟨_, ints_len (by assumption), ?_⟩
          | refine ⟨_, ints_addr (by assumption) (by omega) (by omega), ?_⟩
          | refine ⟨_, ints_load (by assumption) (by omega) (by omega), ?_⟩
          | refine ⟨(⟨by omega, by omega⟩ : inI64 _), ?_⟩
          | refine ⟨_, fun tm ha => step1_max rfl (ev_tmp ha rfl) (ev_tmp ha rfl), ?_⟩
          | refine ⟨_, fun tm ha => step1_min rfl (ev_tmp ha rfl) (ev_tmp ha rfl), ?_⟩
          | refine ⟨_, _, build_one un93 one5 rfl, ?_⟩
          | (refine ⟨fun _ => ?_, fun _ => ?_⟩ <;> first | (exfalso; omega) | skip)
          | fail
        refine bytes_ask ht5 k6.1 hBx (by simp; omega) ?_
        intro t2 H6 ht6 kb6 hf6
        have k7 := kb6.keep k6 fun c hc => (ht5.lt hc).1
        repeat' first
          | refine CO.cons rfl ?_
          | refine CO.nil ?_
          | refine CV.seq ?_
          | refine CV.region callees ?_
          | refine CV.cond ?_
          | refine CV.block ?_
          | refine CV.skip ?_
          | refine CV.exit ?_
          | refine CV.ret ?_
          | refine CV.scope ?_
          | refine CV.draw callees rfl ?_
          | refine CH.cons rfl ?_
          | refine CH.nil ?_
          | refine CO.consG rfl ?_
          | refine CH.consG rfl ?_
          | refine CG.cons rfl ?_
          | refine CG.nil ?_
          | refine CG.consG rfl ?_
          | refine ⟨(rfl : plain _ = true), ?_⟩
          | refine ⟨(rfl : nilOk _ = some _), ?_⟩
          | refine ⟨_, ints_len (by assumption), ?_⟩
          | refine ⟨_, ints_addr (by assumption) (by omega) (by omega), ?_⟩
          | refine ⟨_, ints_load (by assumption) (by omega) (by omega), ?_⟩
          | refine ⟨(⟨by omega, by omega⟩ : inI64 _), ?_⟩
          | refine ⟨_, fun tm ha => step1_max rfl (ev_tmp ha rfl) (ev_tmp ha rfl), ?_⟩
          | refine ⟨_, fun tm ha => step1_min rfl (ev_tmp ha rfl) (ev_tmp ha rfl), ?_⟩
          | (refine ⟨fun _ => ?_, fun _ => ?_⟩ <;> first | (exfalso; omega) | skip)
          | fail
        refine ⟨(t2, c + 1), (by repeat' first | exact trivial | refine ⟨rfl, ?_⟩ | refine ⟨slot_int (by (try simp only [Int.toNat_natCast]); omega), ?_⟩), (by (try dsimp only); omega), ?_⟩
        refine ⟨by omega, k7, ?_⟩
        rw [rowL_take hc2, ← List.append_assoc]
        exact ht6
      · repeat' first
          | refine CO.cons rfl ?_
          | refine CO.nil ?_
          | refine CV.seq ?_
          | refine CV.region callees ?_
          | refine CV.cond ?_
          | refine CV.block ?_
          | refine CV.skip ?_
          | refine CV.exit ?_
          | refine CV.ret ?_
          | refine CV.scope ?_
          | refine CV.draw callees rfl ?_
          | refine CH.cons rfl ?_
          | refine CH.nil ?_
          | refine CO.consG rfl ?_
          | refine CH.consG rfl ?_
          | refine CG.cons rfl ?_
          | refine CG.nil ?_
          | refine CG.consG rfl ?_
          | refine ⟨(rfl : plain _ = true), ?_⟩
          | refine ⟨(rfl : nilOk _ = some _), ?_⟩
          | refine ⟨_, ints_len (by assumption), ?_⟩
          | refine ⟨_, ints_addr (by assumption) (by omega) (by omega), ?_⟩
          | refine ⟨_, ints_load (by assumption) (by omega) (by omega), ?_⟩
          | refine ⟨(⟨by omega, by omega⟩ : inI64 _), ?_⟩
          | refine ⟨_, fun tm ha => step1_max rfl (ev_tmp ha rfl) (ev_tmp ha rfl), ?_⟩
          | refine ⟨_, fun tm ha => step1_min rfl (ev_tmp ha rfl) (ev_tmp ha rfl), ?_⟩
          | refine ⟨_, _, build_one un93 one5 rfl, ?_⟩
          | (refine ⟨fun _ => ?_, fun _ => ?_⟩ <;> first | (exfalso; omega) | skip)
          | fail
        refine bytes_ask htz hkz.1 hBx (by simp; omega) ?_
        intro t2 H6 ht6 kb6 hf6
        have k7 := kb6.keep hkz fun c hc => (htz.lt hc).1
        repeat' first
          | refine CO.cons rfl ?_
          | refine CO.nil ?_
          | refine CV.seq ?_
          | refine CV.region callees ?_
          | refine CV.cond ?_
          | refine CV.block ?_
          | refine CV.skip ?_
          | refine CV.exit ?_
          | refine CV.ret ?_
          | refine CV.scope ?_
          | refine CV.draw callees rfl ?_
          | refine CH.cons rfl ?_
          | refine CH.nil ?_
          | refine CO.consG rfl ?_
          | refine CH.consG rfl ?_
          | refine CG.cons rfl ?_
          | refine CG.nil ?_
          | refine CG.consG rfl ?_
          | refine ⟨(rfl : plain _ = true), ?_⟩
          | refine ⟨(rfl : nilOk _ = some _), ?_⟩
          | refine ⟨_, ints_len (by assumption), ?_⟩
          | refine ⟨_, ints_addr (by assumption) (by omega) (by omega), ?_⟩
          | refine ⟨_, ints_load (by assumption) (by omega) (by omega), ?_⟩
          | refine ⟨(⟨by omega, by omega⟩ : inI64 _), ?_⟩
          | refine ⟨_, fun tm ha => step1_max rfl (ev_tmp ha rfl) (ev_tmp ha rfl), ?_⟩
          | refine ⟨_, fun tm ha => step1_min rfl (ev_tmp ha rfl) (ev_tmp ha rfl), ?_⟩
          | (refine ⟨fun _ => ?_, fun _ => ?_⟩ <;> first | (exfalso; omega) | skip)
          | fail
        refine ⟨(t2, r + 1), (by repeat' first | exact trivial | refine ⟨rfl, ?_⟩ | refine ⟨slot_int (by (try simp only [Int.toNat_natCast]); omega), ?_⟩), (by (try dsimp only); omega), ?_⟩
        refine ⟨by omega, k7, ?_⟩
        rw [List.take_of_length_le (by omega), List.append_assoc] at ht6
        exact ht6
    · have hne : (drwN xs r).map V8 ≠ [] := fun h => by
        have h2 := congrArg List.length h
        rw [List.length_map, hll] at h2
        have h3 : 1 * 1 ≤ r * (2 * xs.length - 1 + 1) := Nat.mul_le_mul (by have := lastN_all hc; have := deepN_le xs (bk xs); omega) (by omega)
        simp at h2; omega
      repeat' first
        | refine CO.cons rfl ?_
        | refine CO.nil ?_
        | refine CV.seq ?_
        | refine CV.region callees ?_
        | refine CV.cond ?_
        | refine CV.block ?_
        | refine CV.skip ?_
        | refine CV.exit ?_
        | refine CV.ret ?_
        | refine CV.scope ?_
        | refine CV.draw callees rfl ?_
        | refine CH.cons rfl ?_
        | refine CH.nil ?_
        | refine CO.consG rfl ?_
        | refine CH.consG rfl ?_
        | refine CG.cons rfl ?_
        | refine CG.nil ?_
        | refine CG.consG rfl ?_
        | refine ⟨(rfl : plain _ = true), ?_⟩
        | refine ⟨(rfl : nilOk _ = some _), ?_⟩
        | refine ⟨_, ints_len (by assumption), ?_⟩
        | refine ⟨_, ints_addr (by assumption) (by omega) (by omega), ?_⟩
        | refine ⟨_, ints_load (by assumption) (by omega) (by omega), ?_⟩
        | refine ⟨(⟨by omega, by omega⟩ : inI64 _), ?_⟩
        | refine ⟨_, fun tm ha => step1_max rfl (ev_tmp ha rfl) (ev_tmp ha rfl), ?_⟩
        | refine ⟨_, fun tm ha => step1_min rfl (ev_tmp ha rfl) (ev_tmp ha rfl), ?_⟩
        | refine ⟨_, fun tm ha => step1_convStr rfl (ev_tmp ha rfl) (own_plain hty hne) (conv_str un93 un9 u8_5 hty), ?_⟩
        | (refine ⟨fun _ => ?_, fun _ => ?_⟩ <;> first | (exfalso; omega) | skip)
        | fail
      refine ⟨rfl, ?_, k2.trans (hk.trans hky)⟩
      unfold drw
      rw [← lastN_all hc, hla, Int.toNat_natCast, show r = la by omega]
set_option maxRecDepth 100000 in
theorem draw_spec {B : Nat} {v : Value} {H : Heap} {xs : List Int} (hB : B ≤ H.n) (hBase : Base H) (hv : Ints H v xs) :
    CallB Tryd.prog B 51 [v] H (fun r H' => r = .tuple #[.string (strOf (if check xs = 0 then drw xs else [])), .int .i64 (check xs)] ∧ Keep H H') := by
  refine CV.enter callees false rfl Tryd.func51 rfl ok51 (Nat.le_of_ble_eq_true rfl) hB ?_
  repeat' first
    | refine CO.cons rfl ?_
    | refine CO.nil ?_
    | refine CV.seq ?_
    | refine CV.region callees ?_
    | refine CV.cond ?_
    | refine CV.block ?_
    | refine CV.skip ?_
    | refine CV.exit ?_
    | refine CV.ret ?_
    | refine CV.scope ?_
    | refine CV.draw callees rfl ?_
    | refine CH.cons rfl ?_
    | refine CH.nil ?_
    | refine CO.consG rfl ?_
    | refine CH.consG rfl ?_
    | refine CG.cons rfl ?_
    | refine CG.nil ?_
    | refine CG.consG rfl ?_
    | refine ⟨(rfl : plain _ = true), ?_⟩
    | refine ⟨(rfl : nilOk _ = some _), ?_⟩
    | refine ⟨_, ints_len (by assumption), ?_⟩
    | refine ⟨_, ints_addr (by assumption) (by omega) (by omega), ?_⟩
    | refine ⟨_, ints_load (by assumption) (by omega) (by omega), ?_⟩
    | refine ⟨(⟨by omega, by omega⟩ : inI64 _), ?_⟩
    | refine ⟨_, fun tm ha => step1_max rfl (ev_tmp ha rfl) (ev_tmp ha rfl), ?_⟩
    | refine ⟨_, fun tm ha => step1_min rfl (ev_tmp ha rfl) (ev_tmp ha rfl), ?_⟩
    | (refine ⟨fun _ => ?_, fun _ => ?_⟩ <;> first | (exfalso; omega) | skip)
    | fail
  refine (check_spec hB hv).mono ?_
  rintro r H1 ⟨rfl, rfl⟩
  repeat' first
    | refine CO.cons rfl ?_
    | refine CO.nil ?_
    | refine CV.seq ?_
    | refine CV.region callees ?_
    | refine CV.cond ?_
    | refine CV.block ?_
    | refine CV.skip ?_
    | refine CV.exit ?_
    | refine CV.ret ?_
    | refine CV.scope ?_
    | refine CV.draw callees rfl ?_
    | refine CH.cons rfl ?_
    | refine CH.nil ?_
    | refine CO.consG rfl ?_
    | refine CH.consG rfl ?_
    | refine CG.cons rfl ?_
    | refine CG.nil ?_
    | refine CG.consG rfl ?_
    | refine ⟨(rfl : plain _ = true), ?_⟩
    | refine ⟨(rfl : nilOk _ = some _), ?_⟩
    | refine ⟨_, ints_len (by assumption), ?_⟩
    | refine ⟨_, ints_addr (by assumption) (by omega) (by omega), ?_⟩
    | refine ⟨_, ints_load (by assumption) (by omega) (by omega), ?_⟩
    | refine ⟨(⟨by omega, by omega⟩ : inI64 _), ?_⟩
    | refine ⟨_, fun tm ha => step1_max rfl (ev_tmp ha rfl) (ev_tmp ha rfl), ?_⟩
    | refine ⟨_, fun tm ha => step1_min rfl (ev_tmp ha rfl) (ev_tmp ha rfl), ?_⟩
    | (refine ⟨fun _ => ?_, fun _ => ?_⟩ <;> first | (exfalso; omega) | skip)
    | fail
  · exact ⟨rfl, by rw [if_neg (by assumption)]; rfl, Keep.refl _⟩
  have hc : check xs = 0 := Classical.not_not.1 (by assumption)
  refine (drawing_spec hB hBase hv hc).mono ?_
  rintro r H2 ⟨rfl, k2⟩
  repeat' first
    | refine CO.cons rfl ?_
    | refine CO.nil ?_
    | refine CV.seq ?_
    | refine CV.region callees ?_
    | refine CV.cond ?_
    | refine CV.block ?_
    | refine CV.skip ?_
    | refine CV.exit ?_
    | refine CV.ret ?_
    | refine CV.scope ?_
    | refine CV.draw callees rfl ?_
    | refine CH.cons rfl ?_
    | refine CH.nil ?_
    | refine CO.consG rfl ?_
    | refine CH.consG rfl ?_
    | refine CG.cons rfl ?_
    | refine CG.nil ?_
    | refine CG.consG rfl ?_
    | refine ⟨(rfl : plain _ = true), ?_⟩
    | refine ⟨(rfl : nilOk _ = some _), ?_⟩
    | refine ⟨_, ints_len (by assumption), ?_⟩
    | refine ⟨_, ints_addr (by assumption) (by omega) (by omega), ?_⟩
    | refine ⟨_, ints_load (by assumption) (by omega) (by omega), ?_⟩
    | refine ⟨(⟨by omega, by omega⟩ : inI64 _), ?_⟩
    | refine ⟨_, fun tm ha => step1_max rfl (ev_tmp ha rfl) (ev_tmp ha rfl), ?_⟩
    | refine ⟨_, fun tm ha => step1_min rfl (ev_tmp ha rfl) (ev_tmp ha rfl), ?_⟩
    | (refine ⟨fun _ => ?_, fun _ => ?_⟩ <;> first | (exfalso; omega) | skip)
    | fail
  exact ⟨rfl, by rw [if_pos hc, hc], k2⟩
end Go.Proofs.YteocbhefhobehaaDoor
