
/- Invitations, as numbers. -/
import Derived.Test.YtlamceokhbigaaaTog
set_option linter.unusedVariables false
set_option linter.unusedSimpArgs false
namespace Go.Proofs.Ytlamceokhbigaaa
open Go.AI
structure Bo where
  kd : Int
  a : Int
  b : Int
deriving Inhabited
/-- A bond between so many guests that may be. -/
structure BoOk (n : Int) (b : Bo) : Prop where
  k : b.kd = 1 ∨ b.kd = 2
  a0 : 0 ≤ b.a
  a1 : b.a < n
  b0 : 0 ≤ b.b
  b1 : b.b < n
  ne : b.a ≠ b.b
/-- Whether a bond is kept. -/
def keepB (N : Nat) (b : Bo) : Bool := !(hasN N b.a.toNat && (hasN N b.b.toNat == decide (b.kd = 1)))
def keepsI (N : Nat) (bs : List Bo) : Bool := bs.all (keepB N)
def honL (gs : List Gu) (l : List Int) : Int := sumI (l.map fun x => gs[x.toNat]!.ho)
/-- Which of two lists comes first: the shorter one, or by what they hold. -/
def cfL (a b : List Int) : Bool := decide (a.length < b.length) || (decide (a.length = b.length) && befL a b)
theorem befL_trans : ∀ {a b c : List Int}, befL a b = true → befL b c = true → befL a c = true
  | [], _, _, h, _ => by simp [befL] at h
  | _ :: _, [], _, h, _ => by simp [befL] at h
  | _ :: _, _ :: _, [], _, h => by simp [befL] at h
  | x :: a, y :: b, z :: c, h1, h2 => by
    simp only [befL] at h1 h2 ⊢
    by_cases e1 : x = y
    · subst e1
      rw [if_pos rfl] at h1
      by_cases e2 : x = z
      · rw [if_pos e2] at h2 ⊢
        exact befL_trans h1 h2
      · rw [if_neg e2] at h2 ⊢
        exact h2
    · rw [if_neg e1] at h1
      have h1 := of_decide_eq_true h1
      by_cases e2 : y = z
      · subst e2
        rw [if_neg e1]
        exact decide_eq_true h1
      · rw [if_neg e2] at h2
        have h2 := of_decide_eq_true h2
        rw [if_neg (by omega)]
        exact decide_eq_true (by omega)
theorem cfL_iff {a b : List Int} : cfL a b = true ↔ a.length < b.length ∨ a.length = b.length ∧ befL a b = true := by
  unfold cfL
  rw [Bool.or_eq_true, Bool.and_eq_true, decide_eq_true_iff, decide_eq_true_iff]
theorem cfL_self {a : List Int} : ¬ cfL a a = true := by
  rw [cfL_iff, befL_self]
  rintro (h | ⟨_, h⟩)
  · omega
  · cases h
theorem cfL_trans {a b c : List Int} (h1 : cfL a b = true) (h2 : cfL b c = true) : cfL a c = true := by
  rw [cfL_iff] at h1 h2 ⊢
  rcases h1 with h1 | ⟨h1, h3⟩
  · rcases h2 with h2 | ⟨h2, _⟩
    · exact .inl (by omega)
    · exact .inl (by omega)
  · rcases h2 with h2 | ⟨h2, h4⟩
    · exact .inl (by omega)
    · exact .inr ⟨by omega, befL_trans h3 h4⟩
theorem bits_more {N i : Nat} (h : N >>> i = 0) : ∀ {k : Nat}, bitsL N (i + k) = bitsL N i
  | 0 => rfl
  | k + 1 => by
    have ih := bits_more h (k := k)
    rw [← Nat.add_assoc, bitsL, has_none h (by omega), cond_false, ih]
/-- All bits, however far one looks. -/
theorem bits_stop {N i j : Nat} (h : N >>> i = 0) (h2 : N >>> j = 0) : bitsL N i = bitsL N j := by
  by_cases c : i ≤ j
  · have := bits_more h (k := j - i)
    rw [show i + (j - i) = j by omega] at this
    exact this.symm
  · have := bits_more h2 (k := i - j)
    rw [show j + (i - j) = i by omega] at this
    exact this
theorem shr_zero {N n : Nat} (h : N < 2 ^ n) : N >>> n = 0 := by
  rw [Nat.shiftRight_eq_div_pow]
  exact Nat.div_eq_of_lt h
theorem hon_bd {gs : List Gu} (hg : ∀ i, i < gs.length → 0 ≤ gs[i]!.ho ∧ gs[i]!.ho ≤ 1000) {l : List Int} (hl : ∀ x ∈ l, 0 ≤ x ∧ x < gs.length) : 0 ≤ honL gs l ∧ honL gs l ≤ 1000 * l.length := by
  have := sumI_bd (c := 1000) (by decide) (l := l.map fun x => gs[x.toNat]!.ho) fun y hy => by
    obtain ⟨x, hx, rfl⟩ := List.mem_map.1 hy
    have := hl x hx
    exact hg x.toNat (by omega)
  rwa [List.length_map] at this
theorem bits_lt {N i : Nat} {x : Int} (h : x ∈ bitsL N i) : 0 ≤ x ∧ x < i := by
  obtain ⟨j, hj, rfl, _⟩ := mem_bits.1 h
  omega
/-- Whether some guests may come. -/
def okI (bs : List Bo) (seats : Int) (n N : Nat) : Bool := decide (((bitsL N n).length : Int) ≤ seats) && keepsI N bs
abbrev betI (gs : List Gu) (n N : Nat) (s : List Int × Int) : Prop := s.2 < honL gs (bitsL N n) ∨ honL gs (bitsL N n) = s.2 ∧ cfL (bitsL N n) s.1 = true
def invK (gs : List Gu) (bs : List Bo) (seats : Int) (n : Nat) : Nat → List Int × Int
  | 0 => ([], 0)
  | k + 1 => if okI bs seats n k = true ∧ betI gs n k (invK gs bs seats n k) then (bitsL k n, honL gs (bitsL k n)) else invK gs bs seats n k
theorem has_zero {j : Nat} : hasN 0 j = false := has_none (i := 0) rfl (Nat.zero_le _)
theorem bits_zero : ∀ {n : Nat}, bitsL 0 n = []
  | 0 => rfl
  | n + 1 => by rw [bitsL, has_zero, cond_false, bits_zero]
theorem keepsI_zero {bs : List Bo} : keepsI 0 bs = true := by
  unfold keepsI
  rw [List.all_eq_true]
  intro b _
  unfold keepB
  rw [has_zero, Bool.false_and, Bool.not_false]
theorem okI_zero {bs : List Bo} {seats : Int} {n : Nat} (h : 0 ≤ seats) : okI bs seats n 0 = true := by
  unfold okI
  rw [bits_zero, keepsI_zero, Bool.and_true]
  exact decide_eq_true (by rw [List.length_nil]; omega)
theorem betI_trans {gs : List Gu} {n N M : Nat} {s : List Int × Int} (h1 : betI gs n N (bitsL M n, honL gs (bitsL M n))) (h2 : betI gs n M s) : betI gs n N s := by
  have h1' : honL gs (bitsL M n) < honL gs (bitsL N n) ∨ honL gs (bitsL N n) = honL gs (bitsL M n) ∧ cfL (bitsL N n) (bitsL M n) = true := h1
  rcases h1' with h1 | ⟨h1, h3⟩
  · rcases h2 with h2 | ⟨h2, _⟩
    · exact .inl (by omega)
    · exact .inl (by omega)
  · rcases h2 with h2 | ⟨h2, h4⟩
    · exact .inl (by omega)
    · exact .inr ⟨by omega, cfL_trans h3 h4⟩
theorem betI_self {gs : List Gu} {n N : Nat} : ¬ betI gs n N (bitsL N n, honL gs (bitsL N n)) := by
  rintro (h | ⟨_, h⟩)
  · exact absurd h (Int.lt_irrefl _)
  · exact cfL_self h
/-- What is best of the first sets. -/
theorem inv_best {gs : List Gu} {bs : List Bo} {seats : Int} {n : Nat} (hs : 0 ≤ seats) : ∀ K, 1 ≤ K → (∃ k, k < K ∧ okI bs seats n k = true ∧ invK gs bs seats n K = (bitsL k n, honL gs (bitsL k n))) ∧ ∀ k, k < K → okI bs seats n k = true → ¬ betI gs n k (invK gs bs seats n K)
  | 0, h => by omega
  | K + 1, _ => by
    have hstep : ∀ s, s = invK gs bs seats n K → invK gs bs seats n (K + 1) = if okI bs seats n K = true ∧ betI gs n K s then (bitsL K n, honL gs (bitsL K n)) else s := by
      rintro s rfl
      rfl
    by_cases hK : K = 0
    · subst hK
      have e : invK gs bs seats n (0 + 1) = (bitsL 0 n, honL gs (bitsL 0 n)) := by
        rw [hstep _ rfl]
        split
        · rfl
        · rw [bits_zero]; rfl
      refine ⟨⟨0, by omega, okI_zero hs, e⟩, fun k hk _ => ?_⟩
      obtain rfl : k = 0 := by omega
      rw [e]
      exact betI_self
    · obtain ⟨⟨k0, h1, h2, h3⟩, h4⟩ := inv_best (gs := gs) (bs := bs) (n := n) hs K (by omega)
      by_cases c : okI bs seats n K = true ∧ betI gs n K (invK gs bs seats n K)
      · have e : invK gs bs seats n (K + 1) = (bitsL K n, honL gs (bitsL K n)) := by rw [hstep _ rfl, if_pos c]
        refine ⟨⟨K, by omega, c.1, e⟩, fun k hk hok hb => ?_⟩
        rw [e] at hb
        by_cases ek : k = K
        · rw [ek] at hb; exact betI_self hb
        · exact h4 k (by omega) hok (betI_trans hb c.2)
      · have e : invK gs bs seats n (K + 1) = invK gs bs seats n K := by rw [hstep _ rfl, if_neg c]
        rw [e]
        refine ⟨⟨k0, by omega, h2, h3⟩, fun k hk hok hb => ?_⟩
        by_cases ek : k = K
        · rw [ek] at hb hok; exact c ⟨hok, hb⟩
        · exact h4 k (by omega) hok hb
end Go.Proofs.Ytlamceokhbigaaa
