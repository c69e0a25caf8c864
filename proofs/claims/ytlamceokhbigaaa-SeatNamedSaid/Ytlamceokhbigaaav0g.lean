
/- Conflicts, as numbers. -/
import Derived.Test.YtlamceokhbigaaaTtg
import Derived.Test.Ytlamceokhbigaaau0g
set_option linter.unusedVariables false
set_option linter.unusedSimpArgs false
namespace Go.Proofs.Ytlamceokhbigaaa
open Go.AI
/-- What an order breaks of the rules that must be kept. -/
def brS (gs : List Gu) (rs : List Ru) (o : List Int) : Nat := brkO gs rs o &&& strN rs rs.length
theorem zero_bits {N : Nat} : N = 0 ↔ ∀ j, ¬ N.testBit j = true := by
  constructor
  · rintro rfl j
    rw [Nat.zero_testBit]
    exact Bool.false_ne_true
  · intro h
    apply Nat.eq_of_testBit_eq
    intro j
    rw [Nat.zero_testBit]
    exact Bool.eq_false_iff.2 (h j)
/-- Some rules alone, all of which must be kept. -/
def zeR (r : Ru) : Ru := ⟨r.kd, r.a, r.b, 0⟩
def onlyR (rs : List Ru) (l : List Int) : List Ru := l.map fun x => zeR rs[x.toNat]!
/-- Whether a choice has one of each. -/
def hitA (A : List Nat) (N : Nat) : Bool := A.all fun a => (N &&& a) != 0
theorem and_bits {N a : Nat} : (N &&& a) ≠ 0 ↔ ∃ j, N.testBit j = true ∧ a.testBit j = true := by
  constructor
  · intro h
    by_cases c : ∃ j, N.testBit j = true ∧ a.testBit j = true
    · exact c
    · exfalso
      apply h
      rw [zero_bits]
      intro j hj
      rw [Nat.testBit_and, Bool.and_eq_true] at hj
      exact c ⟨j, hj⟩
  · rintro ⟨j, h1, h2⟩ h
    have := zero_bits.1 h j
    rw [Nat.testBit_and, h1, h2] at this
    exact this rfl
theorem hitA_iff {A : List Nat} {N : Nat} : hitA A N = true ↔ ∀ a ∈ A, ∃ j, N.testBit j = true ∧ a.testBit j = true := by
  unfold hitA
  rw [List.all_eq_true]
  constructor
  · intro h a ha
    have := h a ha
    rw [bne_iff_ne] at this
    exact and_bits.1 this
  · intro h a ha
    rw [bne_iff_ne]
    exact and_bits.2 (h a ha)
/-- Whether all of the first bits are among the second ones. -/
def subN (N St : Nat) : Bool := (N &&& St) == N
theorem subN_iff {N St : Nat} : subN N St = true ↔ ∀ j, N.testBit j = true → St.testBit j = true := by
  unfold subN
  rw [beq_iff_eq]
  constructor
  · intro h j hj
    rw [← h, Nat.testBit_and, Bool.and_eq_true] at hj
    exact hj.2
  · intro h
    apply Nat.eq_of_testBit_eq
    intro j
    rw [Nat.testBit_and]
    cases k : N.testBit j with
    | false => rfl
    | true => rw [h j k]; rfl
def chK (St : Nat) (A : List Nat) (k : Nat) : Bool := subN k St && hitA A k
def fewK (St m : Nat) (A : List Nat) : Nat → List Int
  | 0 => bitsL St m
  | k + 1 => if chK St A k = true ∧ cfL (bitsL k m) (fewK St m A k) = true then bitsL k m else fewK St m A k
/-- What the orders break, each once. -/
structure AllB (gs : List Gu) (rs : List Ru) (O : List (List Int)) (A : List Nat) : Prop where
  a : ∀ a ∈ A, ∃ o ∈ O, a = brS gs rs o
  o : ∀ o ∈ O, brS gs rs o ∈ A
  nz : ∀ a ∈ A, a ≠ 0
/-- The conflict that is found. -/
structure ConfL (gs : List Gu) (rs : List Ru) (l : List Int) : Prop where
  r : ∀ x ∈ l, 0 ≤ x ∧ x < rs.length ∧ rs[x.toNat]!.wt = 0
  asc : l.Pairwise (· < ·)
  non : okL gs (onlyR rs l) = []
  min : ∀ i, i < l.length → okL gs (onlyR rs (l.take i ++ l.drop (i + 1))) ≠ []
end Go.Proofs.Ytlamceokhbigaaa

