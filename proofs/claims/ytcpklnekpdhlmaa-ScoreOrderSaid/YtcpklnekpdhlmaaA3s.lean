
/- Numbers of labels: what follows from how they are given. -/
import Derived.Test.YtcpklnekpdhlmaaA2s
set_option linter.unusedVariables false
set_option linter.unusedSimpArgs false
namespace Go.Proofs.Ytcpklnekpdhlmaa
open Go.AI

/-- The labels that are met in the end. -/
def fin : List Int → List Int → List Int
  | [], met => met
  | x :: r, met => if x ∈ met then fin r met else fin r (met ++ [x])
theorem fin_pre : ∀ (xs met : List Int), ∃ l, fin xs met = met ++ l
  | [], met => ⟨[], by simp [fin]⟩
  | x :: r, met => by
    rw [fin]; split
    · exact fin_pre r met
    · obtain ⟨l, h⟩ := fin_pre r (met ++ [x]); exact ⟨x :: l, by simp [h]⟩
theorem fin_mem : ∀ (xs met : List Int) (x : Int), x ∈ xs → x ∈ fin xs met
  | y :: r, met, x, h => by
    rw [fin]
    rcases List.mem_cons.1 h with rfl | h
    · split
      · rename_i hm; obtain ⟨l, hl⟩ := fin_pre r met; rw [hl]; simp [hm]
      · obtain ⟨l, hl⟩ := fin_pre r (met ++ [x]); rw [hl]; simp
    · split
      · exact fin_mem r met x h
      · exact fin_mem r _ x h
theorem num_idx : ∀ (xs met : List Int), num xs met = xs.map fun x => (((fin xs met).idxOf x : Nat) : Int)
  | [], _ => rfl
  | x :: r, met => by
    rw [num, fin]
    split
    · rename_i hm
      rw [num_idx r met]
      obtain ⟨l, hl⟩ := fin_pre r met
      simp [hl, List.idxOf_append, hm]
    · rename_i hm
      rw [num_idx r (met ++ [x])]
      obtain ⟨l, hl⟩ := fin_pre r (met ++ [x])
      simp [hl, List.idxOf_append, hm]
theorem idx_inj {F : List Int} {x y : Int} (hx : x ∈ F) (hy : y ∈ F) (h : F.idxOf x = F.idxOf y) : x = y := by
  have h1 := List.getElem_idxOf (List.idxOf_lt_length_of_mem hx)
  have h2 := List.getElem_idxOf (List.idxOf_lt_length_of_mem hy)
  rw [← h1, ← h2]; simp only [h]
theorem num_map (f : Int → Int) : ∀ (xs met : List Int), (∀ a b, a ∈ met ++ xs → b ∈ met ++ xs → f a = f b → a = b) → num (xs.map f) (met.map f) = num xs met
  | [], _, _ => rfl
  | x :: r, met, h => by
    have hm : f x ∈ met.map f ↔ x ∈ met := by
      constructor
      · intro hx
        obtain ⟨y, hy, he⟩ := List.mem_map.1 hx
        rw [← h y x (by simp [hy]) (by simp) he]; exact hy
      · exact fun hx => List.mem_map_of_mem hx
    rw [List.map_cons, num, num]
    by_cases hx : x ∈ met
    · rw [if_pos (hm.2 hx), if_pos hx, num_map f r met (fun a b ha hb => h a b (by simp at ha ⊢; rcases ha with h | h <;> simp [h]) (by simp at hb ⊢; rcases hb with h | h <;> simp [h]))]
      congr 2
      have : ∀ (l : List Int), (∀ a b, a ∈ l ++ [x] → b ∈ l ++ [x] → f a = f b → a = b) → (l.map f).idxOf (f x) = l.idxOf x := by
        intro l
        induction l with
        | nil => intro _; rfl
        | cons y l ih =>
          intro hh
          rw [List.map_cons, List.idxOf_cons, List.idxOf_cons]
          by_cases hy : y = x
          · subst hy; simp
          · have : f y ≠ f x := fun he => hy (hh y x (by simp) (by simp) he)
            rw [show (f y == f x) = false by simpa using this, show (y == x) = false by simpa using hy, cond_false, cond_false]
            exact congrArg (· + 1) <| ih fun a b ha hb => hh a b (by simp at ha ⊢; rcases ha with h | h <;> simp [h]) (by simp at hb ⊢; rcases hb with h | h <;> simp [h])
      exact this met fun a b ha hb => h a b (by simp at ha ⊢; rcases ha with h | h <;> simp [h]) (by simp at hb ⊢; rcases hb with h | h <;> simp [h])
    · rw [if_neg (fun hh => hx (hm.1 hh)), if_neg hx, List.length_map]
      have := num_map f r (met ++ [x]) (fun a b ha hb => h a b (by simp at ha ⊢; rcases ha with h | h | h <;> simp [h]) (by simp at hb ⊢; rcases hb with h | h | h <;> simp [h]))
      rw [List.map_append] at this
      rw [show met.map f ++ [f x] = met.map f ++ [x].map f from rfl, this]
theorem num_inj (f : Int → Int) (xs : List Int) (h : ∀ a b, a ∈ xs → b ∈ xs → f a = f b → a = b) : num (xs.map f) [] = num xs [] :=
  num_map f xs [] (by simpa using h)
theorem num_self (xs : List Int) : num (num xs []) [] = num xs [] := by
  rw [num_idx xs []]
  rw [num_inj]
  · rw [← num_idx]
  · intro a b ha hb h
    exact idx_inj (fin_mem xs [] a ha) (fin_mem xs [] b hb) (by exact_mod_cast h)
theorem num_eq {xs : List Int} {i k : Nat} (hi : i < xs.length) (hk : k < xs.length) : (num xs [])[i]! = (num xs [])[k]! ↔ xs[i]! = xs[k]! := by
  have h1 : i < (num xs []).length := by rw [num_length]; exact hi
  have h2 : k < (num xs []).length := by rw [num_length]; exact hk
  rw [getElem!_pos _ i h1, getElem!_pos _ k h2, getElem!_pos _ i hi, getElem!_pos _ k hk]
  simp only [num_idx xs []]
  simp only [List.getElem_map]
  constructor
  · intro h
    exact idx_inj (fin_mem xs [] _ (List.getElem_mem hi)) (fin_mem xs [] _ (List.getElem_mem hk)) (by exact_mod_cast h)
  · intro h; rw [h]
theorem check_num : ∀ (xs met : List Int), met.length + xs.length ≤ 9 → checkFrom (num xs met) met.length = 0
  | [], _, _ => rfl
  | x :: r, met, h => by
    simp only [List.length_cons] at h
    rw [num]
    split
    · rename_i hx
      have := List.idxOf_lt_length_of_mem hx
      rw [checkFrom, if_neg (by omega), if_neg (by omega), show max (met.length : Int) ((met.idxOf x : Nat) + 1) = met.length by omega]
      exact check_num r met (by omega)
    · rw [checkFrom, if_neg (by omega), if_neg (by omega), show max (met.length : Int) ((met.length : Nat) + 1) = ((met ++ [x]).length : Nat) by simp; omega]
      exact check_num r (met ++ [x]) (by simp; omega)
theorem check_of {xs : List Int} (h0 : ¬ xs.length = 0) (h1 : ¬ 9 < xs.length) : check (num xs []) = 0 := by
  rw [check, num_length, if_neg h0, if_neg h1]
  exact check_num xs [] (by simp; omega)

/-- The exclusive or of two ints. -/
def xorI (a b : Int) : Int := IntKind.wrap .i64 ((BitVec.ofInt 64 a ^^^ BitVec.ofInt 64 b).toNat)
theorem wrap_nat_inj {a b : Nat} (ha : a < 2 ^ 64) (hb : b < 2 ^ 64) (h : IntKind.wrap .i64 a = IntKind.wrap .i64 b) : a = b := by
  unfold IntKind.wrap at h
  simp [IntKind.signed, IntKind.bits] at h
  split at h <;> split at h <;> omega
theorem xorI_inj {a b c : Int} (ha : inI64 a) (hb : inI64 b) (h : xorI a c = xorI b c) : a = b := by
  have h1 := wrap_nat_inj (BitVec.isLt _) (BitVec.isLt _) h
  have h2 : BitVec.ofInt 64 a ^^^ BitVec.ofInt 64 c = BitVec.ofInt 64 b ^^^ BitVec.ofInt 64 c := BitVec.eq_of_toNat_eq h1
  have h3 : BitVec.ofInt 64 a = BitVec.ofInt 64 b := by
    have := congrArg (· ^^^ BitVec.ofInt 64 c) h2
    simpa [BitVec.xor_assoc] using this
  have h4 := congrArg BitVec.toInt h3
  rw [BitVec.toInt_ofInt, BitVec.toInt_ofInt] at h4
  obtain ⟨a1, a2⟩ := ha
  obtain ⟨b1, b2⟩ := hb
  rw [Int.bmod_def, Int.bmod_def] at h4
  omega
theorem step1_xor {P : Program} {tm : Tm} {H : Heap} {o : Oper} {t u : TypeId} {x y : Operand} {a b : Int} (ho : o.op = .binOp .xor t x y u) (hx : ev P tm x = some (.int .i64 a)) (hy : ev P tm y = some (.int .i64 b)) : step1 P tm H o = some (.int .i64 (xorI a b), H, H.n) :=
  step1_bits (.inl rfl) ho hx hy rfl rfl
end Go.Proofs.Ytcpklnekpdhlmaa
