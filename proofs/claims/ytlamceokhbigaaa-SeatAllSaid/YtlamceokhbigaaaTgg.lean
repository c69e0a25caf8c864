
/- A rule more. -/
import Derived.Test.YtlamceokhbigaaaTdg
set_option linter.unusedVariables false
set_option linter.unusedSimpArgs false
namespace Go.Proofs.Ytlamceokhbigaaa
open Go.AI
theorem ru_old {rs : List Ru} {r : Ru} {i : Nat} (h : i < rs.length) : (rs ++ [r])[i]! = rs[i]! := by
  rw [getElem!_pos (rs ++ [r]) i (by rw [List.length_append, List.length_singleton]; omega), List.getElem_append_left h, getElem!_pos rs i h]
theorem ru_new {rs : List Ru} {r : Ru} : (rs ++ [r])[rs.length]! = r := by
  rw [getElem!_pos (rs ++ [r]) rs.length (by rw [List.length_append, List.length_singleton]; omega), List.getElem_append_right (Nat.le_refl _)]
  simp
theorem brkN_app {n : Nat} {S R : List Int} {rs : List Ru} {r : Ru} : ∀ i, i ≤ rs.length → brkN n S R (rs ++ [r]) i = brkN n S R rs i
  | 0, _ => rfl
  | i + 1, h => by
    have ih := brkN_app (n := n) (S := S) (R := R) (rs := rs) (r := r) i (by omega)
    simp only [brkN, ru_old (show i < rs.length by omega), ih]
theorem strN_app {rs : List Ru} {r : Ru} : ∀ i, i ≤ rs.length → strN (rs ++ [r]) i = strN rs i
  | 0, _ => rfl
  | i + 1, h => by
    have ih := strN_app (rs := rs) (r := r) i (by omega)
    simp only [strN, ru_old (show i < rs.length by omega), ih]
theorem wtsN_app {N : Nat} {rs : List Ru} {r : Ru} : ∀ i, i ≤ rs.length → wtsN N (rs ++ [r]) i = wtsN N rs i
  | 0, _ => rfl
  | i + 1, h => by
    have ih := wtsN_app (N := N) (rs := rs) (r := r) i (by omega)
    simp only [wtsN, ru_old (show i < rs.length by omega), ih]
theorem app_len {rs : List Ru} {r : Ru} : (rs ++ [r]).length = rs.length + 1 := by rw [List.length_append, List.length_singleton]
theorem brkO_app {gs : List Gu} {rs : List Ru} {r : Ru} {o : List Int} : brkO gs (rs ++ [r]) o = bif keepN gs.length (seatL o) (rankL gs o) r then brkO gs rs o else brkO gs rs o ||| 2 ^ rs.length := by
  unfold brkO
  rw [app_len]
  simp only [brkN, ru_new, brkN_app rs.length (Nat.le_refl _)]
theorem strN_app1 {rs : List Ru} {r : Ru} (h : r.wt = 0) : strN (rs ++ [r]) (rs ++ [r]).length = strN rs rs.length ||| 2 ^ rs.length := by
  rw [app_len]
  simp only [strN, ru_new, h, strN_app rs.length (Nat.le_refl _), beq_self_eq_true, cond_true]
/-- What is allowed with a rule more was allowed before, and keeps it. -/
theorem okB_app {gs : List Gu} {rs : List Ru} {r : Ru} {o : List Int} (h : r.wt = 0) (hok : okB gs (rs ++ [r]) o = true) : okB gs rs o = true ∧ keepN gs.length (seatL o) (rankL gs o) r = true := by
  unfold okB at hok ⊢
  rw [beq_iff_eq] at hok
  rw [strN_app1 h, brkO_app] at hok
  cases hk : keepN gs.length (seatL o) (rankL gs o) r with
  | true =>
    rw [hk, cond_true, Nat.and_or_distrib_left] at hok
    have := (Nat.or_eq_zero_iff.1 hok).1
    exact ⟨by rw [this]; rfl, rfl⟩
  | false =>
    rw [hk, cond_false] at hok
    have := congrArg (fun x => Nat.testBit x rs.length) hok
    simp [Nat.testBit_and, Nat.testBit_or, Nat.testBit_two_pow_self] at this
theorem hasN_lt {N i : Nat} (h : N < 2 ^ i) : hasN N i = false := by
  unfold hasN
  rw [Nat.shiftRight_eq_div_pow, Nat.div_eq_of_lt h]
  rfl
theorem prO_app {gs : List Gu} {rs : List Ru} {r : Ru} {o : List Int} (hk : keepN gs.length (seatL o) (rankL gs o) r = true) : prO gs (rs ++ [r]) o = prO gs rs o := by
  unfold prO priceN
  rw [brkO_app, hk, cond_true, app_len]
  simp only [wtsN, hasN_lt (show brkO gs rs o < 2 ^ rs.length from brkN_lt _), cond_false, wtsN_app rs.length (Nat.le_refl _)]
theorem okL_app {gs : List Gu} {rs : List Ru} {r : Ru} (h : r.wt = 0) : okL gs (rs ++ [r]) = (okL gs rs).filter (okB gs (rs ++ [r])) := by
  unfold okL
  rw [List.filter_filter]
  congr 1
  funext o
  cases hk : okB gs (rs ++ [r]) o with
  | true => rw [(okB_app h hk).1]; rfl
  | false => rfl
/-- The best one is one of them, and none is cheaper. -/
theorem bestF_spec {gs : List Gu} {rs : List Ru} : ∀ (F : List (List Int)), (bestF gs rs F = none ∧ F = []) ∨ ∃ b p, bestF gs rs F = some (b, p) ∧ b ∈ F ∧ p = prO gs rs b ∧ ∀ o ∈ F, p ≤ prO gs rs o := by
  suffices h : ∀ (n : Nat) (F : List (List Int)), F.length = n → ((bestF gs rs F = none ∧ F = []) ∨ ∃ b p, bestF gs rs F = some (b, p) ∧ b ∈ F ∧ p = prO gs rs b ∧ ∀ o ∈ F, p ≤ prO gs rs o) from fun F => h _ F rfl
  intro n
  induction n with
  | zero =>
    intro F hF
    obtain rfl := List.eq_nil_of_length_eq_zero hF
    exact .inl ⟨rfl, rfl⟩
  | succ n ih =>
    intro F hF
    rcases List.eq_nil_or_concat F with rfl | ⟨F', o, rfl⟩
    · simp at hF
    · rw [List.concat_eq_append] at hF ⊢
      rw [List.length_append, List.length_singleton] at hF
      right
      rw [bestF_snoc]
      rcases ih F' (by omega) with ⟨h1, rfl⟩ | ⟨b, p, h1, h2, h3, h4⟩
      · rw [h1]
        exact ⟨o, prO gs rs o, rfl, by simp, rfl, fun x hx => by simp at hx; subst hx; exact Int.le_refl _⟩
      · rw [h1]
        by_cases hlt : prO gs rs o < p
        · refine ⟨o, prO gs rs o, by simp only [bstep, if_pos hlt], by simp, rfl, fun x hx => ?_⟩
          rcases List.mem_append.1 hx with h | h
          · have := h4 x h; omega
          · simp at h; subst h; exact Int.le_refl _
        · refine ⟨b, p, by simp only [bstep, if_neg hlt], by simp [h2], h3, fun x hx => ?_⟩
          rcases List.mem_append.1 hx with h | h
          · exact h4 x h
          · simp at h; subst h; omega
end Go.Proofs.Ytlamceokhbigaaa
