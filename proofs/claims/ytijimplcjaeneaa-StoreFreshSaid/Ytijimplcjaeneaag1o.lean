
/- How many repeats there are, by guests; who comes too often. -/
import Derived.Test.Ytijimplcjaeneaag0o
set_option linter.unusedVariables false
set_option linter.unusedSimpArgs false
namespace Go.Proofs.Ytijimplcjaeneaa
open Go.AI
/-- The repeats of a guest at the first gatherings. -/
def repG (gs : List (List Int)) (plan : List Int) (g : Int) : Nat → Int
  | 0 => 0
  | i + 1 => repG gs plan g i + if g ∈ gs[i]! ∧ 0 < cntF gs plan i g plan[i]! then 1 else 0
/-- Those of the first guests. -/
def repT (gs : List (List Int)) (plan : List Int) (n : Nat) : Nat → Int
  | 0 => 0
  | k + 1 => repT gs plan n k + repG gs plan (k : Int) n
def cntG (l : List Int) : Nat → Int
  | 0 => 0
  | k + 1 => cntG l k + if (k : Int) ∈ l then 1 else 0
theorem cntG_congr {l m : List Int} : ∀ {k : Nat}, (∀ j : Nat, j < k → ((j : Int) ∈ l ↔ (j : Int) ∈ m)) → cntG l k = cntG m k
  | 0, _ => rfl
  | k + 1, h => by
    rw [cntG, cntG, cntG_congr fun j hj => h j (by omega)]
    congr 1
    by_cases e : (k : Int) ∈ l
    · rw [if_pos e, if_pos ((h k (by omega)).1 e)]
    · rw [if_neg e, if_neg fun h' => e ((h k (by omega)).2 h')]
theorem cntG_len : ∀ {k : Nat} {l : List Int}, l.Nodup → (∀ x ∈ l, 0 ≤ x ∧ x < k) → cntG l k = l.length
  | 0, l, _, h => by
    cases l with
    | nil => rfl
    | cons x t => have := h x (by simp); omega
  | k + 1, l, hd, h => by
    rw [cntG]
    by_cases e : (k : Int) ∈ l
    · have h1 := cntG_len (k := k) (l := l.erase (k : Int)) (hd.erase _) fun x hx => by
        have a := (hd.mem_erase_iff).1 hx
        have b := h x a.2
        have c := a.1
        omega
      have h2 : cntG l k = cntG (l.erase (k : Int)) k := cntG_congr fun j hj => by
        rw [hd.mem_erase_iff]
        exact ⟨fun hm => ⟨by omega, hm⟩, fun hm => hm.2⟩
      have h3 := List.length_erase_of_mem e
      have h4 := List.length_pos_of_mem e
      rw [if_pos e, h2, h1]
      omega
    · rw [if_neg e, Int.add_zero]
      exact cntG_len hd fun x hx => by
        have b := h x hx
        have : x ≠ (k : Int) := fun h' => e (h' ▸ hx)
        omega
theorem repT_step {gs : List (List Int)} {plan : List Int} {n : Nat} : ∀ {k : Nat}, repT gs plan (n + 1) k = repT gs plan n k + cntG (againL gs plan n) k
  | 0 => rfl
  | k + 1 => by
    have h : ((k : Int) ∈ againL gs plan n) ↔ ((k : Int) ∈ gs[n]! ∧ 0 < cntF gs plan n (k : Int) plan[n]!) := by
      unfold againL
      rw [List.mem_filter, decide_eq_true_eq]
    rw [repT, repT_step, repG, repT, cntG]
    by_cases e : (k : Int) ∈ againL gs plan n
    · rw [if_pos (h.1 e), if_pos e]; omega
    · rw [if_neg fun h' => e (h.2 h'), if_neg e]; omega
theorem repT_all {gs : List (List Int)} {plan : List Int} (hg : GsOk gs) : ∀ {n : Nat}, n ≤ gs.length → repT gs plan n 12 = (repS gs plan n).2.2
  | 0, _ => by simp [repT, repG, repS]
  | n + 1, hn => by
    have h1 : (againL gs plan n).Nodup := List.Nodup.sublist List.filter_sublist (hg.nd n (by omega))
    have h2 := cntG_len (k := 12) h1 fun x hx => by
      have := hg.r n (by omega) x (List.mem_filter.1 hx).1
      omega
    rw [repT_step, repT_all hg (by omega), h2]
    rfl
theorem rep_mono {gs : List (List Int)} {plan : List Int} {n : Nat} : ∀ {m : Nat}, n ≤ m → (repS gs plan n).2.2 ≤ (repS gs plan m).2.2
  | 0, h => by obtain rfl : n = 0 := by omega
               exact Int.le_refl _
  | m + 1, h => by
    by_cases e : n = m + 1
    · rw [e]; exact Int.le_refl _
    · have := rep_mono (gs := gs) (plan := plan) (n := n) (m := m) (by omega)
      have e3 : (repS gs plan (m + 1)).2.2 = (repS gs plan m).2.2 + (againL gs plan m).length := rfl
      omega
/-- What a guest met. -/
def metL (gs : List (List Int)) (plan : List Int) (g : Int) : Nat → List Int
  | 0 => []
  | i + 1 => metL gs plan g i ++ if g ∈ gs[i]! then [plan[i]!] else []
theorem metL_mem {gs : List (List Int)} {plan : List Int} {g x : Int} : ∀ {n : Nat}, x ∈ metL gs plan g n ↔ 0 < cntF gs plan n g x
  | 0 => by simp [metL, cntF]
  | n + 1 => by
    rw [metL, List.mem_append, metL_mem, cntF_pos]
    by_cases h : g ∈ gs[n]!
    · rw [if_pos h, List.mem_singleton]
      exact ⟨fun h' => h'.imp id fun e => ⟨e, h⟩, fun h' => h'.imp id fun e => e.1⟩
    · rw [if_neg h]
      exact ⟨fun h' => h'.elim .inl fun e => (by cases e), fun h' => h'.elim .inl fun e => absurd e.2 h⟩
end Go.Proofs.Ytijimplcjaeneaa

