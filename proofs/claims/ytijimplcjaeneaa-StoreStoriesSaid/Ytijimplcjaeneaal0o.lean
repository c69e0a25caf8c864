
/- The reference's stories: the pure part. -/
import Derived.Test.Ytijimplcjaeneaai8o
set_option linter.unusedVariables false
set_option linter.unusedSimpArgs false
namespace Go.Proofs.Ytijimplcjaeneaa
open Go.AI
/-- Have all events days? -/
def okE (E : List Ev) : Bool := E.all fun e => decide (e.lo ≤ e.hi)
theorem downL_nar : ∀ {E : List Ev}, NarE E (downL E)
  | [] => trivial
  | e :: t => by
    have ih := downL_nar (E := t)
    unfold downL
    cases hd : downL t with
    | nil =>
      rw [hd] at ih
      cases t with
      | nil => exact ⟨⟨rfl, rfl, Int.le_refl _, Int.le_refl _⟩, trivial⟩
      | cons x r => exact ih.elim
    | cons f r =>
      rw [hd] at ih
      exact ⟨⟨rfl, rfl, Int.le_refl _, by show min e.hi (f.hi - 1) ≤ e.hi; omega⟩, ih⟩
theorem nar_ok : ∀ {E F : List Ev}, NarE E F → okE F = true → okE E = true
  | [], [], _, _ => rfl
  | e :: t, f :: s, ⟨⟨_, _, a, b⟩, h⟩, hk => by
    unfold okE at hk ⊢
    rw [List.all_cons, Bool.and_eq_true] at hk ⊢
    have h1 := of_decide_eq_true hk.1
    exact ⟨decide_eq_true (by omega), nar_ok h hk.2⟩
  | [], _ :: _, h, _ => h.elim
  | _ :: _, [], h, _ => h.elim
theorem ok_down {mk lo hi : Int} {ls : List Lk} {o : List Int} : okE (evsL mk lo hi ls o) = okE (evs0 mk lo hi ls o) := by
  cases h : okE (evs0 mk lo hi ls o) with
  | true =>
    unfold okE at h ⊢
    rw [List.all_eq_true] at h ⊢
    intro e he
    exact decide_eq_true (downL_ok (upL_incr (a := ⟨-1, mk, lo, hi⟩)) (fun e he => of_decide_eq_true (h e he)) e he)
  | false =>
    cases h2 : okE (evsL mk lo hi ls o) with
    | false => rfl
    | true =>
      rw [nar_ok downL_nar h2] at h
      cases h
/-- All orders of which the owners are right and the days, looked at behind all of them. -/
def growR (ls : List Lk) (ok : List Int → Bool) : Nat → List Int → Int → List (List Int)
  | 0, pre, _ => if ok pre then [pre] else []
  | r + 1, pre, o => (List.range ls.length).flatMap fun (i : Nat) => if (decide (ls[i]!.f = o) && !decide ((i : Int) ∈ pre)) = true then growR ls ok r (pre ++ [(i : Int)]) ls[i]!.t else []
def growRP (ls : List Lk) (ok : List Int → Bool) (r : Nat) (pre : List Int) (o : Int) (k : Nat) : List (List Int) := (List.range k).flatMap fun (i : Nat) => if (decide (ls[i]!.f = o) && !decide ((i : Int) ∈ pre)) = true then growR ls ok r (pre ++ [(i : Int)]) ls[i]!.t else []
theorem growRP_succ {ls : List Lk} {ok : List Int → Bool} {r : Nat} {pre : List Int} {o : Int} {k : Nat} : growRP ls ok r pre o (k + 1) = growRP ls ok r pre o k ++ (if (decide (ls[k]!.f = o) && !decide ((k : Int) ∈ pre)) = true then growR ls ok r (pre ++ [(k : Int)]) ls[k]!.t else []) := by
  unfold growRP
  rw [List.range_succ, List.flatMap_append]
  simp
theorem growR_len {ls : List Lk} {ok : List Int → Bool} (h7 : ls.length ≤ 7) : ∀ {r : Nat} {pre : List Int} {o : Int}, (growR ls ok r pre o).length ≤ 7 ^ r
  | 0, _, _ => by unfold growR; split <;> simp
  | r + 1, pre, o => by
    have key : ∀ k, (growRP ls ok r pre o k).length ≤ k * 7 ^ r := by
      intro k
      induction k with
      | zero => simp [growRP]
      | succ k ih =>
        rw [growRP_succ, List.length_append, Nat.succ_mul]
        have : (if (decide (ls[k]!.f = o) && !decide ((k : Int) ∈ pre)) = true then growR ls ok r (pre ++ [(k : Int)]) ls[k]!.t else []).length ≤ 7 ^ r := by
          split
          · exact growR_len h7
          · simp
        omega
    have h1 : growR ls ok (r + 1) pre o = growRP ls ok r pre o ls.length := rfl
    rw [h1, Nat.pow_succ, Nat.mul_comm]
    exact Nat.le_trans (key _) (Nat.mul_le_mul_right _ h7)
theorem evs0_snoc {mk lo hi : Int} {ls : List Lk} {pre : List Int} {k : Int} : evs0 mk lo hi ls (pre ++ [k]) = evs0 mk lo hi ls pre ++ [⟨k, ls[k.toNat]!.t, max ls[k.toNat]!.lo ((evs0 mk lo hi ls pre)[pre.length]!.lo + 1), ls[k.toNat]!.hi⟩] :=
  upL_snoc (a := ⟨-1, mk, lo, hi⟩)
theorem growR_eq {mk lo hi : Int} {ls : List Lk} : ∀ {r : Nat} {pre : List Int} {o d : Int}, d = (evs0 mk lo hi ls pre)[pre.length]!.lo → growR ls (fun o => okE (evsL mk lo hi ls o)) r pre o = if okE (evs0 mk lo hi ls pre) = true then growL ls r pre o d else []
  | 0, pre, o, d, hd => by
    unfold growR growL
    rw [ok_down]
  | r + 1, pre, o, d, hd => by
    unfold growR growL
    cases hp : okE (evs0 mk lo hi ls pre) with
    | true =>
      rw [if_pos rfl]
      congr 1
      funext i
      have hsn := evs0_snoc (mk := mk) (lo := lo) (hi := hi) (ls := ls) (pre := pre) (k := (i : Int))
      have hlast : (evs0 mk lo hi ls (pre ++ [(i : Int)]))[(pre ++ [(i : Int)]).length]!.lo = soon d ls[i]! := by
        rw [hsn, List.length_append, List.length_singleton, getElem!_pos _ _ (by rw [List.length_append, List.length_singleton, evs0_len]; omega), List.getElem_append_right (by rw [evs0_len]; omega)]
        simp only [evs0_len, Nat.sub_self, List.getElem_singleton, Int.toNat_natCast]
        rw [← hd]
        unfold soon
        omega
      have hok : okE (evs0 mk lo hi ls (pre ++ [(i : Int)])) = decide (soon d ls[i]! ≤ ls[i]!.hi) := by
        rw [hsn]
        unfold okE at hp ⊢
        rw [List.all_append, hp, Bool.true_and]
        simp only [List.all_cons, List.all_nil, Bool.and_true, Int.toNat_natCast]
        rw [← hd]
        unfold soon
        congr 1
        rw [Int.max_comm]
      have ih := growR_eq (r := r) (pre := pre ++ [(i : Int)]) (o := ls[i]!.t) hlast.symm
      rw [hok] at ih
      unfold takesB
      by_cases c1 : ls[i]!.f = o
      · rw [decide_eq_true c1, Bool.true_and, Bool.true_and]
        by_cases c2 : (i : Int) ∈ pre
        · rw [decide_eq_true c2]; simp
        · rw [decide_eq_false c2]
          simp only [Bool.not_false, if_true, Bool.and_true]
          exact ih
      · rw [decide_eq_false c1]; simp
    | false =>
      simp only [Bool.false_eq_true, if_false]
      rw [List.flatMap_eq_nil_iff]
      intro i _
      split
      · have hsn := evs0_snoc (mk := mk) (lo := lo) (hi := hi) (ls := ls) (pre := pre) (k := (i : Int))
        rw [growR_eq (d := (evs0 mk lo hi ls (pre ++ [(i : Int)]))[(pre ++ [(i : Int)]).length]!.lo) rfl, if_neg]
        rw [hsn]
        unfold okE at hp ⊢
        rw [List.all_append, hp]
        simp
      · rfl
/-- The reference's stories have the program's orders. -/
theorem stories_eq {mk lo hi : Int} {ls : List Lk} (h : lo ≤ hi) : growR ls (fun o => okE (evsL mk lo hi ls o)) ls.length [] mk = ordersL mk lo ls := by
  rw [growR_eq (d := lo) rfl, if_pos]
  · rfl
  · show okE [⟨-1, mk, lo, hi⟩] = true
    simp [okE, h]
end Go.Proofs.Ytijimplcjaeneaa
