
/- A chain made of numbers has a story. -/
import Derived.Test.Ytijimplcjaeneaah0o
set_option linter.unusedVariables false
set_option linter.unusedSimpArgs false
namespace Go.Proofs.Ytijimplcjaeneaa
open Go.AI
/-- What each link that is made is like. -/
structure LkM (l : Lk) : Prop where
  f0 : 0 ≤ l.f
  f1 : l.f ≤ 4
  t0 : 0 ≤ l.t
  t1 : l.t ≤ 4
  ne : l.f ≠ l.t
  l0 : 0 ≤ l.lo
  h1 : l.hi ≤ 200
  lh : l.lo ≤ l.hi
theorem lkM_e {l : Lk} (h : LkM l) : linkE l = 0 := by
  obtain ⟨a1, a2, a3, a4, a5, a6, a7, a8⟩ := h
  simp only [linkE, spanE, inB, decide_eq_true a1, decide_eq_true a3, decide_eq_true a6, decide_eq_true (show l.f ≤ 19 by omega), decide_eq_true (show l.t ≤ 19 by omega), decide_eq_true (show l.lo ≤ 100000 by omega), decide_eq_true (show 0 ≤ l.hi by omega), decide_eq_true (show l.hi ≤ 100000 by omega), Bool.and_self, cond_true]
  rw [if_neg a5, if_neg (by omega)]
theorem linksE_of : ∀ {ls : List Lk}, (∀ x ∈ ls, LkM x) → linksE ls = 0
  | [], _ => rfl
  | l :: t, h => by
    unfold linksE
    rw [if_pos (lkM_e (h l (by simp)))]
    exact linksE_of fun x hx => h x (by simp [hx])
/-- A chain that is made. -/
structure ChM (most : Nat) (mk lo hi : Int) (ls : List Lk) : Prop where
  m0 : 0 ≤ mk
  m1 : mk ≤ 4
  l0 : 0 ≤ lo
  lh : lo ≤ hi
  h1 : hi ≤ 200
  n : ls.length ≤ most
  lk : ∀ x ∈ ls, LkM x
  st : ∃ o, o.length = ls.length ∧ ChainO ls mk lo o ∧ o.Nodup
theorem ChM.ok {most : Nat} {mk lo hi : Int} {ls : List Lk} (h : ChM most mk lo hi ls) (h7 : most ≤ 7) : chkC mk lo hi ls = 0 := by
  obtain ⟨a1, a2, a3, a4, a5, a6, a7, o, b1, b2, b3⟩ := h
  have hs : spanE lo hi 0 100000 = 0 := by
    simp only [spanE, inB, decide_eq_true a3, decide_eq_true (show lo ≤ 100000 by omega), decide_eq_true (show 0 ≤ hi by omega), decide_eq_true (show hi ≤ 100000 by omega), Bool.and_self, cond_true]
    rw [if_neg (by omega)]
  have ho : (ordersL mk lo ls).isEmpty = false := by
    cases hx : ordersL mk lo ls with
    | nil =>
      have := (orders_mem (mk := mk) (lo := lo) (ls := ls) (o := o)).2 ⟨b1, b2, b3⟩
      rw [hx] at this
      cases this
    | cons a b => rfl
  simp only [chkC, inB, decide_eq_true a1, decide_eq_true (show mk ≤ 19 by omega), Bool.and_self, cond_true]
  rw [if_pos hs, if_neg (by omega), if_pos (linksE_of a7), ho]
  rfl
end Go.Proofs.Ytijimplcjaeneaa

