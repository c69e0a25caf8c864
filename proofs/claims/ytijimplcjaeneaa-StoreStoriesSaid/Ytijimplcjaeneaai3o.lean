
/- Who is the holder behind all days. -/
import Derived.Test.Ytijimplcjaeneaai2o
set_option linter.unusedVariables false
set_option linter.unusedSimpArgs false
namespace Go.Proofs.Ytijimplcjaeneaa
open Go.AI
def lastI : Int → List Int → Int
  | h, [] => h
  | _, x :: t => lastI x t
theorem lastI_get : ∀ {l : List Int} {h : Int}, 0 < l.length → lastI h l = l[l.length - 1]!
  | [x], _, _ => rfl
  | x :: y :: t, h, _ => by
    show lastI x (y :: t) = _
    rw [lastI_get (l := y :: t) (by simp)]
    show _ = (x :: y :: t)[(y :: t).length]!
    rw [getElem!_pos _ _ (by simp), getElem!_pos _ _ (by simp)]
    simp
theorem gathK_last {d : Int} : ∀ {E : List Ev} {ks : List Int} {h : Int}, (∀ e ∈ E, e.lo ≤ d ∧ e.hi ≤ d) → gathK d ks h E = addK ks (lastI h (E.map (·.o)))
  | [], _, _, _ => rfl
  | e :: t, ks, h, hd => by
    have he := hd e (by simp)
    unfold gathK
    rw [if_neg (by omega), if_neg (by omega)]
    exact gathK_last fun x hx => hd x (by simp [hx])
theorem upL_owns {ls : List Lk} : ∀ {o : List Int} {p : Int}, (upL ls p o).map (·.o) = o.map fun k => ls[k.toNat]!.t
  | [], _ => rfl
  | k :: t, p => by simp [upL, upL_owns]
theorem evs_in {mk lo hi : Int} {ls : List Lk} {o : List Int} (hk : ChOk mk lo hi ls) (ho : o ∈ ordersL mk lo ls) : ∀ e ∈ evsL mk lo hi ls o, e.lo ≤ 100000 ∧ e.hi ≤ 100000 := by
  intro e he
  obtain ⟨h1, h2, h3⟩ := orders_mem.1 ho
  have h4 := evs_ok hk.l1 h2 e he
  have hl1 := hk.l1
  have hh1 := hk.h1
  have hl0 := hk.l0
  have hb := evs0_bd (mk := mk) (hi := hi) hk.ok h2.mem hk.l0 (by omega) (by omega) hk.h1
  obtain ⟨j, hj, rfl⟩ := List.getElem_of_mem he
  have hj' : j < (evs0 mk lo hi ls o).length := by rw [evsL, downL_len] at hj; exact hj
  have h5 := downL_bd (fun j hj => (hb j hj).2) j hj'
  rw [← getElem!_pos (evsL mk lo hi ls o) j hj] at h4 ⊢
  unfold evsL at h4 ⊢
  omega
/-- The one to whom the last link goes. -/
def endO (mk : Int) (ls : List Lk) (o : List Int) : Int := if ls.length = 0 then mk else ls[(o[o.length - 1]!).toNat]!.t
theorem evs_last {mk lo hi : Int} {ls : List Lk} {o : List Int} (ho : o ∈ ordersL mk lo ls) : lastI (-1) ((evsL mk lo hi ls o).map (·.o)) = endO mk ls o := by
  obtain ⟨h1, h2, h3⟩ := orders_mem.1 ho
  rw [evsL, downL_own]
  show lastI mk ((upL ls lo o).map (·.o)) = _
  rw [upL_owns]
  unfold endO
  split
  · have : o = [] := List.length_eq_zero_iff.1 (by omega)
    subst this; rfl
  · rw [lastI_get (by rw [List.length_map]; omega), List.length_map, getElem!_pos _ _ (by rw [List.length_map]; omega), List.getElem_map, getElem!_pos o _ (by omega)]
/-- Is this one the holder behind all days, as far as these orders say? -/
def isB (mk : Int) (ls : List Lk) (S : List (List Int)) (k : Int) : Bool := if ls.length = 0 then decide (k = mk) else S.any fun o => decide (ls[(o[o.length - 1]!).toNat]!.t = k)
theorem keys_last {mk lo hi x : Int} {ls : List Lk} (hk : ChOk mk lo hi ls) : x ∈ keysF mk lo hi ls 100000 (ordersL mk lo ls) ↔ isB mk ls (ordersL mk lo ls) x = true := by
  rw [keysF_mem]
  have key : ∀ o ∈ ordersL mk lo ls, (x ∈ gathK 100000 [] (-1) (evsL mk lo hi ls o) ↔ x = endO mk ls o) := fun o ho => by
    rw [gathK_last (evs_in hk ho), evs_last ho, addK_mem]
    simp
  unfold isB
  by_cases h0 : ls.length = 0
  · rw [if_pos h0]
    constructor
    · rintro ⟨o, ho, h⟩
      rw [key o ho] at h
      unfold endO at h
      rw [if_pos h0] at h
      exact decide_eq_true h
    · intro h
      obtain ⟨o, ho⟩ := List.exists_mem_of_ne_nil _ hk.s
      refine ⟨o, ho, (key o ho).2 ?_⟩
      unfold endO
      rw [if_pos h0]
      exact of_decide_eq_true h
  · rw [if_neg h0, List.any_eq_true]
    constructor
    · rintro ⟨o, ho, h⟩
      rw [key o ho] at h
      unfold endO at h
      rw [if_neg h0] at h
      exact ⟨o, ho, decide_eq_true h.symm⟩
    · rintro ⟨o, ho, h⟩
      refine ⟨o, ho, (key o ho).2 ?_⟩
      unfold endO
      rw [if_neg h0]
      exact (of_decide_eq_true h).symm
theorem hoL_mem {mk lo hi d x : Int} {ls : List Lk} : x ∈ hoL mk lo hi ls d ↔ (-1 ≤ x ∧ x ≤ 19) ∧ x ∈ keysF mk lo hi ls d (ordersL mk lo ls) := by
  unfold hoL
  rw [List.mem_filter, List.mem_map]
  constructor
  · rintro ⟨⟨i, hi, rfl⟩, h⟩
    have := List.mem_range.1 hi
    exact ⟨by omega, of_decide_eq_true h⟩
  · rintro ⟨h1, h2⟩
    exact ⟨⟨(x + 1).toNat, List.mem_range.2 (by omega), by omega⟩, decide_eq_true h2⟩
theorem last_has {mk lo hi : Int} {ls : List Lk} (hk : ChOk mk lo hi ls) {k : Nat} (h : k < 20) : decide ((k : Int) ∈ hoL mk lo hi ls 100000) = isB mk ls (ordersL mk lo ls) k := by
  cases hb : isB mk ls (ordersL mk lo ls) k with
  | true => exact decide_eq_true (hoL_mem.2 ⟨by omega, (keys_last hk).2 hb⟩)
  | false =>
    refine decide_eq_false fun h1 => ?_
    rw [(keys_last hk).1 (hoL_mem.1 h1).2] at hb
    cases hb
def cntB (mk : Int) (ls : List Lk) (S : List (List Int)) (n : Nat) : Nat := ((List.range n).filter fun (i : Nat) => isB mk ls S i).length
theorem cntB_succ {mk : Int} {ls : List Lk} {S : List (List Int)} {n : Nat} : cntB mk ls S (n + 1) = cntB mk ls S n + if isB mk ls S n = true then 1 else 0 := by
  unfold cntB
  rw [List.range_succ, List.filter_append, List.length_append]
  congr 1
  cases h : isB mk ls S n <;> simp [h]
theorem cntB_le {mk : Int} {ls : List Lk} {S : List (List Int)} {n : Nat} : cntB mk ls S n ≤ n := by
  unfold cntB
  refine Nat.le_trans (List.length_filter_le _ _) ?_
  simp
theorem last_none {mk lo hi : Int} {ls : List Lk} (hk : ChOk mk lo hi ls) : isB mk ls (ordersL mk lo ls) (-1) = false := by
  unfold isB
  have hm0 := hk.m0
  split
  · exact decide_eq_false (by omega)
  · rename_i h0
    rw [List.any_eq_false]
    intro o ho h
    have h := of_decide_eq_true h
    obtain ⟨h1, h2, h3⟩ := orders_mem.1 ho
    have hm := h2.mem (o[o.length - 1]!) (by rw [getElem!_pos o _ (by omega)]; exact List.getElem_mem _)
    have hb := linkE_bd (linksE_all hk.e (ls[(o[o.length - 1]!).toNat]!) (by rw [getElem!_pos ls _ (by omega)]; exact List.getElem_mem _))
    omega
theorem last_len {mk lo hi : Int} {ls : List Lk} (hk : ChOk mk lo hi ls) : (hoL mk lo hi ls 100000).length = cntB mk ls (ordersL mk lo ls) 20 := by
  unfold hoL cntB
  rw [show (List.range 21).map (fun (i : Nat) => (i : Int) - 1) = (-1) :: (List.range 20).map (fun (i : Nat) => (i : Int)) from by decide]
  have hp : ∀ x, decide (x ∈ keysF mk lo hi ls 100000 (ordersL mk lo ls)) = isB mk ls (ordersL mk lo ls) x := fun x => by
    cases hb : isB mk ls (ordersL mk lo ls) x with
    | true => exact decide_eq_true ((keys_last hk).2 hb)
    | false =>
      refine decide_eq_false fun h1 => ?_
      rw [(keys_last hk).1 h1] at hb
      cases hb
  simp only [hp]
  rw [List.filter_cons, last_none hk]
  simp only [Bool.false_eq_true, if_false]
  rw [List.filter_map, List.length_map]
  rfl
theorem hoL_some {mk lo hi d : Int} {ls : List Lk} (hc : chkC mk lo hi ls = 0) : hoL mk lo hi ls d ≠ [] := by
  intro h
  have h1 := (keys_len (d := d) hc).1
  obtain ⟨x, hx⟩ := List.exists_mem_of_ne_nil (keysF mk lo hi ls d (ordersL mk lo ls)) (fun h => by rw [h] at h1; simp at h1)
  have := (hoL_mem (mk := mk) (lo := lo) (hi := hi) (ls := ls) (d := d)).2 ⟨(keys_bd hc hx).2, hx⟩
  rw [h] at this
  cases this
theorem one_list {l : List Int} {o : Int} : (o ∈ l ∧ l.length = 1) ↔ l = [o] := by
  constructor
  · rintro ⟨h1, h2⟩
    obtain ⟨x, rfl⟩ := List.length_eq_one_iff.1 h2
    simp at h1
    rw [h1]
  · rintro rfl; simp
end Go.Proofs.Ytijimplcjaeneaa
