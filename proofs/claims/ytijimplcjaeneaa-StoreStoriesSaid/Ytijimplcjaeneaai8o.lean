
/- Days that are known better: the pure part. -/
import Derived.Test.Ytijimplcjaeneaai3o
import Derived.Test.Ytijimplcjaeneaai7o
set_option linter.unusedVariables false
set_option linter.unusedSimpArgs false
namespace Go.Proofs.Ytijimplcjaeneaa
open Go.AI
/-- The same links, with narrower days. -/
structure Nar (ls ms : List Lk) : Prop where
  n : ms.length = ls.length
  l : ∀ i, i < ls.length → ms[i]!.f = ls[i]!.f ∧ ms[i]!.t = ls[i]!.t ∧ ls[i]!.lo ≤ ms[i]!.lo ∧ ms[i]!.lo ≤ ms[i]!.hi ∧ ms[i]!.hi ≤ ls[i]!.hi
theorem nar_chain {ls ms : List Lk} (h : Nar ls ms) : ∀ {t : List Int} {o d d' : Int}, d ≤ d' → ChainO ms o d' t → ChainO ls o d t
  | [], _, _, _, _, _ => trivial
  | k :: t, o, d, d', hd, ⟨h1, h2, h3, h4⟩ => by
    have hk : k.toNat < ls.length := by have := h.n; omega
    obtain ⟨a1, a2, a3, a4, a5⟩ := h.l k.toNat hk
    unfold soon at h3
    refine ⟨by have := h.n; omega, by rw [← a1]; exact h2, by unfold soon; omega, ?_⟩
    rw [← a2]
    exact nar_chain h (by unfold soon; omega) h4
theorem nar_orders {ls ms : List Lk} (h : Nar ls ms) {mk lo lo' : Int} (hl : lo ≤ lo') {o : List Int} (ho : o ∈ ordersL mk lo' ms) : o ∈ ordersL mk lo ls := by
  obtain ⟨h1, h2, h3⟩ := orders_mem.1 ho
  exact orders_mem.2 ⟨by rw [h1, h.n], nar_chain h hl h2, h3⟩
def NarE : List Ev → List Ev → Prop
  | [], [] => True
  | e :: t, f :: s => (f.k = e.k ∧ f.o = e.o ∧ e.lo ≤ f.lo ∧ f.hi ≤ e.hi) ∧ NarE t s
  | _, _ => False
theorem nar_up {ls ms : List Lk} (h : Nar ls ms) : ∀ {o : List Int} {p p' : Int}, (∀ k ∈ o, 0 ≤ k ∧ k < ls.length) → p ≤ p' → NarE (upL ls p o) (upL ms p' o)
  | [], _, _, _, _ => trivial
  | k :: t, p, p', ho, hp => by
    have hk := ho k (by simp)
    obtain ⟨a1, a2, a3, a4, a5⟩ := h.l k.toNat (by omega)
    refine ⟨⟨rfl, a2, ?_, a5⟩, nar_up h (fun x hx => ho x (by simp [hx])) (by omega)⟩
    show max ls[k.toNat]!.lo (p + 1) ≤ max ms[k.toNat]!.lo (p' + 1)
    omega
theorem nar_down : ∀ {E F : List Ev}, NarE E F → NarE (downL E) (downL F)
  | [], [], _ => trivial
  | e :: t, f :: s, ⟨h, h'⟩ => by
    have ih := nar_down h'
    unfold downL
    cases hd : downL t with
    | nil =>
      rw [hd] at ih
      cases hs : downL s with
      | nil => exact ⟨h, trivial⟩
      | cons x r => rw [hs] at ih; exact ih.elim
    | cons y q =>
      rw [hd] at ih
      cases hs : downL s with
      | nil => rw [hs] at ih; exact ih.elim
      | cons x r =>
        rw [hs] at ih
        have h1 := ih.1
        exact ⟨⟨h.1, h.2.1, h.2.2.1, by show min f.hi (x.hi - 1) ≤ min e.hi (y.hi - 1); omega⟩, ih⟩
  | [], _ :: _, h => h.elim
  | _ :: _, [], h => h.elim
theorem nar_evs {ls ms : List Lk} (h : Nar ls ms) {mk lo hi lo' hi' : Int} (hl : lo ≤ lo') (hh : hi' ≤ hi) {o : List Int} (ho : ∀ k ∈ o, 0 ≤ k ∧ k < ls.length) : NarE (evsL mk lo hi ls o) (evsL mk lo' hi' ms o) :=
  nar_down ⟨⟨rfl, rfl, hl, hh⟩, nar_up h ho hl⟩
theorem addK_sub {ks ks' : List Int} {h x : Int} (hs : ∀ y ∈ ks', y ∈ ks) (hx : x ∈ addK ks' h) : x ∈ addK ks h := by
  rw [addK_mem] at hx ⊢
  rcases hx with hx | hx
  · exact .inl (hs x hx)
  · exact .inr hx
theorem nar_gath {d x : Int} : ∀ {E F : List Ev} {ks ks' : List Int} {h : Int}, NarE E F → (∀ y ∈ ks', y ∈ ks) → x ∈ gathK d ks' h F → x ∈ gathK d ks h E
  | [], [], _, _, _, _, hs, hx => addK_sub hs hx
  | e :: t, f :: s, ks, ks', h, ⟨⟨h1, h2, h3, h4⟩, h'⟩, hs, hx => by
    unfold gathK at hx ⊢
    have hsub : ∀ y ∈ (if d < f.hi then addK ks' h else ks'), y ∈ (if d < e.hi then addK ks h else ks) := fun y hy => by
      by_cases c : d < f.hi
      · rw [if_pos c] at hy
        rw [if_pos (by omega)]
        exact addK_sub hs hy
      · rw [if_neg c] at hy
        split
        · exact addK_mem.2 (.inl (hs y hy))
        · exact hs y hy
    by_cases c1 : d < f.lo
    · rw [if_pos c1] at hx
      have := hsub x hx
      by_cases c2 : d < e.lo
      · rw [if_pos c2]; exact this
      · rw [if_neg c2]; exact gathK_mem.2 (.inl this)
    · rw [if_neg c1] at hx
      rw [if_neg (by omega)]
      rw [h2] at hx
      exact nar_gath h' hsub hx
  | [], _ :: _, _, _, _, h, _, _ => h.elim
  | _ :: _, [], _, _, _, h, _, _ => h.elim
theorem nar_holders {ls ms : List Lk} (h : Nar ls ms) {mk lo hi lo' hi' d x : Int} (hl : lo ≤ lo') (hh : hi' ≤ hi) (hx : x ∈ hoL mk lo' hi' ms d) : x ∈ hoL mk lo hi ls d := by
  rw [hoL_mem] at hx ⊢
  refine ⟨hx.1, ?_⟩
  obtain ⟨o, ho, h1⟩ := keysF_mem.1 hx.2
  have ho' := nar_orders h hl ho
  exact keysF_mem.2 ⟨o, ho', nar_gath (nar_evs h hl hh (orders_mem.1 ho').2.1.mem) (fun _ hy => hy) h1⟩
/-- As much is known, or less. -/
structure Wide (s t : DSt) : Prop where
  a : s.1.1 ≤ t.1.1
  b : t.1.2 ≤ s.1.2
  n : t.2.length = s.2.length
  l : ∀ j, j < s.2.length → s.2[j]!.1 ≤ t.2[j]!.1 ∧ t.2[j]!.2 ≤ s.2[j]!.2
theorem Wide.refl (s : DSt) : Wide s s := ⟨Int.le_refl _, Int.le_refl _, rfl, fun _ _ => ⟨Int.le_refl _, Int.le_refl _⟩⟩
theorem Wide.trans {s t u : DSt} (h : Wide s t) (k : Wide t u) : Wide s u :=
  ⟨Int.le_trans h.a k.a, Int.le_trans k.b h.b, by rw [k.n, h.n], fun j hj => ⟨Int.le_trans (h.l j hj).1 (k.l j (by rw [h.n]; exact hj)).1, Int.le_trans (k.l j (by rw [h.n]; exact hj)).2 (h.l j hj).2⟩⟩
def HasE (s : DSt) (e : Ev) : Prop := if e.k = -1 then s.1.1 ≤ e.lo ∧ e.hi ≤ s.1.2 else e.k.toNat < s.2.length ∧ s.2[e.k.toNat]!.1 ≤ e.lo ∧ e.hi ≤ s.2[e.k.toNat]!.2
theorem set_at {l : List (Int × Int)} {i j : Nat} {x : Int × Int} (hj : j < l.length) : (l.set i x)[j]! = if i = j then x else l[j]! := by
  rw [getElem!_pos _ j (by rw [List.length_set]; exact hj), List.getElem_set, getElem!_pos l j hj]
theorem putE_wide {s : DSt} {e : Ev} : Wide (putE s e) s := by
  unfold putE
  split
  · exact ⟨by show min s.1.1 e.lo ≤ s.1.1; omega, by show s.1.2 ≤ max s.1.2 e.hi; omega, rfl, fun _ _ => ⟨Int.le_refl _, Int.le_refl _⟩⟩
  · refine ⟨Int.le_refl _, Int.le_refl _, by simp, fun j hj => ?_⟩
    have hj' : j < s.2.length := by simpa using hj
    show (s.2.set _ _)[j]!.1 ≤ _ ∧ _ ≤ (s.2.set _ _)[j]!.2
    rw [set_at hj']
    split
    · rename_i hij
      subst hij
      dsimp only
      omega
    · exact ⟨Int.le_refl _, Int.le_refl _⟩
theorem putE_has {s : DSt} {e : Ev} (hk : e.k = -1 ∨ (0 ≤ e.k ∧ e.k < s.2.length)) : HasE (putE s e) e := by
  unfold HasE putE
  by_cases h : e.k = -1
  · rw [if_pos h, if_pos h]
    dsimp only
    omega
  · rw [if_neg h, if_neg h]
    dsimp only
    have hk' : e.k.toNat < s.2.length := by omega
    refine ⟨by rw [List.length_set]; exact hk', ?_⟩
    rw [set_at hk', if_pos rfl]
    dsimp only
    omega
theorem Wide.has {s t : DSt} {e : Ev} (h : Wide s t) (k : HasE t e) : HasE s e := by
  unfold HasE at k ⊢
  split
  · rename_i c
    rw [if_pos c] at k
    exact ⟨Int.le_trans h.a k.1, Int.le_trans k.2 h.b⟩
  · rename_i c
    rw [if_neg c] at k
    have := h.l e.k.toNat (by have := h.n; omega)
    exact ⟨by have := h.n; omega, by omega, by omega⟩
theorem puts_wide : ∀ {E : List Ev} {s : DSt}, Wide (E.foldl putE s) s
  | [], s => Wide.refl s
  | e :: t, s => (puts_wide (E := t)).trans putE_wide
theorem puts_has : ∀ {E : List Ev} {s : DSt}, (∀ e ∈ E, e.k = -1 ∨ (0 ≤ e.k ∧ e.k < s.2.length)) → ∀ e ∈ E, HasE (E.foldl putE s) e
  | x :: t, s, hk, e, he => by
    rw [List.foldl_cons]
    rcases List.mem_cons.1 he with rfl | he
    · exact (puts_wide (E := t)).has (putE_has (hk _ (by simp)))
    · exact puts_has (fun y hy => by rw [putE_len]; exact hk y (by simp [hy])) e he
theorem days_wide {mk lo hi : Int} {ls : List Lk} : ∀ {S : List (List Int)} {s : DSt}, Wide (S.foldl (dayO mk lo hi ls) s) s
  | [], s => Wide.refl s
  | o :: t, s => (days_wide (S := t)).trans puts_wide
theorem days_has {mk lo hi : Int} {ls : List Lk} : ∀ {S : List (List Int)} {s : DSt}, (∀ o ∈ S, ∀ k ∈ o, 0 ≤ k ∧ k < ls.length) → s.2.length = ls.length → ∀ o ∈ S, ∀ e ∈ evsL mk lo hi ls o, HasE (S.foldl (dayO mk lo hi ls) s) e
  | p :: t, s, hk, hs, o, ho, e, he => by
    rw [List.foldl_cons]
    rcases List.mem_cons.1 ho with rfl | ho
    · exact (days_wide (S := t)).has (puts_has (fun y hy => by rw [hs]; exact evs_kin (hk o (by simp)) y hy) e he)
    · exact days_has (fun q hq => hk q (by simp [hq])) (by unfold dayO; rw [puts_len, hs]) o ho e he
/-- What is put into a narrower state keeps it within a wider one that has all of it. -/
theorem wide_put {F s : DSt} {e f : Ev} (h : Wide F s) (he : HasE F e) (h1 : f.k = e.k) (h2 : e.lo ≤ f.lo) (h3 : f.hi ≤ e.hi) : Wide F (putE s f) := by
  unfold HasE at he
  unfold putE
  rw [h1]
  by_cases c : e.k = -1
  · rw [if_pos c] at he ⊢
    exact ⟨by have := h.a; show _ ≤ min s.1.1 f.lo; omega, by have := h.b; show max s.1.2 f.hi ≤ _; omega, h.n, h.l⟩
  · rw [if_neg c] at he ⊢
    refine ⟨h.a, h.b, by simp [h.n], fun j hj => ?_⟩
    have hj' : j < s.2.length := by rw [h.n]; exact hj
    have hl := h.l j hj
    show _ ≤ (s.2.set _ _)[j]!.1 ∧ (s.2.set _ _)[j]!.2 ≤ _
    rw [set_at hj']
    split
    · rename_i hij
      rw [hij] at he ⊢
      dsimp only
      omega
    · exact hl
theorem wide_puts {F : DSt} : ∀ {E G : List Ev} {s : DSt}, NarE E G → (∀ e ∈ E, HasE F e) → Wide F s → Wide F (G.foldl putE s)
  | [], [], s, _, _, h => h
  | e :: t, f :: r, s, ⟨⟨a, _, b, c⟩, h'⟩, hF, h => by
    rw [List.foldl_cons]
    exact wide_puts h' (fun x hx => hF x (by simp [hx])) (wide_put h (hF e (by simp)) a b c)
  | [], _ :: _, _, h, _, _ => h.elim
  | _ :: _, [], _, h, _, _ => h.elim
theorem nar_days {ls ms : List Lk} (h : Nar ls ms) {mk lo hi lo' hi' : Int} (hl : lo ≤ lo') (hh : hi' ≤ hi) : Wide (dayF mk lo hi ls (ordersL mk lo ls)) (dayF mk lo' hi' ms (ordersL mk lo' ms)) := by
  have hin : ∀ o ∈ ordersL mk lo ls, ∀ k ∈ o, 0 ≤ k ∧ k < ls.length := fun o ho => (orders_mem.1 ho).2.1.mem
  have key : ∀ (S : List (List Int)) (s : DSt), (∀ o ∈ S, o ∈ ordersL mk lo ls) → Wide (dayF mk lo hi ls (ordersL mk lo ls)) s → Wide (dayF mk lo hi ls (ordersL mk lo ls)) (S.foldl (dayO mk lo' hi' ms) s) := by
    intro S
    induction S with
    | nil => intro s _ h; exact h
    | cons o t ih =>
      intro s hS hs
      rw [List.foldl_cons]
      have ho := hS o (by simp)
      exact ih _ (fun x hx => hS x (by simp [hx])) (wide_puts (nar_evs h hl hh (hin o ho)) (fun e he => days_has (s := ((100000, 0), List.replicate ls.length (100000, 0))) hin (by simp) o ho e he) hs)
  unfold dayF at key ⊢
  refine key _ _ (fun o ho => nar_orders h hl ho) ?_
  rw [h.n]
  exact days_wide
/-- What is wrong with narrower days: at most that there is no story. -/
theorem nar_chk {ls ms : List Lk} (h : Nar ls ms) {mk lo hi lo' hi' : Int} (hc : chkC mk lo hi ls = 0) (hl : lo ≤ lo') (hm : lo' ≤ hi') (hh : hi' ≤ hi) : chkC mk lo' hi' ms = 0 ∨ chkC mk lo' hi' ms = 12 := by
  have hk := chOk_of hc
  obtain ⟨m0, m1, l0, l1, h1, ok, he, hs⟩ := hk
  have hsp : spanE lo' hi' 0 100000 = 0 := by
    simp only [spanE, inB, decide_eq_true (show 0 ≤ lo' by omega), decide_eq_true (show lo' ≤ 100000 by omega), decide_eq_true (show 0 ≤ hi' by omega), decide_eq_true (show hi' ≤ 100000 by omega), Bool.and_self, cond_true]
    rw [if_neg (by omega)]
  have hle : ∀ {l : List Lk}, (∀ x ∈ l, linkE x = 0) → linksE l = 0 := by
    intro l
    induction l with
    | nil => intro _; rfl
    | cons a t ih =>
      intro hx
      unfold linksE
      rw [if_pos (hx a (by simp))]
      exact ih fun x hx' => hx x (by simp [hx'])
  have hlk : linksE ms = 0 := by
    refine hle fun x hx => ?_
    obtain ⟨i, hi, rfl⟩ := List.getElem_of_mem hx
    have hi' : i < ls.length := by rw [← h.n]; exact hi
    obtain ⟨a1, a2, a3, a4, a5⟩ := h.l i hi'
    have hb := linkE_bd (linksE_all he ls[i]! (by rw [getElem!_pos ls i hi']; exact List.getElem_mem _))
    rw [← getElem!_pos ms i hi]
    obtain ⟨b1, b2, b3, b4, b5, b6⟩ := hb
    simp only [linkE, spanE, inB, a1, a2, decide_eq_true b1.1, decide_eq_true b1.2, decide_eq_true b2.1, decide_eq_true b2.2, decide_eq_true (show 0 ≤ ms[i]!.lo by omega), decide_eq_true (show ms[i]!.lo ≤ 100000 by omega), decide_eq_true (show 0 ≤ ms[i]!.hi by omega), decide_eq_true (show ms[i]!.hi ≤ 100000 by omega), Bool.and_self, cond_true]
    rw [if_neg b3, if_neg (by omega)]
  have hn7 := ok.n
  unfold chkC
  rw [if_pos hsp, if_neg (by rw [h.n]; omega), if_pos hlk]
  simp only [inB, decide_eq_true m0, decide_eq_true m1, Bool.and_self, cond_true]
  cases (ordersL mk lo' ms).isEmpty
  · exact .inl rfl
  · exact .inr rfl
end Go.Proofs.Ytijimplcjaeneaa
