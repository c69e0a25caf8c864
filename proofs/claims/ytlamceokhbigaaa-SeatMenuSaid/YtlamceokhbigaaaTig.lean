
/- Parties that are turned. -/
import Derived.Test.YtlamceokhbigaaaTdg
set_option linter.unusedVariables false
set_option linter.unusedSimpArgs false
namespace Go.Proofs.Ytlamceokhbigaaa
open Go.AI
/-- All of so many numbers, each once. -/
structure Full (n : Nat) (o : List Int) : Prop where
  nd : o.Nodup
  r : ∀ x ∈ o, 0 ≤ x ∧ x < n
  l : o.length = n
theorem Full.pre {n : Nat} {o : List Int} (h : Full n o) : Pre n o := ⟨h.nd, h.r, by have := h.l; omega⟩
theorem Full.all {n : Nat} {o : List Int} (h : Full n o) {x : Nat} (hx : x < n) : (x : Int) ∈ o := by
  by_cases hm : (x : Int) ∈ o
  · exact hm
  · exfalso
    have h1 : ((x : Int) :: o).Nodup := List.nodup_cons.2 ⟨hm, h.nd⟩
    have h2 : ((x : Int) :: o) ⊆ (List.range n).map (fun (k : Nat) => (k : Int)) := by
      intro y hy
      rw [List.mem_map]
      rcases List.mem_cons.1 hy with e | e
      · exact ⟨x, List.mem_range.2 hx, e.symm⟩
      · have := h.r y e
        exact ⟨y.toNat, List.mem_range.2 (by omega), by omega⟩
    have := h1.length_le_of_subset h2
    rw [List.length_cons, List.length_map, List.length_range, h.l] at this
    omega
theorem nodup_rev {o : List Int} : o.reverse.Nodup ↔ o.Nodup := (List.reverse_perm o).nodup_iff
theorem Full.rev {n : Nat} {o : List Int} (h : Full n o) : Full n o.reverse :=
  ⟨nodup_rev.2 h.nd, fun x hx => h.r x (List.mem_reverse.1 hx), by rw [List.length_reverse, h.l]⟩
theorem fillL_mem {n : Nat} : ∀ {r : Nat} {pre o : List Int}, pre.length + r = n → Full n o → pre <+: o → o ∈ fillL n r pre
  | 0, pre, o, hl, ho, hpre => by
    have : pre = o := hpre.eq_of_length (by rw [ho.l]; omega)
    simp [fillL, this]
  | r + 1, pre, o, hl, ho, hpre => by
    obtain ⟨t, rfl⟩ := hpre
    cases t with
    | nil => have := ho.l; simp at this; omega
    | cons y t =>
      have hy := ho.r y (by simp)
      simp only [fillL, List.mem_flatMap]
      refine ⟨y.toNat, List.mem_range.2 (by omega), ?_⟩
      have hy' : ((y.toNat : Nat) : Int) = y := by omega
      rw [hy']
      have hn : y ∉ pre := fun hm => (List.nodup_append.1 ho.nd).2.2 y hm y (by simp) rfl
      rw [if_neg hn]
      exact fillL_mem (by rw [List.length_append, List.length_singleton]; omega) ho ⟨t, by simp⟩
theorem fillL_pfx {n : Nat} : ∀ {r : Nat} {pre o : List Int}, o ∈ fillL n r pre → pre <+: o
  | 0, pre, o, ho => by
    simp only [fillL, List.mem_singleton] at ho
    subst ho
    exact List.prefix_refl _
  | r + 1, pre, o, ho => by
    simp only [fillL, List.mem_flatMap] at ho
    obtain ⟨x, hx, ho⟩ := ho
    split at ho
    · cases ho
    · exact (List.prefix_append _ _).trans (fillL_pfx ho)
theorem fillL_nodup {n : Nat} : ∀ {r : Nat} {pre : List Int}, (fillL n r pre).Nodup
  | 0, pre => by simp [fillL]
  | r + 1, pre => by
    unfold fillL List.Nodup
    rw [List.pairwise_flatMap]
    refine ⟨fun x _ => ?_, List.Pairwise.imp ?_ (List.nodup_range (n := n))⟩
    · split
      · exact List.Pairwise.nil
      · exact fillL_nodup
    · intro a b hab x hx y hy
      split at hx
      · cases hx
      · split at hy
        · cases hy
        · intro e
          subst e
          have h1 := fillL_pfx hx
          have h2 := fillL_pfx hy
          have h3 := (List.prefix_of_prefix_length_le h1 h2 (by simp)).eq_of_length (by simp)
          have h4 := List.append_cancel_left h3
          simp at h4
          exact hab (by omega)
theorem mem_orders {n : Nat} {o : List Int} : o ∈ fillL n n [] ↔ Full n o := by
  constructor
  · intro h
    have := fillL_pre Pre.nil (by simp) h
    exact ⟨this.1.nd, this.1.r, this.2⟩
  · exact fun h => fillL_mem (by simp) h (List.nil_prefix)
theorem mem_okL {gs : List Gu} {rs : List Ru} {o : List Int} : o ∈ okL gs rs ↔ Full gs.length o ∧ okB gs rs o = true := by
  unfold okL
  rw [List.mem_filter, mem_orders]
theorem okL_nodup {gs : List Gu} {rs : List Ru} : (okL gs rs).Nodup := List.Pairwise.sublist List.filter_sublist fillL_nodup
/-- The guests and the rules, turned. -/
def turnG (g : Gu) : Gu := { g with ra := 9 - g.ra }
def turnR (r : Ru) : Ru := if r.kd = 1 then { r with a := r.b, b := r.a } else if r.kd = 4 then { r with kd := 5 } else if r.kd = 5 then { r with kd := 4 } else r
theorem map_at {α β : Type} [Inhabited α] [Inhabited β] {f : α → β} {l : List α} {i : Nat} (h : i < l.length) : (l.map f)[i]! = f l[i]! := by
  rw [getElem!_pos (l.map f) i (by rw [List.length_map]; exact h), getElem!_pos l i h, List.getElem_map]
theorem turnR_wt {r : Ru} : (turnR r).wt = r.wt := by
  unfold turnR
  split
  · rfl
  · split
    · rfl
    · split <;> rfl
theorem seatL_rev {n : Nat} {o : List Int} (h : Full n o) (h7 : n ≤ 7) {x : Nat} (hx : x < n) : (seatL o.reverse)[x]! = (n : Int) - 1 - (seatL o)[x]! ∧ 0 ≤ (seatL o)[x]! ∧ (seatL o)[x]! < n := by
  have hm := h.all hx
  rw [seatL_at (by omega), seatL_at (by omega), if_pos hm, if_pos (List.mem_reverse.2 hm)]
  have hi := List.idxOf_lt_length_iff.2 hm
  have hl := h.l
  have hg : o[o.idxOf (x : Int)] = (x : Int) := List.getElem_idxOf hi
  generalize o.idxOf (x : Int) = i at hi hg
  have hj : n - 1 - i < o.reverse.length := by rw [List.length_reverse]; omega
  have h2 : o.reverse[n - 1 - i] = (x : Int) := by
    rw [List.getElem_reverse]
    have he : o.length - 1 - (n - 1 - i) = i := by omega
    simp only [he]
    exact hg
  have h3 := List.Nodup.idxOf_getElem h.rev.nd (n - 1 - i) hj
  rw [h2] at h3
  rw [h3]
  omega
theorem rankL_rev {gs : List Gu} {o : List Int} (h : Full gs.length o) (h7 : gs.length ≤ 7) {j : Nat} (hj : j < gs.length) : (rankL (gs.map turnG) o.reverse)[j]! = 9 - (rankL gs o)[gs.length - 1 - j]! := by
  have hl := h.l
  rw [rankL_at (by omega), rankL_at (by omega), if_pos (by rw [List.length_reverse]; omega), if_pos (by omega)]
  rw [getElem!_pos o.reverse j (by rw [List.length_reverse]; omega), List.getElem_reverse]
  have he : o.length - 1 - j = gs.length - 1 - j := by omega
  simp only [he]
  have hk : gs.length - 1 - j < o.length := by omega
  rw [getElem!_pos o (gs.length - 1 - j) hk]
  have := h.r _ (List.getElem_mem hk)
  rw [map_at (by omega)]
  rfl
theorem downR_rev {gs : List Gu} {o : List Int} (h : Full gs.length o) (h7 : gs.length ≤ 7) : downR (rankL (gs.map turnG) o.reverse) gs.length = downR (rankL gs o) gs.length := by
  unfold downR
  rw [Bool.eq_iff_iff, List.all_eq_true, List.all_eq_true]
  constructor
  · intro hh j hj
    have hj' := List.mem_range.1 hj
    have h1 := of_decide_eq_true (hh (gs.length - 2 - j) (List.mem_range.2 (by omega)))
    rw [rankL_rev h h7 (by omega), rankL_rev h h7 (by omega)] at h1
    have e1 : gs.length - 1 - (gs.length - 2 - j + 1) = j := by omega
    have e2 : gs.length - 1 - (gs.length - 2 - j) = j + 1 := by omega
    rw [e1, e2] at h1
    exact decide_eq_true (by omega)
  · intro hh j hj
    have hj' := List.mem_range.1 hj
    have h1 := of_decide_eq_true (hh (gs.length - 2 - j) (List.mem_range.2 (by omega)))
    apply decide_eq_true
    rw [rankL_rev h h7 (by omega), rankL_rev h h7 (by omega)]
    have e1 : gs.length - 1 - (j + 1) = gs.length - 2 - j := by omega
    have e2 : gs.length - 1 - j = gs.length - 2 - j + 1 := by omega
    rw [e1, e2]
    omega
theorem keep_turn {gs : List Gu} {o : List Int} {r : Ru} (h : Full gs.length o) (h7 : gs.length ≤ 7) (hr : RuOk gs.length r) : keepN gs.length (seatL o.reverse) (rankL (gs.map turnG) o.reverse) (turnR r) = keepN gs.length (seatL o) (rankL gs o) r := by
  have k1 := hr.k1
  have k6 := hr.k6
  by_cases c1 : r.kd = 1
  · have ha := hr.a (by omega)
    have hb := hr.b (by omega)
    have sa := seatL_rev h h7 (show r.a.toNat < gs.length by omega)
    have sb := seatL_rev h h7 (show r.b.toNat < gs.length by omega)
    have e : turnR r = { r with a := r.b, b := r.a } := by unfold turnR; rw [if_pos c1]
    rw [e]
    unfold keepN
    rw [if_pos c1, if_pos c1]
    show decide ((seatL o.reverse)[r.b.toNat]! < (seatL o.reverse)[r.a.toNat]!) = _
    rw [sa.1, sb.1]
    exact decide_eq_decide.2 (by omega)
  by_cases c4 : r.kd = 4
  · have ha := hr.a (by omega)
    have sa := seatL_rev h h7 (show r.a.toNat < gs.length by omega)
    have e : turnR r = { r with kd := 5 } := by unfold turnR; rw [if_neg c1, if_pos c4]
    have e1 : keepN gs.length (seatL o.reverse) (rankL (gs.map turnG) o.reverse) { r with kd := 5 } = decide ((seatL o.reverse)[r.a.toNat]! = (gs.length : Int) - 1) := by simp [keepN]
    have e2 : keepN gs.length (seatL o) (rankL gs o) r = decide ((seatL o)[r.a.toNat]! = 0) := by
      unfold keepN
      rw [if_neg c1, if_neg (show ¬ r.kd = 2 by omega), if_neg (show ¬ r.kd = 3 by omega), if_pos c4]
    rw [e, e1, e2, sa.1]
    exact decide_eq_decide.2 (by omega)
  by_cases c5 : r.kd = 5
  · have ha := hr.a (by omega)
    have sa := seatL_rev h h7 (show r.a.toNat < gs.length by omega)
    have e : turnR r = { r with kd := 4 } := by unfold turnR; rw [if_neg c1, if_neg c4, if_pos c5]
    have e1 : keepN gs.length (seatL o.reverse) (rankL (gs.map turnG) o.reverse) { r with kd := 4 } = decide ((seatL o.reverse)[r.a.toNat]! = 0) := by simp [keepN]
    have e2 : keepN gs.length (seatL o) (rankL gs o) r = decide ((seatL o)[r.a.toNat]! = (gs.length : Int) - 1) := by
      unfold keepN
      rw [if_neg c1, if_neg (show ¬ r.kd = 2 by omega), if_neg (show ¬ r.kd = 3 by omega), if_neg c4, if_pos c5]
    rw [e, e1, e2, sa.1]
    exact decide_eq_decide.2 (by omega)
  have e : turnR r = r := by unfold turnR; rw [if_neg c1, if_neg c4, if_neg c5]
  rw [e]
  unfold keepN
  rw [if_neg c1, if_neg c4, if_neg c5, if_neg c1, if_neg c4, if_neg c5, downR_rev h h7]
  by_cases c2 : r.kd = 2
  · have ha := hr.a (by omega)
    have hb := hr.b (by omega)
    have sa := seatL_rev h h7 (show r.a.toNat < gs.length by omega)
    have sb := seatL_rev h h7 (show r.b.toNat < gs.length by omega)
    rw [if_pos c2, if_pos c2, sa.1, sb.1]
    exact decide_eq_decide.2 (by omega)
  by_cases c3 : r.kd = 3
  · have ha := hr.a (by omega)
    have hb := hr.b (by omega)
    have sa := seatL_rev h h7 (show r.a.toNat < gs.length by omega)
    have sb := seatL_rev h h7 (show r.b.toNat < gs.length by omega)
    rw [if_neg c2, if_neg c2, if_pos c3, if_pos c3, sa.1, sb.1]
    exact congrArg (!·) (decide_eq_decide.2 (by omega))
  rw [if_neg c2, if_neg c2, if_neg c3, if_neg c3]
theorem brkN_turn {gs : List Gu} {rs : List Ru} {o : List Int} (h : Full gs.length o) (h7 : gs.length ≤ 7) (hr : ∀ i, i < rs.length → RuOk gs.length rs[i]!) : ∀ i, i ≤ rs.length → brkN gs.length (seatL o.reverse) (rankL (gs.map turnG) o.reverse) (rs.map turnR) i = brkN gs.length (seatL o) (rankL gs o) rs i
  | 0, _ => rfl
  | i + 1, hi => by
    simp only [brkN, brkN_turn h h7 hr i (by omega), map_at (f := turnR) (show i < rs.length by omega), keep_turn h h7 (hr i (by omega))]
theorem brkO_turn {gs : List Gu} {rs : List Ru} {o : List Int} (h : Full gs.length o) (hp : PaOk gs rs) : brkO (gs.map turnG) (rs.map turnR) o.reverse = brkO gs rs o := by
  unfold brkO
  rw [List.length_map, List.length_map]
  exact brkN_turn h hp.n7 hp.rk _ (Nat.le_refl _)
theorem strN_turn {rs : List Ru} : ∀ i, i ≤ rs.length → strN (rs.map turnR) i = strN rs i
  | 0, _ => rfl
  | i + 1, hi => by
    simp only [strN, strN_turn (rs := rs) i (by omega), map_at (f := turnR) (show i < rs.length by omega), turnR_wt]
theorem wtsN_turn {N : Nat} {rs : List Ru} : ∀ i, i ≤ rs.length → wtsN N (rs.map turnR) i = wtsN N rs i
  | 0, _ => rfl
  | i + 1, hi => by
    simp only [wtsN, wtsN_turn (N := N) (rs := rs) i (by omega), map_at (f := turnR) (show i < rs.length by omega), turnR_wt]
theorem okB_turn {gs : List Gu} {rs : List Ru} {o : List Int} (h : Full gs.length o) (hp : PaOk gs rs) : okB (gs.map turnG) (rs.map turnR) o.reverse = okB gs rs o := by
  unfold okB
  rw [brkO_turn h hp, List.length_map, strN_turn _ (Nat.le_refl _)]
theorem prO_turn {gs : List Gu} {rs : List Ru} {o : List Int} (h : Full gs.length o) (hp : PaOk gs rs) : prO (gs.map turnG) (rs.map turnR) o.reverse = prO gs rs o := by
  unfold prO priceN
  rw [brkO_turn h hp, List.length_map, wtsN_turn _ (Nat.le_refl _)]
theorem okL_turn {gs : List Gu} {rs : List Ru} (hp : PaOk gs rs) : (okL (gs.map turnG) (rs.map turnR)).Perm ((okL gs rs).map List.reverse) := by
  refine (List.perm_ext_iff_of_nodup okL_nodup ?_).2 fun o => ?_
  · unfold List.Nodup
    rw [List.pairwise_map]
    exact List.Pairwise.imp (fun hab e => hab (List.reverse_inj.1 e)) okL_nodup
  · rw [mem_okL, List.mem_map, List.length_map]
    constructor
    · rintro ⟨h1, h2⟩
      refine ⟨o.reverse, mem_okL.2 ⟨h1.rev, ?_⟩, List.reverse_reverse o⟩
      rw [← okB_turn h1.rev hp, List.reverse_reverse]
      exact h2
    · rintro ⟨q, hq, rfl⟩
      obtain ⟨h1, h2⟩ := mem_okL.1 hq
      exact ⟨h1.rev, (okB_turn h1 hp).trans h2⟩
theorem okL_turn_len {gs : List Gu} {rs : List Ru} (hp : PaOk gs rs) : (okL (gs.map turnG) (rs.map turnR)).length = (okL gs rs).length := by
  rw [(okL_turn hp).length_eq, List.length_map]
/-- What the best one is. -/
theorem bestF_some {gs : List Gu} {rs : List Ru} : ∀ {F : List (List Int)} {b : List Int} {p : Int}, p = prO gs rs b → ∃ b' p', F.foldl (bstep gs rs) (some (b, p)) = some (b', p') ∧ p' = prO gs rs b' ∧ (b' = b ∨ b' ∈ F) ∧ p' ≤ p ∧ ∀ o ∈ F, p' ≤ prO gs rs o
  | [], b, p, hp => ⟨b, p, rfl, hp, .inl rfl, by omega, by simp⟩
  | o :: F, b, p, hp => by
    rw [List.foldl_cons]
    by_cases c : prO gs rs o < p
    · obtain ⟨b', p', e, h1, h2, h3, h4⟩ := bestF_some (gs := gs) (rs := rs) (F := F) (b := o) (p := prO gs rs o) rfl
      refine ⟨b', p', by rw [show bstep gs rs (some (b, p)) o = some (o, prO gs rs o) by simp only [bstep]; rw [if_pos c]]; exact e, h1, ?_, by omega, fun q hq => ?_⟩
      · rcases h2 with h2 | h2
        · exact .inr (by rw [h2]; simp)
        · exact .inr (List.mem_cons_of_mem _ h2)
      · rcases List.mem_cons.1 hq with e2 | e2
        · rw [e2]; exact h3
        · exact h4 q e2
    · obtain ⟨b', p', e, h1, h2, h3, h4⟩ := bestF_some (gs := gs) (rs := rs) (F := F) (b := b) (p := p) hp
      refine ⟨b', p', by rw [show bstep gs rs (some (b, p)) o = some (b, p) by simp only [bstep]; rw [if_neg c]]; exact e, h1, ?_, h3, fun q hq => ?_⟩
      · rcases h2 with h2 | h2
        · exact .inl h2
        · exact .inr (List.mem_cons_of_mem _ h2)
      · rcases List.mem_cons.1 hq with e2 | e2
        · rw [e2]; omega
        · exact h4 q e2
theorem bestF_is {gs : List Gu} {rs : List Ru} {F : List (List Int)} : (F = [] ∧ bestF gs rs F = none) ∨ ∃ b, bestF gs rs F = some (b, prO gs rs b) ∧ b ∈ F ∧ ∀ o ∈ F, prO gs rs b ≤ prO gs rs o := by
  cases F with
  | nil => exact .inl ⟨rfl, rfl⟩
  | cons o F =>
    obtain ⟨b', p', e, h1, h2, h3, h4⟩ := bestF_some (gs := gs) (rs := rs) (F := F) (b := o) (p := prO gs rs o) rfl
    subst h1
    refine .inr ⟨b', e, ?_, fun q hq => ?_⟩
    · rcases h2 with h2 | h2
      · rw [h2]; simp
      · exact List.mem_cons_of_mem _ h2
    · rcases List.mem_cons.1 hq with e2 | e2
      · rw [e2]; exact h3
      · exact h4 q e2
/-- The best ones of a party and of the turned one. -/
theorem best_turn {gs : List Gu} {rs : List Ru} (hp : PaOk gs rs) :
    (bestF gs rs (okL gs rs) = none ∧ bestF (gs.map turnG) (rs.map turnR) (okL (gs.map turnG) (rs.map turnR)) = none) ∨
    ∃ b c p, bestF gs rs (okL gs rs) = some (b, p) ∧ bestF (gs.map turnG) (rs.map turnR) (okL (gs.map turnG) (rs.map turnR)) = some (c, p) ∧ Full gs.length b ∧ prO (gs.map turnG) (rs.map turnR) b.reverse = p := by
  have hl := okL_turn_len hp
  have hm : ∀ o, o ∈ okL (gs.map turnG) (rs.map turnR) ↔ o ∈ (okL gs rs).map List.reverse := fun o => (okL_turn hp).mem_iff
  rcases bestF_is (gs := gs) (rs := rs) (F := okL gs rs) with ⟨e1, e2⟩ | ⟨b, e1, e2, e3⟩
  · left
    refine ⟨e2, ?_⟩
    rw [e1] at hl
    rw [List.length_eq_zero_iff.1 hl]
    rfl
  · right
    rcases bestF_is (gs := gs.map turnG) (rs := rs.map turnR) (F := okL (gs.map turnG) (rs.map turnR)) with ⟨f1, f2⟩ | ⟨c, f1, f2, f3⟩
    · exfalso
      rw [f1] at hl
      have := List.length_eq_zero_iff.1 hl.symm
      rw [this] at e2
      cases e2
    · have hb := (mem_okL.1 e2).1
      obtain ⟨q, hq, rfl⟩ := List.mem_map.1 ((hm c).1 f2)
      have hqf := (mem_okL.1 hq).1
      have p1 := f3 _ ((hm _).2 (List.mem_map.2 ⟨b, e2, rfl⟩))
      have p2 := e3 q hq
      rw [prO_turn hb hp, prO_turn hqf hp] at p1
      have he : prO gs rs q = prO gs rs b := by omega
      refine ⟨b, q.reverse, prO gs rs b, e1, ?_, hb, prO_turn hb hp⟩
      rw [f1, prO_turn hqf hp, he]
end Go.Proofs.Ytlamceokhbigaaa
