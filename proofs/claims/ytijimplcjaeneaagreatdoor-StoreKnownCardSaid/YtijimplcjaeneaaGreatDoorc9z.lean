
/- Who may be the holder on a day: the pure part. -/
import Derived.Test.YtijimplcjaeneaaGreatDoorc8z
set_option linter.unusedVariables false
set_option linter.unusedSimpArgs false
namespace Go.Proofs.YtijimplcjaeneaaGreatDoor
open Go.AI
/-- Links that follow one another, for an owner who has the thing from a day on. -/
def ChainO (ls : List Lk) : Int → Int → List Int → Prop
  | _, _, [] => True
  | o, d, k :: t => (0 ≤ k ∧ k < ls.length) ∧ ls[k.toNat]!.f = o ∧ soon d ls[k.toNat]! ≤ ls[k.toNat]!.hi ∧ ChainO ls ls[k.toNat]!.t (soon d ls[k.toNat]!) t
theorem nodup_snoc {pre : List Int} {x : Int} (h : pre.Nodup) (hx : x ∉ pre) : (pre ++ [x]).Nodup := by
  rw [List.nodup_append]
  refine ⟨h, by simp, fun a ha b hb => ?_⟩
  rw [List.mem_singleton] at hb
  subst hb
  exact fun e => hx (e ▸ ha)
theorem growL_mem {ls : List Lk} : ∀ {r : Nat} {pre : List Int} {o d : Int} {x : List Int}, pre.Nodup → (x ∈ growL ls r pre o d ↔ ∃ t, x = pre ++ t ∧ t.length = r ∧ ChainO ls o d t ∧ (pre ++ t).Nodup)
  | 0, pre, o, d, x, hp => by
    simp only [growL, List.mem_singleton]
    constructor
    · rintro rfl
      exact ⟨[], by simp, rfl, trivial, by simpa using hp⟩
    · rintro ⟨t, rfl, ht, _, _⟩
      rw [List.length_eq_zero_iff.1 ht, List.append_nil]
  | r + 1, pre, o, d, x, hp => by
    simp only [growL, List.mem_flatMap, List.mem_range]
    constructor
    · rintro ⟨i, hi, hx⟩
      split at hx
      · rename_i ht
        simp only [takesB, Bool.and_eq_true, decide_eq_true_eq, Bool.not_eq_true', decide_eq_false_iff_not] at ht
        obtain ⟨h1, h2, h3⟩ := ht
        obtain ⟨t, rfl, ht2, ht3, ht4⟩ := (growL_mem (nodup_snoc hp h3)).1 hx
        refine ⟨(i : Int) :: t, by simp, by simp [ht2], ⟨⟨by omega, by omega⟩, h1, h2, ht3⟩, by simpa using ht4⟩
      · cases hx
    · rintro ⟨t, rfl, ht, hc, hn⟩
      cases t with
      | nil => simp at ht
      | cons k t =>
        obtain ⟨⟨h0, h1⟩, h2, h3, h4⟩ := hc
        have hkn : ((k.toNat : Nat) : Int) = k := by omega
        have hkp : k ∉ pre := fun hm => by
          rw [List.nodup_append] at hn
          exact hn.2.2 k hm k (List.mem_cons_self ..) rfl
        refine ⟨k.toNat, by omega, ?_⟩
        have : takesB ls pre o d k.toNat = true := by
          simp only [takesB, Bool.and_eq_true, decide_eq_true_eq, Bool.not_eq_true', decide_eq_false_iff_not, hkn]
          exact ⟨h2, h3, hkp⟩
        rw [if_pos this, hkn]
        exact (growL_mem (nodup_snoc hp hkp)).2 ⟨t, by simp, by simpa using ht, h4, by simpa using hn⟩
theorem ChainO.mem {ls : List Lk} : ∀ {t : List Int} {o d : Int}, ChainO ls o d t → ∀ k ∈ t, 0 ≤ k ∧ k < ls.length
  | [], _, _, _, k, hk => by simp at hk
  | x :: t, o, d, h, k, hk => by
    rcases List.mem_cons.1 hk with rfl | hk
    · exact h.1
    · exact ChainO.mem h.2.2.2 k hk
theorem orders_mem {mk lo : Int} {ls : List Lk} {o : List Int} : o ∈ ordersL mk lo ls ↔ o.length = ls.length ∧ ChainO ls mk lo o ∧ o.Nodup := by
  unfold ordersL
  rw [growL_mem (by simp)]
  constructor
  · rintro ⟨t, rfl, h1, h2, h3⟩
    exact ⟨by simpa using h1, by simpa using h2, by simpa using h3⟩
  · rintro ⟨h1, h2, h3⟩
    exact ⟨o, by simp, h1, h2, by simpa using h3⟩
/-- Each event later than the one before it. -/
def Incr : List Ev → Prop
  | [] => True
  | [_] => True
  | e :: f :: t => e.lo + 1 ≤ f.lo ∧ Incr (f :: t)
theorem upL_incr {ls : List Lk} : ∀ {t : List Int} {a : Ev}, Incr (a :: upL ls a.lo t)
  | [], _ => trivial
  | k :: t, a => ⟨by show a.lo + 1 ≤ max ls[k.toNat]!.lo (a.lo + 1); omega, upL_incr (ls := ls) (t := t) (a := ⟨k, ls[k.toNat]!.t, max ls[k.toNat]!.lo (a.lo + 1), ls[k.toNat]!.hi⟩)⟩
theorem upL_ok {ls : List Lk} : ∀ {t : List Int} {o p : Int}, ChainO ls o p t → ∀ e ∈ upL ls p t, e.lo ≤ e.hi
  | [], _, _, _, e, he => by simp [upL] at he
  | k :: t, o, p, h, e, he => by
    obtain ⟨_, _, h3, h4⟩ := h
    have hs : soon p ls[k.toNat]! = max ls[k.toNat]!.lo (p + 1) := by unfold soon; omega
    rw [hs] at h3 h4
    simp only [upL] at he
    rcases List.mem_cons.1 he with rfl | he
    · exact h3
    · exact upL_ok h4 e he
theorem upL_own {ls : List Lk} : ∀ {t : List Int} {p : Int}, ∀ e ∈ upL ls p t, ∃ k ∈ t, e.o = ls[k.toNat]!.t
  | [], _, e, he => by simp [upL] at he
  | k :: t, p, e, he => by
    simp only [upL] at he
    rcases List.mem_cons.1 he with rfl | he
    · exact ⟨k, List.mem_cons_self .., rfl⟩
    · obtain ⟨q, hq, h⟩ := upL_own e he
      exact ⟨q, List.mem_cons_of_mem _ hq, h⟩
theorem downL_head {e f : Ev} {t : List Ev} : ∃ h r, downL (f :: t) = ⟨f.k, f.o, f.lo, h⟩ :: r := by
  unfold downL
  cases downL t with
  | nil => exact ⟨f.hi, [], rfl⟩
  | cons g r => exact ⟨_, _, rfl⟩
theorem downL_ok : ∀ {E : List Ev}, Incr E → (∀ e ∈ E, e.lo ≤ e.hi) → ∀ e ∈ downL E, e.lo ≤ e.hi
  | [], _, _, e, he => by simp [downL] at he
  | [a], _, h, e, he => h e (by simpa [downL] using he)
  | a :: f :: t, hi, h, e, he => by
    have ih := downL_ok (E := f :: t) hi.2 fun x hx => h x (List.mem_cons_of_mem _ hx)
    obtain ⟨hh, r, hd⟩ := downL_head (e := a) (f := f) (t := t)
    have hu : downL (a :: f :: t) = ⟨a.k, a.o, a.lo, min a.hi (hh - 1)⟩ :: downL (f :: t) := by
      rw [downL, hd]
    rw [hu] at he
    rcases List.mem_cons.1 he with rfl | he
    · have h1 := ih ⟨f.k, f.o, f.lo, hh⟩ (by rw [hd]; exact List.mem_cons_self ..)
      have h2 := h a (List.mem_cons_self ..)
      have h3 := hi.1
      simp only at h1 ⊢
      omega
    · exact ih e he
theorem downL_own : ∀ {E : List Ev}, (downL E).map (·.o) = E.map (·.o)
  | [] => rfl
  | e :: t => by
    have ih := downL_own (E := t)
    unfold downL
    cases hd : downL t with
    | nil => rw [hd] at ih; simp at ih ⊢; exact ih
    | cons f r => rw [hd] at ih; simp at ih ⊢; exact ih
theorem evs_ok {mk lo hi : Int} {ls : List Lk} {o : List Int} (h : lo ≤ hi) (hc : ChainO ls mk lo o) : ∀ e ∈ evsL mk lo hi ls o, e.lo ≤ e.hi := by
  refine downL_ok (upL_incr (a := ⟨-1, mk, lo, hi⟩)) fun e he => ?_
  rcases List.mem_cons.1 he with rfl | he
  · exact h
  · exact upL_ok hc e he
theorem evs_own {mk lo hi : Int} {ls : List Lk} {o : List Int} {e : Ev} (he : e ∈ evsL mk lo hi ls o) : e.o = mk ∨ ∃ k ∈ o, e.o = ls[k.toNat]!.t := by
  have h1 : e.o ∈ (evsL mk lo hi ls o).map (·.o) := List.mem_map_of_mem he
  rw [evsL, downL_own] at h1
  obtain ⟨f, hf, h2⟩ := List.mem_map.1 h1
  rw [← h2]
  rcases List.mem_cons.1 hf with rfl | hf
  · exact .inl rfl
  · exact .inr (upL_own f hf)
theorem addK_mem {ks : List Int} {h x : Int} : x ∈ addK ks h ↔ x ∈ ks ∨ x = h := by
  unfold addK
  split
  · rename_i hm
    exact ⟨.inl, fun hx => hx.elim id fun e => e ▸ hm⟩
  · simp
theorem addK_nodup {ks : List Int} {h : Int} (hn : ks.Nodup) : (addK ks h).Nodup := by
  unfold addK
  split
  · exact hn
  · rename_i hm; exact nodup_snoc hn hm
theorem gathK_nodup {d : Int} : ∀ {E : List Ev} {ks : List Int} {h : Int}, ks.Nodup → (gathK d ks h E).Nodup
  | [], ks, h, hn => addK_nodup hn
  | e :: t, ks, h, hn => by
    have h1 : (if d < e.hi then addK ks h else ks).Nodup := by
      split
      · exact addK_nodup hn
      · exact hn
    simp only [gathK]
    split
    · exact h1
    · exact gathK_nodup h1
theorem gathK_mem {d : Int} : ∀ {E : List Ev} {ks : List Int} {h x : Int}, x ∈ gathK d ks h E ↔ x ∈ ks ∨ x ∈ gathK d [] h E
  | [], ks, h, x => by
    simp only [gathK, addK_mem]
    simp
  | e :: t, ks, h, x => by
    simp only [gathK]
    by_cases c1 : d < e.hi
    · by_cases c2 : d < e.lo
      · simp only [if_pos c1, if_pos c2, addK_mem]; simp
      · simp only [if_pos c1, if_neg c2]
        rw [gathK_mem (ks := addK ks h), gathK_mem (ks := addK [] h), addK_mem, addK_mem]
        simp [or_assoc]
    · by_cases c2 : d < e.lo
      · simp only [if_neg c1, if_pos c2]; simp
      · simp only [if_neg c1, if_neg c2]
        rw [gathK_mem]
theorem gathK_from {d : Int} : ∀ {E : List Ev} {h x : Int}, x ∈ gathK d [] h E → x = h ∨ ∃ e ∈ E, x = e.o
  | [], h, x, hx => by simp only [gathK, addK_mem] at hx; simpa using hx
  | e :: t, h, x, hx => by
    simp only [gathK] at hx
    have h1 : ∀ y, y ∈ (if d < e.hi then addK [] h else []) → y = h := fun y hy => by
      split at hy
      · rw [addK_mem] at hy; simpa using hy
      · simp at hy
    split at hx
    · exact .inl (h1 x hx)
    · rw [gathK_mem] at hx
      rcases hx with hx | hx
      · exact .inl (h1 x hx)
      · rcases gathK_from hx with rfl | ⟨f, hf, rfl⟩
        · exact .inr ⟨e, List.mem_cons_self .., rfl⟩
        · exact .inr ⟨f, List.mem_cons_of_mem _ hf, rfl⟩
theorem gathK_some {d : Int} : ∀ {E : List Ev} {h : Int}, (∀ e ∈ E, e.lo ≤ e.hi) → ∃ x, x ∈ gathK d [] h E
  | [], h, _ => ⟨h, by simp [gathK, addK_mem]⟩
  | e :: t, h, hE => by
    have h1 := hE e (List.mem_cons_self ..)
    simp only [gathK]
    by_cases c2 : d < e.lo
    · rw [if_pos c2, if_pos (by omega)]
      exact ⟨h, by simp [addK_mem]⟩
    · rw [if_neg c2]
      obtain ⟨x, hx⟩ := gathK_some (d := d) (E := t) (h := e.o) fun f hf => hE f (List.mem_cons_of_mem _ hf)
      exact ⟨x, gathK_mem.2 (.inr hx)⟩
/-- All holders, as they are gathered. -/
def keysF (mk lo hi : Int) (ls : List Lk) (d : Int) (S : List (List Int)) : List Int := S.foldl (fun ks o => gathK d ks (-1) (evsL mk lo hi ls o)) []
theorem keysF_snoc {mk lo hi : Int} {ls : List Lk} {d : Int} {S : List (List Int)} {o : List Int} : keysF mk lo hi ls d (S ++ [o]) = gathK d (keysF mk lo hi ls d S) (-1) (evsL mk lo hi ls o) := by
  unfold keysF
  rw [List.foldl_append]
  rfl
theorem foldl_mem {mk lo hi : Int} {ls : List Lk} {d x : Int} : ∀ {S : List (List Int)} {ks : List Int}, x ∈ S.foldl (fun ks o => gathK d ks (-1) (evsL mk lo hi ls o)) ks ↔ x ∈ ks ∨ ∃ o ∈ S, x ∈ gathK d [] (-1) (evsL mk lo hi ls o)
  | [], ks => by simp
  | o :: S, ks => by
    rw [List.foldl_cons, foldl_mem, gathK_mem]
    simp [or_assoc]
theorem keysF_mem {mk lo hi : Int} {ls : List Lk} {d x : Int} {S : List (List Int)} : x ∈ keysF mk lo hi ls d S ↔ ∃ o ∈ S, x ∈ gathK d [] (-1) (evsL mk lo hi ls o) := by
  unfold keysF
  rw [foldl_mem]
  simp
theorem foldl_nodup {mk lo hi : Int} {ls : List Lk} {d : Int} : ∀ {S : List (List Int)} {ks : List Int}, ks.Nodup → (S.foldl (fun ks o => gathK d ks (-1) (evsL mk lo hi ls o)) ks).Nodup
  | [], ks, h => h
  | o :: S, ks, h => foldl_nodup (S := S) (gathK_nodup h)
theorem keysF_nodup {mk lo hi : Int} {ls : List Lk} {d : Int} {S : List (List Int)} : (keysF mk lo hi ls d S).Nodup := foldl_nodup (by simp)
/-- Who may be the holder on a day, ascending. -/
def hoL (mk lo hi : Int) (ls : List Lk) (d : Int) : List Int := ((List.range 21).map fun (i : Nat) => (i : Int) - 1).filter fun h => decide (h ∈ keysF mk lo hi ls d (ordersL mk lo ls))
theorem sorted_eq : ∀ {a b : List Int}, a.Pairwise (· < ·) → b.Pairwise (· < ·) → (∀ x, x ∈ a ↔ x ∈ b) → a = b
  | [], [], _, _, _ => rfl
  | [], y :: b, _, _, h => by have := (h y).2 (List.mem_cons_self ..); simp at this
  | x :: a, [], _, _, h => by have := (h x).1 (List.mem_cons_self ..); simp at this
  | x :: a, y :: b, ha, hb, h => by
    rw [List.pairwise_cons] at ha hb
    have hxy : x = y := by
      rcases List.mem_cons.1 ((h x).1 (List.mem_cons_self ..)) with e | e
      · exact e
      · rcases List.mem_cons.1 ((h y).2 (List.mem_cons_self ..)) with f | f
        · exact f.symm
        · have := hb.1 x e
          have := ha.1 y f
          omega
    subst hxy
    congr 1
    refine sorted_eq ha.2 hb.2 fun z => ?_
    constructor
    · intro hz
      rcases List.mem_cons.1 ((h z).1 (List.mem_cons_of_mem _ hz)) with e | e
      · have := ha.1 z hz; omega
      · exact e
    · intro hz
      rcases List.mem_cons.1 ((h z).2 (List.mem_cons_of_mem _ hz)) with e | e
      · have := hb.1 z hz; omega
      · exact e
theorem hoL_sorted {mk lo hi : Int} {ls : List Lk} {d : Int} : (hoL mk lo hi ls d).Pairwise (· < ·) := by
  unfold hoL
  refine List.Pairwise.filter _ ?_
  rw [List.pairwise_map]
  exact List.pairwise_lt_range.imp fun h => by omega
theorem keys_bd {mk lo hi : Int} {ls : List Lk} {d x : Int} (hc : chkC mk lo hi ls = 0) (hx : x ∈ keysF mk lo hi ls d (ordersL mk lo ls)) : (x = -1 ∨ x = mk ∨ x ∈ ls.map (·.t)) ∧ -1 ≤ x ∧ x ≤ 19 := by
  obtain ⟨o, ho, hx⟩ := keysF_mem.1 hx
  obtain ⟨h1, h2, h3⟩ := orders_mem.1 ho
  unfold chkC at hc
  cases c1 : inB mk 0 19 with
  | false => rw [c1, cond_false] at hc; cases hc
  | true =>
    rw [c1, cond_true] at hc
    simp only [inB, Bool.and_eq_true, decide_eq_true_eq] at c1
    by_cases c2 : spanE lo hi 0 100000 = 0
    · rw [if_pos c2] at hc
      by_cases c3 : 7 < ls.length
      · rw [if_pos c3] at hc; cases hc
      · rw [if_neg c3] at hc
        by_cases c4 : linksE ls = 0
        · rcases gathK_from hx with rfl | ⟨e, he, rfl⟩
          · exact ⟨.inl rfl, by omega, by omega⟩
          · rcases evs_own he with e1 | ⟨k, hk, e1⟩
            · rw [e1]; exact ⟨.inr (.inl rfl), by omega, by omega⟩
            · have hkb := h2.mem k hk
              have hkn : k.toNat < ls.length := by omega
              have hm : ls[k.toNat]! ∈ ls := by rw [getElem!_pos ls _ hkn]; exact List.getElem_mem _
              have hb := linkE_bd (linksE_all c4 _ hm)
              rw [e1]
              exact ⟨.inr (.inr (List.mem_map_of_mem hm)), by omega, by omega⟩
        · rw [if_neg c4] at hc; exact absurd hc c4
    · rw [if_neg c2] at hc; exact absurd hc c2
structure ChOk (mk lo hi : Int) (ls : List Lk) : Prop where
  m0 : 0 ≤ mk
  m1 : mk ≤ 19
  l0 : 0 ≤ lo
  l1 : lo ≤ hi
  h1 : hi ≤ 100000
  ok : LsOk ls
  e : linksE ls = 0
  s : ordersL mk lo ls ≠ []
theorem chOk_of {mk lo hi : Int} {ls : List Lk} (hc : chkC mk lo hi ls = 0) : ChOk mk lo hi ls := by
  unfold chkC at hc
  cases c1 : inB mk 0 19 with
  | false => rw [c1, cond_false] at hc; cases hc
  | true =>
    rw [c1, cond_true] at hc
    simp only [inB, Bool.and_eq_true, decide_eq_true_eq] at c1
    by_cases c2 : spanE lo hi 0 100000 = 0
    · rw [if_pos c2] at hc
      have hb := spanE_bd c2
      by_cases c3 : 7 < ls.length
      · rw [if_pos c3] at hc; cases hc
      · rw [if_neg c3] at hc
        by_cases c4 : linksE ls = 0
        · rw [if_pos c4] at hc
          refine ⟨c1.1, c1.2, hb.1, by omega, by omega, lsOk_of (by omega) c4, c4, fun h => ?_⟩
          rw [h] at hc; cases hc
        · rw [if_neg c4] at hc; exact absurd hc c4
    · rw [if_neg c2] at hc; exact absurd hc c2
theorem keys_len {mk lo hi : Int} {ls : List Lk} {d : Int} (hc : chkC mk lo hi ls = 0) : 1 ≤ (keysF mk lo hi ls d (ordersL mk lo ls)).length ∧ (keysF mk lo hi ls d (ordersL mk lo ls)).length ≤ 9 := by
  have hk := chOk_of hc
  constructor
  · cases ho : ordersL mk lo ls with
    | nil => exact absurd ho hk.s
    | cons o t =>
      have hom : o ∈ ordersL mk lo ls := by rw [ho]; exact List.mem_cons_self ..
      obtain ⟨x, hx⟩ := gathK_some (d := d) (h := -1) (evs_ok hk.l1 (orders_mem.1 hom).2.1)
      exact List.length_pos_of_mem (keysF_mem.2 ⟨o, List.mem_cons_self .., hx⟩)
  · have := List.Nodup.length_le_of_subset (l₁ := keysF mk lo hi ls d (ordersL mk lo ls)) (l₂ := -1 :: mk :: ls.map (·.t)) keysF_nodup fun x hx => by
      rcases (keys_bd hc hx).1 with rfl | rfl | h
      · simp
      · simp
      · exact List.mem_cons_of_mem _ (List.mem_cons_of_mem _ h)
    have := hk.ok.n
    simp at *
    omega
theorem hoL_of {mk lo hi : Int} {ls : List Lk} {d : Int} {R : List Int} (hc : chkC mk lo hi ls = 0) (hp : R.Perm (keysF mk lo hi ls d (ordersL mk lo ls))) (hs : Srt R (keysF mk lo hi ls d (ordersL mk lo ls)).length) : R = hoL mk lo hi ls d := by
  have hn : R.Nodup := (hp.nodup_iff).2 keysF_nodup
  refine sorted_eq ?_ hoL_sorted fun x => ?_
  · rw [List.pairwise_iff_getElem]
    intro i j hi' hj' hij
    have h1 := hs i j hij (by rw [← hp.length_eq]; exact hj')
    rw [getElem!_pos R i hi', getElem!_pos R j hj'] at h1
    have h2 : R[i] ≠ R[j] := fun e => by
      have := (List.nodup_iff_pairwise_ne.1 hn)
      rw [List.pairwise_iff_getElem] at this
      exact this i j hi' hj' hij e
    omega
  · rw [hp.mem_iff]
    unfold hoL
    rw [List.mem_filter]
    simp only [decide_eq_true_eq, List.mem_map, List.mem_range]
    constructor
    · intro hx
      obtain ⟨_, h1, h2⟩ := keys_bd hc hx
      exact ⟨⟨(x + 1).toNat, by omega, by omega⟩, hx⟩
    · exact fun h => h.2
end Go.Proofs.YtijimplcjaeneaaGreatDoor

