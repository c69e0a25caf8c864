
/- Stories, one by one: pure. -/
import Derived.Test.Ytijimplcjaeneaan0o
set_option linter.unusedVariables false
set_option linter.unusedSimpArgs false
namespace Go.Proofs.Ytijimplcjaeneaa
open Go.AI
/-- The days of a story: each within its event, and later than the one before. -/
def IsSto : List Ev → Int → List Int → Prop
  | [], _, s => s = []
  | e :: t, p, s => ∃ d r, s = d :: r ∧ e.lo ≤ d ∧ d ≤ e.hi ∧ p < d ∧ IsSto t d r
theorem IsSto.weak : ∀ {E : List Ev} {p p' : Int} {s : List Int}, p' ≤ p → IsSto E p s → IsSto E p' s
  | [], _, _, _, _, h => h
  | e :: t, p, p', s, hp, h => by
    obtain ⟨d, r, h1, h2, h3, h4, h5⟩ := h
    exact ⟨d, r, h1, h2, h3, by omega, h5⟩
/-- The events of an order, as they are said. -/
def rawL (ls : List Lk) (o : List Int) : List Ev := o.map fun k => ⟨k, ls[k.toNat]!.t, ls[k.toNat]!.lo, ls[k.toNat]!.hi⟩
def raw (mk lo hi : Int) (ls : List Lk) (o : List Int) : List Ev := ⟨-1, mk, lo, hi⟩ :: rawL ls o
theorem sto_up {ls : List Lk} : ∀ {o : List Int} {p e : Int} {s : List Int}, e ≤ p → (IsSto (rawL ls o) p s ↔ IsSto (upL ls e o) p s)
  | [], _, _, _, _ => Iff.rfl
  | k :: t, p, e, s, he => by
    constructor
    · rintro ⟨d, r, h1, h2, h3, h4, h5⟩
      have h2' : ls[k.toNat]!.lo ≤ d := h2
      have hm : max ls[k.toNat]!.lo (e + 1) ≤ d := by omega
      exact ⟨d, r, h1, hm, h3, h4, (sto_up hm).1 h5⟩
    · rintro ⟨d, r, h1, h2, h3, h4, h5⟩
      have hm : max ls[k.toNat]!.lo (e + 1) ≤ d := h2
      have h2' : ls[k.toNat]!.lo ≤ d := by omega
      exact ⟨d, r, h1, h2', h3, h4, (sto_up hm).2 h5⟩
theorem sto_evs {mk lo hi : Int} {ls : List Lk} {o : List Int} {p : Int} {s : List Int} : IsSto (raw mk lo hi ls o) p s ↔ IsSto (evs0 mk lo hi ls o) p s := by
  constructor
  · rintro ⟨d, r, h1, h2, h3, h4, h5⟩
    exact ⟨d, r, h1, h2, h3, h4, (sto_up h2).1 h5⟩
  · rintro ⟨d, r, h1, h2, h3, h4, h5⟩
    exact ⟨d, r, h1, h2, h3, h4, (sto_up h2).2 h5⟩
theorem downL_ex {e : Ev} {t : List Ev} : ∃ h, downL (e :: t) = ⟨e.k, e.o, e.lo, h⟩ :: downL t ∧ ((downL t = [] ∧ h = e.hi) ∨ ∃ f r, downL t = f :: r ∧ h = min e.hi (f.hi - 1)) := by
  cases hd : downL t with
  | nil => exact ⟨e.hi, by rw [downL, hd], .inl ⟨rfl, rfl⟩⟩
  | cons f r => exact ⟨min e.hi (f.hi - 1), by rw [downL, hd], .inr ⟨f, r, rfl, rfl⟩⟩
/-- The events of a story, each on its day. -/
def stoE : List Ev → List Int → List Ev
  | e :: t, d :: r => ⟨e.k, e.o, d, d⟩ :: stoE t r
  | _, _ => []
theorem sto_late : ∀ {E : List Ev} {p : Int}, (∀ f r, downL E = f :: r → p < f.hi) → (∀ e ∈ downL E, e.lo ≤ e.hi) → IsSto E p ((downL E).map (·.hi))
  | [], _, _, _ => rfl
  | e :: t, p, hp, hok => by
    obtain ⟨h, hd, hh⟩ := downL_ex (e := e) (t := t)
    rw [hd] at hok ⊢
    have h1 := hp _ _ hd
    have h2 := hok _ (List.mem_cons_self ..)
    simp only at h1 h2
    refine ⟨h, (downL t).map (·.hi), rfl, h2, ?_, h1, sto_late (fun f r hf => ?_) fun x hx => hok x (List.mem_cons_of_mem _ hx)⟩
    · rcases hh with ⟨_, hh⟩ | ⟨f, r, _, hh⟩ <;> omega
    · rcases hh with ⟨hn, _⟩ | ⟨f', r', hf', hh⟩
      · rw [hn] at hf; cases hf
      · rw [hf'] at hf; cases hf; omega
theorem sto_day : ∀ {E : List Ev} {p : Int}, Incr E → (∀ e t, E = e :: t → p < e.lo) → (∀ e ∈ downL E, e.lo ≤ e.hi) → ∀ f ∈ downL E, ∀ v, f.lo ≤ v → v ≤ f.hi → ∃ s, IsSto E p s ∧ ⟨f.k, f.o, v, v⟩ ∈ stoE E s
  | [], _, _, _, _, f, hf, _, _, _ => by simp [downL] at hf
  | e :: t, p, hi, hp, hok, f, hf, v, h1, h2 => by
    obtain ⟨h, hd, hh⟩ := downL_ex (e := e) (t := t)
    rw [hd] at hok hf
    have hp0 := hp e t rfl
    have h0 := hok _ (List.mem_cons_self ..)
    simp only at h0
    have hhe : h ≤ e.hi := by rcases hh with ⟨_, hh⟩ | ⟨f, r, _, hh⟩ <;> omega
    have hokt : ∀ x ∈ downL t, x.lo ≤ x.hi := fun x hx => hok x (List.mem_cons_of_mem _ hx)
    rcases List.mem_cons.1 hf with rfl | hf
    · simp only at h1 h2
      refine ⟨v :: (downL t).map (·.hi), ⟨v, _, rfl, h1, by omega, by omega, sto_late (fun g r hg => ?_) hokt⟩, by simp [stoE]⟩
      rcases hh with ⟨hn, _⟩ | ⟨f', r', hf', hh⟩
      · rw [hn] at hg; cases hg
      · rw [hf'] at hg; cases hg; omega
    · have hit : Incr t := by cases t with | nil => trivial | cons a t => exact hi.2
      obtain ⟨s, hs, hm⟩ := sto_day (p := e.lo) hit (fun a u ht => by subst ht; have := hi.1; omega) hokt f hf v h1 h2
      exact ⟨e.lo :: s, ⟨e.lo, s, rfl, Int.le_refl _, by omega, hp0, hs⟩, List.mem_cons_of_mem _ hm⟩
theorem sto_in : ∀ {E : List Ev} {p : Int} {s : List Int}, IsSto E p s → (∀ f r, downL E = f :: r → ∃ d s', s = d :: s' ∧ d ≤ f.hi) ∧ ∀ e ∈ stoE E s, ∃ f ∈ downL E, f.k = e.k ∧ f.lo ≤ e.lo ∧ e.hi ≤ f.hi
  | [], _, _, _ => ⟨fun f r h => by simp [downL] at h, fun e he => by simp [stoE] at he⟩
  | e :: t, p, s, hs => by
    obtain ⟨d, r, rfl, h1, h2, h3, h4⟩ := hs
    obtain ⟨h, hd, hh⟩ := downL_ex (e := e) (t := t)
    obtain ⟨ih1, ih2⟩ := sto_in h4
    have hdh : d ≤ h := by
      rcases hh with ⟨_, hh⟩ | ⟨f, u, hf, hh⟩
      · omega
      · obtain ⟨d', s', rfl, h5⟩ := ih1 f u hf
        cases t with
        | nil => simp [downL] at hf
        | cons a t =>
          obtain ⟨d2, r2, he2, _, _, h6, _⟩ := h4
          cases he2
          omega
    rw [hd]
    refine ⟨fun f u hf => ?_, fun x hx => ?_⟩
    · cases hf; exact ⟨d, r, rfl, hdh⟩
    · rcases List.mem_cons.1 hx with rfl | hx
      · exact ⟨_, List.mem_cons_self .., rfl, h1, hdh⟩
      · obtain ⟨f, hf, hq⟩ := ih2 x hx
        exact ⟨f, List.mem_cons_of_mem _ hf, hq⟩
/-- The holder on a day, in a story. -/
def hoS : List Ev → List Int → Int → Int → Int
  | e :: t, d :: s, x, h => if x < d then h else hoS t s x e.o
  | _, _, _, h => h
theorem sto_hold {x y : Int} : ∀ {E : List Ev} {p h : Int}, Incr E → (∀ e t, E = e :: t → p < e.lo) → (∀ e ∈ downL E, e.lo ≤ e.hi) → ((∃ s, IsSto E p s ∧ hoS E s x h = y) ↔ y ∈ gathK x [] h (downL E))
  | [], p, h, _, _, _ => by
    show _ ↔ y ∈ addK [] h
    rw [addK_mem]
    constructor
    · rintro ⟨s, rfl, hy⟩; exact .inr hy.symm
    · rintro (hy | hy)
      · cases hy
      · exact ⟨[], rfl, hy.symm⟩
  | e :: t, p, h, hi, hp, hok => by
    obtain ⟨hh, hd, hx⟩ := downL_ex (e := e) (t := t)
    have hp0 := hp e t rfl
    have hok' := hok
    rw [hd] at hok
    have h0 := hok _ (List.mem_cons_self ..)
    simp only at h0
    have hhe : hh ≤ e.hi := by rcases hx with ⟨_, hx⟩ | ⟨f, r, _, hx⟩ <;> omega
    have hokt : ∀ x ∈ downL t, x.lo ≤ x.hi := fun x hx => hok x (List.mem_cons_of_mem _ hx)
    have hit : Incr t := by cases t with | nil => trivial | cons a t => exact hi.2
    have ih := sto_hold (x := x) (y := y) (E := t) (p := e.lo) (h := e.o) hit (fun a u ht => by subst ht; have := hi.1; omega) hokt
    have hk : y ∈ (if x < hh then addK [] h else []) ↔ x < hh ∧ y = h := by
      split
      · rename_i hd
        rw [addK_mem]
        exact ⟨(fun h => (by rcases h with h | h; exact absurd h (by simp); exact ⟨hd, h⟩)), fun h => .inr h.2⟩
      · rename_i hd
        exact ⟨fun h => (by cases h), fun h => absurd h.1 hd⟩
    have hlate : ∀ f r, downL (e :: t) = f :: r → p < f.hi := fun f r hf => by
      rw [hd] at hf; cases hf; show p < hh; omega
    have hl := sto_late hlate hok'
    rw [hd] at hl ⊢
    simp only [gathK]
    by_cases c : x < e.lo
    · rw [if_pos c, hk]
      constructor
      · rintro ⟨s, ⟨d, r, rfl, h1, h2, h3, h4⟩, hy⟩
        rw [hoS, if_pos (by omega)] at hy
        exact ⟨by omega, hy.symm⟩
      · rintro ⟨h1, h2⟩
        refine ⟨_, hl, ?_⟩
        rw [List.map_cons, hoS, if_pos h1, h2]
    · rw [if_neg c, gathK_mem, hk, ← ih]
      constructor
      · rintro ⟨s, hst, hy⟩
        have hin := (sto_in hst).1 _ _ hd
        obtain ⟨d, r, rfl, h1, h2, h3, h4⟩ := hst
        obtain ⟨d', s', he, h5⟩ := hin
        cases he
        simp only at h5
        rw [hoS] at hy
        by_cases c2 : x < d
        · rw [if_pos c2] at hy
          exact .inl ⟨by omega, hy.symm⟩
        · rw [if_neg c2] at hy
          exact .inr ⟨r, IsSto.weak h1 h4, hy⟩
      · rintro (⟨h1, h2⟩ | ⟨r, h1, h2⟩)
        · refine ⟨_, hl, ?_⟩
          rw [List.map_cons, hoS, if_pos h1, h2]
        · refine ⟨e.lo :: r, ⟨e.lo, r, rfl, Int.le_refl _, by omega, hp0, h1⟩, ?_⟩
          rw [hoS, if_neg c, h2]
/-- All days of a span. -/
def rangeI (a b : Int) : List Int := (List.range (b - a + 1).toNat).map fun (i : Nat) => a + (i : Int)
theorem rangeI_mem {a b d : Int} : d ∈ rangeI a b ↔ a ≤ d ∧ d ≤ b := by
  unfold rangeI
  rw [List.mem_map]
  constructor
  · rintro ⟨i, hi, rfl⟩
    rw [List.mem_range] at hi
    omega
  · rintro ⟨h1, h2⟩
    exact ⟨(d - a).toNat, by rw [List.mem_range]; omega, by omega⟩
/-- All stories, one by one. -/
def stoF : List Ev → Int → List (List Int)
  | [], _ => [[]]
  | e :: t, p => (rangeI e.lo e.hi).flatMap fun d => if p < d then (stoF t d).map (d :: ·) else []
theorem stoF_mem : ∀ {E : List Ev} {p : Int} {s : List Int}, s ∈ stoF E p ↔ IsSto E p s
  | [], p, s => by simp [stoF, IsSto]
  | e :: t, p, s => by
    simp only [stoF, IsSto, List.mem_flatMap, rangeI_mem]
    constructor
    · rintro ⟨d, ⟨h1, h2⟩, h3⟩
      split at h3
      · rename_i hp
        obtain ⟨r, hr, rfl⟩ := List.mem_map.1 h3
        exact ⟨d, r, rfl, h1, h2, hp, stoF_mem.1 hr⟩
      · cases h3
    · rintro ⟨d, r, rfl, h1, h2, h3, h4⟩
      refine ⟨d, ⟨h1, h2⟩, ?_⟩
      rw [if_pos h3]
      exact List.mem_map_of_mem (stoF_mem.2 h4)
/-- What is known in one place. -/
def slot (st : DSt) (k : Int) : Int × Int := if k = -1 then st.1 else st.2[k.toNat]!
def slotOk (n : Nat) (k : Int) : Prop := k = -1 ∨ (0 ≤ k ∧ k < n)
theorem put_slot {st : DSt} {e : Ev} {k : Int} (hk : slotOk st.2.length k) (he : slotOk st.2.length e.k) : slot (putE st e) k = if e.k = k then (min (slot st k).1 e.lo, max (slot st k).2 e.hi) else slot st k := by
  unfold slot putE
  by_cases h1 : e.k = -1
  · by_cases h2 : k = -1
    · subst h2; simp [h1]
    · rw [if_pos h1, if_neg h2, if_neg h2, if_neg (by omega)]
  · by_cases h2 : k = -1
    · rw [if_neg h1, if_pos h2, if_pos h2, if_neg (by omega)]
    · rw [if_neg h1, if_neg h2, if_neg h2]
      have hk1 : k.toNat < st.2.length := by rcases hk with h | h <;> omega
      have he1 : e.k.toNat < st.2.length := by rcases he with h | h <;> omega
      have he0 : 0 ≤ e.k := by rcases he with h | h <;> omega
      have hk0 : 0 ≤ k := by rcases hk with h | h <;> omega
      simp only
      rw [getElem!_pos (st.2.set e.k.toNat (min (st.2[e.k.toNat]!).1 e.lo, max (st.2[e.k.toNat]!).2 e.hi)) k.toNat (by rw [List.length_set]; exact hk1), List.getElem_set]
      by_cases h3 : e.k = k
      · rw [if_pos (by omega), if_pos h3, h3]
      · rw [if_neg (by omega), if_neg h3, getElem!_pos st.2 k.toNat hk1]
theorem slots_le {n : Nat} {k : Int} (hk : slotOk n k) : ∀ {A : List Ev} {st : DSt}, st.2.length = n → (∀ e ∈ A, slotOk n e.k) →
    ((slot (A.foldl putE st) k).1 ≤ (slot st k).1 ∧ (∀ e ∈ A, e.k = k → (slot (A.foldl putE st) k).1 ≤ e.lo) ∧ ((slot (A.foldl putE st) k).1 = (slot st k).1 ∨ ∃ e ∈ A, e.k = k ∧ (slot (A.foldl putE st) k).1 = e.lo)) ∧
    ((slot st k).2 ≤ (slot (A.foldl putE st) k).2 ∧ (∀ e ∈ A, e.k = k → e.hi ≤ (slot (A.foldl putE st) k).2) ∧ ((slot (A.foldl putE st) k).2 = (slot st k).2 ∨ ∃ e ∈ A, e.k = k ∧ (slot (A.foldl putE st) k).2 = e.hi))
  | [], st, _, _ => ⟨⟨Int.le_refl _, fun e he => by (cases he), .inl rfl⟩, ⟨Int.le_refl _, fun e he => by (cases he), .inl rfl⟩⟩
  | a :: A, st, hn, hA => by
    have hp := put_slot (st := st) (e := a) (k := k) (by rw [hn]; exact hk) (by rw [hn]; exact hA a (by simp))
    obtain ⟨⟨i1, i2, i3⟩, ⟨i4, i5, i6⟩⟩ := slots_le hk (A := A) (st := putE st a) (by rw [putE_len, hn]) fun e he => hA e (by simp [he])
    rw [List.foldl_cons]
    by_cases h : a.k = k
    · rw [if_pos h] at hp
      rw [hp] at i1 i3 i4 i6
      simp only at i1 i3 i4 i6
      refine ⟨⟨by clear i3 i6; omega, fun e he hk => ?_, ?_⟩, ⟨by clear i3 i6; omega, fun e he hk => ?_, ?_⟩⟩
      · rcases List.mem_cons.1 he with rfl | he
        · clear i3 i6; omega
        · exact i2 e he hk
      · clear i6
        rcases i3 with i3 | ⟨e, he, h1, h2⟩
        · by_cases c : (slot st k).1 ≤ a.lo
          · exact .inl (by omega)
          · exact .inr ⟨a, by simp, h, by omega⟩
        · exact .inr ⟨e, by simp [he], h1, h2⟩
      · rcases List.mem_cons.1 he with rfl | he
        · clear i3 i6; omega
        · exact i5 e he hk
      · clear i3
        rcases i6 with i6 | ⟨e, he, h1, h2⟩
        · by_cases c : a.hi ≤ (slot st k).2
          · exact .inl (by omega)
          · exact .inr ⟨a, by simp, h, by omega⟩
        · exact .inr ⟨e, by simp [he], h1, h2⟩
    · rw [if_neg h] at hp
      rw [hp] at i1 i3 i4 i6
      refine ⟨⟨i1, fun e he hk => ?_, ?_⟩, ⟨i4, fun e he hk => ?_, ?_⟩⟩
      · rcases List.mem_cons.1 he with rfl | he
        · exact absurd hk h
        · exact i2 e he hk
      · rcases i3 with i3 | ⟨e, he, h1, h2⟩
        · exact .inl i3
        · exact .inr ⟨e, by simp [he], h1, h2⟩
      · rcases List.mem_cons.1 he with rfl | he
        · exact absurd hk h
        · exact i5 e he hk
      · rcases i6 with i6 | ⟨e, he, h1, h2⟩
        · exact .inl i6
        · exact .inr ⟨e, by simp [he], h1, h2⟩
theorem slot_ext {a b : DSt} (hl : a.2.length = b.2.length) (h : ∀ k, slotOk a.2.length k → slot a k = slot b k) : a = b := by
  have h1 := h (-1) (.inl rfl)
  simp only [slot, if_true] at h1
  have h2 : a.2 = b.2 := by
    apply List.ext_getElem hl
    intro i hi hi'
    have := h (i : Int) (.inr ⟨by omega, by omega⟩)
    unfold slot at this
    rw [if_neg (by omega), if_neg (by omega), Int.toNat_natCast, getElem!_pos _ i hi, getElem!_pos _ i hi'] at this
    exact this
  cases a; cases b
  simp only at h1 h2
  rw [h1, h2]
/-- Two lists of events, of which the one says no less than the other. -/
theorem cofinal {A B : List Ev} {st : DSt} (hA : ∀ e ∈ A, slotOk st.2.length e.k) (hB : ∀ e ∈ B, slotOk st.2.length e.k)
    (h1 : ∀ e ∈ A, ∃ f ∈ B, f.k = e.k ∧ f.lo ≤ e.lo ∧ e.hi ≤ f.hi) (h2 : ∀ f ∈ B, (∃ e ∈ A, e.k = f.k ∧ e.lo ≤ f.lo) ∧ ∃ e ∈ A, e.k = f.k ∧ f.hi ≤ e.hi) : A.foldl putE st = B.foldl putE st := by
  refine slot_ext (by rw [puts_len, puts_len]) fun k hk => ?_
  rw [puts_len] at hk
  obtain ⟨⟨a1, a2, a3⟩, ⟨a4, a5, a6⟩⟩ := slots_le hk (A := A) (st := st) rfl hA
  obtain ⟨⟨b1, b2, b3⟩, ⟨b4, b5, b6⟩⟩ := slots_le hk (A := B) (st := st) rfl hB
  apply Prod.ext
  · apply Int.le_antisymm
    · rcases b3 with b3 | ⟨f, hf, hk, b3⟩
      · omega
      · obtain ⟨⟨e, he, h3, h4⟩, _⟩ := h2 f hf
        have := a2 e he (by omega)
        omega
    · rcases a3 with a3 | ⟨e, he, hk, a3⟩
      · omega
      · obtain ⟨f, hf, h3, h4, _⟩ := h1 e he
        have := b2 f hf (by omega)
        omega
  · apply Int.le_antisymm
    · rcases a6 with a6 | ⟨e, he, hk, a6⟩
      · omega
      · obtain ⟨f, hf, h3, _, h4⟩ := h1 e he
        have := b5 f hf (by omega)
        omega
    · rcases b6 with b6 | ⟨f, hf, hk, b6⟩
      · omega
      · obtain ⟨_, e, he, h3, h4⟩ := h2 f hf
        have := a5 e he (by omega)
        omega
theorem fold_flat {α β σ : Type} {f : α → List β} {g : σ → β → σ} : ∀ {l : List α} {s : σ}, (l.flatMap f).foldl g s = l.foldl (fun s a => (f a).foldl g s) s
  | [], _ => rfl
  | a :: l, s => by rw [List.flatMap_cons, List.foldl_append, fold_flat, List.foldl_cons]
/-- What one story says. -/
def stoU (E : List Ev) (st : DSt) (s : List Int) : DSt := (stoE E s).foldl putE st
theorem stoE_k : ∀ {E : List Ev} {s : List Int} {e : Ev}, e ∈ stoE E s → ∃ f ∈ E, f.k = e.k
  | [], s, e, h => by simp [stoE] at h
  | a :: t, [], e, h => by simp [stoE] at h
  | a :: t, d :: r, e, h => by
    rcases List.mem_cons.1 h with rfl | h
    · exact ⟨a, by simp, rfl⟩
    · obtain ⟨f, hf, h2⟩ := stoE_k h
      exact ⟨f, by simp [hf], h2⟩
theorem raw_k {mk lo hi : Int} {ls : List Lk} {o : List Int} {n : Nat} (ho : ∀ k ∈ o, 0 ≤ k ∧ k < n) : ∀ e ∈ raw mk lo hi ls o, slotOk n e.k := by
  intro e he
  rcases List.mem_cons.1 he with rfl | he
  · exact .inl rfl
  · obtain ⟨k, hk, rfl⟩ := List.mem_map.1 he
    exact .inr (ho k hk)
theorem stoE_raw : ∀ {E F : List Ev} {s : List Int}, E.map (fun e => (e.k, e.o)) = F.map (fun e => (e.k, e.o)) → stoE E s = stoE F s ∧ ∀ x h, hoS E s x h = hoS F s x h
  | [], [], s, _ => ⟨rfl, fun _ _ => rfl⟩
  | [], _ :: _, _, h => by simp at h
  | _ :: _, [], _, h => by simp at h
  | e :: t, f :: r, [], h => ⟨rfl, fun _ _ => rfl⟩
  | e :: t, f :: r, d :: s, h => by
    simp only [List.map_cons, List.cons.injEq, Prod.mk.injEq] at h
    obtain ⟨ih1, ih2⟩ := stoE_raw (s := s) h.2
    refine ⟨by rw [stoE, stoE, ih1, h.1.1, h.1.2], fun x y => ?_⟩
    rw [hoS, hoS, ih2, h.1.2]
theorem up_raw {ls : List Lk} : ∀ {o : List Int} {p : Int}, (upL ls p o).map (fun e => (e.k, e.o)) = (rawL ls o).map (fun e => (e.k, e.o))
  | [], _ => rfl
  | k :: t, p => by
    have := up_raw (ls := ls) (o := t) (p := max ls[k.toNat]!.lo (p + 1))
    simp only [upL, rawL, List.map_cons] at this ⊢
    rw [this]
theorem evs_raw {mk lo hi : Int} {ls : List Lk} {o : List Int} : (evs0 mk lo hi ls o).map (fun e => (e.k, e.o)) = (raw mk lo hi ls o).map (fun e => (e.k, e.o)) := by
  unfold evs0 raw
  rw [List.map_cons, List.map_cons, up_raw]
/-- All stories of an order say what its events say. -/
theorem sto_days {mk lo hi : Int} {ls : List Lk} {o : List Int} {st : DSt} (h0 : 0 ≤ lo) (h1 : lo ≤ hi) (hc : ChainO ls mk lo o) (hn : st.2.length = ls.length) :
    (stoF (raw mk lo hi ls o) (-1)).foldl (stoU (raw mk lo hi ls o)) st = dayO mk lo hi ls st o := by
  have hok := evs_ok h1 hc
  have hinc : Incr (evs0 mk lo hi ls o) := upL_incr (a := ⟨-1, mk, lo, hi⟩)
  have hhead : ∀ e t, evs0 mk lo hi ls o = e :: t → -1 < e.lo := fun e t h => by
    cases h; show -1 < lo; omega
  have hrk := raw_k (mk := mk) (lo := lo) (hi := hi) (ls := ls) (o := o) (n := ls.length) hc.mem
  have hse : ∀ s, stoE (evs0 mk lo hi ls o) s = stoE (raw mk lo hi ls o) s := fun s => (stoE_raw evs_raw).1
  have hek : ∀ e ∈ evsL mk lo hi ls o, slotOk st.2.length e.k := fun e he => by
    rw [hn]
    exact evs_kin hc.mem e he
  have : (stoF (raw mk lo hi ls o) (-1)).foldl (stoU (raw mk lo hi ls o)) st = ((stoF (raw mk lo hi ls o) (-1)).flatMap (stoE (raw mk lo hi ls o))).foldl putE st := by
    rw [fold_flat]; rfl
  rw [this]
  unfold dayO
  refine cofinal (fun e he => ?_) hek (fun e he => ?_) (fun f hf => ?_)
  · obtain ⟨s, _, he⟩ := List.mem_flatMap.1 he
    obtain ⟨f, hf, h⟩ := stoE_k he
    rw [← h, hn]
    exact hrk f hf
  · obtain ⟨s, hs, he⟩ := List.mem_flatMap.1 he
    rw [stoF_mem, sto_evs] at hs
    rw [← hse] at he
    exact (sto_in hs).2 e he
  · have hlh := hok f hf
    constructor
    · obtain ⟨s, hs, hm⟩ := sto_day hinc hhead hok f hf f.lo (Int.le_refl _) hlh
      rw [hse] at hm
      exact ⟨_, List.mem_flatMap.2 ⟨s, stoF_mem.2 (sto_evs.2 hs), hm⟩, rfl, Int.le_refl _⟩
    · obtain ⟨s, hs, hm⟩ := sto_day hinc hhead hok f hf f.hi hlh (Int.le_refl _)
      rw [hse] at hm
      exact ⟨_, List.mem_flatMap.2 ⟨s, stoF_mem.2 (sto_evs.2 hs), hm⟩, rfl, Int.le_refl _⟩
theorem sto_who {mk lo hi x y : Int} {ls : List Lk} {o : List Int} (h0 : 0 ≤ lo) (h1 : lo ≤ hi) (hc : ChainO ls mk lo o) :
    (∃ s ∈ stoF (raw mk lo hi ls o) (-1), hoS (raw mk lo hi ls o) s x (-1) = y) ↔ y ∈ gathK x [] (-1) (evsL mk lo hi ls o) := by
  have hok := evs_ok h1 hc
  have hinc : Incr (evs0 mk lo hi ls o) := upL_incr (a := ⟨-1, mk, lo, hi⟩)
  have hhead : ∀ e t, evs0 mk lo hi ls o = e :: t → -1 < e.lo := fun e t h => by
    cases h; show -1 < lo; omega
  have := sto_hold (x := x) (y := y) (h := -1) hinc hhead hok
  rw [show evsL mk lo hi ls o = downL (evs0 mk lo hi ls o) from rfl, ← this]
  constructor
  · rintro ⟨s, hs, hy⟩
    exact ⟨s, sto_evs.1 (stoF_mem.1 hs), by rw [(stoE_raw evs_raw).2]; exact hy⟩
  · rintro ⟨s, hs, hy⟩
    exact ⟨s, stoF_mem.2 (sto_evs.2 hs), by rw [← (stoE_raw evs_raw).2]; exact hy⟩
/-- The links of an order follow one another. -/
def linkB (ls : List Lk) : Int → List Int → Bool
  | _, [] => true
  | o, k :: t => decide (ls[k.toNat]!.f = o) && linkB ls ls[k.toNat]!.t t
def chB (ls : List Lk) : Int → Int → List Int → Bool
  | _, _, [] => true
  | o, d, k :: t => decide (ls[k.toNat]!.f = o) && (decide (soon d ls[k.toNat]! ≤ ls[k.toNat]!.hi) && chB ls ls[k.toNat]!.t (soon d ls[k.toNat]!) t)
theorem chB_iff {ls : List Lk} : ∀ {t : List Int} {o d : Int}, (∀ k ∈ t, 0 ≤ k ∧ k < ls.length) → (chB ls o d t = true ↔ ChainO ls o d t)
  | [], _, _, _ => by simp [chB, ChainO]
  | k :: t, o, d, h => by
    have ih := chB_iff (ls := ls) (t := t) (o := ls[k.toNat]!.t) (d := soon d ls[k.toNat]!) fun x hx => h x (by simp [hx])
    simp only [chB, ChainO, Bool.and_eq_true, decide_eq_true_eq, ih]
    constructor
    · rintro ⟨h1, h2, h3⟩; exact ⟨h k (by simp), h1, h2, h3⟩
    · rintro ⟨_, h1, h2, h3⟩; exact ⟨h1, h2, h3⟩
theorem link_chain {ls : List Lk} : ∀ {t : List Int} {o p : Int}, (∀ k ∈ t, 0 ≤ k ∧ k < ls.length) → linkB ls o t = true → (∀ e ∈ upL ls p t, e.lo ≤ e.hi) → ChainO ls o p t
  | [], _, _, _, _, _ => trivial
  | k :: t, o, p, hk, hl, he => by
    simp only [linkB, Bool.and_eq_true, decide_eq_true_eq] at hl
    have hs : soon p ls[k.toNat]! = max ls[k.toNat]!.lo (p + 1) := by unfold soon; omega
    have h1 := he _ (by simp only [upL]; exact List.mem_cons_self ..)
    refine ⟨hk k (by simp), hl.1, by rw [hs]; exact h1, ?_⟩
    rw [hs]
    exact link_chain (fun x hx => hk x (by simp [hx])) hl.2 fun e hx => he e (by simp only [upL]; exact List.mem_cons_of_mem _ hx)
theorem chain_link {ls : List Lk} : ∀ {t : List Int} {o p : Int}, ChainO ls o p t → linkB ls o t = true
  | [], _, _, _ => rfl
  | k :: t, o, p, h => by
    obtain ⟨_, h1, _, h2⟩ := h
    simp only [linkB, Bool.and_eq_true, decide_eq_true_eq]
    exact ⟨h1, chain_link h2⟩
theorem sto_ok : ∀ {E : List Ev} {p : Int} {s : List Int}, IsSto E p s → ∀ e ∈ E, e.lo ≤ e.hi
  | [], _, _, _, e, he => by cases he
  | a :: t, p, s, h, e, he => by
    obtain ⟨d, r, _, h1, h2, _, h4⟩ := h
    rcases List.mem_cons.1 he with rfl | he
    · omega
    · exact sto_ok h4 e he
theorem some_chain {mk lo hi : Int} {ls : List Lk} {o : List Int} (h0 : 0 ≤ lo) (h1 : lo ≤ hi) (ho : ∀ k ∈ o, 0 ≤ k ∧ k < ls.length) : (linkB ls mk o = true ∧ stoF (raw mk lo hi ls o) (-1) ≠ []) ↔ ChainO ls mk lo o := by
  constructor
  · rintro ⟨h2, h3⟩
    obtain ⟨s, hs⟩ := List.exists_mem_of_ne_nil _ h3
    rw [stoF_mem, sto_evs] at hs
    exact link_chain ho h2 fun e he => sto_ok hs e (List.mem_cons_of_mem _ he)
  · intro hc
    refine ⟨chain_link hc, fun h => ?_⟩
    have hok := evs_ok h1 hc
    have := sto_late (E := evs0 mk lo hi ls o) (p := -1) (fun f r hf => by
      obtain ⟨h, hd, hh⟩ := downL_ex (e := ⟨-1, mk, lo, hi⟩) (t := upL ls lo o)
      have hd' : downL (evs0 mk lo hi ls o) = _ := hd
      rw [hd'] at hf
      cases hf
      have := hok _ (show (⟨-1, mk, lo, h⟩ : Ev) ∈ evsL mk lo hi ls o by show _ ∈ downL (evs0 mk lo hi ls o); rw [hd']; exact List.mem_cons_self ..)
      simp only at this ⊢
      omega) hok
    rw [← sto_evs, ← stoF_mem, h] at this
    cases this
/-- All lists that begin so, of so many numbers more, each once. -/
def genI (n : Nat) : Nat → List Int → List (List Int)
  | 0, pre => [pre]
  | r + 1, pre => (List.range n).flatMap fun (x : Nat) => if (x : Int) ∈ pre then [] else genI n r (pre ++ [(x : Int)])
def extI (n : Nat) (pre : List Int) : List (List Int) := (List.range n).flatMap fun (x : Nat) => if (x : Int) ∈ pre then [] else [pre ++ [(x : Int)]]
theorem flat_congr {α β : Type} {f g : α → List β} : ∀ {l : List α}, (∀ a ∈ l, f a = g a) → l.flatMap f = l.flatMap g
  | [], _ => rfl
  | a :: l, h => by rw [List.flatMap_cons, List.flatMap_cons, h a (by simp), flat_congr fun b hb => h b (by simp [hb])]
theorem genI_snoc {n : Nat} : ∀ {r : Nat} {pre : List Int}, genI n (r + 1) pre = (genI n r pre).flatMap (extI n)
  | 0, pre => by simp [genI, extI]
  | r + 1, pre => by
    rw [genI, show genI n (r + 1) pre = (List.range n).flatMap fun (x : Nat) => if (x : Int) ∈ pre then [] else genI n r (pre ++ [(x : Int)]) from rfl, List.flatMap_assoc]
    refine flat_congr fun x _ => ?_
    split
    · rfl
    · exact genI_snoc
theorem genI_mem {n : Nat} : ∀ {r : Nat} {pre w : List Int}, w ∈ genI n r pre → ∃ t, w = pre ++ t ∧ t.length = r ∧ ∀ k ∈ t, 0 ≤ k ∧ k < n
  | 0, pre, w, h => by
    simp only [genI, List.mem_singleton] at h
    exact ⟨[], by simp [h], rfl, fun k hk => by cases hk⟩
  | r + 1, pre, w, h => by
    obtain ⟨x, hx, h⟩ := List.mem_flatMap.1 h
    rw [List.mem_range] at hx
    split at h
    · cases h
    · obtain ⟨t, rfl, h1, h2⟩ := genI_mem h
      refine ⟨(x : Int) :: t, by simp, by simp [h1], fun k hk => ?_⟩
      rcases List.mem_cons.1 hk with rfl | hk
      · omega
      · exact h2 k hk
theorem grow_filter {ls : List Lk} : ∀ {r : Nat} {pre : List Int} {o d : Int}, growL ls r pre o d = (genI ls.length r pre).filter fun w => chB ls o d (w.drop pre.length)
  | 0, pre, o, d => by simp [growL, genI, chB]
  | r + 1, pre, o, d => by
    simp only [growL, genI]
    rw [List.filter_flatMap]
    refine flat_congr fun x hx => ?_
    by_cases hm : (x : Int) ∈ pre
    · rw [if_pos hm, show takesB ls pre o d x = false by simp [takesB, hm]]
      rfl
    · rw [if_neg hm]
      have ih := grow_filter (ls := ls) (r := r) (pre := pre ++ [(x : Int)]) (o := ls[x]!.t) (d := soon d ls[x]!)
      have hdrop : ∀ w ∈ genI ls.length r (pre ++ [(x : Int)]), w.drop pre.length = (x : Int) :: w.drop (pre ++ [(x : Int)]).length := fun w hw => by
        obtain ⟨t, rfl, _, _⟩ := genI_mem hw
        rw [List.drop_left, List.append_assoc, List.drop_left]; rfl
      by_cases ht : takesB ls pre o d x = true
      · rw [if_pos ht, ih]
        apply List.filter_congr
        intro w hw
        simp only [takesB, Bool.and_eq_true, decide_eq_true_eq] at ht
        rw [hdrop w hw, chB, Int.toNat_natCast, decide_eq_true ht.1, decide_eq_true ht.2.1]
        simp
      · rw [if_neg ht]
        symm
        rw [List.filter_eq_nil_iff]
        intro w hw
        rw [hdrop w hw, chB, Int.toNat_natCast]
        intro h
        simp only [Bool.and_eq_true, decide_eq_true_eq] at h
        apply ht
        simp only [takesB, Bool.and_eq_true, decide_eq_true_eq, Bool.not_eq_true', decide_eq_false_iff_not]
        exact ⟨h.1, h.2.1, hm⟩
theorem due_orders {mk lo hi : Int} {ls : List Lk} (h0 : 0 ≤ lo) (h1 : lo ≤ hi) : (genI ls.length ls.length []).filter (fun w => linkB ls mk w && !(stoF (raw mk lo hi ls w) (-1)).isEmpty) = ordersL mk lo ls := by
  unfold ordersL
  rw [grow_filter]
  apply List.filter_congr
  intro w hw
  obtain ⟨t, ht, _, h2⟩ := genI_mem hw
  rw [List.nil_append] at ht
  subst ht
  rw [List.length_nil, List.drop_zero]
  have h3 := some_chain (mk := mk) (hi := hi) h0 h1 h2
  rw [← chB_iff h2] at h3
  rw [Bool.eq_iff_iff, ← h3]
  simp
/-- With what was known of Made before. -/
theorem put_merge : ∀ {A : List Ev} {m m' : Int × Int} {L : List (Int × Int)}, A.foldl putE ((min m.1 m'.1, max m.2 m'.2), L) = ((min m.1 (A.foldl putE (m', L)).1.1, max m.2 (A.foldl putE (m', L)).1.2), (A.foldl putE (m', L)).2)
  | [], _, _, _ => rfl
  | e :: A, m, m', L => by
    rw [List.foldl_cons, List.foldl_cons]
    by_cases h : e.k = -1
    · have e1 : putE ((min m.1 m'.1, max m.2 m'.2), L) e = ((min m.1 (min m'.1 e.lo), max m.2 (max m'.2 e.hi)), L) := by
        unfold putE
        rw [if_pos h]
        refine Prod.ext (Prod.ext ?_ ?_) rfl
        · show min (min m.1 m'.1) e.lo = min m.1 (min m'.1 e.lo); omega
        · show max (max m.2 m'.2) e.hi = max m.2 (max m'.2 e.hi); omega
      have e2 : putE (m', L) e = ((min m'.1 e.lo, max m'.2 e.hi), L) := by unfold putE; rw [if_pos h]
      rw [e1, e2]
      exact put_merge (m := m) (m' := (min m'.1 e.lo, max m'.2 e.hi))
    · have e1 : ∀ q : Int × Int, putE (q, L) e = (q, L.set e.k.toNat (min (L[e.k.toNat]!).1 e.lo, max (L[e.k.toNat]!).2 e.hi)) := fun q => by unfold putE; rw [if_neg h]
      rw [e1, e1]
      exact put_merge
end Go.Proofs.Ytijimplcjaeneaa
