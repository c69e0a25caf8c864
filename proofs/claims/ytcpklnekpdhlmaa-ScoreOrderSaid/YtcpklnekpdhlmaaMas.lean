
/- Finer partitions: what follows from lists alone. -/
import Derived.Test.YtcpklnekpdhlmaaA7s
set_option linter.unusedVariables false
set_option linter.unusedSimpArgs false
namespace Go.Proofs.Ytcpklnekpdhlmaa
open Go.AI

def Ker (l : List (Int × Int)) : Prop := ∀ p ∈ l, ∀ q ∈ l, p.1 = q.1 ↔ p.2 = q.2
theorem Ker.sub {l l' : List (Int × Int)} (h : Ker l) (hs : ∀ p ∈ l', p ∈ l) : Ker l' := fun p hp q hq => h p (hs p hp) q (hs q hq)
theorem ker_mem {x y : Int} : ∀ {m : List (Int × Int)}, (∀ p ∈ m, p.1 = x ↔ p.2 = y) → (x ∈ m.map Prod.fst ↔ y ∈ m.map Prod.snd) ∧ (m.map Prod.fst).idxOf x = (m.map Prod.snd).idxOf y
  | [], _ => ⟨by simp, rfl⟩
  | p :: m, h => by
    have hp := h p (by simp)
    obtain ⟨h1, h2⟩ := ker_mem (m := m) fun q hq => h q (by simp [hq])
    refine ⟨?_, ?_⟩
    · rw [List.map_cons, List.map_cons, List.mem_cons, List.mem_cons, h1, eq_comm, hp, eq_comm]
    · rw [List.map_cons, List.map_cons, List.idxOf_cons, List.idxOf_cons, h2]
      by_cases hx : p.1 = x
      · rw [show (p.1 == x) = true by simpa using hx, show (p.2 == y) = true by simpa using hp.1 hx]
      · rw [show (p.1 == x) = false by simpa using hx, show (p.2 == y) = false by simpa using fun hy => hx (hp.2 hy)]
theorem num_ker : ∀ (l m : List (Int × Int)), Ker (m ++ l) → num (l.map Prod.fst) (m.map Prod.fst) = num (l.map Prod.snd) (m.map Prod.snd)
  | [], _, _ => rfl
  | p :: l, m, h => by
    obtain ⟨h1, h2⟩ := ker_mem (m := m) (x := p.1) (y := p.2) fun q hq => h q (by simp [hq]) p (by simp)
    rw [List.map_cons, List.map_cons, num, num]
    by_cases hx : p.1 ∈ m.map Prod.fst
    · rw [if_pos hx, if_pos (h1.1 hx), h2, num_ker l m (h.sub fun q hq => by simp at hq ⊢; rcases hq with h | h <;> simp [h])]
    · rw [if_neg hx, if_neg (fun hy => hx (h1.2 hy))]
      have := num_ker l (m ++ [p]) (h.sub fun q hq => by simp at hq ⊢; rcases hq with h | h | h <;> simp [h])
      rw [List.map_append, List.map_append] at this
      rw [List.length_map, List.length_map]
      exact congrArg _ this

theorem Fine.all {xs ys : List Int} (h : Fine xs ys) {i j : Nat} (hi : i < xs.length) (hj : j < xs.length) (he : xs[i]! = xs[j]!) : ys[i]! = ys[j]! := by
  rcases Nat.lt_trichotomy i j with hij | hij | hij
  · exact (h j i hij hj he.symm).symm
  · subst hij; rfl
  · exact h i j hij hi he
theorem Fine.refl (xs : List Int) : Fine xs xs := fun _ _ _ _ h => h
theorem Fine.trans {xs ys zs : List Int} (h : Fine xs ys) (hl : xs.length = ys.length) (k : Fine ys zs) : Fine xs zs := fun i j hij hi he => k i j hij (by omega) (h i j hij hi he)
theorem mem_zip {xs ys : List Int} (hl : xs.length = ys.length) {p : Int × Int} (hp : p ∈ xs.zip ys) : ∃ i, i < xs.length ∧ p = (xs[i]!, ys[i]!) := by
  obtain ⟨i, hi, rfl⟩ := List.mem_iff_getElem.1 hp
  have h1 : i < xs.length := by simp at hi; omega
  exact ⟨i, h1, by rw [List.getElem_zip, getElem!_pos xs i h1, getElem!_pos ys i (by omega)]⟩
theorem ker_zip {xs ys : List Int} (hl : xs.length = ys.length) (h1 : Fine xs ys) (h2 : Fine ys xs) : Ker (xs.zip ys) := by
  intro p hp q hq
  obtain ⟨i, hi, rfl⟩ := mem_zip hl hp
  obtain ⟨j, hj, rfl⟩ := mem_zip hl hq
  exact ⟨fun h => h1.all hi hj h, fun h => h2.all (by omega) (by omega) h⟩
theorem num_of_fine {xs ys : List Int} (hl : xs.length = ys.length) (h1 : Fine xs ys) (h2 : Fine ys xs) : num xs [] = num ys [] := by
  have := num_ker (xs.zip ys) [] (by simpa using ker_zip hl h1 h2)
  rwa [List.map_fst_zip (by omega), List.map_snd_zip (by omega)] at this

/-- The first numbers. -/
def rg (b : Nat) : List Int := (List.range b).map Int.ofNat
theorem rg_succ (b : Nat) : rg (b + 1) = rg b ++ [(b : Int)] := by simp [rg, List.range_succ]
theorem rg_length (b : Nat) : (rg b).length = b := by simp [rg]
theorem mem_rg {b : Nat} {x : Int} : x ∈ rg b ↔ 0 ≤ x ∧ x < b := by
  simp only [rg, List.mem_map, List.mem_range]
  constructor
  · rintro ⟨n, h, rfl⟩; exact ⟨by simp, by simpa using h⟩
  · rintro ⟨h0, h1⟩; exact ⟨x.toNat, by omega, by simp; omega⟩
theorem rg_idx : ∀ (b x : Nat), x < b → (rg b).idxOf (x : Int) = x
  | b + 1, x, h => by
    rw [rg_succ, List.idxOf_append]
    by_cases hx : x < b
    · rw [if_pos (mem_rg.2 ⟨by simp, by omega⟩), rg_idx b x hx]
    · have : x = b := by omega
      subst this
      rw [if_neg (fun h => by have := (mem_rg.1 h).2; omega), rg_length]
      simp
theorem canon : ∀ (xs : List Int) (b : Nat), checkFrom xs b = 0 → num xs (rg b) = xs ∧ ∃ c, fin xs (rg b) = rg c
  | [], b, _ => ⟨rfl, b, rfl⟩
  | x :: r, b, h => by
    rw [checkFrom] at h
    split at h
    · cases h
    split at h
    · cases h
    rename_i h1 h2
    rw [num, fin]
    by_cases hx : x < b
    · have hm : x ∈ rg b := mem_rg.2 ⟨by omega, hx⟩
      obtain ⟨n, rfl⟩ : ∃ n : Nat, x = n := ⟨x.toNat, by omega⟩
      rw [show max (b : Int) (n + 1) = b by omega] at h
      obtain ⟨h3, h4⟩ := canon r b h
      rw [if_pos hm, if_pos hm, rg_idx b n (by omega), h3]
      exact ⟨rfl, h4⟩
    · have hx' : x = b := by omega
      subst hx'
      have hm : ¬ (b : Int) ∈ rg b := fun h => by have := (mem_rg.1 h).2; omega
      rw [show max (b : Int) (b + 1) = (b + 1 : Nat) by omega] at h
      obtain ⟨h3, h4⟩ := canon r (b + 1) h
      rw [rg_succ] at h3 h4
      rw [if_neg hm, if_neg hm, rg_length, h3]
      exact ⟨rfl, h4⟩
theorem check_from {xs : List Int} (h : check xs = 0) : checkFrom xs 0 = 0 ∧ 0 < xs.length ∧ xs.length ≤ 9 := by
  unfold check at h
  split at h
  · cases h
  · split at h
    · cases h
    · exact ⟨h, by omega, by omega⟩
theorem num_canon {xs : List Int} (h : check xs = 0) : num xs [] = xs := (canon xs 0 (check_from h).1).1
theorem fine_num {xs : List Int} : Fine xs (num xs []) := fun i j hij hi he => (num_eq hi (by omega)).2 he
theorem num_fine {xs : List Int} : Fine (num xs []) xs := fun i j hij hi he => (num_eq (by rw [num_length] at hi; exact hi) (by rw [num_length] at hi; omega)).1 he
theorem eq_of_fine {xs ys : List Int} (hx : check xs = 0) (hy : check ys = 0) (hl : xs.length = ys.length) (h1 : Fine xs ys) (h2 : Fine ys xs) : xs = ys := by
  rw [← num_canon hx, ← num_canon hy]; exact num_of_fine hl h1 h2

/-- How many blocks there are. -/
def blkFrom : List Int → Int → Int
  | [], n => n
  | x :: r, n => blkFrom r (max n (x + 1))
theorem blk_fin : ∀ (xs : List Int) (b : Nat), checkFrom xs b = 0 → blkFrom xs b = ((fin xs (rg b)).length : Nat)
  | [], b, _ => by rw [blkFrom, fin, rg_length]
  | x :: r, b, h => by
    rw [checkFrom] at h
    split at h
    · cases h
    split at h
    · cases h
    rename_i h1 h2
    rw [blkFrom, fin]
    by_cases hx : x < b
    · have hm : x ∈ rg b := mem_rg.2 ⟨by omega, hx⟩
      rw [show max (b : Int) (x + 1) = b by omega] at h ⊢
      rw [if_pos hm]; exact blk_fin r b h
    · have hx' : x = b := by omega
      subst hx'
      have hm : ¬ (b : Int) ∈ rg b := fun h => by have := (mem_rg.1 h).2; omega
      rw [show max (b : Int) (b + 1) = (b + 1 : Nat) by omega] at h ⊢
      rw [if_neg hm, ← rg_succ]; exact blk_fin r (b + 1) h
theorem fin_le : ∀ (l d : List (Int × Int)) (m1 m2 : List Int), (∀ x, x ∈ m1 ↔ x ∈ d.map Prod.fst) → (∀ y, y ∈ m2 ↔ y ∈ d.map Prod.snd) → m2.length ≤ m1.length →
    (∀ p ∈ d ++ l, ∀ q ∈ d ++ l, p.1 = q.1 → p.2 = q.2) → (fin (l.map Prod.snd) m2).length ≤ (fin (l.map Prod.fst) m1).length
  | [], _, _, _, _, _, h, _ => h
  | p :: l, d, m1, m2, h1, h2, hl, hk => by
    have hsub : ∀ p' ∈ (d ++ [p]) ++ l, ∀ q ∈ (d ++ [p]) ++ l, p'.1 = q.1 → p'.2 = q.2 := by
      intro a ha b hb
      exact hk a (by simp at ha ⊢; rcases ha with h | h | h <;> simp [h]) b (by simp at hb ⊢; rcases hb with h | h | h <;> simp [h])
    have ho : p.1 ∈ m1 → p.2 ∈ m2 := by
      intro hp
      obtain ⟨q, hq, he⟩ := List.mem_map.1 ((h1 _).1 hp)
      rw [h2, ← hk q (by simp [hq]) p (by simp) he]
      exact List.mem_map_of_mem hq
    rw [List.map_cons, List.map_cons, fin, fin]
    by_cases hx : p.1 ∈ m1
    · rw [if_pos hx, if_pos (ho hx)]
      refine fin_le l (d ++ [p]) m1 m2 ?_ ?_ hl hsub
      · intro x; rw [h1, List.map_append]; simp; rintro rfl; simpa using (h1 _).1 hx
      · intro x; rw [h2, List.map_append]; simp; rintro rfl; simpa using (h2 _).1 (ho hx)
    · rw [if_neg hx]
      have g1 : ∀ x, x ∈ m1 ++ [p.1] ↔ x ∈ (d ++ [p]).map Prod.fst := fun x => by rw [List.mem_append, h1, List.map_append, List.mem_append]; simp
      by_cases hy : p.2 ∈ m2
      · rw [if_pos hy]
        refine fin_le l (d ++ [p]) _ m2 g1 ?_ (by simp; omega) hsub
        intro x; rw [h2, List.map_append]; simp; rintro rfl; simpa using (h2 _).1 hy
      · rw [if_neg hy]
        refine fin_le l (d ++ [p]) _ _ g1 ?_ (by simp; omega) hsub
        intro x; rw [List.mem_append, h2, List.map_append, List.mem_append]; simp
theorem blk_le {xs ys : List Int} (hx : check xs = 0) (hy : check ys = 0) (hl : xs.length = ys.length) (h : Fine xs ys) : blkFrom ys 0 ≤ blkFrom xs 0 := by
  have e1 := blk_fin xs 0 (check_from hx).1
  have e2 := blk_fin ys 0 (check_from hy).1
  simp only [Int.natCast_zero] at e1 e2
  rw [e1, e2]
  have := fin_le (xs.zip ys) [] [] [] (by simp) (by simp) (by simp) (by
    intro p hp q hq he
    obtain ⟨i, hi, rfl⟩ := mem_zip hl (by simpa using hp)
    obtain ⟨j, hj, rfl⟩ := mem_zip hl (by simpa using hq)
    exact h.all hi hj he)
  rw [List.map_fst_zip (by omega), List.map_snd_zip (by omega)] at this
  exact_mod_cast this

/-- One label becomes another one. -/
def rel (l : List Int) (a b : Int) : List Int := l.map fun x => if x = a then b else x
theorem rel_length (l : List Int) (a b : Int) : (rel l a b).length = l.length := by simp [rel]
theorem rel_at {l : List Int} {a b : Int} {i : Nat} (h : i < l.length) : (rel l a b)[i]! = if l[i]! = a then b else l[i]! := by
  rw [getElem!_pos _ i (by rw [rel_length]; exact h), getElem!_pos _ i h]; simp [rel]
theorem fine_rel (l : List Int) (a b : Int) : Fine l (rel l a b) := fun i j hij hi he => by rw [rel_at hi, rel_at (by omega), he]
theorem rel_fine {l t : List Int} {i j : Nat} (hi : i < l.length) (hj : j < l.length) (h : Fine l t) (ht : t[i]! = t[j]!) : Fine (rel l l[i]! l[j]!) t := by
  intro u w huw hu he
  rw [rel_length] at hu
  rw [rel_at hu, rel_at (by omega)] at he
  by_cases h1 : l[u]! = l[i]!
  · rw [if_pos h1] at he
    have e1 : t[u]! = t[i]! := h.all hu hi h1
    by_cases h2 : l[w]! = l[i]!
    · rw [e1, h.all (by omega) hi h2]
    · rw [if_neg h2] at he
      rw [e1, ht, h.all hj (by omega) he]
  · rw [if_neg h1] at he
    by_cases h2 : l[w]! = l[i]!
    · rw [if_pos h2] at he
      rw [h.all hu hj he, ← ht, h.all (by omega) hi h2]
    · rw [if_neg h2] at he
      exact h.all hu (by omega) he
/-- The least list that is coarser than both. -/
def IsJoin (a b s : List Int) : Prop := s.length = a.length ∧ Fine a s ∧ Fine b s ∧ ∀ t, Fine a t → Fine b t → Fine s t
theorem IsJoin.eq {a b s t : List Int} (h : IsJoin a b s) (k : IsJoin a b t) : num s [] = num t [] :=
  num_of_fine (by rw [h.1, k.1]) (h.2.2.2 t k.2.1 k.2.2.1) (k.2.2.2 s h.2.1 h.2.2.1)
end Go.Proofs.Ytcpklnekpdhlmaa
