
/- Picked out of A3.tpl A7.tpl Ma.tpl Sd.tpl Se.tpl. -/
import Derived.Test.YtlpkbcgdcimglaaGad
set_option linter.unusedVariables false
set_option linter.unusedSimpArgs false
namespace Go.Proofs.Ytlpkbcgdcimglaa.Sc
open Go.AI

/-- The labels that are met in the end. -/
def fin : List Int → List Int → List Int
  | [], met => met
  | x :: r, met => if x ∈ met then fin r met else fin r (met ++ [x])
theorem fin_pre : ∀ (xs met : List Int), ∃ l, fin xs met = met ++ l
  | [], met => ⟨[], by simp [fin]⟩
  | x :: r, met => by
    rw [fin]; split
    · exact fin_pre r met
    · obtain ⟨l, h⟩ := fin_pre r (met ++ [x]); exact ⟨x :: l, by simp [h]⟩
theorem fin_mem : ∀ (xs met : List Int) (x : Int), x ∈ xs → x ∈ fin xs met
  | y :: r, met, x, h => by
    rw [fin]
    rcases List.mem_cons.1 h with rfl | h
    · split
      · rename_i hm; obtain ⟨l, hl⟩ := fin_pre r met; rw [hl]; simp [hm]
      · obtain ⟨l, hl⟩ := fin_pre r (met ++ [x]); rw [hl]; simp
    · split
      · exact fin_mem r met x h
      · exact fin_mem r _ x h
theorem num_idx : ∀ (xs met : List Int), num xs met = xs.map fun x => (((fin xs met).idxOf x : Nat) : Int)
  | [], _ => rfl
  | x :: r, met => by
    rw [num, fin]
    split
    · rename_i hm
      rw [num_idx r met]
      obtain ⟨l, hl⟩ := fin_pre r met
      simp [hl, List.idxOf_append, hm]
    · rename_i hm
      rw [num_idx r (met ++ [x])]
      obtain ⟨l, hl⟩ := fin_pre r (met ++ [x])
      simp [hl, List.idxOf_append, hm]
theorem idx_inj {F : List Int} {x y : Int} (hx : x ∈ F) (hy : y ∈ F) (h : F.idxOf x = F.idxOf y) : x = y := by
  have h1 := List.getElem_idxOf (List.idxOf_lt_length_of_mem hx)
  have h2 := List.getElem_idxOf (List.idxOf_lt_length_of_mem hy)
  rw [← h1, ← h2]; simp only [h]
theorem num_eq {xs : List Int} {i k : Nat} (hi : i < xs.length) (hk : k < xs.length) : (num xs [])[i]! = (num xs [])[k]! ↔ xs[i]! = xs[k]! := by
  have h1 : i < (num xs []).length := by rw [num_length]; exact hi
  have h2 : k < (num xs []).length := by rw [num_length]; exact hk
  rw [getElem!_pos _ i h1, getElem!_pos _ k h2, getElem!_pos _ i hi, getElem!_pos _ k hk]
  simp only [num_idx xs []]
  simp only [List.getElem_map]
  constructor
  · intro h
    exact idx_inj (fin_mem xs [] _ (List.getElem_mem hi)) (fin_mem xs [] _ (List.getElem_mem hk)) (by exact_mod_cast h)
  · intro h; rw [h]
end Go.Proofs.Ytlpkbcgdcimglaa.Sc

namespace Go.Proofs.Ytlpkbcgdcimglaa.Sc
open Go.AI

/-- What is alike in one is alike in the other. -/
def Fine (xs ys : List Int) : Prop := ∀ i j : Nat, j < i → i < xs.length → xs[i]! = xs[j]! → ys[i]! = ys[j]!

end Go.Proofs.Ytlpkbcgdcimglaa.Sc

namespace Go.Proofs.Ytlpkbcgdcimglaa.Sc
open Go.AI

def Ker (l : List (Int × Int)) : Prop := ∀ p ∈ l, ∀ q ∈ l, p.1 = q.1 ↔ p.2 = q.2
theorem Ker.sub {l l' : List (Int × Int)} (h : Ker l) (hs : ∀ p ∈ l', p ∈ l) : Ker l' := fun p hp q hq => h p (hs p hp) q (hs q hq)
theorem ker_mem {x y : Int} : ∀ {m : List (Int × Int)}, (∀ p ∈ m, p.1 = x ↔ p.2 = y) → (x ∈ m.map Prod.fst ↔ y ∈ m.map Prod.snd) ∧ (m.map Prod.fst).idxOf x = (m.map Prod.snd).idxOf y
  | [], _ => ⟨by simp, rfl⟩
  | p :: m, h => by
    have hp := h p (by simp)
    obtain ⟨h1, h2⟩ := ker_mem (m := m) fun q hq => h q (by simp [hq])
    refine ⟨?_, ?_⟩
    · rw [List.map_cons, List.map_cons, List.mem_cons, List.mem_cons, h1, eq_comm, hp, eq_comm]
    · rw [List.map_cons, List.map_cons, List.idxOf_cons, List.idxOf_cons, h2]
      by_cases hx : p.1 = x
      · rw [show (p.1 == x) = true by simpa using hx, show (p.2 == y) = true by simpa using hp.1 hx]
      · rw [show (p.1 == x) = false by simpa using hx, show (p.2 == y) = false by simpa using fun hy => hx (hp.2 hy)]
theorem num_ker : ∀ (l m : List (Int × Int)), Ker (m ++ l) → num (l.map Prod.fst) (m.map Prod.fst) = num (l.map Prod.snd) (m.map Prod.snd)
  | [], _, _ => rfl
  | p :: l, m, h => by
    obtain ⟨h1, h2⟩ := ker_mem (m := m) (x := p.1) (y := p.2) fun q hq => h q (by simp [hq]) p (by simp)
    rw [List.map_cons, List.map_cons, num, num]
    by_cases hx : p.1 ∈ m.map Prod.fst
    · rw [if_pos hx, if_pos (h1.1 hx), h2, num_ker l m (h.sub fun q hq => by simp at hq ⊢; rcases hq with h | h <;> simp [h])]
    · rw [if_neg hx, if_neg (fun hy => hx (h1.2 hy))]
      have := num_ker l (m ++ [p]) (h.sub fun q hq => by simp at hq ⊢; rcases hq with h | h | h <;> simp [h])
      rw [List.map_append, List.map_append] at this
      rw [List.length_map, List.length_map]
      exact congrArg _ this

theorem Fine.all {xs ys : List Int} (h : Fine xs ys) {i j : Nat} (hi : i < xs.length) (hj : j < xs.length) (he : xs[i]! = xs[j]!) : ys[i]! = ys[j]! := by
  rcases Nat.lt_trichotomy i j with hij | hij | hij
  · exact (h j i hij hj he.symm).symm
  · subst hij; rfl
  · exact h i j hij hi he
theorem mem_zip {xs ys : List Int} (hl : xs.length = ys.length) {p : Int × Int} (hp : p ∈ xs.zip ys) : ∃ i, i < xs.length ∧ p = (xs[i]!, ys[i]!) := by
  obtain ⟨i, hi, rfl⟩ := List.mem_iff_getElem.1 hp
  have h1 : i < xs.length := by simp at hi; omega
  exact ⟨i, h1, by rw [List.getElem_zip, getElem!_pos xs i h1, getElem!_pos ys i (by omega)]⟩
theorem ker_zip {xs ys : List Int} (hl : xs.length = ys.length) (h1 : Fine xs ys) (h2 : Fine ys xs) : Ker (xs.zip ys) := by
  intro p hp q hq
  obtain ⟨i, hi, rfl⟩ := mem_zip hl hp
  obtain ⟨j, hj, rfl⟩ := mem_zip hl hq
  exact ⟨fun h => h1.all hi hj h, fun h => h2.all (by omega) (by omega) h⟩
theorem num_of_fine {xs ys : List Int} (hl : xs.length = ys.length) (h1 : Fine xs ys) (h2 : Fine ys xs) : num xs [] = num ys [] := by
  have := num_ker (xs.zip ys) [] (by simpa using ker_zip hl h1 h2)
  rwa [List.map_fst_zip (by omega), List.map_snd_zip (by omega)] at this

/-- The first numbers. -/
def rg (b : Nat) : List Int := (List.range b).map Int.ofNat
theorem rg_succ (b : Nat) : rg (b + 1) = rg b ++ [(b : Int)] := by simp [rg, List.range_succ]
theorem rg_length (b : Nat) : (rg b).length = b := by simp [rg]
theorem mem_rg {b : Nat} {x : Int} : x ∈ rg b ↔ 0 ≤ x ∧ x < b := by
  simp only [rg, List.mem_map, List.mem_range]
  constructor
  · rintro ⟨n, h, rfl⟩; exact ⟨by simp, by simpa using h⟩
  · rintro ⟨h0, h1⟩; exact ⟨x.toNat, by omega, by simp; omega⟩
theorem rg_idx : ∀ (b x : Nat), x < b → (rg b).idxOf (x : Int) = x
  | b + 1, x, h => by
    rw [rg_succ, List.idxOf_append]
    by_cases hx : x < b
    · rw [if_pos (mem_rg.2 ⟨by simp, by omega⟩), rg_idx b x hx]
    · have : x = b := by omega
      subst this
      rw [if_neg (fun h => by have := (mem_rg.1 h).2; omega), rg_length]
      simp
theorem canon : ∀ (xs : List Int) (b : Nat), checkFrom xs b = 0 → num xs (rg b) = xs ∧ ∃ c, fin xs (rg b) = rg c
  | [], b, _ => ⟨rfl, b, rfl⟩
  | x :: r, b, h => by
    rw [checkFrom] at h
    split at h
    · cases h
    split at h
    · cases h
    rename_i h1 h2
    rw [num, fin]
    by_cases hx : x < b
    · have hm : x ∈ rg b := mem_rg.2 ⟨by omega, hx⟩
      obtain ⟨n, rfl⟩ : ∃ n : Nat, x = n := ⟨x.toNat, by omega⟩
      rw [show max (b : Int) (n + 1) = b by omega] at h
      obtain ⟨h3, h4⟩ := canon r b h
      rw [if_pos hm, if_pos hm, rg_idx b n (by omega), h3]
      exact ⟨rfl, h4⟩
    · have hx' : x = b := by omega
      subst hx'
      have hm : ¬ (b : Int) ∈ rg b := fun h => by have := (mem_rg.1 h).2; omega
      rw [show max (b : Int) (b + 1) = (b + 1 : Nat) by omega] at h
      obtain ⟨h3, h4⟩ := canon r (b + 1) h
      rw [rg_succ] at h3 h4
      rw [if_neg hm, if_neg hm, rg_length, h3]
      exact ⟨rfl, h4⟩
theorem num_canon {xs : List Int} (h : check xs = 0) : num xs [] = xs := (canon xs 0 (check_from h).1).1
theorem fine_num {xs : List Int} : Fine xs (num xs []) := fun i j hij hi he => (num_eq hi (by omega)).2 he
theorem num_fine {xs : List Int} : Fine (num xs []) xs := fun i j hij hi he => (num_eq (by rw [num_length] at hi; exact hi) (by rw [num_length] at hi; omega)).1 he
theorem eq_of_fine {xs ys : List Int} (hx : check xs = 0) (hy : check ys = 0) (hl : xs.length = ys.length) (h1 : Fine xs ys) (h2 : Fine ys xs) : xs = ys := by
  rw [← num_canon hx, ← num_canon hy]; exact num_of_fine hl h1 h2

end Go.Proofs.Ytlpkbcgdcimglaa.Sc

namespace Go.Proofs.Ytlpkbcgdcimglaa.Sc
open Go.AI
structure Same (ws us : List Int) : Prop where
  len : us.length = ws.length
  wr : ∀ i, i < ws.length → (ws[i]! = -1 ↔ us[i]! = -1)
  eq : ∀ i k, i < ws.length → k < ws.length → (ws[i]! = ws[k]! ↔ us[i]! = us[k]!)
variable {ts ws us : List Int}
theorem Same.wrt (h : Same ws us) {i : Nat} (hi : i < ws.length) : wrt ws i = wrt us i := by
  unfold Go.Proofs.Ytlpkbcgdcimglaa.Sc.wrt
  have := h.wr i hi
  by_cases h1 : ws[i]! = -1
  · rw [decide_eq_false (p := ws[i]! ≠ -1) (fun g => g h1), decide_eq_false (p := us[i]! ≠ -1) (fun g => g (this.1 h1))]
  · rw [decide_eq_true h1, decide_eq_true (p := us[i]! ≠ -1) (fun g => h1 (this.2 g))]
theorem Same.num (h : Same ws us) (h0 : 0 < ws.length) (h9 : ws.length ≤ 9) : num ws [] = num us [] := by
  have e := h.len
  refine eq_of_fine (check_of (by omega) (by omega)) (check_of (by omega) (by omega)) (by rw [num_length, num_length]; omega) (fun i j hij hi he => ?_) (fun i j hij hi he => ?_)
  · rw [num_length] at hi
    exact (num_eq (by omega) (by omega)).2 ((h.eq i j (by omega) (by omega)).1 ((num_eq (by omega) (by omega)).1 he))
  · rw [num_length] at hi
    exact (num_eq (by omega) (by omega)).2 ((h.eq i j (by omega) (by omega)).2 ((num_eq (by omega) (by omega)).1 he))
end Go.Proofs.Ytlpkbcgdcimglaa.Sc

namespace Go.Proofs.Ytlpkbcgdcimglaa.Sc
open Go.AI
variable {ts ws : List Int}
theorem self_pr {k i : Nat} : prR ts ts k i = true := by unfold prR; simp
theorem self_wg {k : Nat} : ∀ i, wgN ts ts k i = 0
  | 0 => rfl
  | i + 1 => by rw [wgN, self_wg i, self_pr]; simp
theorem self_nums (hp : ∀ i, i < ts.length → 0 ≤ ts[i]!) : ∀ i, i ≤ ts.length → pkN ts ts i = i ∧ wrN ts ts i = 0 ∧ stN ts ts i = i
  | 0, _ => ⟨rfl, rfl, rfl⟩
  | i + 1, hi => by
    obtain ⟨h1, h2, h3⟩ := self_nums hp i (by omega)
    have hw : wrt ts i = true := decide_eq_true (fun h => by have := hp i (by omega); omega)
    rw [pkN, wrN, stN, h1, h2, h3, hw, self_wg]
    simp
theorem wg_zero {k : Nat} : ∀ i, wgN ts ws k i = 0 → ∀ j, j < i → wrt ws j = true → prR ts ws k j = true
  | 0, _, j, hj, _ => by omega
  | i + 1, h, j, hj, hw => by
    rw [wgN] at h
    by_cases hji : j = i
    · subst hji
      cases hp : prR ts ws k j with
      | true => rfl
      | false => rw [hw, hp] at h; simp at h
    · exact wg_zero i (by omega) j (by omega) hw
theorem pk_all : ∀ i, pkN ts ws i = i → ∀ j, j < i → wrt ws j = true ∧ wgN ts ws j j = 0
  | 0, _, j, hj => by omega
  | i + 1, h, j, hj => by
    have := pk_le ts ws i
    rw [pkN] at h
    by_cases hc : wrt ws i = true ∧ wgN ts ws i i = 0
    · rw [if_pos hc] at h
      by_cases hji : j = i
      · subst hji; exact hc
      · exact pk_all i (by omega) j (by omega)
    · rw [if_neg hc] at h; omega
theorem prR_iff {k i : Nat} (h : prR ts ws k i = true) : ws[i]! = ws[k]! ↔ ts[i]! = ts[k]! := by
  unfold prR at h
  by_cases h1 : ws[i]! = ws[k]! <;> by_cases h2 : ts[i]! = ts[k]! <;> simp only [h1, h2, decide_true, decide_false] at h ⊢ <;> first | rfl | (simp at h)
theorem whole_same (hp : ∀ i, i < ts.length → 0 ≤ ts[i]!) (hl : ws.length = ts.length) (h : pkN ts ws ws.length = ws.length) : Same ts ws := by
  have ha := pk_all ws.length h
  have hw : ∀ i, i < ws.length → ws[i]! ≠ -1 := fun i hi => of_decide_eq_true (ha i hi).1
  have hlt : ∀ j i, j < i → i < ws.length → (ts[j]! = ts[i]! ↔ ws[j]! = ws[i]!) := fun j i hj hi => (prR_iff (wg_zero i (ha i hi).2 j hj (ha j (by omega)).1)).symm
  refine ⟨hl, fun i hi => ?_, fun i k hi hk => ?_⟩
  · have := hp i hi
    have := hw i (by omega)
    constructor
    · intro e; omega
    · intro e; exact absurd e this
  · rcases Nat.lt_trichotomy i k with h1 | h1 | h1
    · exact hlt i k h1 (by omega)
    · subst h1; exact ⟨fun _ => rfl, fun _ => rfl⟩
    · have := hlt k i h1 (by omega)
      exact ⟨fun e => (this.1 e.symm).symm, fun e => (this.2 e.symm).symm⟩
theorem num_own (ct : check ts = 0) : num ts [] = ts := by
  have c9 := check_len ct
  exact eq_of_fine (check_of (by omega) (by omega)) ct (num_length _ _) num_fine fine_num
end Go.Proofs.Ytlpkbcgdcimglaa.Sc

