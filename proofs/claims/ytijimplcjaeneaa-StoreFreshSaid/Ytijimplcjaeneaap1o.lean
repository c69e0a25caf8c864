
/- All partitions of a few packets: pure. -/
import Derived.Test.Ytijimplcjaeneaap0o
set_option linter.unusedVariables false
set_option linter.unusedSimpArgs false
namespace Go.Proofs.Ytijimplcjaeneaa
open Go.AI
/-- How many blocks. -/
def blkFrom : List Int → Int → Int
  | [], n => n
  | x :: r, n => blkFrom r (max n (x + 1))
theorem blk_tak : ∀ {l : List Int} {m : Nat}, (∀ x ∈ l, 0 ≤ x) → blkFrom l m = (l.foldl (fun (m : Nat) (x : Int) => max m (x.toNat + 1)) m : Nat)
  | [], _, _ => rfl
  | x :: r, m, h => by
    have hx := h x (by simp)
    rw [blkFrom, List.foldl_cons, ← blk_tak fun y hy => h y (by simp [hy])]
    congr 1
    omega
/-- The next list, if its last change is at a place or before. -/
def nxF (xs : List Int) : Nat → Option (List Int)
  | 0 => none
  | i + 1 => if xs[i + 1]! < blkFrom (xs.take (i + 1)) 0 then some (xs.take (i + 1) ++ (xs[i + 1]! + 1) :: List.replicate (xs.length - (i + 2)) 0) else nxF xs i
def nxO (xs : List Int) : Option (List Int) := nxF xs (xs.length - 1)
theorem take_bound {xs : List Int} (h : ∀ i, i < xs.length → 0 ≤ xs[i]! ∧ xs[i]! < 9) (k : Nat) : ∀ i, i < (xs.take k).length → 0 ≤ (xs.take k)[i]! ∧ (xs.take k)[i]! < 9 := by
  intro i hi
  have h1 : i < xs.length := by rw [List.length_take] at hi; omega
  have := h i h1
  rw [getElem!_pos _ i hi, List.getElem_take]
  rwa [getElem!_pos _ i h1] at this
/-- Each one's next one is the one behind it. -/
def chainB : List (List Int) → Bool
  | [] => true
  | x :: t => decide (nxO x = t.head?) && chainB t
theorem chain_at : ∀ {L : List (List Int)} {k : Nat}, chainB L = true → k < L.length → nxO L[k]! = L[k + 1]?
  | x :: t, 0, h, _ => by
    simp only [chainB, Bool.and_eq_true, decide_eq_true_eq] at h
    rw [List.getElem!_cons_zero, h.1]
    cases t <;> rfl
  | x :: t, k + 1, h, hk => by
    simp only [chainB, Bool.and_eq_true, decide_eq_true_eq] at h
    rw [List.getElem!_cons_succ, List.getElem?_cons_succ]
    exact chain_at h.2 (by simpa using hk)
/-- All partitions of so many packets. -/
def allL (n : Nat) : List (List Int) := genK n n []
def allOk (n : Nat) : Bool := chainB (allL n) && (decide ((allL n)[0]? = some (List.replicate n 0)) && ((allL n).all (fun l => decide (l.length = n) && l.all fun x => decide (0 ≤ x ∧ x < 9)) && decide ((allL n).length ≤ 300)))
theorem all_ok1 : (allOk 1 && allOk 2 && allOk 3 && allOk 4 && allOk 5) = true := by decide +kernel
theorem all_ok6 : allOk 6 = true := by decide +kernel
theorem all_ok {n : Nat} (h1 : 1 ≤ n) (h6 : n ≤ 6) : allOk n = true := by
  have := all_ok1
  simp only [Bool.and_eq_true] at this
  rcases (by omega : n = 1 ∨ n = 2 ∨ n = 3 ∨ n = 4 ∨ n = 5 ∨ n = 6) with rfl | rfl | rfl | rfl | rfl | rfl
  · exact this.1.1.1.1
  · exact this.1.1.1.2
  · exact this.1.1.2
  · exact this.1.2
  · exact this.2
  · exact all_ok6
structure AllP (n : Nat) : Prop where
  next : ∀ k, k < (allL n).length → nxO (allL n)[k]! = (allL n)[k + 1]?
  zero : (allL n)[0]? = some (List.replicate n 0)
  len : ∀ k, k < (allL n).length → (allL n)[k]!.length = n
  bd : ∀ k, k < (allL n).length → ∀ i, i < (allL n)[k]!.length → 0 ≤ (allL n)[k]![i]! ∧ (allL n)[k]![i]! < 9
  n : (allL n).length ≤ 300
theorem allP {n : Nat} (h1 : 1 ≤ n) (h6 : n ≤ 6) : AllP n := by
  have h := all_ok h1 h6
  simp only [allOk, Bool.and_eq_true, decide_eq_true_eq, List.all_eq_true] at h
  obtain ⟨h2, h3, h4, h5⟩ := h
  refine ⟨fun k hk => chain_at h2 hk, h3, fun k hk => ?_, fun k hk i hi => ?_, h5⟩
  · rw [getElem!_pos _ k hk]; exact (h4 _ (List.getElem_mem _)).1
  · have := (h4 (allL n)[k]! (by rw [getElem!_pos _ k hk]; exact List.getElem_mem _)).2 (allL n)[k]![i]! (by rw [getElem!_pos _ i hi]; exact List.getElem_mem _)
    exact this
theorem gen_ext {K : Nat} : ∀ {r : Nat} {p q : List Int}, q ∈ genK K r p → tak p ≤ tak q
  | 0, p, q, h => by
    simp only [genK, List.mem_singleton] at h
    subst h
    exact Nat.le_refl _
  | r + 1, p, q, h => by
    obtain ⟨c, _, h⟩ := List.mem_flatMap.1 h
    have := gen_ext h
    rw [tak_snoc] at this
    omega
theorem flat_congr {α β : Type} {f g : α → List β} : ∀ {l : List α}, (∀ a ∈ l, f a = g a) → l.flatMap f = l.flatMap g
  | [], _ => rfl
  | a :: l, h => by rw [List.flatMap_cons, List.flatMap_cons, h a (by simp), flat_congr fun b hb => h b (by simp [hb])]
theorem gen_filter {K N : Nat} : ∀ {r : Nat} {p : List Int}, tak p ≤ K → tak p + r ≤ N → (genK N r p).filter (fun q => decide (tak q ≤ K)) = genK K r p
  | 0, p, h, _ => by simp [genK, h]
  | r + 1, p, h, hN => by
    simp only [genK]
    rw [List.filter_flatMap, Nat.min_eq_left (by omega : tak p + 1 ≤ N)]
    have hin : ∀ c, c < K → c ≤ tak p → (genK N r (p ++ [(c : Int)])).filter (fun q => decide (tak q ≤ K)) = genK K r (p ++ [(c : Int)]) := fun c hc hc2 => gen_filter (by rw [tak_snoc]; omega) (by rw [tak_snoc]; omega)
    by_cases hk : tak p + 1 ≤ K
    · rw [Nat.min_eq_left hk]
      refine flat_congr fun c hc => ?_
      rw [List.mem_range] at hc
      exact hin c (by omega) (by omega)
    · have e : K = tak p := by omega
      rw [Nat.min_eq_right (by omega), List.range_succ, List.flatMap_append, ← e]
      have : (genK N r (p ++ [(K : Int)])).filter (fun q => decide (tak q ≤ K)) = [] := by
        rw [List.filter_eq_nil_iff]
        intro q hq
        have := gen_ext hq
        rw [tak_snoc] at this
        simp
        omega
      rw [List.flatMap_singleton, this, List.append_nil]
      refine flat_congr fun c hc => ?_
      rw [List.mem_range] at hc
      exact hin c (by omega) (by omega)
theorem all_filter {K n : Nat} : (allL n).filter (fun q => decide (tak q ≤ K)) = genK K n [] := gen_filter (by simp [tak]) (by simp [tak])
end Go.Proofs.Ytijimplcjaeneaa

