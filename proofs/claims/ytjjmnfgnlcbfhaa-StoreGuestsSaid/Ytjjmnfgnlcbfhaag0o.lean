
/- Combinations are in order. -/
import Derived.Test.Ytjjmnfgnlcbfhaaf7o
set_option linter.unusedVariables false
set_option linter.unusedSimpArgs false
namespace Go.Proofs.Ytjjmnfgnlcbfhaa
open Go.AI
def prodN : List Nat → Nat
  | [] => 1
  | s :: t => s * prodN t
def digN : List Nat → Nat → List Nat
  | [], _ => []
  | s :: t, n => n / prodN t % s :: digN t n
theorem prodN_snoc {s : Nat} : ∀ {t : List Nat}, prodN (t ++ [s]) = prodN t * s
  | [] => by simp [prodN]
  | a :: t => by rw [List.cons_append, prodN, prodN_snoc, prodN, Nat.mul_assoc]
theorem digN_snoc {s : Nat} : ∀ {t : List Nat} {m : Nat}, digN (t ++ [s]) m = digN t (m / s) ++ [m % s]
  | [], m => by simp [digN, prodN]
  | a :: t, m => by
    rw [List.cons_append, digN, digN_snoc, digN, prodN_snoc, Nat.div_div_eq_div_mul, Nat.mul_comm s, List.cons_append]
theorem prodN_pos : ∀ {t : List Nat}, (∀ x ∈ t, 0 < x) → 0 < prodN t
  | [], _ => Nat.one_pos
  | s :: t, h => Nat.mul_pos (h s (by simp)) (prodN_pos fun x hx => h x (by simp [hx]))
theorem digN_mod : ∀ {t : List Nat} {n : Nat}, digN t (n % prodN t) = digN t n
  | [], _ => rfl
  | a :: u, n => by
    have h1 : n % (a * prodN u) / prodN u % a = n / prodN u % a := by
      rw [Nat.mod_mul_left_div_self, Nat.mod_mod]
    have h2 : digN u (n % (a * prodN u)) = digN u n := by
      rw [← digN_mod (t := u) (n := n % (a * prodN u)), Nat.mod_mod_of_dvd _ (Nat.dvd_mul_left _ _), digN_mod]
    rw [digN, prodN, h1, h2, digN]
theorem digN_lt : ∀ {t : List Nat} {n k : Nat}, (∀ x ∈ t, 0 < x) → k < t.length → (digN t n)[k]! < t[k]!
  | s :: t, n, 0, h, _ => Nat.mod_lt _ (h s (by simp))
  | s :: t, n, k + 1, h, hk => by
    have := digN_lt (t := t) (n := n) (k := k) (fun x hx => h x (by simp [hx])) (by simpa using hk)
    simpa [digN] using this
theorem digN_len : ∀ {t : List Nat} {n : Nat}, (digN t n).length = t.length
  | [], _ => rfl
  | s :: t, n => by rw [digN, List.length_cons, digN_len, List.length_cons]
abbrev toI (l : List Nat) : List Int := l.map fun (n : Nat) => (n : Int)
theorem digN_lex : ∀ {t : List Nat} {n m : Nat}, (∀ x ∈ t, 0 < x) → n < m → m < prodN t → befL (toI (digN t n)) (toI (digN t m)) = true
  | [], n, m, _, h1, h2 => by simp only [prodN] at h2; omega
  | s :: u, n, m, h, h1, h2 => by
    have hQ := prodN_pos (t := u) fun x hx => h x (by simp [hx])
    rw [prodN] at h2
    have e1 : n / prodN u % s = n / prodN u := Nat.mod_eq_of_lt (Nat.div_lt_of_lt_mul (by rw [Nat.mul_comm]; omega))
    have e2 : m / prodN u % s = m / prodN u := Nat.mod_eq_of_lt (Nat.div_lt_of_lt_mul (by rw [Nat.mul_comm]; omega))
    have hle : n / prodN u ≤ m / prodN u := Nat.div_le_div_right (by omega)
    rw [digN, digN, e1, e2, toI, toI, List.map_cons, List.map_cons, befL]
    by_cases e : n / prodN u = m / prodN u
    · rw [if_pos (by rw [e])]
      have h3 : n % prodN u < m % prodN u := by
        have a := Nat.div_add_mod n (prodN u)
        have b := Nat.div_add_mod m (prodN u)
        rw [e] at a
        omega
      have := digN_lex (t := u) (fun x hx => h x (by simp [hx])) h3 (Nat.mod_lt _ hQ)
      rw [digN_mod, digN_mod] at this
      exact this
    · rw [if_neg (by omega), decide_eq_true_eq]
      omega
theorem digF_N {t : List Nat} : ∀ {i m : Nat} {out : List Int}, i ≤ t.length → out.length = t.length → digF (toI t) i (m : Int) out = toI (digN (t.take i) m) ++ out.drop i
  | 0, m, out, _, _ => by simp [digF, digN, toI]
  | i + 1, m, out, hi, ho => by
    have hk : (toI t)[i]! = (t[i]! : Int) := by rw [getElem!_pos _ i (by rw [List.length_map]; omega), List.getElem_map, getElem!_pos t i (by omega)]
    have h1 : (m : Int).tdiv (t[i]! : Int) = ((m / t[i]! : Nat) : Int) := rfl
    have h2 : (m : Int).tmod (t[i]! : Int) = ((m % t[i]! : Nat) : Int) := rfl
    rw [digF, hk, h1, h2, digF_N (by omega) (by rw [List.length_set]; exact ho), tk_at (by omega), digN_snoc, toI, toI, List.map_append, List.append_assoc]
    congr 1
    rw [List.drop_eq_getElem_cons (by rw [List.length_set]; omega), List.getElem_set_self, List.drop_set_of_lt (by omega)]
    rfl
theorem comboL_N {t : List Nat} {m : Nat} : comboL (toI t) (m : Int) = toI (digN t m) := by
  rw [comboL, List.length_map, digF_N (Nat.le_refl _) (by rw [List.length_replicate]), List.take_length, List.drop_eq_nil_of_le (by rw [List.length_replicate]; exact Nat.le_refl _), List.append_nil]
theorem combos_N : ∀ {t : List Nat}, combos (toI t) = (prodN t : Int)
  | [] => rfl
  | s :: t => by
    rw [toI, List.map_cons, combos, prodN, Int.natCast_mul, ← combos_N]
theorem toI_of : ∀ {st : List Int}, (∀ x ∈ st, 1 ≤ x ∧ x ≤ 6) → ∃ t : List Nat, st = toI t ∧ ∀ x ∈ t, 0 < x
  | [], _ => ⟨[], rfl, fun _ h => by cases h⟩
  | s :: st, h => by
    obtain ⟨t, rfl, ht⟩ := toI_of (st := st) fun x hx => h x (by simp [hx])
    have := h s (by simp)
    refine ⟨s.toNat :: t, by show s :: toI t = ((s.toNat : Nat) : Int) :: toI t; rw [Int.toNat_of_nonneg (by omega)], fun x hx => ?_⟩
    rcases List.mem_cons.1 hx with rfl | hx
    · omega
    · exact ht x hx
theorem comboL_lt {st : List Int} {n : Int} {k : Nat} (h : SoOk st) (hn : 0 ≤ n) (hk : k < st.length) : 0 ≤ (comboL st n)[k]! ∧ (comboL st n)[k]! < st[k]! := by
  obtain ⟨t, rfl, ht⟩ := toI_of h.m
  obtain ⟨m, rfl⟩ : ∃ m : Nat, n = (m : Int) := ⟨n.toNat, by omega⟩
  rw [List.length_map] at hk
  have := digN_lt (n := m) ht hk
  have hl := digN_len (t := t) (n := m)
  rw [getElem!_pos _ k (by omega), getElem!_pos t k hk] at this
  rw [comboL_N, getElem!_pos _ k (by rw [List.length_map]; omega), getElem!_pos _ k (by rw [List.length_map]; omega), List.getElem_map, List.getElem_map]
  omega
theorem comboL_bef {st : List Int} {n m : Int} (h : SoOk st) (hn : 0 ≤ n) (hm : n < m) (hc : m < combos st) : befL (comboL st n) (comboL st m) = true := by
  obtain ⟨t, rfl, ht⟩ := toI_of h.m
  obtain ⟨n, rfl⟩ : ∃ k : Nat, n = (k : Int) := ⟨n.toNat, by omega⟩
  obtain ⟨m, rfl⟩ : ∃ k : Nat, m = (k : Int) := ⟨m.toNat, by omega⟩
  rw [combos_N] at hc
  rw [comboL_N, comboL_N]
  exact digN_lex ht (by omega) (by omega)
end Go.Proofs.Ytjjmnfgnlcbfhaa
