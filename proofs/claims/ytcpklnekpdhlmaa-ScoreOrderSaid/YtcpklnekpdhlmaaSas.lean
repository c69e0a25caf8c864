
/- Marks ws numbers; one number that is changed moves one packet at most. -/
import Derived.Test.YtcpklnekpdhlmaaF4s
set_option linter.unusedVariables false
set_option linter.unusedSimpArgs false
namespace Go.Proofs.Ytcpklnekpdhlmaa
open Go.AI
theorem change_le {a p : List Int} {x : Nat} {y : Int} {m k : Nat} (h9 : a.length ≤ 9) (hx : x < a.length) (h : Stay (num a []) p m) (g : Stay (num (a.set x y) []) p k) : m ≤ k + 1 := by
  obtain ⟨t, h1, h2, rfl⟩ := h.has
  have hb := but_one h9 hx
  have ln : (num a []).length = a.length := num_length _ _
  have ls : (num (a.set x y) []).length = a.length := by rw [num_length, List.length_set]
  rw [ln] at h1 h2
  have h3 := g.top (t &&& ((2 ^ a.length - 1) ^^^ 2 ^ x)) (by rw [ls]; exact Nat.and_lt_two_pow _ hb.2.1) (fun i j hi hj u v => by
    rw [ls] at hi hj
    rw [Nat.testBit_and, Bool.and_eq_true] at u v
    have hix : i ≠ x := fun e => by have := u.2; rw [e, hb.2.2] at this; cases this
    have hjx : j ≠ x := fun e => by have := v.2; rw [e, hb.2.2] at this; cases this
    rw [num_eq (by rw [List.length_set]; exact hi) (by rw [List.length_set]; exact hj)]
    rw [getElem!_pos (a.set x y) i (by rw [List.length_set]; exact hi), getElem!_pos (a.set x y) j (by rw [List.length_set]; exact hj), List.getElem_set_ne (Ne.symm hix), List.getElem_set_ne (Ne.symm hjx)]
    have := h2 i j hi hj u.1 v.1
    rw [num_eq hi hj, getElem!_pos a i hi, getElem!_pos a j hj] at this
    exact this)
  have h4 := pop_both t ((2 ^ a.length - 1) ^^^ 2 ^ x)
  have h5 := (pop_le_n h9 (Nat.or_lt_two_pow h1 hb.2.1)).1
  omega
theorem change_both {a p : List Int} {x : Nat} {y : Int} {m k : Nat} (h9 : a.length ≤ 9) (hx : x < a.length) (h : Stay (num a []) p m) (g : Stay (num (a.set x y) []) p k) : m ≤ k + 1 ∧ k ≤ m + 1 := by
  refine ⟨change_le h9 hx h g, change_le (a := a.set x y) (x := x) (y := a[x]!) (by rw [List.length_set]; exact h9) (by rw [List.length_set]; exact hx) g ?_⟩
  rw [List.set_set, getElem!_pos a x hx, List.set_getElem_self]; exact h
theorem Stay.one {a b : List Int} {m k : Nat} (h : Stay a b m) (g : Stay a b k) : m = k := by
  obtain ⟨t, h1, h2, rfl⟩ := h.has
  obtain ⟨u, g1, g2, rfl⟩ := g.has
  have := h.top u g1 g2
  have := g.top t h1 h2
  omega

/-- Something is written. -/
def wrt (ws : List Int) (i : Nat) : Bool := decide (ws[i]! ≠ -1)
/-- A pair is right. -/
def prR (ts ws : List Int) (k i : Nat) : Bool := decide (ws[i]! = ws[k]!) == decide (ts[i]! = ts[k]!)
def rtN (ts ws : List Int) (k : Nat) : Nat → Nat
  | 0 => 0
  | i + 1 => rtN ts ws k i + if wrt ws i = true ∧ prR ts ws k i = true then 1 else 0
def wgN (ts ws : List Int) (k : Nat) : Nat → Nat
  | 0 => 0
  | i + 1 => wgN ts ws k i + if wrt ws i = true ∧ prR ts ws k i = false then 1 else 0
def pkN (ts ws : List Int) : Nat → Nat
  | 0 => 0
  | i + 1 => pkN ts ws i + if wrt ws i = true ∧ wgN ts ws i i = 0 then 1 else 0
def wrN (ts ws : List Int) : Nat → Nat
  | 0 => 0
  | i + 1 => wrN ts ws i + if wrt ws i = true ∧ wgN ts ws i i ≠ 0 then 1 else 0
def prN (ts ws : List Int) : Nat → Nat
  | 0 => 0
  | i + 1 => prN ts ws i + if wrt ws i = true then rtN ts ws i i else 0
def stN (ts ws : List Int) : Nat → Nat
  | 0 => 0
  | i + 1 => stN ts ws i + if wrt ws i = true ∧ wgN ts ws i i = 0 ∧ stN ts ws i = i then 1 else 0
/-- No other number is the one at this place. -/
def alo (l : List Int) (i : Nat) : Bool := !decide (l[i]! ∈ l.take i) && !decide (l[i]! ∈ l.drop (i + 1))
def hdN (ts ws : List Int) : Nat → Nat
  | 0 => 0
  | i + 1 => hdN ts ws i + if wrt ws i = true ∧ alo ts i = true ∧ alo ws i = true then 1 else 0
theorem rw_le (ts ws : List Int) (k : Nat) : ∀ i, rtN ts ws k i + wgN ts ws k i ≤ i
  | 0 => Nat.le_refl _
  | i + 1 => by
    have := rw_le ts ws k i
    rw [rtN, wgN]
    cases wrt ws i <;> cases prR ts ws k i <;> simp <;> omega
theorem pk_le (ts ws : List Int) : ∀ i, pkN ts ws i + wrN ts ws i ≤ i
  | 0 => Nat.le_refl _
  | i + 1 => by
    have := pk_le ts ws i
    rw [pkN, wrN]
    by_cases h : wgN ts ws i i = 0 <;> cases wrt ws i <;> simp [h] <;> omega
theorem st_le (ts ws : List Int) : ∀ i, stN ts ws i ≤ pkN ts ws i
  | 0 => Nat.le_refl _
  | i + 1 => by
    have := st_le ts ws i
    rw [stN, pkN]
    by_cases h : wgN ts ws i i = 0 <;> by_cases h2 : stN ts ws i = i <;> cases wrt ws i <;> simp [h, h2] <;> omega
theorem hd_le (ts ws : List Int) : ∀ i, hdN ts ws i ≤ i
  | 0 => Nat.le_refl _
  | i + 1 => by
    have := hd_le ts ws i
    rw [hdN]
    split <;> omega
theorem pr_le (ts ws : List Int) : ∀ i, i ≤ 9 → prN ts ws i ≤ 9 * i
  | 0, _ => Nat.le_refl _
  | i + 1, h => by
    have := pr_le ts ws i (by omega)
    have := rw_le ts ws i i
    rw [prN]
    split <;> omega
/-- The honour of an answer. -/
def Hon (ts ws : List Int) (h : Int) : Prop := (-1 ∈ ws ∧ h = 0) ∨ (-1 ∉ ws ∧ ∃ m : Nat, Stay (num ws []) ts m ∧ h = max (3 - ((ws.length : Int) - m)) 0)
theorem Hon.one {ts ws : List Int} {h k : Int} (a : Hon ts ws h) (b : Hon ts ws k) : h = k := by
  rcases a with ⟨a1, a2⟩ | ⟨a1, m, a2, a3⟩ <;> rcases b with ⟨b1, b2⟩ | ⟨b1, n, b2, b3⟩
  · omega
  · exact absurd a1 b1
  · exact absurd b1 a1
  · rw [a2.one b2] at a3; omega
/-- All its numbers differ. -/
def Dist (l : List Int) : Prop := ∀ a b, a < l.length → b < l.length → l[a]! = l[b]! → a = b
theorem get_set {l : List Int} {i a : Nat} {x : Int} (ha : a < l.length) : (l.set i x)[a]! = if i = a then x else l[a]! := by
  rw [getElem!_pos _ a (by rw [List.length_set]; exact ha), List.getElem_set, getElem!_pos l a ha]
def sw (i k a : Nat) : Nat := if k = a then i else if i = a then k else a
theorem get_swap {l : List Int} {i k a : Nat} (ha : a < l.length) : ((l.set i l[k]!).set k l[i]!)[a]! = l[sw i k a]! := by
  rw [get_set (by rw [List.length_set]; exact ha), get_set ha, sw]
  split
  · rfl
  · split <;> rfl
theorem sw_lt {n i k a : Nat} (hi : i < n) (hk : k < n) (ha : a < n) : sw i k a < n := by
  unfold sw; split
  · exact hi
  · split
    · exact hk
    · exact ha
theorem sw_inj {i k a b : Nat} (h : sw i k a = sw i k b) : a = b := by
  unfold sw at h
  split at h <;> split at h <;> (try split at h) <;> (try split at h) <;> omega
theorem Dist.swap {l : List Int} {i k : Nat} (h : Dist l) (hi : i < l.length) (hk : k < l.length) : Dist ((l.set i l[k]!).set k l[i]!) := by
  intro a b ha hb e
  rw [List.length_set, List.length_set] at ha hb
  rw [get_swap ha, get_swap hb] at e
  exact sw_inj (h _ _ (sw_lt hi hk ha) (sw_lt hi hk hb) e)
/-- The numbers below n in some order. -/
def OrderL (l : List Int) : Prop := Dist l ∧ ∀ a, a < l.length → 0 ≤ l[a]! ∧ l[a]! < l.length
theorem OrderL.swap {l : List Int} {i k : Nat} (h : OrderL l) (hi : i < l.length) (hk : k < l.length) : OrderL ((l.set i l[k]!).set k l[i]!) := by
  refine ⟨h.1.swap hi hk, fun a ha => ?_⟩
  rw [List.length_set, List.length_set] at ha ⊢
  rw [get_swap ha]
  exact h.2 _ (sw_lt hi hk ha)
theorem OrderL.push {l : List Int} (h : OrderL l) : OrderL (l ++ [(l.length : Int)]) := by
  have g1 : ∀ a, a < l.length → (l ++ [(l.length : Int)])[a]! = l[a]! := fun a ha => by
    rw [getElem!_pos _ a (by simp; omega), List.getElem_append_left ha, getElem!_pos l a ha]
  have g2 : (l ++ [(l.length : Int)])[l.length]! = l.length := by
    rw [getElem!_pos _ _ (by simp)]; simp
  refine ⟨fun a b ha hb e => ?_, fun a ha => ?_⟩
  · rw [List.length_append, List.length_singleton] at ha hb
    by_cases h1 : a < l.length <;> by_cases h2 : b < l.length
    · rw [g1 a h1, g1 b h2] at e; exact h.1 a b h1 h2 e
    · have hb' : b = l.length := by omega
      subst hb'
      rw [g1 a h1, g2] at e
      have := h.2 a h1; omega
    · have ha' : a = l.length := by omega
      subst ha'
      rw [g1 b h2, g2] at e
      have := h.2 b h2; omega
    · omega
  · rw [List.length_append, List.length_singleton] at ha ⊢
    by_cases h1 : a < l.length
    · rw [g1 a h1]; have := h.2 a h1; omega
    · have ha' : a = l.length := by omega
      subst ha'
      rw [g2]; omega
end Go.Proofs.Ytcpklnekpdhlmaa
