
/- When coals truly begin, looked at minute by minute: what is so within a minute. -/
import Derived.Test.YtglkphjjinmgmaaW4h
set_option linter.unusedVariables false
set_option linter.unusedSimpArgs false
namespace Go.Proofs.Ytglkphjjinmgmaa
open Go.AI
/-- What is known before a minute. -/
def Am (Bs : List Int) (m : Int) (i : Nat) : Int := if Bs[i]! < m ∨ Bs[i]! = 0 then Bs[i]! else 1000000
/-- Within a minute. -/
structure MidT (e : Int) (cs : List Co) (Bs : List Int) (m : Int) (S : Int × Int → Prop) (A : List Int) : Prop where
  len : A.length = cs.length
  or_ : ∀ i, i < cs.length → A[i]! = Am Bs m i ∨ A[i]! = Am Bs (m + 1) i
  done : ∀ p, S p → ca e (coAt cs p.2) ≤ bu e (coAt cs p.1) → Bs[p.1.toNat]! + ca e (coAt cs p.2) = m → Bs[p.2.toNat]! = m → A[p.2.toNat]! = m
theorem am_or {Bs A : List Int} {m : Int} {i : Nat} (h : A[i]! = Am Bs m i ∨ A[i]! = Am Bs (m + 1) i) (h0 : 0 ≤ Bs[i]!) : (Bs[i]! < m → A[i]! = Bs[i]!) ∧ (Bs[i]! = 0 → A[i]! = 0) ∧ (Bs[i]! = m → A[i]! = 1000000 ∨ A[i]! = m) ∧ (m < Bs[i]! → A[i]! = 1000000 ∨ Bs[i]! = 0) ∧ (A[i]! = Bs[i]! ∨ A[i]! = 1000000) := by
  unfold Am at h
  refine ⟨fun a => ?_, fun a => ?_, fun a => ?_, fun a => ?_, ?_⟩ <;> rcases h with h | h <;> split at h <;> omega
theorem MidT.yes {e : Int} {cs : List Co} {ts : List (Int × Int)} {Bs A : List Int} {m : Int} {S S' : Int × Int → Prop} (hf : FOk cs ts) (hb : IsBeg e cs ts Bs) (h : MidT e cs Bs m S A) {p : Int × Int} (hp : p ∈ ts ∨ (p.2, p.1) ∈ ts) (h1 : A[p.2.toNat]! = 1000000) (h2 : A[p.1.toNat]! < 1000000) (h3 : A[p.1.toNat]! + ca e (coAt cs p.2) = m) (h4 : ca e (coAt cs p.2) ≤ bu e (coAt cs p.1)) (hm : m ≤ 200) (hS : ∀ q, S' q → S q ∨ q = p) : MidT e cs Bs m S' (A.set p.2.toNat m) := by
  have arc : Arc e cs ts p := ⟨hp, h4⟩
  have ok := arc.ok hf
  have hc := ca_pos (e := e) hf ok.2.1.1 ok.2.1.2
  have hl := hb.len
  have hAl := h.len
  have hf0 := hb.lo p.1.toNat (by omega)
  have ht0 := hb.lo p.2.toNat (by omega)
  have of := am_or (h.or_ p.1.toNat (by omega)) hf0.1
  have ot := am_or (h.or_ p.2.toNat (by omega)) ht0.1
  have hle := hb.le p arc
  have hBt : Bs[p.2.toNat]! = m := by
    obtain ⟨of1, of2, of3, of4, of5⟩ := of
    obtain ⟨ot1, ot2, ot3, ot4, ot5⟩ := ot
    by_cases c1 : Bs[p.2.toNat]! < m
    · have := ot1 c1; omega
    · omega
  have hne : Bs[p.2.toNat]! ≠ 0 := fun h0 => by have := ot.2.1 h0; omega
  refine ⟨by rw [List.length_set]; exact hAl, fun i hi => ?_, fun q hq hc1 hc2 hc3 => ?_⟩
  · rw [getS (by omega)]
    split
    · rename_i hi2
      subst hi2
      right
      unfold Am
      rw [if_pos (by omega)]
      exact hBt.symm
    · exact h.or_ i hi
  · by_cases hi2 : p.2.toNat = q.2.toNat
    · rw [← hi2, getS (by omega), if_pos rfl]
    · rcases hS q hq with h5 | h5
      · have h6 := h.done q h5 hc1 hc2 hc3
        by_cases hlt : q.2.toNat < A.length
        · rw [getS hlt, if_neg hi2]; exact h6
        · rw [getS_out hlt]; exact h6
      · exact absurd (by rw [h5]) hi2
theorem MidT.no {e : Int} {cs : List Co} {ts : List (Int × Int)} {Bs A : List Int} {m : Int} {S S' : Int × Int → Prop} (hf : FOk cs ts) (hb : IsBeg e cs ts Bs) (h : MidT e cs Bs m S A) {p : Int × Int} (hp : p ∈ ts ∨ (p.2, p.1) ∈ ts) (hn : ¬(A[p.2.toNat]! = 1000000 ∧ A[p.1.toNat]! < 1000000 ∧ A[p.1.toNat]! + ca e (coAt cs p.2) = m ∧ ca e (coAt cs p.2) ≤ bu e (coAt cs p.1))) (hm : m ≤ 200) (hS : ∀ q, S' q → S q ∨ q = p) : MidT e cs Bs m S' A := by
  refine ⟨h.len, h.or_, fun q hq hc1 hc2 hc3 => ?_⟩
  rcases hS q hq with h5 | rfl
  · exact h.done q h5 hc1 hc2 hc3
  · have ok := Arc.ok hf (e := e) ⟨hp, hc1⟩
    have hc := ca_pos (e := e) hf ok.2.1.1 ok.2.1.2
    have hl := hb.len
    have hf0 := hb.lo q.1.toNat (by omega)
    have ht0 := hb.lo q.2.toNat (by omega)
    obtain ⟨of1, of2, of3, of4, of5⟩ := am_or (h.or_ q.1.toNat (by omega)) hf0.1
    obtain ⟨ot1, ot2, ot3, ot4, ot5⟩ := am_or (h.or_ q.2.toNat (by omega)) ht0.1
    have h7 := of1 (by omega)
    rcases ot3 hc3 with h8 | h8
    · exact absurd ⟨h8, by omega, by omega, hc1⟩ hn
    · exact h8
theorem MidT.top {e : Int} {cs : List Co} {ts : List (Int × Int)} {Bs A : List Int} {m : Int} {S : Int × Int → Prop} (hb : IsBeg e cs ts Bs) (h : MidT e cs Bs m S A) {i : Nat} (hi : i < cs.length) : 0 ≤ A[i]! ∧ A[i]! ≤ 1000000 := by
  have hl := hb.len
  have h0 := hb.lo i (by omega)
  obtain ⟨_, _, _, _, h5⟩ := am_or (h.or_ i hi) h0.1
  omega
theorem MidT.start {e : Int} {cs : List Co} {Bs A : List Int} {m : Int} (hl : A.length = cs.length) (h : ∀ i, i < cs.length → A[i]! = Am Bs m i) : MidT e cs Bs m (fun _ => False) A := ⟨hl, fun i hi => .inl (h i hi), fun _ h => h.elim⟩
theorem MidT.mono {e : Int} {cs : List Co} {Bs A : List Int} {m : Int} {S S' : Int × Int → Prop} (h : MidT e cs Bs m S A) (hS : ∀ q, S' q → S q) : MidT e cs Bs m S' A := ⟨h.len, h.or_, fun p hp => h.done p (hS p hp)⟩
theorem MidT.end_ {e : Int} {cs : List Co} {ts : List (Int × Int)} {Bs A : List Int} {m : Int} {S : Int × Int → Prop} (hf : FOk cs ts) (hb : IsBeg e cs ts Bs) (h : MidT e cs Bs m S A) (hall : ∀ p, p ∈ ts ∨ (p.2, p.1) ∈ ts → S p) (hm0 : 0 ≤ m) (hm : m ≤ 200) : ∀ i, i < cs.length → A[i]! = Am Bs (m + 1) i := by
  intro i hi
  have hl := hb.len
  have h0 := hb.lo i (by omega)
  rcases h.or_ i hi with h1 | h1
  · by_cases hc : Bs[i]! = m ∧ Bs[i]! ≠ 0
    · have hlt : cs[i]!.lt = false := by
        cases hlt : cs[i]!.lt with
        | false => rfl
        | true => exact absurd (hb.lit i (by omega) hlt) hc.2
      rcases hb.via i (by omega) hlt with h2 | ⟨p, hp, hpi, h3, _⟩
      · omega
      · have hp2 : p.2.toNat = i := by omega
        have := h.done p (hall p hp.1) hp.2 (by omega) (by rw [hp2]; exact hc.1)
        rw [hp2] at this
        unfold Am
        rw [if_pos (by omega)]
        omega
    · rw [h1]
      unfold Am
      by_cases h5 : Bs[i]! < m ∨ Bs[i]! = 0
      · rw [if_pos h5, if_pos (by omega)]
      · rw [if_neg h5, if_neg (by omega)]
  · exact h1
/-- Small numbers alone. -/
theorem IsBeg.small {e : Int} {cs : List Co} {ts : List (Int × Int)} {Bs : List Int} (hf : FOk cs ts) (hb : IsBeg e cs ts Bs) (hn : cs.length ≤ 8) (hs : ∀ i, i < cs.length → ca e cs[i]! ≤ 8) : ∀ (k : Nat) (i : Nat), i < cs.length → Bs[i]!.toNat ≤ k → Bs[i]! = 1000000 ∨ Bs[i]! ≤ 8 * dN Bs Bs[i]! := by
  intro k
  have hl := hb.len
  induction k with
  | zero =>
    intro i hi hk
    have := hb.lo i (by omega)
    right; omega
  | succ k ih =>
    intro i hi hk
    have h0 := hb.lo i (by omega)
    cases hlt : cs[i]!.lt with
    | true => have := hb.lit i (by omega) hlt; right; omega
    | false =>
      rcases hb.via i (by omega) hlt with h2 | ⟨p, hp, hpi, h3, h9⟩
      · exact .inl h2
      · have h4 := hp.ok hf
        have h5 := ca_pos (e := e) hf h4.2.1.1 h4.2.1.2
        have h6 := hb.lo p.1.toNat (by omega)
        have h7 := dN_lt (Bs := Bs) (x := Bs[i]!) (a := p.1.toNat) (by omega) (by omega)
        have h8 : ca e (coAt cs p.2) ≤ 8 := hs p.2.toNat (by omega)
        rcases ih p.1.toNat (by omega) (by omega) with h10 | h10
        · omega
        · right; omega
end Go.Proofs.Ytglkphjjinmgmaa

