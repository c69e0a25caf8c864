
/- A fire that truly burns so, and what is known of it. -/
import Derived.Test.YtglkphjjinmgmaaWth
set_option linter.unusedVariables false
set_option linter.unusedSimpArgs false
namespace Go.Proofs.Ytglkphjjinmgmaa
open Go.AI
theorem IsBeg.mono {e e' : Int} {cs cs' : List Co} {ts : List (Int × Int)} {B B' : List Int} (hf' : FOk cs' ts) (hl : cs'.length = cs.length) (hlt : ∀ i, i < cs.length → cs'[i]!.lt = cs[i]!.lt) (g1 : ∀ i, i < cs.length → ca e cs[i]! ≤ ca e' cs'[i]!) (g2 : ∀ i, i < cs.length → bu e' cs'[i]! ≤ bu e cs[i]!) (h : IsBeg e cs ts B) (h' : IsBeg e' cs' ts B') : ∀ (m : Nat) (i : Nat), i < cs.length → B'[i]!.toNat ≤ m → B[i]! ≤ B'[i]! := by
  intro m
  have q1 := h.len
  have q2 := h'.len
  induction m with
  | zero =>
    intro i hi hm
    have h1 := h'.lo i (by omega)
    cases hl2 : cs[i]!.lt with
    | true => rw [h.lit i (by omega) hl2]; omega
    | false =>
      rcases h'.via i (by omega) ((hlt i hi).trans hl2) with h2 | ⟨p, hp, hpi, h3, _⟩
      · omega
      · have h4 := hp.ok hf'
        have h5 := ca_pos (e := e') hf' h4.2.1.1 h4.2.1.2
        have h6 := h'.lo p.1.toNat (by omega)
        omega
  | succ m ih =>
    intro i hi hm
    have h1 := h'.lo i (by omega)
    have h0 := h.lo i (by omega)
    cases hl2 : cs[i]!.lt with
    | true => rw [h.lit i (by omega) hl2]; omega
    | false =>
      rcases h'.via i (by omega) ((hlt i hi).trans hl2) with h2 | ⟨p, hp, hpi, h3, _⟩
      · omega
      · have h4 := hp.ok hf'
        have h5 := ca_pos (e := e') hf' h4.2.1.1 h4.2.1.2
        have h6 := h'.lo p.1.toNat (by omega)
        have h7 := ih p.1.toNat (by omega) (by omega)
        have a1 : ca e (coAt cs p.2) ≤ ca e' (coAt cs' p.2) := g1 p.2.toNat (by omega)
        have a2 : bu e' (coAt cs' p.1) ≤ bu e (coAt cs p.1) := g2 p.1.toNat (by omega)
        have h8 := h.le p ⟨hp.1, by have := hp.2; omega⟩
        have h9 : p.2.toNat = i := by omega
        rw [h9] at h8
        omega
/-- The coals as they truly burn. -/
def mkC (cs : List Co) (U V : List Int) : List Co := (List.range cs.length).map fun i => ⟨U[i]!, U[i]!, V[i]!, V[i]!, cs[i]!.hl, cs[i]!.hh, cs[i]!.lt⟩
end Go.Proofs.Ytglkphjjinmgmaa

