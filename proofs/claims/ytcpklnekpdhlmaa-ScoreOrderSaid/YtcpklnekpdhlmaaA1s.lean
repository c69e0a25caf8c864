
/- Check, Eq, Of: what they answer. -/
import Derived.Test.YtcpklnekpdhlmaaA0s
set_option linter.unusedVariables false
set_option linter.unusedSimpArgs false
namespace Go.Proofs.Ytcpklnekpdhlmaa
open Go.AI

def checkFrom : List Int → Int → Int
  | [], _ => 0
  | x :: r, b => if x < 0 ∨ 9 ≤ x then 2 else if b < x then 11 else checkFrom r (max b (x + 1))
def check (xs : List Int) : Int := if xs.length = 0 then 6 else if 9 < xs.length then 8 else checkFrom xs 0

set_option maxRecDepth 100000 in
theorem check_spec {B : Nat} {v : Value} {H : Heap} {xs : List Int} (hB : B ≤ H.n) (hv : Ints H v xs) :
    CallB Try.prog B 73 [v] H (fun r H' => r = .int .i64 (check xs) ∧ H' = H) := by
  refine vcF_spec callees (wr := false) rfl Try.func73 rfl ok73 (by simp [Try.ntmps73]) hB ?_
  refine ⟨_, ints_len hv, ?_⟩
  refine ⟨fun h1 => ?_, fun h1 => ?_⟩
  · refine ⟨rfl, ?_, rfl⟩
    have : xs.length = 0 := by simpa using h1
    simp [check, this]
  refine ⟨_, ints_len hv, ?_⟩
  refine ⟨fun h2 => ?_, fun h2 => ?_⟩
  · refine ⟨rfl, ?_, rfl⟩
    have h3 : ¬ xs.length = 0 := by omega
    have h4 : 9 < xs.length := by omega
    simp [check, h3, h4]
  refine ⟨_, ints_len hv, ?_⟩
  have h1' : ¬ xs.length = 0 := by omega
  have h2' : ¬ 9 < xs.length := by omega
  refine WCv.loop callees false (α := Int × Int) (fun a => [(12, v), (13, .int .i64 xs.length), (14, .int .i64 a.1), (3, .int .i64 a.2)]) 
    (fun a Hx => Hx = H ∧ 0 ≤ a.1 ∧ a.1 ≤ xs.length ∧ 0 ≤ a.2 ∧ a.2 ≤ 9 ∧ checkFrom (xs.drop a.1.toNat) a.2 = check xs) (fun a => xs.length - a.1.toNat) (0, 0) ?_ ?_ ?_
  · exact ⟨rfl, rfl, rfl, rfl, trivial⟩
  · exact ⟨rfl, by simp, by simp, by simp, by simp, by simp [check, h1', h2']⟩
  rintro ⟨i, b⟩ Hx ⟨hHx, hi0, hi1, hb0, hb1, hc⟩ _
  subst hHx
  simp only at hi0 hi1 hb0 hb1 hc
  refine ⟨fun h3 => ?_, fun h3 => ?_⟩
  · refine ⟨_, ints_addr hv hi0 h3, ?_⟩
    refine ⟨_, ints_load hv hi0 h3, ?_⟩
    rw [drop_cons (xs := xs) (n := i.toNat) (by omega)] at hc
    generalize xs[i.toNat]! = x at hc ⊢
    rw [checkFrom] at hc
    refine ⟨fun h4 => ?_, fun h4 => ?_⟩
    · refine ⟨rfl, ?_, rfl⟩
      rw [← hc, if_pos (.inl h4)]
    refine ⟨fun h5 => ?_, fun h5 => ?_⟩
    · refine ⟨rfl, ?_, rfl⟩
      rw [← hc, if_pos (.inr h5)]
    rw [if_neg (by omega)] at hc
    refine ⟨fun h6 => ?_, fun h6 => ?_⟩
    · refine ⟨rfl, ?_, rfl⟩
      rw [← hc, if_pos h6]
    rw [if_neg (by omega)] at hc
    refine ⟨⟨by omega, by omega⟩, ?_⟩
    refine ⟨_, fun tm ha => step1_max rfl (ev_tmp ha rfl) (ev_tmp ha rfl), ?_⟩
    refine ⟨⟨by omega, by omega⟩, ?_⟩
    refine ⟨(i + 1, max b (x + 1)), ⟨rfl, rfl, rfl, rfl, trivial⟩, by simp; omega, rfl, by simp; omega, by simp; omega, by simp; omega, by simp; omega, ?_⟩
    simp only
    rw [show (i + 1).toNat = i.toNat + 1 by omega]
    exact hc
  · refine ⟨rfl, ?_, rfl⟩
    rw [← hc, show xs.drop i.toNat = [] by simp; omega]
    rfl

theorem eq_step {xs ys : List Int} (hl : xs.length = ys.length) {i : Nat} (hi : i < xs.length) : (xs.drop i = ys.drop i ↔ xs[i]! = ys[i]! ∧ xs.drop (i + 1) = ys.drop (i + 1)) := by
  rw [drop_cons hi, drop_cons (xs := ys) (by omega)]
  simp

set_option maxRecDepth 100000 in
theorem eq_spec {B : Nat} {v u : Value} {H : Heap} {xs ys : List Int} (hB : B ≤ H.n) (hv : Ints H v xs) (hu : Ints H u ys) (hn : xs.length < 1000000) :
    CallB Try.prog B 24 [v, u] H (fun r H' => r = .bool (decide (xs = ys)) ∧ H' = H) := by
  refine vcF_spec callees (wr := false) rfl Try.func24 rfl ok24 (by simp [Try.ntmps24]) hB ?_
  refine ⟨_, ints_len hv, ?_⟩
  refine ⟨_, ints_len hu, ?_⟩
  refine ⟨fun h1 => ?_, fun h1 => ?_⟩
  · refine ⟨rfl, ?_, rfl⟩
    have : xs ≠ ys := by intro h; subst h; exact h1 rfl
    simp [this]
  have hl : xs.length = ys.length := by omega
  refine WCv.loop callees false (α := Int) (fun a => [(0, v), (1, u), (5, .int .i64 a)]) 
    (fun a Hx => Hx = H ∧ 0 ≤ a ∧ a ≤ xs.length ∧ (xs.drop a.toNat = ys.drop a.toNat ↔ xs = ys)) (fun a => xs.length - a.toNat) 0 ?_ ?_ ?_
  · exact ⟨rfl, rfl, rfl, trivial⟩
  · exact ⟨rfl, by simp, by simp, by simp⟩
  rintro i Hx ⟨hHx, hi0, hi1, hc⟩ _
  subst hHx
  refine ⟨_, ints_len hv, ?_⟩
  refine ⟨fun h3 => ?_, fun h3 => ?_⟩
  · rw [eq_step hl (by omega)] at hc
    refine ⟨_, ints_addr hv hi0 h3, ?_⟩
    refine ⟨_, ints_load hv hi0 h3, ?_⟩
    refine ⟨_, ints_addr hu hi0 (by omega), ?_⟩
    refine ⟨_, ints_load hu hi0 (by omega), ?_⟩
    refine ⟨fun h4 => ?_, fun h4 => ?_⟩
    · refine ⟨rfl, ?_, rfl⟩
      have : xs ≠ ys := fun h => h4 (hc.2 h).1
      simp [this]
    refine ⟨⟨by omega, by omega⟩, ?_⟩
    refine ⟨i + 1, ⟨rfl, rfl, rfl, trivial⟩, by show xs.length - (i + 1).toNat < xs.length - i.toNat; omega, rfl, by omega, by omega, ?_⟩
    rw [show (i + 1).toNat = i.toNat + 1 by omega]
    rw [← hc]
    exact ⟨fun h => ⟨by omega, h⟩, fun h => h.2⟩
  · refine ⟨rfl, ?_, rfl⟩
    have : xs = ys := hc.1 (by rw [show xs.drop i.toNat = [] by simp; omega, show ys.drop i.toNat = [] by simp; omega])
    simp [this]
end Go.Proofs.Ytcpklnekpdhlmaa
