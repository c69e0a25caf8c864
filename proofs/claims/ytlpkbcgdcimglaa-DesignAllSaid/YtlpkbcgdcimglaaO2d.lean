
/- Picked out of A2.tpl A3.tpl M1.tpl. -/
import Derived.Test.YtlpkbcgdcimglaaO1d
set_option linter.unusedVariables false
set_option linter.unusedSimpArgs false
namespace Go.Proofs.Ytlpkbcgdcimglaa
open Go.AI

theorem num_length : ∀ (xs met : List Int), (num xs met).length = xs.length
  | [], _ => rfl
  | x :: r, met => by rw [num]; split <;> simp [num_length r]

end Go.Proofs.Ytlpkbcgdcimglaa

namespace Go.Proofs.Ytlpkbcgdcimglaa
open Go.AI

theorem check_num : ∀ (xs met : List Int), met.length + xs.length ≤ 9 → checkFrom (num xs met) met.length = 0
  | [], _, _ => rfl
  | x :: r, met, h => by
    simp only [List.length_cons] at h
    rw [num]
    split
    · rename_i hx
      have := List.idxOf_lt_length_of_mem hx
      rw [checkFrom, if_neg (by omega), if_neg (by omega), show max (met.length : Int) ((met.idxOf x : Nat) + 1) = met.length by omega]
      exact check_num r met (by omega)
    · rw [checkFrom, if_neg (by omega), if_neg (by omega), show max (met.length : Int) ((met.length : Nat) + 1) = ((met ++ [x]).length : Nat) by simp; omega]
      exact check_num r (met ++ [x]) (by simp; omega)
end Go.Proofs.Ytlpkbcgdcimglaa

namespace Go.Proofs.Ytlpkbcgdcimglaa
open Go.AI
theorem beh_pos : ∀ (m : Nat) (b : Int), 0 ≤ b → 1 ≤ behM m b
  | 0, _, _ => by simp [behM]
  | m + 1, b, h => by
    have h1 := beh_pos m b h
    have h2 := beh_pos m (b + 1) (by omega)
    have h3 : 0 ≤ b * behM m b := Int.mul_nonneg h (by omega)
    rw [behM]; omega
theorem rk_lt : ∀ (r : List Int) (b : Int), 0 ≤ b → checkFrom r b = 0 → 0 ≤ rkF r b ∧ rkF r b < behM r.length b
  | [], _, _, _ => by simp [rkF, behM]
  | x :: r, b, hb, h => by
    obtain ⟨h0, _, h2, h3⟩ := from_step h
    obtain ⟨h4, h5⟩ := rk_lt r (max b (x + 1)) (by omega) h3
    have hp := beh_pos r.length b hb
    have hm : 0 ≤ x * behM r.length b := Int.mul_nonneg h0 (by omega)
    rw [rkF, List.length_cons, behM]
    by_cases hx : x < b
    · rw [show max b (x + 1) = b by omega] at h4 h5 ⊢
      have h6 : (x + 1) * behM r.length b ≤ b * behM r.length b := Int.mul_le_mul_of_nonneg_right (by omega) (by omega)
      have h7 := beh_pos r.length (b + 1) (by omega)
      rw [Int.add_mul, Int.one_mul] at h6
      omega
    · have : x = b := by omega
      subst this
      rw [show max x (x + 1) = x + 1 by omega] at h4 h5 ⊢
      omega
theorem cnt_beh {n : Nat} (h0 : 1 ≤ n) (h1 : n ≤ 9) : cntR n = (behM n 0, 0) := by
  have := (beh_at (n := n) (b := 0) (by omega) (by omega)).2.2
  rw [cntR, if_neg (by omega), ← this]
  simp
theorem rank_lt {xs : List Int} (hc : check xs = 0) : 0 ≤ rkF xs 0 ∧ rkF xs 0 < (cntR xs.length).1 := by
  have h1 := check_from hc
  have h2 := (check_from hc).2
  rw [cnt_beh (by omega) (by omega)]
  exact rk_lt xs 0 (Int.le_refl _) h1.1
end Go.Proofs.Ytlpkbcgdcimglaa
namespace Go.Proofs.Ytlpkbcgdcimglaa
open Go.AI
set_option linter.unusedVariables false
set_option linter.unusedSimpArgs false
theorem row_but {H H' : Heap} {x v : Value} {vs : List Value} (h : Row H v vs) (k : KeepBut x H H') (ha : Apart v x) : Row H' v vs := by
  rcases h with h | h | ⟨b, i, c, cs, e, kd, h1, h2, h3, h4⟩
  · exact .inl h
  · exact .inr (.inl h)
  · exact .inr (.inr ⟨b, i, c, cs, e, kd, h1, Nat.lt_of_lt_of_le h2 k.le, by rw [k.get b h2 (fun hc => ha b (by rw [h1]; rfl) hc)]; exact h3, h4⟩)
/-- A list, and something added at each place. -/
def addL (l : List Int) (g : Nat → Int) : List Int := (List.range l.length).map fun r => l[r]! + g r
theorem addL_len {l : List Int} {g : Nat → Int} : (addL l g).length = l.length := by simp [addL]
theorem addL_get {l : List Int} {g : Nat → Int} {r : Nat} (h : r < l.length) : (addL l g)[r]! = l[r]! + g r := by
  rw [getElem!_pos _ r (by rw [addL_len]; exact h)]
  simp [addL]
theorem addL_ext {l m : List Int} (hl : l.length = m.length) (h : ∀ r, r < l.length → l[r]! = m[r]!) : l = m := by
  refine List.ext_getElem hl fun r h1 h2 => ?_
  have := h r h1
  rwa [getElem!_pos l r h1, getElem!_pos m r h2] at this
theorem addL_congr {l : List Int} {g h : Nat → Int} (e : ∀ r, r < l.length → g r = h r) : addL l g = addL l h :=
  addL_ext (by rw [addL_len, addL_len]) fun r hr => by
    rw [addL_len] at hr
    rw [addL_get hr, addL_get hr, e r hr]
theorem addL_zero {l : List Int} {g : Nat → Int} (e : ∀ r, r < l.length → g r = 0) : addL l g = l :=
  addL_ext addL_len fun r hr => by
    rw [addL_len] at hr
    rw [addL_get hr, e r hr]; omega
theorem addL_add {l : List Int} {g h : Nat → Int} : addL (addL l g) h = addL l (fun r => g r + h r) :=
  addL_ext (by rw [addL_len, addL_len, addL_len]) fun r hr => by
    rw [addL_len, addL_len] at hr
    rw [addL_get (by rw [addL_len]; exact hr), addL_get hr, addL_get hr]; omega
theorem addL_set {l : List Int} {i : Nat} {m : Int} : l.set i (l[i]! + m) = addL l (fun r => if i = r then m else 0) :=
  addL_ext (by rw [addL_len, List.length_set]) fun r hr => by
    rw [List.length_set] at hr
    rw [addL_get hr, get_set hr]
    by_cases e : i = r
    · subst e; rw [if_pos rfl, if_pos rfl]
    · rw [if_neg e, if_neg e]; omega
/-- The rank of the partition of a course. -/
def rkC (c : List Int) : Nat := (rkF (num c []) 0).toNat
/-- How many ways to go on behind a course lead to a partition. -/
def cw : Nat → List Int → List Int → Nat → Int
  | 0, c, _, r => if rkC c = r then 1 else 0
  | f + 1, c, left, r => sumW (fun k => left[k]! * cw f (c ++ [(k : Int)]) (left.set k (left[k]! - 1)) r) left.length
theorem sumW_nn {g : Nat → Int} : ∀ n, (∀ k, k < n → 0 ≤ g k) → 0 ≤ sumW g n
  | 0, _ => by simp [sumW]
  | n + 1, h => by
    have := sumW_nn n fun k hk => h k (by omega)
    have := h n (by omega)
    have e : sumW g (n + 1) = sumW g n + g n := rfl
    omega
theorem sumW_part {g : Nat → Int} : ∀ n k, (∀ k, k < n → 0 ≤ g k) → k < n → sumW g k + g k ≤ sumW g n
  | 0, _, _, hk => by omega
  | n + 1, k, h, hk => by
    have e : sumW g (n + 1) = sumW g n + g n := rfl
    have h1 := h n (by omega)
    by_cases hkn : k = n
    · subst hkn; omega
    · have := sumW_part n k (fun k hk => h k (by omega)) (by omega)
      omega
theorem nn_set {left : List Int} (h : ∀ i, i < left.length → 0 ≤ left[i]!) {k : Nat} (hk : 0 < left[k]!) : ∀ i, i < (left.set k (left[k]! - 1)).length → 0 ≤ (left.set k (left[k]! - 1))[i]! := fun i hi => by
  rw [List.length_set] at hi
  rw [get_set hi]
  by_cases e : k = i
  · rw [if_pos e]; omega
  · rw [if_neg e]; exact h i hi
theorem cw_nn : ∀ (f : Nat) (c left : List Int) (r : Nat), (∀ i, i < left.length → 0 ≤ left[i]!) → 0 ≤ cw f c left r
  | 0, c, left, r, _ => by rw [cw]; split <;> omega
  | f + 1, c, left, r, h => by
    rw [cw]
    refine sumW_nn _ fun k hk => ?_
    have h1 := h k hk
    by_cases h0 : left[k]! = 0
    · rw [h0]; simp
    · exact Int.mul_nonneg h1 (cw_nn f _ _ r (nn_set h (by omega)))
theorem rkC_lt {c : List Int} (h0 : 0 < c.length) (h9 : c.length ≤ 9) : check (num c []) = 0 ∧ (rkC c : Int) = rkF (num c []) 0 ∧ rkF (num c []) 0 < (cntR c.length).1 := by
  have h1 := check_num c [] (by simpa using h9)
  have h2 : check (num c []) = 0 := by
    unfold check
    rw [num_length, if_neg (by omega), if_neg (by omega)]
    exact h1
  have h3 := rank_lt h2
  rw [num_length] at h3
  refine ⟨h2, ?_, h3.2⟩
  unfold rkC
  omega
set_option maxRecDepth 100000 in
theorem refOf_spec {B : Nat} {H : Heap} {v : Value} {c : List Int} (hB : B ≤ H.n) (hv : Ints H v c) (h0 : 0 < c.length) (h9 : c.length ≤ 9) :
    CallB Try.prog B 22 [v] H (fun r H' => (∃ p, r = .tuple #[p, .int .i64 0] ∧ Ints H' p (num c [])) ∧ Keep H H') := by
  refine CV.enter callees false rfl Try.func22 rfl (by kernel_rfl) (Nat.le_of_ble_eq_true rfl) hB ?_
  repeat' first
    | refine CO.cons rfl ?_
    | refine CO.nil ?_
    | refine CV.seq ?_
    | refine CV.region callees ?_
    | refine CV.cond ?_
    | refine CV.block ?_
    | refine CV.skip ?_
    | refine CV.exit ?_
    | refine CV.ret ?_
    | refine CV.scope ?_
    | refine CV.draw callees (by decide +kernel) ?_
    | refine CH.cons rfl ?_
    | refine CH.nil ?_
    | refine CO.consG rfl ?_
    | refine CH.consG rfl ?_
    | refine CG.cons rfl ?_
    | refine CR.cons ?_
    | refine CR.nil ?_
    | refine CG.nil ?_
    | refine CG.consG rfl ?_
    | refine ⟨(rfl : plain _ = true), ?_⟩
    | refine ⟨(rfl : nilOk _ = some _), ?_⟩
    | refine ⟨_, ints_len (by assumption), ?_⟩
    | refine ⟨_, ints_addr (by assumption) (by omega) (by omega), ?_⟩
    | refine ⟨_, ints_load (by assumption) (by omega) (by omega), ?_⟩
    | refine ⟨(⟨by omega, by omega⟩ : inI64 _), ?_⟩
    | refine ⟨_, fun tm ha => step1_max rfl (ev_tmp ha rfl) (ev_tmp ha rfl), ?_⟩
    | refine ⟨_, fun tm ha => step1_min rfl (ev_tmp ha rfl) (ev_tmp ha rfl), ?_⟩
    | (refine ⟨fun _ => ?_, fun _ => ?_⟩ <;> first | (exfalso; omega) | skip)
    | fail
  refine (refof_spec hB hv (by omega)).mono ?_
  rintro r H1 ⟨ho, k1⟩
  repeat' first
    | refine CO.cons rfl ?_
    | refine CO.nil ?_
    | refine CV.seq ?_
    | refine CV.region callees ?_
    | refine CV.cond ?_
    | refine CV.block ?_
    | refine CV.skip ?_
    | refine CV.exit ?_
    | refine CV.ret ?_
    | refine CV.scope ?_
    | refine CV.draw callees (by decide +kernel) ?_
    | refine CH.cons rfl ?_
    | refine CH.nil ?_
    | refine CO.consG rfl ?_
    | refine CH.consG rfl ?_
    | refine CG.cons rfl ?_
    | refine CR.cons ?_
    | refine CR.nil ?_
    | refine CG.nil ?_
    | refine CG.consG rfl ?_
    | refine ⟨(rfl : plain _ = true), ?_⟩
    | refine ⟨(rfl : nilOk _ = some _), ?_⟩
    | refine ⟨_, ints_len (by assumption), ?_⟩
    | refine ⟨_, ints_addr (by assumption) (by omega) (by omega), ?_⟩
    | refine ⟨_, ints_load (by assumption) (by omega) (by omega), ?_⟩
    | refine ⟨(⟨by omega, by omega⟩ : inI64 _), ?_⟩
    | refine ⟨_, fun tm ha => step1_max rfl (ev_tmp ha rfl) (ev_tmp ha rfl), ?_⟩
    | refine ⟨_, fun tm ha => step1_min rfl (ev_tmp ha rfl) (ev_tmp ha rfl), ?_⟩
    | (refine ⟨fun _ => ?_, fun _ => ?_⟩ <;> first | (exfalso; omega) | skip)
    | fail
  exact ⟨by simp only [List.all_cons, List.all_nil, ho.notTuple]; rfl, ⟨r, rfl, ho.row⟩, k1⟩
set_option maxRecDepth 100000 in
set_option maxHeartbeats 4000000 in
theorem courses_spec : ∀ (f : Nat) {B Bo : Nat} {H : Heap} {cv lv ov : Value} {c left out : List Int} {d : Int}, B ≤ H.n → B ≤ Bo → Ints H cv c → Ints H lv left → Own 3 H ov (out.map VI) Bo → Apart cv ov → Apart lv ov →
    d = ((c.length + f : Nat) : Int) → 1 ≤ d → d ≤ 6 → left.length ≤ 6 → (∀ i, i < left.length → 0 ≤ left[i]! ∧ left[i]! ≤ 9) → out.length = (cntR d).1.toNat → (∀ r, r < out.length → 0 ≤ out[r]! ∧ out[r]! + cw f c left r ≤ 1000000000) →
    CallB Try.prog B 63 [cv, lv, .int .i64 d, ov] H (fun _ H' => Own 3 H' ov ((addL out (cw f c left)).map VI) Bo ∧ KeepBut ov H H')
  | 0, B, Bo, H, cv, lv, ov, c, left, out, d, hB, hBo, hc, hl, ho, hca, hla, hd, h1, h6, hl6, hle, hlen, hsm => by
    refine CV.enter callees false rfl Try.func63 rfl (by kernel_rfl) (Nat.le_of_ble_eq_true rfl) hB ?_
    obtain ⟨r1, r2, r3⟩ := rkC_lt (c := c) (by omega) (by omega)
    rw [show (c.length : Int) = d by omega] at r3
    have hrl : rkC c < out.length := by omega
    have hsr := hsm (rkC c) hrl
    have hcw : cw 0 c left (rkC c) = 1 := by rw [cw, if_pos rfl]
    have hle9 : (num c []).length = c.length := num_length _ _
    repeat' first
      | refine CO.cons rfl ?_
      | refine CO.nil ?_
      | refine CV.seq ?_
      | refine CV.region callees ?_
      | refine CV.cond ?_
      | refine CV.block ?_
      | refine CV.skip ?_
      | refine CV.exit ?_
      | refine CV.ret ?_
      | refine CV.scope ?_
      | refine CV.draw callees (by decide +kernel) ?_
      | refine CH.cons rfl ?_
      | refine CH.nil ?_
      | refine CO.consG rfl ?_
      | refine CH.consG rfl ?_
      | refine CG.cons rfl ?_
      | refine CR.cons ?_
      | refine CR.nil ?_
      | refine CG.nil ?_
      | refine CG.consG rfl ?_
      | refine ⟨(rfl : plain _ = true), ?_⟩
      | refine ⟨(rfl : nilOk _ = some _), ?_⟩
      | refine ⟨_, ints_len (by assumption), ?_⟩
      | refine ⟨_, ints_addr (by assumption) (by omega) (by omega), ?_⟩
      | refine ⟨_, ints_load (by assumption) (by omega) (by omega), ?_⟩
      | refine ⟨(⟨by omega, by omega⟩ : inI64 _), ?_⟩
      | refine ⟨_, fun tm ha => step1_max rfl (ev_tmp ha rfl) (ev_tmp ha rfl), ?_⟩
      | refine ⟨_, fun tm ha => step1_min rfl (ev_tmp ha rfl) (ev_tmp ha rfl), ?_⟩
      | (refine ⟨fun _ => ?_, fun _ => ?_⟩ <;> first | (exfalso; omega) | skip)
      | fail
    refine (refOf_spec (by omega) hc (by omega) (by omega)).mono ?_
    rintro r H1 ⟨⟨p, rfl, hp⟩, k1⟩
    have l1 := k1.1
    repeat' first
      | refine CO.cons rfl ?_
      | refine CO.nil ?_
      | refine CV.seq ?_
      | refine CV.region callees ?_
      | refine CV.cond ?_
      | refine CV.block ?_
      | refine CV.skip ?_
      | refine CV.exit ?_
      | refine CV.ret ?_
      | refine CV.scope ?_
      | refine CV.draw callees (by decide +kernel) ?_
      | refine CH.cons rfl ?_
      | refine CH.nil ?_
      | refine CO.consG rfl ?_
      | refine CH.consG rfl ?_
      | refine CG.cons rfl ?_
      | refine CR.cons ?_
      | refine CR.nil ?_
      | refine CG.nil ?_
      | refine CG.consG rfl ?_
      | refine ⟨(rfl : plain _ = true), ?_⟩
      | refine ⟨(rfl : nilOk _ = some _), ?_⟩
      | refine ⟨_, ints_len (by assumption), ?_⟩
      | refine ⟨_, ints_addr (by assumption) (by omega) (by omega), ?_⟩
      | refine ⟨_, ints_load (by assumption) (by omega) (by omega), ?_⟩
      | refine ⟨(⟨by omega, by omega⟩ : inI64 _), ?_⟩
      | refine ⟨_, fun tm ha => step1_max rfl (ev_tmp ha rfl) (ev_tmp ha rfl), ?_⟩
      | refine ⟨_, fun tm ha => step1_min rfl (ev_tmp ha rfl) (ev_tmp ha rfl), ?_⟩
      | (refine ⟨fun _ => ?_, fun _ => ?_⟩ <;> first | (exfalso; omega) | skip)
      | fail
    refine (refRank_spec (by omega) hp).mono ?_
    rintro r H2 ⟨rfl, rfl⟩
    have hpv : pairV (rankR (num c [])) = .tuple #[.int .i64 (rkC c : Int), .int .i64 0] := by
      unfold rankR
      rw [if_pos r1, r2]; rfl
    rw [hpv]
    have ho1 := ho.keep k1
    have hoi : Ints H2 ov out := ho1.row
    have hoo : out[((rkC c : Nat) : Int).toNat]! = out[rkC c]! := rfl
    repeat' first
      | refine CO.cons rfl ?_
      | refine CO.nil ?_
      | refine CV.seq ?_
      | refine CV.region callees ?_
      | refine CV.cond ?_
      | refine CV.block ?_
      | refine CV.skip ?_
      | refine CV.exit ?_
      | refine CV.ret ?_
      | refine CV.scope ?_
      | refine CV.draw callees (by decide +kernel) ?_
      | refine CH.cons rfl ?_
      | refine CH.nil ?_
      | refine CO.consG rfl ?_
      | refine CH.consG rfl ?_
      | refine CG.cons rfl ?_
      | refine CR.cons ?_
      | refine CR.nil ?_
      | refine CG.nil ?_
      | refine CG.consG rfl ?_
      | refine ⟨(rfl : plain _ = true), ?_⟩
      | refine ⟨(rfl : nilOk _ = some _), ?_⟩
      | refine ⟨_, ints_len (by assumption), ?_⟩
      | refine ⟨_, ints_addr (by assumption) (by omega) (by omega), ?_⟩
      | refine ⟨_, ints_load (by assumption) (by omega) (by omega), ?_⟩
      | refine ⟨(⟨by omega, by omega⟩ : inI64 _), ?_⟩
      | refine ⟨_, fun tm ha => step1_max rfl (ev_tmp ha rfl) (ev_tmp ha rfl), ?_⟩
      | refine ⟨_, fun tm ha => step1_min rfl (ev_tmp ha rfl) (ev_tmp ha rfl), ?_⟩
      | (refine ⟨fun _ => ?_, fun _ => ?_⟩ <;> first | (exfalso; omega) | skip)
      | fail
    refine put_ask (i := rkC c) ho1 hBo hrl ?_
    intro H3 ho3 kb3
    repeat' first
      | refine CO.cons rfl ?_
      | refine CO.nil ?_
      | refine CV.seq ?_
      | refine CV.region callees ?_
      | refine CV.cond ?_
      | refine CV.block ?_
      | refine CV.skip ?_
      | refine CV.exit ?_
      | refine CV.ret ?_
      | refine CV.scope ?_
      | refine CV.draw callees (by decide +kernel) ?_
      | refine CH.cons rfl ?_
      | refine CH.nil ?_
      | refine CO.consG rfl ?_
      | refine CH.consG rfl ?_
      | refine CG.cons rfl ?_
      | refine CR.cons ?_
      | refine CR.nil ?_
      | refine CG.nil ?_
      | refine CG.consG rfl ?_
      | refine ⟨(rfl : plain _ = true), ?_⟩
      | refine ⟨(rfl : nilOk _ = some _), ?_⟩
      | refine ⟨_, ints_len (by assumption), ?_⟩
      | refine ⟨_, ints_addr (by assumption) (by omega) (by omega), ?_⟩
      | refine ⟨_, ints_load (by assumption) (by omega) (by omega), ?_⟩
      | refine ⟨(⟨by omega, by omega⟩ : inI64 _), ?_⟩
      | refine ⟨_, fun tm ha => step1_max rfl (ev_tmp ha rfl) (ev_tmp ha rfl), ?_⟩
      | refine ⟨_, fun tm ha => step1_min rfl (ev_tmp ha rfl) (ev_tmp ha rfl), ?_⟩
      | (refine ⟨fun _ => ?_, fun _ => ?_⟩ <;> first | (exfalso; omega) | skip)
      | fail
    refine ⟨rfl, ?_, (k1.but ov).trans kb3⟩
    rw [hoo, addL_set] at ho3
    rw [show cw 0 c left = fun r => if rkC c = r then 1 else 0 from rfl]
    exact ho3
  | f + 1, B, Bo, H, cv, lv, ov, c, left, out, d, hB, hBo, hc, hl, ho, hca, hla, hd, h1, h6, hl6, hle, hlen, hsm => by
    refine CV.enter callees false rfl Try.func63 rfl (by kernel_rfl) (Nat.le_of_ble_eq_true rfl) hB ?_
    repeat' first
      | refine CO.cons rfl ?_
      | refine CO.nil ?_
      | refine CV.seq ?_
      | refine CV.region callees ?_
      | refine CV.cond ?_
      | refine CV.block ?_
      | refine CV.skip ?_
      | refine CV.exit ?_
      | refine CV.ret ?_
      | refine CV.scope ?_
      | refine CV.draw callees (by decide +kernel) ?_
      | refine CH.cons rfl ?_
      | refine CH.nil ?_
      | refine CO.consG rfl ?_
      | refine CH.consG rfl ?_
      | refine CG.cons rfl ?_
      | refine CR.cons ?_
      | refine CR.nil ?_
      | refine CG.nil ?_
      | refine CG.consG rfl ?_
      | refine ⟨(rfl : plain _ = true), ?_⟩
      | refine ⟨(rfl : nilOk _ = some _), ?_⟩
      | refine ⟨_, ints_len (by assumption), ?_⟩
      | refine ⟨_, ints_addr (by assumption) (by omega) (by omega), ?_⟩
      | refine ⟨_, ints_load (by assumption) (by omega) (by omega), ?_⟩
      | refine ⟨(⟨by omega, by omega⟩ : inI64 _), ?_⟩
      | refine ⟨_, fun tm ha => step1_max rfl (ev_tmp ha rfl) (ev_tmp ha rfl), ?_⟩
      | refine ⟨_, fun tm ha => step1_min rfl (ev_tmp ha rfl) (ev_tmp ha rfl), ?_⟩
      | (refine ⟨fun _ => ?_, fun _ => ?_⟩ <;> first | (exfalso; omega) | skip)
      | fail
    obtain ⟨W, hW⟩ : ∃ W : Nat → Nat → Int, W = fun (k : Nat) (r : Nat) => cw f (c ++ [(k : Int)]) (left.set k (left[k]! - 1)) r := ⟨_, rfl⟩
    have hWk : ∀ (k r : Nat), cw f (c ++ [(k : Int)]) (left.set k (left[k]! - 1)) r = W k r := fun k r => by rw [hW]
    have hnn : ∀ i, i < left.length → 0 ≤ left[i]! := fun i hi => (hle i hi).1
    have htot : ∀ r : Nat, cw (f + 1) c left r = sumW (fun k => left[k]! * W k r) left.length := fun r => by rw [cw, hW]
    have hWn : ∀ k r : Nat, k < left.length → 0 < left[k]! → 0 ≤ W k r := fun k r hk hp => by rw [hW]; exact cw_nn _ _ _ _ (nn_set hnn hp)
    have hTn : ∀ k r : Nat, k < left.length → 0 ≤ left[k]! * W k r := fun k r hk => by
      by_cases h0 : left[k]! = 0
      · rw [h0]; simp
      · exact Int.mul_nonneg (hnn k hk) (hWn k r hk (by have := hnn k hk; omega))
    clear hW
    refine CV.loopc ?_
    refine WCv.rounds callees false (α := Nat) (fun k => [(0, cv), (1, lv), (2, .int .i64 d), (3, ov), (12, .int .i64 (k : Int))]) (fun k Hz => k ≤ left.length ∧ Own 3 Hz ov ((addL out (fun r => sumW (fun k => left[k]! * W k r) k)).map VI) Bo ∧ KeepBut ov H Hz) (fun k => left.length - k) (0) (by repeat' first | exact trivial | refine ⟨rfl, ?_⟩ | refine ⟨slot_int (by (try simp only [Int.toNat_natCast]); omega), ?_⟩) ?_ ?_
    · exact ⟨by omega, by rw [addL_zero (g := fun r => sumW (fun k => left[k]! * W k r) 0) (fun r _ => rfl)]; exact ho, KeepBut.refl _ _⟩
    rintro k Hx ⟨hk, hox, kbx⟩ hBx
    have hcx := row_but hc kbx hca
    have hlx : Ints Hx lv left := row_but hl kbx hla
    by_cases hk2 : k < left.length
    · have hlk := hle k hk2
      have hlki : left[((k : Nat) : Int).toNat]! = left[k]! := rfl
      repeat' first
        | refine CO.cons rfl ?_
        | refine CO.nil ?_
        | refine CV.seq ?_
        | refine CV.region callees ?_
        | refine CV.cond ?_
        | refine CV.block ?_
        | refine CV.skip ?_
        | refine CV.exit ?_
        | refine CV.ret ?_
        | refine CV.scope ?_
        | refine CV.draw callees (by decide +kernel) ?_
        | refine CH.cons rfl ?_
        | refine CH.nil ?_
        | refine CO.consG rfl ?_
        | refine CH.consG rfl ?_
        | refine CG.cons rfl ?_
        | refine CR.cons ?_
        | refine CR.nil ?_
        | refine CG.nil ?_
        | refine CG.consG rfl ?_
        | refine ⟨(rfl : plain _ = true), ?_⟩
        | refine ⟨(rfl : nilOk _ = some _), ?_⟩
        | refine ⟨_, ints_len (by assumption), ?_⟩
        | refine ⟨_, ints_addr (by assumption) (by omega) (by omega), ?_⟩
        | refine ⟨_, ints_load (by assumption) (by omega) (by omega), ?_⟩
        | refine ⟨(⟨by omega, by omega⟩ : inI64 _), ?_⟩
        | refine ⟨_, fun tm ha => step1_max rfl (ev_tmp ha rfl) (ev_tmp ha rfl), ?_⟩
        | refine ⟨_, fun tm ha => step1_min rfl (ev_tmp ha rfl) (ev_tmp ha rfl), ?_⟩
        | (refine ⟨fun _ => ?_, fun _ => ?_⟩ <;> first | (exfalso; omega) | skip)
        | fail
      refine CV.loopc ?_
      refine WCv.rounds callees false (α := Nat) (fun i => [(0, cv), (1, lv), (2, .int .i64 d), (3, ov), (12, .int .i64 (k : Int)), (13, .int .i64 (i : Int))]) (fun i Hz => (i : Int) ≤ left[k]! ∧ Own 3 Hz ov ((addL out (fun r => sumW (fun k => left[k]! * W k r) k + (i : Int) * W k r)).map VI) Bo ∧ KeepBut ov H Hz) (fun i => (left[k]! - i).toNat) (0) (by repeat' first | exact trivial | refine ⟨rfl, ?_⟩ | refine ⟨slot_int (by (try simp only [Int.toNat_natCast]); omega), ?_⟩) ?_ ?_
      · refine ⟨by omega, ?_, kbx⟩
        have e : addL out (fun r => sumW (fun k => left[k]! * W k r) k + ((0 : Nat) : Int) * W k r) = addL out (fun r => sumW (fun k => left[k]! * W k r) k) := addL_congr fun r _ => by simp
        rw [e]; exact hox
      rintro i Hy ⟨hi, hoy, kby⟩ hBy
      have hcy : Ints Hy cv c := row_but hc kby hca
      have hly : Ints Hy lv left := row_but hl kby hla
      by_cases hi2 : (i : Int) < left[k]!
      · repeat' first
          | refine CO.cons rfl ?_
          | refine CO.nil ?_
          | refine CV.seq ?_
          | refine CV.region callees ?_
          | refine CV.cond ?_
          | refine CV.block ?_
          | refine CV.skip ?_
          | refine CV.exit ?_
          | refine CV.ret ?_
          | refine CV.scope ?_
          | refine CV.draw callees (by decide +kernel) ?_
          | refine CH.cons rfl ?_
          | refine CH.nil ?_
          | refine CO.consG rfl ?_
          | refine CH.consG rfl ?_
          | refine CG.cons rfl ?_
          | refine CR.cons ?_
          | refine CR.nil ?_
          | refine CG.nil ?_
          | refine CG.consG rfl ?_
          | refine ⟨(rfl : plain _ = true), ?_⟩
          | refine ⟨(rfl : nilOk _ = some _), ?_⟩
          | refine ⟨_, ints_len (by assumption), ?_⟩
          | refine ⟨_, ints_addr (by assumption) (by omega) (by omega), ?_⟩
          | refine ⟨_, ints_load (by assumption) (by omega) (by omega), ?_⟩
          | refine ⟨(⟨by omega, by omega⟩ : inI64 _), ?_⟩
          | refine ⟨_, fun tm ha => step1_max rfl (ev_tmp ha rfl) (ev_tmp ha rfl), ?_⟩
          | refine ⟨_, fun tm ha => step1_min rfl (ev_tmp ha rfl) (ev_tmp ha rfl), ?_⟩
          | (refine ⟨fun _ => ?_, fun _ => ?_⟩ <;> first | (exfalso; omega) | skip)
          | fail
        refine (ints_spec (by omega) hly (by omega)).mono ?_
        rintro r H1 ⟨hr1, k1⟩
        have l1 := k1.1
        have hri : Ints H1 r left := hr1.row
        repeat' first
          | refine CO.cons rfl ?_
          | refine CO.nil ?_
          | refine CV.seq ?_
          | refine CV.region callees ?_
          | refine CV.cond ?_
          | refine CV.block ?_
          | refine CV.skip ?_
          | refine CV.exit ?_
          | refine CV.ret ?_
          | refine CV.scope ?_
          | refine CV.draw callees (by decide +kernel) ?_
          | refine CH.cons rfl ?_
          | refine CH.nil ?_
          | refine CO.consG rfl ?_
          | refine CH.consG rfl ?_
          | refine CG.cons rfl ?_
          | refine CR.cons ?_
          | refine CR.nil ?_
          | refine CG.nil ?_
          | refine CG.consG rfl ?_
          | refine ⟨(rfl : plain _ = true), ?_⟩
          | refine ⟨(rfl : nilOk _ = some _), ?_⟩
          | refine ⟨_, ints_len (by assumption), ?_⟩
          | refine ⟨_, ints_addr (by assumption) (by omega) (by omega), ?_⟩
          | refine ⟨_, ints_load (by assumption) (by omega) (by omega), ?_⟩
          | refine ⟨(⟨by omega, by omega⟩ : inI64 _), ?_⟩
          | refine ⟨_, fun tm ha => step1_max rfl (ev_tmp ha rfl) (ev_tmp ha rfl), ?_⟩
          | refine ⟨_, fun tm ha => step1_min rfl (ev_tmp ha rfl) (ev_tmp ha rfl), ?_⟩
          | (refine ⟨fun _ => ?_, fun _ => ?_⟩ <;> first | (exfalso; omega) | skip)
          | fail
        refine put_ask (B := B) (i := k) hr1 (by omega) hk2 ?_
        intro H2 hr2 kb2
        have k2 : Keep Hy H2 := kb2.keep k1 fun x hx => (hr1.lt hx).1
        have l2 := k2.1
        have hc2 : Ints H2 cv c := Row.keep hcy k2
        repeat' first
          | refine CO.cons rfl ?_
          | refine CO.nil ?_
          | refine CV.seq ?_
          | refine CV.region callees ?_
          | refine CV.cond ?_
          | refine CV.block ?_
          | refine CV.skip ?_
          | refine CV.exit ?_
          | refine CV.ret ?_
          | refine CV.scope ?_
          | refine CV.draw callees (by decide +kernel) ?_
          | refine CH.cons rfl ?_
          | refine CH.nil ?_
          | refine CO.consG rfl ?_
          | refine CH.consG rfl ?_
          | refine CG.cons rfl ?_
          | refine CR.cons ?_
          | refine CR.nil ?_
          | refine CG.nil ?_
          | refine CG.consG rfl ?_
          | refine ⟨(rfl : plain _ = true), ?_⟩
          | refine ⟨(rfl : nilOk _ = some _), ?_⟩
          | refine ⟨_, ints_len (by assumption), ?_⟩
          | refine ⟨_, ints_addr (by assumption) (by omega) (by omega), ?_⟩
          | refine ⟨_, ints_load (by assumption) (by omega) (by omega), ?_⟩
          | refine ⟨(⟨by omega, by omega⟩ : inI64 _), ?_⟩
          | refine ⟨_, fun tm ha => step1_max rfl (ev_tmp ha rfl) (ev_tmp ha rfl), ?_⟩
          | refine ⟨_, fun tm ha => step1_min rfl (ev_tmp ha rfl) (ev_tmp ha rfl), ?_⟩
          | (refine ⟨fun _ => ?_, fun _ => ?_⟩ <;> first | (exfalso; omega) | skip)
          | fail
        refine (ints_spec (by omega) hc2 (by omega)).mono ?_
        rintro q H3 ⟨hq3, k3⟩
        have l3 := k3.1
        repeat' first
          | refine CO.cons rfl ?_
          | refine CO.nil ?_
          | refine CV.seq ?_
          | refine CV.region callees ?_
          | refine CV.cond ?_
          | refine CV.block ?_
          | refine CV.skip ?_
          | refine CV.exit ?_
          | refine CV.ret ?_
          | refine CV.scope ?_
          | refine CV.draw callees (by decide +kernel) ?_
          | refine CH.cons rfl ?_
          | refine CH.nil ?_
          | refine CO.consG rfl ?_
          | refine CH.consG rfl ?_
          | refine CG.cons rfl ?_
          | refine CR.cons ?_
          | refine CR.nil ?_
          | refine CG.nil ?_
          | refine CG.consG rfl ?_
          | refine ⟨(rfl : plain _ = true), ?_⟩
          | refine ⟨(rfl : nilOk _ = some _), ?_⟩
          | refine ⟨_, ints_len (by assumption), ?_⟩
          | refine ⟨_, ints_addr (by assumption) (by omega) (by omega), ?_⟩
          | refine ⟨_, ints_load (by assumption) (by omega) (by omega), ?_⟩
          | refine ⟨(⟨by omega, by omega⟩ : inI64 _), ?_⟩
          | refine ⟨_, fun tm ha => step1_max rfl (ev_tmp ha rfl) (ev_tmp ha rfl), ?_⟩
          | refine ⟨_, fun tm ha => step1_min rfl (ev_tmp ha rfl) (ev_tmp ha rfl), ?_⟩
          | refine ⟨_, _, build_one un22 one3 rfl, ?_⟩
          | (refine ⟨fun _ => ?_, fun _ => ?_⟩ <;> first | (exfalso; omega) | skip)
          | fail
        refine push_ask (B := B) hq3 (by omega) (by omega) (by omega) ?_
        intro q4 H4 hq4 kb4 hf4
        have k4 : Keep H2 H4 := kb4.keep k3 fun x hx => (hq3.lt hx).1
        have k24 := k2.trans k4
        have l4 := k24.1
        have ho4 := hoy.keep k24
        have hr4 := hr2.keep k4
        have lo4 := fun x (hx : blkOf ov = some x) => (hoy.lt hx).2
        have ln : (left.set k (left[k]! - 1)).length = left.length := List.length_set ..
        have hapq : Apart q4 ov := fun x hx hx2 => by have := (hq4.lt hx).1; have := lo4 x hx2; omega
        have hapr : Apart r ov := fun x hx hx2 => by have := (hr2.lt hx).1; have := lo4 x hx2; omega
        repeat' first
          | refine CO.cons rfl ?_
          | refine CO.nil ?_
          | refine CV.seq ?_
          | refine CV.region callees ?_
          | refine CV.cond ?_
          | refine CV.block ?_
          | refine CV.skip ?_
          | refine CV.exit ?_
          | refine CV.ret ?_
          | refine CV.scope ?_
          | refine CV.draw callees (by decide +kernel) ?_
          | refine CH.cons rfl ?_
          | refine CH.nil ?_
          | refine CO.consG rfl ?_
          | refine CH.consG rfl ?_
          | refine CG.cons rfl ?_
          | refine CR.cons ?_
          | refine CR.nil ?_
          | refine CG.nil ?_
          | refine CG.consG rfl ?_
          | refine ⟨(rfl : plain _ = true), ?_⟩
          | refine ⟨(rfl : nilOk _ = some _), ?_⟩
          | refine ⟨_, ints_len (by assumption), ?_⟩
          | refine ⟨_, ints_addr (by assumption) (by omega) (by omega), ?_⟩
          | refine ⟨_, ints_load (by assumption) (by omega) (by omega), ?_⟩
          | refine ⟨(⟨by omega, by omega⟩ : inI64 _), ?_⟩
          | refine ⟨_, fun tm ha => step1_max rfl (ev_tmp ha rfl) (ev_tmp ha rfl), ?_⟩
          | refine ⟨_, fun tm ha => step1_min rfl (ev_tmp ha rfl) (ev_tmp ha rfl), ?_⟩
          | (refine ⟨fun _ => ?_, fun _ => ?_⟩ <;> first | (exfalso; omega) | skip)
          | fail
        refine (courses_spec f (Bo := Bo) (c := c ++ [(k : Int)]) (left := left.set k (left[k]! - 1)) (by omega) hBo hq4.row hr4.row ho4 hapq hapr (by simp; omega) h1 h6 (by omega) ?_ (by rw [addL_len]; exact hlen) ?_).mono ?_
        · intro j hj
          rw [ln] at hj
          rw [get_set hj]
          have := hle j hj
          by_cases e : k = j
          · rw [if_pos e]; omega
          · rw [if_neg e]; exact this
        · intro r hr
          rw [addL_len] at hr
          rw [addL_get hr, hWk]
          have h7 := hsm r hr
          rw [htot] at h7
          have h8 := sumW_part (g := fun k => left[k]! * W k r) left.length k (fun k hk => hTn k r hk) hk2
          have h9 := hWn k r hk2 (by omega)
          have h10 := sumW_nn (g := fun k => left[k]! * W k r) k (fun j hj => hTn j r (by omega))
          have h11 : ((i : Int) + 1) * W k r ≤ left[k]! * W k r := Int.mul_le_mul_of_nonneg_right (by omega) h9
          rw [Int.add_mul] at h11
          have h12 : 0 ≤ (i : Int) * W k r := Int.mul_nonneg (by omega) h9
          omega
        rintro _ H5 ⟨ho5, kb5⟩
        have e5 : addL (addL out (fun r => sumW (fun k => left[k]! * W k r) k + (i : Int) * W k r)) (cw f (c ++ [(k : Int)]) (left.set k (left[k]! - 1))) = addL out (fun r => sumW (fun k => left[k]! * W k r) k + ((i + 1 : Nat) : Int) * W k r) := by
          rw [addL_add]
          refine addL_congr fun r _ => ?_
          rw [hWk, Int.natCast_add, Int.add_mul]; simp; omega
        rw [e5] at ho5
        repeat' first
          | refine CO.cons rfl ?_
          | refine CO.nil ?_
          | refine CV.seq ?_
          | refine CV.region callees ?_
          | refine CV.cond ?_
          | refine CV.block ?_
          | refine CV.skip ?_
          | refine CV.exit ?_
          | refine CV.ret ?_
          | refine CV.scope ?_
          | refine CV.draw callees (by decide +kernel) ?_
          | refine CH.cons rfl ?_
          | refine CH.nil ?_
          | refine CO.consG rfl ?_
          | refine CH.consG rfl ?_
          | refine CG.cons rfl ?_
          | refine CR.cons ?_
          | refine CR.nil ?_
          | refine CG.nil ?_
          | refine CG.consG rfl ?_
          | refine ⟨(rfl : plain _ = true), ?_⟩
          | refine ⟨(rfl : nilOk _ = some _), ?_⟩
          | refine ⟨_, ints_len (by assumption), ?_⟩
          | refine ⟨_, ints_addr (by assumption) (by omega) (by omega), ?_⟩
          | refine ⟨_, ints_load (by assumption) (by omega) (by omega), ?_⟩
          | refine ⟨(⟨by omega, by omega⟩ : inI64 _), ?_⟩
          | refine ⟨_, fun tm ha => step1_max rfl (ev_tmp ha rfl) (ev_tmp ha rfl), ?_⟩
          | refine ⟨_, fun tm ha => step1_min rfl (ev_tmp ha rfl) (ev_tmp ha rfl), ?_⟩
          | (refine ⟨fun _ => ?_, fun _ => ?_⟩ <;> first | (exfalso; omega) | skip)
          | fail
        refine ⟨(i + 1), (by repeat' first | exact trivial | refine ⟨rfl, ?_⟩ | refine ⟨slot_int (by (try simp only [Int.toNat_natCast]); omega), ?_⟩), (by (try dsimp only); omega), ?_⟩
        exact ⟨by omega, ho5, (kby.trans (k24.but ov)).trans kb5⟩
      · have hik : (i : Int) = left[k]! := by omega
        rw [hik] at hoy
        repeat' first
          | refine CO.cons rfl ?_
          | refine CO.nil ?_
          | refine CV.seq ?_
          | refine CV.region callees ?_
          | refine CV.cond ?_
          | refine CV.block ?_
          | refine CV.skip ?_
          | refine CV.exit ?_
          | refine CV.ret ?_
          | refine CV.scope ?_
          | refine CV.draw callees (by decide +kernel) ?_
          | refine CH.cons rfl ?_
          | refine CH.nil ?_
          | refine CO.consG rfl ?_
          | refine CH.consG rfl ?_
          | refine CG.cons rfl ?_
          | refine CR.cons ?_
          | refine CR.nil ?_
          | refine CG.nil ?_
          | refine CG.consG rfl ?_
          | refine ⟨(rfl : plain _ = true), ?_⟩
          | refine ⟨(rfl : nilOk _ = some _), ?_⟩
          | refine ⟨_, ints_len (by assumption), ?_⟩
          | refine ⟨_, ints_addr (by assumption) (by omega) (by omega), ?_⟩
          | refine ⟨_, ints_load (by assumption) (by omega) (by omega), ?_⟩
          | refine ⟨(⟨by omega, by omega⟩ : inI64 _), ?_⟩
          | refine ⟨_, fun tm ha => step1_max rfl (ev_tmp ha rfl) (ev_tmp ha rfl), ?_⟩
          | refine ⟨_, fun tm ha => step1_min rfl (ev_tmp ha rfl) (ev_tmp ha rfl), ?_⟩
          | (refine ⟨fun _ => ?_, fun _ => ?_⟩ <;> first | (exfalso; omega) | skip)
          | fail
        refine ⟨(k + 1), (by repeat' first | exact trivial | refine ⟨rfl, ?_⟩ | refine ⟨slot_int (by (try simp only [Int.toNat_natCast]); omega), ?_⟩), (by (try dsimp only); omega), ?_⟩
        exact ⟨by omega, hoy, kby⟩
    · have hkl : k = left.length := by omega
      subst hkl
      repeat' first
        | refine CO.cons rfl ?_
        | refine CO.nil ?_
        | refine CV.seq ?_
        | refine CV.region callees ?_
        | refine CV.cond ?_
        | refine CV.block ?_
        | refine CV.skip ?_
        | refine CV.exit ?_
        | refine CV.ret ?_
        | refine CV.scope ?_
        | refine CV.draw callees (by decide +kernel) ?_
        | refine CH.cons rfl ?_
        | refine CH.nil ?_
        | refine CO.consG rfl ?_
        | refine CH.consG rfl ?_
        | refine CG.cons rfl ?_
        | refine CR.cons ?_
        | refine CR.nil ?_
        | refine CG.nil ?_
        | refine CG.consG rfl ?_
        | refine ⟨(rfl : plain _ = true), ?_⟩
        | refine ⟨(rfl : nilOk _ = some _), ?_⟩
        | refine ⟨_, ints_len (by assumption), ?_⟩
        | refine ⟨_, ints_addr (by assumption) (by omega) (by omega), ?_⟩
        | refine ⟨_, ints_load (by assumption) (by omega) (by omega), ?_⟩
        | refine ⟨(⟨by omega, by omega⟩ : inI64 _), ?_⟩
        | refine ⟨_, fun tm ha => step1_max rfl (ev_tmp ha rfl) (ev_tmp ha rfl), ?_⟩
        | refine ⟨_, fun tm ha => step1_min rfl (ev_tmp ha rfl) (ev_tmp ha rfl), ?_⟩
        | (refine ⟨fun _ => ?_, fun _ => ?_⟩ <;> first | (exfalso; omega) | skip)
        | fail
      refine ⟨rfl, ?_, kbx⟩
      have e : cw (f + 1) c left = fun r => sumW (fun k => left[k]! * W k r) left.length := funext htot
      rw [e]; exact hox
end Go.Proofs.Ytlpkbcgdcimglaa

