/- Several texts in one. -/
import Derived.Test.YtlpkbcgdcimglaaZ4
set_option linter.unusedVariables false
set_option linter.unusedSimpArgs false

/- Kinds in another order have the same numbers. -/
namespace Go.Proofs.Ytlpkbcgdcimglaa
open Go.AI
set_option linter.unusedVariables false
set_option linter.unusedSimpArgs false
end Go.Proofs.Ytlpkbcgdcimglaa



/- Kinds in another order: the law's function. -/
namespace Go.Proofs.Ytlpkbcgdcimglaa
open Go.AI
set_option linter.unusedVariables false
set_option linter.unusedSimpArgs false
end Go.Proofs.Ytlpkbcgdcimglaa



/- Picked out of A1.tpl A2.tpl A3.tpl A4.tpl A7.tpl Ma.tpl B0.tpl B1.tpl B2.tpl B3.tpl B4.tpl B5.tpl B6.tpl B8.tpl D1.tpl D2.tpl. -/
namespace Go.Proofs.Ytlpkbcgdcimglaa
open Go.AI

end Go.Proofs.Ytlpkbcgdcimglaa

namespace Go.Proofs.Ytlpkbcgdcimglaa
open Go.AI

def num : List Int → List Int → List Int
  | [], _ => []
  | x :: r, met => if x ∈ met then (met.idxOf x : Nat) :: num r met else (met.length : Nat) :: num r (met ++ [x])
end Go.Proofs.Ytlpkbcgdcimglaa

namespace Go.Proofs.Ytlpkbcgdcimglaa
open Go.AI

end Go.Proofs.Ytlpkbcgdcimglaa

namespace Go.Proofs.Ytlpkbcgdcimglaa
open Go.AI

end Go.Proofs.Ytlpkbcgdcimglaa

namespace Go.Proofs.Ytlpkbcgdcimglaa
open Go.AI

end Go.Proofs.Ytlpkbcgdcimglaa

namespace Go.Proofs.Ytlpkbcgdcimglaa
open Go.AI

end Go.Proofs.Ytlpkbcgdcimglaa

namespace Go.Proofs.Ytlpkbcgdcimglaa
open Go.AI

end Go.Proofs.Ytlpkbcgdcimglaa

namespace Go.Proofs.Ytlpkbcgdcimglaa
open Go.AI
end Go.Proofs.Ytlpkbcgdcimglaa

namespace Go.Proofs.Ytlpkbcgdcimglaa
open Go.AI

/-- The first place of a label among those from a place on. -/
theorem idx_from {met : List Int} {x : Int} {k : Nat} (h : ∀ j, j < k → met[j]! ≠ x) (hk : k ≤ met.length) (he : k = met.length ∨ met[k]! = x) : (if x ∈ met then met.idxOf x else met.length) = k := by
  by_cases hx : x ∈ met
  · rw [if_pos hx]
    have h1 := List.idxOf_lt_length_of_mem hx
    have h2 := List.getElem_idxOf h1
    rcases Nat.lt_trichotomy (met.idxOf x) k with h3 | h3 | h3
    · exact absurd (by rw [getElem!_pos met _ h1]; exact h2) (h _ h3)
    · exact h3
    · rcases he with rfl | he
      · omega
      · have := List.not_of_lt_findIdx (p := (· == x)) (xs := met) (i := k) h3
        rw [getElem!_pos met k (by omega)] at he
        simp [he] at this
  · rw [if_neg hx]
    rcases he with rfl | he
    · rfl
    · by_cases hl : k < met.length
      · rw [getElem!_pos met k hl] at he
        exact absurd (he ▸ List.getElem_mem hl) hx
      · omega
theorem num_step {x : Int} {r met : List Int} {k : Nat} (h : (if x ∈ met then met.idxOf x else met.length) = k) : num (x :: r) met = (k : Int) :: num r (if k = met.length then met ++ [x] else met) := by
  rw [num]
  by_cases hx : x ∈ met
  · rw [if_pos hx] at h ⊢
    have := List.idxOf_lt_length_of_mem hx
    rw [if_neg (by omega), h]
  · rw [if_neg hx] at h ⊢
    rw [if_pos h.symm, h]

set_option maxRecDepth 100000 in
theorem refof_spec {B : Nat} {H : Heap} {v : Value} {xs : List Int} (hn : B ≤ H.n) (hv : Ints H v xs) (hl : xs.length ≤ 1000) :
    CallB Try.prog B 75 [v] H (fun r H' => Own 3 H' r ((num xs []).map VI) H.n ∧ Keep H H') := by
  refine CV.enter callees false rfl Try.func75 rfl (by kernel_rfl) (Nat.le_of_ble_eq_true rfl) hn ?_
  repeat' first
    | refine CO.cons rfl ?_
    | refine CO.nil ?_
    | refine CV.seq ?_
    | refine CV.region callees ?_
    | refine CV.cond ?_
    | refine CV.block ?_
    | refine CV.skip ?_
    | refine CV.exit ?_
    | refine CV.ret ?_
    | refine CV.scope ?_
    | refine CV.draw callees (by decide +kernel) ?_
    | refine CH.cons rfl ?_
    | refine CH.nil ?_
    | refine CO.consG rfl ?_
    | refine CH.consG rfl ?_
    | refine CG.cons rfl ?_
    | refine CR.cons ?_
    | refine CR.nil ?_
    | refine CG.nil ?_
    | refine CG.consG rfl ?_
    | refine ⟨(rfl : plain _ = true), ?_⟩
    | refine ⟨(rfl : nilOk _ = some _), ?_⟩
    | refine ⟨_, ints_len (by assumption), ?_⟩
    | refine ⟨_, ints_addr (by assumption) (by omega) (by omega), ?_⟩
    | refine ⟨_, ints_load (by assumption) (by omega) (by omega), ?_⟩
    | refine ⟨(⟨by omega, by omega⟩ : inI64 _), ?_⟩
    | refine ⟨_, fun tm ha => step1_max rfl (ev_tmp ha rfl) (ev_tmp ha rfl), ?_⟩
    | refine ⟨_, fun tm ha => step1_min rfl (ev_tmp ha rfl) (ev_tmp ha rfl), ?_⟩
    | (refine ⟨fun _ => ?_, fun _ => ?_⟩ <;> first | (exfalso; omega) | skip)
    | fail
  refine CV.loopc ?_
  refine WCv.rounds callees false (α := Value × Value × Int × List Int × List Int) (fun (o, u, i, met, out) => [(0, v), (3, o), (4, u), (5, .int .i64 i)]) (fun (o, u, i, met, out) Hz => 0 ≤ i ∧ i ≤ xs.length ∧ out.length = i.toNat ∧ met.length ≤ i.toNat ∧ Own 3 Hz o (out.map VI) H.n ∧ Own 3 Hz u (met.map VI) H.n ∧ Apart o u ∧ Keep H Hz ∧ num xs [] = out ++ num (xs.drop i.toNat) met) (fun (o, u, i, met, out) => xs.length - i.toNat) (.slice none 0 0, .slice none 0 0, 0, [], []) (by repeat' first | exact trivial | refine ⟨rfl, ?_⟩) ?_ ?_
  · exact ⟨by simp, by simp, rfl, by simp, .inl ⟨rfl, rfl⟩, .inl ⟨rfl, rfl⟩, apart_nil, Keep.refl _, by simp⟩
  rintro ⟨o, u, i, met, out⟩ Hx ⟨hi0, hi1, hlen, hml, ho, hu, hap, hk, hnum⟩ hBx
  have hvx : Ints Hx v xs := hv.keep hk
  have hux : Ints Hx u met := hu.row
  repeat' first
    | refine CO.cons rfl ?_
    | refine CO.nil ?_
    | refine CV.seq ?_
    | refine CV.region callees ?_
    | refine CV.cond ?_
    | refine CV.block ?_
    | refine CV.skip ?_
    | refine CV.exit ?_
    | refine CV.ret ?_
    | refine CV.scope ?_
    | refine CV.draw callees (by decide +kernel) ?_
    | refine CH.cons rfl ?_
    | refine CH.nil ?_
    | refine CO.consG rfl ?_
    | refine CH.consG rfl ?_
    | refine CG.cons rfl ?_
    | refine CR.cons ?_
    | refine CR.nil ?_
    | refine CG.nil ?_
    | refine CG.consG rfl ?_
    | refine ⟨(rfl : plain _ = true), ?_⟩
    | refine ⟨(rfl : nilOk _ = some _), ?_⟩
    | refine ⟨_, ints_len (by assumption), ?_⟩
    | refine ⟨_, ints_addr (by assumption) (by omega) (by omega), ?_⟩
    | refine ⟨_, ints_load (by assumption) (by omega) (by omega), ?_⟩
    | refine ⟨(⟨by omega, by omega⟩ : inI64 _), ?_⟩
    | refine ⟨_, fun tm ha => step1_max rfl (ev_tmp ha rfl) (ev_tmp ha rfl), ?_⟩
    | refine ⟨_, fun tm ha => step1_min rfl (ev_tmp ha rfl) (ev_tmp ha rfl), ?_⟩
    | (refine ⟨fun _ => ?_, fun _ => ?_⟩ <;> first | (exfalso; omega) | skip)
    | fail
  · refine CV.loopc ?_
    refine WCv.rounds callees false (α := Int) (fun a => [(0, v), (3, o), (4, u), (5, .int .i64 i), (6, .int .i64 a)]) (fun a Hz => Hz = Hx ∧ 0 ≤ a ∧ a ≤ met.length ∧ ∀ j : Nat, (j : Int) < a → met[j]! ≠ xs[i.toNat]!) (fun a => met.length - a.toNat) (0) (by repeat' first | exact trivial | refine ⟨rfl, ?_⟩) ?_ ?_
    · exact ⟨rfl, by omega, by omega, fun j h => by omega⟩
    rintro k Hy ⟨rfl, hk0, hk1, hg⟩ _
    repeat' first
      | refine CO.cons rfl ?_
      | refine CO.nil ?_
      | refine CV.seq ?_
      | refine CV.region callees ?_
      | refine CV.cond ?_
      | refine CV.block ?_
      | refine CV.skip ?_
      | refine CV.exit ?_
      | refine CV.ret ?_
      | refine CV.scope ?_
      | refine CV.draw callees (by decide +kernel) ?_
      | refine CH.cons rfl ?_
      | refine CH.nil ?_
      | refine CO.consG rfl ?_
      | refine CH.consG rfl ?_
      | refine CG.cons rfl ?_
      | refine CR.cons ?_
      | refine CR.nil ?_
      | refine CG.nil ?_
      | refine CG.consG rfl ?_
      | refine ⟨(rfl : plain _ = true), ?_⟩
      | refine ⟨(rfl : nilOk _ = some _), ?_⟩
      | refine ⟨_, ints_len (by assumption), ?_⟩
      | refine ⟨_, ints_addr (by assumption) (by omega) (by omega), ?_⟩
      | refine ⟨_, ints_load (by assumption) (by omega) (by omega), ?_⟩
      | refine ⟨(⟨by omega, by omega⟩ : inI64 _), ?_⟩
      | refine ⟨_, fun tm ha => step1_max rfl (ev_tmp ha rfl) (ev_tmp ha rfl), ?_⟩
      | refine ⟨_, fun tm ha => step1_min rfl (ev_tmp ha rfl) (ev_tmp ha rfl), ?_⟩
      | (refine ⟨fun _ => ?_, fun _ => ?_⟩ <;> first | (exfalso; omega) | skip)
      | fail
    · refine ⟨(k + 1), (by repeat' first | exact trivial | refine ⟨rfl, ?_⟩), (by (try dsimp only); omega), ?_⟩
      refine ⟨rfl, by omega, by omega, fun j hj => ?_⟩
      by_cases h : (j : Int) < k
      · exact hg j h
      · rwa [show j = k.toNat by omega]
    · have hidx := idx_from (met := met) (x := xs[i.toNat]!) (k := k.toNat) (fun j hj => hg j (by omega)) (by omega) (.inr (Classical.not_not.1 (by assumption)))
      rw [drop_cons (xs := xs) (n := i.toNat) (by omega), num_step hidx, if_neg (by omega)] at hnum
      repeat' first
        | refine CO.cons rfl ?_
        | refine CO.nil ?_
        | refine CV.seq ?_
        | refine CV.region callees ?_
        | refine CV.cond ?_
        | refine CV.block ?_
        | refine CV.skip ?_
        | refine CV.exit ?_
        | refine CV.ret ?_
        | refine CV.scope ?_
        | refine CV.draw callees (by decide +kernel) ?_
        | refine CH.cons rfl ?_
        | refine CH.nil ?_
        | refine CO.consG rfl ?_
        | refine CH.consG rfl ?_
        | refine CG.cons rfl ?_
        | refine CR.cons ?_
        | refine CR.nil ?_
        | refine CG.nil ?_
        | refine CG.consG rfl ?_
        | refine ⟨(rfl : plain _ = true), ?_⟩
        | refine ⟨(rfl : nilOk _ = some _), ?_⟩
        | refine ⟨_, ints_len (by assumption), ?_⟩
        | refine ⟨_, ints_addr (by assumption) (by omega) (by omega), ?_⟩
        | refine ⟨_, ints_load (by assumption) (by omega) (by omega), ?_⟩
        | refine ⟨(⟨by omega, by omega⟩ : inI64 _), ?_⟩
        | refine ⟨_, fun tm ha => step1_max rfl (ev_tmp ha rfl) (ev_tmp ha rfl), ?_⟩
        | refine ⟨_, fun tm ha => step1_min rfl (ev_tmp ha rfl) (ev_tmp ha rfl), ?_⟩
        | refine ⟨_, _, build_one un22 one3 rfl, ?_⟩
        | (refine ⟨fun _ => ?_, fun _ => ?_⟩ <;> first | (exfalso; omega) | skip)
        | fail
      refine append_ask un22 one3 (by omega) ho hk.1 hn (by simp; omega) ?_
      intro o2 H2 ho2 kb2 hf2
      repeat' first
        | refine CO.cons rfl ?_
        | refine CO.nil ?_
        | refine CV.seq ?_
        | refine CV.region callees ?_
        | refine CV.cond ?_
        | refine CV.block ?_
        | refine CV.skip ?_
        | refine CV.exit ?_
        | refine CV.ret ?_
        | refine CV.scope ?_
        | refine CV.draw callees (by decide +kernel) ?_
        | refine CH.cons rfl ?_
        | refine CH.nil ?_
        | refine CO.consG rfl ?_
        | refine CH.consG rfl ?_
        | refine CG.cons rfl ?_
        | refine CR.cons ?_
        | refine CR.nil ?_
        | refine CG.nil ?_
        | refine CG.consG rfl ?_
        | refine ⟨(rfl : plain _ = true), ?_⟩
        | refine ⟨(rfl : nilOk _ = some _), ?_⟩
        | refine ⟨_, ints_len (by assumption), ?_⟩
        | refine ⟨_, ints_addr (by assumption) (by omega) (by omega), ?_⟩
        | refine ⟨_, ints_load (by assumption) (by omega) (by omega), ?_⟩
        | refine ⟨(⟨by omega, by omega⟩ : inI64 _), ?_⟩
        | refine ⟨_, fun tm ha => step1_max rfl (ev_tmp ha rfl) (ev_tmp ha rfl), ?_⟩
        | refine ⟨_, fun tm ha => step1_min rfl (ev_tmp ha rfl) (ev_tmp ha rfl), ?_⟩
        | (refine ⟨fun _ => ?_, fun _ => ?_⟩ <;> first | (exfalso; omega) | skip)
        | fail
      refine ⟨(o2, u, i + 1, met, out ++ [k]), (by repeat' first | exact trivial | refine ⟨rfl, ?_⟩), (by (try dsimp only); omega), ?_⟩
      have e : (i + 1).toNat = i.toNat + 1 := by omega
      refine ⟨by omega, by omega, by simp; omega, by omega, by simpa using ho2, hu.keepBut kb2 hap.symm, (hu.apartNew hf2).symm, kb2.keep hk (fun c hc => (ho.lt hc).1), ?_⟩
      rw [hnum, e, List.append_assoc, show ((k.toNat : Nat) : Int) = k by omega]; rfl
    · have hidx := idx_from (met := met) (x := xs[i.toNat]!) (k := k.toNat) (fun j hj => hg j (by omega)) (by omega) (.inl (by omega))
      rw [drop_cons (xs := xs) (n := i.toNat) (by omega), num_step hidx, if_pos (by omega)] at hnum
      repeat' first
        | refine CO.cons rfl ?_
        | refine CO.nil ?_
        | refine CV.seq ?_
        | refine CV.region callees ?_
        | refine CV.cond ?_
        | refine CV.block ?_
        | refine CV.skip ?_
        | refine CV.exit ?_
        | refine CV.ret ?_
        | refine CV.scope ?_
        | refine CV.draw callees (by decide +kernel) ?_
        | refine CH.cons rfl ?_
        | refine CH.nil ?_
        | refine CO.consG rfl ?_
        | refine CH.consG rfl ?_
        | refine CG.cons rfl ?_
        | refine CR.cons ?_
        | refine CR.nil ?_
        | refine CG.nil ?_
        | refine CG.consG rfl ?_
        | refine ⟨(rfl : plain _ = true), ?_⟩
        | refine ⟨(rfl : nilOk _ = some _), ?_⟩
        | refine ⟨_, ints_len (by assumption), ?_⟩
        | refine ⟨_, ints_addr (by assumption) (by omega) (by omega), ?_⟩
        | refine ⟨_, ints_load (by assumption) (by omega) (by omega), ?_⟩
        | refine ⟨(⟨by omega, by omega⟩ : inI64 _), ?_⟩
        | refine ⟨_, fun tm ha => step1_max rfl (ev_tmp ha rfl) (ev_tmp ha rfl), ?_⟩
        | refine ⟨_, fun tm ha => step1_min rfl (ev_tmp ha rfl) (ev_tmp ha rfl), ?_⟩
        | refine ⟨_, _, build_one un22 one3 rfl, ?_⟩
        | (refine ⟨fun _ => ?_, fun _ => ?_⟩ <;> first | (exfalso; omega) | skip)
        | fail
      refine append_ask un22 one3 (by omega) hu hk.1 hn (by simp; omega) ?_
      intro u1 H1 hu1 kb1 hf1
      have hk1' := kb1.keep hk (fun c hc => (hu.lt hc).1)
      have ho1 := ho.keepBut kb1 hap
      repeat' first
        | refine CO.cons rfl ?_
        | refine CO.nil ?_
        | refine CV.seq ?_
        | refine CV.region callees ?_
        | refine CV.cond ?_
        | refine CV.block ?_
        | refine CV.skip ?_
        | refine CV.exit ?_
        | refine CV.ret ?_
        | refine CV.scope ?_
        | refine CV.draw callees (by decide +kernel) ?_
        | refine CH.cons rfl ?_
        | refine CH.nil ?_
        | refine CO.consG rfl ?_
        | refine CH.consG rfl ?_
        | refine CG.cons rfl ?_
        | refine CR.cons ?_
        | refine CR.nil ?_
        | refine CG.nil ?_
        | refine CG.consG rfl ?_
        | refine ⟨(rfl : plain _ = true), ?_⟩
        | refine ⟨(rfl : nilOk _ = some _), ?_⟩
        | refine ⟨_, ints_len (by assumption), ?_⟩
        | refine ⟨_, ints_addr (by assumption) (by omega) (by omega), ?_⟩
        | refine ⟨_, ints_load (by assumption) (by omega) (by omega), ?_⟩
        | refine ⟨(⟨by omega, by omega⟩ : inI64 _), ?_⟩
        | refine ⟨_, fun tm ha => step1_max rfl (ev_tmp ha rfl) (ev_tmp ha rfl), ?_⟩
        | refine ⟨_, fun tm ha => step1_min rfl (ev_tmp ha rfl) (ev_tmp ha rfl), ?_⟩
        | refine ⟨_, _, build_one un22 one3 rfl, ?_⟩
        | (refine ⟨fun _ => ?_, fun _ => ?_⟩ <;> first | (exfalso; omega) | skip)
        | fail
      refine append_ask un22 one3 (by omega) ho1 hk1'.1 hn (by simp; omega) ?_
      intro o2 H2 ho2 kb2 hf2
      repeat' first
        | refine CO.cons rfl ?_
        | refine CO.nil ?_
        | refine CV.seq ?_
        | refine CV.region callees ?_
        | refine CV.cond ?_
        | refine CV.block ?_
        | refine CV.skip ?_
        | refine CV.exit ?_
        | refine CV.ret ?_
        | refine CV.scope ?_
        | refine CV.draw callees (by decide +kernel) ?_
        | refine CH.cons rfl ?_
        | refine CH.nil ?_
        | refine CO.consG rfl ?_
        | refine CH.consG rfl ?_
        | refine CG.cons rfl ?_
        | refine CR.cons ?_
        | refine CR.nil ?_
        | refine CG.nil ?_
        | refine CG.consG rfl ?_
        | refine ⟨(rfl : plain _ = true), ?_⟩
        | refine ⟨(rfl : nilOk _ = some _), ?_⟩
        | refine ⟨_, ints_len (by assumption), ?_⟩
        | refine ⟨_, ints_addr (by assumption) (by omega) (by omega), ?_⟩
        | refine ⟨_, ints_load (by assumption) (by omega) (by omega), ?_⟩
        | refine ⟨(⟨by omega, by omega⟩ : inI64 _), ?_⟩
        | refine ⟨_, fun tm ha => step1_max rfl (ev_tmp ha rfl) (ev_tmp ha rfl), ?_⟩
        | refine ⟨_, fun tm ha => step1_min rfl (ev_tmp ha rfl) (ev_tmp ha rfl), ?_⟩
        | (refine ⟨fun _ => ?_, fun _ => ?_⟩ <;> first | (exfalso; omega) | skip)
        | fail
      refine ⟨(o2, u1, i + 1, met ++ [xs[i.toNat]!], out ++ [k]), (by repeat' first | exact trivial | refine ⟨rfl, ?_⟩), (by (try dsimp only); omega), ?_⟩
      have e : (i + 1).toNat = i.toNat + 1 := by omega
      refine ⟨by omega, by omega, by simp; omega, by simp; omega, by simpa using ho2, ?_, (hu1.apartNew hf2).symm, kb2.keep hk1' (fun c hc => (ho1.lt hc).1), ?_⟩
      · have := hu1.keepBut kb2 (ho.apartNew hf1).symm
        simpa using this
      · rw [hnum, e, List.append_assoc, show ((k.toNat : Nat) : Int) = k by omega]; rfl
  · have : xs.drop i.toNat = [] := by simp at hi1 ⊢; omega
    rw [this, num, List.append_nil] at hnum
    rw [hnum]
    exact ⟨by simp only [List.all_cons, List.all_nil, ho.notTuple]; rfl, ho, hk⟩
end Go.Proofs.Ytlpkbcgdcimglaa

namespace Go.Proofs.Ytlpkbcgdcimglaa
open Go.AI
end Go.Proofs.Ytlpkbcgdcimglaa

namespace Go.Proofs.Ytlpkbcgdcimglaa
open Go.AI
theorem from_bound : ∀ (xs : List Int) (b : Int), checkFrom xs b = 0 → ∀ i, i < xs.length → 0 ≤ xs[i]! ∧ xs[i]! < 9
  | [], _, _, i, h => by simp at h
  | x :: r, b, h, i, hi => by
    rw [checkFrom] at h
    split at h
    · cases h
    split at h
    · cases h
    cases i with
    | zero => simp; omega
    | succ i => simpa using from_bound r _ h i (by simpa using hi)
theorem check_bound {xs : List Int} (h : check xs = 0) {i : Nat} (hi : i < xs.length) : 0 ≤ xs[i]! ∧ xs[i]! < 9 := from_bound xs 0 (check_from h).1 i hi
end Go.Proofs.Ytlpkbcgdcimglaa

namespace Go.Proofs.Ytlpkbcgdcimglaa
open Go.AI
end Go.Proofs.Ytlpkbcgdcimglaa

namespace Go.Proofs.Ytlpkbcgdcimglaa
open Go.AI
end Go.Proofs.Ytlpkbcgdcimglaa

namespace Go.Proofs.Ytlpkbcgdcimglaa
open Go.AI
end Go.Proofs.Ytlpkbcgdcimglaa

namespace Go.AI
theorem row_slice {P : Program} {H : Heap} {t e : TypeId} {v : Value} {vs : List Value} {i : Int} {kd : IntKind} (ht : P.underlying t = some (.slice e)) (hs : sizeB P e = some 1) (hv : Row H v vs) (h0 : 0 ≤ i) (h1 : i ≤ vs.length) :
    ∃ r, aslice P t v none (some (some (.int kd i))) = some r ∧ Row H r (vs.take i.toNat) := by
  rcases hv with ⟨rfl, rfl⟩ | ⟨rfl, rfl⟩ | ⟨b, o, c, cs, e', k, rfl, h2, h3, h4, h5, h6⟩
  · simp at h1
    have : i = 0 := by omega
    subst this
    exact ⟨.slice none 0 0, by simp [aslice, ht, hs, bound], .inl ⟨rfl, by simp⟩⟩
  · simp at h1
    have : i = 0 := by omega
    subst this
    exact ⟨anon, by simp [aslice, anon, ht, hs, bound], .inr (.inl ⟨rfl, by simp⟩)⟩
  · refine ⟨.slice (some ⟨b, o, none⟩) i.toNat c, by simp [aslice, ht, hs, bound, h0, h1], .inr (.inr ⟨b, o, c, cs, e', k, ?_, h2, h3, h4, ?_, ?_⟩)⟩
    · rw [List.length_take]; congr 1; omega
    · rw [List.length_take]; omega
    · intro j w hj
      rw [List.getElem?_take] at hj
      split at hj
      · exact h6 j w hj
      · cases hj
end Go.AI
namespace Go.Proofs.Ytlpkbcgdcimglaa
open Go.AI
theorem slice_ask {K : Value → Prop} {H : Heap} {v : Value} {xs : List Int} {i : Int} (hv : Ints H v xs) (h0 : 0 ≤ i) (h1 : i ≤ xs.length) (hk : ∀ r, Ints H r (xs.take i.toNat) → K r) :
    ∃ r, aslice Try.prog 22 v none (some (some (.int .i64 i))) = some r ∧ K r := by
  obtain ⟨r, h2, h3⟩ := row_slice (kd := .i64) un22 sz3 hv h0 (by simpa using h1)
  exact ⟨r, h2, hk r (by rw [← List.map_take] at h3; exact h3)⟩
end Go.Proofs.Ytlpkbcgdcimglaa

namespace Go.Proofs.Ytlpkbcgdcimglaa
open Go.AI
end Go.Proofs.Ytlpkbcgdcimglaa




/- Picked out of A2.tpl A3.tpl M1.tpl. -/
namespace Go.Proofs.Ytlpkbcgdcimglaa
open Go.AI

theorem num_length : ∀ (xs met : List Int), (num xs met).length = xs.length
  | [], _ => rfl
  | x :: r, met => by rw [num]; split <;> simp [num_length r]

end Go.Proofs.Ytlpkbcgdcimglaa

namespace Go.Proofs.Ytlpkbcgdcimglaa
open Go.AI

theorem check_num : ∀ (xs met : List Int), met.length + xs.length ≤ 9 → checkFrom (num xs met) met.length = 0
  | [], _, _ => rfl
  | x :: r, met, h => by
    simp only [List.length_cons] at h
    rw [num]
    split
    · rename_i hx
      have := List.idxOf_lt_length_of_mem hx
      rw [checkFrom, if_neg (by omega), if_neg (by omega), show max (met.length : Int) ((met.idxOf x : Nat) + 1) = met.length by omega]
      exact check_num r met (by omega)
    · rw [checkFrom, if_neg (by omega), if_neg (by omega), show max (met.length : Int) ((met.length : Nat) + 1) = ((met ++ [x]).length : Nat) by simp; omega]
      exact check_num r (met ++ [x]) (by simp; omega)
end Go.Proofs.Ytlpkbcgdcimglaa

namespace Go.Proofs.Ytlpkbcgdcimglaa
open Go.AI
end Go.Proofs.Ytlpkbcgdcimglaa
namespace Go.Proofs.Ytlpkbcgdcimglaa
open Go.AI
set_option linter.unusedVariables false
set_option linter.unusedSimpArgs false
/-- The rank of the partition of a course. -/
def rkC (c : List Int) : Nat := (rkF (num c []) 0).toNat
/-- How many ways to go on behind a course lead to a partition. -/
def cw : Nat → List Int → List Int → Nat → Int
  | 0, c, _, r => if rkC c = r then 1 else 0
  | f + 1, c, left, r => sumW (fun k => left[k]! * cw f (c ++ [(k : Int)]) (left.set k (left[k]! - 1)) r) left.length
set_option maxRecDepth 100000 in
theorem refOf_spec {B : Nat} {H : Heap} {v : Value} {c : List Int} (hB : B ≤ H.n) (hv : Ints H v c) (h0 : 0 < c.length) (h9 : c.length ≤ 9) :
    CallB Try.prog B 22 [v] H (fun r H' => (∃ p, r = .tuple #[p, .int .i64 0] ∧ Ints H' p (num c [])) ∧ Keep H H') := by
  refine CV.enter callees false rfl Try.func22 rfl (by kernel_rfl) (Nat.le_of_ble_eq_true rfl) hB ?_
  repeat' first
    | refine CO.cons rfl ?_
    | refine CO.nil ?_
    | refine CV.seq ?_
    | refine CV.region callees ?_
    | refine CV.cond ?_
    | refine CV.block ?_
    | refine CV.skip ?_
    | refine CV.exit ?_
    | refine CV.ret ?_
    | refine CV.scope ?_
    | refine CV.draw callees (by decide +kernel) ?_
    | refine CH.cons rfl ?_
    | refine CH.nil ?_
    | refine CO.consG rfl ?_
    | refine CH.consG rfl ?_
    | refine CG.cons rfl ?_
    | refine CR.cons ?_
    | refine CR.nil ?_
    | refine CG.nil ?_
    | refine CG.consG rfl ?_
    | refine ⟨(rfl : plain _ = true), ?_⟩
    | refine ⟨(rfl : nilOk _ = some _), ?_⟩
    | refine ⟨_, ints_len (by assumption), ?_⟩
    | refine ⟨_, ints_addr (by assumption) (by omega) (by omega), ?_⟩
    | refine ⟨_, ints_load (by assumption) (by omega) (by omega), ?_⟩
    | refine ⟨(⟨by omega, by omega⟩ : inI64 _), ?_⟩
    | refine ⟨_, fun tm ha => step1_max rfl (ev_tmp ha rfl) (ev_tmp ha rfl), ?_⟩
    | refine ⟨_, fun tm ha => step1_min rfl (ev_tmp ha rfl) (ev_tmp ha rfl), ?_⟩
    | (refine ⟨fun _ => ?_, fun _ => ?_⟩ <;> first | (exfalso; omega) | skip)
    | fail
  refine (refof_spec hB hv (by omega)).mono ?_
  rintro r H1 ⟨ho, k1⟩
  repeat' first
    | refine CO.cons rfl ?_
    | refine CO.nil ?_
    | refine CV.seq ?_
    | refine CV.region callees ?_
    | refine CV.cond ?_
    | refine CV.block ?_
    | refine CV.skip ?_
    | refine CV.exit ?_
    | refine CV.ret ?_
    | refine CV.scope ?_
    | refine CV.draw callees (by decide +kernel) ?_
    | refine CH.cons rfl ?_
    | refine CH.nil ?_
    | refine CO.consG rfl ?_
    | refine CH.consG rfl ?_
    | refine CG.cons rfl ?_
    | refine CR.cons ?_
    | refine CR.nil ?_
    | refine CG.nil ?_
    | refine CG.consG rfl ?_
    | refine ⟨(rfl : plain _ = true), ?_⟩
    | refine ⟨(rfl : nilOk _ = some _), ?_⟩
    | refine ⟨_, ints_len (by assumption), ?_⟩
    | refine ⟨_, ints_addr (by assumption) (by omega) (by omega), ?_⟩
    | refine ⟨_, ints_load (by assumption) (by omega) (by omega), ?_⟩
    | refine ⟨(⟨by omega, by omega⟩ : inI64 _), ?_⟩
    | refine ⟨_, fun tm ha => step1_max rfl (ev_tmp ha rfl) (ev_tmp ha rfl), ?_⟩
    | refine ⟨_, fun tm ha => step1_min rfl (ev_tmp ha rfl) (ev_tmp ha rfl), ?_⟩
    | (refine ⟨fun _ => ?_, fun _ => ?_⟩ <;> first | (exfalso; omega) | skip)
    | fail
  exact ⟨by simp only [List.all_cons, List.all_nil, ho.notTuple]; rfl, ⟨r, rfl, ho.row⟩, k1⟩
end Go.Proofs.Ytlpkbcgdcimglaa


