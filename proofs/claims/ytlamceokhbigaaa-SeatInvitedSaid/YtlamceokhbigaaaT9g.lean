
/- Rules that must be kept; prices. -/
import Derived.Test.YtlamceokhbigaaaT8g
set_option linter.unusedVariables false
set_option linter.unusedSimpArgs false
namespace Go.Proofs.Ytlamceokhbigaaa
open Go.AI
/-- Whether a number is one of the bits. -/
def hasN (N i : Nat) : Bool := (N >>> i) &&& 1 == 1
set_option maxRecDepth 100000 in
theorem hasB_spec {B : Nat} {H : Heap} {N i : Nat} (hB : B ≤ H.n) (hN : N < 2 ^ 64) (hi : i < 64) :
    CallB Try.prog B 120 [VU N, VI i] H (fun v H' => v = .bool (hasN N i) ∧ H' = H) := by
  have hs : N >>> (i : Int).toNat < 2 ^ 64 := Nat.lt_of_le_of_lt (by rw [Nat.shiftRight_eq_div_pow]; exact Nat.div_le_self _ _) hN
  have hIt : (i : Int).toNat = i := by omega
  refine CV.enter callees false rfl Try.func120 rfl (by kernel_rfl) (Nat.le_of_ble_eq_true rfl) hB ?_
  repeat' first
    | refine CO.cons rfl ?_
    | refine CO.nil ?_
    | refine CV.seq ?_
    | refine CV.region callees ?_
    | refine CV.cond ?_
    | refine CV.block ?_
    | refine CV.skip ?_
    | refine CV.exit ?_
    | refine CV.ret ?_
    | refine CV.scope ?_
    | refine CV.draw callees (by decide +kernel) ?_
    | refine CH.cons rfl ?_
    | refine CH.nil ?_
    | refine CO.consG rfl ?_
    | refine CH.consG rfl ?_
    | refine CG.cons rfl ?_
    | refine CR.cons ?_
    | refine CR.nil ?_
    | refine CG.nil ?_
    | refine CG.consG rfl ?_
    | refine ⟨(rfl : plain _ = true), ?_⟩
    | refine ⟨(rfl : nilOk _ = some _), ?_⟩
    | refine ⟨_, ints_len (by assumption), ?_⟩
    | refine ⟨_, ints_addr (by assumption) (by omega) (by omega), ?_⟩
    | refine ⟨_, ints_load (by assumption) (by omega) (by omega), ?_⟩
    | refine ⟨(⟨by omega, by omega⟩ : inI64 _), ?_⟩
    | refine ⟨_, fun tm ha => step1_max rfl (ev_tmp ha rfl) (ev_tmp ha rfl), ?_⟩
    | refine ⟨_, fun tm ha => step1_min rfl (ev_tmp ha rfl) (ev_tmp ha rfl), ?_⟩
    | (refine ⟨_, fun tm ha => shrUu rfl (ev_tmp ha rfl) (ev_tmp ha rfl) (by omega) (by omega), ?_⟩)
    | (refine ⟨_, fun tm ha => andUu (b := 1) rfl (ev_tmp ha rfl) rfl hs (by decide), ?_⟩)
    | (refine ⟨fun _ => ?_, fun _ => ?_⟩ <;> first | (exfalso; omega) | skip)
    | fail
  all_goals
    rename_i h
    refine ⟨rfl, ?_, rfl⟩
    rw [hIt] at h
    unfold hasN
    congr 1
    symm
    first
      | (rw [beq_iff_eq]; omega)
      | (rw [beq_eq_false_iff_ne]; omega)
def sumI : List Int → Int
  | [] => 0
  | x :: l => x + sumI l
theorem sumI_app : ∀ {l : List Int} {x : Int}, sumI (l ++ [x]) = sumI l + x
  | [], x => by simp [sumI]
  | y :: l, x => by simp only [List.cons_append, sumI, sumI_app]; omega
theorem sumI_bd {c : Int} (hc : 0 ≤ c) : ∀ {l : List Int}, (∀ x ∈ l, 0 ≤ x ∧ x ≤ c) → 0 ≤ sumI l ∧ sumI l ≤ c * l.length
  | [], _ => by simp [sumI]
  | x :: l, h => by
    have h1 := h x (List.mem_cons_self ..)
    have h2 := sumI_bd hc (l := l) fun y hy => h y (List.mem_cons_of_mem _ hy)
    simp only [sumI, List.length_cons, Int.natCast_add, Int.mul_add]
    omega
end Go.Proofs.Ytlamceokhbigaaa

