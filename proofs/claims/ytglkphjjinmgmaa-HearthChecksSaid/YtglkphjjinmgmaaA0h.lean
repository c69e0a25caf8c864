
/- What is fixed of the program (package hearth), when coals begin with it. -/
import Derived.Test.YtglkphjjinmgmaaW6h
set_option linter.unusedVariables false
set_option linter.unusedSimpArgs false
namespace Go.AI
/-- A call whose answer is proved elsewhere. -/
theorem CallB.wild {P : Program} [Oracle P] {B : Nat} {f : FuncId} {l : List Value} {H H' : Heap} {v : Value} {lo : Nat} {Q : Value → Heap → Prop} (hv : Oracle.val P f = none) (hw : Oracle.wild P f = true) (h : Oracle.wildF P f l H = some (v, H', lo)) (hB : B ≤ lo ∧ B ≤ H'.n) (hq : Q v H') : CallB P B f l H Q := by
  refine ⟨⟨1, v, H', lo, ?_, hB, hq⟩⟩
  rw [call]
  unfold oracle
  simp only [hv, hw, cond_true, h]
end Go.AI
namespace Go.Proofs.Ytglkphjjinmgmaa
open Go.AI
noncomputable instance oracle2 : Oracle Try.prog := ⟨fun _ => none, fun _ => True, [], rfl, fun _ => instDecidableTrue, fun f => Nat.beq f 92, fun f l H => bif Nat.beq f 92 then wildB l H else none⟩
theorem ok2 (B : Nat) : OracleOK Try.prog B := fun f v hv => by cases hv
theorem wild2 (B : Nat) : WildOK Try.prog B := by
  intro f l H v H' lo hw h ρ w args k hH ha
  have hw : Nat.beq f 92 = true := hw
  have hf := Nat.eq_of_beq_eq_true hw
  subst hf
  have h : wildB l H = some (v, H', lo) := h
  by_cases hx : ∃ B, BegOf l H B
  · obtain ⟨Bs, hb⟩ := hx
    rw [wildB_is hb] at h
    cases h
    exact begin_calls hb k hH ha
  · unfold wildB at h
    rw [dif_neg hx] at h
    cases h
theorem callees : calleesOk Try.prog 107 = true := by kernel_rfl
end Go.Proofs.Ytglkphjjinmgmaa

