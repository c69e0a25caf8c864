/- DesignKnown: the row. -/
import Derived.Test.YtbgbepnccdndoaaPc
import Derived.Test.YtbgbepnccdndoaaP1
set_option linter.unusedVariables false
set_option linter.unusedSimpArgs false
namespace Go.Proofs.Ytbgbepnccdndoaa
open Go.AI Go.ChangeShapes Go.WideShapes Go.ChangeAt Go.RowKit

theorem designKnown_spec {H : Heap} : @CallB Try.prog (Oracle.of Try.prog kn5) H.n 8 [] H (fun r _ => r = .bool true) :=
  @CallB.known Try.prog (Oracle.of Try.prog kn5) _ _ _ _ _ rfl trivial (Nat.le_refl _) rfl
set_option maxRecDepth 100000 in
theorem designKnown_lifted (os : Os) (started : os.Started) (H : Type) (enc : TypeId × Value → H) :
    ReturnsInHanded {} Try.checked os 8 .any (fun w args => Rows.designKnownSpec.pre enc Try.prog Try.f8 [] false w args ∧ sizedMet enc Try.prog Try.f8 (OpenSpec.ofChange Rows.designKnownSpec) false w args) (Rows.designKnownSpec.post enc Try.prog Try.f8 false true false false) := by
  refine lift started (by kernel_rfl) Try.func8
    (ChangeSpec.witness6 (enc := enc) (C := Try.checked) (os := os) false ⟨#[], #[], []⟩ 8 (by kernel_rfl) (by kernel_rfl) (by kernel_rfl) (by kernel_rfl) (by kernel_rfl)) ?_
  intro W base args ds gs before hbig hval hW
  have hW' := hW
  obtain ⟨p, q, hA0, hV, rfl, hfz, hnd⟩ := hW
  have hA : DataW.TrodAll enc Try.prog W 0 (fun _ => true) true Try.f8.params.toList args.toList ds p := hA0
  rw [Try.params8] at hA hval
  obtain ⟨hargs, rfl, rfl⟩ := trodAll_nil hA
  obtain rfl : args = #[] := by cases args; simp_all
  obtain ⟨rfl, rfl⟩ := trodVars_none hV
  have hHR := seenG_hr (W := W) [] (by simp) (by simp) (by simp)
  have hrun := @run_of Try.prog (Oracle.of Try.prog kn5) W.heap.size _ _ _ 8 [] #[] _ mixed (ok5 _) hHR .nil designKnown_spec
  refine hrun.mono fun e W' ⟨u, u', H', ρ', he, hu, hq, bel⟩ => ?_
  subst he; subst hq
  have hu' : u' = .bool true := hu.plain rfl
  subst hu'
  exact ⟨_, rfl, _, _, _, [], _, [], hW', trodAll_mk1 (shut_bool Try.underlying4 _), trodAll_mk0, rfl, bel.frame _, fun h => by cases h⟩

theorem designKnown_holds : Rows.DesignKnownSaid :=
  OpenClaim.holds_of_wide 8 Try.f8 rfl rfl rfl rfl rfl rfl rfl ⟨rfl, rfl, rfl, rfl, rfl⟩ rfl rfl rfl rfl rfl (by kernel_rfl) Try.func8 (by kernel_rfl)
    (of_decide_eq_true (by kernel_rfl)) (by unfold Func.isWrapper; first | (rw [if_pos (by decide +kernel)]; kernel_rfl) | (rw [if_neg (by decide +kernel)]; exact ⟨rfl, rfl⟩))
    (fun os started H enc _ => designKnown_lifted os started H enc)
end Go.Proofs.Ytbgbepnccdndoaa
