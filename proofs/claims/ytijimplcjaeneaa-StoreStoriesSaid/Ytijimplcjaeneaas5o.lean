
/- StoreStories: the row. -/
import Derived.Test.YtijimplcjaeneaaWzo
import Derived.Test.YtijimplcjaeneaaEo
import Derived.Test.Ytijimplcjaeneaae0o
import Derived.Test.Ytijimplcjaeneaas4o
set_option linter.unusedVariables false
set_option linter.unusedSimpArgs false
namespace Go.Proofs.Ytijimplcjaeneaa
open Go.AI Go.ChangeShapes Go.WideShapes Go.ChangeAt Go.RowKit

set_option maxRecDepth 100000 in
theorem storeStories_lifted (os : Os) (started : os.Started) (H : Type) (enc : TypeId × Value → H) :
    ReturnsInHanded {} Try.checked os 8 .any (fun w args => Rows.storeStoriesSpec.pre enc Try.prog Try.f8 [] false w args ∧ sizedMet enc Try.prog Try.f8 (OpenSpec.ofChange Rows.storeStoriesSpec) false w args) (Rows.storeStoriesSpec.post enc Try.prog Try.f8 false true false false) := by
  refine lift started (by kernel_rfl) Try.func8
    (ChangeSpec.witness6 (enc := enc) (C := Try.checked) (os := os) false ⟨#[], #[.slice none 0 0], []⟩ 8 (by kernel_rfl) (by kernel_rfl) (by kernel_rfl) (by kernel_rfl)) ?_
  intro W base args ds gs before hbig hval hW
  have hW' := hW
  obtain ⟨p, q, hA0, hV, rfl, hfz, hnd⟩ := hW
  have hA : DataW.TrodAll enc Try.prog W 0 (fun _ => true) true Try.f8.params.toList args.toList ds p := hA0
  rw [Try.params8] at hA hval
  obtain ⟨rfl, rfl⟩ := trodVars_none hV
  have hrun := run_args (f := 8) mixed nglobs (ok2 _) hA (fun j t v h1 h2 => hval j t v (by rw [← Array.getElem?_toList]; exact h1) (by rw [← Array.getElem?_toList]; exact h2)) (by kernel_rfl) (fun H vs h => by
    obtain _ | ⟨h0, h⟩ := h
    cases h
    obtain ⟨xs, x1, x2, _⟩ := dat_ints h0
    exact stories_walk x1 x2) (wild2 _)
  obtain ⟨d0, rfl⟩ : ∃ d0, ds = [d0] := by
    have h := hA
    obtain ⟨_, _, d0, s0, _, _, _, rfl, _, _, r0⟩ := trodAll_cons h
    obtain ⟨_, rfl, _⟩ := trodAll_nil r0
    exact ⟨_, rfl⟩
  refine hrun.mono fun e W' ⟨he, bel⟩ => ?_
  subst he
  exact ⟨_, rfl, _, _, _, [], _, [], hW', trodAll_mk1 (shut_bool Try.underlying4 _), trodAll_below laidOut bel (by rw [Try.params8]; kernel_rfl) hA0, rfl, bel.frame _, fun h => by cases h⟩

theorem storeStories_holds : Rows.StoreStoriesSaid :=
  OpenClaim.holds_of_wide 8 Try.f8 rfl rfl rfl rfl rfl rfl rfl ⟨rfl, rfl, rfl, rfl, rfl⟩ rfl rfl rfl rfl rfl (by kernel_rfl) Try.func8 (by kernel_rfl)
    (of_decide_eq_true (by kernel_rfl)) (by unfold Func.isWrapper; first | (rw [if_pos (by decide +kernel)]; kernel_rfl) | (rw [if_neg (by decide +kernel)]; exact ⟨rfl, rfl⟩))
    (fun os started H enc _ => storeStories_lifted os started H enc)
end Go.Proofs.Ytijimplcjaeneaa
