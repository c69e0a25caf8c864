
/- HearthLays: the row. -/
import Derived.Test.YtglkphjjinmgmaaWzh
import Derived.Test.YtglkphjjinmgmaaEo
import Derived.Test.Ytglkphjjinmgmaaq8h
import Derived.Test.Ytglkphjjinmgmaat6h
set_option linter.unusedVariables false
set_option linter.unusedSimpArgs false
namespace Go.Proofs.Ytglkphjjinmgmaa
open Go.AI Go.ChangeShapes Go.WideShapes Go.ChangeAt Go.RowKit

set_option maxRecDepth 100000 in
theorem hearthLays_lifted (os : Os) (started : os.Started) (H : Type) (enc : TypeId × Value → H) :
    ReturnsInHanded {} Try.checked os 5 .any (fun w args => Rows.hearthLaysSpec.pre enc Try.prog Try.f5 [] false w args ∧ sizedMet enc Try.prog Try.f5 (OpenSpec.ofChange Rows.hearthLaysSpec) false w args) (Rows.hearthLaysSpec.post enc Try.prog Try.f5 false true false false) := by
  refine lift started (by kernel_rfl) Try.func5
    (ChangeSpec.witness6 (enc := enc) (C := Try.checked) (os := os) false ⟨#[], #[.agg #[.int .i64 0, .int .i64 0, .int .i64 0, .int .i64 0, .int .i64 0, .int .i64 0, .int .i64 0, .int .i64 0], .agg #[.slice none 0 0, .slice none 0 0], .slice none 0 0, .int .i64 0, .int .i64 0, .slice none 0 0], []⟩ 8 (by kernel_rfl) (by kernel_rfl) (by kernel_rfl) (by kernel_rfl)) ?_
  intro W base args ds gs before hbig hval hW
  have hW' := hW
  obtain ⟨p, q, hA0, hV, rfl, hfz, hnd⟩ := hW
  have hA : DataW.TrodAll enc Try.prog W 0 (fun _ => true) true Try.f5.params.toList args.toList ds p := hA0
  rw [Try.params5] at hA hval
  obtain ⟨rfl, rfl⟩ := trodVars_none hV
  have hrun := run_args (f := 5) mixed nglobs (ok2 _) hA (fun j t v h1 h2 => hval j t v (by rw [← Array.getElem?_toList]; exact h1) (by rw [← Array.getElem?_toList]; exact h2)) (by kernel_rfl) (fun H vs h => by
    obtain _ | ⟨h1, h⟩ := h
    obtain _ | ⟨h0, h⟩ := h
    obtain _ | ⟨h2, h⟩ := h
    obtain _ | ⟨h3, h⟩ := h
    obtain _ | ⟨h4, h⟩ := h
    obtain _ | ⟨h5, h⟩ := h
    cases h
    obtain ⟨cv, tv, cs, ts, rfl, a1, a2, _, _⟩ := dat_fire h0
    obtain ⟨k, rfl⟩ := dat_kettle h1
    obtain ⟨ps, a3, _⟩ := dat_pours h2
    obtain ⟨m, rfl, _⟩ := dat_int h3
    obtain ⟨m2, rfl, _⟩ := dat_int h4
    obtain ⟨xs, x1, x2, _⟩ := dat_ints h5
    exact laysLaw_spec a1 a2 a3 x1 x2) (wild2 _)
  obtain ⟨d0, d1, d2, d3, d4, d5, rfl⟩ : ∃ d0 d1 d2 d3 d4 d5, ds = [d0, d1, d2, d3, d4, d5] := by
    have h := hA
    obtain ⟨_, _, d0, s0, _, _, _, rfl, _, _, r0⟩ := trodAll_cons h
    obtain ⟨_, _, d1, s1, _, _, _, rfl, _, _, r1⟩ := trodAll_cons r0
    obtain ⟨_, _, d2, s2, _, _, _, rfl, _, _, r2⟩ := trodAll_cons r1
    obtain ⟨_, _, d3, s3, _, _, _, rfl, _, _, r3⟩ := trodAll_cons r2
    obtain ⟨_, _, d4, s4, _, _, _, rfl, _, _, r4⟩ := trodAll_cons r3
    obtain ⟨_, _, d5, s5, _, _, _, rfl, _, _, r5⟩ := trodAll_cons r4
    obtain ⟨_, rfl, _⟩ := trodAll_nil r5
    exact ⟨_, _, _, _, _, _, rfl⟩
  refine hrun.mono fun e W' ⟨he, bel⟩ => ?_
  subst he
  exact ⟨_, rfl, _, _, _, [], _, [], hW', trodAll_mk1 (shut_bool Try.underlying4 _), trodAll_below laidOut bel (by rw [Try.params5]; kernel_rfl) hA0, rfl, bel.frame _, fun h => by cases h⟩

theorem hearthLays_holds : Rows.HearthLaysSaid :=
  OpenClaim.holds_of_wide 5 Try.f5 rfl rfl rfl rfl rfl rfl rfl ⟨rfl, rfl, rfl, rfl, rfl⟩ rfl rfl rfl rfl rfl (by kernel_rfl) Try.func5 (by kernel_rfl)
    (of_decide_eq_true (by kernel_rfl)) (by unfold Func.isWrapper; first | (rw [if_pos (by decide +kernel)]; kernel_rfl) | (rw [if_neg (by decide +kernel)]; exact ⟨rfl, rfl⟩))
    (fun os started H enc _ => hearthLays_lifted os started H enc)
end Go.Proofs.Ytglkphjjinmgmaa
