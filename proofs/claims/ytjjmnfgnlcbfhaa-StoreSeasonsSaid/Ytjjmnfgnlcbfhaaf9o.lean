
/- StoreSeasons: the row. -/
import Derived.Test.YtjjmnfgnlcbfhaaWzo
import Derived.Test.YtjjmnfgnlcbfhaaEo
import Derived.Test.Ytjjmnfgnlcbfhaae4o
import Derived.Test.Ytjjmnfgnlcbfhaaf8o
set_option linter.unusedVariables false
set_option linter.unusedSimpArgs false
namespace Go.Proofs.Ytjjmnfgnlcbfhaa
open Go.AI Go.ChangeShapes Go.WideShapes Go.ChangeAt Go.RowKit

set_option maxRecDepth 100000 in
theorem storeSeasons_lifted (os : Os) (started : os.Started) (H : Type) (enc : TypeId × Value → H) :
    ReturnsInHanded {} Try.checked os 6 .any (fun w args => Rows.storeSeasonsSpec.pre enc Try.prog Try.f6 [] false w args ∧ sizedMet enc Try.prog Try.f6 (OpenSpec.ofChange Rows.storeSeasonsSpec) false w args) (Rows.storeSeasonsSpec.post enc Try.prog Try.f6 false true false false) := by
  refine lift started (by kernel_rfl) Try.func6
    (ChangeSpec.witness6 (enc := enc) (C := Try.checked) (os := os) false ⟨#[], #[.agg #[.slice none 0 0, .slice none 0 0], .int .i64 0, .slice none 0 0, .slice none 0 0], []⟩ 8 (by kernel_rfl) (by kernel_rfl) (by kernel_rfl) (by kernel_rfl)) ?_
  intro W base args ds gs before hbig hval hW
  have hW' := hW
  obtain ⟨p, q, hA0, hV, rfl, hfz, hnd⟩ := hW
  have hA : DataW.TrodAll enc Try.prog W 0 (fun _ => true) true Try.f6.params.toList args.toList ds p := hA0
  rw [Try.params6] at hA hval
  obtain ⟨rfl, rfl⟩ := trodVars_none hV
  have hrun := run_args (f := 6) mixed nglobs (ok2 _) hA (fun j t v h1 h2 => hval j t v (by rw [← Array.getElem?_toList]; exact h1) (by rw [← Array.getElem?_toList]; exact h2)) (by kernel_rfl) (fun H vs h => by
    obtain _ | ⟨h0, h⟩ := h
    obtain _ | ⟨h1, h⟩ := h
    obtain _ | ⟨h2, h⟩ := h
    obtain _ | ⟨h3, h⟩ := h
    cases h
    obtain ⟨s, g, ws, st, gs, rfl, a1, a2, a3, a4, a5⟩ := dat_season h0
    obtain ⟨n, rfl⟩ := dat_int h1
    obtain ⟨pl, p1, p2, _⟩ := dat_ints h2
    obtain ⟨xs, x1, x2, _⟩ := dat_ints h3
    exact seasons_spec a1 a2 p1 x1 a3 a4 a5 p2 x2) (wild2 _)
  obtain ⟨d0, d1, d2, d3, rfl⟩ : ∃ d0 d1 d2 d3, ds = [d0, d1, d2, d3] := by
    have h := hA
    obtain ⟨_, _, d0, s0, _, _, _, rfl, _, _, r0⟩ := trodAll_cons h
    obtain ⟨_, _, d1, s1, _, _, _, rfl, _, _, r1⟩ := trodAll_cons r0
    obtain ⟨_, _, d2, s2, _, _, _, rfl, _, _, r2⟩ := trodAll_cons r1
    obtain ⟨_, _, d3, s3, _, _, _, rfl, _, _, r3⟩ := trodAll_cons r2
    obtain ⟨_, rfl, _⟩ := trodAll_nil r3
    exact ⟨_, _, _, _, rfl⟩
  refine hrun.mono fun e W' ⟨he, bel⟩ => ?_
  subst he
  exact ⟨_, rfl, _, _, _, [], _, [], hW', trodAll_mk1 (shut_bool Try.underlying4 _), trodAll_below laidOut bel (by rw [Try.params6]; kernel_rfl) hA0, rfl, bel.frame _, fun h => by cases h⟩

theorem storeSeasons_holds : Rows.StoreSeasonsSaid :=
  OpenClaim.holds_of_wide 6 Try.f6 rfl rfl rfl rfl rfl rfl rfl ⟨rfl, rfl, rfl, rfl, rfl⟩ rfl rfl rfl rfl rfl (by kernel_rfl) Try.func6 (by kernel_rfl)
    (of_decide_eq_true (by kernel_rfl)) (by unfold Func.isWrapper; first | (rw [if_pos (by decide +kernel)]; kernel_rfl) | (rw [if_neg (by decide +kernel)]; exact ⟨rfl, rfl⟩))
    (fun os started H enc _ => storeSeasons_lifted os started H enc)
end Go.Proofs.Ytjjmnfgnlcbfhaa
