/- ChartAll: the row and the card. -/
import Derived.Test.YthjieekbbhhjgaaDoorAc
import Derived.Test.YthjieekbbhhjgaaDoorD8
import Derived.Test.YthjieekbbhhjgaaDoorCards
import Derived.SevenTiedAt
namespace Go.Proofs.YthjieekbbhhjgaaDoor
open Go.AI Go.ChangeShapes Go.WideShapes Go.ChangeAt Go.RowKit

set_option maxRecDepth 100000 in
theorem chartAll_lifted (os : Os) (started : os.Started) (H : Type) (enc : TypeId × Value → H) :
    ReturnsInHanded {} Tryd.checked os 10 .any (fun w args => (Rows.chartAllSpec.pre enc Tryd.prog Tryd.f10 [] false w args ∧ laidMet Tryd.prog laidL w) ∧ sizedMet enc Tryd.prog Tryd.f10 (OpenSpec.ofChange Rows.chartAllSpec) false w args) (Rows.chartAllSpec.post enc Tryd.prog Tryd.f10 false true false false) := by
  refine lift started (by kernel_rfl) Tryd.func10
    (ChangeSpec.witness_at (enc := enc) (C := Tryd.checked) (os := os) (X := fun w _ => laidMet Tryd.prog laidL w) false (laidWorld os) #[.int .i64 0] 8 rfl (by kernel_rfl) (by kernel_rfl) (by kernel_rfl) (by kernel_rfl) (by kernel_rfl) (laidWorld_met os _)) ?_
  intro W base args ds gs before hbig hval hW hL
  have hW' := hW
  obtain ⟨p, q, hA0, hV, rfl, hfz, hnd⟩ := hW
  have hA : DataW.TrodAll enc Tryd.prog W 0 (fun _ => true) true Tryd.f10.params.toList args.toList ds p := hA0
  rw [Tryd.params10] at hA hval
  obtain ⟨v0, vs0, d0, ds0, p0, q0, hargs, rfl, rfl, h0, r0⟩ := trodAll_cons hA
  obtain ⟨rfl, rfl, rfl⟩ := trodAll_nil r0
  obtain rfl : args = #[v0] := by cases args; simp_all
  obtain ⟨rfl, rfl⟩ := trodVars_none hV
  obtain ⟨a0, rfl, rfl, rfl, w0⟩ := open_int Tryd.underlying3 (hval 0 3 v0 rfl rfl) h0
  have c0 : inI64 a0 := by
    have := w0
    simp [Lit.wf, IntKind.min, IntKind.max, IntKind.signed, IntKind.bits] at this
    exact ⟨by omega, by omega⟩
  have hHR := seenG_hr hbig hL [] (by simp) (by simp) (by simp)
  have hrun := run_of (B := W.heap.size) (f := 10) (l := [.int .i64 a0]) (args := #[.int .i64 a0]) mixed (oracleOK _) hHR
    (.cons (.one (.cell (.same rfl))) .nil)
    (chartAll_spec (seenG_base []) c0)
  refine hrun.mono fun e W' ⟨u, u', H', ρ', he, hu, hq, bel⟩ => ?_
  subst he; subst hq
  have hu' : u' = .bool true := hu.plain rfl
  subst hu'
  exact ⟨_, rfl, _, _, _, [], _, [], hW', trodAll_mk1 (shut_bool Tryd.underlying4 _), (trodAll_cons_mk (shut_int Tryd.underlying3 w0) trodAll_mk0), rfl, bel.frame _, fun h => by cases h⟩

theorem chartAll_holds : Rows.ChartAllSaid :=
  OpenClaim.holds_of_wide 10 Tryd.f10 rfl rfl rfl rfl rfl rfl rfl ⟨rfl, rfl, rfl, rfl, rfl⟩ rfl rfl rfl rfl rfl (by kernel_rfl) Tryd.func10 (by kernel_rfl)
    (of_decide_eq_true (by kernel_rfl)) (by unfold Func.isWrapper; first | (rw [if_pos (by decide +kernel)]; kernel_rfl) | (rw [if_neg (by decide +kernel)]; exact ⟨rfl, rfl⟩))
    (fun os started H enc _ => chartAll_lifted os started H enc)

theorem chartAll_card : Rows.ChartAllCardSaid :=
  Claim7.holds_tied_plain_at .later [] [.data] true (true, "bdcf4e9fea41583dc5c6c52fb1220c90b4399ff3346804906d1d27412a7ca6e8") false
    chartAll_holds (fun _ h => by cases h) (by kernel_rfl) (fun _ h => by cases h) chartAll_row_tie rfl ⟨rfl, rfl⟩ (by kernel_rfl) rfl
    (fun f fn hf hfn => by
      obtain rfl : f = 10 := Option.some.inj ((show Tryd.prog.funcNamed "aloeswood/aloeswoodlaw01.ChartAll" = some 10 by kernel_rfl).symm.trans hf) |>.symm
      obtain rfl : fn = Tryd.f10 := (Option.some.inj (Tryd.func10.symm.trans hfn)).symm
      exact ⟨by kernel_rfl, fun j t ht => by
        rw [Tryd.params10] at ht
        have h3 : t = 3 := by
          rcases j with _ | j
          · exact (Option.some.inj (show some 3 = some t from ht)).symm
          · simp at ht
        rcases h3 with rfl
        · exact (show Tryd.prog.wantsStandIn 3 = false by kernel_rfl)⟩)
    (by kernel_rfl)
end Go.Proofs.YthjieekbbhhjgaaDoor
