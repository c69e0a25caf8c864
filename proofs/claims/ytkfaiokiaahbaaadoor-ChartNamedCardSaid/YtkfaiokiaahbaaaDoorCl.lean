/- ChartNamed: the row and the card. -/
import Derived.Test.YtkfaiokiaahbaaaDoorY1
import Derived.Test.YtkfaiokiaahbaaaDoorM6
import Derived.Test.YtkfaiokiaahbaaaDoorCards
import Derived.SevenTiedAt
set_option linter.unusedVariables false
set_option linter.unusedSimpArgs false
namespace Go.Proofs.YtkfaiokiaahbaaaDoor
open Go.AI Go.ChangeShapes Go.WideShapes Go.ChangeAt Go.RowKit

set_option maxRecDepth 100000 in
theorem chartNamed_lifted (os : Os) (started : os.Started) (H : Type) (enc : TypeId × Value → H) :
    ReturnsInHanded {} Tryd.checked os 17 .any (fun w args => (Rows.chartNamedSpec.pre enc Tryd.prog Tryd.f17 [] false w args ∧ laidMet Tryd.prog laidL w) ∧ sizedMet enc Tryd.prog Tryd.f17 (OpenSpec.ofChange Rows.chartNamedSpec) false w args) (Rows.chartNamedSpec.post enc Tryd.prog Tryd.f17 false true false false) := by
  refine lift started (by kernel_rfl) Tryd.func17
    (ChangeSpec.witness_at (enc := enc) (C := Tryd.checked) (os := os) (X := fun w _ => laidMet Tryd.prog laidL w) false (laidWorld os) #[.slice none 0 0] 8 rfl (by kernel_rfl) (by kernel_rfl) (by kernel_rfl) (by kernel_rfl) (by kernel_rfl) (laidWorld_met os _)) ?_
  intro W base args ds gs before hbig hval hW hL
  have hW' := hW
  obtain ⟨p, q, hA0, hV, rfl, hfz, hnd⟩ := hW
  have hA : DataW.TrodAll enc Tryd.prog W 0 (fun _ => true) true Tryd.f17.params.toList args.toList ds p := hA0
  rw [Tryd.params17] at hA hval
  obtain ⟨v0, vs0, d0, ds0, p0, q0, hargs, rfl, rfl, h0, r0⟩ := trodAll_cons hA
  obtain ⟨rfl, rfl, rfl⟩ := trodAll_nil r0
  obtain rfl : args = #[v0] := by cases args; simp_all
  obtain ⟨rfl, rfl⟩ := trodVars_none hV
  obtain ⟨a0, len0, cap0, rfl⟩ := okWide_slice Tryd.underlying22 (hval 0 22 v0 rfl rfl)
  have k0 := h0
  have lt0 : ∀ x ∈ p0, x.block < W.heap.size := by obtain ⟨m, hm⟩ := k0; exact DataW.trod_lt m _ _ _ hm
  obtain ⟨z0, w0, i0, b0⟩ : ∃ zs : List Int, ((a0 = none ∧ len0 = 0 ∧ cap0 = 0 ∧ zs = []) ∨ ∃ x, a0 = some x ∧ len0 ≤ cap0 ∧ len0 ≤ zs.length ∧ (∀ i, i < zs.length → W.cell? (x.add i) = some (.int .i64 (zs.getD i 0)))) ∧ (∀ n ∈ zs, inI64 n) ∧ len0 ≤ 9223372036854775807 := by
    obtain ⟨fuel, hf⟩ := h0
    rcases open_ints Tryd.underlying22 un3 (by kernel_rfl) hf with ⟨hcs, _⟩ | ⟨x, l, c, zs, hcs, _, hl, hm, hz, _, hcell, hwz⟩
    · simp [Value.cells] at hcs
      obtain ⟨rfl, rfl, rfl⟩ := hcs
      exact ⟨[], .inl ⟨rfl, rfl, rfl, rfl⟩, by simp, by simp⟩
    · simp [Value.cells] at hcs
      obtain ⟨rfl, rfl, rfl⟩ := hcs
      have hm' : cap0 ≤ 9223372036854775807 := hm
      refine ⟨zs, .inr ⟨_, rfl, hl, by simp at hz; omega, hcell⟩, fun n hn => ?_, by omega⟩
      have := hwz n hn
      simp [Lit.wf, IntKind.min, IntKind.max, IntKind.signed, IntKind.bits] at this
      exact ⟨by omega, by omega⟩
  have c0 : (z0.take len0).length ≤ 9223372036854775807 := by rw [List.length_take]; omega
  obtain ⟨s0, u0, hs10, hs20, hs30, hs40, hs50⟩ := seen_ints (w := W) 4 (by omega) w0
  have hHR := seenG_hr hbig hL [s0] (by simpa using hs10) (by simpa using hs20) (by simpa using hs30)
  have hs0 : (seenG ++ [s0])[4]? = some s0 := rfl
  have hrun := run_of (B := W.heap.size) (f := 17) (l := [u0]) (args := #[.slice a0 len0 cap0]) mixed (oracleOK _) hHR
    (.cons (hs40 _ (by rw [seenR, hs0]; rfl)) .nil)
    (chartNamed_spec (seenG_base [s0]) (hs50 _ (by rw [seen_n]; simp [seenG]) (seen_get hs0)) c0 (fun x hx => i0 x (List.mem_of_mem_take hx)))
  refine hrun.mono fun e W' ⟨u, u', H', ρ', he, hu, hq, bel⟩ => ?_
  subst he; subst hq
  have hu' : u' = .bool true := hu.plain rfl
  subst hu'
  exact ⟨_, rfl, _, _, _, [], _, [], hW', trodAll_mk1 (shut_bool Tryd.underlying4 _), (trodAll_cons_mk (Below.trod laidOut (by kernel_rfl) (of_decide_eq_true (by kernel_rfl)) k0 bel lt0) trodAll_mk0), rfl, bel.frame _, fun h => by cases h⟩

theorem chartNamed_holds : Rows.ChartNamedSaid :=
  OpenClaim.holds_of_wide 17 Tryd.f17 rfl rfl rfl rfl rfl rfl rfl ⟨rfl, rfl, rfl, rfl, rfl⟩ rfl rfl rfl rfl rfl (by kernel_rfl) Tryd.func17 (by kernel_rfl)
    (of_decide_eq_true (by kernel_rfl)) (by unfold Func.isWrapper; first | (rw [if_pos (by decide +kernel)]; kernel_rfl) | (rw [if_neg (by decide +kernel)]; exact ⟨rfl, rfl⟩))
    (fun os started H enc _ => chartNamed_lifted os started H enc)

theorem chartNamed_card : Rows.ChartNamedCardSaid :=
  Claim7.holds_tied_plain_at .later [] [.data] true (true, "bdcf4e9fea41583dc5c6c52fb1220c90b4399ff3346804906d1d27412a7ca6e8") false
    chartNamed_holds (fun _ h => by cases h) (by kernel_rfl) (fun _ h => by cases h) chartNamed_row_tie rfl ⟨rfl, rfl⟩ (by kernel_rfl) rfl
    (fun f fn hf hfn => by
      obtain rfl : f = 17 := Option.some.inj ((show Tryd.prog.funcNamed "aloeswood/aloeswoodlaw01.ChartNamed" = some 17 by kernel_rfl).symm.trans hf) |>.symm
      obtain rfl : fn = Tryd.f17 := (Option.some.inj (Tryd.func17.symm.trans hfn)).symm
      exact ⟨by kernel_rfl, fun j t ht => by
        rw [Tryd.params17] at ht
        have h3 : t = 22 := by
          rcases j with _ | j
          · exact (Option.some.inj (show some 22 = some t from ht)).symm
          · simp at ht
        rcases h3 with rfl
        · exact (show Tryd.prog.wantsStandIn 22 = false by kernel_rfl)⟩)
    (by kernel_rfl)
end Go.Proofs.YtkfaiokiaahbaaaDoor
