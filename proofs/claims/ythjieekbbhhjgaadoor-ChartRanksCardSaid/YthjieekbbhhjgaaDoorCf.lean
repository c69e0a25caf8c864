/- ChartRanks: the row and the card. -/
import Derived.Test.YthjieekbbhhjgaaDoorAc
import Derived.Test.YthjieekbbhhjgaaDoorD9
import Derived.Test.YthjieekbbhhjgaaDoorCards
import Derived.SevenTiedAt
namespace Go.Proofs.YthjieekbbhhjgaaDoor
open Go.AI Go.ChangeShapes Go.WideShapes Go.ChangeAt Go.RowKit

set_option maxRecDepth 100000 in
theorem chartRanks_lifted (os : Os) (started : os.Started) (H : Type) (enc : TypeId × Value → H) :
    ReturnsInHanded {} Tryd.checked os 4 .any (fun w args => (Rows.chartRanksSpec.pre enc Tryd.prog Tryd.f4 [] false w args ∧ laidMet Tryd.prog laidL w) ∧ sizedMet enc Tryd.prog Tryd.f4 (OpenSpec.ofChange Rows.chartRanksSpec) false w args) (Rows.chartRanksSpec.post enc Tryd.prog Tryd.f4 false true false false) := by
  refine lift started (by kernel_rfl) Tryd.func4
    (ChangeSpec.witness_at (enc := enc) (C := Tryd.checked) (os := os) (X := fun w _ => laidMet Tryd.prog laidL w) false (laidWorld os) #[.slice none 0 0, .int .i64 0, .int .i64 0, .slice none 0 0] 8 rfl (by kernel_rfl) (by kernel_rfl) (by kernel_rfl) (by kernel_rfl) (by kernel_rfl) (laidWorld_met os _)) ?_
  intro W base args ds gs before hbig hval hW hL
  have hW' := hW
  obtain ⟨p, q, hA0, hV, rfl, hfz, hnd⟩ := hW
  have hA : DataW.TrodAll enc Tryd.prog W 0 (fun _ => true) true Tryd.f4.params.toList args.toList ds p := hA0
  rw [Tryd.params4] at hA hval
  obtain ⟨v0, vs0, d0, ds0, p0, q0, hargs, rfl, rfl, h0, r0⟩ := trodAll_cons hA
  obtain ⟨v1, vs1, d1, ds1, p1, q1, rfl, rfl, rfl, h1, r1⟩ := trodAll_cons r0
  obtain ⟨v2, vs2, d2, ds2, p2, q2, rfl, rfl, rfl, h2, r2⟩ := trodAll_cons r1
  obtain ⟨v3, vs3, d3, ds3, p3, q3, rfl, rfl, rfl, h3, r3⟩ := trodAll_cons r2
  obtain ⟨rfl, rfl, rfl⟩ := trodAll_nil r3
  obtain rfl : args = #[v0, v1, v2, v3] := by cases args; simp_all
  obtain ⟨rfl, rfl⟩ := trodVars_none hV
  obtain ⟨a0, len0, cap0, rfl⟩ := okWide_slice Tryd.underlying22 (hval 0 22 v0 rfl rfl)
  have k0 := h0
  have lt0 : ∀ x ∈ p0, x.block < W.heap.size := by obtain ⟨m, hm⟩ := k0; exact DataW.trod_lt m _ _ _ hm
  obtain ⟨z0, w0, i0, b0⟩ : ∃ zs : List Int, ((a0 = none ∧ len0 = 0 ∧ cap0 = 0 ∧ zs = []) ∨ ∃ x, a0 = some x ∧ len0 ≤ cap0 ∧ len0 ≤ zs.length ∧ (∀ i, i < zs.length → W.cell? (x.add i) = some (.int .i64 (zs.getD i 0)))) ∧ (∀ n ∈ zs, inI64 n) ∧ len0 ≤ 9223372036854775807 := by
    obtain ⟨fuel, hf⟩ := h0
    rcases open_ints Tryd.underlying22 un3 (by kernel_rfl) hf with ⟨hcs, _⟩ | ⟨x, l, c, zs, hcs, _, hl, hm, hz, _, hcell, hwz⟩
    · simp [Value.cells] at hcs
      obtain ⟨rfl, rfl, rfl⟩ := hcs
      exact ⟨[], .inl ⟨rfl, rfl, rfl, rfl⟩, by simp, by simp⟩
    · simp [Value.cells] at hcs
      obtain ⟨rfl, rfl, rfl⟩ := hcs
      have hm' : cap0 ≤ 9223372036854775807 := hm
      refine ⟨zs, .inr ⟨_, rfl, hl, by simp at hz; omega, hcell⟩, fun n hn => ?_, by omega⟩
      have := hwz n hn
      simp [Lit.wf, IntKind.min, IntKind.max, IntKind.signed, IntKind.bits] at this
      exact ⟨by omega, by omega⟩
  have c0 : (z0.take len0).length ≤ 9223372036854775807 := by rw [List.length_take]; omega
  obtain ⟨a1, rfl, rfl, rfl, w1⟩ := open_int Tryd.underlying3 (hval 1 3 v1 rfl rfl) h1
  have c1 : inI64 a1 := by
    have := w1
    simp [Lit.wf, IntKind.min, IntKind.max, IntKind.signed, IntKind.bits] at this
    exact ⟨by omega, by omega⟩
  obtain ⟨a2, rfl, rfl, rfl, w2⟩ := open_int Tryd.underlying3 (hval 2 3 v2 rfl rfl) h2
  have c2 : inI64 a2 := by
    have := w2
    simp [Lit.wf, IntKind.min, IntKind.max, IntKind.signed, IntKind.bits] at this
    exact ⟨by omega, by omega⟩
  obtain ⟨a3, len3, cap3, rfl⟩ := okWide_slice Tryd.underlying22 (hval 3 22 v3 rfl rfl)
  have k3 := h3
  have lt3 : ∀ x ∈ p3, x.block < W.heap.size := by obtain ⟨m, hm⟩ := k3; exact DataW.trod_lt m _ _ _ hm
  obtain ⟨z3, w3, i3, b3⟩ : ∃ zs : List Int, ((a3 = none ∧ len3 = 0 ∧ cap3 = 0 ∧ zs = []) ∨ ∃ x, a3 = some x ∧ len3 ≤ cap3 ∧ len3 ≤ zs.length ∧ (∀ i, i < zs.length → W.cell? (x.add i) = some (.int .i64 (zs.getD i 0)))) ∧ (∀ n ∈ zs, inI64 n) ∧ len3 ≤ 9223372036854775807 := by
    obtain ⟨fuel, hf⟩ := h3
    rcases open_ints Tryd.underlying22 un3 (by kernel_rfl) hf with ⟨hcs, _⟩ | ⟨x, l, c, zs, hcs, _, hl, hm, hz, _, hcell, hwz⟩
    · simp [Value.cells] at hcs
      obtain ⟨rfl, rfl, rfl⟩ := hcs
      exact ⟨[], .inl ⟨rfl, rfl, rfl, rfl⟩, by simp, by simp⟩
    · simp [Value.cells] at hcs
      obtain ⟨rfl, rfl, rfl⟩ := hcs
      have hm' : cap3 ≤ 9223372036854775807 := hm
      refine ⟨zs, .inr ⟨_, rfl, hl, by simp at hz; omega, hcell⟩, fun n hn => ?_, by omega⟩
      have := hwz n hn
      simp [Lit.wf, IntKind.min, IntKind.max, IntKind.signed, IntKind.bits] at this
      exact ⟨by omega, by omega⟩
  have c3 : (z3.take len3).length ≤ 9223372036854775807 := by rw [List.length_take]; omega
  obtain ⟨s0, u0, hs10, hs20, hs30, hs40, hs50⟩ := seen_ints (w := W) 4 (by omega) w0
  obtain ⟨s3, u3, hs13, hs23, hs33, hs43, hs53⟩ := seen_ints (w := W) 5 (by omega) w3
  have hHR := seenG_hr hbig hL [s0, s3] (by simpa using ⟨hs10, hs13⟩) (by simpa using ⟨hs20, hs23⟩) (by simpa using ⟨hs30, hs33⟩)
  have hs0 : (seenG ++ [s0, s3])[4]? = some s0 := rfl
  have hs3 : (seenG ++ [s0, s3])[5]? = some s3 := rfl
  have hrun := run_of (B := W.heap.size) (f := 4) (l := [u0, .int .i64 a1, .int .i64 a2, u3]) (args := #[.slice a0 len0 cap0, .int .i64 a1, .int .i64 a2, .slice a3 len3 cap3]) mixed (oracleOK _) hHR
    (.cons (hs40 _ (by rw [seenR, hs0]; rfl)) (.cons (.one (.cell (.same rfl))) (.cons (.one (.cell (.same rfl))) (.cons (hs43 _ (by rw [seenR, hs3]; rfl)) .nil))))
    (chartRanks_spec (seenG_base [s0, s3]) (hs50 _ (by rw [seen_n]; simp [seenG]) (seen_get hs0)) c0 (fun x hx => i0 x (List.mem_of_mem_take hx)) c1 c2 (hs53 _ (by rw [seen_n]; simp [seenG]) (seen_get hs3)) c3 (fun x hx => i3 x (List.mem_of_mem_take hx)))
  refine hrun.mono fun e W' ⟨u, u', H', ρ', he, hu, hq, bel⟩ => ?_
  subst he; subst hq
  have hu' : u' = .bool true := hu.plain rfl
  subst hu'
  exact ⟨_, rfl, _, _, _, [], _, [], hW', trodAll_mk1 (shut_bool Tryd.underlying4 _), (trodAll_cons_mk (Below.trod laidOut (by kernel_rfl) (of_decide_eq_true (by kernel_rfl)) k0 bel lt0) (trodAll_cons_mk (shut_int Tryd.underlying3 w1) (trodAll_cons_mk (shut_int Tryd.underlying3 w2) (trodAll_cons_mk (Below.trod laidOut (by kernel_rfl) (of_decide_eq_true (by kernel_rfl)) k3 bel lt3) trodAll_mk0)))), rfl, bel.frame _, fun h => by cases h⟩

theorem chartRanks_holds : Rows.ChartRanksSaid :=
  OpenClaim.holds_of_wide 4 Tryd.f4 rfl rfl rfl rfl rfl rfl rfl ⟨rfl, rfl, rfl, rfl, rfl⟩ rfl rfl rfl rfl rfl (by kernel_rfl) Tryd.func4 (by kernel_rfl)
    (of_decide_eq_true (by kernel_rfl)) (by unfold Func.isWrapper; first | (rw [if_pos (by decide +kernel)]; kernel_rfl) | (rw [if_neg (by decide +kernel)]; exact ⟨rfl, rfl⟩))
    (fun os started H enc _ => chartRanks_lifted os started H enc)

theorem chartRanks_card : Rows.ChartRanksCardSaid :=
  Claim7.holds_tied_plain_at .later [] [.data] true (true, "bdcf4e9fea41583dc5c6c52fb1220c90b4399ff3346804906d1d27412a7ca6e8") false
    chartRanks_holds (fun _ h => by cases h) (by kernel_rfl) (fun _ h => by cases h) chartRanks_row_tie rfl ⟨rfl, rfl⟩ (by kernel_rfl) rfl
    (fun f fn hf hfn => by
      obtain rfl : f = 4 := Option.some.inj ((show Tryd.prog.funcNamed "aloeswood/aloeswoodlaw01.ChartRanks" = some 4 by kernel_rfl).symm.trans hf) |>.symm
      obtain rfl : fn = Tryd.f4 := (Option.some.inj (Tryd.func4.symm.trans hfn)).symm
      exact ⟨by kernel_rfl, fun j t ht => by
        rw [Tryd.params4] at ht
        have h3 : t = 22 ∨ t = 3 := by
          rcases j with _ | _ | _ | _ | j
          · exact .inl (Option.some.inj (show some 22 = some t from ht)).symm
          · exact .inr ((Option.some.inj (show some 3 = some t from ht)).symm)
          · exact .inr ((Option.some.inj (show some 3 = some t from ht)).symm)
          · exact .inl (Option.some.inj (show some 22 = some t from ht)).symm
          · simp at ht
        rcases h3 with rfl | rfl
        · exact (show Tryd.prog.wantsStandIn 22 = false by kernel_rfl)
        · exact (show Tryd.prog.wantsStandIn 3 = false by kernel_rfl)⟩)
    (by kernel_rfl)
end Go.Proofs.YthjieekbbhhjgaaDoor
