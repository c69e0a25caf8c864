/- ChartWords: the row and the card. -/
import Derived.Test.YtkfaiokiaahbaaaDoorY1
import Derived.Test.YtkfaiokiaahbaaaDoorM8
import Derived.Test.YtkfaiokiaahbaaaDoorSv
import Derived.Test.YtkfaiokiaahbaaaDoorCards
import Derived.SevenTiedAt
import Derived.ChangeMaps5
set_option linter.unusedVariables false
set_option linter.unusedSimpArgs false
namespace Go.Proofs.YtkfaiokiaahbaaaDoor
open Go.AI Go.ChangeShapes Go.WideShapes Go.ChangeAt Go.RowKit

set_option maxRecDepth 100000 in
theorem chartWords_lifted (os : Os) (started : os.Started) (H : Type) (enc : TypeId × Value → H) :
    ReturnsInHanded {} Tryd.checked os 8 .any (fun w args => (Rows.chartWordsSpec.pre enc Tryd.prog Tryd.f8 [] false w args ∧ laidMet Tryd.prog laidL w) ∧ sizedMet enc Tryd.prog Tryd.f8 (OpenSpec.ofChange Rows.chartWordsSpec) false w args) (Rows.chartWordsSpec.post enc Tryd.prog Tryd.f8 false true false false) := by
  refine lift started (by kernel_rfl) Tryd.func8
    (ChangeSpec.witness_at (enc := enc) (C := Tryd.checked) (os := os) (X := fun w _ => laidMet Tryd.prog laidL w) false (laidWorld os) #[.slice none 0 0, .string .empty, .string .empty, .slice none 0 0, .int .i64 0, .slice none 0 0] 8 rfl (by kernel_rfl) (by kernel_rfl) (by kernel_rfl) (by kernel_rfl) (by kernel_rfl) (laidWorld_met os _)) ?_
  intro W base args ds gs before hbig hval hW hL
  have hW' := hW
  obtain ⟨p, q, hA0, hV, rfl, hfz, hnd⟩ := hW
  have hA : DataW.TrodAll enc Tryd.prog W 0 (fun _ => true) true Tryd.f8.params.toList args.toList ds p := hA0
  rw [Tryd.params8] at hA hval
  obtain ⟨v0, vs0, d0, ds0, p0, q0, hargs, rfl, rfl, h0, r0⟩ := trodAll_cons hA
  obtain ⟨v1, vs1, d1, ds1, p1, q1, rfl, rfl, rfl, h1, r1⟩ := trodAll_cons r0
  obtain ⟨v2, vs2, d2, ds2, p2, q2, rfl, rfl, rfl, h2, r2⟩ := trodAll_cons r1
  obtain ⟨v3, vs3, d3, ds3, p3, q3, rfl, rfl, rfl, h3, r3⟩ := trodAll_cons r2
  obtain ⟨v4, vs4, d4, ds4, p4, q4, rfl, rfl, rfl, h4, r4⟩ := trodAll_cons r3
  obtain ⟨v5, vs5, d5, ds5, p5, q5, rfl, rfl, rfl, h5, r5⟩ := trodAll_cons r4
  obtain ⟨rfl, rfl, rfl⟩ := trodAll_nil r5
  obtain rfl : args = #[v0, v1, v2, v3, v4, v5] := by cases args; simp_all
  obtain ⟨rfl, rfl⟩ := trodVars_none hV
  obtain ⟨a0, len0, cap0, rfl⟩ := okWide_slice Tryd.underlying22 (hval 0 22 v0 rfl rfl)
  have k0 := h0
  have lt0 : ∀ x ∈ p0, x.block < W.heap.size := by obtain ⟨m, hm⟩ := k0; exact DataW.trod_lt m _ _ _ hm
  obtain ⟨z0, w0, i0, b0⟩ : ∃ zs : List Int, ((a0 = none ∧ len0 = 0 ∧ cap0 = 0 ∧ zs = []) ∨ ∃ x, a0 = some x ∧ len0 ≤ cap0 ∧ len0 ≤ zs.length ∧ (∀ i, i < zs.length → W.cell? (x.add i) = some (.int .i64 (zs.getD i 0)))) ∧ (∀ n ∈ zs, inI64 n) ∧ len0 ≤ 9223372036854775807 := by
    obtain ⟨fuel, hf⟩ := h0
    rcases open_ints Tryd.underlying22 un3 (by kernel_rfl) hf with ⟨hcs, _⟩ | ⟨x, l, c, zs, hcs, _, hl, hm, hz, _, hcell, hwz⟩
    · simp [Value.cells] at hcs
      obtain ⟨rfl, rfl, rfl⟩ := hcs
      exact ⟨[], .inl ⟨rfl, rfl, rfl, rfl⟩, by simp, by simp⟩
    · simp [Value.cells] at hcs
      obtain ⟨rfl, rfl, rfl⟩ := hcs
      have hm' : cap0 ≤ 9223372036854775807 := hm
      refine ⟨zs, .inr ⟨_, rfl, hl, by simp at hz; omega, hcell⟩, fun n hn => ?_, by omega⟩
      have := hwz n hn
      simp [Lit.wf, IntKind.min, IntKind.max, IntKind.signed, IntKind.bits] at this
      exact ⟨by omega, by omega⟩
  have c0 : (z0.take len0).length ≤ 9223372036854775807 := by rw [List.length_take]; omega
  obtain ⟨b1, rfl, rfl, rfl, w1⟩ := Go.ChangeMaps.open_string Tryd.underlying9 (hval 1 9 v1 rfl rfl) h1
  obtain ⟨a1, c1, e1⟩ := bytes_all b1
  subst e1
  obtain ⟨b2, rfl, rfl, rfl, w2⟩ := Go.ChangeMaps.open_string Tryd.underlying9 (hval 2 9 v2 rfl rfl) h2
  obtain ⟨a2, c2, e2⟩ := bytes_all b2
  subst e2
  obtain ⟨a3, len3, cap3, rfl⟩ := okWide_slice Tryd.underlying50 (hval 3 50 v3 rfl rfl)
  have k3 := h3
  have lt3 : ∀ x ∈ p3, x.block < W.heap.size := by obtain ⟨m, hm⟩ := k3; exact DataW.trod_lt m _ _ _ hm
  obtain ⟨z3, w3, b3⟩ : ∃ ss : List ByteArray, ((a3 = none ∧ len3 = 0 ∧ cap3 = 0 ∧ ss = []) ∨ ∃ x, a3 = some x ∧ len3 ≤ cap3 ∧ len3 ≤ ss.length ∧ (∀ i, i < ss.length → W.cell? (x.add i) = some (.string (ss.getD i ByteArray.empty)))) ∧ len3 ≤ 9223372036854775807 := by
    obtain ⟨fuel, hf⟩ := h3
    rcases Go.ChangeShapes.open_strings Tryd.underlying50 Tryd.underlying9 (by kernel_rfl) hf with ⟨hcs, _⟩ | ⟨x, l, c, ss, hcs, _, hl, hm, hz, _, hcell, _⟩
    · simp [Value.cells] at hcs
      obtain ⟨rfl, rfl, rfl⟩ := hcs
      exact ⟨[], .inl ⟨rfl, rfl, rfl, rfl⟩, by simp⟩
    · simp [Value.cells] at hcs
      obtain ⟨rfl, rfl, rfl⟩ := hcs
      have hm' : cap3 ≤ 9223372036854775807 := hm
      exact ⟨ss, .inr ⟨_, rfl, hl, by simp at hz; omega, hcell⟩, by omega⟩
  obtain ⟨q3, y3, e3, f3⟩ := strs_list (z3.take len3)
  have c3 : q3.length ≤ 9223372036854775807 := by rw [f3, List.length_take]; omega
  obtain ⟨a4, rfl, rfl, rfl, w4⟩ := open_int Tryd.underlying3 (hval 4 3 v4 rfl rfl) h4
  have c4 : inI64 a4 := by
    have := w4
    simp [Lit.wf, IntKind.min, IntKind.max, IntKind.signed, IntKind.bits] at this
    exact ⟨by omega, by omega⟩
  obtain ⟨a5, len5, cap5, rfl⟩ := okWide_slice Tryd.underlying22 (hval 5 22 v5 rfl rfl)
  have k5 := h5
  have lt5 : ∀ x ∈ p5, x.block < W.heap.size := by obtain ⟨m, hm⟩ := k5; exact DataW.trod_lt m _ _ _ hm
  obtain ⟨z5, w5, i5, b5⟩ : ∃ zs : List Int, ((a5 = none ∧ len5 = 0 ∧ cap5 = 0 ∧ zs = []) ∨ ∃ x, a5 = some x ∧ len5 ≤ cap5 ∧ len5 ≤ zs.length ∧ (∀ i, i < zs.length → W.cell? (x.add i) = some (.int .i64 (zs.getD i 0)))) ∧ (∀ n ∈ zs, inI64 n) ∧ len5 ≤ 9223372036854775807 := by
    obtain ⟨fuel, hf⟩ := h5
    rcases open_ints Tryd.underlying22 un3 (by kernel_rfl) hf with ⟨hcs, _⟩ | ⟨x, l, c, zs, hcs, _, hl, hm, hz, _, hcell, hwz⟩
    · simp [Value.cells] at hcs
      obtain ⟨rfl, rfl, rfl⟩ := hcs
      exact ⟨[], .inl ⟨rfl, rfl, rfl, rfl⟩, by simp, by simp⟩
    · simp [Value.cells] at hcs
      obtain ⟨rfl, rfl, rfl⟩ := hcs
      have hm' : cap5 ≤ 9223372036854775807 := hm
      refine ⟨zs, .inr ⟨_, rfl, hl, by simp at hz; omega, hcell⟩, fun n hn => ?_, by omega⟩
      have := hwz n hn
      simp [Lit.wf, IntKind.min, IntKind.max, IntKind.signed, IntKind.bits] at this
      exact ⟨by omega, by omega⟩
  have c5 : (z5.take len5).length ≤ 9223372036854775807 := by rw [List.length_take]; omega
  obtain ⟨s0, u0, hs10, hs20, hs30, hs40, hs50⟩ := seen_ints (w := W) 4 (by omega) w0
  obtain ⟨s3, u3, hs13, hs23, hs33, hs43, hs53⟩ := seen_strs (w := W) 5 (by omega) e3 w3
  obtain ⟨s5, u5, hs15, hs25, hs35, hs45, hs55⟩ := seen_ints (w := W) 6 (by omega) w5
  have hHR := seenG_hr hbig hL [s0, s3, s5] (by simpa using ⟨hs10, hs13, hs15⟩) (by simpa using ⟨hs20, hs23, hs25⟩) (by simpa using ⟨hs30, hs33, hs35⟩)
  have hs0 : (seenG ++ [s0, s3, s5])[4]? = some s0 := rfl
  have hs3 : (seenG ++ [s0, s3, s5])[5]? = some s3 := rfl
  have hs5 : (seenG ++ [s0, s3, s5])[6]? = some s5 := rfl
  have hrun := run_of (B := W.heap.size) (f := 8) (l := [u0, .string (strOf a1), .string (strOf a2), u3, .int .i64 a4, u5]) (args := #[.slice a0 len0 cap0, .string (strOf a1), .string (strOf a2), .slice a3 len3 cap3, .int .i64 a4, .slice a5 len5 cap5]) mixed (oracleOK _) hHR
    (.cons (hs40 _ (by rw [seenR, hs0]; rfl)) (.cons (.one (.cell (.same rfl))) (.cons (.one (.cell (.same rfl))) (.cons (hs43 _ (by rw [seenR, hs3]; rfl)) (.cons (.one (.cell (.same rfl))) (.cons (hs45 _ (by rw [seenR, hs5]; rfl)) .nil))))))
    (chartWords_spec (seenG_base [s0, s3, s5]) (hs50 _ (by rw [seen_n]; simp [seenG]) (seen_get hs0)) c0 (fun x hx => i0 x (List.mem_of_mem_take hx)) c1 c2 (hs53 _ (by rw [seen_n]; simp [seenG]) (seen_get hs3)) c3 y3 c4 (hs55 _ (by rw [seen_n]; simp [seenG]) (seen_get hs5)) c5 (fun x hx => i5 x (List.mem_of_mem_take hx)))
  refine hrun.mono fun e W' ⟨u, u', H', ρ', he, hu, hq, bel⟩ => ?_
  subst he; subst hq
  have hu' : u' = .bool true := hu.plain rfl
  subst hu'
  exact ⟨_, rfl, _, _, _, [], _, [], hW', trodAll_mk1 (shut_bool Tryd.underlying4 _), (trodAll_cons_mk (Below.trod laidOut (by kernel_rfl) (of_decide_eq_true (by kernel_rfl)) k0 bel lt0) (trodAll_cons_mk (Go.ChangeMaps.shut_string Tryd.underlying9 w1) (trodAll_cons_mk (Go.ChangeMaps.shut_string Tryd.underlying9 w2) (trodAll_cons_mk (Below.trod laidOut (by kernel_rfl) (of_decide_eq_true (by kernel_rfl)) k3 bel lt3) (trodAll_cons_mk (shut_int Tryd.underlying3 w4) (trodAll_cons_mk (Below.trod laidOut (by kernel_rfl) (of_decide_eq_true (by kernel_rfl)) k5 bel lt5) trodAll_mk0)))))), rfl, bel.frame _, fun h => by cases h⟩

theorem chartWords_holds : Rows.ChartWordsSaid :=
  OpenClaim.holds_of_wide 8 Tryd.f8 rfl rfl rfl rfl rfl rfl rfl ⟨rfl, rfl, rfl, rfl, rfl⟩ rfl rfl rfl rfl rfl (by kernel_rfl) Tryd.func8 (by kernel_rfl)
    (of_decide_eq_true (by kernel_rfl)) (by unfold Func.isWrapper; first | (rw [if_pos (by decide +kernel)]; kernel_rfl) | (rw [if_neg (by decide +kernel)]; exact ⟨rfl, rfl⟩))
    (fun os started H enc _ => chartWords_lifted os started H enc)

theorem chartWords_card : Rows.ChartWordsCardSaid :=
  Claim7.holds_tied_plain_at .later [] [.data] true (true, "bdcf4e9fea41583dc5c6c52fb1220c90b4399ff3346804906d1d27412a7ca6e8") false
    chartWords_holds (fun _ h => by cases h) (by kernel_rfl) (fun _ h => by cases h) chartWords_row_tie rfl ⟨rfl, rfl⟩ (by kernel_rfl) rfl
    (fun f fn hf hfn => by
      obtain rfl : f = 8 := Option.some.inj ((show Tryd.prog.funcNamed "aloeswood/aloeswoodlaw01.ChartWords" = some 8 by kernel_rfl).symm.trans hf) |>.symm
      obtain rfl : fn = Tryd.f8 := (Option.some.inj (Tryd.func8.symm.trans hfn)).symm
      exact ⟨by kernel_rfl, fun j t ht => by
        rw [Tryd.params8] at ht
        have h3 : t = 22 ∨ t = 3 ∨ t = 9 ∨ t = 50 := by
          rcases j with _ | _ | _ | _ | _ | _ | j
          · exact .inl (Option.some.inj (show some 22 = some t from ht)).symm
          · exact .inr (.inr (.inl (Option.some.inj (show some 9 = some t from ht)).symm))
          · exact .inr (.inr (.inl (Option.some.inj (show some 9 = some t from ht)).symm))
          · exact .inr (.inr (.inr ((Option.some.inj (show some 50 = some t from ht)).symm)))
          · exact .inr (.inl (Option.some.inj (show some 3 = some t from ht)).symm)
          · exact .inl (Option.some.inj (show some 22 = some t from ht)).symm
          · simp at ht
        rcases h3 with rfl | rfl | rfl | rfl
        · exact (show Tryd.prog.wantsStandIn 22 = false by kernel_rfl)
        · exact (show Tryd.prog.wantsStandIn 3 = false by kernel_rfl)
        · exact (show Tryd.prog.wantsStandIn 9 = false by kernel_rfl)
        · exact (show Tryd.prog.wantsStandIn 50 = false by kernel_rfl)⟩)
    (by kernel_rfl)
end Go.Proofs.YtkfaiokiaahbaaaDoor
