/- ChartLabels: the row and the card. -/
import Derived.Test.YthjieekbbhhjgaaDoorAb
import Derived.Test.YthjieekbbhhjgaaDoorA4
import Derived.Test.YthjieekbbhhjgaaDoorCards
import Derived.SevenTiedAt
namespace Go.Proofs.YthjieekbbhhjgaaDoor
open Go.AI Go.ChangeShapes Go.WideShapes Go.ChangeAt Go.RowKit

/-- What the globals are seen as. -/
def seenG : List Seen := [⟨⟨0, 0, 0⟩, .cells ([32,45,124,111,124,120].map fun n => Value.int .u8 n) 0 0⟩, ⟨⟨1, 0, 0⟩, .gone⟩, ⟨⟨2, 0, 0⟩, .gone⟩, ⟨⟨3, 0, 0⟩, .gone⟩]
theorem seenG_hr {W : World} (hbig : 4 ≤ W.heap.size) (hL : laidMet Tryd.prog laidL W) (l : List Seen) (hB : ∀ s ∈ l, s.ent.blk < W.heap.size) (hc : ∀ s ∈ l, calm s.obj = true)
    (ho : ∀ s ∈ l, ∀ cs e k, s.obj = .cells cs e k → ∀ (i : Nat) v, cs[i]? = some v → W.cell? ⟨s.ent.blk, s.ent.base + i, none⟩ = some v) : HR Tryd.prog W.heap.size (seenR (seenG ++ l)) (seenH (seenG ++ l)) W := by
  refine seen_hr (seenG ++ l) ?_ ?_ ?_ ?_
  · intro s hs
    rcases List.mem_append.1 hs with hs | hs
    · simp only [seenG, List.mem_cons, List.not_mem_nil, or_false] at hs
      rcases hs with rfl | rfl | rfl | rfl
      · show 0 < _; omega
      · show 1 < _; omega
      · show 2 < _; omega
      · show 3 < _; omega
    · exact hB s hs
  · intro s hs
    rcases List.mem_append.1 hs with hs | hs
    · simp only [seenG, List.mem_cons, List.not_mem_nil, or_false] at hs
      rcases hs with rfl | rfl | rfl | rfl <;> rfl
    · exact hc s hs
  · intro s hs
    rcases List.mem_append.1 hs with hs | hs
    · simp only [seenG, List.mem_cons, List.not_mem_nil, or_false] at hs
      rcases hs with rfl | rfl | rfl | rfl
      · intro cs e k hcs i v hv
        cases hcs
        have h1 := World.var?_cell signsAt (cells_of_laid hL) i
        have : signs[i]? = some v := by
          rw [← hv]; simp [signs]
        simpa [this] using h1
      all_goals (intro cs e k h; cases h)
    · exact ho s hs
  · intro g hg
    rw [nglobs] at hg
    match g, hg with
    | 0, _ => exact ⟨0, rfl⟩
    | 1, _ => exact ⟨0, rfl⟩
    | 2, _ => exact ⟨0, rfl⟩
    | 3, _ => exact ⟨0, rfl⟩
theorem seenG_base (l : List Seen) : Base (seenH (seenG ++ l)) := by
  refine ⟨by rw [seen_n]; simp [seenG], fun b o hb => ?_⟩
  rw [seenH, base_get]
  match b, hb with
  | 0, hb => exact hb
  | 1, hb => exact hb
  | 2, hb => exact hb
  | 3, hb => exact hb
  | b + 4, hb => simp [globs] at hb

set_option maxRecDepth 100000 in
theorem labels_lifted (os : Os) (started : os.Started) (H : Type) (enc : TypeId × Value → H) :
    ReturnsInHanded {} Tryd.checked os 11 .any (fun w args => (Rows.chartLabelsSpec.pre enc Tryd.prog Tryd.f11 [] false w args ∧ laidMet Tryd.prog laidL w) ∧ sizedMet enc Tryd.prog Tryd.f11 (OpenSpec.ofChange Rows.chartLabelsSpec) false w args) (Rows.chartLabelsSpec.post enc Tryd.prog Tryd.f11 false true false false) := by
  refine lift started (by kernel_rfl) Tryd.func11
    (ChangeSpec.witness_at (enc := enc) (C := Tryd.checked) (os := os) (X := fun w _ => laidMet Tryd.prog laidL w) false (laidWorld os) #[.slice none 0 0, .int .i64 0] 8 rfl (by kernel_rfl) (by kernel_rfl) (by kernel_rfl) (by kernel_rfl) (by kernel_rfl) (laidWorld_met os _)) ?_
  intro W base args ds gs before hbig hval hW hL
  have hW' := hW
  obtain ⟨p, q, hA0, hV, rfl, hfz, hnd⟩ := hW
  have hA : DataW.TrodAll enc Tryd.prog W 0 (fun _ => true) true Tryd.f11.params.toList args.toList ds p := hA0
  rw [Tryd.params11] at hA hval
  obtain ⟨v0, vs0, d0, ds0, p0, q0, hargs, rfl, rfl, h0, r0⟩ := trodAll_cons hA
  obtain ⟨v1, vs1, d1, ds1, p1, q1, rfl, rfl, rfl, h1, r1⟩ := trodAll_cons r0
  obtain ⟨rfl, rfl, rfl⟩ := trodAll_nil r1
  obtain rfl : args = #[v0, v1] := by cases args; simp_all
  obtain ⟨rfl, rfl⟩ := trodVars_none hV
  obtain ⟨a0, len0, cap0, rfl⟩ := okWide_slice Tryd.underlying22 (hval 0 22 v0 rfl rfl)
  have k0 := h0
  have lt0 : ∀ x ∈ p0, x.block < W.heap.size := by obtain ⟨m, hm⟩ := k0; exact DataW.trod_lt m _ _ _ hm
  obtain ⟨z0, w0, i0⟩ : ∃ zs : List Int, ((a0 = none ∧ len0 = 0 ∧ cap0 = 0 ∧ zs = []) ∨ ∃ x, a0 = some x ∧ len0 ≤ cap0 ∧ len0 ≤ zs.length ∧ (∀ i, i < zs.length → W.cell? (x.add i) = some (.int .i64 (zs.getD i 0)))) ∧ ∀ n ∈ zs, inI64 n := by
    obtain ⟨fuel, hf⟩ := h0
    rcases open_ints Tryd.underlying22 un3 (by kernel_rfl) hf with ⟨hcs, _⟩ | ⟨x, l, c, zs, hcs, _, hl, hm, hz, _, hcell, hwz⟩
    · simp [Value.cells] at hcs
      obtain ⟨rfl, rfl, rfl⟩ := hcs
      exact ⟨[], .inl ⟨rfl, rfl, rfl, rfl⟩, by simp⟩
    · simp [Value.cells] at hcs
      obtain ⟨rfl, rfl, rfl⟩ := hcs
      refine ⟨zs, .inr ⟨_, rfl, hl, by simp at hz; omega, hcell⟩, fun n hn => ?_⟩
      have := hwz n hn
      simp [Lit.wf, IntKind.min, IntKind.max, IntKind.signed, IntKind.bits] at this
      exact ⟨by omega, by omega⟩
  obtain ⟨a1, rfl, rfl, rfl, w1⟩ := open_int Tryd.underlying3 (hval 1 3 v1 rfl rfl) h1
  obtain ⟨s, v, hs1, hs2, hs3, hs4, hs5⟩ := seen_ints (w := W) 4 (by omega) w0
  have hHR := seenG_hr hbig hL [s] (by simpa using hs1) (by simpa using hs2) (by simpa using hs3)
  have hs : (seenG ++ [s])[4]? = some s := rfl
  have hrun := run_of (B := W.heap.size) (f := 11) (l := [v, .int .i64 a1]) (args := #[.slice a0 len0 cap0, .int .i64 a1]) mixed (oracleOK _) hHR
    (.cons (hs4 _ (by rw [seenR, hs]; rfl)) (.cons (.one (.cell (.same rfl))) .nil))
    (labels_spec (seenG_base [s]) (hs5 _ (by rw [seen_n]; simp [seenG]) (seen_get hs)) (fun x hx => i0 x (List.mem_of_mem_take hx)))
  refine hrun.mono fun e W' ⟨u, u', H', ρ', he, hu, hq, bel⟩ => ?_
  subst he; subst hq
  have hu' : u' = .bool true := hu.plain rfl
  subst hu'
  exact ⟨_, rfl, _, _, _, [], _, [], hW', trodAll_mk1 (shut_bool Tryd.underlying4 _), (trodAll_cons_mk (Below.trod laidOut (by kernel_rfl) (of_decide_eq_true (by kernel_rfl)) k0 bel lt0) (trodAll_cons_mk (shut_int Tryd.underlying3 w1) trodAll_mk0)), rfl, bel.frame _, fun h => by cases h⟩

theorem labels_holds : Rows.ChartLabelsSaid :=
  OpenClaim.holds_of_wide 11 Tryd.f11 rfl rfl rfl rfl rfl rfl rfl ⟨rfl, rfl, rfl, rfl, rfl⟩ rfl rfl rfl rfl rfl (by kernel_rfl) Tryd.func11 (by kernel_rfl)
    (of_decide_eq_true (by kernel_rfl)) (by unfold Func.isWrapper; first | (rw [if_pos (by decide +kernel)]; kernel_rfl) | (rw [if_neg (by decide +kernel)]; exact ⟨rfl, rfl⟩))
    (fun os started H enc _ => labels_lifted os started H enc)
end Go.Proofs.YthjieekbbhhjgaaDoor
