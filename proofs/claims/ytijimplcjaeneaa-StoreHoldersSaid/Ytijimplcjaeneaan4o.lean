
/- The reference's Add. -/
import Derived.Test.Ytijimplcjaeneaan3o
import Derived.Test.Ytijimplcjaeneaam0o
set_option linter.unusedVariables false
set_option linter.unusedSimpArgs false
namespace Go.Proofs.Ytijimplcjaeneaa
open Go.AI
set_option maxHeartbeats 8000000 in
set_option maxRecDepth 100000 in
theorem addR_spec {B : Nat} {H : Heap} {mk lo hh : Int} {sv : Value} {ls : List Lk} {p : Lk} (hB : B ≤ H.n) (hr : RowS 4 H sv (ls.map Lkl)) (hn : ls.length < 100000) :
    CallB Try.prog B 36 [Chv mk lo hh sv, Lkv p] H (fun v H' => (∃ m a b q l', v = .tuple #[Chv m a b q, VI (adE mk lo hh ls p)] ∧ OwnLk H' q l' H.n ∧ (m, a, b, l') = adC mk lo hh ls p) ∧ Keep H H') := by
  refine CV.enter callees false rfl Try.func36 rfl (by kernel_rfl) (Nat.le_of_ble_eq_true rfl) hB ?_
  repeat' first
    | refine CO.cons rfl ?_
    | refine CV.seq ?_
    | refine CV.region callees ?_
    | fail
  refine ⟨(by simp only [notTuple]), ?_⟩
  rw [boxCh hr.cells.1]
  generalize hs2 : Heap.new H _ = H2
  have hg2 := new_get hs2
  have k2 := new_keep hs2
  have n2 := new_n hs2
  obtain ⟨b2, hbn2⟩ : ∃ b, Heap.n H = b := ⟨_, rfl⟩
  rw [hbn2] at hg2 n2 ⊢
  repeat' first
    | refine CO.cons rfl ?_
    | fail
  refine ⟨(by simp only [notTuple]), ?_⟩
  rw [show anew H2 (Value.cells (Lkv p)).toList _ 1 = H2.new (.cells (Lkl p) _ 1) from rfl]
  generalize hs3 : Heap.new H2 _ = H3
  have hg3 := new_get hs3
  have k3 := new_keep hs3
  have n3 := new_n hs3
  obtain ⟨b3, hbn3⟩ : ∃ b, Heap.n H2 = b := ⟨_, rfl⟩
  rw [hbn3] at hg3 n3 ⊢
  repeat' first
    | refine CO.cons rfl ?_
    | refine CO.nil ?_
    | refine CV.seq ?_
    | refine CV.region callees ?_
    | (refine ⟨_, _, alCh, ?_⟩)
    | fail
  generalize hs4 : Heap.new H3 _ = H4
  have hg4 := new_get hs4
  have k4 := new_keep hs4
  have n4 := new_n hs4
  obtain ⟨b4, hbn4⟩ : ∃ b, Heap.n H3 = b := ⟨_, rfl⟩
  rw [hbn4] at hg4 n4 ⊢
  have k04 := (k2.trans k3).trans k4
  have hc4 := (k4.2 b2 (by omega)).trans ((k3.2 b2 (by omega)).trans hg2)
  have hp4 := (k4.2 b3 (by omega)).trans hg3
  have hr4 := hr.keep k04
  repeat' first
    | refine CO.cons rfl ?_
    | (refine ⟨_, ldCh hc4, ?_⟩)
    | fail
  refine (checkChainR_spec (by omega) hr4).mono ?_
  rintro v H5 ⟨rfl, k5⟩
  have l5 := k5.1
  have hz5 := (k5.2 b4 (by omega)).trans hg4
  have hc5 := (k5.2 b2 (by omega)).trans hc4
  have hp5 := (k5.2 b3 (by omega)).trans hp4
  have hr5 := hr4.keep k5
  have k05 := k04.trans k5
  unfold adC adE
  by_cases hc : chkC mk lo hh ls = 0
  rotate_left
  · rw [if_neg hc, if_neg hc]
    repeat' first
      | refine CO.cons rfl ?_
      | refine CO.nil ?_
      | refine CV.seq ?_
      | refine CV.region callees ?_
      | refine CV.cond ?_
      | (refine ⟨_, buCh0, ?_⟩)
      | (refine ⟨fun _ => ?_, fun _ => ?_⟩ <;> first | (exfalso; omega) | skip)
      | fail
    refine ⟨_, _, stCh hz5 rfl, by omega, ?_⟩
    generalize hs6 : Heap.set H5 b4 _ = H6
    have hg6 : H6.get b4 = some (.cells (Chl 0 0 0 nilS) 26 1) := set_get hs6
    have n6 := set_n hs6
    have o6 := set_old hs6
    repeat' first
      | refine CO.cons rfl ?_
      | refine CO.nil ?_
      | refine CV.ret ?_
      | fail
    exact ⟨_, ldCh hg6, rfl, ⟨0, 0, 0, nilS, [], rfl, ⟨fun r hr => by simp at hr, .inl ⟨rfl, rfl⟩⟩, rfl⟩, keep_put k05 (by omega) o6 n6⟩
  rw [if_pos hc, hc]
  repeat' first
    | refine CO.cons rfl ?_
    | refine CO.nil ?_
    | refine CV.seq ?_
    | refine CV.region callees ?_
    | refine CV.cond ?_
    | refine CV.skip ?_
    | refine CR.cons (es := []) ?_
    | refine CV.mX callees (by decide +kernel) [(1, []), (2, []), (4, []), (0, [4, 2]), (3, [4]), (5, []), (6, []), (7, []), (8, [])] (by kernel_rfl) ?_
    | (refine ⟨_, fS foC2 (by decide), ?_⟩)
    | (refine ⟨_, cell_load agLs hc5 rfl, ?_⟩)
    | (refine ⟨_, ldLk hp5, ?_⟩)
    | (refine ⟨fun _ => ?_, fun _ => ?_⟩ <;> first | (exfalso; omega) | skip)
    | fail
  refine CR.opL H5.n (by omega) (Nat.le_refl _) ?_
  refine ⟨_, _, lkNone, ?_⟩
  refine .inr ⟨by omega, _, ldLk hp5, ?_⟩
  refine .inr ⟨by omega, _, cell_load agLs hc5 rfl, ?_⟩
  refine CR.opL H5.n (by omega) (by show H5.n ≤ H5.n + 1; omega) ?_
  refine copy_askS (B := H5.n) (z := Lkl ⟨0, 0, 0, 0⟩) unLs zeroLkb (by decide) hr5 (Nat.le_refl _) (by rw [List.length_map]; omega) ?_
  intro q H6 hq k6
  have l6 := k6.1
  have hpN : (H5.new (.cells [] 28 2)).get b3 = some (.cells (Lkl p) 28 1) := by rw [Heap.get_new_ne _ _ (by omega)]; exact hp5
  refine .inr ⟨by omega, _, ldLk hpN, ?_⟩
  repeat' first
    | refine CR.cons (es := []) ?_
    | (refine ⟨_, _, lkOne, ?_⟩)
    | fail
  refine lkPush hq (by omega) (by omega) (by omega) ?_
  intro q' H7 hq7 kb7 hf7
  have l7 := kb7.le
  have hqb : ∀ c, blkOf q = some c → H5.n ≤ c := fun c hc => (hq.lt hc).1
  have k57 : Keep H5 H7 := kb7.keep k6 hqb
  have hc7 := (k57.2 b2 (by omega)).trans hc5
  have hz7 := (k57.2 b4 (by omega)).trans hz5
  repeat' first
    | refine CR.cons ?_
    | (refine ⟨_, fS foC2 (by decide), ?_⟩)
    | fail
  refine ⟨_, _, store_row (i := 0 + 3) szLs hc7 (by show 3 < 4; decide) (OwnS.oneC hq7), by omega, ?_⟩
  generalize hs8 : Heap.set H7 b2 _ = H8
  have hg8 : H8.get b2 = some (.cells (Chl mk lo hh q') 26 1) := set_get hs8
  have n8 := set_n hs8
  have o8 := set_old hs8
  have hz8 := (o8 b4 (by omega)).trans hz7
  have hq8 : OwnLk H8 q' (ls ++ [p]) H5.n := OwnS.keepX hq7 ⟨by omega, fun c hc hcl => o8 c hcl⟩ hc7
  have k08 : Keep H H8 := keep_put (k05.trans k57) (by omega) o8 n8
  repeat' first
    | refine CO.cons rfl ?_
    | refine CV.seq ?_
    | refine CV.region callees ?_
    | refine CR.nil ?_
    | (refine ⟨_, ldCh hg8, ?_⟩)
    | fail
  refine (checkChainR_spec (by omega) (OwnS.row hq8)).mono ?_
  rintro v H9 ⟨rfl, k9⟩
  have l9 := k9.1
  have hz9 := (k9.2 b4 (by omega)).trans hz8
  have hg9 := (k9.2 b2 (by omega)).trans hg8
  have hq9 := OwnS.keep hq8 k9
  have k09 := k08.trans k9
  by_cases hd : chkC mk lo hh (ls ++ [p]) = 0
  rotate_left
  · rw [if_neg hd]
    repeat' first
      | refine CO.cons rfl ?_
      | refine CO.nil ?_
      | refine CV.seq ?_
      | refine CV.region callees ?_
      | refine CV.cond ?_
      | (refine ⟨_, buCh0, ?_⟩)
      | (refine ⟨fun _ => ?_, fun _ => ?_⟩ <;> first | (exfalso; omega) | skip)
      | fail
    refine ⟨_, _, stCh hz9 rfl, by omega, ?_⟩
    generalize hsa : Heap.set H9 b4 _ = Ha
    have hga : Ha.get b4 = some (.cells (Chl 0 0 0 nilS) 26 1) := set_get hsa
    have na := set_n hsa
    have oa := set_old hsa
    repeat' first
      | refine CO.cons rfl ?_
      | refine CO.nil ?_
      | refine CV.ret ?_
      | fail
    exact ⟨_, ldCh hga, rfl, ⟨0, 0, 0, nilS, [], rfl, ⟨fun r hr => by simp at hr, .inl ⟨rfl, rfl⟩⟩, rfl⟩, keep_put k09 (by omega) oa na⟩
  rw [if_pos hd, hd]
  repeat' first
    | refine CO.cons rfl ?_
    | refine CO.nil ?_
    | refine CV.seq ?_
    | refine CV.region callees ?_
    | refine CV.cond ?_
    | refine CV.skip ?_
    | (refine ⟨_, ldCh hg9, ?_⟩)
    | (refine ⟨fun _ => ?_, fun _ => ?_⟩ <;> first | (exfalso; omega) | skip)
    | fail
  refine ⟨_, _, stCh hz9 (OwnS.oneC hq9), by omega, ?_⟩
  generalize hsa : Heap.set H9 b4 _ = Ha
  have hga : Ha.get b4 = some (.cells (Chl mk lo hh q') 26 1) := set_get hsa
  have na := set_n hsa
  have oa := set_old hsa
  have hqf : OwnLk Ha q' (ls ++ [p]) H5.n := OwnS.keepX hq9 ⟨by omega, fun c hc hcl => oa c hcl⟩ hz9
  repeat' first
    | refine CO.cons rfl ?_
    | refine CO.nil ?_
    | refine CV.ret ?_
    | fail
  exact ⟨_, ldCh hga, rfl, ⟨mk, lo, hh, q', ls ++ [p], rfl, OwnS.low hqf (by have := k05.1; omega), rfl⟩, keep_put k09 (by omega) oa na⟩
end Go.Proofs.Ytijimplcjaeneaa
