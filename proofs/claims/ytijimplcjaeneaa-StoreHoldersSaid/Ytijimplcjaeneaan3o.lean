
/- Add, the program's and the reference's. -/
import Derived.Test.Ytijimplcjaeneaam0o
import Derived.Test.Ytijimplcjaeneaai9o
set_option linter.unusedVariables false
set_option linter.unusedSimpArgs false
namespace Go.Proofs.Ytijimplcjaeneaa
open Go.AI
theorem buCh0 : abuild Try.prog 26 [] = some (Chv 0 0 0 nilS) := by kernel_rfl
set_option maxRecDepth 100000 in
theorem cloneL_spec [Orc] {B : Nat} {v : Value} {H : Heap} {ls : List Lk} (hB : B ≤ H.n) (hr : RowS 4 H v (ls.map Lkl)) (hn : ls.length < 1000000) :
    CallB Try.prog B 94 [v] H (fun r H' => OwnLk H' r ls H.n ∧ Keep H H') := by
  have hsh : (v = nilS ∧ ls = []) ∨ ∃ a n c, v = .slice (some a) n c := by
    rcases hr.2 with ⟨rfl, h0⟩ | ⟨rfl, h0⟩ | ⟨b, o, c, cs, e, k, rfl, _⟩
    · exact .inl ⟨rfl, List.map_eq_nil_iff.1 h0⟩
    · exact .inr ⟨_, _, _, rfl⟩
    · exact .inr ⟨_, _, _, rfl⟩
  rcases hsh with ⟨rfl, h0⟩ | ⟨a, n, c, rfl⟩
  · refine CV.enter callees false (Orc.hv rfl rfl) Try.func94 rfl (by kernel_rfl) (Nat.le_of_ble_eq_true rfl) hB ?_ (Orc.hw rfl rfl)
    repeat' first
      | refine CO.cons rfl ?_
      | refine CO.nil ?_
      | refine CV.seq ?_
      | refine CV.region callees ?_
      | refine CV.cond ?_
      | refine CV.ret ?_
      | (refine ⟨_, fun tm ha => step1_nilnil unLs rfl (ev_tmp ha rfl) rfl, ?_⟩)
      | fail
    exact ⟨rfl, ⟨hr.1, .inl ⟨rfl, by rw [h0]; rfl⟩⟩, Keep.refl _⟩
  · refine CV.enter callees false (Orc.hv rfl rfl) Try.func94 rfl (by kernel_rfl) (Nat.le_of_ble_eq_true rfl) hB ?_ (Orc.hw rfl rfl)
    repeat' first
      | refine CO.cons rfl ?_
      | refine CO.nil ?_
      | refine CV.seq ?_
      | refine CV.region callees ?_
      | refine CV.cond ?_
      | refine CV.skip ?_
      | (refine ⟨_, fun tm ha => step1_nil rfl (ev_tmp ha rfl) rfl rfl (by simp [anil, unLs]; rfl), ?_⟩)
      | (refine ⟨_, _, lkNone, ?_⟩)
      | fail
    refine copy_askS (z := Lkl ⟨0, 0, 0, 0⟩) unLs zeroLkb (by decide) hr hB (by rw [List.length_map]; exact hn) ?_
    intro r H' ho k
    repeat' first
      | refine CO.cons rfl ?_
      | refine CO.nil ?_
      | refine CV.ret ?_
      | fail
    exact ⟨by simp only [List.all_cons, List.all_nil, OwnS.notTuple ho]; rfl, ho, k⟩
def adE (mk lo hh : Int) (ls : List Lk) (p : Lk) : Int := if chkC mk lo hh ls = 0 then chkC mk lo hh (ls ++ [p]) else chkC mk lo hh ls
def adC (mk lo hh : Int) (ls : List Lk) (p : Lk) : Int × Int × Int × List Lk := if adE mk lo hh ls p = 0 then (mk, lo, hh, ls ++ [p]) else (0, 0, 0, [])
set_option maxHeartbeats 8000000 in
set_option maxRecDepth 100000 in
theorem addC_spec [Orc] {B : Nat} {H : Heap} {mk lo hh : Int} {sv : Value} {ls : List Lk} {p : Lk} (hB : B ≤ H.n) (hr : RowS 4 H sv (ls.map Lkl)) (hn : ls.length < 100000) :
    CallB Try.prog B 35 [Chv mk lo hh sv, Lkv p] H (fun v H' => (∃ m a b q l', v = .tuple #[Chv m a b q, VI (adE mk lo hh ls p)] ∧ OwnLk H' q l' H.n ∧ (m, a, b, l') = adC mk lo hh ls p) ∧ Keep H H') := by
  refine CV.enter callees false (Orc.hv rfl rfl) Try.func35 rfl (by kernel_rfl) (Nat.le_of_ble_eq_true rfl) hB ?_ (Orc.hw rfl rfl)
  repeat' first
    | refine CO.cons rfl ?_
    | refine CV.seq ?_
    | refine CV.region callees ?_
    | fail
  refine ⟨(by simp only [notTuple]), ?_⟩
  rw [boxCh hr.cells.1]
  generalize hs2 : Heap.new H _ = H2
  have hg2 := new_get hs2
  have k2 := new_keep hs2
  have n2 := new_n hs2
  obtain ⟨b2, hbn2⟩ : ∃ b, Heap.n H = b := ⟨_, rfl⟩
  rw [hbn2] at hg2 n2 ⊢
  repeat' first
    | refine CO.cons rfl ?_
    | fail
  refine ⟨(by simp only [notTuple]), ?_⟩
  rw [show anew H2 (Value.cells (Lkv p)).toList _ 1 = H2.new (.cells (Lkl p) _ 1) from rfl]
  generalize hs3 : Heap.new H2 _ = H3
  have hg3 := new_get hs3
  have k3 := new_keep hs3
  have n3 := new_n hs3
  obtain ⟨b3, hbn3⟩ : ∃ b, Heap.n H2 = b := ⟨_, rfl⟩
  rw [hbn3] at hg3 n3 ⊢
  repeat' first
    | refine CO.cons rfl ?_
    | refine CO.nil ?_
    | refine CV.seq ?_
    | refine CV.region callees ?_
    | (refine ⟨_, _, alCh, ?_⟩)
    | fail
  generalize hs4 : Heap.new H3 _ = H4
  have hg4 := new_get hs4
  have k4 := new_keep hs4
  have n4 := new_n hs4
  obtain ⟨b4, hbn4⟩ : ∃ b, Heap.n H3 = b := ⟨_, rfl⟩
  rw [hbn4] at hg4 n4 ⊢
  have k04 := (k2.trans k3).trans k4
  have hc4 := (k4.2 b2 (by omega)).trans ((k3.2 b2 (by omega)).trans hg2)
  have hp4 := (k4.2 b3 (by omega)).trans hg3
  have hr4 := hr.keep k04
  repeat' first
    | refine CO.cons rfl ?_
    | (refine ⟨_, ldCh hc4, ?_⟩)
    | fail
  refine (checkChain_spec (by omega) hr4).mono ?_
  rintro v H5 ⟨rfl, k5⟩
  have l5 := k5.1
  have hz5 := (k5.2 b4 (by omega)).trans hg4
  have hc5 := (k5.2 b2 (by omega)).trans hc4
  have hp5 := (k5.2 b3 (by omega)).trans hp4
  have hr5 := hr4.keep k5
  have k05 := k04.trans k5
  unfold adC adE
  by_cases hc : chkC mk lo hh ls = 0
  rotate_left
  · rw [if_neg hc, if_neg hc]
    repeat' first
      | refine CO.cons rfl ?_
      | refine CO.nil ?_
      | refine CV.seq ?_
      | refine CV.region callees ?_
      | refine CV.cond ?_
      | (refine ⟨_, buCh0, ?_⟩)
      | (refine ⟨fun _ => ?_, fun _ => ?_⟩ <;> first | (exfalso; omega) | skip)
      | fail
    refine ⟨_, _, stCh hz5 rfl, by omega, ?_⟩
    generalize hs6 : Heap.set H5 b4 _ = H6
    have hg6 : H6.get b4 = some (.cells (Chl 0 0 0 nilS) 26 1) := set_get hs6
    have n6 := set_n hs6
    have o6 := set_old hs6
    repeat' first
      | refine CO.cons rfl ?_
      | refine CO.nil ?_
      | refine CV.ret ?_
      | fail
    exact ⟨_, ldCh hg6, rfl, ⟨0, 0, 0, nilS, [], rfl, ⟨fun r hr => by simp at hr, .inl ⟨rfl, rfl⟩⟩, rfl⟩, keep_put k05 (by omega) o6 n6⟩
  rw [if_pos hc, hc]
  repeat' first
    | refine CO.cons rfl ?_
    | refine CO.nil ?_
    | refine CV.seq ?_
    | refine CV.region callees ?_
    | refine CV.cond ?_
    | refine CV.skip ?_
    | refine CR.cons (es := []) ?_
    | refine CR.call ?_
    | refine CV.mX callees (by decide +kernel) [(0, []), (1, []), (3, []), (2, [3]), (4, []), (5, []), (6, []), (7, [])] (by kernel_rfl) ?_
    | (refine ⟨_, fS foC2 (by decide), ?_⟩)
    | (refine ⟨_, cell_load agLs hc5 rfl, ?_⟩)
    | (refine ⟨_, ldLk hp5, ?_⟩)
    | (refine ⟨fun _ => ?_, fun _ => ?_⟩ <;> first | (exfalso; omega) | skip)
    | fail
  refine (cloneL_spec (Nat.le_refl _) hr5 (by omega)).mono ?_
  rintro q H6 ⟨hq, k6⟩
  have l6 := k6.1
  repeat' first
    | refine CR.cons (es := []) ?_
    | (refine ⟨_, _, lkOne, ?_⟩)
    | fail
  refine lkPush hq (by omega) (by omega) (by omega) ?_
  intro q' H7 hq7 kb7 hf7
  have l7 := kb7.le
  have hqb : ∀ c, blkOf q = some c → H5.n ≤ c := fun c hc => (hq.lt hc).1
  have k57 : Keep H5 H7 := kb7.keep k6 hqb
  have hc7 := (k57.2 b2 (by omega)).trans hc5
  have hz7 := (k57.2 b4 (by omega)).trans hz5
  repeat' first
    | refine CR.cons ?_
    | (refine ⟨_, fS foC2 (by decide), ?_⟩)
    | fail
  refine ⟨_, _, store_row (i := 0 + 3) szLs hc7 (by show 3 < 4; decide) (OwnS.oneC hq7), by omega, ?_⟩
  generalize hs8 : Heap.set H7 b2 _ = H8
  have hg8 : H8.get b2 = some (.cells (Chl mk lo hh q') 26 1) := set_get hs8
  have n8 := set_n hs8
  have o8 := set_old hs8
  have hz8 := (o8 b4 (by omega)).trans hz7
  have hq8 : OwnLk H8 q' (ls ++ [p]) H5.n := OwnS.keepX hq7 ⟨by omega, fun c hc hcl => o8 c hcl⟩ hc7
  have k08 : Keep H H8 := keep_put (k05.trans k57) (by omega) o8 n8
  repeat' first
    | refine CO.cons rfl ?_
    | refine CV.seq ?_
    | refine CV.region callees ?_
    | refine CR.nil ?_
    | (refine ⟨_, ldCh hg8, ?_⟩)
    | fail
  refine (checkChain_spec (by omega) (OwnS.row hq8)).mono ?_
  rintro v H9 ⟨rfl, k9⟩
  have l9 := k9.1
  have hz9 := (k9.2 b4 (by omega)).trans hz8
  have hg9 := (k9.2 b2 (by omega)).trans hg8
  have hq9 := OwnS.keep hq8 k9
  have k09 := k08.trans k9
  by_cases hd : chkC mk lo hh (ls ++ [p]) = 0
  rotate_left
  · rw [if_neg hd]
    repeat' first
      | refine CO.cons rfl ?_
      | refine CO.nil ?_
      | refine CV.seq ?_
      | refine CV.region callees ?_
      | refine CV.cond ?_
      | (refine ⟨_, buCh0, ?_⟩)
      | (refine ⟨fun _ => ?_, fun _ => ?_⟩ <;> first | (exfalso; omega) | skip)
      | fail
    refine ⟨_, _, stCh hz9 rfl, by omega, ?_⟩
    generalize hsa : Heap.set H9 b4 _ = Ha
    have hga : Ha.get b4 = some (.cells (Chl 0 0 0 nilS) 26 1) := set_get hsa
    have na := set_n hsa
    have oa := set_old hsa
    repeat' first
      | refine CO.cons rfl ?_
      | refine CO.nil ?_
      | refine CV.ret ?_
      | fail
    exact ⟨_, ldCh hga, rfl, ⟨0, 0, 0, nilS, [], rfl, ⟨fun r hr => by simp at hr, .inl ⟨rfl, rfl⟩⟩, rfl⟩, keep_put k09 (by omega) oa na⟩
  rw [if_pos hd, hd]
  repeat' first
    | refine CO.cons rfl ?_
    | refine CO.nil ?_
    | refine CV.seq ?_
    | refine CV.region callees ?_
    | refine CV.cond ?_
    | refine CV.skip ?_
    | (refine ⟨_, ldCh hg9, ?_⟩)
    | (refine ⟨fun _ => ?_, fun _ => ?_⟩ <;> first | (exfalso; omega) | skip)
    | fail
  refine ⟨_, _, stCh hz9 (OwnS.oneC hq9), by omega, ?_⟩
  generalize hsa : Heap.set H9 b4 _ = Ha
  have hga : Ha.get b4 = some (.cells (Chl mk lo hh q') 26 1) := set_get hsa
  have na := set_n hsa
  have oa := set_old hsa
  have hqf : OwnLk Ha q' (ls ++ [p]) H5.n := OwnS.keepX hq9 ⟨by omega, fun c hc hcl => oa c hcl⟩ hz9
  repeat' first
    | refine CO.cons rfl ?_
    | refine CO.nil ?_
    | refine CV.ret ?_
    | fail
  exact ⟨_, ldCh hga, rfl, ⟨mk, lo, hh, q', ls ++ [p], rfl, OwnS.low hqf (by have := k05.1; omega), rfl⟩, keep_put k09 (by omega) oa na⟩
end Go.Proofs.Ytijimplcjaeneaa
