
/- Orders. -/
import Derived.Test.Ytijimplcjaeneaai0o
set_option linter.unusedVariables false
set_option linter.unusedSimpArgs false
namespace Go.Proofs.Ytijimplcjaeneaa
open Go.AI
theorem zcLL : zeroCellsW Try.prog 39 = some [nilS] := by kernel_rfl
theorem alLLs {H : Heap} : sAlloc Try.prog H 39 = some (.pointer (some ⟨H.n, 0, none⟩), H.new (.cells [nilS] 39 1), H.n) := alloc_ofW zcLL
theorem szLLs : sizeB Try.prog 39 = some 1 := by kernel_rfl
theorem agLLs : isAggB Try.prog 39 = some false := by kernel_rfl
set_option maxHeartbeats 16000000 in
set_option maxRecDepth 100000 in
theorem ordersP_spec [Orc] {B : Nat} {H : Heap} {mk lo hh : Int} {sv : Value} {ls : List Lk} (hB : B ≤ H.n) (hr : RowS 4 H sv (ls.map Lkl)) :
    CallB Try.prog B 22 [Chv mk lo hh sv] H (fun v H' => (∃ q ws, v = .tuple #[q, VI (chkC mk lo hh ls)] ∧ OwnQ H' q ws (if chkC mk lo hh ls = 0 then ordersL mk lo ls else []) H.n) ∧ Keep H H') := by
  refine CV.enter callees false (Orc.hv rfl rfl) Try.func22 rfl (by kernel_rfl) (Nat.le_of_ble_eq_true rfl) hB ?_ (Orc.hw rfl rfl)
  repeat' first
    | refine CO.cons rfl ?_
    | refine CV.seq ?_
    | refine CV.region callees ?_
    | fail
  refine ⟨(by simp only [notTuple]), ?_⟩
  rw [boxCh hr.cells.1]
  generalize hs0 : Heap.new H _ = H0
  have hg0 := new_get hs0
  have k0 := new_keep hs0
  have n0 := new_n hs0
  obtain ⟨b0, hbn0⟩ : ∃ b, Heap.n H = b := ⟨_, rfl⟩
  rw [hbn0] at hg0 n0 ⊢
  repeat' first
    | refine CO.cons rfl ?_
    | refine CO.nil ?_
    | refine CV.seq ?_
    | refine CV.region callees ?_
    | (refine ⟨_, ldCh hg0, ?_⟩)
    | fail
  refine (checkChain_spec (by omega) (hr.keep k0)).mono ?_
  rintro v H2 ⟨rfl, k2⟩
  have l2 := k2.1
  by_cases hc : chkC mk lo hh ls = 0
  rotate_left
  · repeat' first
      | refine CO.cons rfl ?_
      | refine CO.nil ?_
      | refine CV.seq ?_
      | refine CV.region callees ?_
      | refine CV.cond ?_
      | refine CV.ret ?_
      | (refine ⟨fun _ => ?_, fun _ => ?_⟩ <;> first | (exfalso; omega) | skip)
      | fail
    rw [if_neg hc]
    exact ⟨rfl, ⟨nilS, [], rfl, OwnQ.nil⟩, k0.trans k2⟩
  rw [if_pos hc, hc]
  have hk := chOk_of hc
  have hls := hk.ok
  have hc2 := (k2.2 b0 (by omega)).trans hg0
  repeat' first
    | refine CO.cons rfl ?_
    | refine CO.nil ?_
    | refine CV.seq ?_
    | refine CV.region callees ?_
    | refine CV.cond ?_
    | refine CV.skip ?_
    | (refine ⟨_, _, alLLs, ?_⟩)
    | (refine ⟨fun _ => ?_, fun _ => ?_⟩ <;> first | (exfalso; omega) | skip)
    | fail
  generalize hs5 : Heap.new H2 _ = H5
  have hg5 := new_get hs5
  have k5 := new_keep hs5
  have n5 := new_n hs5
  obtain ⟨b5, hbn5⟩ : ∃ b, Heap.n H2 = b := ⟨_, rfl⟩
  rw [hbn5] at hg5 n5 ⊢
  have hc5 := (k5.2 b0 (by omega)).trans hc2
  repeat' first
    | refine CO.cons rfl ?_
    | (refine ⟨_, ldCh hc5, ?_⟩)
    | fail
  refine (orders_spec (by omega) hr.cells.1).mono ?_
  rintro v H7 ⟨⟨c, rfl, hcc, hcc2, hcc3⟩, k7⟩
  have l7 := k7.1
  repeat' first
    | refine CO.nil ?_
    | refine CV.block ?_
    | fail
  refine CV.rangeFunc callees ?_
  refine fun tm ha => ?_
  generalize hs8 : Heap.new H7 _ = H8
  have hg8 := new_get hs8
  have k8 := new_keep hs8
  have n8 := new_n hs8
  obtain ⟨l, hl⟩ : ∃ l, H7.n = l := ⟨_, rfl⟩
  rw [hl] at hg8 n8 ⊢
  have k58 : Keep H5 H8 := k7.trans k8
  have l58 := k58.1
  have k08 : Keep H H8 := ((k0.trans k2).trans k5).trans k58
  have hcc8 := (k8.2 c (by omega)).trans hcc
  have hm8 := (k58.2 b5 (by omega)).trans hg5
  have hlen := orders_len (mk := mk) (lo := lo) hls.n
  refine (orders1_spec (B := B) (l := l) (c := c) (mk := mk) (lo := lo) (hi := hh) (sv := sv) (ls := ls)
    (fun S q X => ∃ qv ws, X.get l = H8.get l ∧ X.get b5 = some (.cells [qv] 39 1) ∧ OwnQ X qv ws S (H8.n + 4) ∧ (∀ j, j < S.length → blkOf ws[j]! ≠ some q) ∧ blkOf qv ≠ some q ∧ X.get c = H8.get c ∧ Keep H X ∧ H8.n ≤ X.n ∧ H8.n ≤ q)
    (fun X => False)
    (by omega) (by omega) hls hk.l0 (by have := hk.l1; have := hk.h1; omega) hcc8 (hr.keep k08) ?_ ?_ ?_ ?_).mono ?_
  · intro X kk h2
    exact ⟨nilS, [], kk.2 l (by omega), (kk.2 b5 (by omega)).trans hm8, OwnQ.nil, fun j hj => absurd hj (by simp), (by simp [blkOf]), kk.2 c (by omega), k08.trans kk, kk.1, by omega⟩
  · rintro S q X ⟨qv, ws, q1, q2, q3, q4, q5, q6, q7, q8, q9⟩
    exact ⟨q6.trans hcc8, hr.keep q7⟩
  · rintro S q q' X X' ⟨qv, ws, q1, q2, q3, q4, q5, q6, q7, q8, q9⟩ h2 h3 h4
    have hq : ∀ cc, (blkOf qv = some cc ∨ ∃ j, j < S.length ∧ blkOf ws[j]! = some cc) → cc ≠ q ∧ H8.n + 4 ≤ cc ∧ cc < X.n := fun cc hcc => by
      refine ⟨?_, q3.lt hcc⟩
      rintro rfl
      rcases hcc with h | ⟨j, hj, h⟩
      · exact q5 h
      · exact q4 j hj h
    refine ⟨qv, ws, (h3 l (by omega) (by omega) (by omega)).trans q1, (h3 b5 (by omega) (by omega) (by omega)).trans q2, q3.same h2 fun cc hcc => h3 cc (hq cc hcc).2.2 (hq cc hcc).1 (by have := (hq cc hcc).2.1; omega), fun j hj h => ?_, fun h => ?_, (h3 c (by omega) (by omega) (by omega)).trans q6, ?_, by omega, by omega⟩
    · have := hq _ (.inr ⟨j, hj, h⟩); omega
    · have := hq _ (.inl h); omega
    · exact ⟨by have := q7.1; omega, fun p hp => (h3 p (by have := q7.1; omega) (by omega) (by omega)).trans (q7.2 p hp)⟩
  · rintro S o q X hpre ⟨qv, ws, q1, q2, q3, q4, q5, q6, q7, q8, q9⟩ hM hBX hbX
    obtain ⟨ho1, ho2, ho3⟩ := orders_mem.1 (hpre.subset (show o ∈ S ++ [o] by simp))
    have ho7 := hls.n
    have hSl : S.length < 1000000 := by have := hpre.length_le; rw [List.length_append, List.length_singleton] at this; omega
    refine RoundB.enter callees false (q1.trans hg8) ha rfl hBX (by omega) ?_
    repeat' first
      | refine CO.cons rfl ?_
      | refine CO.nil ?_
      | refine CV.region callees ?_
      | fail
    refine ⟨_, _, _, _, _, q1.trans hg8, ?_⟩
    generalize hs9 : X.set l _ = X1
    have hg9 := set_get hs9
    have n9 := set_n hs9
    have o9 := set_old hs9
    have hmx : X1.get b5 = some (.cells [qv] 39 1) := (o9 b5 (by omega)).trans q2
    have hq1 := q3.same (H' := X1) (by omega) fun cc hcc => o9 cc (by have := q3.lt hcc; omega)
    have hqn := hM.lt
    obtain ⟨cs, hp1, hp2⟩ := hM.p
    have hrow : Ints X1 (pile q o.length) o := pile_row ((o9 q (by omega)).trans hp1) hp2 (by omega)
    repeat' first
      | refine CV.block ?_
      | fail
    refine CV.wideR callees (by decide +kernel) [(0, []), (1, []), (2, [0]), (3, [0]), (4, []), (5, [])] (by kernel_rfl) ?_
    repeat' first
      | refine CR.cons ?_
      | (refine ⟨_, cell_load agLLs hmx rfl, ?_⟩)
      | fail
    refine (clone_spec (by omega) hrow (by omega)).mono ?_
    rintro w X2 ⟨hw, kA⟩
    have lA := kA.1
    have hm2 := (kA.2 b5 (by omega)).trans hmx
    have hq2 := hq1.keep kA
    repeat' first
      | refine CR.cons ?_
      | (refine ⟨_, cell_load agLLs hm2 rfl, ?_⟩)
      | (refine ⟨(rfl : _ = qv), ?_⟩)
      | (refine ⟨hq2.o.same, ?_⟩)
      | (refine ⟨_, _, build_one unG oneN (Row.oneC hw.row).1, ?_⟩)
      | fail
    refine hq2.push (g := o) (Own.lower hw (by omega)) (by omega) (by omega) hSl ?_
    intro r X3 hq3 kb3 hf3
    have l3 := kb3.le
    have hqa : ∀ cc, blkOf qv = some cc → H8.n + 4 ≤ cc ∧ cc < X.n := fun cc hcc => q3.lt (.inl hcc)
    have hwa : ∀ cc, blkOf w = some cc → X.n ≤ cc := fun cc hcc => by have := (hw.lt hcc).1; omega
    have hm3 := (kb3.get b5 (by omega) (fun h => by have := hqa _ h; omega)).trans hm2
    repeat' first
      | refine CR.cons ?_
      | fail
    refine ⟨_, _, var_store szLLs hm3 (Row.oneC hq3.o.row).1, by omega, ?_⟩
    generalize hs4 : Heap.set X3 b5 _ = H4
    have hg4 : H4.get b5 = some (.cells ([r]) 39 1) := set_get hs4
    have n4 := set_n hs4
    have o4 := set_old hs4
    have hq4 := hq3.same (H' := H4) (by omega) fun cc hcc => o4 cc (by have := hq3.lt hcc; omega)
    have hold : ∀ p, p < X.n → p ≠ l → p ≠ b5 → blkOf qv ≠ some p → H4.get p = X.get p := fun p h1 h2 h3 h4 => (o4 p h3).trans ((kb3.get p (by omega) h4).trans ((kA.2 p (by omega)).trans (o9 p h2)))
    have hl4 := (o4 l (by omega)).trans ((kb3.get l (by omega) (fun h => by have := hqa _ h; omega)).trans ((kA.2 l (by omega)).trans hg9))
    have hne : ∀ p, p < H8.n + 4 → blkOf qv ≠ some p := fun p hp h => by have := hqa _ h; omega
    repeat' first
      | refine CR.nil ?_
      | fail
    refine ⟨_, _, _, _, _, _, _, hl4, rfl, .inl ⟨rfl, ⟨r, ws ++ [w], ?_, ?_, ?_, ?_, ?_, ?_, ?_, ?_, q9⟩, ?_⟩, ?_⟩
    · rw [Heap.get_set_eq]; exact hg8.symm
    · rw [Heap.get_set_ne _ _ (by omega)]; exact hg4
    · exact hq4.same (by show H4.n ≤ H4.n; omega) fun cc hcc => Heap.get_set_ne _ _ (by have := hq4.lt hcc; omega)
    · intro j hj h
      rw [List.length_append, List.length_singleton] at hj
      by_cases hj2 : j < S.length
      · have h1 : (ws ++ [w])[j]! = ws[j]! := by
          rw [getElem!_pos _ j (by rw [List.length_append, q3.len]; omega), List.getElem_append_left (by rw [q3.len]; omega), getElem!_pos ws j (by rw [q3.len]; omega)]
        rw [h1] at h
        exact q4 j hj2 h
      · obtain rfl : j = S.length := by omega
        have h1 : (ws ++ [w])[S.length]! = w := by
          rw [getElem!_pos _ _ (by rw [List.length_append, List.length_singleton, q3.len]; omega), List.getElem_append_right (by rw [q3.len]; omega)]
          simp [q3.len]
        rw [h1] at h
        have := hwa _ h
        omega
    · intro h; have := hf3 _ h; omega
    · rw [Heap.get_set_ne _ _ (by omega)]; exact (hold c (by omega) (by omega) (by omega) (hne c (by omega))).trans q6
    · exact ⟨by show H.n ≤ H4.n; omega, fun p hp => by rw [Heap.get_set_ne _ _ (by omega)]; exact (hold p (by omega) (by omega) (by omega) (hne p (by omega))).trans (q7.2 p hp)⟩
    · show H8.n ≤ H4.n; omega
    · intro p hp
      rw [Heap.get_set_ne _ _ (by omega)]
      exact hold p (by omega) (by omega) (by omega) (fun h => by have := hqa _ h; rcases hp with hp | rfl; omega; exact q5 h)
    · show X.n ≤ H4.n; omega
  rintro _ HZ ⟨⟨q, qv, ws, q1, q2, q3, q4, q5, q6, q7, q8, q9⟩ | hf, lZ⟩
  rotate_left
  · exact hf.elim
  refine ⟨_, _, _, _, _, _, _, q1.trans hg8, rfl, rfl, ?_⟩
  generalize hsZ : HZ.set l _ = HY
  have nZ := set_n hsZ
  have oZ := set_old hsZ
  have hmY : HY.get b5 = some (.cells [qv] 39 1) := (oZ b5 (by omega)).trans q2
  have kY : Keep H HY := ⟨by have := q7.1; omega, fun p hp => (oZ p (by omega)).trans (q7.2 p hp)⟩
  have q3Y := q3.same (H' := HY) (by omega) fun cc hcc => oZ cc (by have := q3.lt hcc; omega)
  repeat' first
    | refine CO.cons rfl ?_
    | refine CO.nil ?_
    | refine CV.seq ?_
    | refine CV.region callees ?_
    | refine CV.ret ?_
    | (refine ⟨_, cell_load agLLs hmY rfl, ?_⟩)
    | fail
  exact ⟨by simp only [List.all_cons, List.all_nil, q3Y.o.notTuple]; rfl, ⟨qv, ws, rfl, ⟨Own.lower q3Y.o (by omega), q3Y.len, fun j hj => Own.lower (q3Y.i j hj) (by omega)⟩⟩, kY⟩
end Go.Proofs.Ytijimplcjaeneaa

