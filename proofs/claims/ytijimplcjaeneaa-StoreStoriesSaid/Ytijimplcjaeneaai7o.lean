
/- Days. -/
import Derived.Test.Ytijimplcjaeneaai6o
set_option linter.unusedVariables false
set_option linter.unusedSimpArgs false
namespace Go.Proofs.Ytijimplcjaeneaa
open Go.AI
set_option maxHeartbeats 32000000 in
set_option maxRecDepth 100000 in
theorem daysP_spec [Orc] {B : Nat} {H : Heap} {mk lo hh : Int} {sv : Value} {ls : List Lk} (hB : B ≤ H.n) (hr : RowS 4 H sv (ls.map Lkl)) :
    CallB Try.prog B 24 [Chv mk lo hh sv] H (fun v H' => (∃ q a b ps, v = .tuple #[Spv a b, q, VI (chkC mk lo hh ls)] ∧ RowS 2 H' q (ps.map Spl) ∧ ((a, b), ps) = (if chkC mk lo hh ls = 0 then dayF mk lo hh ls (ordersL mk lo ls) else ((0, 0), []))) ∧ Keep H H') := by
  refine CV.enter callees false (Orc.hv rfl rfl) Try.func24 rfl (by kernel_rfl) (Nat.le_of_ble_eq_true rfl) hB ?_ (Orc.hw rfl rfl)
  repeat' first
    | refine CO.cons rfl ?_
    | refine CV.seq ?_
    | refine CV.region callees ?_
    | fail
  refine ⟨(by simp only [notTuple]), ?_⟩
  rw [boxCh hr.cells.1]
  generalize hs0 : Heap.new H _ = H0
  have hg0 := new_get hs0
  have k0 := new_keep hs0
  have n0 := new_n hs0
  obtain ⟨b0, hbn0⟩ : ∃ b, Heap.n H = b := ⟨_, rfl⟩
  rw [hbn0] at hg0 n0 ⊢
  repeat' first
    | refine CO.cons rfl ?_
    | (refine ⟨_, _, alSp, ?_⟩)
    | fail
  generalize hs1 : Heap.new H0 _ = H1
  have hg1 := new_get hs1
  have k1 := new_keep hs1
  have n1 := new_n hs1
  obtain ⟨b1, hbn1⟩ : ∃ b, Heap.n H0 = b := ⟨_, rfl⟩
  rw [hbn1] at hg1 n1 ⊢
  repeat' first
    | refine CO.cons rfl ?_
    | refine CO.nil ?_
    | refine CV.seq ?_
    | refine CV.region callees ?_
    | (refine ⟨_, _, alSs, ?_⟩)
    | fail
  generalize hs2 : Heap.new H1 _ = H2
  have hg2 := new_get hs2
  have k2 := new_keep hs2
  have n2 := new_n hs2
  obtain ⟨b2, hbn2⟩ : ∃ b, Heap.n H1 = b := ⟨_, rfl⟩
  rw [hbn2] at hg2 n2 ⊢
  have k02 : Keep H H2 := (k0.trans k1).trans k2
  have hc2 := (k2.2 b0 (by omega)).trans ((k1.2 b0 (by omega)).trans hg0)
  have hm2 := (k2.2 b1 (by omega)).trans hg1
  repeat' first
    | refine CO.cons rfl ?_
    | (refine ⟨_, ldCh hc2, ?_⟩)
    | fail
  refine (checkChain_spec (by omega) (hr.keep k02)).mono ?_
  rintro v H3 ⟨rfl, k3⟩
  have l3 := k3.1
  have hc3 := (k3.2 b0 (by omega)).trans hc2
  have hm3 := (k3.2 b1 (by omega)).trans hm2
  have hl3 := (k3.2 b2 (by omega)).trans hg2
  have k03 := k02.trans k3
  by_cases hc : chkC mk lo hh ls = 0
  rotate_left
  · repeat' first
      | refine CO.cons rfl ?_
      | refine CO.nil ?_
      | refine CV.seq ?_
      | refine CV.region callees ?_
      | refine CV.cond ?_
      | (refine ⟨_, buSp0, ?_⟩)
      | (refine ⟨fun _ => ?_, fun _ => ?_⟩ <;> first | (exfalso; omega) | skip)
      | fail
    refine ⟨_, _, stSp hm3, by omega, ?_⟩
    generalize hs4 : Heap.set H3 b1 _ = H4
    have hg4 : H4.get b1 = some (.cells ([VI 0, VI 0]) sT 1) := set_get hs4
    have n4 := set_n hs4
    have o4 := set_old hs4
    have hl4 := (o4 b2 (by omega)).trans hl3
    repeat' first
      | refine CO.cons rfl ?_
      | fail
    refine ⟨_, _, var_store szSs hl4 rfl, by omega, ?_⟩
    generalize hs5 : Heap.set H4 b2 _ = H5
    have hg5 : H5.get b2 = some (.cells ([nilS]) sS 1) := set_get hs5
    have n5 := set_n hs5
    have o5 := set_old hs5
    have hm5 := (o5 b1 (by omega)).trans hg4
    repeat' first
      | refine CO.cons rfl ?_
      | refine CO.nil ?_
      | refine CV.ret ?_
      | fail
    rw [if_neg hc]
    exact ⟨_, ldSp hm5, _, cell_load agSs hg5 rfl, rfl, ⟨nilS, 0, 0, [], rfl, ⟨fun r hr => by simp at hr, .inl ⟨rfl, rfl⟩⟩, rfl⟩, keep_put (keep_put k03 (by omega) o4 n4) (by omega) o5 n5⟩
  rw [if_pos hc, hc]
  have hk := chOk_of hc
  have hls := hk.ok
  repeat' first
    | refine CO.cons rfl ?_
    | refine CO.nil ?_
    | refine CV.seq ?_
    | refine CV.region callees ?_
    | refine CV.cond ?_
    | refine CV.skip ?_
    | (refine ⟨_, buSp, ?_⟩)
    | (refine ⟨fun _ => ?_, fun _ => ?_⟩ <;> first | (exfalso; omega) | skip)
    | fail
  refine ⟨_, _, stSp hm3, by omega, ?_⟩
  generalize hs4 : Heap.set H3 b1 _ = H4
  have hg4 : H4.get b1 = some (.cells ([VI 100000, VI 0]) sT 1) := set_get hs4
  have n4 := set_n hs4
  have o4 := set_old hs4
  have hl4 := (o4 b2 (by omega)).trans hl3
  have hc4 := (o4 b0 (by omega)).trans hc3
  have k04 : Keep H H4 := keep_put k03 (by omega) o4 n4
  repeat' first
    | refine CO.cons rfl ?_
    | refine CO.nil ?_
    | refine CV.seq ?_
    | refine CV.region callees ?_
    | (refine ⟨_, ldSp hg4, ?_⟩)
    | (refine ⟨_, _, buSpR, ?_⟩)
    | fail
  generalize hs5 : Heap.new H4 _ = H5
  have hg5 := new_get hs5
  have k5 := new_keep hs5
  have n5 := new_n hs5
  obtain ⟨b5, hbn5⟩ : ∃ b, Heap.n H4 = b := ⟨_, rfl⟩
  rw [hbn5] at hg5 n5 ⊢
  have hr5 := sp_row1 (by omega) hg5
  have hc5 := (k5.2 b0 (by omega)).trans hc4
  have hs5 := hr.keep (k04.trans k5)
  repeat' first
    | refine CO.cons rfl ?_
    | (refine ⟨_, fS foC2 (by decide), ?_⟩)
    | (refine ⟨_, cell_load agLs hc5 rfl, ?_⟩)
    | (refine ⟨_, ls_len hs5, ?_⟩)
    | fail
  refine (repeat_spec (by omega) hr5 hls.n).mono ?_
  rintro v H6 ⟨⟨q, rfl, hq1, hq2, hq6⟩, k6⟩
  have l6 := k6.1
  have hl6 := (k6.2 b2 (by omega)).trans ((k5.2 b2 (by omega)).trans hl4)
  repeat' first
    | refine CO.cons rfl ?_
    | fail
  refine ⟨_, _, var_store szSs hl6 rfl, by omega, ?_⟩
  generalize hs7 : Heap.set H6 b2 _ = H7
  have hg7 : H7.get b2 = some (.cells ([.slice (some ⟨q, 0, none⟩) ls.length 0]) sS 1) := set_get hs7
  have n7 := set_n hs7
  have o7 := set_old hs7
  have k07 : Keep H H7 := keep_put ((k04.trans k5).trans k6) (by omega) o7 n7
  have hc7 := (o7 b0 (by omega)).trans ((k6.2 b0 (by omega)).trans hc5)
  have hm7 := (o7 b1 (by omega)).trans ((k6.2 b1 (by omega)).trans ((k5.2 b1 (by omega)).trans hg4))
  have hq7 := (o7 q (by omega)).trans hq6
  repeat' first
    | refine CO.cons rfl ?_
    | refine CO.nil ?_
    | refine CV.seq ?_
    | refine CV.region callees ?_
    | (refine ⟨_, ldCh hc7, ?_⟩)
    | fail
  refine (orders_spec (by omega) hr.cells.1).mono ?_
  rintro v HA ⟨⟨c, rfl, hcc, hcc2, hcc3⟩, kA⟩
  have lA := kA.1
  repeat' first
    | refine CO.nil ?_
    | refine CV.block ?_
    | fail
  refine CV.rangeFunc callees ?_
  refine fun tm ha => ?_
  generalize hs8 : Heap.new HA _ = H8
  have hg8 := new_get hs8
  have k8 := new_keep hs8
  have n8 := new_n hs8
  obtain ⟨l, hl⟩ : ∃ l, HA.n = l := ⟨_, rfl⟩
  rw [hl] at hg8 n8 ⊢
  have k78 : Keep H7 H8 := kA.trans k8
  have l78 := k78.1
  have k08 : Keep H H8 := k07.trans k78
  have hcc8 := (k8.2 c (by omega)).trans hcc
  have hc8 := (k78.2 b0 (by omega)).trans hc7
  have hm8 := (k78.2 b1 (by omega)).trans hm7
  have hl8 := (k78.2 b2 (by omega)).trans hg7
  have hq8 := (k78.2 q (by omega)).trans hq7
  have hn02 : b0 < b1 ∧ b1 < b2 ∧ b2 < q ∧ q < H8.n ∧ q < c ∧ c < l := ⟨by omega, by omega, by omega, by omega, by omega, by omega⟩
  have hHb : H.n ≤ b0 := by omega
  have hn8 : H8.n = l + 1 := by omega
  refine (orders1_spec (B := B) (l := l) (c := c) (mk := mk) (lo := lo) (hi := hh) (sv := sv) (ls := ls)
    (fun S p X => X.get l = H8.get l ∧ X.get b1 = some (.cells (Spl (dayF mk lo hh ls S).1) sT 1) ∧ X.get q = some (.cells (SpC (dayF mk lo hh ls S).2) sT 2) ∧ X.get b0 = H8.get b0 ∧ X.get b2 = H8.get b2 ∧ X.get c = H8.get c ∧ Keep H X ∧ H8.n ≤ X.n ∧ H8.n ≤ p)
    (fun X => False)
    (by omega) (by omega) hls hk.l0 (by have := hk.l1; have := hk.h1; omega) hcc8 (hr.keep k08) ?_ ?_ ?_ ?_).mono ?_
  · intro X kk h2
    exact ⟨kk.2 l (by omega), (kk.2 b1 (by omega)).trans hm8, (kk.2 q (by omega)).trans hq8, kk.2 b0 (by omega), kk.2 b2 (by omega), kk.2 c (by omega), k08.trans kk, kk.1, by omega⟩
  · rintro S p X ⟨q1, q2, q3, q4, q5, q6, q7, q8, q9⟩
    exact ⟨q6.trans hcc8, hr.keep q7⟩
  · rintro S p p' X X' ⟨q1, q2, q3, q4, q5, q6, q7, q8, q9⟩ h2 h3 h4
    exact ⟨(h3 l (by omega) (by omega) (by omega)).trans q1, (h3 b1 (by omega) (by omega) (by omega)).trans q2, (h3 q (by omega) (by omega) (by omega)).trans q3, (h3 b0 (by omega) (by omega) (by omega)).trans q4, (h3 b2 (by omega) (by omega) (by omega)).trans q5, (h3 c (by omega) (by omega) (by omega)).trans q6, ⟨by have := q7.1; omega, fun p hp => (h3 p (by have := q7.1; omega) (by omega) (by omega)).trans (q7.2 p hp)⟩, by omega, by omega⟩
  · rintro S o p X hpre ⟨q1, q2, q3, q4, q5, q6, q7, q8, q9⟩ hM hBX hbX
    obtain ⟨ho1, ho2, ho3⟩ := orders_mem.1 (hpre.subset (show o ∈ S ++ [o] by simp))
    have ho7 := hls.n
    have hkl1 := hk.l1
    have hkh := hk.h1
    have hkl0 := hk.l0
    refine RoundB.enter callees false (q1.trans hg8) ha rfl hBX (by omega) ?_
    repeat' first
      | refine CO.cons rfl ?_
      | refine CO.nil ?_
      | refine CV.region callees ?_
      | fail
    refine ⟨_, _, _, _, _, q1.trans hg8, ?_⟩
    generalize hs9 : X.set l _ = X1
    have hg9 := set_get hs9
    have n9 := set_n hs9
    have o9 := set_old hs9
    have hqn := hM.lt
    obtain ⟨cs, hp1, hp2⟩ := hM.p
    have hrow : Ints X1 (pile p o.length) o := pile_row ((o9 p (by omega)).trans hp1) hp2 (by omega)
    have hcx : X1.get b0 = some (.cells (Chl mk lo hh sv) 26 1) := (o9 b0 (by omega)).trans (q4.trans hc8)
    have hmx := (o9 b1 (by omega)).trans q2
    have hqx := (o9 q (by omega)).trans q3
    have hlx := (o9 b2 (by omega)).trans (q5.trans hl8)
    have hsx : RowS 4 X1 sv (ls.map Lkl) := hr.keep ⟨by have := q7.1; omega, fun p hp => (o9 p (by omega)).trans (q7.2 p hp)⟩
    repeat' first
      | refine CO.cons rfl ?_
      | refine CV.seq ?_
      | refine CV.region callees ?_
      | refine CV.block ?_
      | (refine ⟨_, ldCh hcx, ?_⟩)
      | fail
    refine (eventsOf_spec (by omega) hsx hls hrow (by omega) ho2.mem hkl0 (by omega) (by omega) hkh).mono ?_
    rintro ev X2 ⟨hev, kE⟩
    have lE := kE.1
    have hev2 := hev.row
    have hevB : ∀ c, blkOf ev = some c → X1.n ≤ c := fun c hc => (hev.lt hc).1
    have hEn : (evsL mk lo hh ls o).length = o.length + 1 := evs_len
    have hEk := evs_kin (mk := mk) (lo := lo) (hi := hh) ho2.mem
    have hdl := dayF_len (mk := mk) (lo := lo) (hi := hh) (ls := ls) (S := S)
    rw [dayF_snoc]
    unfold dayO
    generalize evsL mk lo hh ls o = E at hev2 hEn hEk ⊢
    generalize dayF mk lo hh ls S = st0 at hmx hqx hdl ⊢
    repeat' first
      | refine CO.cons rfl ?_
      | refine CO.nil ?_
      | refine CV.block ?_
      | (refine ⟨_, ev_len hev2, ?_⟩)
      | fail
    refine CV.loopc ?_
    refine WCv.rounds callees false (α := Nat × DSt) (fun (i, st) => [(1, .pointer (some ⟨b0, 0, none⟩)), (2, .pointer (some ⟨b1, 0, none⟩)), (3, .pointer (some ⟨b2, 0, none⟩)), (28, ev), (29, VI E.length), (30, VI i)]) (fun (i, st) Hz => i ≤ E.length ∧ st = (E.take i).foldl putE st0 ∧ st.2.length = ls.length ∧ Hz.get b1 = some (.cells (Spl st.1) sT 1) ∧ Hz.get q = some (.cells (SpC st.2) sT 2) ∧ X2.n ≤ Hz.n ∧ ∀ x, x < X2.n → x ≠ b1 → x ≠ q → Hz.get x = X2.get x) (fun (i, st) => E.length - i) (0, st0) (by repeat' first | exact trivial | refine ⟨rfl, ?_⟩ | refine ⟨slot_int (by (try simp only [Int.toNat_natCast]); omega), ?_⟩) ?_ ?_
    · exact ⟨by omega, rfl, hdl, (kE.2 b1 (by omega)).trans hmx, (kE.2 q (by omega)).trans hqx, Nat.le_refl _, fun x _ _ _ => rfl⟩
    rintro ⟨i, st⟩ Hx ⟨hi, hst, hsl, hmy, hqy, ly, hfr⟩ hBx
    have hev3 : RowS 4 Hx ev (E.map Evl) := by
      refine ⟨hev2.1, ?_⟩
      rcases hev2.2 with h | h | ⟨bb, ii, cc, css, ee, kd, h1, h2, h3, h4⟩
      · exact .inl h
      · exact .inr (.inl h)
      · have hbb : X1.n ≤ bb := hevB bb (by rw [h1]; rfl)
        exact .inr (.inr ⟨bb, ii, cc, css, ee, kd, h1, by omega, by rw [hfr bb h2 (by omega) (by omega)]; exact h3, h4⟩)
    have hly := (hfr b2 (by omega) (by omega) (by omega)).trans ((kE.2 b2 (by omega)).trans hlx)
    by_cases hi2 : i < E.length
    · have hEi := hEk E[i]! (by rw [getElem!_pos E i hi2]; exact List.getElem_mem _)
      have htk : E.take (i + 1) = E.take i ++ [E[i]!] := one_at hi2
      obtain ⟨e, he⟩ : ∃ e, E[i]! = e := ⟨_, rfl⟩
      have hade := ev_addr hev3 (n := (i : Int)) (by omega) (by omega)
      have hlde := ev_load hev3 hi2
      rw [he] at hEi htk hlde
      have hnew : (E.take (i + 1)).foldl putE st0 = putE st e := by rw [htk, List.foldl_append, ← hst]; rfl
      repeat' first
        | refine CO.cons rfl ?_
        | refine CO.nil ?_
        | refine CV.seq ?_
        | refine CV.region callees ?_
        | refine CV.cond ?_
        | refine CV.block ?_
        | refine CV.skip ?_
        | (refine ⟨_, hade, ?_⟩)
        | (refine ⟨_, hlde, ?_⟩)
        | (refine ⟨_, _, alEv, ?_⟩)
        | (refine ⟨fun _ => ?_, fun _ => ?_⟩ <;> first | (exfalso; omega) | skip)
        | fail
      generalize hs4 : Heap.new Hx _ = H4
      have hg4 := new_get hs4
      have k4 := new_keep hs4
      have n4 := new_n hs4
      obtain ⟨b4, hbn4⟩ : ∃ b, Heap.n Hx = b := ⟨_, rfl⟩
      rw [hbn4] at hg4 n4 ⊢
      repeat' first
        | fail
      refine ⟨_, _, stEv hg4, by omega, ?_⟩
      generalize hs5 : Heap.set H4 b4 _ = H5
      have hg5 : H5.get b4 = some (.cells (Evl e) 124 1) := set_get hs5
      have n5 := set_n hs5
      have o5 := set_old hs5
      have hm5 := (o5 b1 (by omega)).trans ((k4.2 b1 (by omega)).trans hmy)
      have hq5 := (o5 q (by omega)).trans ((k4.2 q (by omega)).trans hqy)
      have hl5 := (o5 b2 (by omega)).trans ((k4.2 b2 (by omega)).trans hly)
      have hk5 : Keep Hx H5 := keep_put k4 (by omega) o5 n5
      by_cases hek : e.k = -1
      · have hpe : putE st e = ((min st.1.1 e.lo, max st.1.2 e.hi), st.2) := by unfold putE; rw [if_pos hek]
        repeat' first
          | refine CO.cons rfl ?_
          | refine CO.nil ?_
          | refine CV.seq ?_
          | refine CV.region callees ?_
          | refine CV.cond ?_
          | refine CV.skip ?_
          | (refine ⟨_, fS foE0 (by decide), ?_⟩)
          | (refine ⟨_, cell_load ag3 hg5 rfl, ?_⟩)
          | (refine ⟨fun _ => ?_, fun _ => ?_⟩ <;> first | (exfalso; omega) | skip)
          | fail
        refine CV.wideR callees (by decide +kernel) [(0, []), (1, []), (2, []), (3, []), (4, []), (5, []), (6, []), (7, []), (8, []), (9, []), (10, []), (11, []), (12, []), (13, []), (14, []), (15, []), (16, []), (17, []), (18, []), (19, []), (20, [17, 16]), (21, []), (22, []), (23, [])] (by kernel_rfl) ?_
        repeat' first
          | refine CR.cons ?_
          | refine ⟨_, fun tm ha => step1_max rfl (ev_tmp ha rfl) (ev_tmp ha rfl), ?_⟩
          | refine ⟨_, fun tm ha => step1_min rfl (ev_tmp ha rfl) (ev_tmp ha rfl), ?_⟩
          | (refine ⟨_, fS foS0 (by decide), ?_⟩)
          | (refine ⟨_, fS foS1 (by decide), ?_⟩)
          | (refine ⟨_, fS foE2 (by decide), ?_⟩)
          | (refine ⟨_, cell_load ag3 hm5 rfl, ?_⟩)
          | (refine ⟨_, cell_load ag3 hg5 rfl, ?_⟩)
          | fail
        refine ⟨_, _, store_row (i := 0 + 0) sz3 hm5 (Nat.le_of_ble_eq_true rfl) rfl, by omega, ?_⟩
        generalize hs6 : Heap.set H5 b1 _ = H6
        have hg6 : H6.get b1 = some (.cells (Spl (min st.1.1 e.lo, st.1.2)) sT 1) := set_get hs6
        have n6 := set_n hs6
        have o6 := set_old hs6
        have he6 := (o6 b4 (by omega)).trans hg5
        repeat' first
          | refine CR.cons ?_
          | refine ⟨_, fun tm ha => step1_max rfl (ev_tmp ha rfl) (ev_tmp ha rfl), ?_⟩
          | (refine ⟨_, cell_load ag3 he6 rfl, ?_⟩)
          | (refine ⟨(rfl : _ = VI _), ?_⟩)
          | (refine ⟨same_int, ?_⟩)
          | (refine ⟨_, (rfl : nilOk _ = some _), ?_⟩)
          | (refine ⟨_, fS foS1 (by decide), ?_⟩)
          | fail
        refine ⟨_, _, store_row (i := 0 + 1) sz3 hg6 (Nat.le_of_ble_eq_true rfl) rfl, by omega, ?_⟩
        generalize hs7 : Heap.set H6 b1 _ = H7
        have hg7 : H7.get b1 = some (.cells (Spl (min st.1.1 e.lo, max st.1.2 e.hi)) sT 1) := set_get hs7
        have n7 := set_n hs7
        have o7 := set_old hs7
        repeat' first
          | refine CO.cons rfl ?_
          | refine CO.nil ?_
          | refine CV.region callees ?_
          | refine CR.nil ?_
          | refine ⟨(⟨by omega, by omega⟩ : inI64 _), ?_⟩
          | fail
        refine ⟨(i + 1, putE st e), (by repeat' first | exact trivial | refine ⟨rfl, ?_⟩ | refine ⟨slot_int (by (try simp only [Int.toNat_natCast]); omega), ?_⟩), (by (try dsimp only); omega), ?_⟩
        refine ⟨by omega, hnew.symm, by rw [putE_len, hsl], by rw [hpe]; exact hg7, by rw [hpe]; exact (o7 q (by omega)).trans ((o6 q (by omega)).trans hq5), by omega, fun x h1 h2 h3 => (o7 x h2).trans ((o6 x h2).trans ((hk5.2 x (by omega)).trans (hfr x h1 h2 h3)))⟩
      · have hek2 : 0 ≤ e.k ∧ e.k < ls.length := by omega
        have hpe : putE st e = (st.1, st.2.set e.k.toNat (min (st.2[e.k.toNat]!).1 e.lo, max (st.2[e.k.toNat]!).2 e.hi)) := by unfold putE; rw [if_neg hek]
        obtain ⟨z, hz⟩ : ∃ z : Nat, e.k = (z : Int) := ⟨e.k.toNat, by omega⟩
        have hzl : z < st.2.length := by omega
        rw [hz] at hpe hek hek2
        rw [Int.toNat_natCast] at hpe
        have hadr : aindexAddr Try.prog sS (.slice (some ⟨q, 0, none⟩) ls.length 0) (VI e.k) = some (.pointer (some ⟨q, z * 2, none⟩)) := by rw [hz]; exact sp_adr (by omega) (by omega)
        have hc0 := spc_at0 hzl
        have hc1 := spc_at1 hzl
        repeat' first
          | refine CO.cons rfl ?_
          | refine CO.nil ?_
          | refine CV.seq ?_
          | refine CV.region callees ?_
          | refine CV.cond ?_
          | (refine ⟨_, fS foE0 (by decide), ?_⟩)
          | (refine ⟨_, cell_load ag3 hg5 rfl, ?_⟩)
          | (refine ⟨_, cell_load agSs hl5 rfl, ?_⟩)
          | (refine ⟨_, hadr, ?_⟩)
          | (refine ⟨fun _ => ?_, fun _ => ?_⟩ <;> first | (exfalso; omega) | skip)
          | fail
        refine CV.wideR callees (by decide +kernel) [(0, []), (1, []), (2, []), (3, []), (4, []), (5, []), (6, []), (7, []), (8, []), (9, []), (10, []), (11, []), (12, []), (13, []), (14, []), (15, []), (16, []), (17, []), (18, []), (19, []), (20, [17, 16]), (21, []), (22, []), (23, [])] (by kernel_rfl) ?_
        repeat' first
          | refine CR.cons ?_
          | refine ⟨_, fun tm ha => step1_max rfl (ev_tmp ha rfl) (ev_tmp ha rfl), ?_⟩
          | refine ⟨_, fun tm ha => step1_min rfl (ev_tmp ha rfl) (ev_tmp ha rfl), ?_⟩
          | (refine ⟨_, fS foS0 (by decide), ?_⟩)
          | (refine ⟨_, fS foS1 (by decide), ?_⟩)
          | (refine ⟨_, fS foE2 (by decide), ?_⟩)
          | (refine ⟨_, cell_load ag3 hq5 hc0, ?_⟩)
          | (refine ⟨_, cell_load ag3 hq5 hc1, ?_⟩)
          | (refine ⟨_, cell_load ag3 hg5 rfl, ?_⟩)
          | fail
        refine ⟨_, _, store_row (i := z * 2 + 0) sz3 hq5 (by rw [spc_len]; omega) rfl, by omega, ?_⟩
        rw [spc_set0 hzl]
        generalize hs6 : Heap.set H5 q _ = H6
        have hg6 : H6.get q = some (.cells (SpC (st.2.set z (min (st.2[z]!).1 e.lo, (st.2[z]!).2))) sT 2) := set_get hs6
        have n6 := set_n hs6
        have o6 := set_old hs6
        have he6 := (o6 b4 (by omega)).trans hg5
        have hzl6 : z < (st.2.set z (min (st.2[z]!).1 e.lo, (st.2[z]!).2)).length := by rw [List.length_set]; exact hzl
        repeat' first
          | refine CR.cons ?_
          | refine ⟨_, fun tm ha => step1_max rfl (ev_tmp ha rfl) (ev_tmp ha rfl), ?_⟩
          | (refine ⟨_, cell_load ag3 he6 rfl, ?_⟩)
          | (refine ⟨(rfl : _ = VI _), ?_⟩)
          | (refine ⟨same_int, ?_⟩)
          | (refine ⟨_, (rfl : nilOk _ = some _), ?_⟩)
          | (refine ⟨_, fS foS1 (by decide), ?_⟩)
          | fail
        refine ⟨_, _, store_row (i := z * 2 + 1) sz3 hg6 (by rw [spc_len]; omega) rfl, by omega, ?_⟩
        have hfin : (SpC (st.2.set z (min (st.2[z]!).1 e.lo, (st.2[z]!).2))).set (z * 2 + 1) (VI (max (st.2[z]!).2 e.hi)) = SpC (st.2.set z (min (st.2[z]!).1 e.lo, max (st.2[z]!).2 e.hi)) := by
          rw [spc_set1 hzl6, List.set_set]
          rw [getElem!_pos _ z hzl6, List.getElem_set_self]
        rw [hfin]
        generalize hs7 : Heap.set H6 q _ = H7
        have hg7 : H7.get q = some (.cells (SpC (st.2.set z (min (st.2[z]!).1 e.lo, max (st.2[z]!).2 e.hi))) sT 2) := set_get hs7
        have n7 := set_n hs7
        have o7 := set_old hs7
        repeat' first
          | refine CO.cons rfl ?_
          | refine CO.nil ?_
          | refine CV.region callees ?_
          | refine CR.nil ?_
          | refine ⟨(⟨by omega, by omega⟩ : inI64 _), ?_⟩
          | fail
        refine ⟨(i + 1, putE st e), (by repeat' first | exact trivial | refine ⟨rfl, ?_⟩ | refine ⟨slot_int (by (try simp only [Int.toNat_natCast]); omega), ?_⟩), (by (try dsimp only); omega), ?_⟩
        refine ⟨by omega, hnew.symm, by rw [putE_len, hsl], by rw [hpe]; exact (o7 b1 (by omega)).trans ((o6 b1 (by omega)).trans hm5), by rw [hpe]; exact hg7, by omega, fun x h1 h2 h3 => (o7 x h3).trans ((o6 x h3).trans ((hk5.2 x (by omega)).trans (hfr x h1 h2 h3)))⟩
    obtain rfl : i = E.length := by omega
    rw [List.take_length] at hst
    have hold : ∀ x, x < X.n → x ≠ l → x ≠ b1 → x ≠ q → Hx.get x = X.get x := fun x h1 h2 h3 h4 => (hfr x (by omega) h3 h4).trans ((kE.2 x (by omega)).trans (o9 x h2))
    have hlz := (hfr l (by omega) (by omega) (by omega)).trans ((kE.2 l (by omega)).trans hg9)
    rw [← hst]
    repeat' first
      | refine CO.cons rfl ?_
      | refine CO.nil ?_
      | refine CV.seq ?_
      | refine CV.region callees ?_
      | refine CV.cond ?_
      | refine CV.exit ?_
      | (refine ⟨fun _ => ?_, fun _ => ?_⟩ <;> first | (exfalso; omega) | skip)
      | fail
    refine ⟨_, _, _, _, _, _, _, hlz, rfl, .inl ⟨rfl, ⟨?_, ?_, ?_, ?_, ?_, ?_, ?_, ?_, q9⟩, ?_⟩, ?_⟩
    · rw [Heap.get_set_eq]; exact hg8.symm
    · rw [Heap.get_set_ne _ _ (by omega)]; exact hmy
    · rw [Heap.get_set_ne _ _ (by omega)]; exact hqy
    · rw [Heap.get_set_ne _ _ (by omega)]; exact (hold b0 (by omega) (by omega) (by omega) (by omega)).trans q4
    · rw [Heap.get_set_ne _ _ (by omega)]; exact (hold b2 (by omega) (by omega) (by omega) (by omega)).trans q5
    · rw [Heap.get_set_ne _ _ (by omega)]; exact (hold c (by omega) (by omega) (by omega) (by omega)).trans q6
    · exact ⟨by show H.n ≤ Hx.n; omega, fun x hx => by rw [Heap.get_set_ne _ _ (by omega)]; exact (hold x (by omega) (by omega) (by omega) (by omega)).trans (q7.2 x hx)⟩
    · show H8.n ≤ Hx.n; omega
    · intro x hx
      rw [Heap.get_set_ne _ _ (by omega)]; exact hold x (by omega) (by omega) (by omega) (by omega)
    · show X.n ≤ Hx.n; omega
  rintro _ HZ ⟨⟨p, q1, q2, q3, q4, q5, q6, q7, q8, q9⟩ | hf, lZ⟩
  rotate_left
  · exact hf.elim
  refine ⟨_, _, _, _, _, _, _, q1.trans hg8, rfl, rfl, ?_⟩
  generalize hsZ : HZ.set l _ = HY
  have nZ := set_n hsZ
  have oZ := set_old hsZ
  have hmY := (oZ b1 (by omega)).trans q2
  have hqY := (oZ q (by omega)).trans q3
  have hlY := (oZ b2 (by omega)).trans (q5.trans hl8)
  have kY : Keep H HY := ⟨by have := q7.1; omega, fun p hp => (oZ p (by omega)).trans (q7.2 p hp)⟩
  have hdl := dayF_len (mk := mk) (lo := lo) (hi := hh) (ls := ls) (S := ordersL mk lo ls)
  generalize dayF mk lo hh ls (ordersL mk lo ls) = st at *
  repeat' first
    | refine CV.seq ?_
    | refine CR.cons ?_
    | refine CV.wideR callees (by decide +kernel) [(0, []), (1, []), (2, [1]), (3, []), (4, [])] (by kernel_rfl) ?_
    | (refine ⟨_, ldSp hmY, ?_⟩)
    | (refine ⟨_, cell_load agSs hlY rfl, ?_⟩)
    | (refine ⟨(show b2 ≠ b1 by omega), ?_⟩)
    | fail
  refine ⟨_, _, stSp hmY, by omega, ?_⟩
  generalize hs9 : Heap.set HY b1 _ = H9
  have hg9 : H9.get b1 = some (.cells (Spl st.1) sT 1) := set_get hs9
  have n9 := set_n hs9
  have o9 := set_old hs9
  have hl9 := (o9 b2 (by omega)).trans hlY
  have hq9 := (o9 q (by omega)).trans hqY
  repeat' first
    | refine CR.cons ?_
    | fail
  refine ⟨_, _, var_store szSs hl9 rfl, by omega, ?_⟩
  generalize hsB : Heap.set H9 b2 _ = HB
  have hgB : HB.get b2 = some (.cells ([.slice (some ⟨q, 0, none⟩) ls.length 0]) sS 1) := set_get hsB
  have nB := set_n hsB
  have oB := set_old hsB
  have hmB := (oB b1 (by omega)).trans hg9
  have hqB := (oB q (by omega)).trans hq9
  repeat' first
    | refine CV.ret ?_
    | refine CR.cons ?_
    | refine CR.nil ?_
    | fail
  have hrow : RowS 2 HB (.slice (some ⟨q, 0, none⟩) ls.length 0) (st.2.map Spl) := by
    refine ⟨spl_two, .inr (.inr ⟨q, 0, 0, _, sT, 2, by rw [List.length_map, hdl], by omega, hqB, by decide, ?_, fun j k r w hj hk => ?_⟩)⟩
    · rw [List.length_map]; show 0 + st.2.length * 2 ≤ (SpC st.2).length; rw [spc_len]; omega
    · rw [Nat.zero_add]; exact flat_at spl_two hj hk
  exact ⟨_, ldSp hmB, _, cell_load agSs hgB rfl, rfl, ⟨_, st.1.1, st.1.2, st.2, rfl, hrow, rfl⟩, keep_put (keep_put kY (by omega) o9 n9) (by omega) oB nB⟩
end Go.Proofs.Ytijimplcjaeneaa

