
/- StoreNarrows. -/
import Derived.Test.Ytijimplcjaeneaai9o
set_option linter.unusedVariables false
set_option linter.unusedSimpArgs false
namespace Go.Proofs.Ytijimplcjaeneaa
open Go.AI
theorem linkB {ls : List Lk} (h : linksE ls = 0) : ∀ i, i < ls.length → 0 ≤ ls[i]!.lo ∧ ls[i]!.lo ≤ ls[i]!.hi ∧ ls[i]!.hi ≤ 100000 := fun i hi => by
  have := linkE_bd (linksE_all h ls[i]! (by rw [getElem!_pos ls i hi]; exact List.getElem_mem _))
  omega
theorem sp_alen {H : Heap} {v : Value} {ps : List (Int × Int)} (h : RowS 2 H v (ps.map Spl)) : alen Try.prog H sS v = some (VI ps.length) := by
  have := h.alen unSs2; rwa [List.length_map] at this
theorem sp_addr {H : Heap} {v : Value} {ps : List (Int × Int)} (h : RowS 2 H v (ps.map Spl)) {n : Int} (h0 : 0 ≤ n) (h1 : n < ps.length) : aindexAddr Try.prog sS v (.int .i64 n) = some (elemS v 2 n.toNat) := h.addr unSs2 szSp h0 (by rw [List.length_map]; exact h1)
theorem sp_load {H : Heap} {v : Value} {ps : List (Int × Int)} (h : RowS 2 H v (ps.map Spl)) {j : Nat} (hj : j < ps.length) : aload Try.prog sT H (elemS v 2 j) = some (Spv ps[j]!.1 ps[j]!.2) := h.load agSp szSp (spl_at hj)
set_option maxHeartbeats 32000000 in
set_option maxRecDepth 100000 in
theorem narrows_spec {v : Value} {H : Heap} {nums : List Int} (hv : Ints H v nums) (hx : nums.length ≤ 9223372036854775807) :
    CallB Try.prog H.n 10 [v] H (fun r _ => r = .bool true) := by
  have hn : H.n ≤ H.n := Nat.le_refl _
  refine CV.enter callees false rfl Try.func10 rfl (by kernel_rfl) (Nat.le_of_ble_eq_true rfl) hn ?_
  repeat' first
    | refine CO.cons rfl ?_
    | refine CO.nil ?_
    | refine CV.seq ?_
    | refine CV.region callees ?_
    | fail
  refine (boxOf_spec hn hv hx).mono ?_
  rintro r H1 ⟨⟨b, rfl, hb, hbox⟩, k1⟩
  have l1 := k1.1
  have hbn := hbox.1
  repeat' first
    | refine CO.cons rfl ?_
    | refine CO.nil ?_
    | refine CV.seq ?_
    | refine CV.region callees ?_
    | fail
  refine (chainOf_spec (most := 6) (st := 5) (wd := 4) hb l1 hbox (by omega) (by omega) (by omega) (by omega)).mono ?_
  rintro r H2 ⟨⟨mk, lo, hh, sv, ls, rfl, hs, hcm⟩, hb2, x2⟩
  have l2 := x2.1
  have hc := hcm.ok (by omega)
  have hk := chOk_of hc
  have hls7 := hk.ok.n
  have hk0 := hk.l0
  have hk1 := hk.l1
  have hkh := hk.h1
  have hlb := linkB hk.e
  repeat' first
    | refine CO.cons rfl ?_
    | (refine ⟨_, _, alCh, ?_⟩)
    | fail
  generalize hs3 : Heap.new H2 _ = H3
  have hg3 := new_get hs3
  have k3 := new_keep hs3
  have n3 := new_n hs3
  obtain ⟨b3, hbn3⟩ : ∃ b, Heap.n H2 = b := ⟨_, rfl⟩
  rw [hbn3] at hg3 n3 ⊢
  repeat' first
    | fail
  refine ⟨_, _, stCh hg3 (OwnS.oneC hs), by omega, ?_⟩
  generalize hs4 : Heap.set H3 b3 _ = H4
  have hg4 : H4.get b3 = some (.cells (Chl mk lo hh sv) 26 1) := set_get hs4
  have n4 := set_n hs4
  have o4 := set_old hs4
  have k24 : Keep H2 H4 := keep_put k3 (by omega) o4 n4
  have hb4 := hb2.keep k24
  have l4 := k24.1
  have hs4 : RowS 4 H4 sv (ls.map Lkl) := (OwnS.row hs).keep k24
  repeat' first
    | refine CO.cons rfl ?_
    | refine CO.nil ?_
    | refine CV.seq ?_
    | refine CV.region callees ?_
    | (refine ⟨_, ldCh hg4, ?_⟩)
    | fail
  refine (ownChain_spec (by omega) hs4 (by omega)).mono ?_
  rintro r H5 ⟨⟨qv, rfl, hq5⟩, k5⟩
  have l5 := k5.1
  have hb5 := hb4.keep k5
  repeat' first
    | refine CO.cons rfl ?_
    | fail
  refine (up_spec hb (by omega) hb5 (by omega)).mono ?_
  rintro r H6 ⟨⟨day, rfl, day1, day2⟩, hb6, x6⟩
  have l6 := x6.1
  have hb5n := hb5.1
  have hb4n := hb4.1
  have hq6 : OwnLk H6 qv ls H4.n := OwnS.boxed hq5 x6 hb5
  have hs6 : RowS 4 H6 sv (ls.map Lkl) := by obtain ⟨_, w, hw⟩ := hb5; exact (hs4.keep k5).keepX x6 hw
  have hg6 := (x6.2 b3 (by omega) (by omega)).trans ((k5.2 b3 (by omega)).trans hg4)
  repeat' first
    | refine CO.cons rfl ?_
    | (refine ⟨_, _, alCh, ?_⟩)
    | fail
  generalize hs7 : Heap.new H6 _ = H7
  have hg7 := new_get hs7
  have k7 := new_keep hs7
  have n7 := new_n hs7
  obtain ⟨b7, hbn7⟩ : ∃ b, Heap.n H6 = b := ⟨_, rfl⟩
  rw [hbn7] at hg7 n7 ⊢
  repeat' first
    | fail
  refine ⟨_, _, stCh hg7 (OwnS.oneC hq6), by omega, ?_⟩
  generalize hs8 : Heap.set H7 b7 _ = H8
  have hg8 : H8.get b7 = some (.cells (Chl mk lo hh qv) 26 1) := set_get hs8
  have n8 := set_n hs8
  have o8 := set_old hs8
  have k68 : Keep H6 H8 := keep_put k7 (by omega) o8 n8
  have hb8 := hb6.keep k68
  have hq8 := OwnS.keep hq6 k68
  have hs8 := hs6.keep k68
  have hg8c := (k68.2 b3 (by omega)).trans hg6
  have l8 := k68.1
  repeat' first
    | refine CO.cons rfl ?_
    | refine CO.nil ?_
    | refine CV.seq ?_
    | refine CV.region callees ?_
    | (refine ⟨_, fS foC1 (by decide), ?_⟩)
    | (refine ⟨_, ldChS hg8c, ?_⟩)
    | fail
  refine (part_spec hb (by omega) hb8 hk0 hk1 (by omega)).mono ?_
  rintro r H9 ⟨⟨x, y, rfl, p1, p2, p3⟩, hb9, x9⟩
  have l9 := x9.1
  have hb8n := hb8.1
  have hq9 : OwnLk H9 qv ls H4.n := OwnS.boxed hq8 x9 hb8
  have hs9 : RowS 4 H9 sv (ls.map Lkl) := by obtain ⟨_, w, hw⟩ := hb8; exact hs8.keepX x9 hw
  have hg9c := (x9.2 b3 (by omega) (by omega)).trans hg8c
  have hg9i := (x9.2 b7 (by omega) (by omega)).trans hg8
  repeat' first
    | refine CO.cons rfl ?_
    | (refine ⟨_, fS foC1 (by decide), ?_⟩)
    | fail
  refine ⟨_, _, stChS hg9i, by omega, ?_⟩
  generalize hsA : Heap.set H9 b7 _ = HA
  have hgA : HA.get b7 = some (.cells (Chl mk x y qv) 26 1) := set_get hsA
  have nA := set_n hsA
  have oA := set_old hsA
  have kxA : KeepX b7 H9 HA := ⟨by omega, fun c hc hcl => oA c hcl⟩
  have hbA := hb9.put (by omega) oA nA
  have hqA : OwnLk HA qv ls H4.n := OwnS.keepX hq9 kxA hg9i
  have hsA : RowS 4 HA sv (ls.map Lkl) := RowS.keepX hs9 kxA hg9i
  have hgAc := (oA b3 (by omega)).trans hg9c
  obtain ⟨n4, hn4⟩ : ∃ n, H4.n = n := ⟨_, rfl⟩
  rw [hn4] at hqA
  have hord : b < b3 ∧ b3 < n4 ∧ n4 ≤ b7 ∧ b7 < HA.n ∧ H.n ≤ b := ⟨by omega, by omega, by omega, by omega, by omega⟩
  have hsvb : ∀ c, (∃ i n m, sv = .slice (some ⟨c, i, none⟩) n m) → c < n4 := fun c ⟨i, n, m, h⟩ => by
    rcases hs.2 with ⟨h1, _⟩ | ⟨b', h1, _, h2, _⟩
    · rw [h] at h1; cases h1
    · rw [h] at h1; cases h1; omega
  have hsvb2 : ∀ c, blkOf sv = some c → c < n4 := fun c hc' => by have := (hs.lt hc').2; omega
  clear hs hs4 hs6 hs8 hs9 hq5 hq6 hq8 hq9 hb2 hb4 hb5 hb6 hb8 hb9 hg3 hg4 hg6 hg7 hg8 hg8c hg9c hg9i kxA k1 k3 k7 k5 k24 k68 x2 x6 x9 o4 o8 oA hbox hn4
  repeat' first
    | refine CO.cons rfl ?_
    | refine CO.nil ?_
    | refine CV.seq ?_
    | refine CV.region callees ?_
    | refine CV.block ?_
    | fail
  refine CV.loopc ?_
  refine WCv.rounds callees false (α := Nat × List Lk) (fun (i, ms) => [(3, bp b), (4, .pointer (some ⟨b3, 0, none⟩)), (5, .pointer (some ⟨b7, 0, none⟩)), (6, VI day), (7, VI i)]) (fun (i, ms) Hz => i ≤ ls.length ∧ Nar ls ms ∧ OwnLk Hz qv ms n4 ∧ RowS 4 Hz sv (ls.map Lkl) ∧ Hz.get b3 = some (.cells (Chl mk lo hh sv) 26 1) ∧ Hz.get b7 = some (.cells (Chl mk x y qv) 26 1) ∧ Box b Hz ∧ (∀ c, blkOf qv = some c → c ≠ b7) ∧ b7 < Hz.n) (fun (i, ms) => ls.length - i) (0, ls) (by repeat' first | exact trivial | refine ⟨rfl, ?_⟩ | refine ⟨slot_int (by (try simp only [Int.toNat_natCast]); omega), ?_⟩) ?_ ?_
  · refine ⟨by omega, nar_self hk.e, hqA, hsA, hgAc, hgA, hbA, fun c hc' e => ?_, by omega⟩
    rcases hqA.2 with ⟨h1, _⟩ | ⟨b', h1, _, _, h4⟩
    · rw [h1] at hc'; cases hc'
    · rw [h1] at hc'; cases hc'
      rw [e, hgA] at h4
      have h5 := Option.some.inj h4
      injection h5 with _ _ h6
      omega
  clear hqA hsA hgAc hgA hbA
  rintro ⟨i, ms⟩ Hx ⟨hi, hnar, hq, hsx, hgc, hgi, hbx, hqb, lx⟩ hBx
  have hml := hnar.n
  by_cases hi2 : i < ls.length
  · have hqr := hq.row
    have hmi := hnar.l i hi2
    have hli := hlb i hi2
    have hbxn := hbx.1
    repeat' first
      | refine CO.cons rfl ?_
      | refine CO.nil ?_
      | refine CV.seq ?_
      | refine CV.region callees ?_
      | refine CV.cond ?_
      | refine CV.block ?_
      | refine CV.skip ?_
      | (refine ⟨_, fS foC2 (by decide), ?_⟩)
      | (refine ⟨_, cell_load agLs hgi rfl, ?_⟩)
      | (refine ⟨_, ls_len hqr, ?_⟩)
      | (refine ⟨fun _ => ?_, fun _ => ?_⟩ <;> first | (exfalso; omega) | skip)
      | fail
    refine (one_spec hb (by omega) hbx (by omega)).mono ?_
    rintro r H2 ⟨⟨w, rfl⟩, hb2, x2⟩
    have l2 := x2.1
    have hq2 : OwnLk H2 qv ms n4 := OwnS.boxed hq x2 hbx
    have hs2 : RowS 4 H2 sv (ls.map Lkl) := by obtain ⟨_, w, hw⟩ := hbx; exact hsx.keepX x2 hw
    have hgc2 := (x2.2 b3 (by omega) (by omega)).trans hgc
    have hgi2 := (x2.2 b7 (by omega) (by omega)).trans hgi
    cases w with
    | false =>
      repeat' first
        | refine CO.cons rfl ?_
        | refine CO.nil ?_
        | refine CV.region callees ?_
        | refine CV.cond ?_
        | refine CV.skip ?_
        | refine ⟨(⟨by omega, by omega⟩ : inI64 _), ?_⟩
        | fail
      refine ⟨(i + 1, ms), (by repeat' first | exact trivial | refine ⟨rfl, ?_⟩ | refine ⟨slot_int (by (try simp only [Int.toNat_natCast]); omega), ?_⟩), (by (try dsimp only); omega), ?_⟩
      exact ⟨by omega, hnar, hq2, hs2, hgc2, hgi2, hb2, hqb, by omega⟩
    | true =>
      have hq2r := hq2.row
      have hday := lk_day hq2r (i := i) (by omega)
      have hadr : aindexAddr Try.prog 24 qv (VI i) = some (elemS qv 4 i) := ls_addr hq2r (by omega) (by omega)
      have hb2n := hb2.1
      repeat' first
        | refine CO.nil ?_
        | refine CV.cond ?_
        | fail
      refine CV.mX callees (by decide +kernel) [(0, []), (1, []), (2, []), (3, []), (4, []), (5, []), (6, []), (7, []), (8, []), (9, []), (10, [1]), (11, []), (12, []), (13, [])] (by kernel_rfl) ?_
      repeat' first
        | refine CR.cons ?_
        | (refine ⟨_, fS foC2 (by decide), ?_⟩)
        | (refine ⟨_, cell_load agLs hgi2 rfl, ?_⟩)
        | (refine ⟨_, hadr, ?_⟩)
        | (refine ⟨_, hday.1, ?_⟩)
        | (refine ⟨_, hday.2, ?_⟩)
        | fail
      refine (part_spec hb (by omega) hb2 (by omega) (by omega) (by omega)).mono ?_
      rintro r H5 ⟨⟨x', y', rfl, p1', p2', p3'⟩, hb5, x5⟩
      have l5 := x5.1
      have hq5 : OwnLk H5 qv ms n4 := OwnS.boxed hq2 x5 hb2
      have hs5 : RowS 4 H5 sv (ls.map Lkl) := by obtain ⟨_, w, hw⟩ := hb2; exact hs2.keepX x5 hw
      have hgc5 := (x5.2 b3 (by omega) (by omega)).trans hgc2
      have hgi5 := (x5.2 b7 (by omega) (by omega)).trans hgi2
      repeat' first
        | refine CR.cons ?_
        | (refine ⟨_, cell_load agLs hgi5 rfl, ?_⟩)
        | (refine ⟨(rfl : _ = qv), ?_⟩)
        | (refine ⟨hq5.same, ?_⟩)
        | (refine ⟨_, hadr, ?_⟩)
        | (refine ⟨_, hday.1, ?_⟩)
        | fail
      refine lk_put hq5 (by omega) (by omega) ?_
      intro H6 hq6 kb6
      have l6 := kb6.le
      have hqlt : ∀ c, blkOf qv = some c → n4 ≤ c := fun c hc' => (hq5.lt hc').1
      repeat' first
        | refine CO.cons rfl ?_
        | refine CO.nil ?_
        | refine CV.region callees ?_
        | refine CR.nil ?_
        | refine ⟨(⟨by omega, by omega⟩ : inI64 _), ?_⟩
        | fail
      refine ⟨(i + 1, ms.set i ⟨ms[i]!.f, ms[i]!.t, x', y'⟩), (by repeat' first | exact trivial | refine ⟨rfl, ?_⟩ | refine ⟨slot_int (by (try simp only [Int.toNat_natCast]); omega), ?_⟩), (by (try dsimp only); omega), ?_⟩
      refine ⟨by omega, nar_set hnar hi2 p1' p2' p3', hq6, rowS_but hs5 kb6 (fun c hc' h => by have := hsvb2 c hc'; have := hqlt c h; omega), (kb6.get b3 (by omega) (fun h => by have := hqlt _ h; omega)).trans hgc5, (kb6.get b7 (by omega) (fun h => hqb _ h rfl)).trans hgi5, hb5.keepBut kb6 (fun h => by have := hqlt _ h; omega), hqb, by omega⟩
  obtain rfl : i = ls.length := by omega
  have hqr := hq.row
  have hchk := nar_chk hnar hc p1 p2 p3
  repeat' first
    | refine CO.cons rfl ?_
    | refine CO.nil ?_
    | refine CV.seq ?_
    | refine CV.region callees ?_
    | refine CV.cond ?_
    | refine CV.exit ?_
    | (refine ⟨_, fS foC2 (by decide), ?_⟩)
    | (refine ⟨_, cell_load agLs hgi rfl, ?_⟩)
    | (refine ⟨_, ls_len hqr, ?_⟩)
    | (refine ⟨_, ldCh hgi, ?_⟩)
    | (refine ⟨fun _ => ?_, fun _ => ?_⟩ <;> first | (exfalso; omega) | skip)
    | fail
  refine (checkChain_spec (by omega) hqr).mono ?_
  rcases hchk with hc2 | hc2
  rotate_left
  · rw [hc2]
    rintro r H2 ⟨rfl, k2⟩
    have l2 := k2.1
    repeat' first
      | refine CO.cons rfl ?_
      | refine CO.nil ?_
      | refine CV.seq ?_
      | refine CV.region callees ?_
      | refine CV.cond ?_
      | refine CO.consG rfl ?_
      | (refine ⟨fun _ => ?_, fun _ => ?_⟩ <;> first | (exfalso; omega) | skip)
      | fail
    refine (awake_spec (by omega)).mono ?_
    rintro r I5 ⟨rfl, j5⟩
    repeat' first
      | refine CO.cons rfl ?_
      | refine CO.nil ?_
      | refine CV.ret ?_
      | fail
    exact ⟨rfl, rfl⟩
  rw [hc2]
  rintro r H2 ⟨rfl, k2⟩
  have l2 := k2.1
  have hs2 := hsx.keep k2
  have hq2 := hqr.keep k2
  have hgc2 := (k2.2 b3 (by omega)).trans hgc
  have hgi2 := (k2.2 b7 (by omega)).trans hgi
  clear hsx hqr hgc hgi hbx hq hsvb hsvb2
  repeat' first
    | refine CO.cons rfl ?_
    | refine CO.nil ?_
    | refine CV.seq ?_
    | refine CV.region callees ?_
    | refine CV.cond ?_
    | refine CV.skip ?_
    | (refine ⟨_, ldCh hgc2, ?_⟩)
    | (refine ⟨fun _ => ?_, fun _ => ?_⟩ <;> first | (exfalso; omega) | skip)
    | fail
  refine (daysP_spec (by omega) hs2).mono ?_
  rw [if_pos hc, hc]
  rintro r H3 ⟨⟨lv, a, c, ps, rfl, hlv, hde⟩, k3⟩
  have l3 := k3.1
  have hgi3 := (k3.2 b7 (by omega)).trans hgi2
  have hgc3 := (k3.2 b3 (by omega)).trans hgc2
  repeat' first
    | refine CO.cons rfl ?_
    | (refine ⟨_, _, alSp, ?_⟩)
    | fail
  generalize hs4 : Heap.new H3 _ = H4
  have hg4 := new_get hs4
  have k4 := new_keep hs4
  have n4 := new_n hs4
  obtain ⟨b4, hbn4⟩ : ∃ b, Heap.n H3 = b := ⟨_, rfl⟩
  rw [hbn4] at hg4 n4 ⊢
  repeat' first
    | fail
  refine ⟨_, _, stSp hg4, by omega, ?_⟩
  generalize hs5 : Heap.set H4 b4 _ = H5
  have hg5 : H5.get b4 = some (.cells ([VI a, VI c]) sT 1) := set_get hs5
  have n5 := set_n hs5
  have o5 := set_old hs5
  have k35 : Keep H3 H5 := keep_put k4 (by omega) o5 n5
  have l5 := k35.1
  have hs5 := (hs2.keep k3).keep k35
  have hq5 := (hq2.keep k3).keep k35
  have hlv5 := hlv.keep k35
  have hgi5 := (k35.2 b7 (by omega)).trans hgi3
  have hgc5 := (k35.2 b3 (by omega)).trans hgc3
  repeat' first
    | refine CO.cons rfl ?_
    | refine CO.nil ?_
    | refine CV.seq ?_
    | refine CV.region callees ?_
    | (refine ⟨_, ldCh hgi5, ?_⟩)
    | fail
  refine (daysP_spec (by omega) hq5).mono ?_
  rw [if_pos hc2, hc2]
  rintro r H6 ⟨⟨pv, a', c', qs, rfl, hpv, hde'⟩, k6⟩
  have l6 := k6.1
  repeat' first
    | refine CO.cons rfl ?_
    | (refine ⟨_, _, alSp, ?_⟩)
    | fail
  generalize hsB : Heap.new H6 _ = HB
  have hgB := new_get hsB
  have kB := new_keep hsB
  have nB := new_n hsB
  obtain ⟨bB, hbnB⟩ : ∃ b, Heap.n H6 = b := ⟨_, rfl⟩
  rw [hbnB] at hgB nB ⊢
  repeat' first
    | fail
  refine ⟨_, _, stSp hgB, by omega, ?_⟩
  generalize hsC : Heap.set HB bB _ = HC
  have hgC : HC.get bB = some (.cells ([VI a', VI c']) sT 1) := set_get hsC
  have nC := set_n hsC
  have oC := set_old hsC
  have k6C : Keep H6 HC := keep_put kB (by omega) oC nC
  have k5C : Keep H5 HC := k6.trans k6C
  have lC := k5C.1
  have lC6 := k6C.1
  have hsC := hs5.keep k5C
  have hqC := hq5.keep k5C
  have hlvC := hlv5.keep k5C
  have hpvC := hpv.keep k6C
  have hgiC := (k5C.2 b7 (by omega)).trans hgi5
  have hgcC := (k5C.2 b3 (by omega)).trans hgc5
  have hmC := (k5C.2 b4 (by omega)).trans hg5
  clear hs5 hq5 hlv5 hpv hgi5 hgc5 hg5 hgB hlv hs2 hq2 hgc2 hgi2 hgc3 hgi3 hg4 k6C k5C k35
  repeat' first
    | refine CO.cons rfl ?_
    | refine CO.nil ?_
    | refine CV.seq ?_
    | refine CV.region callees ?_
    | (refine ⟨_, ldCh hgcC, ?_⟩)
    | fail
  refine (ordersP_spec (by omega) hsC).mono ?_
  rw [if_pos hc, hc]
  rintro r HD ⟨⟨av, ws, rfl, hav⟩, kD⟩
  have lD := kD.1
  have hgiD := (kD.2 b7 (by omega)).trans hgiC
  repeat' first
    | refine CO.cons rfl ?_
    | refine CO.nil ?_
    | refine CV.seq ?_
    | refine CV.region callees ?_
    | (refine ⟨_, ldCh hgiD, ?_⟩)
    | fail
  refine (ordersP_spec (by omega) (hqC.keep kD)).mono ?_
  rw [if_pos hc2, hc2]
  rintro r HE ⟨⟨tv, us, rfl, htv⟩, kE⟩
  have lE := kE.1
  have kCE := kD.trans kE
  have hgcE := (kCE.2 b3 (by omega)).trans hgcC
  have hd : inB day 0 100000 = true := by simp [inB]; omega
  have he0 : hoE mk lo hh ls day = 0 := by unfold hoE; rw [if_pos hc, hd]; rfl
  have hx0 : hoX mk lo hh ls day = hoL mk lo hh ls day := by unfold hoX; rw [if_pos hc, hd]; rfl
  have he1 : hoE mk x y ms day = 0 := by unfold hoE; rw [if_pos hc2, hd]; rfl
  have hx1 : hoX mk x y ms day = hoL mk x y ms day := by unfold hoX; rw [if_pos hc2, hd]; rfl
  repeat' first
    | refine CO.cons rfl ?_
    | refine CO.nil ?_
    | refine CV.seq ?_
    | refine CV.region callees ?_
    | (refine ⟨_, ldCh hgcE, ?_⟩)
    | fail
  refine (holders_spec (by omega) (hsC.keep kCE)).mono ?_
  rw [he0, hx0]
  rintro r HF ⟨⟨hv1, rfl, hp1⟩, kF⟩
  have lF := kF.1
  have kCF := kCE.trans kF
  have hgiF := (kCF.2 b7 (by omega)).trans hgiC
  repeat' first
    | refine CO.cons rfl ?_
    | refine CO.nil ?_
    | refine CV.seq ?_
    | refine CV.region callees ?_
    | (refine ⟨_, ldCh hgiF, ?_⟩)
    | fail
  refine (holders_spec (by omega) (hqC.keep kCF)).mono ?_
  rw [he1, hx1]
  rintro r HG ⟨⟨hv2, rfl, hp2⟩, kG⟩
  have lG := kG.1
  have kCG := kCF.trans kG
  have hmG := (kCG.2 b4 (by omega)).trans hmC
  have hnG := (kCG.2 bB (by omega)).trans hgC
  have hW := nar_days hnar (mk := mk) p1 p3
  have hpl := dayF_len (mk := mk) (lo := lo) (hi := hh) (ls := ls) (S := ordersL mk lo ls)
  rw [← hde] at hW hpl
  rw [← hde'] at hW
  have hpl : ps.length = ls.length := hpl
  have hql : qs.length = ps.length := hW.n
  have hWa : a ≤ a' := hW.a
  have hWb : c' ≤ c := hW.b
  have hWl := hW.l
  dsimp only at hWl
  have hlvG := hlvC.keep kCG
  have hpvG := hpvC.keep kCG
  have havG := hav.keep ((kE.trans kF).trans kG)
  have htvG := htv.keep (kF.trans kG)
  have hp1G : Ints HG hv1 (hoL mk lo hh ls day) := (hp1.keep kG).row
  have hp2G : Ints HG hv2 (hoL mk x y ms day) := hp2.row
  have hPn := hoL_len (mk := mk) (lo := lo) (hh := hh) (ls := ls) (d := day)
  have hQn := hoL_len (mk := mk) (lo := x) (hh := y) (ls := ms) (d := day)
  have hQP : ∀ z ∈ hoL mk x y ms day, z ∈ hoL mk lo hh ls day := fun z hz => nar_holders hnar p1 p3 hz
  have hTS : ∀ o ∈ ordersL mk x ms, o ∈ ordersL mk lo ls := fun o ho => nar_orders hnar p1 ho
  have hSn := orders_len (mk := mk) (lo := lo) hk.ok.n
  have hTn := orders_len (mk := mk) (lo := x) (ls := ms) (by rw [hml]; exact hk.ok.n)
  have hol : ∀ o ∈ ordersL mk lo ls, o.length ≤ 7 := fun o ho => by have := (orders_mem.1 ho).1; omega
  clear hde hde' hW hsC hqC hlvC hpvC hgiC hgcC hmC hav htv hp1 hp2 hgiD hgcE hgiF kCE kCF kCG kD kE kF kG he0 hx0 he1 hx1 oC kB o5
  generalize hoL mk lo hh ls day = P at *
  generalize hoL mk x y ms day = Q at *
  generalize ordersL mk lo ls = S at *
  generalize ordersL mk x ms = T at *
  have hll : alen Try.prog HG sS lv = some (VI ps.length) := sp_alen hlvG
  have hlp : alen Try.prog HG sS pv = some (VI qs.length) := sp_alen hpvG
  repeat' first
    | refine CO.cons rfl ?_
    | refine CO.nil ?_
    | refine CV.seq ?_
    | refine CV.region callees ?_
    | refine CO.consG rfl ?_
    | (refine ⟨_, hll, ?_⟩)
    | (refine ⟨_, hlp, ?_⟩)
    | (refine ⟨_, ldSp hmG, ?_⟩)
    | (refine ⟨_, ldSp hnG, ?_⟩)
    | (refine ⟨fun _ => ?_, fun _ => ?_⟩ <;> first | (exfalso; omega) | skip)
    | fail
  refine (inside_spec (by omega)).mono ?_
  rw [show inS (a', c') (a, c) = true by simp [inS, hWa, hWb]]
  rintro r HI ⟨rfl, kI⟩
  have lI := kI.1
  repeat' first
    | refine CO.cons rfl ?_
    | refine CO.nil ?_
    | refine CV.seq ?_
    | refine CV.region callees ?_
    | refine CV.cond ?_
    | refine CV.block ?_
    | refine CV.skip ?_
    | refine CO.consG rfl ?_
    | fail
  refine CV.loopc ?_
  refine WCv.rounds callees false (α := Nat) (fun k => [(10, lv), (13, pv), (15, av), (17, tv), (19, hv1), (21, hv2), (23, VI k)]) (fun k Hz => k ≤ ps.length ∧ Keep HG Hz) (fun k => ps.length - k) (0) (by repeat' first | exact trivial | refine ⟨rfl, ?_⟩ | refine ⟨slot_int (by (try simp only [Int.toNat_natCast]); omega), ?_⟩) ?_ ?_
  · exact ⟨by omega, kI⟩
  rintro k Hx ⟨hk2, kx⟩ hBx
  have lx := kx.1
  have hlvx := hlvG.keep kx
  have hpvx := hpvG.keep kx
  have hlx : alen Try.prog Hx sS lv = some (VI ps.length) := sp_alen hlvx
  by_cases hk3 : k < ps.length
  · have a1 := sp_addr hlvx (n := (k : Int)) (by omega) (by omega)
    have a2 := sp_load hlvx hk3
    have a3 := sp_addr hpvx (n := (k : Int)) (by omega) (by omega)
    have a4 := sp_load hpvx (j := k) (by omega)
    have hwl := hWl k hk3
    repeat' first
      | refine CO.cons rfl ?_
      | refine CO.nil ?_
      | refine CV.seq ?_
      | refine CV.region callees ?_
      | refine CV.cond ?_
      | refine CV.block ?_
      | refine CV.skip ?_
      | refine CV.draw callees (by decide +kernel) ?_
      | refine CH.cons rfl ?_
      | refine CH.nil ?_
      | (refine ⟨_, hlx, ?_⟩)
      | (refine ⟨_, a1, ?_⟩)
      | (refine ⟨_, a2, ?_⟩)
      | (refine ⟨_, a3, ?_⟩)
      | (refine ⟨_, a4, ?_⟩)
      | (refine ⟨fun _ => ?_, fun _ => ?_⟩ <;> first | (exfalso; omega) | skip)
      | fail
    refine (inside_spec (by omega)).mono ?_
    rw [show inS (qs[k]!.1, qs[k]!.2) (ps[k]!.1, ps[k]!.2) = true by simp only [inS, decide_eq_true hwl.1, decide_eq_true hwl.2, Bool.and_self]]
    rintro r HJ ⟨rfl, kJ⟩
    repeat' first
      | refine CO.cons rfl ?_
      | refine CO.nil ?_
      | refine CV.region callees ?_
      | refine CV.cond ?_
      | refine CV.skip ?_
      | refine CH.cons rfl ?_
      | refine CH.nil ?_
      | refine ⟨(⟨by omega, by omega⟩ : inI64 _), ?_⟩
      | fail
    refine ⟨(k + 1), (by repeat' first | exact trivial | refine ⟨rfl, ?_⟩ | refine ⟨slot_int (by (try simp only [Int.toNat_natCast]); omega), ?_⟩), (by (try dsimp only); omega), ?_⟩
    exact ⟨by omega, kx.trans kJ⟩
  repeat' first
    | refine CO.cons rfl ?_
    | refine CO.nil ?_
    | refine CV.seq ?_
    | refine CV.region callees ?_
    | refine CV.cond ?_
    | refine CV.block ?_
    | refine CV.exit ?_
    | (refine ⟨_, hlx, ?_⟩)
    | (refine ⟨fun _ => ?_, fun _ => ?_⟩ <;> first | (exfalso; omega) | skip)
    | fail
  clear hk2 hk3 hlvx hpvx hlx
  refine CV.loopc ?_
  refine WCv.rounds callees false (α := Nat) (fun k => [(15, av), (17, tv), (19, hv1), (21, hv2), (24, VI k)]) (fun k Hz => k ≤ Q.length ∧ Keep HG Hz) (fun k => Q.length - k) (0) (by repeat' first | exact trivial | refine ⟨rfl, ?_⟩ | refine ⟨slot_int (by (try simp only [Int.toNat_natCast]); omega), ?_⟩) ?_ ?_
  · exact ⟨by omega, kx⟩
  clear kx lx
  rintro k Hx ⟨hk2, kx⟩ hBx
  have lx := kx.1
  have hp1x : Ints Hx hv1 P := Row.keep hp1G kx
  have hp2x : Ints Hx hv2 Q := Row.keep hp2G kx
  by_cases hk3 : k < Q.length
  · have hin := hQP Q[k]! (by rw [getElem!_pos Q k hk3]; exact List.getElem_mem _)
    repeat' first
      | refine CO.cons rfl ?_
      | refine CO.nil ?_
      | refine CV.seq ?_
      | refine CV.region callees ?_
      | refine CV.cond ?_
      | refine CV.block ?_
      | refine CV.skip ?_
      | refine ⟨_, ints_len (by assumption), ?_⟩
      | refine ⟨_, ints_addr (by assumption) (by omega) (by omega), ?_⟩
      | refine ⟨_, ints_load (by assumption) (by omega) (by omega), ?_⟩
      | (refine ⟨fun _ => ?_, fun _ => ?_⟩ <;> first | (exfalso; omega) | skip)
      | fail
    refine (has_spec (by omega) hp1x (by omega)).mono ?_
    rw [show decide (Q[(k : Int).toNat]! ∈ P) = true from decide_eq_true hin]
    rintro r HJ ⟨rfl, rfl⟩
    repeat' first
      | refine CO.cons rfl ?_
      | refine CO.nil ?_
      | refine CV.region callees ?_
      | refine CV.cond ?_
      | refine CV.skip ?_
      | refine ⟨(⟨by omega, by omega⟩ : inI64 _), ?_⟩
      | fail
    refine ⟨(k + 1), (by repeat' first | exact trivial | refine ⟨rfl, ?_⟩ | refine ⟨slot_int (by (try simp only [Int.toNat_natCast]); omega), ?_⟩), (by (try dsimp only); omega), ?_⟩
    exact ⟨by omega, kx⟩
  repeat' first
    | refine CO.cons rfl ?_
    | refine CO.nil ?_
    | refine CV.seq ?_
    | refine CV.region callees ?_
    | refine CV.cond ?_
    | refine CV.block ?_
    | refine CV.exit ?_
    | refine ⟨_, ints_len (by assumption), ?_⟩
    | (refine ⟨fun _ => ?_, fun _ => ?_⟩ <;> first | (exfalso; omega) | skip)
    | fail
  clear hk2 hk3 hp1x hp2x
  refine CV.loopc ?_
  refine WCv.rounds callees false (α := Nat) (fun k => [(15, av), (17, tv), (25, VI k)]) (fun k Hz => k ≤ T.length ∧ Keep HG Hz) (fun k => T.length - k) (0) (by repeat' first | exact trivial | refine ⟨rfl, ?_⟩ | refine ⟨slot_int (by (try simp only [Int.toNat_natCast]); omega), ?_⟩) ?_ ?_
  · exact ⟨by omega, kx⟩
  clear kx lx
  rintro k Hx ⟨hk2, kx⟩ hBx
  have lx := kx.1
  have htx := (htvG.keep kx).gri
  by_cases hk3 : k < T.length
  · have hin := hTS T[k]! (by rw [getElem!_pos T k hk3]; exact List.getElem_mem _)
    have hol2 := hol _ hin
    obtain ⟨o, ho⟩ : ∃ o, T[k]! = o := ⟨_, rfl⟩
    rw [ho] at hin hol2
    repeat' first
      | refine CO.cons rfl ?_
      | refine CO.nil ?_
      | refine CV.seq ?_
      | refine CV.region callees ?_
      | refine CV.cond ?_
      | refine CV.block ?_
      | refine CV.skip ?_
      | (refine ⟨_, htx.alen, ?_⟩)
      | (refine ⟨fun _ => ?_, fun _ => ?_⟩ <;> first | (exfalso; omega) | skip)
      | fail
    refine CV.loopc ?_
    refine WCv.rounds callees false (α := Nat × Bool) (fun (m, f) => [(15, av), (17, tv), (25, VI k), (26, .bool f), (27, VI m)]) (fun (m, f) Hz => m ≤ S.length ∧ f = decide (o ∈ S.take m) ∧ Keep HG Hz) (fun (m, f) => S.length - m) (0, false) (by repeat' first | exact trivial | refine ⟨rfl, ?_⟩ | refine ⟨slot_int (by (try simp only [Int.toNat_natCast]); omega), ?_⟩) ?_ ?_
    · exact ⟨by omega, by simp, kx⟩
    clear kx lx htx
    rintro ⟨m, f⟩ Hy ⟨hm, hf, ky⟩ hBy
    have ly := ky.1
    have hty := (htvG.keep ky).gri
    have hsy := (havG.keep ky).gri
    by_cases hm2 : m < S.length
    · have htk : S.take (m + 1) = S.take m ++ [S[m]!] := one_at hm2
      have b1 := hty.addr hk3
      have b2 := hty.load hk3
      have b3' := hsy.addr hm2
      have b4' := hsy.load hm2
      have hto := hty.ints k hk3
      rw [ho] at hto
      have hso := hsy.ints m hm2
      have hnx : decide (o ∈ S.take (m + 1)) = (f || decide (o = S[m]!)) := by
        rw [htk, hf]
        by_cases h1 : o ∈ S.take m <;> by_cases h2 : o = S[m]! <;> simp [h1, h2]
      cases f with
      | true =>
        repeat' first
          | refine CO.cons rfl ?_
          | refine CO.nil ?_
          | refine CV.seq ?_
          | refine CV.region callees ?_
          | refine CV.cond ?_
          | refine CV.block ?_
          | refine CV.skip ?_
          | refine CV.draw callees (by decide +kernel) ?_
          | refine CH.cons rfl ?_
          | refine CH.nil ?_
          | refine CH.consG rfl ?_
          | refine ⟨(⟨by omega, by omega⟩ : inI64 _), ?_⟩
          | (refine ⟨_, hsy.alen, ?_⟩)
          | (refine ⟨fun _ => ?_, fun _ => ?_⟩ <;> first | (exfalso; omega) | skip)
          | fail
        refine ⟨(m + 1, true), (by repeat' first | exact trivial | refine ⟨rfl, ?_⟩ | refine ⟨slot_int (by (try simp only [Int.toNat_natCast]); omega), ?_⟩), (by (try dsimp only); omega), ?_⟩
        exact ⟨by omega, by rw [hnx]; rfl, ky⟩
      | false =>
        repeat' first
          | refine CO.cons rfl ?_
          | refine CO.nil ?_
          | refine CV.seq ?_
          | refine CV.region callees ?_
          | refine CV.cond ?_
          | refine CV.block ?_
          | refine CV.skip ?_
          | refine CV.draw callees (by decide +kernel) ?_
          | refine CH.cons rfl ?_
          | refine CH.consG rfl ?_
          | (refine ⟨_, hsy.alen, ?_⟩)
          | (refine ⟨_, b1, ?_⟩)
          | (refine ⟨_, b2, ?_⟩)
          | (refine ⟨_, b3', ?_⟩)
          | (refine ⟨_, b4', ?_⟩)
          | (refine ⟨fun _ => ?_, fun _ => ?_⟩ <;> first | (exfalso; omega) | skip)
          | fail
        refine (eqInts_spec (by omega) hto hso (by omega)).mono ?_
        rintro r HJ ⟨rfl, kJ⟩
        repeat' first
          | refine CO.cons rfl ?_
          | refine CO.nil ?_
          | refine CV.region callees ?_
          | refine CH.cons rfl ?_
          | refine CH.nil ?_
          | refine ⟨(rfl : plain _ = true), ?_⟩
          | refine ⟨(⟨by omega, by omega⟩ : inI64 _), ?_⟩
          | fail
        refine ⟨(m + 1, decide (o = S[m]!)), (by repeat' first | exact trivial | refine ⟨rfl, ?_⟩ | refine ⟨slot_int (by (try simp only [Int.toNat_natCast]); omega), ?_⟩), (by (try dsimp only); omega), ?_⟩
        exact ⟨by omega, by rw [hnx]; rfl, ky⟩
    have hft : f = true := by
      rw [hf, show m = S.length by omega, List.take_length]
      exact decide_eq_true hin
    subst hft
    repeat' first
      | refine CO.cons rfl ?_
      | refine CO.nil ?_
      | refine CV.seq ?_
      | refine CV.region callees ?_
      | refine CV.cond ?_
      | refine CV.skip ?_
      | refine CV.exit ?_
      | refine ⟨(⟨by omega, by omega⟩ : inI64 _), ?_⟩
      | (refine ⟨_, hsy.alen, ?_⟩)
      | (refine ⟨fun _ => ?_, fun _ => ?_⟩ <;> first | (exfalso; omega) | skip)
      | fail
    refine ⟨(k + 1), (by repeat' first | exact trivial | refine ⟨rfl, ?_⟩ | refine ⟨slot_int (by (try simp only [Int.toNat_natCast]); omega), ?_⟩), (by (try dsimp only); omega), ?_⟩
    exact ⟨by omega, ky⟩
  repeat' first
    | refine CO.cons rfl ?_
    | refine CO.nil ?_
    | refine CV.seq ?_
    | refine CV.region callees ?_
    | refine CV.cond ?_
    | refine CV.exit ?_
    | (refine ⟨_, htx.alen, ?_⟩)
    | (refine ⟨fun _ => ?_, fun _ => ?_⟩ <;> first | (exfalso; omega) | skip)
    | fail
  refine (awake_spec (by omega)).mono ?_
  rintro r I5 ⟨rfl, j5⟩
  repeat' first
    | refine CO.cons rfl ?_
    | refine CO.nil ?_
    | refine CV.ret ?_
    | fail
  exact ⟨rfl, rfl⟩
end Go.Proofs.Ytijimplcjaeneaa
