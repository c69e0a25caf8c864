
/- The reference's dated: the walk. -/
import Derived.Test.Ytijimplcjaeneaal1o
set_option linter.unusedVariables false
set_option linter.unusedSimpArgs false
namespace Go.Proofs.Ytijimplcjaeneaa
open Go.AI
set_option maxHeartbeats 32000000 in
set_option maxRecDepth 100000 in
theorem dated_spec {B : Nat} {H : Heap} {mk lo hh : Int} {sv ov : Value} {ls : List Lk} {o : List Int} (hB : B ≤ H.n) (hr : RowS 4 H sv (ls.map Lkl)) (hls : LsOk ls) (ho : Ints H ov o) (hon : o.length ≤ 7) (hok : ∀ k ∈ o, 0 ≤ k ∧ k < ls.length) (h0 : 0 ≤ lo) (h1 : lo ≤ 100000) (h2 : 0 ≤ hh) (h3 : hh ≤ 100000) :
    CallB Try.prog B 135 [Chv mk lo hh sv, ov] H (fun v H' => (∃ x y, v = .tuple #[Stv (if okE (evsL mk lo hh ls o) = true then ov else nilS) x y, .bool (okE (evsL mk lo hh ls o))] ∧ (okE (evsL mk lo hh ls o) = true → Own 3 H' x ((leastL mk lo hh ls o).map VI) H.n ∧ Own 3 H' y ((mostL mk lo hh ls o).map VI) H.n) ∧ (okE (evsL mk lo hh ls o) = false → x = nilS ∧ y = nilS)) ∧ Keep H H') := by
  have hbd := evs0_bd (mk := mk) (hi := hh) hls hok h0 h1 h2 h3
  have hdb : ∀ j, j < o.length + 1 → -(8 : Int) ≤ (evsL mk lo hh ls o)[j]!.hi ∧ (evsL mk lo hh ls o)[j]!.hi ≤ 100000 := fun j hj => by
    have := downL_bd (E := evs0 mk lo hh ls o) (fun j hj => (hbd j hj).2) j (by rw [evs0_len]; exact hj)
    rw [evs0_len] at this
    unfold evsL
    omega
  have hE0 : (evs0 mk lo hh ls o).length = o.length + 1 := evs0_len
  have hsn : ∀ i, i < o.length → ls[(o[i]!).toNat]! = ls[(o[i]!).toNat]! ∧ (0 ≤ o[i]! ∧ o[i]! < ls.length) := fun i hi => ⟨rfl, hok _ (by rw [getElem!_pos o i hi]; exact List.getElem_mem _)⟩
  refine CV.enter callees false rfl Try.func135 rfl (by kernel_rfl) (Nat.le_of_ble_eq_true rfl) hB ?_
  repeat' first
    | refine CO.cons rfl ?_
    | refine CV.seq ?_
    | refine CV.region callees ?_
    | fail
  refine ⟨(by simp only [notTuple]), ?_⟩
  rw [boxCh hr.cells.1]
  generalize hs0 : Heap.new H _ = H0
  have hg0 := new_get hs0
  have k0 := new_keep hs0
  have n0 := new_n hs0
  obtain ⟨b0, hbn0⟩ : ∃ b, Heap.n H = b := ⟨_, rfl⟩
  rw [hbn0] at hg0 n0 ⊢
  repeat' first
    | refine CO.cons rfl ?_
    | refine CO.nil ?_
    | refine CV.seq ?_
    | refine CV.region callees ?_
    | (refine ⟨_, _, alSt, ?_⟩)
    | fail
  generalize hs1 : Heap.new H0 _ = H1
  have hg1 := new_get hs1
  have k1 := new_keep hs1
  have n1 := new_n hs1
  obtain ⟨b1, hbn1⟩ : ∃ b, Heap.n H0 = b := ⟨_, rfl⟩
  rw [hbn1] at hg1 n1 ⊢
  have hc1 := (k1.2 b0 (by omega)).trans hg0
  have k01 := k0.trans k1
  repeat' first
    | refine CO.cons rfl ?_
    | refine CO.nil ?_
    | refine CV.seq ?_
    | refine CV.region callees ?_
    | refine CV.block ?_
    | (refine ⟨_, fS foC1 (by decide), ?_⟩)
    | (refine ⟨_, ldChS hc1, ?_⟩)
    | (refine ⟨_, _, buSpR, ?_⟩)
    | fail
  generalize hs2 : Heap.new H1 _ = H2
  have hg2 := new_get hs2
  have k2 := new_keep hs2
  have n2 := new_n hs2
  obtain ⟨b2, hbn2⟩ : ∃ b, Heap.n H1 = b := ⟨_, rfl⟩
  rw [hbn2] at hg2 n2 ⊢
  have hc2 := (k2.2 b0 (by omega)).trans hc1
  have hz2 := (k2.2 b1 (by omega)).trans hg1
  obtain ⟨n2', hn2'⟩ : ∃ n, n = b2 := ⟨_, rfl⟩
  have hq2 : OwnSp H2 (.slice (some ⟨b2, 0, none⟩) 1 0) (spansL lo hh ls []) b2 := ⟨spl_two, .inr ⟨b2, rfl, Nat.le_refl _, by omega, hg2⟩⟩
  repeat' first
    | fail
  refine CV.loopc ?_
  refine WCv.rounds callees false (α := Value × Nat) (fun (q, i) => [(1, ov), (2, .pointer (some ⟨b0, 0, none⟩)), (4, .pointer (some ⟨b1, 0, none⟩)), (6, q), (7, VI i)]) (fun (q, i) Hz => i ≤ o.length ∧ OwnSp Hz q (spansL lo hh ls (o.take i)) b2 ∧ Hz.get b0 = some (.cells (Chl mk lo hh sv) 26 1) ∧ Hz.get b1 = some (.cells (Stl nilS nilS nilS) yS 1) ∧ Keep H Hz ∧ b2 < Hz.n) (fun (q, i) => o.length - i) (.slice (some ⟨b2, 0, none⟩) 1 0, 0) (by repeat' first | exact trivial | refine ⟨rfl, ?_⟩ | refine ⟨slot_int (by (try simp only [Int.toNat_natCast]); omega), ?_⟩) ?_ ?_
  · exact ⟨by omega, hq2, hc2, hz2, k01.trans k2, by omega⟩
  clear hq2 hc2 hz2 k2 hg2
  rintro ⟨q, i⟩ Hx ⟨hi, hq, hcx, hzx, kx, lx⟩ hBx
  have lkx := kx.1
  have hox : Ints Hx ov o := ho.keep kx
  have hsx := hr.keep kx
  by_cases hi2 : i < o.length
  · have htk : o.take (i + 1) = o.take i ++ [o[i]!] := one_at hi2
    have hoi := (hsn i hi2).2
    have hxi : o[(i : Int).toNat]! = o[i]! := rfl
    obtain ⟨z, hz⟩ : ∃ z : Nat, o[i]! = (z : Int) := ⟨(o[i]!).toNat, by omega⟩
    have hadr : aindexAddr Try.prog 24 sv (.int .i64 o[(i : Int).toNat]!) = some (elemS sv 4 z) := by rw [hxi, hz]; exact ls_addr hsx (by omega) (by omega)
    have hday := lk_dayR hsx (i := z) (by omega)
    repeat' first
      | refine CO.cons rfl ?_
      | refine CO.nil ?_
      | refine CV.seq ?_
      | refine CV.region callees ?_
      | refine CV.cond ?_
      | refine CV.block ?_
      | refine CV.skip ?_
      | refine CV.draw callees (by decide +kernel) ?_
      | refine CH.cons rfl ?_
      | refine CH.nil ?_
      | refine ⟨_, ints_len (by assumption), ?_⟩
      | refine ⟨_, ints_addr (by assumption) (by omega) (by omega), ?_⟩
      | refine ⟨_, ints_load (by assumption) (by omega) (by omega), ?_⟩
      | (refine ⟨_, fS foC2 (by decide), ?_⟩)
      | (refine ⟨_, cell_load agLs hcx rfl, ?_⟩)
      | (refine ⟨_, hadr, ?_⟩)
      | (refine ⟨_, hday.1, ?_⟩)
      | (refine ⟨_, hday.2, ?_⟩)
      | (refine ⟨_, _, buSpR, ?_⟩)
      | (refine ⟨fun _ => ?_, fun _ => ?_⟩ <;> first | (exfalso; omega) | skip)
      | fail
    refine spPush (d := (ls[z]!.lo, ls[z]!.hi)) hq (by omega) (by omega) (by rw [spansL_len, List.length_take]; omega) ?_
    intro q' H4 hq4 kb4 hf4
    have l4 := kb4.le
    have hqa : ∀ c, blkOf q = some c → b2 ≤ c := fun c hc => (hq.lt hc).1
    repeat' first
      | refine CO.cons rfl ?_
      | refine CO.nil ?_
      | refine CV.region callees ?_
      | refine CH.nil ?_
      | refine ⟨(⟨by omega, by omega⟩ : inI64 _), ?_⟩
      | fail
    refine ⟨(q', i + 1), (by repeat' first | exact trivial | refine ⟨rfl, ?_⟩ | refine ⟨slot_int (by (try simp only [Int.toNat_natCast]); omega), ?_⟩), (by (try dsimp only); omega), ?_⟩
    refine ⟨by omega, ?_, (kb4.get b0 (by omega) (fun h => by have := hqa _ h; omega)).trans hcx, (kb4.get b1 (by omega) (fun h => by have := hqa _ h; omega)).trans hzx, kb4.keep kx fun c hc => by have := hqa c hc; omega, by omega⟩
    rw [htk, spansL_snoc, hz, Int.toNat_natCast]
    exact hq4
  obtain rfl : i = o.length := by omega
  rw [List.take_length] at hq
  have hqr := hq.row
  have hqlA : ∀ X, alen Try.prog X sS q = some (VI (o.length + 1 : Nat)) := fun X => by
    rcases hq.2 with ⟨_, h0⟩ | ⟨b', rfl, _⟩
    · exact absurd h0 (by simp [spansL])
    · rw [List.length_map, spansL_len]; exact sp_len
  repeat' first
    | refine CO.cons rfl ?_
    | refine CO.nil ?_
    | refine CV.seq ?_
    | refine CV.region callees ?_
    | refine CV.cond ?_
    | refine CV.block ?_
    | refine CV.exit ?_
    | refine CR.cons ?_
    | refine CR.nil ?_
    | refine ⟨_, ints_len (by assumption), ?_⟩
    | refine CV.mX callees (by decide +kernel) [(0, []), (1, []), (3, []), (4, []), (2, [4]), (6, [4]), (5, []), (7, [])] (by kernel_rfl) ?_
    | (refine ⟨_, hqlA _, ?_⟩)
    | (refine ⟨_, _, make_row un22 one3 (by omega) (o.length + 1) (by omega), ?_⟩)
    | (refine ⟨(rfl : _ = VI _), ?_⟩)
    | (refine ⟨same_int, ?_⟩)
    | (refine ⟨fun _ => ?_, fun _ => ?_⟩ <;> first | (exfalso; omega) | skip)
    | fail
  obtain ⟨n, hn⟩ : ∃ n, o.length + 1 = n := ⟨_, rfl⟩
  rw [hn] at hE0 hqlA
  have hpl : (spansL lo hh ls o).length = n := by rw [spansL_len, hn]
  obtain ⟨ps, hps⟩ : ∃ ps, spansL lo hh ls o = ps := ⟨_, rfl⟩
  obtain ⟨E, hE⟩ : ∃ E, evs0 mk lo hh ls o = E := ⟨_, rfl⟩
  obtain ⟨F, hF⟩ : ∃ F, evsL mk lo hh ls o = F := ⟨_, rfl⟩
  have hz0 : E[0]!.lo = ps[0]!.1 ∧ E[0]!.hi = ps[0]!.2 := by rw [← hE, ← hps]; exact evs0_at0
  have hzs : ∀ j, j + 1 < n → E[j + 1]!.lo = max ps[j + 1]!.1 (E[j]!.lo + 1) ∧ E[j + 1]!.hi = ps[j + 1]!.2 := fun j hj => by rw [← hE, ← hps]; exact evs0_at (by omega)
  have hEF : ∀ j, j < n → F[j]!.lo = E[j]!.lo := fun j hj => by rw [← hE, ← hF]; exact evsL_lo (by omega)
  have hFl : F[n - 1]! = E[n - 1]! := by
    rw [← hE, ← hF]
    have := downL_last (E := evs0 mk lo hh ls o) (by rw [hE0]; omega)
    rw [hE0] at this
    exact this
  have hFs : ∀ j, j + 1 < n → F[j]!.hi = min E[j]!.hi (F[j + 1]!.hi - 1) := fun j hj => by
    rw [← hE, ← hF]
    unfold evsL
    rw [downL_at (by rw [hE0]; exact hj)]
  have hEhi : ∀ j, j < n → E[j]!.hi = ps[j]!.2 := fun j hj => by
    cases j with
    | zero => exact hz0.2
    | succ j => exact (hzs j hj).2
  have hFlen : F.length = n := by rw [← hF, evs_len, hn]
  rw [hE] at hbd hE0
  rw [hF] at hdb
  rw [hps] at hqr hpl
  rw [hF]
  have hxl : ∀ xs : List Int, xs.length = n → (∀ j, j < n → xs[j]! = E[j]!.lo) → xs = leastL mk lo hh ls o := fun xs h1 h2 => least_of (by omega) fun j hj => by rw [hE]; exact h2 j (by omega)
  have hyl : ∀ ys : List Int, ys.length = n → (∀ j, j < n → ys[j]! = F[j]!.hi) → ys = mostL mk lo hh ls o := fun ys h1 h2 => most_of (by omega) fun j hj => by rw [hF]; exact h2 j (by omega)
  have hbd2 : ∀ j, j < n → 0 ≤ E[j]!.lo ∧ E[j]!.lo ≤ 100007 ∧ 0 ≤ E[j]!.hi ∧ E[j]!.hi ≤ 100000 := fun j hj => by
    have := hbd j (by omega); omega
  have hdb2 : ∀ j, j < n → -(8 : Int) ≤ F[j]!.hi ∧ F[j]!.hi ≤ 100000 := fun j hj => hdb j (by omega)
  have hps1 : ∀ j, j < n → 0 ≤ ps[j]!.1 ∧ ps[j]!.1 ≤ 100000 := fun j hj => by
    cases j with
    | zero => have := hbd2 0 (by omega); have := hz0.1; rw [← hps] at this ⊢; exact ⟨h0, h1⟩
    | succ j =>
      rw [← hps]
      have h4 : (spansL lo hh ls o)[j + 1]! = (ls[(o[j]!).toNat]!.lo, ls[(o[j]!).toNat]!.hi) := by
        unfold spansL
        rw [getElem!_pos _ _ (by simp; omega), List.getElem_cons_succ, List.getElem_map, getElem!_pos o j (by omega)]
      rw [h4]
      exact hls.lo _ (by have := (hsn j (by omega)).2; omega)
  clear hbd hdb hps hE hF hsn hsx hox hcx
  rw [hn]
  generalize hsA : Heap.new Hx _ = HA
  have hgA := new_get hsA
  have kA := new_keep hsA
  have nA := new_n hsA
  obtain ⟨bx, hbx⟩ : ∃ b, Hx.n = b := ⟨_, rfl⟩
  rw [hbx] at hgA nA ⊢
  generalize hsC : Heap.new HA _ = HC
  have hgC := new_get hsC
  have kC := new_keep hsC
  have nC := new_n hsC
  obtain ⟨bY, hbY⟩ : ∃ b, HA.n = b := ⟨_, rfl⟩
  rw [hbY] at hgC nC ⊢
  have hgA2 := (kC.2 bx (by omega)).trans hgA
  have hq2 := (hqr.keep kA).keep kC
  have hz2 := (kC.2 b1 (by omega)).trans ((kA.2 b1 (by omega)).trans hzx)
  have k2 := (kx.trans kA).trans kC
  have hrep : List.replicate n (Value.int .i64 0) = (List.replicate n (0 : Int)).map VI := by simp
  rw [hrep] at hgA2 hgC
  have hqb : ∀ c, blkOf q = some c → c < bx := fun c hc => by have := (hq.lt hc).2; omega
  have hord : H.n ≤ b1 ∧ b1 < b2 ∧ b2 < bx ∧ bx < bY := ⟨by omega, by omega, by omega, by omega⟩
  have hHb : B ≤ b1 := by omega
  clear hq kx hzx kA kC hqr hgA lkx
  obtain ⟨oA, hoA⟩ : ∃ p : Nat → Option Value, ∀ i : Nat, p i = some (.pointer (some ⟨bx, i, none⟩)) := ⟨fun i => some (.pointer (some ⟨bx, i, none⟩)), fun _ => rfl⟩
  have adr : ∀ (b i : Nat) (z : Int), z = (i : Int) → i < n → aindexAddr Try.prog 29 (.slice (some ⟨b, 0, none⟩) n 0) (.int .i64 z) = some (.pointer (some ⟨b, i, none⟩)) := fun b i z hz hi => by
    subst hz
    have := addr_row (P := Try.prog) (b := b) (n := n) (c := 0) (kd := .i64) (i := (i : Int)) un22 sz3 (by omega) (by omega)
    simpa using this
  have ati : ∀ (xs : List Int) (i : Nat), i < xs.length → (xs.map VI)[i]? = some (VI xs[i]!) := fun xs i hi => by rw [List.getElem?_map, List.getElem?_eq_getElem hi, getElem!_pos xs i hi]; rfl
  refine CV.loopc ?_
  refine WCv.rounds callees false (α := Nat × List Int) (fun (i, xs) => [(1, ov), (4, .pointer (some ⟨b1, 0, none⟩)), (6, q), (8, .slice (some ⟨bx, 0, none⟩) n 0), (9, .slice (some ⟨bY, 0, none⟩) n 0), (10, VI i)]) (fun (i, xs) Hz => i ≤ n ∧ xs.length = n ∧ (∀ j, j < i → xs[j]! = E[j]!.lo) ∧ Hz.get bx = some (.cells (xs.map VI) 3 2) ∧ Hz.get bY = some (.cells ((List.replicate n (0 : Int)).map VI) 3 2) ∧ RowS 2 Hz q (ps.map Spl) ∧ Hz.get b1 = some (.cells (Stl nilS nilS nilS) yS 1) ∧ Keep H Hz ∧ bY < Hz.n) (fun (i, xs) => n - i) (0, List.replicate n (0 : Int)) (by repeat' first | exact trivial | refine ⟨rfl, ?_⟩ | refine ⟨slot_int (by (try simp only [Int.toNat_natCast]); omega), ?_⟩) ?_ ?_
  · exact ⟨by omega, by simp, fun j hj => by omega, hgA2, hgC, hq2, hz2, k2, by omega⟩
  clear hgA2 hgC hq2 hz2 k2
  rintro ⟨i, xs⟩ Hy ⟨hi, hxn, hxi, hgx, hgy, hqy, hzy, ky, ly⟩ hBy
  by_cases hi2 : i < n
  · have a1 := sp_addr hqy (n := (i : Int)) (by omega) (by omega)
    have a2 := sp_f0 hqy (j := i) (by omega)
    have hpsi := hps1 i hi2
    repeat' first
      | refine CO.cons rfl ?_
      | refine CO.nil ?_
      | refine CV.seq ?_
      | refine CV.region callees ?_
      | refine CV.cond ?_
      | refine CV.block ?_
      | refine CV.skip ?_
      | (refine ⟨_, hqlA _, ?_⟩)
      | (refine ⟨_, a1, ?_⟩)
      | (refine ⟨_, a2.1, ?_⟩)
      | (refine ⟨_, a2.2, ?_⟩)
      | (refine ⟨_, adr bx i _ rfl hi2, ?_⟩)
      | (refine ⟨fun _ => ?_, fun _ => ?_⟩ <;> first | (exfalso; omega) | skip)
      | fail
    refine ⟨_, _, store_row (i := i) sz3 hgx (by rw [List.length_map]; omega) rfl, by omega, ?_⟩
    rw [← List.map_set]
    generalize hs4 : Heap.set Hy bx _ = H4
    have hg4 : H4.get bx = some (.cells ((xs.set i ps[i]!.1).map VI) 3 2) := set_get hs4
    have n4 := set_n hs4
    have o4 := set_old hs4
    have hgy4 := (o4 bY (by omega)).trans hgy
    have hz4 := (o4 b1 (by omega)).trans hzy
    have kq4 : ∀ {X : Heap}, (∀ c, c ≠ bx → X.get c = Hy.get c) → X.n = Hy.n → RowS 2 X q (ps.map Spl) := fun {X} ho hn => by
      refine ⟨hqy.1, ?_⟩
      rcases hqy.2 with h | h | ⟨bb, ii, cc, css, ee, kd, h1, h2, h3, h4⟩
      · exact .inl h
      · exact .inr (.inl h)
      · exact .inr (.inr ⟨bb, ii, cc, css, ee, kd, h1, by omega, by rw [ho bb (by have := hqb bb (by rw [h1]; rfl); omega)]; exact h3, h4⟩)
    have hq4 := kq4 o4 n4
    have k4 : Keep H H4 := keep_put ky (by omega) o4 n4
    have hl4 : (xs.set i ps[i]!.1).length = n := by rw [List.length_set, hxn]
    by_cases hi0 : i = 0
    · subst hi0
      repeat' first
        | refine CO.cons rfl ?_
        | refine CO.nil ?_
        | refine CV.seq ?_
        | refine CV.region callees ?_
        | refine CV.cond ?_
        | refine CV.skip ?_
        | refine ⟨(⟨by omega, by omega⟩ : inI64 _), ?_⟩
        | (refine ⟨fun _ => ?_, fun _ => ?_⟩ <;> first | (exfalso; omega) | skip)
        | fail
      refine ⟨(0 + 1, xs.set 0 ps[0]!.1), (by repeat' first | exact trivial | refine ⟨rfl, ?_⟩ | refine ⟨slot_int (by (try simp only [Int.toNat_natCast]); omega), ?_⟩), (by (try dsimp only); omega), ?_⟩
      refine ⟨by omega, hl4, fun j hj => ?_, hg4, hgy4, hq4, hz4, k4, by omega⟩
      obtain rfl : j = 0 := by omega
      rw [int_set (by omega), if_pos rfl, hz0.1]
    · obtain ⟨i', rfl⟩ : ∃ i', i = i' + 1 := ⟨i - 1, by omega⟩
      have hx1 : (xs.set (i' + 1) ps[i' + 1]!.1)[i' + 1]! = ps[i' + 1]!.1 := by rw [int_set (by omega), if_pos rfl]
      have hx2 : (xs.set (i' + 1) ps[i' + 1]!.1)[i']! = E[i']!.lo := by rw [int_set (by omega), if_neg (by omega)]; exact hxi i' (by omega)
      have c1 := ati (xs.set (i' + 1) ps[i' + 1]!.1) (i' + 1) (by omega)
      have c2 := ati (xs.set (i' + 1) ps[i' + 1]!.1) i' (by omega)
      rw [hx1] at c1
      rw [hx2] at c2
      have hmx := (hzs i' hi2).1
      have hb1 := hbd2 i' (by omega)
      repeat' first
        | refine CO.cons rfl ?_
        | refine CO.nil ?_
        | refine CV.seq ?_
        | refine CV.region callees ?_
        | refine CV.cond ?_
        | refine CV.draw callees (by decide +kernel) ?_
        | refine CH.cons rfl ?_
        | refine CH.nil ?_
        | refine ⟨(⟨by omega, by omega⟩ : inI64 _), ?_⟩
        | refine ⟨_, fun tm ha => step1_max rfl (ev_tmp ha rfl) (ev_tmp ha rfl), ?_⟩
        | (refine ⟨_, adr bx (i' + 1) _ rfl hi2, ?_⟩)
        | (refine ⟨_, adr bx i' _ (by omega) (by omega), ?_⟩)
        | (refine ⟨_, cell_load ag3 hg4 c1, ?_⟩)
        | (refine ⟨_, cell_load ag3 hg4 c2, ?_⟩)
        | (refine ⟨fun _ => ?_, fun _ => ?_⟩ <;> first | (exfalso; omega) | skip)
        | fail
      rw [← hmx]
      refine ⟨_, _, store_row (i := i' + 1) sz3 hg4 (by rw [List.length_map]; omega) rfl, by omega, ?_⟩
      rw [← List.map_set, List.set_set]
      generalize hs5 : Heap.set H4 bx _ = H5
      have hg5 : H5.get bx = some (.cells ((xs.set (i' + 1) E[i' + 1]!.lo).map VI) 3 2) := set_get hs5
      have n5 := set_n hs5
      have o5 := set_old hs5
      repeat' first
        | refine CO.cons rfl ?_
        | refine CO.nil ?_
        | refine CV.region callees ?_
        | refine CH.nil ?_
        | refine ⟨(⟨by omega, by omega⟩ : inI64 _), ?_⟩
        | fail
      refine ⟨(i' + 1 + 1, xs.set (i' + 1) E[i' + 1]!.lo), (by repeat' first | exact trivial | refine ⟨rfl, ?_⟩ | refine ⟨slot_int (by (try simp only [Int.toNat_natCast]); omega), ?_⟩), (by (try dsimp only); omega), ?_⟩
      refine ⟨by omega, by rw [List.length_set, hxn], fun j hj => ?_, hg5, (o5 bY (by omega)).trans hgy4, kq4 (fun c hc => (o5 c hc).trans (o4 c hc)) (by omega), (o5 b1 (by omega)).trans hz4, keep_put k4 (by omega) o5 n5, by omega⟩
      rw [int_set (by omega)]
      split
      · rename_i h; rw [h]
      · exact hxi j (by omega)
  have hin : i = n := by omega
  rw [hin] at hxi
  repeat' first
    | refine CO.cons rfl ?_
    | refine CO.nil ?_
    | refine CV.seq ?_
    | refine CV.region callees ?_
    | refine CV.cond ?_
    | refine CV.block ?_
    | refine CV.exit ?_
    | refine ⟨(⟨by omega, by omega⟩ : inI64 _), ?_⟩
    | (refine ⟨_, hqlA _, ?_⟩)
    | (refine ⟨fun _ => ?_, fun _ => ?_⟩ <;> first | (exfalso; omega) | skip)
    | fail
  clear hi hi2 hin
  refine CV.loopc ?_
  refine WCv.rounds callees false (α := Nat × List Int) (fun (m, ys) => [(1, ov), (4, .pointer (some ⟨b1, 0, none⟩)), (6, q), (8, .slice (some ⟨bx, 0, none⟩) n 0), (9, .slice (some ⟨bY, 0, none⟩) n 0), (11, VI ((m : Int) - 1))]) (fun (m, ys) Hz => m ≤ n ∧ ys.length = n ∧ (∀ j, m ≤ j → j < n → ys[j]! = F[j]!.hi) ∧ Hz.get bx = some (.cells (xs.map VI) 3 2) ∧ Hz.get bY = some (.cells (ys.map VI) 3 2) ∧ RowS 2 Hz q (ps.map Spl) ∧ Hz.get b1 = some (.cells (Stl nilS nilS nilS) yS 1) ∧ Keep H Hz ∧ bY < Hz.n) (fun (m, ys) => m) (n, List.replicate n (0 : Int)) (by repeat' first | exact trivial | refine ⟨rfl, ?_⟩ | refine ⟨slot_int (by (try simp only [Int.toNat_natCast]); omega), ?_⟩) ?_ ?_
  · exact ⟨Nat.le_refl _, by simp, fun j h1 h2 => by omega, hgx, hgy, hqy, hzy, ky, ly⟩
  clear hgx hgy hqy hzy ky ly
  rintro ⟨m, ys⟩ Hy ⟨hm, hyn, hyi, hgx, hgy, hqy, hzy, ky, ly⟩ hBy
  by_cases hm2 : 0 < m
  · obtain ⟨m, rfl⟩ : ∃ p, m = p + 1 := ⟨m - 1, by omega⟩
    have hmi : (((m + 1 : Nat) : Int) - 1) = (m : Int) := by omega
    have hmn : m < n := by omega
    have a1 : aindexAddr Try.prog sS q (.int .i64 (((m + 1 : Nat) : Int) - 1)) = some (elemS q 2 m) := by rw [hmi]; exact sp_addr hqy (n := (m : Int)) (by omega) (by omega)
    have a2 := sp_f1 hqy (j := m) (by omega)
    repeat' first
      | refine CO.cons rfl ?_
      | refine CO.nil ?_
      | refine CV.seq ?_
      | refine CV.region callees ?_
      | refine CV.cond ?_
      | refine CV.block ?_
      | refine CV.skip ?_
      | (refine ⟨_, a1, ?_⟩)
      | (refine ⟨_, a2.1, ?_⟩)
      | (refine ⟨_, a2.2, ?_⟩)
      | (refine ⟨_, adr bY m _ hmi hmn, ?_⟩)
      | (refine ⟨fun _ => ?_, fun _ => ?_⟩ <;> first | (exfalso; omega) | skip)
      | fail
    refine ⟨_, _, store_row (i := m) sz3 hgy (by rw [List.length_map]; omega) rfl, by omega, ?_⟩
    rw [← List.map_set]
    generalize hs4 : Heap.set Hy bY _ = H4
    have hg4 : H4.get bY = some (.cells ((ys.set m ps[m]!.2).map VI) 3 2) := set_get hs4
    have n4 := set_n hs4
    have o4 := set_old hs4
    have hgx4 := (o4 bx (by omega)).trans hgx
    have hz4 := (o4 b1 (by omega)).trans hzy
    have kq4 : ∀ {X : Heap}, (∀ c, c ≠ bY → X.get c = Hy.get c) → X.n = Hy.n → RowS 2 X q (ps.map Spl) := fun {X} ho hn => by
      refine ⟨hqy.1, ?_⟩
      rcases hqy.2 with h | h | ⟨bb, ii, cc, css, ee, kd, h1, h2, h3, h4⟩
      · exact .inl h
      · exact .inr (.inl h)
      · exact .inr (.inr ⟨bb, ii, cc, css, ee, kd, h1, by omega, by rw [ho bb (by have := hqb bb (by rw [h1]; rfl); omega)]; exact h3, h4⟩)
    have hq4 := kq4 o4 n4
    have k4 : Keep H H4 := keep_put ky (by omega) o4 n4
    have hl4 : (ys.set m ps[m]!.2).length = n := by rw [List.length_set, hyn]
    by_cases hlast : m = n - 1
    · have hfm : F[m]!.hi = ps[m]!.2 := by rw [hlast, hFl, hEhi _ (by omega)]
      repeat' first
        | refine CO.cons rfl ?_
        | refine CO.nil ?_
        | refine CV.seq ?_
        | refine CV.region callees ?_
        | refine CV.cond ?_
        | refine CV.skip ?_
        | refine ⟨(⟨by omega, by omega⟩ : inI64 _), ?_⟩
        | (refine ⟨_, hqlA _, ?_⟩)
        | (refine ⟨fun _ => ?_, fun _ => ?_⟩ <;> first | (exfalso; omega) | skip)
        | fail
      refine ⟨(m, ys.set m ps[m]!.2), (by repeat' first | exact trivial | refine ⟨rfl, ?_⟩ | refine ⟨slot_int (by (try simp only [Int.toNat_natCast]); omega), ?_⟩), (by (try dsimp only); omega), ?_⟩
      refine ⟨by omega, hl4, fun j h1 h2 => ?_, hgx4, hg4, hq4, hz4, k4, by omega⟩
      rw [int_set (by omega)]
      split
      · rename_i h; rw [← h, hfm]
      · exact hyi j (by omega) h2
    · have hx1 : (ys.set m ps[m]!.2)[m]! = ps[m]!.2 := by rw [int_set (by omega), if_pos rfl]
      have hx2 : (ys.set m ps[m]!.2)[m + 1]! = F[m + 1]!.hi := by rw [int_set (by omega), if_neg (by omega)]; exact hyi (m + 1) (by omega) (by omega)
      have c1 := ati (ys.set m ps[m]!.2) m (by omega)
      have c2 := ati (ys.set m ps[m]!.2) (m + 1) (by omega)
      rw [hx1] at c1
      rw [hx2] at c2
      have hmx := hFs m (by omega)
      rw [hEhi m hmn] at hmx
      have hb1 := hdb2 (m + 1) (by omega)
      repeat' first
        | refine CO.cons rfl ?_
        | refine CO.nil ?_
        | refine CV.seq ?_
        | refine CV.region callees ?_
        | refine CV.cond ?_
        | refine CV.draw callees (by decide +kernel) ?_
        | refine CH.cons rfl ?_
        | refine CH.nil ?_
        | refine ⟨(⟨by omega, by omega⟩ : inI64 _), ?_⟩
        | refine ⟨_, fun tm ha => step1_min rfl (ev_tmp ha rfl) (ev_tmp ha rfl), ?_⟩
        | (refine ⟨_, hqlA _, ?_⟩)
        | (refine ⟨_, adr bY m _ hmi hmn, ?_⟩)
        | (refine ⟨_, adr bY (m + 1) _ (by omega) (by omega), ?_⟩)
        | (refine ⟨_, cell_load ag3 hg4 c1, ?_⟩)
        | (refine ⟨_, cell_load ag3 hg4 c2, ?_⟩)
        | (refine ⟨fun _ => ?_, fun _ => ?_⟩ <;> first | (exfalso; omega) | skip)
        | fail
      rw [← hmx]
      refine ⟨_, _, store_row (i := m) sz3 hg4 (by rw [List.length_map]; omega) rfl, by omega, ?_⟩
      rw [← List.map_set, List.set_set]
      generalize hs5 : Heap.set H4 bY _ = H5
      have hg5 : H5.get bY = some (.cells ((ys.set m F[m]!.hi).map VI) 3 2) := set_get hs5
      have n5 := set_n hs5
      have o5 := set_old hs5
      repeat' first
        | refine CO.cons rfl ?_
        | refine CO.nil ?_
        | refine CV.region callees ?_
        | refine CH.nil ?_
        | refine ⟨(⟨by omega, by omega⟩ : inI64 _), ?_⟩
        | fail
      refine ⟨(m, ys.set m F[m]!.hi), (by repeat' first | exact trivial | refine ⟨rfl, ?_⟩ | refine ⟨slot_int (by (try simp only [Int.toNat_natCast]); omega), ?_⟩), (by (try dsimp only); omega), ?_⟩
      refine ⟨by omega, by rw [List.length_set, hyn], fun j h1 h2 => ?_, (o5 bx (by omega)).trans hgx4, hg5, kq4 (fun c hc => (o5 c hc).trans (o4 c hc)) (by omega), (o5 b1 (by omega)).trans hz4, keep_put k4 (by omega) o5 n5, by omega⟩
      rw [int_set (by omega)]
      split
      · rename_i h; rw [h]
      · exact hyi j (by omega) h2
  have hm0 : m = 0 := by omega
  rw [hm0] at hyi
  subst hm0
  have hyi2 : ∀ j, j < n → ys[j]! = F[j]!.hi := fun j hj => hyi j (Nat.zero_le _) hj
  have hxe := hxl xs hxn hxi
  have hye := hyl ys hyn hyi2
  repeat' first
    | refine CO.cons rfl ?_
    | refine CO.nil ?_
    | refine CV.seq ?_
    | refine CV.region callees ?_
    | refine CV.cond ?_
    | refine CV.block ?_
    | refine CV.exit ?_
    | (refine ⟨fun _ => ?_, fun _ => ?_⟩ <;> first | (exfalso; omega) | skip)
    | fail
  refine CV.loopc ?_
  refine WCv.rounds callees false (α := Nat) (fun i => [(1, ov), (4, .pointer (some ⟨b1, 0, none⟩)), (6, q), (8, .slice (some ⟨bx, 0, none⟩) n 0), (9, .slice (some ⟨bY, 0, none⟩) n 0), (12, VI i)]) (fun i Hz => i ≤ n ∧ (∀ j, j < i → F[j]!.lo ≤ F[j]!.hi) ∧ Hz = Hy) (fun i => n - i) (0) (by repeat' first | exact trivial | refine ⟨rfl, ?_⟩ | refine ⟨slot_int (by (try simp only [Int.toNat_natCast]); omega), ?_⟩) ?_ ?_
  · exact ⟨by omega, fun j hj => by omega, rfl⟩
  rintro i Hx' ⟨hi, hall, rfl⟩ hBx'
  by_cases hi2 : i < n
  · have c1 := ati xs i (by omega)
    have c2 := ati ys i (by omega)
    rw [hxi i hi2, ← hEF i hi2] at c1
    rw [hyi2 i hi2] at c2
    by_cases hgt : F[i]!.hi < F[i]!.lo
    · have hnk : okE F = false := okE_not (by rw [hFlen]; exact hi2) hgt
      repeat' first
        | refine CO.cons rfl ?_
        | refine CO.nil ?_
        | refine CV.seq ?_
        | refine CV.region callees ?_
        | refine CV.cond ?_
        | refine CV.block ?_
        | refine CV.skip ?_
        | refine CV.draw callees (by decide +kernel) ?_
        | refine CH.cons rfl ?_
        | refine CH.nil ?_
        | (refine ⟨_, hqlA _, ?_⟩)
        | (refine ⟨_, adr bx i _ rfl hi2, ?_⟩)
        | (refine ⟨_, adr bY i _ rfl hi2, ?_⟩)
        | (refine ⟨_, cell_load ag3 hgx c1, ?_⟩)
        | (refine ⟨_, cell_load ag3 hgy c2, ?_⟩)
        | (refine ⟨_, buSt0, ?_⟩)
        | (refine ⟨fun _ => ?_, fun _ => ?_⟩ <;> first | (exfalso; omega) | skip)
        | fail
      refine ⟨_, _, stSt hzy rfl rfl rfl, by omega, ?_⟩
      generalize hs7 : Heap.set Hx' b1 _ = H7
      have hg7 : H7.get b1 = some (.cells (Stl nilS nilS nilS) yS 1) := set_get hs7
      have n7 := set_n hs7
      have o7 := set_old hs7
      repeat' first
        | refine CO.cons rfl ?_
        | refine CO.nil ?_
        | refine CV.ret ?_
        | fail
      rw [hnk]
      exact ⟨_, ldSt hg7, rfl, ⟨nilS, nilS, rfl, (fun h => by cases h), fun _ => ⟨rfl, rfl⟩⟩, keep_put ky (by omega) o7 n7⟩
    · repeat' first
        | refine CO.cons rfl ?_
        | refine CO.nil ?_
        | refine CV.seq ?_
        | refine CV.region callees ?_
        | refine CV.cond ?_
        | refine CV.block ?_
        | refine CV.skip ?_
        | refine CV.draw callees (by decide +kernel) ?_
        | refine CH.cons rfl ?_
        | refine CH.nil ?_
        | refine ⟨(⟨by omega, by omega⟩ : inI64 _), ?_⟩
        | (refine ⟨_, hqlA _, ?_⟩)
        | (refine ⟨_, adr bx i _ rfl hi2, ?_⟩)
        | (refine ⟨_, adr bY i _ rfl hi2, ?_⟩)
        | (refine ⟨_, cell_load ag3 hgx c1, ?_⟩)
        | (refine ⟨_, cell_load ag3 hgy c2, ?_⟩)
        | (refine ⟨fun _ => ?_, fun _ => ?_⟩ <;> first | (exfalso; omega) | skip)
        | fail
      refine ⟨(i + 1), (by repeat' first | exact trivial | refine ⟨rfl, ?_⟩ | refine ⟨slot_int (by (try simp only [Int.toNat_natCast]); omega), ?_⟩), (by (try dsimp only); omega), ?_⟩
      refine ⟨by omega, fun j hj => ?_, rfl⟩
      by_cases h : j = i
      · rw [h]; omega
      · exact hall j (by omega)
  have hok2 : okE F = true := okE_all fun j hj => hall j (by omega)
  have hov := ho.keep ky
  have hX : Own 3 Hx' (.slice (some ⟨bx, 0, none⟩) n 0) (xs.map VI) b0 := .inr ⟨bx, by rw [List.length_map, hxn], by omega, by omega, hgx⟩
  have hY : Own 3 Hx' (.slice (some ⟨bY, 0, none⟩) n 0) (ys.map VI) b0 := .inr ⟨bY, by rw [List.length_map, hyn], by omega, by omega, hgy⟩
  repeat' first
    | refine CO.cons rfl ?_
    | refine CO.nil ?_
    | refine CV.seq ?_
    | refine CV.region callees ?_
    | refine CV.cond ?_
    | refine CV.exit ?_
    | (refine ⟨_, hqlA _, ?_⟩)
    | (refine ⟨_, buSt hov hX.row hY.row, ?_⟩)
    | (refine ⟨fun _ => ?_, fun _ => ?_⟩ <;> first | (exfalso; omega) | skip)
    | fail
  refine ⟨_, _, stSt hzy (Row.oneC hov).1 rfl rfl, by omega, ?_⟩
  generalize hs7 : Heap.set Hx' b1 _ = H7
  have hg7 : H7.get b1 = some (.cells (Stl ov (.slice (some ⟨bx, 0, none⟩) n 0) (.slice (some ⟨bY, 0, none⟩) n 0)) yS 1) := set_get hs7
  have n7 := set_n hs7
  have o7 := set_old hs7
  have kb7 : KeepX b1 Hx' H7 := ⟨by omega, fun c hc hcl => o7 c hcl⟩
  repeat' first
    | refine CO.cons rfl ?_
    | refine CO.nil ?_
    | refine CV.ret ?_
    | fail
  rw [hok2, ← hxe, ← hye]
  exact ⟨_, ldSt hg7, rfl, ⟨_, _, rfl, (fun _ => ⟨hX.keepX kb7 hzy, hY.keepX kb7 hzy⟩), fun h => by cases h⟩, keep_put ky (by omega) o7 n7⟩
end Go.Proofs.Ytijimplcjaeneaa
