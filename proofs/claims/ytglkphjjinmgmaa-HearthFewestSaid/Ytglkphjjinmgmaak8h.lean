
/- A fire of some coals: the reference's. -/
import Derived.Test.YtglkphjjinmgmaaL1
set_option linter.unusedVariables false
set_option linter.unusedSimpArgs false
namespace Go.Proofs.Ytglkphjjinmgmaa
open Go.AI
theorem posI_snoc {l : List Int} {x a : Int} (h : x ∉ l) : posI (l ++ [x]) a = if a = x then (l.length : Int) else posI l a := by
  unfold posI
  by_cases e : a = x
  · subst e
    rw [if_pos (by simp), if_pos rfl, List.idxOf_append, if_neg h, List.idxOf_cons_self]
    simp
  · rw [if_neg e]
    by_cases m : a ∈ l
    · rw [if_pos (by simp [m]), if_pos m, List.idxOf_append, if_pos m]
    · rw [if_neg (by simp [m, e]), if_neg m]
theorem asc_notin {n : Nat} : ∀ {t : List Int} {f i : Nat}, Asc n f t → i < t.length → t[i]! ∉ t.take i
  | [], _, _, _, h => by simp at h
  | y :: t, f, 0, _, _ => by simp
  | y :: t, f, i + 1, ha, h => by
    have hi : i < t.length := by simpa using h
    have e : (y :: t)[i + 1]! = t[i]! := by simp
    rw [e, List.take_succ_cons, List.mem_cons]
    rintro (h1 | h1)
    · have := asc_in ha.2.2 t[i]! (by rw [getElem!_pos t i hi]; exact List.getElem_mem _)
      have := ha.1
      omega
    · exact asc_notin ha.2.2 hi h1
set_option maxHeartbeats 16000000 in
set_option maxRecDepth 100000 in
theorem onlyR_spec {B : Nat} {H : Heap} {cv tv qv : Value} {cs : List Co} {ts : List (Int × Int)} {c : List Int} (hB : B ≤ H.n) (hc : RowS 7 H cv (cs.map Col)) (ht : RowS 2 H tv (ts.map Hl)) (hq : Ints H qv c) (hf : FOk cs ts) (ha : Asc cs.length 0 c) :
    CallB Try.prog B 59 [Fv cv tv, qv] H (fun r H' => (∃ u w, r = Fv u w ∧ OwnC H' u (onlyC cs c) H.n ∧ OwnT H' w (onlyT ts c) H.n) ∧ Keep H H') := by
  have hn12 := hf.n
  have hm40 := hf.m
  have hcl := asc_len (Nat.zero_le _) ha
  refine CV.enter callees false rfl Try.func59 rfl (by kernel_rfl) (Nat.le_of_ble_eq_true rfl) hB ?_
  repeat' first
    | refine CO.cons rfl ?_
    | refine CV.seq ?_
    | refine CV.region callees ?_
    | fail
  refine ⟨(by simp only [notTuple]), ?_⟩
  rw [allocFv hc.cells.1 ht.cells.1]
  generalize hs0 : Heap.new H _ = H0
  have hg0 := new_get hs0
  have k0 := new_keep hs0
  have n0 := new_n hs0
  obtain ⟨b0, hbn0⟩ : ∃ b, Heap.n H = b := ⟨_, rfl⟩
  rw [hbn0] at hg0 n0 ⊢
  repeat' first
    | refine CO.cons rfl ?_
    | fail
  refine ⟨_, _, al28, ?_⟩
  generalize hs1 : Heap.new H0 _ = H1
  have hg1 := new_get hs1
  have k1 := new_keep hs1
  have n1 := new_n hs1
  obtain ⟨b1, hbn1⟩ : ∃ b, Heap.n H0 = b := ⟨_, rfl⟩
  rw [hbn1] at hg1 n1 ⊢
  have k01 := k0.trans k1
  have hf1 := (k1.2 b0 (by omega)).trans hg0
  have hc1 := hc.keep k01
  repeat' first
    | refine CO.cons rfl ?_
    | refine CO.nil ?_
    | refine CV.seq ?_
    | refine CV.region callees ?_
    | (refine ⟨_, fS foF0 (by decide), ?_⟩)
    | (refine ⟨_, cell_load ag25 hf1 rfl, ?_⟩)
    | (refine ⟨_, cs_len hc1, ?_⟩)
    | fail
  refine ⟨_, _, make_row un22 one3 (by omega) cs.length (by omega), ?_⟩
  generalize hs2 : Heap.new H1 _ = H2
  have hg2 := new_get hs2
  have k2 := new_keep hs2
  have n2 := new_n hs2
  obtain ⟨b2, hbn2⟩ : ∃ b, Heap.n H1 = b := ⟨_, rfl⟩
  rw [hbn2] at hg2 n2 ⊢
  have hf2 := (k2.2 b0 (by omega)).trans hf1
  have hr2 := (k2.2 b1 (by omega)).trans hg1
  have k02 := k01.trans k2
  have ho2 : Own 3 H2 (.slice (some ⟨b2, 0, none⟩) cs.length 0) ((List.replicate cs.length (0 : Int)).map VJ) b2 := .inr ⟨b2, by simp, Nat.le_refl _, by omega, by rw [hg2]; simp⟩
  obtain ⟨sv, hsv⟩ : ∃ sv, Value.slice (some ⟨b2, 0, none⟩) cs.length 0 = sv := ⟨_, rfl⟩
  have hblk : blkOf sv = some b2 := by rw [← hsv]; rfl
  rw [hsv] at ho2 ⊢
  have hbne : ∀ c, c ≠ b2 → blkOf sv ≠ some c := fun c hc h => by rw [hblk] at h; cases h; exact hc rfl
  repeat' first
    | refine CO.cons rfl ?_
    | refine CO.nil ?_
    | refine CV.seq ?_
    | refine CV.region callees ?_
    | refine CV.block ?_
    | fail
  refine CV.loopc ?_
  refine WCv.rounds callees false (α := Nat × List Int) (fun (i, A) => [(1, qv), (2, .pointer (some ⟨b0, 0, none⟩)), (4, .pointer (some ⟨b1, 0, none⟩)), (5, sv), (6, VJ i)]) (fun (i, A) Hz => i ≤ cs.length ∧ A.length = cs.length ∧ (∀ j : Nat, j < i → A[j]! = -1) ∧ Hz.get b0 = some (.cells (Fl cv tv) 25 1) ∧ Hz.get b1 = some (.cells (Fl nilS nilS) 25 1) ∧ Own 3 Hz sv (A.map VJ) b2 ∧ Keep H Hz ∧ b2 < Hz.n) (fun (i, A) => cs.length - i) (0, List.replicate cs.length (0 : Int)) (by repeat' first | exact trivial | refine ⟨rfl, ?_⟩ | refine ⟨slot_int (by (try simp only [Int.toNat_natCast]); omega), ?_⟩) ?_ ?_
  · exact ⟨by omega, by simp, fun j hj => by omega, hf2, hr2, ho2, k02, by omega⟩
  clear hf2 hr2 ho2 k02 hf1 hc1
  rintro ⟨i, A⟩ Hx ⟨hi, hAl, hA, hfx, hrx, hox, kx, lx⟩ hBx
  have hIx : Ints Hx sv A := hox.row
  by_cases hi2 : i < cs.length
  · repeat' first
      | refine CO.cons rfl ?_
      | refine CO.nil ?_
      | refine CV.seq ?_
      | refine CV.region callees ?_
      | refine CV.cond ?_
      | refine CV.block ?_
      | refine CV.skip ?_
      | refine ⟨_, ints_len (by assumption), ?_⟩
      | refine ⟨_, ints_addr (by assumption) (by omega) (by omega), ?_⟩
      | (refine ⟨fun _ => ?_, fun _ => ?_⟩ <;> first | (exfalso; omega) | skip)
      | fail
    refine put_ask (y := -1) hox (by omega) (by omega) ?_
    intro H3 ho3 kb3
    have l3 := kb3.le
    rw [Int.toNat_natCast] at ho3
    repeat' first
      | refine CO.cons rfl ?_
      | refine CO.nil ?_
      | refine CV.region callees ?_
      | refine ⟨(⟨by omega, by omega⟩ : inI64 _), ?_⟩
      | fail
    refine ⟨(i + 1, A.set i (-1)), (by repeat' first | exact trivial | refine ⟨rfl, ?_⟩ | refine ⟨slot_int (by (try simp only [Int.toNat_natCast]); omega), ?_⟩), (by (try dsimp only); omega), ?_⟩
    refine ⟨by omega, by rw [List.length_set]; exact hAl, fun j hj => ?_, (kb3.get b0 (by omega) (hbne b0 (by omega))).trans hfx, (kb3.get b1 (by omega) (hbne b1 (by omega))).trans hrx, ho3, kb3.keep kx (fun c hc => by rw [hblk] at hc; cases hc; omega), by omega⟩
    rw [getS (by omega)]
    by_cases hji : i = j
    · rw [if_pos hji]
    · rw [if_neg hji]; exact hA j (by omega)
  obtain rfl : i = cs.length := by omega
  repeat' first
    | refine CO.cons rfl ?_
    | refine CO.nil ?_
    | refine CV.seq ?_
    | refine CV.region callees ?_
    | refine CV.cond ?_
    | refine CV.exit ?_
    | refine ⟨_, ints_len (by assumption), ?_⟩
    | (refine ⟨fun _ => ?_, fun _ => ?_⟩ <;> first | (exfalso; omega) | skip)
    | fail
  refine ⟨_, _, al28, ?_⟩
  generalize hs3 : Heap.new Hx _ = H3
  have hg3 := new_get hs3
  have k3 := new_keep hs3
  have n3 := new_n hs3
  obtain ⟨b3, hbn3⟩ : ∃ b, Heap.n Hx = b := ⟨_, rfl⟩
  rw [hbn3] at hg3 n3 ⊢
  have kx3 := kx.trans k3
  have hf3 := (k3.2 b0 (by omega)).trans hfx
  have hr3 := (k3.2 b1 (by omega)).trans hrx
  have ho3 : Own 3 H3 sv (A.map VJ) b2 := hox.keep k3
  clear hIx
  repeat' first
    | refine CO.cons rfl ?_
    | refine CO.nil ?_
    | refine CV.seq ?_
    | refine CV.region callees ?_
    | refine CV.block ?_
    | fail
  refine CV.loopc ?_
  refine WCv.rounds callees false (α := Nat × List Int × Value) (fun (i, A, u) => [(1, qv), (2, .pointer (some ⟨b0, 0, none⟩)), (4, .pointer (some ⟨b1, 0, none⟩)), (5, sv), (7, .pointer (some ⟨b3, 0, none⟩)), (8, VJ i)]) (fun (i, A, u) Hz => i ≤ c.length ∧ A.length = cs.length ∧ (∀ j : Nat, j < cs.length → A[j]! = posI (c.take i) j) ∧ Hz.get b0 = some (.cells (Fl cv tv) 25 1) ∧ Hz.get b1 = some (.cells (Fl nilS nilS) 25 1) ∧ Hz.get b3 = some (.cells (Fl u nilS) 25 1) ∧ Own 3 Hz sv (A.map VJ) b2 ∧ OwnC Hz u (onlyC cs (c.take i)) H3.n ∧ Keep H Hz ∧ H3.n ≤ Hz.n) (fun (i, A, u) => c.length - i) (0, A, nilS) (by repeat' first | exact trivial | refine ⟨rfl, ?_⟩ | refine ⟨slot_int (by (try simp only [Int.toNat_natCast]); omega), ?_⟩) ?_ ?_
  · exact ⟨by omega, hAl, fun j hj => by rw [hA j (by omega)]; simp [posI], hf3, hr3, hg3, ho3, OwnS.nil, kx3, Nat.le_refl _⟩
  clear hf3 hr3 ho3 hA hAl hox hfx hrx hi2
  rintro ⟨i, A, u⟩ Hy ⟨hi, hAl, hA, hfy, hry, hgy, hoy, huy, ky, ly⟩ hBy
  have hIy : Ints Hy sv A := hoy.row
  have hqy : Ints Hy qv c := Row.keep hq ky
  by_cases hi2 : i < c.length
  · have hin := asc_in ha c[i]! (by rw [getElem!_pos c i hi2]; exact List.getElem_mem _)
    have hno := asc_notin ha hi2
    have hxi : c[(i : Int).toNat]! = c[i]! := rfl
    obtain ⟨x, hx⟩ : ∃ x, c[i]! = x := ⟨_, rfl⟩
    rw [hx] at hin hxi hno
    repeat' first
      | refine CO.cons rfl ?_
      | refine CO.nil ?_
      | refine CV.seq ?_
      | refine CV.region callees ?_
      | refine CV.cond ?_
      | refine CV.block ?_
      | refine CV.skip ?_
      | refine ⟨_, ints_len (by assumption), ?_⟩
      | refine ⟨_, ints_addr (by assumption) (by omega) (by omega), ?_⟩
      | refine ⟨_, ints_load (by assumption) (by omega) (by omega), ?_⟩
      | (refine ⟨fun _ => ?_, fun _ => ?_⟩ <;> first | (exfalso; omega) | skip)
      | fail
    rw [hxi]
    repeat' first
      | fail
    refine put_ask (i := x.toNat) (y := (i : Int)) hoy (by omega) (by omega) ?_
    intro H4 ho4 kb4
    have l4 := kb4.le
    have hf4 := (kb4.get b0 (by omega) (hbne b0 (by omega))).trans hfy
    have hr4 := (kb4.get b1 (by omega) (hbne b1 (by omega))).trans hry
    have hg4 := (kb4.get b3 (by omega) (hbne b3 (by omega))).trans hgy
    have k4 : Keep H H4 := kb4.keep ky fun c hc => by rw [hblk] at hc; cases hc; omega
    have hu4 : OwnC H4 u (onlyC cs (c.take i)) H3.n := ownS_keepBt huy kb4 fun q hq h => by rw [hblk] at h; cases h; have := (huy.lt hq).1; omega
    have hc4 := hc.keep k4
    clear hIy hqy
    have hq4 : Ints H4 qv c := Row.keep hq k4
    have hgN : (H4.new (.cells (Col cs[x.toNat]!) 32 2)).get b3 = some (.cells (Fl u nilS) 25 1) := ((Keep.new H4 _).2 b3 (by omega)).trans hg4
    have kN := Keep.new H4 (.cells (Col cs[x.toNat]!) 32 2)
    repeat' first
      | refine CO.nil ?_
      | refine CG.cons rfl ?_
      | refine ⟨_, ints_addr (by assumption) (by omega) (by omega), ?_⟩
      | refine ⟨_, ints_load (by assumption) (by omega) (by omega), ?_⟩
      | refine CV.ap callees rfl rfl [0, 1, 2, 3, 4, 5, 6, 7, 8, 9, 10] (by kernel_rfl) ?_
      | (refine ⟨_, fS foF0 (by decide), ?_⟩)
      | (refine ⟨_, cell_load ag25 hg4 rfl, ?_⟩)
      | (refine ⟨_, cell_load ag25 hf4 rfl, ?_⟩)
      | fail
    rw [hxi]
    repeat' first
      | refine CO.cons rfl ?_
      | refine CG.cons rfl ?_
      | refine CG.nil ?_
      | (refine ⟨_, cs_addr hc4 (by omega) (by omega), ?_⟩)
      | (refine ⟨_, cs_load hc4 (by omega), ?_⟩)
      | (refine ⟨_, _, co_one, ?_⟩)
      | fail
    refine co_push hu4 (by omega) (by omega) (by simp [onlyC]; omega) ?_
    intro u' H5 hu5 kb5 hf5
    have l5 := kb5.le
    have hqa : ∀ q, blkOf u = some q → H3.n ≤ q := fun q hq => (hu4.lt hq).1
    have hg5 := (kb5.get b3 (by omega) (fun h => by have := hqa _ h; omega)).trans hg4
    have hf5' := (kb5.get b0 (by omega) (fun h => by have := hqa _ h; omega)).trans hf4
    have hr5 := (kb5.get b1 (by omega) (fun h => by have := hqa _ h; omega)).trans hr4
    have ho5 : Own 3 H5 sv ((A.set x.toNat (i : Int)).map VJ) b2 := own_keepF ho4 (by omega) (fun q hq => by rw [hblk] at hq; cases hq; exact kb5.get b2 (by omega) (fun h => by have := hqa _ h; omega))
    have k5 : Keep H H5 := kb5.keep k4 fun q hq => by have := hqa _ hq; have := kx.1; omega
    repeat' first
      | refine CO.cons rfl ?_
      | (refine ⟨_, fS foF0 (by decide), ?_⟩)
      | fail
    refine ⟨_, _, store_row (i := 0) sz25 hg5 (by show 0 < 2; decide) hu5.oneC, by omega, ?_⟩
    generalize hsA : Heap.set H5 b3 _ = HA
    have hgA : HA.get b3 = some (.cells (Fl u' nilS) 25 1) := set_get hsA
    have nA := set_n hsA
    have oA := set_old hsA
    repeat' first
      | refine CO.cons rfl ?_
      | refine CO.nil ?_
      | refine CV.region callees ?_
      | refine ⟨(⟨by omega, by omega⟩ : inI64 _), ?_⟩
      | fail
    refine ⟨(i + 1, A.set x.toNat (i : Int), u'), (by repeat' first | exact trivial | refine ⟨rfl, ?_⟩ | refine ⟨slot_int (by (try simp only [Int.toNat_natCast]); omega), ?_⟩), (by (try dsimp only); omega), ?_⟩
    have kA : KeepX b3 H5 HA := ⟨by omega, fun q hq hql => oA q hql⟩
    refine ⟨by omega, by rw [List.length_set]; exact hAl, fun j hj => ?_, (oA b0 (by omega)).trans hf5', (oA b1 (by omega)).trans hr5, hgA, own_keepN ho5 kA (by rw [hblk]; intro h; cases h; omega), by rw [onlyC_snoc hi2, hx]; exact OwnS.keepX hu5 kA hg5, ⟨by have := k5.1; omega, fun p hp => (oA p (by have := kx.1; omega)).trans (k5.2 p hp)⟩, by omega⟩
    rw [getS (by omega), List.take_add_one, List.getElem?_eq_getElem hi2]
    have e2 : c.take i ++ (some c[i]).toList = c.take i ++ [x] := by rw [← hx, getElem!_pos c i hi2]; rfl
    rw [e2, posI_snoc hno, List.length_take, Nat.min_eq_left (by omega)]
    by_cases e : x.toNat = j
    · rw [if_pos e, if_pos (by omega)]
    · rw [if_neg e, if_neg (by omega)]; exact hA j hj
  obtain rfl : i = c.length := by omega
  rw [List.take_length] at huy hA
  repeat' first
    | refine CO.cons rfl ?_
    | refine CO.nil ?_
    | refine CV.seq ?_
    | refine CV.region callees ?_
    | refine CV.cond ?_
    | refine CV.block ?_
    | refine CV.exit ?_
    | refine ⟨_, ints_len (by assumption), ?_⟩
    | (refine ⟨fun _ => ?_, fun _ => ?_⟩ <;> first | (exfalso; omega) | skip)
    | fail
  refine CV.loopc ?_
  refine WCv.rounds callees false (α := Nat × Value) (fun (i, w) => [(1, qv), (2, .pointer (some ⟨b0, 0, none⟩)), (4, .pointer (some ⟨b1, 0, none⟩)), (5, sv), (7, .pointer (some ⟨b3, 0, none⟩)), (9, VJ i)]) (fun (i, w) Hz => i ≤ ts.length ∧ KeepX b3 Hy Hz ∧ Hz.get b3 = some (.cells (Fl u w) 25 1) ∧ OwnT Hz w (onlyT (ts.take i) c) Hy.n) (fun (i, w) => ts.length - i) (0, nilS) (by repeat' first | exact trivial | refine ⟨rfl, ?_⟩ | refine ⟨slot_int (by (try simp only [Int.toNat_natCast]); omega), ?_⟩) ?_ ?_
  · exact ⟨by omega, ⟨Nat.le_refl _, fun _ _ _ => rfl⟩, hgy, OwnS.nil⟩
  clear hIy hqy
  rintro ⟨i, w⟩ Hw ⟨hi, xw, hgw, hw⟩ hBw
  have lw := xw.1
  have kw : Keep H Hw := ⟨by have := ky.1; omega, fun q hq => (xw.2 q (by omega) (by have := kx.1; omega)).trans (ky.2 q hq)⟩
  have hfw := (xw.2 b0 (by omega) (by omega)).trans hfy
  have hrw := (xw.2 b1 (by omega) (by omega)).trans hry
  have htw := ht.keep kw
  have how : Own 3 Hw sv (A.map VJ) b2 := hoy.keepX xw hgy
  have hIw : Ints Hw sv A := how.row
  have huw : OwnC Hw u (onlyC cs c) H3.n := OwnS.keepX huy xw hgy
  by_cases hi2 : i < ts.length
  · obtain ⟨x, hx⟩ : ∃ x, ts[i]! = x := ⟨_, rfl⟩
    have hti := hf.t i hi2
    rw [hx] at hti
    have hxi : ts[(i : Int).toNat]! = x := hx
    have ta := (ts_a htw hi2)
    have tb := (ts_b htw hi2)
    rw [hx] at ta tb
    have ea : A[x.1.toNat]! = posI c x.1 := by rw [hA _ (by omega)]; congr 1; omega
    have eb : A[x.2.toNat]! = posI c x.2 := by rw [hA _ (by omega)]; congr 1; omega
    obtain ⟨pa, hpa⟩ : ∃ p, posI c x.1 = p := ⟨_, rfl⟩
    obtain ⟨pb, hpb⟩ : ∃ p, posI c x.2 = p := ⟨_, rfl⟩
    rw [hpa] at ea
    rw [hpb] at eb
    have hpt : posT c x = if 0 ≤ pa ∧ 0 ≤ pb then [(pa, pb)] else [] := by unfold posT; rw [hpa, hpb]
    have hol : (onlyT (ts.take i) c).length ≤ 40 := Nat.le_trans onlyT_len (by rw [List.length_take]; omega)
    by_cases hp : 0 ≤ pa ∧ 0 ≤ pb
    · obtain ⟨hp1, hp2⟩ := hp
      have hgM : (Hw.new (.cells (Hl (pa, pb)) 99 2)).get b3 = some (.cells (Fl u w) 25 1) := ((Keep.new Hw _).2 b3 (by omega)).trans hgw
      repeat' first
        | refine CO.cons rfl ?_
        | refine CO.nil ?_
        | refine CV.seq ?_
        | refine CV.region callees ?_
        | refine CV.cond ?_
        | refine CV.block ?_
        | refine CV.skip ?_
        | refine CV.draw callees (by decide +kernel) ?_
        | refine CH.cons rfl ?_
        | refine CH.nil ?_
        | refine CO.consG rfl ?_
        | refine ⟨_, ints_addr (by assumption) (by omega) (by omega), ?_⟩
        | refine ⟨_, ints_load (by assumption) (by omega) (by omega), ?_⟩
        | (refine ⟨_, fS foF1 (by decide), ?_⟩)
        | (refine ⟨_, cell_load ag26 hfw rfl, ?_⟩)
        | (refine ⟨_, cell_load ag26 hgw rfl, ?_⟩)
        | (refine ⟨_, ts_len htw, ?_⟩)
        | (refine ⟨_, ts_addr htw (by omega) (by omega), ?_⟩)
        | (refine ⟨_, ts_f htw foT0 (by decide) hi2, ?_⟩)
        | (refine ⟨_, ts_f htw foT1 (by decide) hi2, ?_⟩)
        | (refine ⟨_, ta, ?_⟩)
        | (refine ⟨_, tb, ?_⟩)
        | (refine ⟨_, bu82, ?_⟩)
        | (refine ⟨_, _, to_one, ?_⟩)
        | (refine ⟨fun _ => ?_, fun _ => ?_⟩ <;> first | (exfalso; omega) | skip)
        | fail
      rw [ea, eb]
      refine to_push hw (by omega) (by omega) (by omega) ?_
      intro w' H7 hw7 kb7 hf7
      have l7 := kb7.le
      have hqa : ∀ q, blkOf w = some q → Hy.n ≤ q := fun q hq => (hw.lt hq).1
      have hg7 := (kb7.get b3 (by omega) (fun h => by have := hqa _ h; omega)).trans hgw
      have x7 := kb7.keepX xw fun q hq => by have := hqa _ hq; omega
      repeat' first
        | refine CO.cons rfl ?_
        | (refine ⟨_, fS foF1 (by decide), ?_⟩)
        | fail
      refine ⟨_, _, store_row (i := 1) sz26 hg7 (by show 1 < 2; decide) hw7.oneC, by omega, ?_⟩
      generalize hsA : Heap.set H7 b3 _ = HA
      have hgA : HA.get b3 = some (.cells (Fl u w') 25 1) := set_get hsA
      have nA := set_n hsA
      have oA := set_old hsA
      repeat' first
        | refine CO.cons rfl ?_
        | refine CO.nil ?_
        | refine CV.region callees ?_
        | refine ⟨(⟨by omega, by omega⟩ : inI64 _), ?_⟩
        | fail
      refine ⟨(i + 1, w'), (by repeat' first | exact trivial | refine ⟨rfl, ?_⟩ | refine ⟨slot_int (by (try simp only [Int.toNat_natCast]); omega), ?_⟩), (by (try dsimp only); omega), ?_⟩
      have kA : KeepX b3 H7 HA := ⟨by omega, fun q hq hql => oA q hql⟩
      exact ⟨by omega, x7.trans kA, hgA, by rw [onlyT_snoc hi2, hx, hpt, if_pos ⟨hp1, hp2⟩]; exact OwnS.keepX hw7 kA hg7⟩
    · have hT : onlyT (ts.take (i + 1)) c = onlyT (ts.take i) c := by rw [onlyT_snoc hi2, hx, hpt, if_neg hp, List.append_nil]
      by_cases hp1 : 0 ≤ pa
      · have hp2 : ¬ 0 ≤ pb := fun h => hp ⟨hp1, h⟩
        repeat' first
          | refine CO.cons rfl ?_
          | refine CO.nil ?_
          | refine CV.seq ?_
          | refine CV.region callees ?_
          | refine CV.cond ?_
          | refine CV.block ?_
          | refine CV.skip ?_
          | refine CV.draw callees (by decide +kernel) ?_
          | refine CH.cons rfl ?_
          | refine CH.nil ?_
          | refine CO.consG rfl ?_
          | refine ⟨_, ints_addr (by assumption) (by omega) (by omega), ?_⟩
          | refine ⟨_, ints_load (by assumption) (by omega) (by omega), ?_⟩
          | refine ⟨(⟨by omega, by omega⟩ : inI64 _), ?_⟩
          | (refine ⟨_, fS foF1 (by decide), ?_⟩)
          | (refine ⟨_, cell_load ag26 hfw rfl, ?_⟩)
          | (refine ⟨_, ts_len htw, ?_⟩)
          | (refine ⟨_, ts_addr htw (by omega) (by omega), ?_⟩)
          | (refine ⟨_, ts_f htw foT0 (by decide) hi2, ?_⟩)
          | (refine ⟨_, ts_f htw foT1 (by decide) hi2, ?_⟩)
          | (refine ⟨_, ta, ?_⟩)
          | (refine ⟨_, tb, ?_⟩)
          | (refine ⟨fun _ => ?_, fun _ => ?_⟩ <;> first | (exfalso; omega) | skip)
          | fail
        refine ⟨(i + 1, w), (by repeat' first | exact trivial | refine ⟨rfl, ?_⟩ | refine ⟨slot_int (by (try simp only [Int.toNat_natCast]); omega), ?_⟩), (by (try dsimp only); omega), ?_⟩
        exact ⟨by omega, xw, hgw, by rw [hT]; exact hw⟩
      · repeat' first
          | refine CO.cons rfl ?_
          | refine CO.nil ?_
          | refine CV.seq ?_
          | refine CV.region callees ?_
          | refine CV.cond ?_
          | refine CV.block ?_
          | refine CV.skip ?_
          | refine CV.draw callees (by decide +kernel) ?_
          | refine CH.cons rfl ?_
          | refine CH.nil ?_
          | refine CO.consG rfl ?_
          | refine ⟨_, ints_addr (by assumption) (by omega) (by omega), ?_⟩
          | refine ⟨_, ints_load (by assumption) (by omega) (by omega), ?_⟩
          | refine ⟨(⟨by omega, by omega⟩ : inI64 _), ?_⟩
          | (refine ⟨_, fS foF1 (by decide), ?_⟩)
          | (refine ⟨_, cell_load ag26 hfw rfl, ?_⟩)
          | (refine ⟨_, ts_len htw, ?_⟩)
          | (refine ⟨_, ts_addr htw (by omega) (by omega), ?_⟩)
          | (refine ⟨_, ts_f htw foT0 (by decide) hi2, ?_⟩)
          | (refine ⟨_, ts_f htw foT1 (by decide) hi2, ?_⟩)
          | (refine ⟨_, ta, ?_⟩)
          | (refine ⟨_, tb, ?_⟩)
          | (refine ⟨fun _ => ?_, fun _ => ?_⟩ <;> first | (exfalso; omega) | skip)
          | fail
        refine ⟨(i + 1, w), (by repeat' first | exact trivial | refine ⟨rfl, ?_⟩ | refine ⟨slot_int (by (try simp only [Int.toNat_natCast]); omega), ?_⟩), (by (try dsimp only); omega), ?_⟩
        exact ⟨by omega, xw, hgw, by rw [hT]; exact hw⟩
  obtain rfl : i = ts.length := by omega
  rw [List.take_length] at hw
  repeat' first
    | refine CO.cons rfl ?_
    | refine CO.nil ?_
    | refine CV.seq ?_
    | refine CV.region callees ?_
    | refine CV.cond ?_
    | refine CV.exit ?_
    | (refine ⟨_, fS foF1 (by decide), ?_⟩)
    | (refine ⟨_, cell_load ag26 hfw rfl, ?_⟩)
    | (refine ⟨_, ts_len htw, ?_⟩)
    | (refine ⟨_, ld28 hgw, ?_⟩)
    | (refine ⟨fun _ => ?_, fun _ => ?_⟩ <;> first | (exfalso; omega) | skip)
    | fail
  refine ⟨_, _, st28 huw.oneC hw.oneC hrw, by omega, ?_⟩
  generalize hsz : Heap.set Hw b1 _ = Hz
  have hgz : Hz.get b1 = some (.cells (Fl u w) 25 1) := set_get hsz
  have nz := set_n hsz
  have oz := set_old hsz
  repeat' first
    | refine CO.nil ?_
    | refine CV.ret ?_
    | fail
  have kz : KeepX b1 Hw Hz := ⟨by omega, fun q hq hql => oz q hql⟩
  exact ⟨_, ld28 hgz, rfl, ⟨u, w, rfl, OwnS.low (OwnS.keepX huw kz hrw) (by omega), OwnS.low (OwnS.keepX hw kz hrw) (by have := ky.1; omega)⟩, keep_put kw (by omega) oz nz⟩
end Go.Proofs.Ytglkphjjinmgmaa

