
/- HearthWarmth. -/
import Derived.Test.YtglkphjjinmgmaaXeh
import Derived.Test.YtglkphjjinmgmaaWuh
set_option linter.unusedVariables false
set_option linter.unusedSimpArgs false
namespace Go.Proofs.Ytglkphjjinmgmaa
open Go.AI
theorem po_la {H : Heap} {v : Value} {l : List Po} (h : RowS 3 H v (l.map Pol)) {j : Nat} (hj : j < l.length) : aload Try.prog 3 H (fieldOf (elemS v 3 j) 1) = some (VJ l[j]!.la) := h.fload ag3 (j := j) (o := 1) (r := Pol l[j]!) (po_at hj) rfl
theorem rnd01 {n p : Int} (hp : 1 ≤ p) : rnd n p 0 ≤ rnd n p 1 := by
  rw [rnd0, rnd1]
  exact Int.ediv_le_ediv (by omega) (by omega)
theorem hot01 {k : Ke} {la x y : Int} (h : 1 ≤ la) : (hotN k (wAt la x) (y, y)).w0 ≤ (hotN k (wAt la x) (y, y)).w1 := by
  have := rnd01 (n := hotS k x y la) (p := la * 1000000) (by omega)
  show min (rnd (hotS k x y la) (la * 1000000) 0) 1000 ≤ min (rnd (hotS k x y la) (la * 1000000) 1) 1000
  omega
theorem pour01 {la x : Int} {p : Po} (h : 1 ≤ la + p.la) : (pourN (wAt la x) p).w0 ≤ (pourN (wAt la x) p).w1 := by
  unfold pourN
  split
  · exact rnd01 h
  · exact Int.le_refl _
/-- Water at the head of a minute, before it is heated. -/
def curM (k : Ke) (E : List Em) (ps : List Po) : Nat → Wt × List Po
  | 0 => befM k E ps 0
  | m + 1 => aftM k E ps m
theorem ver1 {k : Ke} {w : Int × Int} {x : Int} (h0 : w.1 ≤ x) (h1 : x ≤ w.2) (h : verN k w = 1) : k.si ≤ x ∧ x ≤ k.bo := by
  unfold verN at h
  split at h
  · omega
  · split at h <;> omega
theorem ver2 {k : Ke} {w : Int × Int} {x : Int} (h0 : w.1 ≤ x) (h1 : x ≤ w.2) (h : verN k w = 2) : x < k.si ∨ k.bo < x := by
  unfold verN at h
  split at h
  · omega
  · split at h <;> omega
set_option maxHeartbeats 16000000 in
set_option maxRecDepth 100000 in
theorem warmth_spec {v : Value} {H : Heap} {nums : List Int} (hv : Ints H v nums) (hx : nums.length ≤ 9223372036854775807) :
    CallB Try.prog H.n 8 [v] H (fun r _ => r = .bool true) := by
  have hn : H.n ≤ H.n := Nat.le_refl _
  refine CV.enter callees false rfl Try.func8 rfl (by kernel_rfl) (Nat.le_of_ble_eq_true rfl) hn ?_
  repeat' first
    | refine CO.cons rfl ?_
    | refine CO.nil ?_
    | refine CV.seq ?_
    | refine CV.region callees ?_
    | fail
  refine (boxOf_spec hn hv hx).mono ?_
  rintro r H1 ⟨⟨b, rfl, hb, hbox⟩, k1⟩
  have l1 := k1.1
  repeat' first
    | refine CO.cons rfl ?_
    | refine CO.nil ?_
    | refine CV.seq ?_
    | refine CV.region callees ?_
    | fail
  refine (fireOf_spec hb l1 hbox (by omega) (by omega)).mono ?_
  rintro r H2 ⟨⟨cv, tv, cs, ts, rfl, hc2, ht2, hf, hcn, hcs⟩, hb2, x2⟩
  have l2 := x2.1
  have hbn := hbox.1
  have hbn2 := hb2.1
  repeat' first
    | refine CO.cons rfl ?_
    | fail
  refine (kettleOf_spec hb (by omega) hb2).mono ?_
  rintro r H3 ⟨⟨k, rfl, hk, hwa⟩, hb3, x3⟩
  have l3 := x3.1
  have hc3 : OwnC H3 cv cs _ := OwnS.boxed hc2 x3 hb2
  have ht3 : OwnT H3 tv ts _ := OwnS.boxed ht2 x3 hb2
  repeat' first
    | refine CO.cons rfl ?_
    | (refine ⟨_, _, al28, ?_⟩)
    | fail
  generalize hs4 : Heap.new H3 _ = H4
  have hg4 := new_get hs4
  have k4 := new_keep hs4
  have n4 := new_n hs4
  obtain ⟨b4, hbn4⟩ : ∃ b, Heap.n H3 = b := ⟨_, rfl⟩
  rw [hbn4] at hg4 n4 ⊢
  repeat' first
    | refine CO.cons rfl ?_
    | (refine ⟨_, _, al51, ?_⟩)
    | fail
  generalize hs5 : Heap.new H4 _ = H5
  have hg5 := new_get hs5
  have k5 := new_keep hs5
  have n5 := new_n hs5
  obtain ⟨b5, hbn5⟩ : ∃ b, Heap.n H4 = b := ⟨_, rfl⟩
  rw [hbn5] at hg5 n5 ⊢
  have hg45 := (k5.2 b4 (by omega)).trans hg4
  repeat' first
    | fail
  refine ⟨_, _, st28 hc3.oneC ht3.oneC hg45, by omega, ?_⟩
  generalize hs6 : Heap.set H5 b4 _ = H6
  have hg6 : H6.get b4 = some (.cells (Fl cv tv) 25 1) := set_get hs6
  have n6 := set_n hs6
  have o6 := set_old hs6
  have hg56 := (o6 b5 (by omega)).trans hg5
  repeat' first
    | refine CO.cons rfl ?_
    | fail
  refine ⟨_, _, st51 hg56, by omega, ?_⟩
  generalize hs7 : Heap.set H6 b5 _ = H7
  have hg7 : H7.get b5 = some (.cells (Kel k) 29 1) := set_get hs7
  have n7 := set_n hs7
  have o7 := set_old hs7
  have hf7 := (o7 b4 (by omega)).trans hg6
  have k37 : Keep H3 H7 := keep_put (keep_put (k4.trans k5) (by omega) o6 n6) (by omega) o7 n7
  have l7 := k37.1
  have hb7 := hb3.keep k37
  have hc7 : OwnC H7 cv cs _ := OwnS.keep hc3 k37
  have ht7 : OwnT H7 tv ts _ := OwnS.keep ht3 k37
  repeat' first
    | refine CO.cons rfl ?_
    | refine CO.nil ?_
    | refine CV.seq ?_
    | refine CV.region callees ?_
    | (refine ⟨_, ld51 hg7, ?_⟩)
    | fail
  refine (poursOf_spec hb (by omega) hb7 hk (by omega) (by omega) (by omega) (by omega)).mono ?_
  rintro pv H8 ⟨⟨ps, hp8, hpo, hpn⟩, hb8, x8⟩
  have l8 := x8.1
  have hk8 := (x8.2 b5 (by omega) (by omega)).trans hg7
  have hf8 := (x8.2 b4 (by omega) (by omega)).trans hf7
  have hc8 : OwnC H8 cv cs _ := OwnS.boxed hc7 x8 hb7
  have ht8 : OwnT H8 tv ts _ := OwnS.boxed ht7 x8 hb7
  repeat' first
    | refine CO.cons rfl ?_
    | fail
  refine (up_spec hb (by omega) hb8 (by omega)).mono ?_
  rintro r H9 ⟨⟨mi, rfl, mi1, mi2⟩, hb9, x9⟩
  have l9 := x9.1
  obtain ⟨mN, hmN⟩ : ∃ mN : Nat, mi = (mN : Int) := ⟨mi.toNat, by omega⟩
  subst hmN
  have hk9 := (x9.2 b5 (by omega) (by omega)).trans hk8
  have hf9 := (x9.2 b4 (by omega) (by omega)).trans hf8
  have hc9 : OwnC H9 cv cs _ := OwnS.boxed hc8 x9 hb8
  have ht9 : OwnT H9 tv ts _ := OwnS.boxed ht8 x9 hb8
  have hp9 : OwnO H9 pv ps H7.n := OwnS.boxed hp8 x9 hb8
  repeat' first
    | refine CO.cons rfl ?_
    | refine CO.nil ?_
    | refine CV.seq ?_
    | fail
  refine CV.al callees rfl 6 [(0, []), (1, []), (3, []), (4, []), (2, [4]), (5, []), (6, []), (7, []), (8, [])] (by kernel_rfl) rfl al31 ?_
  repeat' first
    | refine CR.cons ?_
    | (refine ⟨_, ld28 hf9, ?_⟩)
    | fail
  refine (burningOf_spec hb (by omega) hb9 hc9 ht9 hf).mono ?_
  rintro r Ha ⟨⟨u, w, U, V, rfl, hua, hwa', hUl, hVl, hUV⟩, hba, xa⟩
  have la := xa.1
  have hka := (xa.2 b5 (by omega) (by omega)).trans hk9
  have hfa := (xa.2 b4 (by omega) (by omega)).trans hf9
  have hca : OwnC Ha cv cs _ := OwnS.boxed hc9 xa hb9
  have hta : OwnT Ha tv ts _ := OwnS.boxed ht9 xa hb9
  have hpa : OwnO Ha pv ps H7.n := OwnS.boxed hp9 xa hb9
  repeat' first
    | refine CR.cons ?_
    | (refine ⟨_, ld28 hfa, ?_⟩)
    | (refine ⟨(rfl : _ = Fv cv tv), ?_⟩)
    | (refine ⟨same_fv hca hta, ?_⟩)
    | fail
  refine (heatsOf_spec hb (by omega) hba hca hta hf).mono ?_
  rintro ev Hc ⟨⟨Es, hec, hEl, hE⟩, hbc, xc⟩
  have lc := xc.1
  have hkc := (xc.2 b5 (by omega) (by omega)).trans hka
  have hfc := (xc.2 b4 (by omega) (by omega)).trans hfa
  have hcc : OwnC Hc cv cs _ := OwnS.boxed hca xc hba
  have htc : OwnT Hc tv ts _ := OwnS.boxed hta xc hba
  have hpc : OwnO Hc pv ps H7.n := OwnS.boxed hpa xc hba
  have huc := hua.box xc hba
  have hwc := hwa'.box xc hba
  repeat' first
    | refine CR.cons ?_
    | (refine ⟨_, _, al31, ?_⟩)
    | fail
  generalize hsd : Heap.new Hc _ = Hd
  have hgd := new_get hsd
  have kd := new_keep hsd
  have nd := new_n hsd
  obtain ⟨bd, hbnd⟩ : ∃ b, Heap.n Hc = b := ⟨_, rfl⟩
  rw [hbnd] at hgd nd ⊢
  repeat' first
    | fail
  refine ⟨_, _, st31 (own_oneC huc) (own_oneC hwc) hgd, by omega, ?_⟩
  generalize hse : Heap.set Hd bd _ = He
  have hge : He.get bd = some (.cells (Fl u w) 71 1) := set_get hse
  have ne := set_n hse
  have oe := set_old hse
  have ke : Keep Hc He := keep_put kd (by omega) oe ne
  have le := ke.1
  have hke := (ke.2 b5 (by omega)).trans hkc
  have hfe := (ke.2 b4 (by omega)).trans hfc
  have hce : OwnC He cv cs _ := hcc.keep ke
  have hte : OwnT He tv ts _ := htc.keep ke
  have hpe : OwnO He pv ps H7.n := OwnS.keep hpc ke
  have hue := huc.keep ke
  have hwe := hwc.keep ke
  have hee := hec.keep ke
  have hbe := hbc.keep ke
  obtain ⟨B0, hB0⟩ := isBeg_ex (e := 0) hf
  obtain ⟨B1, hB1⟩ := isBeg_ex (e := 1) hf
  have hfm := mkC_ok hf hUV
  obtain ⟨A, hA⟩ := isBeg_ex (e := 0) hfm
  have hml := mkC_len (cs := cs) (U := U) (V := V)
  have hin := beg_in hf hUV hB0 hB1 hA
  have hAl := hA.len
  have hAlo := hA.lo
  have hu8 : Ints He u U := hue.row
  have hw8 : Ints He w V := hwe.row
  repeat' first
    | refine CO.cons rfl ?_
    | refine CV.seq ?_
    | refine CV.region callees ?_
    | refine CR.cons ?_
    | refine CR.nil ?_
    | (refine ⟨_, ld28 hfe, ?_⟩)
    | (refine ⟨_, ld31 hge, ?_⟩)
    | fail
  refine (truly_spec (cs := cs) (cs' := mkC cs U V) (e := 0) (by omega) hce.row hte.row hte.same (by rw [mkC_ca hUl]; exact hu8) (by rw [mkC_bu hVl]; exact hw8) mkC_len (fun i hi => by rw [mkC_at hi]) hfm (by omega) (fun i hi => by
    rw [hml] at hi
    rw [mkC_at hi]
    show U[i]! ≤ 8
    have h1 := (hcs i hi).c8; have h2 := (hUV i hi).1; omega) hA).mono ?_
  rintro av Hf ⟨haf, kf⟩
  have lf := kf.1
  have hEl12 : (emL cs B0 B1).length ≤ 12 := by rw [emL_len]; exact hf.n
  have hEmo := emL_ok hf hB0 hB1
  have hht := fun m : Int => heat_in (m := m) (fun i hi => (hf.c i hi).h1) hUV hin hE
  repeat' first
    | refine CO.cons rfl ?_
    | refine CO.nil ?_
    | refine CV.seq ?_
    | refine CV.region callees ?_
    | (refine ⟨_, ld51 ((kf.2 b5 (by omega)).trans hke), ?_⟩)
    | (refine ⟨_, ld28 ((kf.2 b4 (by omega)).trans hfe), ?_⟩)
    | fail
  refine (run_spec (m := mN) (by omega) hk (hce.keep kf).row (hte.keep kf).row (OwnS.keep hpe kf).row hpo hpe.same hf hB0 hB1 (by omega)).mono ?_
  rintro r Hg ⟨⟨q1, rfl, hq1⟩, kg⟩
  have lg := kg.1
  have kfg := kf.trans kg
  repeat' first
    | refine CO.cons rfl ?_
    | refine CO.nil ?_
    | refine CV.seq ?_
    | refine CV.region callees ?_
    | (refine ⟨_, ld51 ((kfg.2 b5 (by omega)).trans hke), ?_⟩)
    | (refine ⟨_, ld28 ((kfg.2 b4 (by omega)).trans hfe), ?_⟩)
    | fail
  refine (sings_spec (m := mN) (by omega) hk (hce.keep kfg).row (hte.keep kfg).row (OwnS.keep hpe kfg).row hpo hpe.same hf hB0 hB1 (by omega)).mono ?_
  rintro r Hh ⟨⟨q2, rfl, hq2⟩, kh⟩
  have lh := kh.1
  have kfh := kfg.trans kh
  obtain ⟨E, hEE⟩ : ∃ E, emL cs B0 B1 = E := ⟨_, rfl⟩
  rw [hEE] at hq1 hq2 hEl12 hEmo
  have hht' : ∀ m : Int, (heatL E m).1 ≤ trueH V A Es m cs.length ∧ trueH V A Es m cs.length ≤ (heatL E m).2 := fun m => by rw [← hEE]; exact hht m
  clear hht
  have hq1h : OwnSp Hh q1 (warmL k E ps (mN + 1)) Hf.n := OwnS.keep hq1 kh
  have hq2i : Ints Hh q2 (verL k E ps (mN + 1)) := hq2.row
  have w1 := warmL_len (k := k) (E := E) (ps := ps) (n := mN + 1)
  have w2 := verL_len (k := k) (E := E) (ps := ps) (n := mN + 1)
  have hkh := (kfh.2 b5 (by omega)).trans hke
  have hrh := (kfh.2 bd (by omega)).trans hge
  have hbh := hbe.keep kfh
  have hph : OwnO Hh pv ps H7.n := OwnS.keep hpe kfh
  have huh := hue.keep kfh
  have hwh := hwe.keep kfh
  have heh := hee.keep kfh
  have hah := haf.keep (kg.trans kh)
  have hbhn := hbh.1
  repeat' first
    | refine CO.cons rfl ?_
    | refine CO.nil ?_
    | refine CV.seq ?_
    | refine CV.region callees ?_
    | refine CV.cond ?_
    | refine CV.skip ?_
    | refine CO.consG rfl ?_
    | refine ⟨_, ints_len (by assumption), ?_⟩
    | refine ⟨(⟨by omega, by omega⟩ : inI64 _), ?_⟩
    | (refine ⟨_, sp_len hq1h.row, ?_⟩)
    | (refine ⟨fun _ => ?_, fun _ => ?_⟩ <;> first | (exfalso; omega) | skip)
    | fail
  refine CV.mX callees (by decide +kernel) [(0, []), (1, []), (2, []), (4, []), (5, []), (3, [5]), (6, [5]), (7, []), (8, [])] (by kernel_rfl) ?_
  repeat' first
    | refine CR.cons ?_
    | (refine ⟨_, fS foK1 (by decide), ?_⟩)
    | (refine ⟨_, fS foK0 (by decide), ?_⟩)
    | (refine ⟨_, agg_load ag41 sz41 hkh (Nat.le_of_ble_eq_true rfl), ?_⟩)
    | (refine ⟨_, cell_load ag3 hkh rfl, ?_⟩)
    | fail
  refine (in_spec (p := (k.wl, k.wh)) hb (by omega) hbh hk.wl hk.wm (by have := hk.wh; show k.wh < 100000; omega)).mono ?_
  rintro r Hi ⟨⟨x0, rfl, x01, x02⟩, hbi, xi⟩
  have li := xi.1
  have hEb : ∀ i, i < cs.length → 0 ≤ Es[i]! ∧ Es[i]! ≤ 1000 := fun i hi => ⟨by have h1 := (hf.c i hi).h1; have h2 := (hE i hi).1; omega, by have h1 := (hf.c i hi).h3; have h2 := (hE i hi).2; omega⟩
  have hVb : ∀ i, i < cs.length → 0 ≤ V[i]! ∧ V[i]! ≤ 1000 := fun i hi => ⟨by have h1 := (hf.c i hi).b1; have h2 := (hUV i hi).2.1; omega, by have h1 := (hf.c i hi).b3; have h2 := (hUV i hi).2.2; omega⟩
  have hAb : ∀ i, i < cs.length → 0 ≤ A[i]! ∧ A[i]! ≤ 1000000 := fun i hi => hAlo i (by omega)
  have hcs12 := hf.n
  have hAn : A.length = cs.length := by omega
  have hki := (xi.2 b5 (by omega) (by omega)).trans hkh
  repeat' first
    | refine CO.cons rfl ?_
    | refine CO.nil ?_
    | refine CV.seq ?_
    | refine CV.region callees ?_
    | refine CV.block ?_
    | refine CR.cons ?_
    | refine CR.nil ?_
    | (refine ⟨_, cell_load ag3 hki rfl, ?_⟩)
    | (refine ⟨(rfl : _ = Value.int _ _), ?_⟩)
    | (refine ⟨same_int, ?_⟩)
    | fail
  clear hu8 hw8 hfm hin hA hml hAl hAlo hUV hE hB0 hB1 hcs
  refine CV.loopc ?_
  refine WCv.rounds callees false (α := Nat × Nat × Int × Int × Wt) (fun (m, j, x, lw, w) => [(3, bp b), (4, .pointer (some ⟨b4, 0, none⟩)), (5, .pointer (some ⟨b5, 0, none⟩)), (6, pv), (7, VJ (mN : Int)), (8, .pointer (some ⟨bd, 0, none⟩)), (9, ev), (10, av), (11, q1), (13, q2), (15, VJ x), (16, VJ lw), (17, VJ j), (18, VJ m)]) (fun (m, j, x, lw, w) Hz => m ≤ mN + 1 ∧ curM k E ps m = (w, ps.drop j) ∧ WS k ps j w ∧ lw = w.la ∧ (w.w0 ≤ x ∧ x ≤ w.w1) ∧ Box b Hz ∧ KeepX b Hh Hz) (fun (m, j, x, lw, w) => mN + 1 - m) (0, 0, x0, k.wa, ⟨k.wa, k.wl, k.wh⟩) (by repeat' first | exact trivial | refine ⟨rfl, ?_⟩ | refine ⟨slot_int (by (try simp only [Int.toNat_natCast]); omega), ?_⟩) ?_ ?_
  · exact ⟨by omega, rfl, WS.zero hk, rfl, ⟨x01, x02⟩, hbi, xi⟩
  rintro ⟨m, j, x, lw, w⟩ Hx ⟨hm, hcur, hws, hlw, hxw, hbx, xx⟩ hBx
  by_cases hm2 : m ≤ mN
  · repeat' first
      | refine CO.cons rfl ?_
      | refine CO.nil ?_
      | refine CV.seq ?_
      | refine CV.region callees ?_
      | (refine ⟨fun _ => ?_, fun _ => ?_⟩ <;> first | (exfalso; omega) | skip)
      | fail
    refine CV.cond ?_
    refine CV.skip ?_
    refine CV.seq ?_
    refine CV.block ?_
    refine CV.seq ?_
    refine CV.midK (α := Int × Wt) (fun (x, w) => [(3, bp b), (4, .pointer (some ⟨b4, 0, none⟩)), (5, .pointer (some ⟨b5, 0, none⟩)), (6, pv), (7, VJ (mN : Int)), (8, .pointer (some ⟨bd, 0, none⟩)), (9, ev), (10, av), (11, q1), (13, q2), (15, VJ x), (16, VJ lw), (17, VJ j), (18, VJ m)]) (fun (x, w) Hz => befM k E ps m = (w, ps.drop j) ∧ WS k ps j w ∧ lw = w.la ∧ (w.w0 ≤ x ∧ x ≤ w.w1) ∧ Box b Hz ∧ KeepX b Hh Hz) ?_ ?_
    · by_cases hm0 : m = 0
      · subst hm0
        repeat' first
          | refine CO.cons rfl ?_
          | refine CO.nil ?_
          | refine CV.seq ?_
          | refine CV.region callees ?_
          | refine CV.cond ?_
          | refine CV.skip ?_
          | (refine ⟨fun _ => ?_, fun _ => ?_⟩ <;> first | (exfalso; omega) | skip)
          | fail
        refine ⟨((x, w)), (by repeat' first | exact trivial | refine ⟨rfl, ?_⟩), ?_⟩
        exact ⟨hcur, hws, hlw, hxw, hbx, xx⟩
      · obtain ⟨m', rfl⟩ : ∃ m', m = m' + 1 := ⟨m - 1, by omega⟩
        subst hlw
        have hcur' : aftM k E ps m' = (w, ps.drop j) := hcur
        have lx := xx.1
        have hkx := (xx.2 b5 (by omega) (by omega)).trans hkh
        have hrx := (xx.2 bd (by omega) (by omega)).trans hrh
        have hux : Ints Hx u U := (huh.box xx hbh).row
        have hwx : Ints Hx _ V := (hwh.box xx hbh).row
        have hax : Ints Hx av A := (hah.box xx hbh).row
        have hex : Ints Hx ev Es := (heh.box xx hbh).row
        have o0 := hws.ok
        have o1 := o0.w0
        have o2 := o0.w1'
        have o3 := o0.la
        have o4 := o0.la'
        repeat' first
          | refine CO.cons rfl ?_
          | refine CO.nil ?_
          | refine CV.seq ?_
          | refine CV.region callees ?_
          | refine CV.cond ?_
          | (refine ⟨fun _ => ?_, fun _ => ?_⟩ <;> first | (exfalso; omega) | skip)
          | fail
        refine CV.wideR callees (by decide +kernel) [(0, []), (1, []), (2, []), (3, []), (4, []), (5, []), (6, []), (7, []), (8, []), (9, [1]), (10, []), (11, []), (12, [])] (by kernel_rfl) ?_
        repeat' first
          | refine CR.cons ?_
          | refine ⟨(⟨by omega, by omega⟩ : inI64 _), ?_⟩
          | (refine ⟨_, ld51 hkx, ?_⟩)
          | (refine ⟨_, ld31 hrx, ?_⟩)
          | fail
        refine (hot_spec (n := cs.length) (m := ((m' + 1 : Nat) : Int) - 1) (by omega) hux hwx hax hex hVl hAn hEl (by omega) hVb hAb hEb).mono ?_
        rintro r Hy ⟨rfl, ky⟩
        have ly := ky.1
        have hmm : ((m' + 1 : Nat) : Int) - 1 = (m' : Int) := by omega
        rw [hmm]
        have hy := hht' (m' : Int)
        have hyb := trueH_bd (V := V) (A := A) (m := (m' : Int)) hEb cs.length (Nat.le_refl _)
        generalize trueH V A Es (m' : Int) cs.length = y at hy hyb ⊢
        repeat' first
          | refine CR.cons ?_
          | (refine ⟨_, ld51 ((ky.2 b5 (by omega)).trans hkx), ?_⟩)
          | (refine ⟨(rfl : _ = Kev k), ?_⟩)
          | (refine ⟨same_ke, ?_⟩)
          | fail
        refine (heatedR_spec (by omega) hk (by omega) (by omega) o3 o4 (by omega) (by omega)).mono ?_
        rintro r Hp ⟨rfl, kp⟩
        have lp := kp.1
        have h01 := hot01 (k := k) (la := w.la) (x := x) (y := y) o3
        have hok := hotN_ok (k := k) (w := wAt w.la x) (h := (y, y)) ⟨o3, o4, by (show 0 ≤ x); omega, by (show x ≤ 1000); omega, by (show 0 ≤ x); omega, by (show x ≤ 1000); omega⟩ hk (by (show 0 ≤ y); omega) (by (show y ≤ 12000); omega) (by (show 0 ≤ y); omega) (by (show y ≤ 12000); omega)
        have g0 := hok.w0
        have g1 := hok.w1'
        have hih := in_hot (x := x) (y := y) (h := heatL E m') hk o0 hxw.1 hxw.2 hy.1 hy.2
        have hbp := (hbx.keep ky).keep kp
        repeat' first
          | refine CR.cons ?_
          | fail
        refine (in_spec (p := ((hotN k (wAt w.la x) (y, y)).w0, (hotN k (wAt w.la x) (y, y)).w1)) hb (by omega) hbp g0 h01 (by (show (hotN k (wAt w.la x) (y, y)).w1 < 100000); omega)).mono ?_
        rintro r Hq ⟨⟨x', rfl, x1, x2⟩, hbq, xq⟩
        have hbd := heatL_bd (m := (m' : Int)) hEl12 hEmo
        repeat' first
          | refine CR.cons ?_
          | refine CR.nil ?_
          | fail
        refine ⟨((x', hotN k w (heatL E m'))), (by repeat' first | exact trivial | refine ⟨rfl, ?_⟩), ?_⟩
        exact ⟨by show (hotN k (aftM k E ps m').1 (heatL E m'), (aftM k E ps m').2) = _; rw [hcur'], ⟨hws.jl, hws.la, hotN_ok o0 hk hbd.1.1 hbd.1.2 hbd.2.1 hbd.2.2⟩, rfl, ⟨Int.le_trans hih.1 x1, Int.le_trans x2 hih.2⟩, hbq, xx.trans (((ky.trans kp).butX b).trans xq)⟩
    clear hcur hws hxw hbx xx hlw
    rintro ⟨x, w⟩ Hy ⟨hbef, hws, hlw, hxw, hby, xy⟩ hBy
    repeat' first
      | refine CV.seq ?_
      | fail
    refine CV.midK (α := Nat × Int × Int × Wt) (fun (j, x, lw, w) => [(3, bp b), (4, .pointer (some ⟨b4, 0, none⟩)), (5, .pointer (some ⟨b5, 0, none⟩)), (6, pv), (7, VJ (mN : Int)), (8, .pointer (some ⟨bd, 0, none⟩)), (9, ev), (10, av), (11, q1), (13, q2), (15, VJ x), (16, VJ lw), (17, VJ j), (18, VJ m)]) (fun (j, x, lw, w) Hz => aftM k E ps m = (w, ps.drop j) ∧ WS k ps j w ∧ lw = w.la ∧ (w.w0 ≤ x ∧ x ≤ w.w1) ∧ Box b Hz ∧ KeepX b Hh Hz) ?_ ?_
    · repeat' first
        | refine CV.block ?_
        | fail
      refine CV.loopc ?_
      refine WCv.rounds callees false (α := Nat × Int × Int × Wt) (fun (j, x, lw, w) => [(3, bp b), (4, .pointer (some ⟨b4, 0, none⟩)), (5, .pointer (some ⟨b5, 0, none⟩)), (6, pv), (7, VJ (mN : Int)), (8, .pointer (some ⟨bd, 0, none⟩)), (9, ev), (10, av), (11, q1), (13, q2), (15, VJ x), (16, VJ lw), (17, VJ j), (18, VJ m)]) (fun (j, x, lw, w) Hz => pourR m (ps.drop j) w = aftM k E ps m ∧ WS k ps j w ∧ lw = w.la ∧ (w.w0 ≤ x ∧ x ≤ w.w1) ∧ Box b Hz ∧ KeepX b Hh Hz) (fun (j, x, lw, w) => ps.length - j) (j, x, lw, w) (by repeat' first | exact trivial | refine ⟨rfl, ?_⟩ | refine ⟨slot_int (by (try simp only [Int.toNat_natCast]); omega), ?_⟩) ?_ ?_
      · exact ⟨by rw [aftM, hbef], hws, hlw, hxw, hby, xy⟩
      clear hbef hws hlw hxw hby xy
      rintro ⟨j, x, lw, w⟩ Hp ⟨haft, hws, hlw, hxw, hbp, xp⟩ hBp
      have lp := xp.1
      have hpp : RowS 3 Hp pv (ps.map Pol) := (OwnS.boxed hph xp hbh).row
      by_cases hj : j < ps.length
      · have hd := drop_at hj
        have tj : ps[(j : Int).toNat]!.la = ps[j]!.la := rfl
        have tj2 : ps[(j : Int).toNat]!.mi = ps[j]!.mi := rfl
        by_cases hmi : ps[j]!.mi = m
        · have hpj := hpo.wm j hj
          have hpl := hpo.la j hj
          have hpw := hpo.wa (j + 1) (by omega)
          have hps := watN_succ (w := k.wa) hj
          have hla := hws.la
          subst hlw
          have o0 := hws.ok
          have o1 := o0.w0
          have o2 := o0.w1'
          have o3 := o0.la
          have o4 := o0.la'
          have hpr : pourR m (ps.drop j) w = pourR m (ps.drop (j + 1)) (pourN w ps[j]!) := by rw [hd, pourR, if_pos hmi]
          repeat' first
            | refine CO.cons rfl ?_
            | refine CO.nil ?_
            | refine CV.seq ?_
            | refine CV.region callees ?_
            | refine CV.cond ?_
            | refine CV.block ?_
            | refine CV.skip ?_
            | refine CO.consG rfl ?_
            | (refine ⟨_, po_len hpp, ?_⟩)
            | (refine ⟨_, po_addr hpp (by omega) (by omega), ?_⟩)
            | (refine ⟨_, po_f hpp foO0 (by decide) hj, ?_⟩)
            | (refine ⟨_, po_min hpp hj, ?_⟩)
            | (refine ⟨_, po_load hpp hj, ?_⟩)
            | (refine ⟨fun _ => ?_, fun _ => ?_⟩ <;> first | (exfalso; omega) | skip)
            | fail
          refine (pouredR_spec (by omega) (by omega) (by omega) o3 o4 hpj.1 hpj.2 hpl.1 hpl.2.1 hpl.2.2 (by omega) (by omega)).mono ?_
          rintro r Hq ⟨rfl, kq⟩
          have lq := kq.1
          have h01 := pour01 (la := w.la) (x := x) (p := ps[j]!) (by omega)
          have hok := (pourN_ok (w := wAt w.la x) (p := ps[j]!) ⟨o3, o4, by (show 0 ≤ x); omega, by (show x ≤ 1000); omega, by (show 0 ≤ x); omega, by (show x ≤ 1000); omega⟩ hpj.1 hpj.2 (by (show 1 ≤ w.la + ps[j]!.la); omega) (by (show w.la + ps[j]!.la ≤ 50); omega)).1
          have g0 := hok.w0
          have g1 := hok.w1'
          have hih := in_pour (p := ps[j]!) o3 hxw.1 hxw.2
          have hla2 := (pourN_ok (p := ps[j]!) o0 hpj.1 hpj.2 (by omega) (by omega)).2
          repeat' first
            | refine CO.cons rfl ?_
            | fail
          refine (in_spec (p := ((pourN (wAt w.la x) ps[j]!).w0, (pourN (wAt w.la x) ps[j]!).w1)) hb (by omega) (hbp.keep kq) g0 h01 (by (show (pourN (wAt w.la x) ps[j]!).w1 < 100000); omega)).mono ?_
          rintro r Ht ⟨⟨x', rfl, x1, x2⟩, hbt, xt⟩
          have lt := xt.1
          have xpt := xp.trans ((kq.butX b).trans xt)
          have hpt : RowS 3 Ht pv (ps.map Pol) := (OwnS.boxed hph xpt hbh).row
          repeat' first
            | refine CO.cons rfl ?_
            | refine CO.nil ?_
            | refine CV.seq ?_
            | refine CV.region callees ?_
            | refine ⟨(⟨by omega, by omega⟩ : inI64 _), ?_⟩
            | (refine ⟨_, po_addr hpt (by omega) (by omega), ?_⟩)
            | (refine ⟨_, po_f hpt foO1 (by decide) hj, ?_⟩)
            | (refine ⟨_, po_la hpt hj, ?_⟩)
            | fail
          refine ⟨(j + 1, x', w.la + ps[j]!.la, pourN w ps[j]!), (by repeat' first | exact trivial | refine ⟨rfl, ?_⟩ | refine ⟨slot_int (by (try simp only [Int.toNat_natCast]); omega), ?_⟩), (by (try dsimp only); omega), ?_⟩
          exact ⟨by rw [← hpr]; exact haft, hws.pour hpo hj, hla2.symm, ⟨Int.le_trans hih.1 x1, Int.le_trans x2 hih.2⟩, hbt, xpt⟩
        · repeat' first
            | refine CO.cons rfl ?_
            | refine CO.nil ?_
            | refine CV.seq ?_
            | refine CV.region callees ?_
            | refine CV.cond ?_
            | refine CV.exit ?_
            | refine CO.consG rfl ?_
            | (refine ⟨_, po_len hpp, ?_⟩)
            | (refine ⟨_, po_addr hpp (by omega) (by omega), ?_⟩)
            | (refine ⟨_, po_f hpp foO0 (by decide) hj, ?_⟩)
            | (refine ⟨_, po_min hpp hj, ?_⟩)
            | (refine ⟨fun _ => ?_, fun _ => ?_⟩ <;> first | (exfalso; omega) | skip)
            | fail
          refine ⟨((j, x, lw, w)), (by repeat' first | exact trivial | refine ⟨rfl, ?_⟩), ?_⟩
          exact ⟨by rw [← haft, hd, pourR, if_neg hmi], hws, hlw, hxw, hbp, xp⟩
      · have hde : ps.drop j = [] := List.drop_eq_nil_of_le (by omega)
        repeat' first
          | refine CO.cons rfl ?_
          | refine CO.nil ?_
          | refine CV.seq ?_
          | refine CV.region callees ?_
          | refine CV.cond ?_
          | refine CV.exit ?_
          | refine CO.consG rfl ?_
          | (refine ⟨_, po_len hpp, ?_⟩)
          | (refine ⟨fun _ => ?_, fun _ => ?_⟩ <;> first | (exfalso; omega) | skip)
          | fail
        refine ⟨((j, x, lw, w)), (by repeat' first | exact trivial | refine ⟨rfl, ?_⟩), ?_⟩
        exact ⟨by rw [← haft, hde]; rfl, hws, hlw, hxw, hbp, xp⟩
    clear hbef hws hlw hxw hby xy hBy
    rintro ⟨j, x, lw, w⟩ Hp ⟨haft, hws, hlw, hxw, hbp, xp⟩ hBp
    have lp := xp.1
    have hwm : warmM k E ps m = (w.w0, w.w1) := by rw [warmM, haft]
    have hkp := (xp.2 b5 (by omega) (by omega)).trans hkh
    have hq1p : RowS 2 Hp q1 ((warmL k E ps (mN + 1)).map Hl) := (OwnS.boxed hq1h xp hbh).row
    have hq2p : Ints Hp q2 (verL k E ps (mN + 1)) := (hq2.box xp hbh).row
    have hld : aload Try.prog 27 Hp (elemS q1 2 m) = some (Hv (w.w0, w.w1)) := by rw [sp_load hq1p (by omega), warmL_at (by omega), hwm]
    have tV : (verL k E ps (mN + 1))[(m : Int).toNat]! = verN k (w.w0, w.w1) := by rw [← hwm]; exact verL_at (by omega)
    have v1 := ver1 (k := k) (w := (w.w0, w.w1)) hxw.1 hxw.2
    have v2 := ver2 (k := k) (w := (w.w0, w.w1)) hxw.1 hxw.2
    repeat' first
      | refine CO.cons rfl ?_
      | refine CO.nil ?_
      | refine CV.seq ?_
      | refine CV.region callees ?_
      | refine CO.consG rfl ?_
      | (refine ⟨_, fS foK5 (by decide), ?_⟩)
      | (refine ⟨_, fS foK6 (by decide), ?_⟩)
      | (refine ⟨_, cell_load ag3 hkp rfl, ?_⟩)
      | (refine ⟨_, sp_addr hq1p (by omega) (by omega), ?_⟩)
      | (refine ⟨_, hld, ?_⟩)
      | (refine ⟨fun _ => ?_, fun _ => ?_⟩ <;> first | (exfalso; omega) | skip)
      | fail
    all_goals
      refine (holds_spec (p := (w.w0, w.w1)) (x := x) (by omega) hxw.1 hxw.2).mono ?_
      rintro r Hq ⟨rfl, kq⟩
      have hq2q : Ints Hq q2 (verL k E ps (mN + 1)) := hq2p.keep kq
      repeat' first
        | refine CO.cons rfl ?_
        | refine CO.nil ?_
        | refine CV.region callees ?_
        | refine CV.cond ?_
        | refine CV.skip ?_
        | refine CO.consG rfl ?_
        | refine ⟨_, ints_addr (by assumption) (by omega) (by omega), ?_⟩
        | refine ⟨_, ints_load (by assumption) (by omega) (by omega), ?_⟩
        | refine ⟨(⟨by omega, by omega⟩ : inI64 _), ?_⟩
        | (refine ⟨fun _ => ?_, fun _ => ?_⟩ <;> first | (exfalso; omega) | skip)
        | fail
      all_goals
        refine ⟨(m + 1, j, x, lw, w), (by repeat' first | exact trivial | refine ⟨rfl, ?_⟩ | refine ⟨slot_int (by (try simp only [Int.toNat_natCast]); omega), ?_⟩), (by (try dsimp only); omega), ?_⟩
        exact ⟨by omega, haft, hws, hlw, hxw, hbp.keep kq, xp.trans (kq.butX b)⟩
  repeat' first
    | refine CO.cons rfl ?_
    | refine CO.nil ?_
    | refine CV.seq ?_
    | refine CV.region callees ?_
    | refine CV.cond ?_
    | refine CV.exit ?_
    | (refine ⟨fun _ => ?_, fun _ => ?_⟩ <;> first | (exfalso; omega) | skip)
    | fail
  refine (awake_spec (by omega)).mono ?_
  rintro r Hy ⟨rfl, ky⟩
  repeat' first
    | refine CO.cons rfl ?_
    | refine CO.nil ?_
    | refine CV.ret ?_
    | fail
  exact ⟨rfl, rfl⟩
end Go.Proofs.Ytglkphjjinmgmaa
