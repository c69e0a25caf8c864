
/- HearthNarrows. -/
import Derived.Test.YtglkphjjinmgmaaXhh
set_option linter.unusedVariables false
set_option linter.unusedSimpArgs false
namespace Go.Proofs.Ytglkphjjinmgmaa
open Go.AI
set_option maxHeartbeats 16000000 in
set_option maxRecDepth 100000 in
theorem narrows_spec {v : Value} {H : Heap} {nums : List Int} (hv : Ints H v nums) (hx : nums.length ≤ 9223372036854775807) :
    CallB Try.prog H.n 9 [v] H (fun r _ => r = .bool true) := by
  have hn : H.n ≤ H.n := Nat.le_refl _
  refine CV.enter callees false rfl Try.func9 rfl (by kernel_rfl) (Nat.le_of_ble_eq_true rfl) hn ?_
  repeat' first
    | refine CO.cons rfl ?_
    | refine CO.nil ?_
    | refine CV.seq ?_
    | refine CV.region callees ?_
    | fail
  refine (boxOf_spec hn hv hx).mono ?_
  rintro r H1 ⟨⟨b, rfl, hb, hbox⟩, k1⟩
  have l1 := k1.1
  repeat' first
    | refine CO.cons rfl ?_
    | refine CO.nil ?_
    | refine CV.seq ?_
    | refine CV.region callees ?_
    | fail
  refine (fireOf_spec hb l1 hbox (by omega) (by omega)).mono ?_
  rintro r H2 ⟨⟨cv, tv, cs, ts, rfl, hc2, ht2, hf, hcn, hcs⟩, hb2, x2⟩
  have l2 := x2.1
  have hbn := hbox.1
  have hbn2 := hb2.1
  repeat' first
    | refine CO.cons rfl ?_
    | fail
  refine (kettleOf_spec hb (by omega) hb2).mono ?_
  rintro r H3 ⟨⟨k, rfl, hk, hwa⟩, hb3, x3⟩
  have l3 := x3.1
  have hc3 : OwnC H3 cv cs _ := OwnS.boxed hc2 x3 hb2
  have ht3 : OwnT H3 tv ts _ := OwnS.boxed ht2 x3 hb2
  repeat' first
    | refine CO.cons rfl ?_
    | (refine ⟨_, _, al28, ?_⟩)
    | fail
  generalize hs4 : Heap.new H3 _ = H4
  have hg4 := new_get hs4
  have k4 := new_keep hs4
  have n4 := new_n hs4
  obtain ⟨b4, hbn4⟩ : ∃ b, Heap.n H3 = b := ⟨_, rfl⟩
  rw [hbn4] at hg4 n4 ⊢
  repeat' first
    | refine CO.cons rfl ?_
    | (refine ⟨_, _, al51, ?_⟩)
    | fail
  generalize hs5 : Heap.new H4 _ = H5
  have hg5 := new_get hs5
  have k5 := new_keep hs5
  have n5 := new_n hs5
  obtain ⟨b5, hbn5⟩ : ∃ b, Heap.n H4 = b := ⟨_, rfl⟩
  rw [hbn5] at hg5 n5 ⊢
  have hg45 := (k5.2 b4 (by omega)).trans hg4
  repeat' first
    | fail
  refine ⟨_, _, st28 hc3.oneC ht3.oneC hg45, by omega, ?_⟩
  generalize hs6 : Heap.set H5 b4 _ = H6
  have hg6 : H6.get b4 = some (.cells (Fl cv tv) 25 1) := set_get hs6
  have n6 := set_n hs6
  have o6 := set_old hs6
  have hg56 := (o6 b5 (by omega)).trans hg5
  repeat' first
    | refine CO.cons rfl ?_
    | fail
  refine ⟨_, _, st51 hg56, by omega, ?_⟩
  generalize hs7 : Heap.set H6 b5 _ = H7
  have hg7 : H7.get b5 = some (.cells (Kel k) 29 1) := set_get hs7
  have n7 := set_n hs7
  have o7 := set_old hs7
  have hf7 := (o7 b4 (by omega)).trans hg6
  have k37 : Keep H3 H7 := keep_put (keep_put (k4.trans k5) (by omega) o6 n6) (by omega) o7 n7
  have l7 := k37.1
  have hb7 := hb3.keep k37
  have hc7 : OwnC H7 cv cs _ := OwnS.keep hc3 k37
  have ht7 : OwnT H7 tv ts _ := OwnS.keep ht3 k37
  repeat' first
    | refine CO.cons rfl ?_
    | refine CO.nil ?_
    | refine CV.seq ?_
    | refine CV.region callees ?_
    | (refine ⟨_, ld51 hg7, ?_⟩)
    | fail
  refine (poursOf_spec hb (by omega) hb7 hk (by omega) (by omega) (by omega) (by omega)).mono ?_
  rintro pv H8 ⟨⟨ps, hp8, hpo, hpn⟩, hb8, x8⟩
  have l8 := x8.1
  have hk8 := (x8.2 b5 (by omega) (by omega)).trans hg7
  have hf8 := (x8.2 b4 (by omega) (by omega)).trans hf7
  have hc8 : OwnC H8 cv cs _ := OwnS.boxed hc7 x8 hb7
  have ht8 : OwnT H8 tv ts _ := OwnS.boxed ht7 x8 hb7
  repeat' first
    | refine CO.cons rfl ?_
    | fail
  refine (up_spec hb (by omega) hb8 (by omega)).mono ?_
  rintro r H9 ⟨⟨mi, rfl, mi1, mi2⟩, hb9, x9⟩
  have l9 := x9.1
  obtain ⟨mN, hmN⟩ : ∃ mN : Nat, mi = (mN : Int) := ⟨mi.toNat, by omega⟩
  subst hmN
  have hk9 := (x9.2 b5 (by omega) (by omega)).trans hk8
  have hf9 := (x9.2 b4 (by omega) (by omega)).trans hf8
  have hc9 : OwnC H9 cv cs _ := OwnS.boxed hc8 x9 hb8
  have ht9 : OwnT H9 tv ts _ := OwnS.boxed ht8 x9 hb8
  have hp9 : OwnO H9 pv ps H7.n := OwnS.boxed hp8 x9 hb8
  repeat' first
    | refine CO.cons rfl ?_
    | refine CO.nil ?_
    | refine CV.seq ?_
    | fail
  refine CV.mX callees (by decide +kernel) [(0, []), (1, []), (3, []), (2, [3]), (4, [3]), (5, [3]), (6, [3]), (7, [])] (by kernel_rfl) ?_
  repeat' first
    | refine CR.cons ?_
    | (refine ⟨_, ld28 hf9, ?_⟩)
    | (refine ⟨_, ld51 hk9, ?_⟩)
    | fail
  refine (innerFire_spec hb (by omega) hb9 hc9 ht9 hf).mono ?_
  rintro r Ha ⟨⟨dv, ds, rfl, hda, hdl, hnar⟩, hba, xa⟩
  have la := xa.1
  have hka := (xa.2 b5 (by omega) (by omega)).trans hk9
  have hfa := (xa.2 b4 (by omega) (by omega)).trans hf9
  have hca : OwnC Ha cv cs _ := OwnS.boxed hc9 xa hb9
  have hta : OwnT Ha tv ts _ := OwnS.boxed ht9 xa hb9
  have hpa : OwnO Ha pv ps H7.n := OwnS.boxed hp9 xa hb9
  have kN0 := Keep.new Ha (.cells (Fl nilS nilS) 25 1)
  have hkN := (kN0.2 b5 (by omega)).trans hka
  repeat' first
    | refine CR.cons ?_
    | (refine ⟨_, ld51 hka, ?_⟩)
    | (refine ⟨(rfl : _ = Kev k), ?_⟩)
    | (refine ⟨same_ke, ?_⟩)
    | (refine ⟨_, _, al28, ?_⟩)
    | fail
  generalize hsc : Heap.new Ha _ = Hc
  have hgc := new_get hsc
  have kc := new_keep hsc
  have nc := new_n hsc
  obtain ⟨bc, hbnc⟩ : ∃ b, Heap.n Ha = b := ⟨_, rfl⟩
  rw [hbnc] at hgc nc ⊢
  have hkc := (kc.2 b5 (by omega)).trans hka
  have kN1 := Keep.new Hc (.cells (Kel ⟨0, 0, 0, 0, 0, 0, 0, 0⟩) 29 1)
  have hkN1 := (kN1.2 b5 (by omega)).trans hkc
  repeat' first
    | refine CR.cons ?_
    | (refine ⟨_, _, al51, ?_⟩)
    | fail
  generalize hsd : Heap.new Hc _ = Hd
  have hgd := new_get hsd
  have kd := new_keep hsd
  have nd := new_n hsd
  obtain ⟨bd, hbnd⟩ : ∃ b, Heap.n Hc = b := ⟨_, rfl⟩
  rw [hbnd] at hgd nd ⊢
  have hkd := (kd.2 b5 (by omega)).trans hkc
  have hgcd := (kd.2 bc (by omega)).trans hgc
  repeat' first
    | (refine ⟨(show b5 ≠ bc by omega), ?_⟩)
    | (refine ⟨_, ld51 hkd, ?_⟩)
    | fail
  refine ⟨_, _, st28 hda.oneC hta.oneC hgcd, by omega, ?_⟩
  generalize hse : Heap.set Hd bc _ = He
  have hge : He.get bc = some (.cells (Fl dv tv) 25 1) := set_get hse
  have ne := set_n hse
  have oe := set_old hse
  have hke := (oe b5 (by omega)).trans hkd
  have hgde := (oe bd (by omega)).trans hgd
  repeat' first
    | refine CR.cons ?_
    | fail
  refine ⟨_, _, st51 hgde, by omega, ?_⟩
  generalize hsf : Heap.set He bd _ = Hf
  have hgf : Hf.get bd = some (.cells (Kel k) 29 1) := set_get hsf
  have nf := set_n hsf
  have of := set_old hsf
  have kf : Keep Ha Hf := keep_put (keep_put (kc.trans kd) (by omega) oe ne) (by omega) of nf
  have lf := kf.1
  have hgf' := (of bc (by omega)).trans hge
  have hkf := (kf.2 b5 (by omega)).trans hka
  have hff := (kf.2 b4 (by omega)).trans hfa
  have hbf := hba.keep kf
  have hcf : OwnC Hf cv cs _ := hca.keep kf
  have htf : OwnT Hf tv ts _ := hta.keep kf
  have hpf : OwnO Hf pv ps H7.n := OwnS.keep hpa kf
  have hdf : OwnC Hf dv ds _ := hda.keep kf
  have hwl := hk.wl
  have hwm := hk.wm
  have hwh := hk.wh
  repeat' first
    | refine CO.cons rfl ?_
    | refine CV.seq ?_
    | refine CV.region callees ?_
    | refine CR.nil ?_
    | (refine ⟨_, fS foK1 (by decide), ?_⟩)
    | (refine ⟨_, agg_load ag41 sz41 hkf (Nat.le_of_ble_eq_true rfl), ?_⟩)
    | fail
  refine (part_spec (p := (k.wl, k.wh)) hb (by omega) hbf hwl hwm (by show k.wh < 100000; omega)).mono ?_
  rintro r Hg ⟨⟨⟨pa, pb⟩, rfl, pa1, pa2, pa3⟩, hbg, xg⟩
  have lg := xg.1
  replace pa1 : k.wl ≤ pa := pa1
  replace pa2 : pa ≤ pb := pa2
  replace pa3 : pb ≤ k.wh := pa3
  have hbhn := hbf.1
  have hgg := (xg.2 bd (by omega) (by omega)).trans hgf
  repeat' first
    | refine CO.cons rfl ?_
    | (refine ⟨_, fS foK1 (by decide), ?_⟩)
    | fail
  refine ⟨_, _, stK1 hgg, by omega, ?_⟩
  generalize hsq : Heap.set Hg bd _ = Hh
  have hkh : Hh.get bd = some (.cells (Kel (kN k pa pb)) 29 1) := set_get hsq
  have nh := set_n hsq
  have oh := set_old hsq
  have xh : KeepX b Hf Hg := xg
  have kxh : KeepX bd Hg Hh := ⟨by omega, fun x _ hx => oh x hx⟩
  have hk5 := (oh b5 (by omega)).trans ((xg.2 b5 (by omega) (by omega)).trans hkf)
  have hf4 := (oh b4 (by omega)).trans ((xg.2 b4 (by omega) (by omega)).trans hff)
  have hfc := (oh bc (by omega)).trans ((xg.2 bc (by omega) (by omega)).trans hgf')
  have hch : OwnC Hh cv cs _ := OwnS.keepX (OwnS.boxed hcf xg hbf) kxh hgg
  have hth : OwnT Hh tv ts _ := OwnS.keepX (OwnS.boxed htf xg hbf) kxh hgg
  have hph : OwnO Hh pv ps H7.n := OwnS.keepX (OwnS.boxed hpf xg hbf) kxh hgg
  have hdh : OwnC Hh dv ds _ := OwnS.keepX (OwnS.boxed hdf xg hbf) kxh hgg
  have hk' : KOk (kN k pa pb) := ⟨hk.wa, hk.wa', by (show 0 ≤ pa); omega, pa2, by (show pb ≤ 1000); omega, hk.ro, hk.ro', hk.si, hk.bo, hk.sb, hk.ga, hk.ga', hk.lo, hk.lo'⟩
  have hpo' : POk (kN k pa pb).wa ps := hpo
  have hfd := narC_ok hf hdl hnar
  obtain ⟨B0, hB0⟩ := isBeg_ex (e := 0) hf
  obtain ⟨B1, hB1⟩ := isBeg_ex (e := 1) hf
  obtain ⟨D0, hD0⟩ := isBeg_ex (e := 0) hfd
  obtain ⟨D1, hD1⟩ := isBeg_ex (e := 1) hfd
  have hbeg := narC_beg hf hdl hnar hB0 hB1 hD0 hD1
  have hord := isBeg_ord hfd hD0 hD1
  repeat' first
    | refine CO.cons rfl ?_
    | refine CO.nil ?_
    | refine CV.seq ?_
    | refine CV.region callees ?_
    | (refine ⟨_, ld51 hk5, ?_⟩)
    | (refine ⟨_, ld28 hf4, ?_⟩)
    | fail
  refine (run_spec (m := mN) (by omega) hk hch.row hth.row hph.row hpo hph.same hf hB0 hB1 (by omega)).mono ?_
  rintro r I1 ⟨⟨q1, rfl, hq1⟩, j1⟩
  have m1 := j1.1
  repeat' first
    | refine CO.cons rfl ?_
    | refine CO.nil ?_
    | refine CV.seq ?_
    | refine CV.region callees ?_
    | (refine ⟨_, ld51 ((j1.2 bd (by omega)).trans hkh), ?_⟩)
    | (refine ⟨_, ld28 ((j1.2 bc (by omega)).trans hfc), ?_⟩)
    | fail
  refine (run_spec (k := kN k pa pb) (m := mN) (by omega) hk' (hdh.keep j1).row (hth.keep j1).row (OwnS.keep hph j1).row hpo' hph.same hfd hD0 hD1 (by omega)).mono ?_
  rintro r I2 ⟨⟨q2, rfl, hq2⟩, j2⟩
  have m2 := j2.1
  have j12 := j1.trans j2
  repeat' first
    | refine CO.cons rfl ?_
    | refine CO.nil ?_
    | refine CV.seq ?_
    | refine CV.region callees ?_
    | (refine ⟨_, ld51 ((j12.2 b5 (by omega)).trans hk5), ?_⟩)
    | (refine ⟨_, ld28 ((j12.2 b4 (by omega)).trans hf4), ?_⟩)
    | fail
  refine (sings_spec (m := mN) (by omega) hk (hch.keep j12).row (hth.keep j12).row (OwnS.keep hph j12).row hpo hph.same hf hB0 hB1 (by omega)).mono ?_
  rintro r I3 ⟨⟨q3, rfl, hq3⟩, j3⟩
  have m3 := j3.1
  have j13 := j12.trans j3
  repeat' first
    | refine CO.cons rfl ?_
    | refine CO.nil ?_
    | refine CV.seq ?_
    | refine CV.region callees ?_
    | (refine ⟨_, ld51 ((j13.2 bd (by omega)).trans hkh), ?_⟩)
    | (refine ⟨_, ld28 ((j13.2 bc (by omega)).trans hfc), ?_⟩)
    | fail
  refine (sings_spec (k := kN k pa pb) (m := mN) (by omega) hk' (hdh.keep j13).row (hth.keep j13).row (OwnS.keep hph j13).row hpo' hph.same hfd hD0 hD1 (by omega)).mono ?_
  rintro r I4 ⟨⟨q4, rfl, hq4⟩, j4⟩
  have m4 := j4.1
  have j14 := j13.trans j4
  repeat' first
    | refine CO.cons rfl ?_
    | refine CO.nil ?_
    | refine CV.seq ?_
    | refine CV.region callees ?_
    | (refine ⟨_, ld28 ((j14.2 b4 (by omega)).trans hf4), ?_⟩)
    | fail
  refine (begins_spec (by omega) (hch.keep j14).row (hth.keep j14).row hf hB0 hB1).mono ?_
  rintro r I5 ⟨⟨q5, rfl, hq5⟩, j5⟩
  have m5 := j5.1
  have j15 := j14.trans j5
  repeat' first
    | refine CO.cons rfl ?_
    | refine CO.nil ?_
    | refine CV.seq ?_
    | refine CV.region callees ?_
    | (refine ⟨_, ld28 ((j15.2 bc (by omega)).trans hfc), ?_⟩)
    | fail
  refine (begins_spec (by omega) (hdh.keep j15).row (hth.keep j15).row hfd hD0 hD1).mono ?_
  rintro r I6 ⟨⟨q6, rfl, hq6⟩, j6⟩
  have m6 := j6.1
  have hh : ∀ m : Nat, (heatL (emL cs B0 B1) m).1 ≤ (heatL (emL ds D0 D1) m).1 ∧ (heatL (emL ds D0 D1) m).1 ≤ (heatL (emL ds D0 D1) m).2 ∧ (heatL (emL ds D0 D1) m).2 ≤ (heatL (emL cs B0 B1) m).2 := fun m => by
    have a := heat_nar (m := (m : Int)) hf hdl hnar hbeg
    exact ⟨a.1, heat_ord hfd hord, a.2⟩
  have hem := emL_ok hf hB0 hB1
  have hel : (emL cs B0 B1).length ≤ 12 := by rw [emL_len]; exact hf.n
  have hw := nar_warm (E := emL cs B0 B1) (E' := emL ds D0 D1) (a := pa) (b := pb) hk hpo hel hem ⟨pa1, pa2, pa3⟩ hh
  have e5 := begS_len (cs := cs) (B0 := B0) (B1 := B1)
  have e6 := begS_len (cs := ds) (B0 := D0) (B1 := D1)
  have hs5 : ∀ i, i < cs.length → (begS (emL cs B0 B1))[i]! = (B0[i]!, B1[i]!) := fun i hi => begS_at hi
  have hs6 : ∀ i, i < cs.length → (begS (emL ds D0 D1))[i]! = (D0[i]!, D1[i]!) := fun i hi => begS_at (by omega)
  generalize begS (emL cs B0 B1) = L5 at hq5 e5 hs5 ⊢
  generalize begS (emL ds D0 D1) = L6 at hq6 e6 hs6 ⊢
  generalize emL cs B0 B1 = E at hq1 hq3 hw ⊢
  generalize emL ds D0 D1 = E' at hq2 hq4 hw ⊢
  have w1 := warmL_len (k := k) (E := E) (ps := ps) (n := mN + 1)
  have w2 := warmL_len (k := kN k pa pb) (E := E') (ps := ps) (n := mN + 1)
  have w3 := verL_len (k := k) (E := E) (ps := ps) (n := mN + 1)
  have w4 := verL_len (k := kN k pa pb) (E := E') (ps := ps) (n := mN + 1)
  have hq1f : OwnSp I6 q1 (warmL k E ps (mN + 1)) _ := OwnS.keep hq1 (j2.trans (j3.trans (j4.trans (j5.trans j6))))
  have hq2f : OwnSp I6 q2 (warmL (kN k pa pb) E' ps (mN + 1)) _ := OwnS.keep hq2 (j3.trans (j4.trans (j5.trans j6)))
  have hq3f := hq3.keep (j4.trans (j5.trans j6))
  have hq4f := hq4.keep (j5.trans j6)
  have hq5f : OwnSp I6 q5 L5 _ := OwnS.keep hq5 j6
  have hq6f : OwnSp I6 q6 L6 _ := hq6
  have i3 : Ints I6 q3 (verL k E ps (mN + 1)) := hq3f.row
  have i4 : Ints I6 q4 (verL (kN k pa pb) E' ps (mN + 1)) := hq4f.row
  repeat' first
    | refine CO.cons rfl ?_
    | refine CO.nil ?_
    | refine CV.seq ?_
    | refine CV.region callees ?_
    | refine CV.cond ?_
    | refine CV.block ?_
    | refine CV.skip ?_
    | refine CO.consG rfl ?_
    | refine ⟨_, ints_len (by assumption), ?_⟩
    | (refine ⟨_, sp_len hq1f.row, ?_⟩)
    | (refine ⟨_, sp_len hq2f.row, ?_⟩)
    | (refine ⟨_, sp_len hq5f.row, ?_⟩)
    | (refine ⟨_, sp_len hq6f.row, ?_⟩)
    | (refine ⟨fun _ => ?_, fun _ => ?_⟩ <;> first | (exfalso; omega) | skip)
    | fail
  refine CV.loopc ?_
  refine WCv.rounds callees false (α := Nat) (fun m => [(10, q1), (12, q2), (14, q3), (16, q4), (18, q5), (20, q6), (22, VJ m)]) (fun m Hz => m ≤ mN + 1 ∧ Keep I6 Hz) (fun m => mN + 1 - m) (0) (by repeat' first | exact trivial | refine ⟨rfl, ?_⟩ | refine ⟨slot_int (by (try simp only [Int.toNat_natCast]); omega), ?_⟩) ?_ ?_
  · exact ⟨by omega, Keep.refl _⟩
  rintro m Hx ⟨hm, kx⟩ hBx
  have lx := kx.1
  have g1 := (OwnS.keep hq1f kx).row
  have g2 := (OwnS.keep hq2f kx).row
  have g5 := (OwnS.keep hq5f kx).row
  have g6 := (OwnS.keep hq6f kx).row
  have g3 : Ints Hx q3 (verL k E ps (mN + 1)) := i3.keep kx
  have g4 : Ints Hx q4 (verL (kN k pa pb) E' ps (mN + 1)) := i4.keep kx
  by_cases hm2 : m < mN + 1
  · have hd1 : aload Try.prog 27 Hx (elemS q1 2 m) = some (Hv (warmM k E ps m)) := by rw [sp_load g1 (by omega), warmL_at (by omega)]
    have hd2 : aload Try.prog 27 Hx (elemS q2 2 m) = some (Hv (warmM (kN k pa pb) E' ps m)) := by rw [sp_load g2 (by omega), warmL_at (by omega)]
    have t3 : (verL k E ps (mN + 1))[(m : Int).toNat]! = verN k (warmM k E ps m) := verL_at (by omega)
    have t4 : (verL (kN k pa pb) E' ps (mN + 1))[(m : Int).toNat]! = verN (kN k pa pb) (warmM (kN k pa pb) E' ps m) := verL_at (by omega)
    have hwm := hw m
    have hvn := ver_nar (k := k) (a := pa) (b := pb) hwm.1 hwm.2.1 hwm.2.2
    repeat' first
      | refine CO.cons rfl ?_
      | refine CO.nil ?_
      | refine CV.seq ?_
      | refine CV.region callees ?_
      | refine CV.cond ?_
      | refine CV.block ?_
      | refine CV.skip ?_
      | refine CV.draw callees (by decide +kernel) ?_
      | refine CH.cons rfl ?_
      | (refine ⟨_, sp_len g1, ?_⟩)
      | (refine ⟨_, sp_addr g1 (by omega) (by omega), ?_⟩)
      | (refine ⟨_, sp_addr g2 (by omega) (by omega), ?_⟩)
      | (refine ⟨_, hd1, ?_⟩)
      | (refine ⟨_, hd2, ?_⟩)
      | (refine ⟨fun _ => ?_, fun _ => ?_⟩ <;> first | (exfalso; omega) | skip)
      | fail
    refine (within_spec (p := warmM (kN k pa pb) E' ps m) (q := warmM k E ps m) (by omega) hwm.1 hwm.2.2).mono ?_
    rintro r Hy ⟨rfl, ky⟩
    repeat' first
      | refine CO.cons rfl ?_
      | refine CO.nil ?_
      | refine CV.region callees ?_
      | refine CV.cond ?_
      | refine CV.skip ?_
      | refine CH.cons rfl ?_
      | refine CH.nil ?_
      | refine CH.consG rfl ?_
      | refine ⟨(rfl : plain _ = true), ?_⟩
      | refine ⟨_, ints_addr (by assumption) (by omega) (by omega), ?_⟩
      | refine ⟨_, ints_load (by assumption) (by omega) (by omega), ?_⟩
      | refine ⟨(⟨by omega, by omega⟩ : inI64 _), ?_⟩
      | (refine ⟨fun _ => ?_, fun _ => ?_⟩ <;> first | (exfalso; omega) | skip)
      | fail
    all_goals
      refine ⟨(m + 1), (by repeat' first | exact trivial | refine ⟨rfl, ?_⟩ | refine ⟨slot_int (by (try simp only [Int.toNat_natCast]); omega), ?_⟩), (by (try dsimp only); omega), ?_⟩
      first | exact ⟨by omega, kx⟩ | exact ⟨by omega, kx.trans ky⟩
  repeat' first
    | refine CO.cons rfl ?_
    | refine CO.nil ?_
    | refine CV.seq ?_
    | refine CV.region callees ?_
    | refine CV.cond ?_
    | refine CV.block ?_
    | refine CV.exit ?_
    | (refine ⟨_, sp_len g1, ?_⟩)
    | (refine ⟨fun _ => ?_, fun _ => ?_⟩ <;> first | (exfalso; omega) | skip)
    | fail
  refine CV.loopc ?_
  refine WCv.rounds callees false (α := Nat) (fun i => [(18, q5), (20, q6), (23, VJ i)]) (fun i Hz => i ≤ cs.length ∧ Keep I6 Hz) (fun i => cs.length - i) (0) (by repeat' first | exact trivial | refine ⟨rfl, ?_⟩ | refine ⟨slot_int (by (try simp only [Int.toNat_natCast]); omega), ?_⟩) ?_ ?_
  · exact ⟨by omega, kx⟩
  clear g1 g2 g5 g6 g3 g4 kx lx hBx hm hm2
  rintro i Hx ⟨hi, kx⟩ hBx
  have lx := kx.1
  have g5 := (OwnS.keep hq5f kx).row
  have g6 := (OwnS.keep hq6f kx).row
  by_cases hi2 : i < cs.length
  · have hd5 : aload Try.prog 27 Hx (elemS q5 2 i) = some (Hv (B0[i]!, B1[i]!)) := by rw [sp_load g5 (by omega), hs5 i hi2]
    have hd6 : aload Try.prog 27 Hx (elemS q6 2 i) = some (Hv (D0[i]!, D1[i]!)) := by rw [sp_load g6 (by omega), hs6 i hi2]
    repeat' first
      | refine CO.cons rfl ?_
      | refine CO.nil ?_
      | refine CV.seq ?_
      | refine CV.region callees ?_
      | refine CV.cond ?_
      | refine CV.block ?_
      | refine CV.skip ?_
      | refine CV.draw callees (by decide +kernel) ?_
      | refine CH.cons rfl ?_
      | refine CH.nil ?_
      | (refine ⟨_, sp_len g5, ?_⟩)
      | (refine ⟨_, sp_addr g5 (by omega) (by omega), ?_⟩)
      | (refine ⟨_, sp_addr g6 (by omega) (by omega), ?_⟩)
      | (refine ⟨_, hd5, ?_⟩)
      | (refine ⟨_, hd6, ?_⟩)
      | (refine ⟨fun _ => ?_, fun _ => ?_⟩ <;> first | (exfalso; omega) | skip)
      | fail
    refine (within_spec (p := (D0[i]!, D1[i]!)) (q := (B0[i]!, B1[i]!)) (by omega) (hbeg i hi2).1 (hbeg i hi2).2).mono ?_
    rintro r Hy ⟨rfl, ky⟩
    repeat' first
      | refine CO.cons rfl ?_
      | refine CO.nil ?_
      | refine CV.region callees ?_
      | refine CV.cond ?_
      | refine CV.skip ?_
      | refine CH.cons rfl ?_
      | refine CH.nil ?_
      | refine ⟨(⟨by omega, by omega⟩ : inI64 _), ?_⟩
      | fail
    refine ⟨(i + 1), (by repeat' first | exact trivial | refine ⟨rfl, ?_⟩ | refine ⟨slot_int (by (try simp only [Int.toNat_natCast]); omega), ?_⟩), (by (try dsimp only); omega), ?_⟩
    first | exact ⟨by omega, kx⟩ | exact ⟨by omega, kx.trans ky⟩
  repeat' first
    | refine CO.cons rfl ?_
    | refine CO.nil ?_
    | refine CV.seq ?_
    | refine CV.region callees ?_
    | refine CV.cond ?_
    | refine CV.exit ?_
    | (refine ⟨_, sp_len g5, ?_⟩)
    | (refine ⟨fun _ => ?_, fun _ => ?_⟩ <;> first | (exfalso; omega) | skip)
    | fail
  refine (awake_spec (by omega)).mono ?_
  rintro r Hy ⟨rfl, ky⟩
  repeat' first
    | refine CO.cons rfl ?_
    | refine CO.nil ?_
    | refine CV.ret ?_
    | fail
  exact ⟨rfl, rfl⟩
end Go.Proofs.Ytglkphjjinmgmaa
