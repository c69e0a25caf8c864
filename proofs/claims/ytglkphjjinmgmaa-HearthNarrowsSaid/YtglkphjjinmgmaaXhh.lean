
/- A fire known better. -/
import Derived.Test.YtglkphjjinmgmaaXgh
set_option linter.unusedVariables false
set_option linter.unusedSimpArgs false
namespace Go.Proofs.Ytglkphjjinmgmaa
open Go.AI
theorem agBo : isAggB Try.prog 4 = some false := by kernel_rfl
theorem same_bl {w : Bool} : sameFix (.bool w) (.bool w) = true := by simp [sameFix, sameFixL, sameFix1]
set_option maxHeartbeats 16000000 in
set_option maxRecDepth 100000 in
theorem innerFire_spec {B b : Nat} {H : Heap} {cv tv : Value} {cs : List Co} {ts : List (Int × Int)} {c0 t0 : Nat} (hB : B ≤ b) (hn : B ≤ H.n) (hb : Box b H) (hc : OwnC H cv cs c0) (ht : OwnT H tv ts t0) (hf : FOk cs ts) :
    CallB Try.prog B 54 [bp b, Fv cv tv] H (fun r H' => (∃ (dv : Value) (ds : List Co), r = Fv dv tv ∧ OwnC H' dv ds H.n ∧ ds.length = cs.length ∧ ∀ i, i < cs.length → NarC cs ds i) ∧ Box b H' ∧ KeepX b H H') := by
  have hbn := hb.1
  have hn12 := hf.n
  obtain ⟨y, n', d', rfl⟩ : ∃ x n d, tv = .slice x n d := by
    rcases ht.2 with ⟨rfl, _⟩ | ⟨_, rfl, _⟩ <;> exact ⟨_, _, _, rfl⟩
  obtain ⟨tv, htv⟩ : ∃ tv, Value.slice y n' d' = tv := ⟨_, rfl⟩
  have bu28q : abuild Try.prog 25 [(1, tv)] = some (Fv nilS tv) := by rw [← htv]; exact bu28t
  rw [htv] at ht ⊢
  refine CV.enter callees false rfl Try.func54 rfl (by kernel_rfl) (Nat.le_of_ble_eq_true rfl) hn ?_
  repeat' first
    | refine CO.cons rfl ?_
    | refine CV.seq ?_
    | refine CV.region callees ?_
    | fail
  refine ⟨(by simp only [notTuple]), ?_⟩
  rw [allocFv hc.row.cells.1 ht.row.cells.1]
  generalize hs3 : Heap.new H _ = H3
  have hg3 := new_get hs3
  have k3 := new_keep hs3
  have n3 := new_n hs3
  obtain ⟨b3, hbn3⟩ : ∃ b, Heap.n H = b := ⟨_, rfl⟩
  rw [hbn3] at hg3 n3 ⊢
  repeat' first
    | refine CO.cons rfl ?_
    | refine CO.nil ?_
    | refine CV.seq ?_
    | refine CV.region callees ?_
    | (refine ⟨_, _, al28, ?_⟩)
    | fail
  generalize hs4 : Heap.new H3 _ = H4
  have hg4 := new_get hs4
  have k4 := new_keep hs4
  have n4 := new_n hs4
  obtain ⟨b4, hbn4⟩ : ∃ b, Heap.n H3 = b := ⟨_, rfl⟩
  rw [hbn4] at hg4 n4 ⊢
  have hg34 := (k4.2 b3 (by omega)).trans hg3
  repeat' first
    | refine CO.cons rfl ?_
    | (refine ⟨_, fS foF1 (by decide), ?_⟩)
    | (refine ⟨_, cell_load ag26 hg34 rfl, ?_⟩)
    | (refine ⟨_, bu28q, ?_⟩)
    | (refine ⟨_, _, al28, ?_⟩)
    | fail
  generalize hs5 : Heap.new H4 _ = H5
  have hg5 := new_get hs5
  have k5 := new_keep hs5
  have n5 := new_n hs5
  obtain ⟨b5, hbn5⟩ : ∃ b, Heap.n H4 = b := ⟨_, rfl⟩
  rw [hbn5] at hg5 n5 ⊢
  repeat' first
    | fail
  refine ⟨_, _, st28 rfl ht.oneC hg5, by omega, ?_⟩
  generalize hs6 : Heap.set H5 b5 _ = H6
  have hg6 : H6.get b5 = some (.cells (Fl nilS tv) 25 1) := set_get hs6
  have n6 := set_n hs6
  have o6 := set_old hs6
  have k6 : Keep H H6 := keep_put ((k3.trans k4).trans k5) (by omega) o6 n6
  have hf6 := (o6 b3 (by omega)).trans ((k5.2 b3 (by omega)).trans hg34)
  have hr6 := (o6 b4 (by omega)).trans ((k5.2 b4 (by omega)).trans hg4)
  have hb6 := hb.keep k6
  have hc6 : OwnC H6 cv cs c0 := OwnS.keep hc k6
  obtain ⟨bn, hbnn⟩ : ∃ bn, H6.n = bn := ⟨_, rfl⟩
  have hcq : ∀ c, blkOf cv = some c → c < bn := fun c hc => by have := (hc6.lt hc).2; omega
  repeat' first
    | refine CO.cons rfl ?_
    | refine CO.nil ?_
    | refine CV.seq ?_
    | refine CV.region callees ?_
    | refine CV.block ?_
    | fail
  refine CV.loopc ?_
  refine WCv.rounds callees false (α := Nat × Value × List Co) (fun (i, q, ds) => [(0, bp b), (3, .pointer (some ⟨b3, 0, none⟩)), (4, .pointer (some ⟨b4, 0, none⟩)), (5, .pointer (some ⟨b5, 0, none⟩)), (6, VJ i)]) (fun (i, q, ds) Hz => i ≤ cs.length ∧ (ds.length = i ∧ ∀ j, j < i → NarC cs ds j) ∧ Hz.get b5 = some (.cells (Fl q tv) 25 1) ∧ Hz.get b3 = some (.cells (Fl cv tv) 25 1) ∧ Hz.get b4 = some (.cells (Fl nilS nilS) 25 1) ∧ OwnC Hz q ds bn ∧ OwnC Hz cv cs c0 ∧ Box b Hz ∧ KeepX b H Hz ∧ bn ≤ Hz.n) (fun (i, q, ds) => cs.length - i) (0, nilS, []) (by repeat' first | exact trivial | refine ⟨rfl, ?_⟩ | refine ⟨slot_int (by (try simp only [Int.toNat_natCast]); omega), ?_⟩) ?_ ?_
  · exact ⟨by omega, ⟨rfl, fun j hj => by omega⟩, hg6, hf6, hr6, OwnS.nil, hc6, hb6, k6.butX b, by omega⟩
  clear hf6 hr6 hc6 hb6 hg6 hg5 hg4 hg34 hg3
  rintro ⟨i, q, ds⟩ Hx ⟨hi, ⟨hdl, hds⟩, hgx, hfx, hrx, hqx, hcx, hbx, xx, lx⟩ hBx
  by_cases hi2 : i < cs.length
  · repeat' first
      | refine CO.cons rfl ?_
      | refine CO.nil ?_
      | refine CV.seq ?_
      | refine CV.region callees ?_
      | refine CV.cond ?_
      | refine CV.block ?_
      | refine CV.skip ?_
      | (refine ⟨_, fS foF0 (by decide), ?_⟩)
      | (refine ⟨_, cell_load ag25 hfx rfl, ?_⟩)
      | (refine ⟨_, cs_len hcx.row, ?_⟩)
      | (refine ⟨_, cs_addr hcx.row (by omega) (by omega), ?_⟩)
      | (refine ⟨_, cs_load hcx.row hi2, ?_⟩)
      | (refine ⟨_, _, al48, ?_⟩)
      | (refine ⟨fun _ => ?_, fun _ => ?_⟩ <;> first | (exfalso; omega) | skip)
      | fail
    generalize hs7 : Heap.new Hx _ = H7
    have hg7 := new_get hs7
    have k7 := new_keep hs7
    have n7 := new_n hs7
    obtain ⟨b7, hbn7⟩ : ∃ b, Heap.n Hx = b := ⟨_, rfl⟩
    rw [hbn7] at hg7 n7 ⊢
    obtain ⟨bc, hbc⟩ : ∃ bc, b7 = bc := ⟨_, rfl⟩
    rw [hbc] at hg7 n7 hbn7 ⊢
    repeat' first
      | fail
    refine ⟨_, _, st48 hg7, by omega, ?_⟩
    generalize hs8 : Heap.set H7 bc _ = H8
    have hg8 : H8.get bc = some (.cells (Col cs[i]!) 32 1) := set_get hs8
    have n8 := set_n hs8
    have o8 := set_old hs8
    have k8 : Keep Hx H8 := keep_put k7 (by omega) o8 n8
    have l8 := k8.1
    have hb8 := hbx.keep k8
    obtain ⟨c, hcc⟩ : ∃ c, cs[i]! = c := ⟨_, rfl⟩
    have hok := hf.c i hi2
    rw [hcc] at hg8 hok
    obtain ⟨c1, c2, c3, d1, d2, d3, e1, e2, e3⟩ := hok
    have hxb := hbx.1
    have hg8' := (k8.2 b5 (by omega)).trans hgx
    have hq8 : OwnC H8 q ds bn := OwnS.keep hqx k8
    repeat' first
      | refine CO.nil ?_
      | fail
    refine CV.wideR callees (by decide +kernel) [(0, []), (1, []), (2, []), (3, []), (4, []), (6, []), (7, []), (8, []), (10, []), (11, []), (12, []), (14, []), (15, []), (5, [15, 12, 8, 1]), (9, [15, 12, 1]), (13, [15, 1]), (16, []), (17, [1]), (18, []), (19, []), (20, [])] (by kernel_rfl) ?_
    repeat' first
      | refine CR.cons ?_
      | (refine ⟨_, fS foF0 (by decide), ?_⟩)
      | (refine ⟨_, cell_load ag25 hg8' rfl, ?_⟩)
      | (refine ⟨_, fS foC0 (by decide), ?_⟩)
      | (refine ⟨_, fS foC1 (by decide), ?_⟩)
      | (refine ⟨_, fS foC2 (by decide), ?_⟩)
      | (refine ⟨_, fS foC3 (by decide), ?_⟩)
      | (refine ⟨_, coL0 hg8, ?_⟩)
      | (refine ⟨_, coL1 hg8, ?_⟩)
      | (refine ⟨_, coL2 hg8, ?_⟩)
      | (refine ⟨_, cell_load agBo hg8 rfl, ?_⟩)
      | fail
    refine (part_spec (p := (c.cl, c.ch)) hB (by omega) hb8 (by show 0 ≤ c.cl; omega) c2 (by show c.ch < 100000; omega)).mono ?_
    rintro r H9 ⟨⟨p1, rfl, p11, p12, p13⟩, hb9, k9⟩
    have l9 := k9.1
    have hg9 := (k9.2 bc (by omega) (by omega)).trans hg8
    have hg9' := (k9.2 b5 (by omega) (by omega)).trans hg8'
    have hq9 : OwnC H9 q ds bn := OwnS.boxed hq8 k9 hb8
    repeat' first
      | refine CR.cons ?_
      | (refine ⟨_, cell_load ag25 hg9' rfl, ?_⟩)
      | (refine ⟨_, coL1 hg9, ?_⟩)
      | (refine ⟨_, coL2 hg9, ?_⟩)
      | (refine ⟨_, cell_load agBo hg9 rfl, ?_⟩)
      | (refine ⟨(rfl : _ = Value.bool c.lt), ?_⟩)
      | (refine ⟨(rfl : _ = Hv (c.hl, c.hh)), ?_⟩)
      | (refine ⟨(rfl : _ = Hv (c.bl, c.bh)), ?_⟩)
      | (refine ⟨(rfl : _ = q), ?_⟩)
      | (refine ⟨same_bl, ?_⟩)
      | (refine ⟨same_h, ?_⟩)
      | (refine ⟨hq9.same, ?_⟩)
      | fail
    refine (part_spec (p := (c.bl, c.bh)) hB (by omega) hb9 (by show 0 ≤ c.bl; omega) d2 (by show c.bh < 100000; omega)).mono ?_
    rintro r Ha ⟨⟨p2, rfl, p21, p22, p23⟩, hba, ka⟩
    have la := ka.1
    have hga := (ka.2 bc (by omega) (by omega)).trans hg9
    have hga' := (ka.2 b5 (by omega) (by omega)).trans hg9'
    have hqa : OwnC Ha q ds bn := OwnS.boxed hq9 ka hb9
    repeat' first
      | refine CR.cons ?_
      | (refine ⟨_, cell_load ag25 hga' rfl, ?_⟩)
      | (refine ⟨_, coL2 hga, ?_⟩)
      | (refine ⟨_, cell_load agBo hga rfl, ?_⟩)
      | (refine ⟨(rfl : _ = Value.bool c.lt), ?_⟩)
      | (refine ⟨(rfl : _ = Hv (c.hl, c.hh)), ?_⟩)
      | (refine ⟨(rfl : _ = q), ?_⟩)
      | (refine ⟨same_bl, ?_⟩)
      | (refine ⟨same_h, ?_⟩)
      | (refine ⟨hqa.same, ?_⟩)
      | fail
    refine (part_spec (p := (c.hl, c.hh)) hB (by omega) hba e1 e2 (by show c.hh < 100000; omega)).mono ?_
    rintro r He ⟨⟨p3, rfl, p31, p32, p33⟩, hbe, ke⟩
    have le := ke.1
    have hge := (ke.2 bc (by omega) (by omega)).trans hga
    have hge' := (ke.2 b5 (by omega) (by omega)).trans hga'
    have hqe : OwnC He q ds bn := OwnS.boxed hqa ke hba
    have x8e : KeepX b Hx He := (((k8.butX b).trans k9).trans ka).trans ke
    obtain ⟨d, hd⟩ : ∃ d : Co, d = ⟨p1.1, p1.2, p2.1, p2.2, p3.1, p3.2, c.lt⟩ := ⟨_, rfl⟩
    have kM := Keep.new He (.cells (Col d) 32 2)
    have hgM : (He.new (.cells (Col d) 32 2)).get b5 = some (.cells (Fl q tv) 25 1) := (kM.2 b5 (by omega)).trans hge'
    repeat' first
      | refine CR.cons ?_
      | (refine ⟨_, cell_load ag25 hge' rfl, ?_⟩)
      | (refine ⟨_, cell_load agBo hge rfl, ?_⟩)
      | (refine ⟨(rfl : _ = Value.bool c.lt), ?_⟩)
      | (refine ⟨(rfl : _ = q), ?_⟩)
      | (refine ⟨same_bl, ?_⟩)
      | (refine ⟨hqe.same, ?_⟩)
      | (refine ⟨_, bu48, ?_⟩)
      | (rw [← hd])
      | (refine ⟨_, _, co_one, ?_⟩)
      | fail
    refine co_push hqe (by omega) (by omega) (by omega) ?_
    intro qb Hb hqb kbb hfb
    have lb := kbb.le
    have bq : ∀ c, blkOf q = some c → bn ≤ c := fun c hc => (hqe.lt hc).1
    have hgb := (kbb.get b5 (by omega) (fun h => by have := bq _ h; omega)).trans hge'
    have hfe := (x8e.2 b3 (by omega) (by omega)).trans hfx
    have hre := (x8e.2 b4 (by omega) (by omega)).trans hrx
    have hce : OwnC He cv cs c0 := OwnS.boxed hcx x8e hbx
    have hfb' := (kbb.get b3 (by omega) (fun h => by have := bq _ h; omega)).trans hfe
    have hrb' := (kbb.get b4 (by omega) (fun h => by have := bq _ h; omega)).trans hre
    have hbb := hbe.keepBut kbb (fun h => by have := bq _ h; omega)
    have hcb : OwnC Hb cv cs c0 := ownS_keepBt hce kbb fun c h1 h2 => by have := bq _ h2; have := hcq _ h1; omega
    have xb := kbb.keepX (xx.trans x8e) fun c hc => by have := bq _ hc; omega
    repeat' first
      | refine CR.cons ?_
      | (refine ⟨_, fS foF0 (by decide), ?_⟩)
      | fail
    refine ⟨_, _, store_row (i := 0) sz25 hgb (by show 0 < 2; decide) hqb.oneC, by omega, ?_⟩
    generalize hsA : Heap.set Hb b5 _ = HA
    have hgA : HA.get b5 = some (.cells (Fl qb tv) 25 1) := set_get hsA
    have nA := set_n hsA
    have oA := set_old hsA
    repeat' first
      | refine CO.cons rfl ?_
      | refine CO.nil ?_
      | refine CV.region callees ?_
      | refine CR.nil ?_
      | refine ⟨(⟨by omega, by omega⟩ : inI64 _), ?_⟩
      | fail
    refine ⟨(i + 1, qb, ds ++ [d]), (by repeat' first | exact trivial | refine ⟨rfl, ?_⟩ | refine ⟨slot_int (by (try simp only [Int.toNat_natCast]); omega), ?_⟩), (by (try dsimp only); omega), ?_⟩
    have kA : KeepX b5 Hb HA := ⟨by omega, fun c hc hcl => oA c hcl⟩
    refine ⟨by omega, ⟨by show (ds ++ [d]).length = i + 1; rw [List.length_append, List.length_singleton]; omega, narC_snoc hdl hds ?_⟩, hgA, (oA b3 (by omega)).trans hfb', (oA b4 (by omega)).trans hrb', OwnS.keepX hqb kA hgb, OwnS.keepX hcb kA hgb, hbb.put (by omega) oA nA, KeepX.put xb (by omega) oA nA, by omega⟩
    rw [hcc, hd]
    exact ⟨⟨⟨p11, p12, p13⟩, ⟨p21, p22, p23⟩, p31, p32, p33⟩, rfl⟩
  obtain rfl : i = cs.length := by omega
  repeat' first
    | refine CO.cons rfl ?_
    | refine CO.nil ?_
    | refine CV.seq ?_
    | refine CV.region callees ?_
    | refine CV.cond ?_
    | refine CV.exit ?_
    | (refine ⟨_, fS foF0 (by decide), ?_⟩)
    | (refine ⟨_, cell_load ag25 hfx rfl, ?_⟩)
    | (refine ⟨_, cs_len hcx.row, ?_⟩)
    | (refine ⟨_, ld28 hgx, ?_⟩)
    | (refine ⟨fun _ => ?_, fun _ => ?_⟩ <;> first | (exfalso; omega) | skip)
    | fail
  refine ⟨_, _, st28 hqx.oneC ht.oneC hrx, by omega, ?_⟩
  generalize hs9 : Heap.set Hx b4 _ = H9
  have hg9 : H9.get b4 = some (.cells (Fl q tv) 25 1) := set_get hs9
  have n9 := set_n hs9
  have o9 := set_old hs9
  repeat' first
    | refine CO.nil ?_
    | refine CV.ret ?_
    | fail
  have kA : KeepX b4 Hx H9 := ⟨by omega, fun c hc hcl => o9 c hcl⟩
  exact ⟨_, ld28 hg9, rfl, ⟨q, ds, rfl, OwnS.low (OwnS.keepX hqx kA hrx) (by omega), hdl, hds⟩, hbx.put (by omega) o9 n9, KeepX.put xx (by omega) o9 n9⟩
end Go.Proofs.Ytglkphjjinmgmaa
