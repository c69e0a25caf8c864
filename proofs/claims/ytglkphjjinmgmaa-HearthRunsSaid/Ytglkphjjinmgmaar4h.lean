/- A kettle over a fire,whatever they are: errors. -/
import Derived.Test.Ytglkphjjinmgmaar2h
import Derived.Test.Ytglkphjjinmgmaar3h
import Derived.Test.Ytglkphjjinmgmaar0h
set_option linter.unusedVariables false
set_option linter.unusedSimpArgs false
namespace Go.Proofs.Ytglkphjjinmgmaa
open Go.AI
def boE (k:Ke) (cs:List Co) (ts:List (Int × Int)) (ps:List Po):Int:=if psE k ps = 0 then fiE cs ts else psE k ps
def ruE (k:Ke) (cs:List Co) (ts:List (Int × Int)) (ps:List Po) (m:Int):Int:=if boE k cs ts ps = 0 then (if 0<=m∧m<=300 then 0 else 2) else boE k cs ts ps
theorem boE_zero {k:Ke} {cs:List Co} {ts:List (Int × Int)} {ps:List Po} (h:boE k cs ts ps = 0):KOk k∧POk k.wa ps∧FOk cs ts:=by
  unfold boE at h
  split at h
  · rename_i h1; obtain ⟨a,b⟩:=psE_zero h1; exact ⟨a,b,fiE_zero h⟩
  · rename_i h1; exact absurd h h1
theorem ruE_zero {k:Ke} {cs:List Co} {ts:List (Int × Int)} {ps:List Po} {m:Int} (h:ruE k cs ts ps m = 0):boE k cs ts ps = 0∧0<=m∧m<=300:=by
  unfold ruE at h
  split at h
  · rename_i h1
    split at h
    · rename_i h2; exact ⟨h1,h2⟩
    · omega
  · rename_i h1; exact absurd h h1
abbrev zBo:Value:=Bov ⟨0,0,0,0,0,0,0,0⟩ nilS nilS
theorem bu98e:abuild Try.prog 116 [] = some zBo:=by kernel_rfl
set_option maxHeartbeats 4000000 in
set_option maxRecDepth 100000 in
theorem boilingOfE_spec {B:Nat} {H:Heap} {k:Ke} {cv tv pv:Value} {cs:List Co} {ts:List (Int × Int)} {ps:List Po} {x:Int} (hB:B<=H.n) (hc:RowS 7 H cv (cs.map Col)) (ht:RowS 2 H tv (ts.map Hl)) (hp:RowS 3 H pv (ps.map Pol)) (hcn:cs.length<=100) (htn:ts.length<=100) (hpn:ps.length<=100) (hx:boE k cs ts ps = x) (hne:x ≠ 0) :
    CallB Try.prog B 84 [Kev k,Fv cv tv,pv] H (fun r H'=>r = .tuple #[zBo,VJ x]∧Keep H H'):=by
  have hbe:x = if psE k ps = 0 then fiE cs ts else psE k ps:=hx.symm
  refine CV.enter callees false rfl Try.func84 rfl (by kernel_rfl) (Nat.le_of_ble_eq_true rfl) hB ?_
  repeat' first | refine CO.cons rfl ?_ | refine CV.seq ?_ | refine CV.region callees ?_ | fail
  refine ⟨(by simp only [notTuple]),?_⟩
  rw [boxKe]
  generalize hs0:Heap.new H _ = H0
  have hg0:=new_get hs0
  have k0:=new_keep hs0
  have n0:=new_n hs0
  obtain ⟨b0,hbn0⟩:∃ b,Heap.n H = b:=⟨_,rfl⟩
  rw [hbn0] at hg0 n0 ⊢
  repeat' first | refine CO.cons rfl ?_ | fail
  refine ⟨(by simp only [notTuple]),?_⟩
  rw [allocFv hc.cells.1 ht.cells.1]
  generalize hs1:Heap.new H0 _ = H1
  have hg1:=new_get hs1
  have k1:=new_keep hs1
  have n1:=new_n hs1
  obtain ⟨b1,hbn1⟩:∃ b,Heap.n H0 = b:=⟨_,rfl⟩
  rw [hbn1] at hg1 n1 ⊢
  repeat' first | refine CO.cons rfl ?_ | refine CO.nil ?_ | refine CV.seq ?_ | refine CV.region callees ?_ | refine ⟨_,_,al98,?_⟩ | fail
  generalize hs2:Heap.new H1 _ = H2
  have hg2:=new_get hs2
  have k2:=new_keep hs2
  have n2:=new_n hs2
  obtain ⟨b2,hbn2⟩:∃ b,Heap.n H1 = b:=⟨_,rfl⟩
  rw [hbn2] at hg2 n2 ⊢
  have k02:=(k0.trans k1).trans k2
  have hk2:=(k2.2 b0 (by omega)).trans ((k1.2 b0 (by omega)).trans hg0)
  have hr2:=(k2.2 b1 (by omega)).trans hg1
  repeat' first | refine CO.cons rfl ?_ | refine ⟨_,agg_load (n:=8) (by kernel_rfl) (by kernel_rfl) hk2 (Nat.le_of_ble_eq_true rfl),?_⟩ | fail
  refine (checkPours_spec (by omega) (hp.keep k02) hpn).mono ?_
  obtain ⟨y,hy⟩:∃ y,psE k ps = y:=⟨_,rfl⟩
  rw [hy] at hbe ⊢
  rintro r H3 ⟨rfl,k3⟩
  have l3:=k3.1
  have k03:=k02.trans k3
  have hr3:=(k3.2 b1 (by omega)).trans hr2
  have hg3:=(k3.2 b2 (by omega)).trans hg2
  by_cases h1:y = 0
  rotate_left
  · rw [if_neg h1] at hbe
    subst hbe
    repeat' first | refine CO.cons rfl ?_ | refine CO.nil ?_ | refine CV.seq ?_ | refine CV.region callees ?_ | refine CV.cond ?_ | refine ⟨_,bu98e,?_⟩ | (refine ⟨fun _=>?_,fun _=>?_⟩<;>try (exfalso; omega)) | fail
    refine ⟨_,_,st98 rfl rfl hg3,by omega,?_⟩
    generalize hsz:Heap.set H3 b2 _ = Hz
    have hgz:Hz.get b2 = some (.cells (Bol ⟨0,0,0,0,0,0,0,0⟩ nilS nilS) 116 1):=set_get hsz
    have nz:=set_n hsz
    have oz:=set_old hsz
    repeat' first | refine CO.cons rfl ?_ | refine CO.nil ?_ | refine CV.ret ?_ | fail
    exact ⟨_,ld98 hgz,rfl,rfl,keep_put k03 (by omega) oz nz⟩
  rw [if_pos h1] at hbe
  repeat' first | refine CO.cons rfl ?_ | refine CO.nil ?_ | refine CV.seq ?_ | refine CV.region callees ?_ | refine CV.cond ?_ | refine CV.skip ?_ | refine ⟨_,agg_load ag28 sz28 hr3 (Nat.le_refl _),?_⟩ | (refine ⟨fun _=>?_,fun _=>?_⟩<;>try (exfalso; omega)) | fail
  refine (check_spec (cs:=cs) (ts:=ts) (by omega) (hc.keep k03) (ht.keep k03) hcn htn).mono ?_
  rw [<- hbe]
  rintro r H4 ⟨rfl,k4⟩
  have l4:=k4.1
  have hg4:=(k4.2 b2 (by omega)).trans hg3
  have k04:=k03.trans k4
  repeat' first | refine CO.cons rfl ?_ | refine CO.nil ?_ | refine CV.seq ?_ | refine CV.region callees ?_ | refine CV.cond ?_ | refine ⟨_,bu98e,?_⟩ | (refine ⟨fun _=>?_,fun _=>?_⟩<;>try (exfalso; omega)) | fail
  refine ⟨_,_,st98 rfl rfl hg4,by omega,?_⟩
  generalize hsz:Heap.set H4 b2 _ = Hz
  have hgz:Hz.get b2 = some (.cells (Bol ⟨0,0,0,0,0,0,0,0⟩ nilS nilS) 116 1):=set_get hsz
  have nz:=set_n hsz
  have oz:=set_old hsz
  repeat' first | refine CO.cons rfl ?_ | refine CO.nil ?_ | refine CV.ret ?_ | fail
  exact ⟨_,ld98 hgz,rfl,rfl,keep_put k04 (by omega) oz nz⟩
set_option maxHeartbeats 4000000 in
set_option maxRecDepth 100000 in
theorem boilingForE_spec {B:Nat} {H:Heap} {k:Ke} {cv tv pv:Value} {cs:List Co} {ts:List (Int × Int)} {ps:List Po} {m x:Int} (hB:B<=H.n) (hc:RowS 7 H cv (cs.map Col)) (ht:RowS 2 H tv (ts.map Hl)) (hp:RowS 3 H pv (ps.map Pol)) (hcn:cs.length<=100) (htn:ts.length<=100) (hpn:ps.length<=100) (hx:ruE k cs ts ps m = x) (hne:x ≠ 0) :
    CallB Try.prog B 78 [Kev k,Fv cv tv,pv,VJ m] H (fun r H'=>r = .tuple #[zBo,VJ x]∧Keep H H'):=by
  have hre:x = if boE k cs ts ps = 0 then (if 0<=m∧m<=300 then 0 else 2) else boE k cs ts ps:=hx.symm
  refine CV.enter callees false rfl Try.func78 rfl (by kernel_rfl) (Nat.le_of_ble_eq_true rfl) hB ?_
  repeat' first | refine CO.cons rfl ?_ | refine CV.seq ?_ | refine CV.region callees ?_ | fail
  refine ⟨(by simp only [notTuple]),?_⟩
  rw [boxKe]
  generalize hs0:Heap.new H _ = H0
  have hg0:=new_get hs0
  have k0:=new_keep hs0
  have n0:=new_n hs0
  obtain ⟨b0,hbn0⟩:∃ b,Heap.n H = b:=⟨_,rfl⟩
  rw [hbn0] at hg0 n0 ⊢
  repeat' first | refine CO.cons rfl ?_ | fail
  refine ⟨(by simp only [notTuple]),?_⟩
  rw [allocFv hc.cells.1 ht.cells.1]
  generalize hs1:Heap.new H0 _ = H1
  have hg1:=new_get hs1
  have k1:=new_keep hs1
  have n1:=new_n hs1
  obtain ⟨b1,hbn1⟩:∃ b,Heap.n H0 = b:=⟨_,rfl⟩
  rw [hbn1] at hg1 n1 ⊢
  repeat' first | refine CO.cons rfl ?_ | refine CO.nil ?_ | refine CV.seq ?_ | refine CV.region callees ?_ | refine ⟨_,_,al98,?_⟩ | fail
  generalize hs2:Heap.new H1 _ = H2
  have hg2:=new_get hs2
  have k2:=new_keep hs2
  have n2:=new_n hs2
  obtain ⟨b2,hbn2⟩:∃ b,Heap.n H1 = b:=⟨_,rfl⟩
  rw [hbn2] at hg2 n2 ⊢
  have k02:=(k0.trans k1).trans k2
  have hk2:=(k2.2 b0 (by omega)).trans ((k1.2 b0 (by omega)).trans hg0)
  have hr2:=(k2.2 b1 (by omega)).trans hg1
  repeat' first | refine CO.cons rfl ?_ | refine ⟨_,agg_load (n:=8) (by kernel_rfl) (by kernel_rfl) hk2 (Nat.le_of_ble_eq_true rfl),?_⟩ | refine ⟨_,agg_load ag28 sz28 hr2 (Nat.le_refl _),?_⟩ | fail
  by_cases hb0:boE k cs ts ps = 0
  · rw [if_pos hb0] at hre
    obtain ⟨hk,ho,hf⟩:=boE_zero hb0
    have hm:¬ (0<=m∧m<=300):=fun h=>by rw [if_pos h] at hre; exact hne hre
    rw [if_neg hm] at hre
    subst hre
    obtain ⟨B0,h0⟩:=isBeg_ex (e:=0) hf
    obtain ⟨B1,h1⟩:=isBeg_ex (e:=1) hf
    refine (boilingOf_spec (k:=k) (by omega) hk (hc.keep k02) (ht.keep k02) (hp.keep k02) ho hf h0 h1).mono ?_
    rintro r H3 ⟨⟨ev,rfl,he3⟩,k3⟩
    have l3:=k3.1
    have hg3:=(k3.2 b2 (by omega)).trans hg2
    have k03:=k02.trans k3
    have hp3:=hp.keep k03
    repeat' first | refine CO.cons rfl ?_ | refine ⟨_,_,al98,?_⟩ | fail
    generalize hs4:Heap.new H3 _ = H4
    have hg4:=new_get hs4
    have k4:=new_keep hs4
    have n4:=new_n hs4
    obtain ⟨b4,hbn4⟩:∃ b,Heap.n H3 = b:=⟨_,rfl⟩
    rw [hbn4] at hg4 n4 ⊢
    repeat' first | fail
    refine ⟨_,_,st98 he3.oneC hp3.cells.2.1 hg4,by omega,?_⟩
    generalize hs5:Heap.set H4 b4 _ = H5
    have hg5:H5.get b4 = some (.cells (Bol k ev pv) 116 1):=set_get hs5
    have n5:=set_n hs5
    have o5:=set_old hs5
    have k5:Keep H3 H5:=keep_put k4 (by omega) o5 n5
    have hg25:=(k5.2 b2 (by omega)).trans hg3
    have k05:=k03.trans k5
    repeat' first | refine CO.cons rfl ?_ | refine CO.nil ?_ | refine CV.seq ?_ | refine CV.region callees ?_ | refine CO.consG rfl ?_ | (refine ⟨fun _=>?_,fun _=>?_⟩<;>try (exfalso; omega)) | fail
    refine (isWithin_no (by omega) hm).mono ?_
    rintro r H6 ⟨rfl,rfl⟩
    repeat' first | refine CO.cons rfl ?_ | refine CO.nil ?_ | refine CV.seq ?_ | refine CV.region callees ?_ | refine CV.cond ?_ | refine CO.consG rfl ?_ | refine ⟨_,bu98e,?_⟩ | fail
    refine ⟨_,_,st98 rfl rfl hg25,by omega,?_⟩
    generalize hsz:Heap.set H6 b2 _ = Hz
    have hgz:Hz.get b2 = some (.cells (Bol ⟨0,0,0,0,0,0,0,0⟩ nilS nilS) 116 1):=set_get hsz
    have nz:=set_n hsz
    have oz:=set_old hsz
    repeat' first | refine CO.cons rfl ?_ | refine CO.nil ?_ | refine CV.ret ?_ | fail
    exact ⟨_,ld98 hgz,rfl,rfl,keep_put k05 (by omega) oz nz⟩
  · rw [if_neg hb0] at hre
    refine (boilingOfE_spec (k:=k) (by omega) (hc.keep k02) (ht.keep k02) (hp.keep k02) hcn htn hpn hre.symm hne).mono ?_
    rintro r H3 ⟨rfl,k3⟩
    have l3:=k3.1
    have hg3:=(k3.2 b2 (by omega)).trans hg2
    have k03:=k02.trans k3
    repeat' first | refine CO.cons rfl ?_ | refine ⟨_,_,al98,?_⟩ | fail
    generalize hs4:Heap.new H3 _ = H4
    have hg4:=new_get hs4
    have k4:=new_keep hs4
    have n4:=new_n hs4
    obtain ⟨b4,hbn4⟩:∃ b,Heap.n H3 = b:=⟨_,rfl⟩
    rw [hbn4] at hg4 n4 ⊢
    repeat' first | fail
    refine ⟨_,_,st98 rfl rfl hg4,by omega,?_⟩
    generalize hs5:Heap.set H4 b4 _ = H5
    have hg5:H5.get b4 = some (.cells (Bol ⟨0,0,0,0,0,0,0,0⟩ nilS nilS) 116 1):=set_get hs5
    have n5:=set_n hs5
    have o5:=set_old hs5
    have k5:Keep H3 H5:=keep_put k4 (by omega) o5 n5
    have hg25:=(k5.2 b2 (by omega)).trans hg3
    repeat' first | refine CO.cons rfl ?_ | refine CO.nil ?_ | refine CV.seq ?_ | refine CV.region callees ?_ | refine CV.cond ?_ | refine CV.skip ?_ | refine CO.consG rfl ?_ | refine ⟨_,ld98 hg5,?_⟩ | (refine ⟨fun _=>?_,fun _=>?_⟩<;>try (exfalso; omega)) | fail
    refine ⟨_,_,st98 rfl rfl hg25,by omega,?_⟩
    generalize hs7:Heap.set H5 b2 _ = H7
    have hg7:H7.get b2 = some (.cells (Bol ⟨0,0,0,0,0,0,0,0⟩ nilS nilS) 116 1):=set_get hs7
    have n7:=set_n hs7
    have o7:=set_old hs7
    repeat' first | refine CO.cons rfl ?_ | refine CO.nil ?_ | refine CV.ret ?_ | fail
    exact ⟨_,ld98 hg7,rfl,rfl,keep_put (k03.trans k5) (by omega) o7 n7⟩
set_option maxHeartbeats 4000000 in
set_option maxRecDepth 100000 in
theorem runE_spec {B:Nat} {H:Heap} {k:Ke} {cv tv pv:Value} {cs:List Co} {ts:List (Int × Int)} {ps:List Po} {m x:Int} (hB:B<=H.n) (hc:RowS 7 H cv (cs.map Col)) (ht:RowS 2 H tv (ts.map Hl)) (hp:RowS 3 H pv (ps.map Pol)) (hcn:cs.length<=100) (htn:ts.length<=100) (hpn:ps.length<=100) (hx:ruE k cs ts ps m = x) (hne:x ≠ 0) :
    CallB Try.prog B 36 [Kev k,Fv cv tv,pv,VJ m] H (fun r H'=>r = .tuple #[nilS,VJ x]∧Keep H H'):=by
  refine CV.enter callees false rfl Try.func36 rfl (by kernel_rfl) (Nat.le_of_ble_eq_true rfl) hB ?_
  repeat' first | refine CO.cons rfl ?_ | refine CV.seq ?_ | refine CV.region callees ?_ | fail
  refine ⟨(by simp only [notTuple]),?_⟩
  rw [boxKe]
  generalize hs0:Heap.new H _ = H0
  have hg0:=new_get hs0
  have k0:=new_keep hs0
  have n0:=new_n hs0
  obtain ⟨b0,hbn0⟩:∃ b,Heap.n H = b:=⟨_,rfl⟩
  rw [hbn0] at hg0 n0 ⊢
  repeat' first | refine CO.cons rfl ?_ | fail
  refine ⟨(by simp only [notTuple]),?_⟩
  rw [allocFv hc.cells.1 ht.cells.1]
  generalize hs1:Heap.new H0 _ = H1
  have hg1:=new_get hs1
  have k1:=new_keep hs1
  have n1:=new_n hs1
  obtain ⟨b1,hbn1⟩:∃ b,Heap.n H0 = b:=⟨_,rfl⟩
  rw [hbn1] at hg1 n1 ⊢
  have k01:=k0.trans k1
  have hk1:=(k1.2 b0 (by omega)).trans hg0
  repeat' first | refine CO.cons rfl ?_ | refine CO.nil ?_ | refine CV.seq ?_ | refine CV.region callees ?_ | refine ⟨_,agg_load (n:=8) (by kernel_rfl) (by kernel_rfl) hk1 (Nat.le_of_ble_eq_true rfl),?_⟩ | refine ⟨_,agg_load ag28 sz28 hg1 (Nat.le_refl _),?_⟩ | fail
  refine (boilingForE_spec (k:=k) (by omega) (hc.keep k01) (ht.keep k01) (hp.keep k01) hcn htn hpn hx hne).mono ?_
  rintro r H3 ⟨rfl,k3⟩
  have l3:=k3.1
  have k03:=k01.trans k3
  repeat' first | refine CO.cons rfl ?_ | refine ⟨_,_,al98,?_⟩ | fail
  generalize hs4:Heap.new H3 _ = H4
  have hg4:=new_get hs4
  have k4:=new_keep hs4
  have n4:=new_n hs4
  obtain ⟨b4,hbn4⟩:∃ b,Heap.n H3 = b:=⟨_,rfl⟩
  rw [hbn4] at hg4 n4 ⊢
  repeat' first | fail
  refine ⟨_,_,st98 rfl rfl hg4,by omega,?_⟩
  generalize hs5:Heap.set H4 b4 _ = H5
  have hg5:H5.get b4 = some (.cells (Bol ⟨0,0,0,0,0,0,0,0⟩ nilS nilS) 116 1):=set_get hs5
  have n5:=set_n hs5
  have o5:=set_old hs5
  have k5:Keep H3 H5:=keep_put k4 (by omega) o5 n5
  repeat' first | refine CO.cons rfl ?_ | refine CO.nil ?_ | refine CV.seq ?_ | refine CV.region callees ?_ | refine CV.cond ?_ | refine CV.ret ?_ | (refine ⟨fun _=>?_,fun _=>?_⟩<;>try (exfalso; omega)) | fail
  exact ⟨rfl,rfl,k03.trans k5⟩
set_option maxHeartbeats 4000000 in
set_option maxRecDepth 100000 in
theorem singsE_spec {B:Nat} {H:Heap} {k:Ke} {cv tv pv:Value} {cs:List Co} {ts:List (Int × Int)} {ps:List Po} {m x:Int} (hB:B<=H.n) (hc:RowS 7 H cv (cs.map Col)) (ht:RowS 2 H tv (ts.map Hl)) (hp:RowS 3 H pv (ps.map Pol)) (hcn:cs.length<=100) (htn:ts.length<=100) (hpn:ps.length<=100) (hx:ruE k cs ts ps m = x) (hne:x ≠ 0) :
    CallB Try.prog B 38 [Kev k,Fv cv tv,pv,VJ m] H (fun r H'=>r = .tuple #[nilS,VJ x]∧Keep H H'):=by
  refine CV.enter callees false rfl Try.func38 rfl (by kernel_rfl) (Nat.le_of_ble_eq_true rfl) hB ?_
  repeat' first | refine CO.cons rfl ?_ | refine CV.seq ?_ | refine CV.region callees ?_ | fail
  refine ⟨(by simp only [notTuple]),?_⟩
  rw [boxKe]
  generalize hs0:Heap.new H _ = H0
  have hg0:=new_get hs0
  have k0:=new_keep hs0
  have n0:=new_n hs0
  obtain ⟨b0,hbn0⟩:∃ b,Heap.n H = b:=⟨_,rfl⟩
  rw [hbn0] at hg0 n0 ⊢
  repeat' first | refine CO.cons rfl ?_ | fail
  refine ⟨(by simp only [notTuple]),?_⟩
  rw [allocFv hc.cells.1 ht.cells.1]
  generalize hs1:Heap.new H0 _ = H1
  have hg1:=new_get hs1
  have k1:=new_keep hs1
  have n1:=new_n hs1
  obtain ⟨b1,hbn1⟩:∃ b,Heap.n H0 = b:=⟨_,rfl⟩
  rw [hbn1] at hg1 n1 ⊢
  have k01:=k0.trans k1
  have hk1:=(k1.2 b0 (by omega)).trans hg0
  repeat' first | refine CO.cons rfl ?_ | refine CO.nil ?_ | refine CV.seq ?_ | refine CV.region callees ?_ | refine ⟨_,agg_load (n:=8) (by kernel_rfl) (by kernel_rfl) hk1 (Nat.le_of_ble_eq_true rfl),?_⟩ | refine ⟨_,agg_load ag28 sz28 hg1 (Nat.le_refl _),?_⟩ | fail
  refine (boilingForE_spec (k:=k) (by omega) (hc.keep k01) (ht.keep k01) (hp.keep k01) hcn htn hpn hx hne).mono ?_
  rintro r H3 ⟨rfl,k3⟩
  have l3:=k3.1
  have k03:=k01.trans k3
  repeat' first | refine CO.cons rfl ?_ | refine ⟨_,_,al98,?_⟩ | fail
  generalize hs4:Heap.new H3 _ = H4
  have hg4:=new_get hs4
  have k4:=new_keep hs4
  have n4:=new_n hs4
  obtain ⟨b4,hbn4⟩:∃ b,Heap.n H3 = b:=⟨_,rfl⟩
  rw [hbn4] at hg4 n4 ⊢
  repeat' first | fail
  refine ⟨_,_,st98 rfl rfl hg4,by omega,?_⟩
  generalize hs5:Heap.set H4 b4 _ = H5
  have hg5:H5.get b4 = some (.cells (Bol ⟨0,0,0,0,0,0,0,0⟩ nilS nilS) 116 1):=set_get hs5
  have n5:=set_n hs5
  have o5:=set_old hs5
  have k5:Keep H3 H5:=keep_put k4 (by omega) o5 n5
  repeat' first | refine CO.cons rfl ?_ | refine CO.nil ?_ | refine CV.seq ?_ | refine CV.region callees ?_ | refine CV.cond ?_ | refine CV.ret ?_ | (refine ⟨fun _=>?_,fun _=>?_⟩<;>try (exfalso; omega)) | fail
  exact ⟨rfl,rfl,k03.trans k5⟩
set_option maxHeartbeats 4000000 in
set_option maxRecDepth 100000 in
theorem checkRunR_spec {B:Nat} {H:Heap} {k:Ke} {cv tv pv:Value} {cs:List Co} {ts:List (Int × Int)} {ps:List Po} {m:Int} (hB:B<=H.n) (hc:RowS 7 H cv (cs.map Col)) (ht:RowS 2 H tv (ts.map Hl)) (hp:RowS 3 H pv (ps.map Pol)) (hcn:cs.length<=100) (htn:ts.length<=100) (hpn:ps.length<=100) :
    CallB Try.prog B 80 [Kev k,Fv cv tv,pv,VJ m] H (fun r H'=>r = VJ (ruE k cs ts ps m)∧Keep H H'):=by
  have hre:ruE k cs ts ps m = if (if psE k ps = 0 then fiE cs ts else psE k ps) = 0 then (if 0<=m∧m<=300 then 0 else 2) else (if psE k ps = 0 then fiE cs ts else psE k ps):=rfl
  refine CV.enter callees false rfl Try.func80 rfl (by kernel_rfl) (Nat.le_of_ble_eq_true rfl) hB ?_
  repeat' first | refine CO.cons rfl ?_ | refine CV.seq ?_ | refine CV.region callees ?_ | fail
  refine ⟨(by simp only [notTuple]),?_⟩
  rw [boxKe]
  generalize hs0:Heap.new H _ = H0
  have hg0:=new_get hs0
  have k0:=new_keep hs0
  have n0:=new_n hs0
  obtain ⟨b0,hbn0⟩:∃ b,Heap.n H = b:=⟨_,rfl⟩
  rw [hbn0] at hg0 n0 ⊢
  repeat' first | refine CO.cons rfl ?_ | fail
  refine ⟨(by simp only [notTuple]),?_⟩
  rw [allocFv hc.cells.1 ht.cells.1]
  generalize hs1:Heap.new H0 _ = H1
  have hg1:=new_get hs1
  have k1:=new_keep hs1
  have n1:=new_n hs1
  obtain ⟨b1,hbn1⟩:∃ b,Heap.n H0 = b:=⟨_,rfl⟩
  rw [hbn1] at hg1 n1 ⊢
  have k01:=k0.trans k1
  have hk1:=(k1.2 b0 (by omega)).trans hg0
  repeat' first | refine CO.cons rfl ?_ | refine CO.nil ?_ | refine CV.seq ?_ | refine CV.region callees ?_ | refine ⟨_,agg_load (n:=8) (by kernel_rfl) (by kernel_rfl) hk1 (Nat.le_of_ble_eq_true rfl),?_⟩ | fail
  refine (checkPoursR_spec (by omega) (hp.keep k01) hpn).mono ?_
  obtain ⟨y,hy⟩:∃ y,psE k ps = y:=⟨_,rfl⟩
  rw [hy] at hre ⊢
  rintro r H3 ⟨rfl,k3⟩
  have l3:=k3.1
  have k03:=k01.trans k3
  have hr3:=(k3.2 b1 (by omega)).trans hg1
  by_cases h1:y = 0
  rotate_left
  · simp only [if_neg h1] at hre
    repeat' first | refine CO.cons rfl ?_ | refine CO.nil ?_ | refine CV.seq ?_ | refine CV.region callees ?_ | refine CV.cond ?_ | refine CV.ret ?_ | (refine ⟨fun _=>?_,fun _=>?_⟩<;>try (exfalso; omega)) | fail
    exact ⟨rfl,by rw [hre],k03⟩
  simp only [if_pos h1] at hre
  repeat' first | refine CO.cons rfl ?_ | refine CO.nil ?_ | refine CV.seq ?_ | refine CV.region callees ?_ | refine CV.cond ?_ | refine CV.skip ?_ | refine ⟨_,agg_load ag28 sz28 hr3 (Nat.le_refl _),?_⟩ | (refine ⟨fun _=>?_,fun _=>?_⟩<;>try (exfalso; omega)) | fail
  refine (checkR_spec (cs:=cs) (ts:=ts) (by omega) (hc.keep k03) (ht.keep k03) hcn htn).mono ?_
  obtain ⟨z,hz⟩:∃ z,fiE cs ts = z:=⟨_,rfl⟩
  rw [hz] at hre ⊢
  rintro r H4 ⟨rfl,k4⟩
  have l4:=k4.1
  have k04:=k03.trans k4
  by_cases h2:z = 0
  rotate_left
  · rw [if_neg h2] at hre
    repeat' first | refine CO.cons rfl ?_ | refine CO.nil ?_ | refine CV.seq ?_ | refine CV.region callees ?_ | refine CV.cond ?_ | refine CV.ret ?_ | (refine ⟨fun _=>?_,fun _=>?_⟩<;>try (exfalso; omega)) | fail
    exact ⟨rfl,by rw [hre],k04⟩
  rw [if_pos h2] at hre
  by_cases hm:0<=m∧m<=300
  · rw [if_pos hm] at hre
    repeat' first | refine CO.cons rfl ?_ | refine CO.nil ?_ | refine CV.seq ?_ | refine CV.region callees ?_ | refine CV.cond ?_ | refine CV.skip ?_ | (refine ⟨fun _=>?_,fun _=>?_⟩<;>try (exfalso; omega)) | fail
    refine (within_yes (by omega) hm).mono ?_
    rintro r H5 ⟨rfl,rfl⟩
    repeat' first | refine CO.cons rfl ?_ | refine CO.nil ?_ | refine CV.seq ?_ | refine CV.region callees ?_ | refine CV.cond ?_ | refine CV.skip ?_ | refine CV.ret ?_ | fail
    exact ⟨rfl,by rw [hre],k04⟩
  · rw [if_neg hm] at hre
    repeat' first | refine CO.cons rfl ?_ | refine CO.nil ?_ | refine CV.seq ?_ | refine CV.region callees ?_ | refine CV.cond ?_ | refine CV.skip ?_ | (refine ⟨fun _=>?_,fun _=>?_⟩<;>try (exfalso; omega)) | fail
    refine (within_no (by omega) hm).mono ?_
    rintro r H5 ⟨rfl,rfl⟩
    repeat' first | refine CO.cons rfl ?_ | refine CO.nil ?_ | refine CV.seq ?_ | refine CV.region callees ?_ | refine CV.cond ?_ | refine CV.ret ?_ | fail
    exact ⟨rfl,by rw [hre],k04⟩
end Go.Proofs.Ytglkphjjinmgmaa
