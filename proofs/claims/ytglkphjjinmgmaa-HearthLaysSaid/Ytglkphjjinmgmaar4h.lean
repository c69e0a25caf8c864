/- A kettle over a fire,whatever they are: errors. -/
import Derived.Test.Ytglkphjjinmgmaar2h
import Derived.Test.Ytglkphjjinmgmaar3h
import Derived.Test.Ytglkphjjinmgmaar0h
set_option linter.unusedVariables false
set_option linter.unusedSimpArgs false
namespace Go.Proofs.Ytglkphjjinmgmaa
open Go.AI
def boE (k:Ke) (cs:List Co) (ts:List (Int × Int)) (ps:List Po):Int:=if psE k ps = 0 then fiE cs ts else psE k ps
def ruE (k:Ke) (cs:List Co) (ts:List (Int × Int)) (ps:List Po) (m:Int):Int:=if boE k cs ts ps = 0 then (if 0<=m∧m<=300 then 0 else 2) else boE k cs ts ps
theorem boE_zero {k:Ke} {cs:List Co} {ts:List (Int × Int)} {ps:List Po} (h:boE k cs ts ps = 0):KOk k∧POk k.wa ps∧FOk cs ts:=by
  unfold boE at h
  split at h
  · rename_i h1; obtain ⟨a,b⟩:=psE_zero h1; exact ⟨a,b,fiE_zero h⟩
  · rename_i h1; exact absurd h h1
abbrev zBo:Value:=Bov ⟨0,0,0,0,0,0,0,0⟩ nilS nilS
theorem bu98e:abuild Try.prog 116 [] = some zBo:=by kernel_rfl
set_option maxHeartbeats 4000000 in
set_option maxRecDepth 100000 in
theorem boilingOfE_spec {B:Nat} {H:Heap} {k:Ke} {cv tv pv:Value} {cs:List Co} {ts:List (Int × Int)} {ps:List Po} {x:Int} (hB:B<=H.n) (hc:RowS 7 H cv (cs.map Col)) (ht:RowS 2 H tv (ts.map Hl)) (hp:RowS 3 H pv (ps.map Pol)) (hcn:cs.length<=100) (htn:ts.length<=100) (hpn:ps.length<=100) (hx:boE k cs ts ps = x) (hne:x ≠ 0) :
    CallB Try.prog B 84 [Kev k,Fv cv tv,pv] H (fun r H'=>r = .tuple #[zBo,VJ x]∧Keep H H'):=by
  have hbe:x = if psE k ps = 0 then fiE cs ts else psE k ps:=hx.symm
  refine CV.enter callees false rfl Try.func84 rfl (by kernel_rfl) (Nat.le_of_ble_eq_true rfl) hB ?_
  repeat' first | refine CO.cons rfl ?_ | refine CV.seq ?_ | refine CV.region callees ?_ | fail
  refine ⟨(by simp only [notTuple]),?_⟩
  rw [boxKe]
  generalize hs0:Heap.new H _ = H0
  have hg0:=new_get hs0
  have k0:=new_keep hs0
  have n0:=new_n hs0
  obtain ⟨b0,hbn0⟩:∃ b,Heap.n H = b:=⟨_,rfl⟩
  rw [hbn0] at hg0 n0 ⊢
  repeat' first | refine CO.cons rfl ?_ | fail
  refine ⟨(by simp only [notTuple]),?_⟩
  rw [allocFv hc.cells.1 ht.cells.1]
  generalize hs1:Heap.new H0 _ = H1
  have hg1:=new_get hs1
  have k1:=new_keep hs1
  have n1:=new_n hs1
  obtain ⟨b1,hbn1⟩:∃ b,Heap.n H0 = b:=⟨_,rfl⟩
  rw [hbn1] at hg1 n1 ⊢
  repeat' first | refine CO.cons rfl ?_ | refine CO.nil ?_ | refine CV.seq ?_ | refine CV.region callees ?_ | refine ⟨_,_,al98,?_⟩ | fail
  generalize hs2:Heap.new H1 _ = H2
  have hg2:=new_get hs2
  have k2:=new_keep hs2
  have n2:=new_n hs2
  obtain ⟨b2,hbn2⟩:∃ b,Heap.n H1 = b:=⟨_,rfl⟩
  rw [hbn2] at hg2 n2 ⊢
  have k02:=(k0.trans k1).trans k2
  have hk2:=(k2.2 b0 (by omega)).trans ((k1.2 b0 (by omega)).trans hg0)
  have hr2:=(k2.2 b1 (by omega)).trans hg1
  repeat' first | refine CO.cons rfl ?_ | refine ⟨_,agg_load (n:=8) (by kernel_rfl) (by kernel_rfl) hk2 (Nat.le_of_ble_eq_true rfl),?_⟩ | fail
  refine (checkPours_spec (by omega) (hp.keep k02) hpn).mono ?_
  obtain ⟨y,hy⟩:∃ y,psE k ps = y:=⟨_,rfl⟩
  rw [hy] at hbe ⊢
  rintro r H3 ⟨rfl,k3⟩
  have l3:=k3.1
  have k03:=k02.trans k3
  have hr3:=(k3.2 b1 (by omega)).trans hr2
  have hg3:=(k3.2 b2 (by omega)).trans hg2
  by_cases h1:y = 0
  rotate_left
  · rw [if_neg h1] at hbe
    subst hbe
    repeat' first | refine CO.cons rfl ?_ | refine CO.nil ?_ | refine CV.seq ?_ | refine CV.region callees ?_ | refine CV.cond ?_ | refine ⟨_,bu98e,?_⟩ | (refine ⟨fun _=>?_,fun _=>?_⟩<;>try (exfalso; omega)) | fail
    refine ⟨_,_,st98 rfl rfl hg3,by omega,?_⟩
    generalize hsz:Heap.set H3 b2 _ = Hz
    have hgz:Hz.get b2 = some (.cells (Bol ⟨0,0,0,0,0,0,0,0⟩ nilS nilS) 116 1):=set_get hsz
    have nz:=set_n hsz
    have oz:=set_old hsz
    repeat' first | refine CO.cons rfl ?_ | refine CO.nil ?_ | refine CV.ret ?_ | fail
    exact ⟨_,ld98 hgz,rfl,rfl,keep_put k03 (by omega) oz nz⟩
  rw [if_pos h1] at hbe
  repeat' first | refine CO.cons rfl ?_ | refine CO.nil ?_ | refine CV.seq ?_ | refine CV.region callees ?_ | refine CV.cond ?_ | refine CV.skip ?_ | refine ⟨_,agg_load ag28 sz28 hr3 (Nat.le_refl _),?_⟩ | (refine ⟨fun _=>?_,fun _=>?_⟩<;>try (exfalso; omega)) | fail
  refine (check_spec (cs:=cs) (ts:=ts) (by omega) (hc.keep k03) (ht.keep k03) hcn htn).mono ?_
  rw [<- hbe]
  rintro r H4 ⟨rfl,k4⟩
  have l4:=k4.1
  have hg4:=(k4.2 b2 (by omega)).trans hg3
  have k04:=k03.trans k4
  repeat' first | refine CO.cons rfl ?_ | refine CO.nil ?_ | refine CV.seq ?_ | refine CV.region callees ?_ | refine CV.cond ?_ | refine ⟨_,bu98e,?_⟩ | (refine ⟨fun _=>?_,fun _=>?_⟩<;>try (exfalso; omega)) | fail
  refine ⟨_,_,st98 rfl rfl hg4,by omega,?_⟩
  generalize hsz:Heap.set H4 b2 _ = Hz
  have hgz:Hz.get b2 = some (.cells (Bol ⟨0,0,0,0,0,0,0,0⟩ nilS nilS) 116 1):=set_get hsz
  have nz:=set_n hsz
  have oz:=set_old hsz
  repeat' first | refine CO.cons rfl ?_ | refine CO.nil ?_ | refine CV.ret ?_ | fail
  exact ⟨_,ld98 hgz,rfl,rfl,keep_put k04 (by omega) oz nz⟩
set_option maxHeartbeats 4000000 in
set_option maxRecDepth 100000 in
theorem checkRunR_spec {B:Nat} {H:Heap} {k:Ke} {cv tv pv:Value} {cs:List Co} {ts:List (Int × Int)} {ps:List Po} {m:Int} (hB:B<=H.n) (hc:RowS 7 H cv (cs.map Col)) (ht:RowS 2 H tv (ts.map Hl)) (hp:RowS 3 H pv (ps.map Pol)) (hcn:cs.length<=100) (htn:ts.length<=100) (hpn:ps.length<=100) :
    CallB Try.prog B 80 [Kev k,Fv cv tv,pv,VJ m] H (fun r H'=>r = VJ (ruE k cs ts ps m)∧Keep H H'):=by
  have hre:ruE k cs ts ps m = if (if psE k ps = 0 then fiE cs ts else psE k ps) = 0 then (if 0<=m∧m<=300 then 0 else 2) else (if psE k ps = 0 then fiE cs ts else psE k ps):=rfl
  refine CV.enter callees false rfl Try.func80 rfl (by kernel_rfl) (Nat.le_of_ble_eq_true rfl) hB ?_
  repeat' first | refine CO.cons rfl ?_ | refine CV.seq ?_ | refine CV.region callees ?_ | fail
  refine ⟨(by simp only [notTuple]),?_⟩
  rw [boxKe]
  generalize hs0:Heap.new H _ = H0
  have hg0:=new_get hs0
  have k0:=new_keep hs0
  have n0:=new_n hs0
  obtain ⟨b0,hbn0⟩:∃ b,Heap.n H = b:=⟨_,rfl⟩
  rw [hbn0] at hg0 n0 ⊢
  repeat' first | refine CO.cons rfl ?_ | fail
  refine ⟨(by simp only [notTuple]),?_⟩
  rw [allocFv hc.cells.1 ht.cells.1]
  generalize hs1:Heap.new H0 _ = H1
  have hg1:=new_get hs1
  have k1:=new_keep hs1
  have n1:=new_n hs1
  obtain ⟨b1,hbn1⟩:∃ b,Heap.n H0 = b:=⟨_,rfl⟩
  rw [hbn1] at hg1 n1 ⊢
  have k01:=k0.trans k1
  have hk1:=(k1.2 b0 (by omega)).trans hg0
  repeat' first | refine CO.cons rfl ?_ | refine CO.nil ?_ | refine CV.seq ?_ | refine CV.region callees ?_ | refine ⟨_,agg_load (n:=8) (by kernel_rfl) (by kernel_rfl) hk1 (Nat.le_of_ble_eq_true rfl),?_⟩ | fail
  refine (checkPoursR_spec (by omega) (hp.keep k01) hpn).mono ?_
  obtain ⟨y,hy⟩:∃ y,psE k ps = y:=⟨_,rfl⟩
  rw [hy] at hre ⊢
  rintro r H3 ⟨rfl,k3⟩
  have l3:=k3.1
  have k03:=k01.trans k3
  have hr3:=(k3.2 b1 (by omega)).trans hg1
  by_cases h1:y = 0
  rotate_left
  · simp only [if_neg h1] at hre
    repeat' first | refine CO.cons rfl ?_ | refine CO.nil ?_ | refine CV.seq ?_ | refine CV.region callees ?_ | refine CV.cond ?_ | refine CV.ret ?_ | (refine ⟨fun _=>?_,fun _=>?_⟩<;>try (exfalso; omega)) | fail
    exact ⟨rfl,by rw [hre],k03⟩
  simp only [if_pos h1] at hre
  repeat' first | refine CO.cons rfl ?_ | refine CO.nil ?_ | refine CV.seq ?_ | refine CV.region callees ?_ | refine CV.cond ?_ | refine CV.skip ?_ | refine ⟨_,agg_load ag28 sz28 hr3 (Nat.le_refl _),?_⟩ | (refine ⟨fun _=>?_,fun _=>?_⟩<;>try (exfalso; omega)) | fail
  refine (checkR_spec (cs:=cs) (ts:=ts) (by omega) (hc.keep k03) (ht.keep k03) hcn htn).mono ?_
  obtain ⟨z,hz⟩:∃ z,fiE cs ts = z:=⟨_,rfl⟩
  rw [hz] at hre ⊢
  rintro r H4 ⟨rfl,k4⟩
  have l4:=k4.1
  have k04:=k03.trans k4
  by_cases h2:z = 0
  rotate_left
  · rw [if_neg h2] at hre
    repeat' first | refine CO.cons rfl ?_ | refine CO.nil ?_ | refine CV.seq ?_ | refine CV.region callees ?_ | refine CV.cond ?_ | refine CV.ret ?_ | (refine ⟨fun _=>?_,fun _=>?_⟩<;>try (exfalso; omega)) | fail
    exact ⟨rfl,by rw [hre],k04⟩
  rw [if_pos h2] at hre
  by_cases hm:0<=m∧m<=300
  · rw [if_pos hm] at hre
    repeat' first | refine CO.cons rfl ?_ | refine CO.nil ?_ | refine CV.seq ?_ | refine CV.region callees ?_ | refine CV.cond ?_ | refine CV.skip ?_ | (refine ⟨fun _=>?_,fun _=>?_⟩<;>try (exfalso; omega)) | fail
    refine (within_yes (by omega) hm).mono ?_
    rintro r H5 ⟨rfl,rfl⟩
    repeat' first | refine CO.cons rfl ?_ | refine CO.nil ?_ | refine CV.seq ?_ | refine CV.region callees ?_ | refine CV.cond ?_ | refine CV.skip ?_ | refine CV.ret ?_ | fail
    exact ⟨rfl,by rw [hre],k04⟩
  · rw [if_neg hm] at hre
    repeat' first | refine CO.cons rfl ?_ | refine CO.nil ?_ | refine CV.seq ?_ | refine CV.region callees ?_ | refine CV.cond ?_ | refine CV.skip ?_ | (refine ⟨fun _=>?_,fun _=>?_⟩<;>try (exfalso; omega)) | fail
    refine (within_no (by omega) hm).mono ?_
    rintro r H5 ⟨rfl,rfl⟩
    repeat' first | refine CO.cons rfl ?_ | refine CO.nil ?_ | refine CV.seq ?_ | refine CV.region callees ?_ | refine CV.cond ?_ | refine CV.ret ?_ | fail
    exact ⟨rfl,by rw [hre],k04⟩
end Go.Proofs.Ytglkphjjinmgmaa
