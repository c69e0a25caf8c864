/- Run,for whatever pours. -/
import Derived.Test.Ytglkphjjinmgmaar1h
import Derived.Test.YtglkphjjinmgmaaM3h
set_option linter.unusedVariables false
set_option linter.unusedSimpArgs false
namespace Go.Proofs.Ytglkphjjinmgmaa
open Go.AI
set_option maxHeartbeats 8000000 in
set_option maxRecDepth 100000 in
theorem runN_spec {B:Nat} {H:Heap} {k:Ke} {cv tv pv:Value} {cs:List Co} {ts:List (Int × Int)} {ps:List Po} {B0 B1:List Int} {m:Nat} (hB:B<=H.n) (hk:KOk k) (hc:RowS 7 H cv (cs.map Col)) (ht:RowS 2 H tv (ts.map Hl)) (hp:RowS 3 H pv (ps.map Pol)) (ho:POk k.wa ps) (hf:FOk cs ts) (h0:IsBeg 0 cs ts B0) (h1:IsBeg 1 cs ts B1) (hm1:m<=300) :
    CallB Try.prog B 36 [Kev k,Fv cv tv,pv,VJ m] H (fun r H'=>(∃ q,r = .tuple #[q,VJ 0]∧OwnSp H' q (warmL k (emL cs B0 B1) ps (m + 1)) H.n)∧Keep H H'):=by
  refine CV.enter callees false rfl Try.func36 rfl (by kernel_rfl) (Nat.le_of_ble_eq_true rfl) hB ?_
  repeat' first | refine CO.cons rfl ?_ | refine CV.seq ?_ | refine CV.region callees ?_ | fail
  refine ⟨(by simp only [notTuple]),?_⟩
  rw [boxKe]
  generalize hs0:Heap.new H _ = H0
  have hg0:=new_get hs0
  have k0:=new_keep hs0
  have n0:=new_n hs0
  obtain ⟨b0,hbn0⟩:∃ b,Heap.n H = b:=⟨_,rfl⟩
  rw [hbn0] at hg0 n0 ⊢
  repeat' first | refine CO.cons rfl ?_ | fail
  refine ⟨(by simp only [notTuple]),?_⟩
  rw [allocFv hc.cells.1 ht.cells.1]
  generalize hs1:Heap.new H0 _ = H1
  have hg1:=new_get hs1
  have k1:=new_keep hs1
  have n1:=new_n hs1
  obtain ⟨b1,hbn1⟩:∃ b,Heap.n H0 = b:=⟨_,rfl⟩
  rw [hbn1] at hg1 n1 ⊢
  have k01:=k0.trans k1
  have hk1:=(k1.2 b0 (by omega)).trans hg0
  repeat' first | refine CO.cons rfl ?_ | refine CO.nil ?_ | refine CV.seq ?_ | refine CV.region callees ?_ | refine ⟨_,agg_load (n:=8) (by kernel_rfl) (by kernel_rfl) hk1 (Nat.le_of_ble_eq_true rfl),?_⟩ | refine ⟨_,agg_load ag28 sz28 hg1 (Nat.le_refl _),?_⟩ | fail
  refine (boilingFor_spec (k:=k) (by omega) hk (hc.keep k01) (ht.keep k01) (hp.keep k01) ho hf h0 h1 (by omega) (by omega)).mono ?_
  rintro r H3 ⟨⟨ev,rfl,he3⟩,k3⟩
  have l3:=k3.1
  have k03:=k01.trans k3
  have hp3:=hp.keep k03
  have hEl:(emL cs B0 B1).length<=12:=by rw [emL_len]; exact hf.n
  have hEo:=emL_ok hf h0 h1
  obtain ⟨E,hE⟩:∃ E,emL cs B0 B1 = E:=⟨_,rfl⟩
  rw [hE] at he3 hEl hEo ⊢
  repeat' first | refine CO.cons rfl ?_ | refine ⟨_,_,al98,?_⟩ | fail
  generalize hs4:Heap.new H3 _ = H4
  have hg4:=new_get hs4
  have k4:=new_keep hs4
  have n4:=new_n hs4
  obtain ⟨b4,hbn4⟩:∃ b,Heap.n H3 = b:=⟨_,rfl⟩
  rw [hbn4] at hg4 n4 ⊢
  repeat' first | fail
  refine ⟨_,_,st98 he3.oneC hp3.cells.2.1 hg4,by omega,?_⟩
  generalize hs5:Heap.set H4 b4 _ = H5
  have hg5:H5.get b4 = some (.cells (Bol k ev pv) 116 1):=set_get hs5
  have n5:=set_n hs5
  have o5:=set_old hs5
  have k5:Keep H3 H5:=keep_put k4 (by omega) o5 n5
  repeat' first | refine CO.cons rfl ?_ | refine CO.nil ?_ | refine CV.seq ?_ | refine CV.region callees ?_ | refine CV.cond ?_ | refine CV.skip ?_ | refine ⟨_,_,alloc_of zc35,?_⟩ | (refine ⟨fun _=>?_,fun _=>?_⟩<;>try (exfalso; omega)) | fail
  generalize hs6:Heap.new H5 _ = H6
  have hg6:=new_get hs6
  have k6:=new_keep hs6
  have n6:=new_n hs6
  obtain ⟨b6,hbn6⟩:∃ b,Heap.n H5 = b:=⟨_,rfl⟩
  rw [hbn6] at hg6 n6 ⊢
  have hg56:=(k6.2 b4 (by omega)).trans hg5
  have k06:=(k03.trans k5).trans k6
  have hp6:=hp.keep k06
  have he6:OwnE H6 ev E H1.n:=OwnS.keep he3 (k5.trans k6)
  repeat' first | refine CO.cons rfl ?_ | refine ⟨_,ld98 hg56,?_⟩ | fail
  refine (minutes_spec (by omega) he6.row.cells.1 hp6.cells.1).mono ?_
  rintro r H7 ⟨⟨bb,rfl,hbb,hbl,hb0,hb1⟩,k7⟩
  have l7:=k7.1
  have hg7:=(k7.2 b6 (by omega)).trans hg6
  have k07:=k06.trans k7
  have hp7:=hp.keep k07
  have he7:OwnE H7 ev E H1.n:=OwnS.keep he6 k7
  repeat' first | refine CO.nil ?_ | refine CV.block ?_ | fail
  refine CV.rangeFunc callees ?_
  refine fun tm ha=>?_
  generalize hs8:Heap.new H7 _ = H8
  have hg8:=new_get hs8
  have k8:=new_keep hs8
  have n8:=new_n hs8
  obtain ⟨l,hln⟩:∃ l,H7.n = l:=⟨_,rfl⟩
  rw [hln] at hg8 n8 ⊢
  have k08:=k07.trans k8
  have hbb8:=(k8.2 bb (by omega)).trans hbb
  have hbl8:=(k8.2 (bb + 1) (by omega)).trans hbl
  have hg68:=(k8.2 b6 (by omega)).trans hg7
  have he8:OwnE H8 ev E H1.n:=OwnS.keep he7 k8
  have heb:∀ c,blkOf ev = some c->c < b6:=fun c hc=>by have:=(he3.lt hc).2; omega
  have hob:∀ {s:Nat} {e:TypeId} {b:Nat} {v:Value} {rs:List (List Value)} {B':Nat} {X Y:Heap},OwnS e s X v rs B'->KeepX b X Y->blkOf v ≠ some b->OwnS e s Y v rs B':=fun h kk hb=>ownS_keepN h kk hb
  refine (minutes1N_spec (B:=B) (l:=l) (bb:=bb) (last:=m) (k:=k) (ev:=ev) (pv:=pv) (E:=E) (ps:=ps)
    (fun b j Hx=>(l < b∧l < Hx.n)∧Hx.get l = H8.get l∧Hx.get bb = H8.get bb∧Hx.get (bb + 1) = H8.get (bb + 1)∧OwnE Hx ev E H1.n∧RowS 3 Hx pv (ps.map Pol)∧(∃ q,Hx.get b6 = some (.cells [q] 48 1)∧OwnSp Hx q (warmL k E ps j) (l + 1)∧blkOf q ≠ some b)∧Keep H Hx)
    (fun _=>False) (by omega) (by omega) (by omega) hm1 hk hEl hEo ho ⟨hbb8,hbl8⟩ ?_ ?_ ?_ ?_).mono ?_
  · intro b H' kk hb1' hb2'
    exact ⟨⟨by omega,by have:=kk.1; omega⟩,kk.2 l (by omega),kk.2 bb (by omega),kk.2 (bb + 1) (by omega),OwnS.keep he8 kk,(hp.keep k08).keep kk,⟨nilS,(kk.2 b6 (by omega)).trans hg68,OwnS.nil,by simp [blkOf]⟩,k08.trans kk⟩
  · rintro b j X Y ⟨⟨q1,q2⟩,q3,q4,q5,q6,q7,⟨q,q8,q9,q10⟩,q11⟩ hbX kk
    have hY:Keep H Y:=⟨by have:=kk.1; have:=q11.1; omega,fun c hc=>(kk.2 c (by have:=q11.1; omega) (by omega)).trans (q11.2 c hc)⟩
    exact ⟨⟨q1,by have:=kk.1; omega⟩,(kk.2 l q2 (by omega)).trans q3,(kk.2 bb (by omega) (by omega)).trans q4,(kk.2 (bb + 1) (by omega) (by omega)).trans q5,hob q6 kk (fun h=>by have:=heb _ h; omega),hp.keep hY,⟨q,(kk.2 b6 (by omega) (by omega)).trans q8,hob q9 kk q10,q10⟩,hY⟩
  · rintro b j X ⟨_,_,q4,q5,q6,q7,_,_⟩
    exact ⟨q4.trans hbb8,q5.trans hbl8,q6.row,q7⟩
  · rintro b j X hj ⟨⟨q1,q2⟩,q3,q4,q5,q6,q7,⟨q,q8,q9,q10⟩,q11⟩ lx lb hBx
    refine RoundB.enter callees false (q3.trans hg8) ha rfl hBx (by omega) ?_
    repeat' first | refine CO.cons rfl ?_ | refine CV.region callees ?_ | refine ⟨_,_,al87,?_⟩ | fail
    generalize hsA:Heap.new X _ = XA
    have hgA:=new_get hsA
    have kA:=new_keep hsA
    have nA:=new_n hsA
    obtain ⟨bA,hbA⟩:∃ b,Heap.n X = b:=⟨_,rfl⟩
    rw [hbA] at hgA nA ⊢
    repeat' first | fail
    refine ⟨_,_,st87 hgA,by omega,?_⟩
    generalize hsC:Heap.set XA bA _ = XC'
    have hgC:XC'.get bA = some (.cells (Hl (warmM k E ps j)) 104 1):=set_get hsC
    have nC:=set_n hsC
    have oC:=set_old hsC
    have kC:Keep X XC':=keep_put kA (by omega) oC nC
    repeat' first | refine CO.nil ?_ | fail
    refine ⟨_,_,_,_,_,((kC.2 l (by omega)).trans q3).trans hg8,?_⟩
    generalize hsD:XC'.set l _ = XD
    have hgD:=set_get hsD
    have nD:=set_n hsD
    have oD:=set_old hsD
    have hD6:=(oD b6 (by omega)).trans ((kC.2 b6 (by omega)).trans q8)
    have hDA:=(oD bA (by omega)).trans hgC
    have kD:KeepX l X XD:=⟨by omega,fun c hc hcl=>(oD c hcl).trans (kC.2 c hc)⟩
    have hql:blkOf q ≠ some l:=fun h=>by have:=(q9.lt h).1; omega
    have hqD:OwnSp XD q (warmL k E ps j) (l + 1):=hob q9 kD hql
    repeat' first | refine CV.block ?_ | fail
    refine CV.wideR callees (by decide +kernel) [(0,[]),(1,[]),(2,[0]),(3,[0]),(4,[]),(5,[])] (by kernel_rfl) ?_
    repeat' first | refine CR.cons ?_ | refine ⟨_,cell_load ag35 hD6 rfl,?_⟩ | refine ⟨_,ld87 hDA,?_⟩ | fail
    refine (span_spec (by omega)).mono ?_
    rintro r XE ⟨rfl,kE⟩
    have lE:=kE.1
    have hE6:=(kE.2 b6 (by omega)).trans hD6
    have hqE:OwnSp XE q (warmL k E ps j) (l + 1):=OwnS.keep hqD kE
    have hE6n:(XE.new (.cells (Hl (warmM k E ps j)) 27 2)).get b6 = some (.cells [q] 48 1):=by rw [(Keep.new XE _).2 b6 (by omega)]; exact hE6
    repeat' first | refine CR.cons ?_ | refine ⟨_,cell_load ag35 hE6 rfl,?_⟩ | refine ⟨(rfl:_ = q),?_⟩ | refine ⟨hqE.same,?_⟩ | refine ⟨_,_,sp_one,?_⟩ | fail
    refine sp_push hqE (by omega) (by omega) (by rw [warmL_len]; omega) ?_
    intro q' XF hqF kF fF
    have lF:=kF.le
    have hqb:∀ c,c<=l->blkOf q ≠ some c:=fun c hc h=>by have:=(hqE.lt h).1; omega
    have hF6:=(kF.get b6 (by omega) (hqb b6 (by omega))).trans hE6
    repeat' first | refine CR.cons ?_ | fail
    refine ⟨_,_,var_store sz35 hF6 hqF.oneC,by omega,?_⟩
    generalize hsG:Heap.set XF b6 _ = XG
    have hgG:=set_get hsG
    have nG:=set_n hsG
    have oG:=set_old hsG
    have lG:XG.get l = XD.get l:=(oG l (by omega)).trans ((kF.get l (by omega) (hqb l (Nat.le_refl _))).trans (kE.2 l (by omega)))
    repeat' first | refine CR.nil ?_ | fail
    have hold:∀ c,c < X.n->c ≠ b6->c ≠ l->blkOf q ≠ some c->XG.get c = X.get c:=fun c h1 h2 h3 h4=>(oG c h2).trans ((kF.get c (by omega) h4).trans ((kE.2 c (by omega)).trans (kD.2 c h1 h3)))
    refine ⟨_,_,_,_,_,_,_,lG.trans hgD,rfl,⟨.inl ⟨rfl,⟨q1,by show l < XG.n; omega⟩,by rw [Heap.get_set_eq]; exact hg8.symm,?_,?_,?_,?_,⟨q',?_,?_,?_⟩,?_⟩,?_,by show bA<=XG.n; omega⟩⟩
    · rw [Heap.get_set_ne _ _ (by omega),hold bb (by omega) (by omega) (by omega) (hqb bb (by omega))]; exact q4
    · rw [Heap.get_set_ne _ _ (by omega),hold (bb + 1) (by omega) (by omega) (by omega) (hqb _ (by omega))]; exact q5
    · exact ownS_keepF q6 (by show X.n<=XG.n; omega) (fun c hc=>by have:=heb c hc; rw [Heap.get_set_ne _ _ (by omega),hold c (by omega) (by omega) (by omega) (hqb c (by omega))])
    · exact hp.keep ⟨by show H.n<=XG.n; omega,fun c hc=>by rw [Heap.get_set_ne _ _ (by omega),hold c (by omega) (by omega) (by omega) (hqb c (by omega))]; exact q11.2 c hc⟩
    · rw [Heap.get_set_ne _ _ (by omega)]; exact hgG
    · rw [warmL_succ]
      exact ownS_keepF hqF (by show XF.n<=XG.n; omega) (fun c hc=>by have:=fF c hc; rw [Heap.get_set_ne _ _ (by omega),oG c (by omega)])
    · intro h; have:=fF _ h; omega
    · exact ⟨by show H.n<=XG.n; omega,fun c hc=>by rw [Heap.get_set_ne _ _ (by omega),hold c (by omega) (by omega) (by omega) (hqb c (by omega))]; exact q11.2 c hc⟩
    · rw [Heap.get_set_ne _ _ (by omega)]; exact hold b lb (by omega) (by omega) q10
  rintro _ HZ (⟨b,⟨q1,q2⟩,q3,q4,q5,q6,q7,⟨q,q8,q9,q10⟩,q11⟩ | hf')
  · refine ⟨_,_,_,_,_,_,_,q3.trans hg8,rfl,rfl,?_⟩
    generalize hsZ:HZ.set l _ = HY
    have nZ:=set_n hsZ
    have oZ:=set_old hsZ
    have hZ6:=(oZ b6 (by omega)).trans q8
    have kZ:KeepX l HZ HY:=⟨by omega,fun c hc hcl=>oZ c hcl⟩
    have hqZ:OwnSp HY q (warmL k E ps (m + 1)) (l + 1):=hob q9 kZ (fun h=>by have:=(q9.lt h).1; omega)
    repeat' first | refine CO.cons rfl ?_ | refine CO.nil ?_ | refine CV.seq ?_ | refine CV.region callees ?_ | refine CV.ret ?_ | refine ⟨_,cell_load ag35 hZ6 rfl,?_⟩ | fail
    exact ⟨by simp only [List.all_cons,List.all_nil,hqZ.notTuple]; rfl,⟨q,rfl,hqZ.low (by omega)⟩,⟨by have:=q11.1; omega,fun c hc=>(oZ c (by omega)).trans (q11.2 c hc)⟩⟩
  · exact hf'.elim
end Go.Proofs.Ytglkphjjinmgmaa
