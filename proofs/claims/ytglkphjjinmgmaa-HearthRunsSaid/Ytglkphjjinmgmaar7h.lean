/- HearthRuns. -/
import Derived.Test.Ytglkphjjinmgmaar6h
import Derived.Test.Ytglkphjjinmgmaaqbh
set_option linter.unusedVariables false
set_option linter.unusedSimpArgs false
namespace Go.Proofs.Ytglkphjjinmgmaa
open Go.AI
set_option maxHeartbeats 64000000 in
set_option maxRecDepth 100000 in
theorem runsLaw_spec {cv0 tv0 pv0 v:Value} {H:Heap} {cs0:List Co} {ts0:List (Int × Int)} {ps0:List Po} {ke:Ke} {mi:Int} {nums:List Int} (hc:RowS 7 H cv0 (cs0.map Col)) (ht:RowS 2 H tv0 (ts0.map Hl)) (hp:RowS 3 H pv0 (ps0.map Pol)) (hv:Ints H v nums) (hx:nums.length<=9223372036854775807) :
    CallB Try.prog H.n 4 [Kev ke,Fv cv0 tv0,pv0,VJ mi,v] H (fun r _=>r = .bool true):=by
  have hn:H.n<=H.n:=Nat.le_refl _
  refine CV.enter callees false rfl Try.func4 rfl (by kernel_rfl) (Nat.le_of_ble_eq_true rfl) hn ?_
  repeat' first | refine CO.cons rfl ?_ | refine CV.seq ?_ | refine CV.region callees ?_ | fail
  refine ⟨(by simp only [notTuple]),?_⟩
  rw [boxKe]
  generalize hs1:Heap.new H _ = H1
  have hg1:=new_get hs1
  have k1:=new_keep hs1
  have n1:=new_n hs1
  obtain ⟨b1,hbn1⟩:∃ b,Heap.n H = b:=⟨_,rfl⟩
  rw [hbn1] at hg1 n1 ⊢
  repeat' first | refine CO.cons rfl ?_ | fail
  refine ⟨(by simp only [notTuple]),?_⟩
  rw [allocFv hc.cells.1 ht.cells.1]
  generalize hs0:Heap.new H1 _ = H0
  have hg0:=new_get hs0
  have k0:=new_keep hs0
  have n0:=new_n hs0
  obtain ⟨b0,hbn0⟩:∃ b,Heap.n H1 = b:=⟨_,rfl⟩
  rw [hbn0] at hg0 n0 ⊢
  have k02:=k1.trans k0
  have l02:=k02.1
  have hf2:=hg0
  have hk2:=(k0.2 b1 (by omega)).trans hg1
  repeat' first | refine CO.cons rfl ?_ | refine CO.nil ?_ | refine CV.seq ?_ | refine CV.region callees ?_ | refine ⟨_,ld28 hf2,?_⟩ | fail
  refine (much_spec (by omega) (hc.keep k02) (ht.keep k02) (hp.keep k02)).mono ?_
  rintro r H3 ⟨rfl | ⟨rfl,hcn,htn,hpn⟩,k3⟩
  · have l3:=k3.1
    repeat' first | refine CO.cons rfl ?_ | refine CO.nil ?_ | refine CV.seq ?_ | refine CV.region callees ?_ | refine CV.cond ?_ | fail
    refine (awake_spec (by omega)).mono ?_
    rintro r I5 ⟨rfl,j5⟩
    repeat' first | refine CO.cons rfl ?_ | refine CO.nil ?_ | refine CV.ret ?_ | fail
    exact ⟨rfl,rfl⟩
  have l3:=k3.1
  have k03:=k02.trans k3
  have hv3:Ints H3 v nums:=Row.keep hv k03
  repeat' first | refine CO.cons rfl ?_ | refine CO.nil ?_ | refine CV.seq ?_ | refine CV.region callees ?_ | refine CV.cond ?_ | refine CV.skip ?_ | fail
  refine (boxOf_spec (by omega) hv3 hx).mono ?_
  rintro r H4 ⟨⟨b,rfl,hb,hbox⟩,k4⟩
  have l4:=k4.1
  have hbn:=hbox.1
  have k04:=k03.trans k4
  repeat' first | refine CO.cons rfl ?_ | refine CO.nil ?_ | refine CV.seq ?_ | refine CV.region callees ?_ | fail
  refine (fireOf_spec (by omega) (by omega) hbox (by omega) (by omega)).mono ?_
  rintro r H5 ⟨⟨cv,tv,cs,ts,rfl,hc5,ht5,hf,hcn10,hcs⟩,hb5,x5⟩
  have l5:=x5.1
  have hbn5:=hb5.1
  repeat' first | refine CO.cons rfl ?_ | fail
  refine (kettleOf_spec (by omega) (by omega) hb5).mono ?_
  rintro r H6 ⟨⟨k,rfl,hk,hwa⟩,hb6,x6⟩
  have l6:=x6.1
  have hc6:OwnC H6 cv cs _:=OwnS.boxed hc5 x6 hb5
  have ht6:OwnT H6 tv ts _:=OwnS.boxed ht5 x6 hb5
  have hfvs:=fvS_same hc6 ht6
  have htm:=hf.m
  repeat' first | refine CO.cons rfl ?_ | refine ⟨_,_,al28,?_⟩ | fail
  generalize hsa:Heap.new H6 _ = Ha
  have hga:=new_get hsa
  have ka:=new_keep hsa
  have na:=new_n hsa
  obtain ⟨ba,hbna⟩:∃ b,Heap.n H6 = b:=⟨_,rfl⟩
  rw [hbna] at hga na ⊢
  repeat' first | refine CO.cons rfl ?_ | refine ⟨_,_,al51,?_⟩ | fail
  generalize hsd:Heap.new Ha _ = Hd
  have hgd:=new_get hsd
  have kd:=new_keep hsd
  have nd:=new_n hsd
  obtain ⟨bd,hbnd⟩:∃ b,Heap.n Ha = b:=⟨_,rfl⟩
  rw [hbnd] at hgd nd ⊢
  have hga0:=(kd.2 ba (by omega)).trans hga
  repeat' first | fail
  refine ⟨_,_,st28 hc6.oneC ht6.oneC hga0,by omega,?_⟩
  generalize hse:Heap.set Hd ba _ = He
  have hge:He.get ba = some (.cells (Fl cv tv) 25 1):=set_get hse
  have ne:=set_n hse
  have oe:=set_old hse
  have hgd1:=(oe bd (by omega)).trans hgd
  repeat' first | refine CO.cons rfl ?_ | fail
  refine ⟨_,_,st51 hgd1,by omega,?_⟩
  generalize hsA:Heap.set He bd _ = HA
  have hgA:HA.get bd = some (.cells (Kel k) 29 1):=set_get hsA
  have nA:=set_n hsA
  have oA:=set_old hsA
  have hfA:=(oA ba (by omega)).trans hge
  have hkA:=hgA
  have k6A:Keep H6 HA:=keep_put (keep_put (ka.trans kd) (by omega) oe ne) (by omega) oA nA
  have lA:=k6A.1
  have hbA:=hb6.keep k6A
  have hbAn:=hbA.1
  have x4A:KeepX b H4 HA:=(x5.trans x6).trans (k6A.butX b)
  have rb:∀ {s:Nat} {w:Value} {rs:List (List Value)},RowS s H4 w rs->RowS s HA w rs:=fun h=>by obtain ⟨_,w,hw⟩:=hbox; exact h.keepX x4A hw
  have hcA:=(OwnS.keep hc6 k6A).row
  have htA:=(OwnS.keep ht6 k6A).row
  have hc0A:=rb (hc.keep k04)
  have ht0A:=rb (ht.keep k04)
  have hp0A:=rb (hp.keep k04)
  have k34:Keep H0 H4:=k3.trans k4
  have hf0A:=(x4A.2 b0 (by omega) (by omega)).trans ((k34.2 b0 (by omega)).trans hf2)
  have hk0A:=(x4A.2 b1 (by omega) (by omega)).trans ((k34.2 b1 (by omega)).trans hk2)
  clear hc5 ht5 hc6 ht6 hb5 hb6 rb x4A hga0 hgd1 hge hgd hga hgA
  repeat' first | refine CO.nil ?_ | refine CV.seq ?_ | refine CR.cons (es:=[]) ?_ | refine CV.mX callees (by decide +kernel) [(0,[]),(1,[]),(2,[]),(4,[]),(5,[]),(6,[]),(8,[]),(9,[]),(10,[]),(12,[]),(14,[]),(15,[]),(17,[]),(11,[6,5,4,2,1,0]),(16,[6,5,4,2,1,0]),(3,[6,5,4]),(19,[6,5,4]),(7,[]),(20,[]),(13,[]),(21,[]),(18,[]),(22,[])] (by kernel_rfl) ?_ | refine ⟨_,ld28 hf0A,?_⟩ | refine ⟨_,ld28 hfA,?_⟩ | refine ⟨_,ld51 hk0A,?_⟩ | refine ⟨_,ld51 hkA,?_⟩ | fail
  refine CR.callL b (by omega) ?_
  refine (poursOf_spec (by omega) (by omega) hbA hk (by omega) (by omega) (by omega) (by omega)).mono ?_
  rintro pv HB ⟨⟨ps,hpB,hpo,hpn6⟩,hbB,xB⟩
  have lB:=xB.1
  have hbBn:=hbB.1
  have hfB:=(xB.2 ba (by omega) (by omega)).trans hfA
  have hkB:=(xB.2 bd (by omega) (by omega)).trans hkA
  have hf0B:=(xB.2 b0 (by omega) (by omega)).trans hf0A
  have hk0B:=(xB.2 b1 (by omega) (by omega)).trans hk0A
  refine .inr ⟨by omega,_,ld28 hf0A,?_⟩
  refine .inl ⟨_,ld28 hfB,rfl,hfvs,?_⟩
  refine .inr ⟨by omega,_,ld28 hf0A,?_⟩
  refine .inl ⟨_,ld51 hkB,rfl,same_ke,?_⟩
  refine .inl ⟨_,ld51 hkB,rfl,same_ke,?_⟩
  refine .inr ⟨by omega,_,ld51 hk0A,?_⟩
  repeat' first | fail
  refine CR.callL b (by omega) ?_
  refine (up_spec (by omega) (by omega) hbB (by omega)).mono ?_
  rintro r HC ⟨⟨mx,rfl,mx0,mx1⟩,hbC,xC⟩
  have lC:=xC.1
  have hfC:=(xC.2 ba (by omega) (by omega)).trans hfB
  have hkC:=(xC.2 bd (by omega) (by omega)).trans hkB
  have hf0C:=(xC.2 b0 (by omega) (by omega)).trans hf0B
  have hk0C:=(xC.2 b1 (by omega) (by omega)).trans hk0B
  refine .inr ⟨by omega,_,ld28 hf0B,?_⟩
  refine .inl ⟨_,ld28 hfC,rfl,hfvs,?_⟩
  refine .inr ⟨by omega,_,ld28 hf0B,?_⟩
  refine .inl ⟨_,ld51 hkC,rfl,same_ke,?_⟩
  refine .inl ⟨_,ld51 hkC,rfl,same_ke,?_⟩
  refine .inr ⟨by omega,_,ld51 hk0B,?_⟩
  have xAC:KeepX b HA HC:=xB.trans xC
  have rbC:∀ {s:Nat} {w:Value} {rs:List (List Value)},RowS s HA w rs->RowS s HC w rs:=fun h=>by obtain ⟨_,w,hw⟩:=hbA; exact h.keepX xAC hw
  have hpC:OwnO HC pv ps HA.n:=OwnS.boxed hpB xC hbB
  have hc1C:=rbC hcA
  have ht1C:=rbC htA
  have hc0C:=rbC hc0A
  have ht0C:=rbC ht0A
  have hp0C:=rbC hp0A
  repeat' first | fail
  refine CR.opL HC.n (by omega) (Nat.le_refl _) ?_
  refine ⟨_,_,bu3K,?_⟩
  refine .inr ⟨by omega,_,ld28 hf0C,?_⟩
  refine .inr ⟨by omega,_,ld28 hfC,?_⟩
  refine .inr ⟨by omega,_,ld28 hf0C,?_⟩
  generalize hsD:Heap.new HC _ = HD
  have kD:=new_keep hsD
  have nD:=new_n hsD
  have hKD:RowS 8 HD (.slice (some ⟨HC.n,0,none⟩) 3 0) [Kel ke,Kel k,Kel k]:=rows3 hsD rfl rfl rfl
  have hfD:=(kD.2 ba (by omega)).trans hfC
  have hf0D:=(kD.2 b0 (by omega)).trans hf0C
  generalize Value.slice (some ⟨HC.n,0,none⟩) 3 0 = KS at hKD ⊢
  refine CR.opL HC.n (by omega) (by omega) ?_
  first | refine ⟨rfl,?_⟩ | refine ⟨(rfl:plain _ = true),?_⟩ | skip
  refine .inr ⟨by omega,_,ld28 hf0D,?_⟩
  refine .inr ⟨by omega,_,ld28 hfD,?_⟩
  refine .inr ⟨by omega,_,ld28 hf0D,?_⟩
  have hbF:∀ X:Heap,abuildSlice Try.prog X 42 3 [(0,Fv cv0 tv0),(1,Fv cv tv),(2,Fv cv0 tv0)] = some (.slice (some ⟨X.n,0,none⟩) 3 0,X.new (.cells ([cv0,tv0] ++ [cv,tv] ++ [cv0,tv0]) 25 2),X.n):=fun X=>buFires hc0C ht0C hc1C ht1C hc0C ht0C
  repeat' first | refine CR.cons (es:=[]) ?_ | refine ⟨_,_,hbF _,?_⟩ | fail
  generalize hsE:Heap.new HD _ = HE
  have kE:=new_keep hsE
  have nE:=new_n hsE
  have hFE:RowS 2 HE (.slice (some ⟨HD.n,0,none⟩) 3 0) [[cv0,tv0],[cv,tv],[cv0,tv0]]:=rows3 hsE rfl rfl rfl
  generalize Value.slice (some ⟨HD.n,0,none⟩) 3 0 = FS at hFE ⊢
  have op0:=hp0C.cells.2.1
  have op1:=OwnS.oneC hpC
  repeat' first | refine CR.cons (es:=[]) ?_ | refine ⟨_,_,bu3P op0 op1 op0,?_⟩ | fail
  generalize hsG:Heap.new HE _ = HG
  have kG:=new_keep hsG
  have nG:=new_n hsG
  have hPG:Row HG (.slice (some ⟨HE.n,0,none⟩) 3 0) [pv0,pv,pv0]:=by rw [<- hsG]; exact new_row rfl
  generalize Value.slice (some ⟨HE.n,0,none⟩) 3 0 = PS at hPG ⊢
  repeat' first | refine CO.cons rfl ?_ | refine CO.nil ?_ | refine CV.seq ?_ | refine CV.region callees ?_ | refine CV.block ?_ | refine CR.cons (es:=[]) ?_ | refine CR.nil ?_ | refine ⟨_,_,build_3,?_⟩ | fail
  generalize hsI:Heap.new HG _ = HI
  have kI:=new_keep hsI
  have nI:=new_n hsI
  have hMI:Ints HI (.slice (some ⟨HG.n,0,none⟩) 3 0) [mi,mx,mi]:=by rw [<- hsI]; exact new_row rfl
  generalize Value.slice (some ⟨HG.n,0,none⟩) 3 0 = MS at hMI ⊢
  have kCI:=((kD.trans kE).trans kG).trans kI
  have hKI:=((hKD.keep kE).keep kG).keep kI
  have hFI:=(hFE.keep kG).keep kI
  have hPI:=Row.keep hPG kI
  have hall:∀ i:Nat,i < 3->∃ (cv' tv':Value) (cs':List Co) (ts':List (Int × Int)) (k':Ke) (pv':Value) (ps':List Po) (m':Int),
      ([[cv0,tv0],[cv,tv],[cv0,tv0]]:List (List Value))[i]? = some [cv',tv']∧([Kel ke,Kel k,Kel k]:List (List Value))[i]? = some (Kel k')∧([pv0,pv,pv0]:List Value)[i]? = some pv'∧([mi,mx,mi]:List Int)[i]! = m'∧RowS 7 HI cv' (cs'.map Col)∧RowS 2 HI tv' (ts'.map Hl)∧RowS 3 HI pv' (ps'.map Pol)∧cs'.length<=100∧ts'.length<=100∧ps'.length<=100:=fun i hi=>by
    rcases (by omega:i = 0 ∨ i = 1 ∨ i = 2) with rfl | rfl | rfl
    · exact ⟨cv0,tv0,cs0,ts0,ke,pv0,ps0,mi,rfl,rfl,rfl,rfl,hc0C.keep kCI,ht0C.keep kCI,hp0C.keep kCI,by omega,by omega,by omega⟩
    · exact ⟨cv,tv,cs,ts,k,pv,ps,mx,rfl,rfl,rfl,rfl,hc1C.keep kCI,ht1C.keep kCI,(OwnS.row hpC).keep kCI,by omega,by omega,by omega⟩
    · exact ⟨cv0,tv0,cs0,ts0,k,pv0,ps0,mi,rfl,rfl,rfl,rfl,hc0C.keep kCI,ht0C.keep kCI,hp0C.keep kCI,by omega,by omega,by omega⟩
  have lI:=kCI.1
  clear hfB hkB hf0B hk0B hfC hkC hf0C hk0C hcA htA hc0A ht0A hp0A hf0A hk0A hfA hkA hbA hbB hbC xB xC xAC rbC hpB hpC hc1C ht1C hc0C ht0C hp0C hbF hKD hFE hPG hfD hf0D
  repeat' first | fail
  refine CV.loopc ?_
  refine WCv.rounds callees false (α:=Nat) (fun i=>[(14,KS),(15,FS),(16,PS),(17,MS),(18,VJ i)]) (fun i Hz=>i<=3∧Keep HI Hz) (fun i=>3 - i) (0) (by repeat' first | exact trivial | refine ⟨rfl,?_⟩ | refine ⟨slot_int (by (try simp only [Int.toNat_natCast]); omega),?_⟩) ?_ ?_
  · exact ⟨by omega,Keep.refl _⟩
  rintro i Hx ⟨hi,kx⟩ hBx
  have lx:=kx.1
  have hlenS:alen Try.prog Hx 43 KS = some (.int .i64 3):=(hKI.keep kx).alen unKs
  by_cases hi2:i < 3
  · obtain ⟨cv',tv',cs',ts',k',pv',ps',m',e1,e2,e3,e4,f1,f2,f3,f4,f5,f6⟩:=hall i hi2
    have aF:aindexAddr Try.prog 42 FS (VJ i) = some (elemS FS 2 i):=(hFI.keep kx).addr unFs sz28 (by omega) (by show (i:Int) < (3:Nat); omega)
    have aK:aindexAddr Try.prog 43 KS (VJ i) = some (elemS KS 8 i):=(hKI.keep kx).addr unKs sz51h (by omega) (by show (i:Int) < (3:Nat); omega)
    have aP:aindexAddr Try.prog 45 PS (VJ i) = some (elemAt PS i):=(Row.keep hPI kx).addr unPs szPs (by omega) (by show (i:Int) < (3:Nat); omega)
    have aM:aindexAddr Try.prog 33 MS (VJ i) = some (elemAt MS i):=ints_addr (show Ints Hx MS [mi,mx,mi] from Row.keep hMI kx) (by omega) (by show (i:Int) < (3:Nat); omega)
    have lF:∀ X,Keep HI X->aload Try.prog 25 X (elemS FS 2 i) = some (Fv cv' tv'):=fun X k=>(hFI.keep k).load ag28 sz28 e1
    have lK:∀ X,Keep HI X->aload Try.prog 29 X (elemS KS 8 i) = some (Kev k'):=fun X k=>(hKI.keep k).load ag51h sz51h e2
    have lP:∀ X,Keep HI X->aload Try.prog 30 X (elemAt PS i) = some pv':=fun X k=>(Row.keep hPI k).load ag53 e3
    have lM:∀ X,Keep HI X->aload Try.prog 3 X (elemAt MS i) = some (VJ m'):=fun X k=>by
      have h:Ints X MS [mi,mx,mi]:=Row.keep hMI k
      have h2:aload Try.prog 3 X (elemAt MS i) = some (VJ ([mi,mx,mi]:List Int)[i]!):=ints_load h (i:=(i:Int)) (by omega) (by show (i:Int) < (3:Nat); omega)
      rwa [e4] at h2
    obtain ⟨L,V,W,hQ,hLn,hVn⟩:=runQ_ex k' cs' ts' ps' m'
    obtain ⟨E1,hE1⟩:∃ x,ruE k' cs' ts' ps' m' = x:=⟨_,rfl⟩
    repeat' first | refine CO.cons rfl ?_ | refine CO.nil ?_ | refine CV.seq ?_ | refine CV.region callees ?_ | refine CV.cond ?_ | refine CV.block ?_ | refine CV.skip ?_ | refine CV.draw callees (by decide +kernel) ?_ | refine CH.cons rfl ?_ | refine CH.nil ?_ | refine ⟨_,ints_addr (by assumption) (by omega) (by omega),?_⟩ | refine ⟨_,hlenS,?_⟩ | refine ⟨_,aK,?_⟩ | refine ⟨_,aF,?_⟩ | refine ⟨_,aP,?_⟩ | refine ⟨_,lK _ kx,?_⟩ | refine ⟨_,lF _ kx,?_⟩ | refine ⟨_,lP _ kx,?_⟩ | refine ⟨_,lM _ kx,?_⟩ | (refine ⟨fun _=>?_,fun _=>?_⟩<;>try (exfalso; omega)) | fail
    refine (runQ_spec (by omega) (f1.keep kx) (f2.keep kx) (f3.keep kx) f4 f5 f6 hQ).mono ?_
    rw [hE1]
    rintro r J1 ⟨⟨q1,rfl,hq1⟩,j1⟩
    have lj1:=j1.1
    have w1:=kx.trans j1
    repeat' first | refine CO.cons rfl ?_ | refine CO.nil ?_ | refine CV.seq ?_ | refine CV.draw callees (by decide +kernel) ?_ | refine CH.cons rfl ?_ | refine CH.nil ?_ | refine ⟨_,ints_addr (by assumption) (by omega) (by omega),?_⟩ | refine ⟨_,aK,?_⟩ | refine ⟨_,aF,?_⟩ | refine ⟨_,aP,?_⟩ | refine ⟨_,lK _ w1,?_⟩ | refine ⟨_,lF _ w1,?_⟩ | refine ⟨_,lP _ w1,?_⟩ | refine ⟨_,lM _ w1,?_⟩ | fail
    refine (refRun_spec (by omega) (f1.keep w1) (f2.keep w1) (f3.keep w1) f4 f5 f6 hQ).mono ?_
    rw [hE1]
    rintro r J2 ⟨⟨q2,rfl,hq2⟩,j2⟩
    have lj2:=j2.1
    have w2:=w1.trans j2
    repeat' first | refine CO.cons rfl ?_ | refine CO.nil ?_ | refine CV.seq ?_ | refine CV.draw callees (by decide +kernel) ?_ | refine CH.cons rfl ?_ | refine CH.nil ?_ | refine ⟨_,ints_addr (by assumption) (by omega) (by omega),?_⟩ | refine ⟨_,aK,?_⟩ | refine ⟨_,aF,?_⟩ | refine ⟨_,aP,?_⟩ | refine ⟨_,lK _ w2,?_⟩ | refine ⟨_,lF _ w2,?_⟩ | refine ⟨_,lP _ w2,?_⟩ | refine ⟨_,lM _ w2,?_⟩ | fail
    refine (singsQ_spec (by omega) (f1.keep w2) (f2.keep w2) (f3.keep w2) f4 f5 f6 hQ).mono ?_
    rw [hE1]
    rintro r J3 ⟨⟨q3,rfl,hq3⟩,j3⟩
    have lj3:=j3.1
    have w3:=w2.trans j3
    repeat' first | refine CO.cons rfl ?_ | refine CO.nil ?_ | refine CV.seq ?_ | refine CV.draw callees (by decide +kernel) ?_ | refine CH.cons rfl ?_ | refine CH.nil ?_ | refine ⟨_,ints_addr (by assumption) (by omega) (by omega),?_⟩ | refine ⟨_,aK,?_⟩ | refine ⟨_,aF,?_⟩ | refine ⟨_,aP,?_⟩ | refine ⟨_,lK _ w3,?_⟩ | refine ⟨_,lF _ w3,?_⟩ | refine ⟨_,lP _ w3,?_⟩ | refine ⟨_,lM _ w3,?_⟩ | fail
    refine (refSings_spec (by omega) (f1.keep w3) (f2.keep w3) (f3.keep w3) f4 f5 f6 hQ).mono ?_
    rw [hE1]
    rintro r J4 ⟨⟨q4,rfl,hq4⟩,j4⟩
    have lj4:=j4.1
    have w4:=w3.trans j4
    repeat' first | refine CO.cons rfl ?_ | refine CO.nil ?_ | refine CV.seq ?_ | refine CV.draw callees (by decide +kernel) ?_ | refine CH.cons rfl ?_ | refine CH.nil ?_ | refine ⟨_,ints_addr (by assumption) (by omega) (by omega),?_⟩ | refine ⟨_,aK,?_⟩ | refine ⟨_,aF,?_⟩ | refine ⟨_,aP,?_⟩ | refine ⟨_,lK _ w4,?_⟩ | refine ⟨_,lF _ w4,?_⟩ | refine ⟨_,lP _ w4,?_⟩ | refine ⟨_,lM _ w4,?_⟩ | fail
    refine (whenQ_spec (by omega) (f1.keep w4) (f2.keep w4) (f3.keep w4) f4 f5 f6 hQ).mono ?_
    rw [hE1]
    rintro r J5 ⟨rfl,j5⟩
    have lj5:=j5.1
    have w5:=w4.trans j5
    repeat' first | refine CO.cons rfl ?_ | refine CO.nil ?_ | refine CV.seq ?_ | refine CV.draw callees (by decide +kernel) ?_ | refine CH.cons rfl ?_ | refine CH.nil ?_ | refine ⟨_,ints_addr (by assumption) (by omega) (by omega),?_⟩ | refine ⟨_,aK,?_⟩ | refine ⟨_,aF,?_⟩ | refine ⟨_,aP,?_⟩ | refine ⟨_,lK _ w5,?_⟩ | refine ⟨_,lF _ w5,?_⟩ | refine ⟨_,lP _ w5,?_⟩ | refine ⟨_,lM _ w5,?_⟩ | fail
    refine (refWhen_spec (by omega) (f1.keep w5) (f2.keep w5) (f3.keep w5) f4 f5 f6 hQ hVn).mono ?_
    rw [hE1]
    rintro r J6 ⟨rfl,j6⟩
    have lj6:=j6.1
    have w6:=w5.trans j6
    have r1:=hq1.keep ((j2.trans j3).trans ((j4.trans j5).trans j6))
    have r2:=hq2.keep (j3.trans ((j4.trans j5).trans j6))
    have r3:Ints J6 q3 V:=Row.keep hq3 ((j4.trans j5).trans j6)
    have r4:Ints J6 q4 V:=Row.keep hq4 (j5.trans j6)
    clear hq1 hq2 hq3 hq4
    repeat' first | refine CO.cons rfl ?_ | refine CO.nil ?_ | refine CV.seq ?_ | refine CV.region callees ?_ | refine CH.cons rfl ?_ | refine CH.nil ?_ | refine CO.consG rfl ?_ | (refine ⟨fun _=>?_,fun _=>?_⟩<;>try (exfalso; omega)) | fail
    refine (eqSpans_spec (by omega) r1 r2 (by omega)).mono ?_
    rintro r K7 ⟨rfl,rfl⟩
    repeat' first | refine CO.cons rfl ?_ | refine CO.consG rfl ?_ | fail
    refine (eqInts_spec (by omega) r3 r4 (by omega)).mono ?_
    rw [decide_eq_true rfl]
    rintro r K8 ⟨rfl,m8⟩
    repeat' first | refine CO.cons rfl ?_ | refine CO.nil ?_ | refine CV.region callees ?_ | refine CV.cond ?_ | refine CV.skip ?_ | refine CO.consG rfl ?_ | refine ⟨(⟨by omega,by omega⟩:inI64 _),?_⟩ | fail
    refine ⟨(i + 1),(by repeat' first | exact trivial | refine ⟨rfl,?_⟩ | refine ⟨slot_int (by (try simp only [Int.toNat_natCast]); omega),?_⟩),(by (try dsimp only); omega),?_⟩
    exact ⟨by omega,w6.trans m8⟩
  obtain rfl:i = 3:=by omega
  repeat' first | refine CO.cons rfl ?_ | refine CO.nil ?_ | refine CV.seq ?_ | refine CV.region callees ?_ | refine CV.cond ?_ | refine CV.exit ?_ | refine ⟨_,hlenS,?_⟩ | (refine ⟨fun _=>?_,fun _=>?_⟩<;>try (exfalso; omega)) | fail
  refine (awake_spec (by omega)).mono ?_
  rintro r I5 ⟨rfl,j5⟩
  repeat' first | refine CO.cons rfl ?_ | refine CO.nil ?_ | refine CV.ret ?_ | fail
  exact ⟨rfl,rfl⟩
end Go.Proofs.Ytglkphjjinmgmaa
