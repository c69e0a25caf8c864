/- HearthLays. -/
import Derived.Test.Ytglkphjjinmgmaat5h
import Derived.Test.Ytglkphjjinmgmaaqbh
set_option linter.unusedVariables false
set_option linter.unusedSimpArgs false
namespace Go.Proofs.Ytglkphjjinmgmaa
open Go.AI
set_option maxHeartbeats 64000000 in
set_option maxRecDepth 100000 in
theorem laysLaw_spec {cv0 tv0 pv0 v:Value} {H:Heap} {cs0:List Co} {ts0:List (Int × Int)} {ps0:List Po} {ke:Ke} {fr to:Int} {nums:List Int} (hc:RowS 7 H cv0 (cs0.map Col)) (ht:RowS 2 H tv0 (ts0.map Hl)) (hp:RowS 3 H pv0 (ps0.map Pol)) (hv:Ints H v nums) (hx:nums.length<=9223372036854775807) :
    CallB Try.prog H.n 5 [Kev ke,Fv cv0 tv0,pv0,VJ fr,VJ to,v] H (fun r _=>r = .bool true):=by
  have hn:H.n<=H.n:=Nat.le_refl _
  refine CV.enter callees false rfl Try.func5 rfl (by kernel_rfl) (Nat.le_of_ble_eq_true rfl) hn ?_
  repeat' first | refine CO.cons rfl ?_ | refine CV.seq ?_ | refine CV.region callees ?_ | fail
  refine ⟨(by simp only [notTuple]),?_⟩
  rw [boxKe]
  generalize hs1:Heap.new H _ = H1
  have hg1:=new_get hs1
  have k1:=new_keep hs1
  have n1:=new_n hs1
  obtain ⟨b1,hbn1⟩:∃ b,Heap.n H = b:=⟨_,rfl⟩
  rw [hbn1] at hg1 n1 ⊢
  repeat' first | refine CO.cons rfl ?_ | fail
  refine ⟨(by simp only [notTuple]),?_⟩
  rw [allocFv hc.cells.1 ht.cells.1]
  generalize hs0:Heap.new H1 _ = H0
  have hg0:=new_get hs0
  have k0:=new_keep hs0
  have n0:=new_n hs0
  obtain ⟨b0,hbn0⟩:∃ b,Heap.n H1 = b:=⟨_,rfl⟩
  rw [hbn0] at hg0 n0 ⊢
  have k02:=k1.trans k0
  have l02:=k02.1
  have hf2:=hg0
  have hk2:=(k0.2 b1 (by omega)).trans hg1
  have hc2:=hc.keep k02
  repeat' first | refine CO.cons rfl ?_ | refine CO.nil ?_ | fail
  refine CV.seq ?_
  repeat' first | refine CV.region callees ?_ | refine CO.cons rfl ?_ | refine CO.nil ?_ | refine ⟨_,fS foF0 (by decide),?_⟩ | refine ⟨_,cell_load ag25 hf2 rfl,?_⟩ | refine ⟨_,cs_len hc2,?_⟩ | fail
  refine CV.seq ?_
  refine CV.midK (α:=Unit) (fun _u=>[(2,pv0),(3,VJ fr),(4,VJ to),(5,v),(6,.pointer (some ⟨b1,0,none⟩)),(7,.pointer (some ⟨b0,0,none⟩))]) (fun _u Hz=>(cs0.length<=30∧ts0.length<=60∧ps0.length<=40)∧Keep H0 Hz) ?_ ?_
  · repeat' first | refine CO.cons rfl ?_ | refine CV.seq ?_ | refine CV.region callees ?_ | refine ⟨_,ld28 hf2,?_⟩ | fail
    refine (much_spec (by omega) (hc.keep k02) (ht.keep k02) (hp.keep k02)).mono ?_
    rintro r H3 ⟨rfl | ⟨rfl,hcn,htn,hpn⟩,k3⟩
    · have l3:=k3.1
      repeat' first | refine CO.cons rfl ?_ | refine CO.nil ?_ | refine CV.seq ?_ | refine CV.region callees ?_ | refine CV.cond ?_ | refine CO.consG rfl ?_ | fail
      refine (awake_spec (by omega)).mono ?_
      rintro r I5 ⟨rfl,j5⟩
      repeat' first | refine CO.cons rfl ?_ | refine CO.nil ?_ | refine CV.ret ?_ | fail
      exact ⟨rfl,rfl⟩
    have l3:=k3.1
    repeat' first | refine CO.cons rfl ?_ | refine CO.nil ?_ | refine CV.seq ?_ | refine CV.region callees ?_ | refine CV.cond ?_ | refine CV.skip ?_ | refine CO.consG rfl ?_ | (refine ⟨fun _=>?_,fun _=>?_⟩<;>try (exfalso; omega)) | fail
    all_goals first
      | (refine (awake_spec (by omega)).mono ?_
         rintro r I5 ⟨rfl,j5⟩
         repeat' first | refine CO.cons rfl ?_ | refine CO.nil ?_ | refine CV.ret ?_ | fail
         exact ⟨rfl,rfl⟩)
      | (refine ⟨(()), (by repeat' first | exact trivial | refine ⟨rfl, ?_⟩), ?_⟩
         exact ⟨⟨hcn,htn,hpn⟩,k3⟩)
  rintro _ H3 ⟨⟨hcn,htn,hpn⟩,k3⟩ hB3
  have l3:=k3.1
  have k03:=k02.trans k3
  have hv3:Ints H3 v nums:=Row.keep hv k03
  repeat' first | refine CO.cons rfl ?_ | refine CV.seq ?_ | refine CV.region callees ?_ | fail
  refine (boxOf_spec (by omega) hv3 hx).mono ?_
  rintro r H4 ⟨⟨b,rfl,hb,hbox⟩,k4⟩
  have l4:=k4.1
  have hbn:=hbox.1
  have k04:=k03.trans k4
  repeat' first | refine CO.cons rfl ?_ | refine CO.nil ?_ | refine CV.seq ?_ | refine CV.region callees ?_ | fail
  refine (fireOf_spec (by omega) (by omega) hbox (by omega) (by omega)).mono ?_
  rintro r H5 ⟨⟨cv,tv,cs,ts,rfl,hc5,ht5,hf,hcn10,hcs⟩,hb5,x5⟩
  have l5:=x5.1
  have hbn5:=hb5.1
  repeat' first | refine CO.cons rfl ?_ | fail
  refine (kettleOf_spec (by omega) (by omega) hb5).mono ?_
  rintro r H6 ⟨⟨k,rfl,hk,hwa⟩,hb6,x6⟩
  have l6:=x6.1
  have hc6:OwnC H6 cv cs _:=OwnS.boxed hc5 x6 hb5
  have ht6:OwnT H6 tv ts _:=OwnS.boxed ht5 x6 hb5
  have hfvs:=fvS_same hc6 ht6
  have htm:=hf.m
  repeat' first | refine CO.cons rfl ?_ | refine ⟨_,_,al28,?_⟩ | fail
  generalize hsa:Heap.new H6 _ = Ha
  have hga:=new_get hsa
  have ka:=new_keep hsa
  have na:=new_n hsa
  obtain ⟨ba,hbna⟩:∃ b,Heap.n H6 = b:=⟨_,rfl⟩
  rw [hbna] at hga na ⊢
  repeat' first | refine CO.cons rfl ?_ | refine ⟨_,_,al51,?_⟩ | fail
  generalize hsd:Heap.new Ha _ = Hd
  have hgd:=new_get hsd
  have kd:=new_keep hsd
  have nd:=new_n hsd
  obtain ⟨bd,hbnd⟩:∃ b,Heap.n Ha = b:=⟨_,rfl⟩
  rw [hbnd] at hgd nd ⊢
  have hga0:=(kd.2 ba (by omega)).trans hga
  repeat' first | fail
  refine ⟨_,_,st28 hc6.oneC ht6.oneC hga0,by omega,?_⟩
  generalize hse:Heap.set Hd ba _ = He
  have hge:He.get ba = some (.cells (Fl cv tv) 25 1):=set_get hse
  have ne:=set_n hse
  have oe:=set_old hse
  have hgd1:=(oe bd (by omega)).trans hgd
  repeat' first | refine CO.cons rfl ?_ | fail
  refine ⟨_,_,st51 hgd1,by omega,?_⟩
  generalize hsA:Heap.set He bd _ = HA
  have hgA:HA.get bd = some (.cells (Kel k) 29 1):=set_get hsA
  have nA:=set_n hsA
  have oA:=set_old hsA
  have hfA:=(oA ba (by omega)).trans hge
  have hkA:=hgA
  have k6A:Keep H6 HA:=keep_put (keep_put (ka.trans kd) (by omega) oe ne) (by omega) oA nA
  have lA:=k6A.1
  have hbA:=hb6.keep k6A
  have hbAn:=hbA.1
  have x4A:KeepX b H4 HA:=(x5.trans x6).trans (k6A.butX b)
  have rb:∀ {s:Nat} {w:Value} {rs:List (List Value)},RowS s H4 w rs->RowS s HA w rs:=fun h=>by obtain ⟨_,w,hw⟩:=hbox; exact h.keepX x4A hw
  have hcA:=(OwnS.keep hc6 k6A).row
  have htA:=(OwnS.keep ht6 k6A).row
  have hc0A:=rb (hc.keep k04)
  have ht0A:=rb (ht.keep k04)
  have hp0A:=rb (hp.keep k04)
  have k34:Keep H0 H4:=k3.trans k4
  have hf0A:=(x4A.2 b0 (by omega) (by omega)).trans ((k34.2 b0 (by omega)).trans hf2)
  have hk0A:=(x4A.2 b1 (by omega) (by omega)).trans ((k34.2 b1 (by omega)).trans hk2)
  clear hc5 ht5 hc6 ht6 hb5 hb6 rb x4A hga0 hgd1 hge hgd hga hgA
  repeat' first | refine CO.cons rfl ?_ | refine CO.nil ?_ | refine CV.seq ?_ | refine CV.region callees ?_ | fail
  refine (up_spec (by omega) (by omega) hbA (by omega)).mono ?_
  rintro r HQ ⟨⟨mx,rfl,mx0,mx1⟩,hbQ,xQ⟩
  have lQ:=xQ.1
  have hbQn:=hbQ.1
  have rbQ:∀ {s:Nat} {w:Value} {rs:List (List Value)},RowS s HA w rs->RowS s HQ w rs:=fun h=>by obtain ⟨_,w,hw⟩:=hbA; exact h.keepX xQ hw
  have hcQ:=rbQ hcA
  have htQ:=rbQ htA
  have hc0Q:=rbQ hc0A
  have ht0Q:=rbQ ht0A
  have hp0Q:=rbQ hp0A
  have hfQ:=(xQ.2 ba (by omega) (by omega)).trans hfA
  have hkQ:=(xQ.2 bd (by omega) (by omega)).trans hkA
  have hf0Q:=(xQ.2 b0 (by omega) (by omega)).trans hf0A
  have hk0Q:=(xQ.2 b1 (by omega) (by omega)).trans hk0A
  clear hcA htA hc0A ht0A hp0A hfA hkA hf0A hk0A
  repeat' first | refine CO.cons rfl ?_ | refine CO.nil ?_ | refine CV.seq ?_ | refine CR.cons (es:=[]) ?_ | refine CV.mX callees (by decide +kernel) [(0,[]),(1,[]),(2,[]),(4,[]),(5,[]),(6,[]),(8,[]),(9,[]),(10,[]),(12,[]),(14,[]),(15,[]),(16,[]),(18,[]),(19,[]),(20,[]),(23,[]),(11,[6,5,4,2,1,0]),(21,[6,5,4,2,1,0]),(22,[]),(3,[22,6,5,4]),(25,[22,6,5,4]),(7,[22]),(26,[22]),(13,[22]),(27,[22]),(17,[22]),(28,[22]),(24,[]),(29,[])] (by kernel_rfl) ?_ | refine ⟨_,ld28 hf0Q,?_⟩ | refine ⟨_,ld28 hfQ,?_⟩ | refine ⟨_,ld51 hk0Q,?_⟩ | refine ⟨_,ld51 hkQ,?_⟩ | fail
  refine CR.callL b (by omega) ?_
  refine (poursOf_spec (by omega) (by omega) hbQ hk (by omega) (by omega) (by omega) (by omega)).mono ?_
  rintro pv HB ⟨⟨ps,hpB,hpo,hpn6⟩,hbB,xB⟩
  have lB:=xB.1
  have hbBn:=hbB.1
  have hfB:=(xB.2 ba (by omega) (by omega)).trans hfQ
  have hkB:=(xB.2 bd (by omega) (by omega)).trans hkQ
  have hf0B:=(xB.2 b0 (by omega) (by omega)).trans hf0Q
  have hk0B:=(xB.2 b1 (by omega) (by omega)).trans hk0Q
  refine .inl ⟨_,ld28 hfB,rfl,hfvs,?_⟩
  refine .inl ⟨_,ld28 hfB,rfl,hfvs,?_⟩
  refine .inr ⟨by omega,_,ld28 hf0Q,?_⟩
  refine .inl ⟨_,ld51 hkB,rfl,same_ke,?_⟩
  refine .inl ⟨_,ld51 hkB,rfl,same_ke,?_⟩
  refine .inr ⟨by omega,_,ld51 hk0Q,?_⟩
  repeat' first | fail
  refine CR.callL b (by omega) ?_
  refine (up_spec (by omega) (by omega) hbB (by omega)).mono ?_
  rintro r HC ⟨⟨my,rfl,my0,my1⟩,hbC,xC⟩
  have lC:=xC.1
  have hfC:=(xC.2 ba (by omega) (by omega)).trans hfB
  have hkC:=(xC.2 bd (by omega) (by omega)).trans hkB
  have hf0C:=(xC.2 b0 (by omega) (by omega)).trans hf0B
  have hk0C:=(xC.2 b1 (by omega) (by omega)).trans hk0B
  refine .inl ⟨_,ld28 hfC,rfl,hfvs,?_⟩
  refine .inl ⟨_,ld28 hfC,rfl,hfvs,?_⟩
  refine .inr ⟨by omega,_,ld28 hf0B,?_⟩
  refine .inl ⟨_,ld51 hkC,rfl,same_ke,?_⟩
  refine .inl ⟨_,ld51 hkC,rfl,same_ke,?_⟩
  refine .inr ⟨by omega,_,ld51 hk0B,?_⟩
  have xAC:KeepX b HQ HC:=xB.trans xC
  have rbC:∀ {s:Nat} {w:Value} {rs:List (List Value)},RowS s HQ w rs->RowS s HC w rs:=fun h=>by obtain ⟨_,w,hw⟩:=hbQ; exact h.keepX xAC hw
  have hpC:OwnO HC pv ps HQ.n:=OwnS.boxed hpB xC hbB
  have hc1C:=rbC hcQ
  have ht1C:=rbC htQ
  have hc0C:=rbC hc0Q
  have ht0C:=rbC ht0Q
  have hp0C:=rbC hp0Q
  repeat' first | refine CR.cons (es:=[]) ?_ | refine ⟨(⟨by omega,by omega⟩:inI64 _),?_⟩ | fail
  refine CR.opL HC.n (by omega) (Nat.le_refl _) ?_
  refine ⟨_,_,bu3K,?_⟩
  refine .inl ⟨(⟨by omega,by omega⟩:inI64 _),rfl,same_int,?_⟩
  refine .inr ⟨by omega,_,ld28 hfC,?_⟩
  refine .inr ⟨by omega,_,ld28 hfC,?_⟩
  refine .inr ⟨by omega,_,ld28 hf0C,?_⟩
  generalize hsD:Heap.new HC _ = HD
  have kD:=new_keep hsD
  have nD:=new_n hsD
  have hKD:RowS 8 HD (.slice (some ⟨HC.n,0,none⟩) 3 0) [Kel ke,Kel k,Kel k]:=rows3 hsD rfl rfl rfl
  have hfD:=(kD.2 ba (by omega)).trans hfC
  have hf0D:=(kD.2 b0 (by omega)).trans hf0C
  generalize Value.slice (some ⟨HC.n,0,none⟩) 3 0 = KS at hKD ⊢
  refine CR.opL HC.n (by omega) (by omega) ?_
  first | refine ⟨rfl,?_⟩ | refine ⟨(rfl:plain _ = true),?_⟩ | skip
  refine .inl ⟨(⟨by omega,by omega⟩:inI64 _),rfl,same_int,?_⟩
  refine .inr ⟨by omega,_,ld28 hfD,?_⟩
  refine .inr ⟨by omega,_,ld28 hfD,?_⟩
  refine .inr ⟨by omega,_,ld28 hf0D,?_⟩
  have hbF:∀ X:Heap,abuildSlice Try.prog X 42 3 [(0,Fv cv0 tv0),(1,Fv cv tv),(2,Fv cv tv)] = some (.slice (some ⟨X.n,0,none⟩) 3 0,X.new (.cells ([cv0,tv0] ++ [cv,tv] ++ [cv,tv]) 25 2),X.n):=fun X=>buFires hc0C ht0C hc1C ht1C hc1C ht1C
  repeat' first | fail
  refine CR.opL HC.n (by omega) (by omega) ?_
  refine ⟨_,_,hbF _,?_⟩
  refine .inl ⟨(⟨by omega,by omega⟩:inI64 _),rfl,same_int,?_⟩
  generalize hsE:Heap.new HD _ = HE
  have kE:=new_keep hsE
  have nE:=new_n hsE
  have hFE:RowS 2 HE (.slice (some ⟨HD.n,0,none⟩) 3 0) [[cv0,tv0],[cv,tv],[cv,tv]]:=rows3 hsE rfl rfl rfl
  generalize Value.slice (some ⟨HD.n,0,none⟩) 3 0 = FS at hFE ⊢
  refine CR.opL HC.n (by omega) (by omega) ?_
  first | refine ⟨rfl,?_⟩ | refine ⟨(rfl:plain _ = true),?_⟩ | skip
  refine .inl ⟨(⟨by omega,by omega⟩:inI64 _),rfl,same_int,?_⟩
  have op0:=hp0C.cells.2.1
  have op1:=OwnS.oneC hpC
  repeat' first | fail
  refine CR.opL HC.n (by omega) (by omega) ?_
  refine ⟨_,_,bu3P op0 op1 op0,?_⟩
  refine .inl ⟨(⟨by omega,by omega⟩:inI64 _),rfl,same_int,?_⟩
  generalize hsG:Heap.new HE _ = HG
  have kG:=new_keep hsG
  have nG:=new_n hsG
  have hPG:Row HG (.slice (some ⟨HE.n,0,none⟩) 3 0) [pv0,pv,pv0]:=by rw [<- hsG]; exact new_row rfl
  generalize Value.slice (some ⟨HE.n,0,none⟩) 3 0 = PS at hPG ⊢
  refine CR.opL HC.n (by omega) (by omega) ?_
  first | refine ⟨rfl,?_⟩ | refine ⟨(rfl:plain _ = true),?_⟩ | skip
  refine .inl ⟨(⟨by omega,by omega⟩:inI64 _),rfl,same_int,?_⟩
  repeat' first | fail
  refine CR.opL HC.n (by omega) (by omega) ?_
  refine ⟨_,_,build_3,?_⟩
  refine .inl ⟨(⟨by omega,by omega⟩:inI64 _),rfl,same_int,?_⟩
  generalize hsI:Heap.new HG _ = HI
  have kI:=new_keep hsI
  have nI:=new_n hsI
  have hMI:Ints HI (.slice (some ⟨HG.n,0,none⟩) 3 0) [fr,mx,fr]:=by rw [<- hsI]; exact new_row rfl
  generalize Value.slice (some ⟨HG.n,0,none⟩) 3 0 = MS at hMI ⊢
  refine CR.opL HC.n (by omega) (by omega) ?_
  first | refine ⟨rfl,?_⟩ | refine ⟨(rfl:plain _ = true),?_⟩ | skip
  refine .inl ⟨(⟨by omega,by omega⟩:inI64 _),rfl,same_int,?_⟩
  repeat' first | refine CO.cons rfl ?_ | refine CO.nil ?_ | refine CV.seq ?_ | refine CV.region callees ?_ | refine CV.block ?_ | refine CR.cons (es:=[]) ?_ | refine CR.nil ?_ | refine ⟨_,_,build_3,?_⟩ | fail
  generalize hsJ:Heap.new HI _ = HJ
  have kJ:=new_keep hsJ
  have nJ:=new_n hsJ
  have hNJ:Ints HJ (.slice (some ⟨HI.n,0,none⟩) 3 0) [to,mx + my,to]:=by rw [<- hsJ]; exact new_row rfl
  generalize Value.slice (some ⟨HI.n,0,none⟩) 3 0 = NS at hNJ ⊢
  have kCJ:=(((kD.trans kE).trans kG).trans kI).trans kJ
  have hKJ:=(((hKD.keep kE).keep kG).keep kI).keep kJ
  have hFJ:=((hFE.keep kG).keep kI).keep kJ
  have hPJ:=Row.keep (Row.keep hPG kI) kJ
  have hMJ:Ints HJ MS [fr,mx,fr]:=Row.keep hMI kJ
  have hall:∀ i:Nat,i < 3->∃ (cv' tv':Value) (cs':List Co) (ts':List (Int × Int)) (k':Ke) (pv':Value) (ps':List Po) (f' t':Int),
      ([[cv0,tv0],[cv,tv],[cv,tv]]:List (List Value))[i]? = some [cv',tv']∧([Kel ke,Kel k,Kel k]:List (List Value))[i]? = some (Kel k')∧([pv0,pv,pv0]:List Value)[i]? = some pv'∧([fr,mx,fr]:List Int)[i]! = f'∧([to,mx + my,to]:List Int)[i]! = t'∧RowS 7 HJ cv' (cs'.map Col)∧RowS 2 HJ tv' (ts'.map Hl)∧RowS 3 HJ pv' (ps'.map Pol)∧cs'.length<=100∧ts'.length<=100∧ps'.length<=100:=fun i hi=>by
    rcases (by omega:i = 0 ∨ i = 1 ∨ i = 2) with rfl | rfl | rfl
    · exact ⟨cv0,tv0,cs0,ts0,ke,pv0,ps0,fr,to,rfl,rfl,rfl,rfl,rfl,hc0C.keep kCJ,ht0C.keep kCJ,hp0C.keep kCJ,by omega,by omega,by omega⟩
    · exact ⟨cv,tv,cs,ts,k,pv,ps,mx,mx + my,rfl,rfl,rfl,rfl,rfl,hc1C.keep kCJ,ht1C.keep kCJ,(OwnS.row hpC).keep kCJ,by omega,by omega,by omega⟩
    · exact ⟨cv,tv,cs,ts,k,pv0,ps0,fr,to,rfl,rfl,rfl,rfl,rfl,hc1C.keep kCJ,ht1C.keep kCJ,hp0C.keep kCJ,by omega,by omega,by omega⟩
  have lJ:=kCJ.1
  clear hfB hkB hf0B hk0B hfC hkC hf0C hk0C hcQ htQ hc0Q ht0Q hp0Q hf0Q hk0Q hfQ hkQ hbA hbQ hbB hbC xB xC xAC rbC rbQ hpB hpC hc1C ht1C hc0C ht0C hp0C hbF hKD hFE hPG hfD hf0D hMI
  repeat' first | fail
  refine CV.loopc ?_
  refine WCv.rounds callees false (α:=Nat) (fun i=>[(18,KS),(19,FS),(20,PS),(21,MS),(22,NS),(23,VJ i)]) (fun i Hz=>i<=3∧Keep HJ Hz) (fun i=>3 - i) (0) (by repeat' first | exact trivial | refine ⟨rfl,?_⟩ | refine ⟨slot_int (by (try simp only [Int.toNat_natCast]); omega),?_⟩) ?_ ?_
  · exact ⟨by omega,Keep.refl _⟩
  rintro i Hx ⟨hi,kx⟩ hBx
  have lx:=kx.1
  have hlenS:alen Try.prog Hx 43 KS = some (.int .i64 3):=(hKJ.keep kx).alen unKs
  by_cases hi2:i < 3
  · obtain ⟨cv',tv',cs',ts',k',pv',ps',f',t',e1,e2,e3,e4,e5,f1,f2,f3,f4,f5,f6⟩:=hall i hi2
    have aF:aindexAddr Try.prog 42 FS (VJ i) = some (elemS FS 2 i):=(hFJ.keep kx).addr unFs sz28 (by omega) (by show (i:Int) < (3:Nat); omega)
    have aK:aindexAddr Try.prog 43 KS (VJ i) = some (elemS KS 8 i):=(hKJ.keep kx).addr unKs sz51h (by omega) (by show (i:Int) < (3:Nat); omega)
    have aP:aindexAddr Try.prog 45 PS (VJ i) = some (elemAt PS i):=(Row.keep hPJ kx).addr unPs szPs (by omega) (by show (i:Int) < (3:Nat); omega)
    have aM:aindexAddr Try.prog 33 MS (VJ i) = some (elemAt MS i):=ints_addr (show Ints Hx MS [fr,mx,fr] from Row.keep hMJ kx) (by omega) (by show (i:Int) < (3:Nat); omega)
    have aN:aindexAddr Try.prog 33 NS (VJ i) = some (elemAt NS i):=ints_addr (show Ints Hx NS [to,mx + my,to] from Row.keep hNJ kx) (by omega) (by show (i:Int) < (3:Nat); omega)
    have lF:∀ X,Keep HJ X->aload Try.prog 25 X (elemS FS 2 i) = some (Fv cv' tv'):=fun X k=>(hFJ.keep k).load ag28 sz28 e1
    have lK:∀ X,Keep HJ X->aload Try.prog 29 X (elemS KS 8 i) = some (Kev k'):=fun X k=>(hKJ.keep k).load ag51h sz51h e2
    have lP:∀ X,Keep HJ X->aload Try.prog 30 X (elemAt PS i) = some pv':=fun X k=>(Row.keep hPJ k).load ag53 e3
    have lM:∀ X,Keep HJ X->aload Try.prog 3 X (elemAt MS i) = some (VJ f'):=fun X k=>by
      have h:Ints X MS [fr,mx,fr]:=Row.keep hMJ k
      have h2:aload Try.prog 3 X (elemAt MS i) = some (VJ ([fr,mx,fr]:List Int)[i]!):=ints_load h (i:=(i:Int)) (by omega) (by show (i:Int) < (3:Nat); omega)
      rwa [e4] at h2
    have lN:∀ X,Keep HJ X->aload Try.prog 3 X (elemAt NS i) = some (VJ t'):=fun X k=>by
      have h:Ints X NS [to,mx + my,to]:=Row.keep hNJ k
      have h2:aload Try.prog 3 X (elemAt NS i) = some (VJ ([to,mx + my,to]:List Int)[i]!):=ints_load h (i:=(i:Int)) (by omega) (by show (i:Int) < (3:Nat); omega)
      rwa [e5] at h2
    obtain ⟨s,e,hQ,hsl⟩:=layQ_ex k' cs' ts' ps' f' t'
    repeat' first | refine CO.cons rfl ?_ | refine CO.nil ?_ | refine CV.seq ?_ | refine CV.region callees ?_ | refine CV.cond ?_ | refine CV.block ?_ | refine CV.skip ?_ | refine ⟨_,hlenS,?_⟩ | refine ⟨_,aF,?_⟩ | refine ⟨_,lF _ kx,?_⟩ | (refine ⟨fun _=>?_,fun _=>?_⟩<;>try (exfalso; omega)) | fail
    refine (ownFireQ_spec (by omega) (f1.keep kx) (f2.keep kx) f4 f5).mono ?_
    rintro r I1 ⟨⟨cw,tw,rfl,ho1,ho2⟩,i1⟩
    have li1:=i1.1
    repeat' first | refine CO.cons rfl ?_ | refine ⟨_,_,al28,?_⟩ | fail
    generalize hsm:Heap.new I1 _ = Hm
    have hgm:=new_get hsm
    have km:=new_keep hsm
    have nm:=new_n hsm
    obtain ⟨bm,hbnm⟩:∃ b,Heap.n I1 = b:=⟨_,rfl⟩
    rw [hbnm] at hgm nm ⊢
    have ho1m:OwnC Hm cw cs' _:=OwnS.keep ho1 km
    have ho2m:OwnT Hm tw ts' _:=OwnS.keep ho2 km
    repeat' first | fail
    refine ⟨_,_,st28 (OwnS.oneC ho1m) (OwnS.oneC ho2m) hgm,by omega,?_⟩
    generalize hsw:Heap.set Hm bm _ = Hw
    have hgw:Hw.get bm = some (.cells (Fl cw tw) 25 1):=set_get hsw
    have nw:=set_n hsw
    have ow:=set_old hsw
    have kmw:Keep I1 Hw:=keep_put km (by omega) ow nw
    have kw:Keep HJ Hw:=(kx.trans i1).trans kmw
    have lw:=kw.1
    have g1:=(OwnS.row ho1).keep kmw
    have g2:=(OwnS.row ho2).keep kmw
    clear ho1 ho2 ho1m ho2m hgm
    repeat' first | refine CO.cons rfl ?_ | refine CO.nil ?_ | refine CV.seq ?_ | refine CV.draw callees (by decide +kernel) ?_ | refine CH.cons rfl ?_ | refine CH.nil ?_ | refine ⟨_,ints_addr (by assumption) (by omega) (by omega),?_⟩ | refine ⟨_,aK,?_⟩ | refine ⟨_,aP,?_⟩ | refine ⟨_,lK _ kw,?_⟩ | refine ⟨_,lP _ kw,?_⟩ | refine ⟨_,lM _ kw,?_⟩ | refine ⟨_,lN _ kw,?_⟩ | refine ⟨_,ld28 hgw,?_⟩ | fail
    refine (layQ_spec (by omega) g1 g2 (f3.keep kw) f4 f5 f6 hQ).mono ?_
    rintro r J1 ⟨⟨q1,rfl,hq1⟩,j1⟩
    have lj1:=j1.1
    have w1:=kw.trans j1
    repeat' first | refine CO.cons rfl ?_ | refine CO.nil ?_ | refine CV.seq ?_ | refine CV.draw callees (by decide +kernel) ?_ | refine CH.cons rfl ?_ | refine CH.nil ?_ | refine ⟨_,ints_addr (by assumption) (by omega) (by omega),?_⟩ | refine ⟨_,aK,?_⟩ | refine ⟨_,aF,?_⟩ | refine ⟨_,aP,?_⟩ | refine ⟨_,lK _ w1,?_⟩ | refine ⟨_,lF _ w1,?_⟩ | refine ⟨_,lP _ w1,?_⟩ | refine ⟨_,lM _ w1,?_⟩ | refine ⟨_,lN _ w1,?_⟩ | fail
    refine (refLay_spec (by omega) (f1.keep w1) (f2.keep w1) (f3.keep w1) f4 f5 f6 hQ).mono ?_
    rintro r J2 ⟨⟨q2,rfl,hq2⟩,j2⟩
    have lj2:=j2.1
    have w2:=w1.trans j2
    have j12:=j1.trans j2
    have hq1b:Ints J2 q1 s:=Row.keep hq1 j2
    have hS2:=(j12.2 bm (by omega)).trans hgw
    have g1b:=g1.keep j12
    have g2b:=g2.keep j12
    clear hq1 hgw g1 g2
    repeat' first | refine CO.nil ?_ | refine CV.seq ?_ | refine CH.cons rfl ?_ | refine CH.nil ?_ | fail
    repeat' first | refine CR.cons (es:=[]) ?_ | refine CV.wideR callees (by decide +kernel) [(0,[]),(1,[]),(2,[]),(3,[]),(4,[]),(5,[]),(6,[]),(7,[]),(8,[]),(9,[]),(10,[]),(11,[]),(12,[]),(13,[]),(14,[]),(15,[]),(16,[]),(17,[])] (by kernel_rfl) ?_ | (refine ⟨fun _=>?_,fun _=>?_⟩<;>try (exfalso; omega)) | fail
    refine (eqInts_spec (by omega) hq1b hq2 (by omega)).mono ?_
    rw [decide_eq_true rfl]
    rintro r K8 ⟨rfl,m8⟩
    have lm8:=m8.1
    have w3:=w2.trans m8
    have hS3:=(m8.2 bm (by omega)).trans hS2
    repeat' first | refine CR.cons (es:=[]) ?_ | refine ⟨_,ld28 hS3,?_⟩ | refine ⟨_,aF,?_⟩ | refine ⟨_,lF _ w3,?_⟩ | fail
    refine (eqFires_spec (by omega) (g1b.keep m8) (g2b.keep m8) (f1.keep w3) (f2.keep w3) f4 f5).mono ?_
    rintro r K9 ⟨rfl,m9⟩
    repeat' first | refine CO.cons rfl ?_ | refine CO.nil ?_ | refine CV.region callees ?_ | refine CV.cond ?_ | refine CV.skip ?_ | refine CR.cons ?_ | refine CR.nil ?_ | refine ⟨(⟨by omega,by omega⟩:inI64 _),?_⟩ | fail
    refine ⟨(i + 1),(by repeat' first | exact trivial | refine ⟨rfl,?_⟩ | refine ⟨slot_int (by (try simp only [Int.toNat_natCast]); omega),?_⟩),(by (try dsimp only); omega),?_⟩
    exact ⟨by omega,w3.trans m9⟩
  obtain rfl:i = 3:=by omega
  repeat' first | refine CO.cons rfl ?_ | refine CO.nil ?_ | refine CV.seq ?_ | refine CV.region callees ?_ | refine CV.cond ?_ | refine CV.exit ?_ | refine ⟨_,hlenS,?_⟩ | (refine ⟨fun _=>?_,fun _=>?_⟩<;>try (exfalso; omega)) | fail
  refine (awake_spec (by omega)).mono ?_
  rintro r I5 ⟨rfl,j5⟩
  repeat' first | refine CO.cons rfl ?_ | refine CO.nil ?_ | refine CV.ret ?_ | fail
  exact ⟨rfl,rfl⟩
end Go.Proofs.Ytglkphjjinmgmaa
