/- The reference's beginnings and heats. -/
import Derived.Test.Ytglkphjjinmgmaaq4h
import Derived.Test.YtglkphjjinmgmaaM6h
set_option linter.unusedVariables false
set_option linter.unusedSimpArgs false
namespace Go.Proofs.Ytglkphjjinmgmaa
open Go.AI
theorem beg_take {cs:List Co} {B0 B1:List Int} {i:Nat} (h:i < cs.length):(begS (emL cs B0 B1)).take i ++ [(B0[i]!,B1[i]!)] = (begS (emL cs B0 B1)).take (i + 1):=by
  have h2:i < (begS (emL cs B0 B1)).length:=by rw [begS_len]; exact h
  rw [List.take_succ_eq_append_getElem h2,<- begS_at h,getElem!_pos _ i h2]
set_option maxHeartbeats 16000000 in
set_option maxRecDepth 100000 in
theorem beginsV_spec {B:Nat} {H:Heap} {cv tv:Value} {cs:List Co} {ts:List (Int × Int)} {B0 B1:List Int} (hB:B<=H.n) (hc:RowS 7 H cv (cs.map Col)) (ht:RowS 2 H tv (ts.map Hl)) (hf:FOk cs ts) (hB0:IsBeg 0 cs ts B0) (hB1:IsBeg 1 cs ts B1) :
    CallB Try.prog B 70 [Fv cv tv] H (fun r H'=>OwnSp H' r (begS (emL cs B0 B1)) H.n∧Keep H H'):=by
  have hn12:=hf.n
  refine CV.enter callees false rfl Try.func70 rfl (by kernel_rfl) (Nat.le_of_ble_eq_true rfl) hB ?_
  repeat' first | refine CO.cons rfl ?_ | refine CV.seq ?_ | refine CV.region callees ?_ | fail
  refine ⟨(by simp only [notTuple]),?_⟩
  rw [allocFv hc.cells.1 ht.cells.1]
  generalize hsb:Heap.new H _ = Hb
  have hgb:=new_get hsb
  have kb:=new_keep hsb
  have nb:=new_n hsb
  obtain ⟨bb,hbnb⟩:∃ b,Heap.n H = b:=⟨_,rfl⟩
  rw [hbnb] at hgb nb ⊢
  obtain ⟨b3,hb3⟩:∃ b3,bb = b3:=⟨_,rfl⟩
  rw [hb3] at hgb nb hbnb ⊢
  have hcb:=hc.keep kb
  have htb:=ht.keep kb
  repeat' first | refine CO.cons rfl ?_ | refine CO.nil ?_ | refine CV.seq ?_ | refine CV.region callees ?_ | refine CV.block ?_ | refine ⟨_,_,al31,?_⟩ | fail
  generalize hs4:Heap.new Hb _ = H4
  have hg4:=new_get hs4
  have k4:=new_keep hs4
  have n4:=new_n hs4
  obtain ⟨b4,hbn4⟩:∃ b,Heap.n Hb = b:=⟨_,rfl⟩
  rw [hbn4] at hg4 n4 ⊢
  repeat' first | fail
  generalize hs5:Heap.new H4 _ = H5
  have hg5:=new_get hs5
  have k5:=new_keep hs5
  have n5:=new_n hs5
  obtain ⟨b5,hbn5⟩:∃ b,Heap.n H4 = b:=⟨_,rfl⟩
  rw [hbn5] at hg5 n5 ⊢
  have k45:=k4.trans k5
  have hg45:=(k5.2 b4 (by omega)).trans hg4
  obtain ⟨bn,hbnn⟩:∃ bn,H5.n = bn:=⟨_,rfl⟩
  have hBs0:Bu H5 b4 nilS nilS [] [] bn:=⟨by omega,hg45,.inl ⟨rfl,rfl⟩,.inl ⟨rfl,rfl⟩,fun c hc=>by cases hc⟩
  have hBl0:Bu H5 b5 nilS nilS [] [] bn:=⟨by omega,hg5,.inl ⟨rfl,rfl⟩,.inl ⟨rfl,rfl⟩,fun c hc=>by cases hc⟩
  repeat' first | fail
  refine CV.loopc ?_
  refine WCv.rounds callees false (α:=Nat × Value × Value × Value × Value) (fun (i,s1,s2,t1,t2)=>[(1,.pointer (some ⟨b3,0,none⟩)),(3,.pointer (some ⟨b4,0,none⟩)),(4,.pointer (some ⟨b5,0,none⟩)),(5,VJ i)]) (fun (i,s1,s2,t1,t2) Hz=>i<=cs.length∧Bu Hz b4 s1 s2 ((cs.take i).map (ca 0)) ((cs.take i).map (bu 0)) bn∧Bu Hz b5 t1 t2 ((cs.take i).map (ca 1)) ((cs.take i).map (bu 1)) bn∧(Apart t1 s1∧Apart t2 s1∧Apart t1 s2∧Apart t2 s2)∧Keep Hb Hz∧bn<=Hz.n) (fun (i,s1,s2,t1,t2)=>cs.length - i) (0,nilS,nilS,nilS,nilS) (by repeat' first | exact trivial | refine ⟨rfl,?_⟩ | refine ⟨slot_int (by (try simp only [Int.toNat_natCast]); omega),?_⟩) ?_ ?_
  · exact ⟨by omega,hBs0,hBl0,⟨fun c hc=>(by cases hc),fun c hc=>(by cases hc),fun c hc=>(by cases hc),fun c hc=>(by cases hc)⟩,k45,by omega⟩
  clear hBs0 hBl0 k45 hg45 hg5 hg4 k4 k5
  rintro ⟨i,s1,s2,t1,t2⟩ Hx ⟨hi,hBs,hBl,⟨p1,p2,p3,p4⟩,kx,lx⟩ hBx
  have hfx:=(kx.2 b3 (by omega)).trans hgb
  have hcx:=hcb.keep kx
  have htx:=htb.keep kx
  by_cases hi2:i < cs.length
  · repeat' first | refine CO.cons rfl ?_ | refine CO.nil ?_ | refine CV.seq ?_ | refine CV.region callees ?_ | refine CV.cond ?_ | refine CV.block ?_ | refine CV.skip ?_ | refine ⟨_,fS foF0 (by decide),?_⟩ | refine ⟨_,cell_load ag25 hfx rfl,?_⟩ | refine ⟨_,cs_len hcx,?_⟩ | refine ⟨_,cs_addr hcx (by omega) (by omega),?_⟩ | refine ⟨_,cs_load hcx hi2,?_⟩ | refine ⟨_,_,al48,?_⟩ | (refine ⟨fun _=>?_,fun _=>?_⟩<;>try (exfalso; omega)) | fail
    generalize hs6:Heap.new Hx _ = H6
    have hg6:=new_get hs6
    have k6:=new_keep hs6
    have n6:=new_n hs6
    obtain ⟨b6,hbn6⟩:∃ b,Heap.n Hx = b:=⟨_,rfl⟩
    rw [hbn6] at hg6 n6 ⊢
    obtain ⟨bc,hbc⟩:∃ bc,b6 = bc:=⟨_,rfl⟩
    rw [hbc] at hg6 n6 hbn6 ⊢
    repeat' first | fail
    refine ⟨_,_,st48 hg6,by omega,?_⟩
    generalize hs7:Heap.set H6 bc _ = H7
    have hg7:H7.get bc = some (.cells (Col cs[i]!) 32 1):=set_get hs7
    have n7:=set_n hs7
    have o7:=set_old hs7
    have k7:Keep Hx H7:=keep_put k6 (by omega) o7 n7
    have kinA:Keep Hb H7:=kx.trans k7
    have hBA:=hBs.keep k7
    have hOA:=hBl.keep k7
    have nuA:blkOf s1 ≠ some bc:=fun h=>by have:=(hBs.u.lt h).2; omega
    have nvA:blkOf s2 ≠ some bc:=fun h=>by have:=(hBs.v.lt h).2; omega
    have nuB:blkOf t1 ≠ some bc:=fun h=>by have:=(hBl.u.lt h).2; omega
    have nvB:blkOf t2 ≠ some bc:=fun h=>by have:=(hBl.v.lt h).2; omega
    have a31A:=p1
    have a32A:=p2
    have a41A:=p3
    have a42A:=p4
    have hccA:=hg7
    repeat' first | refine CO.nil ?_ | refine CV.seq ?_ | fail
    have kNA:=Keep.new H7 (.cells [VJ cs[i]!.cl] 3 2)
    have hgNA:=(kNA.2 b4 (by omega)).trans hBA.g
    have hcNA:=(kNA.2 bc (by omega)).trans hccA
    have buA:∀ c,blkOf s1 = some c->bn<=c:=fun c hc=>(hBA.u.lt hc).1
    have bvA:∀ c,blkOf s2 = some c->bn<=c:=fun c hc=>(hBA.v.lt hc).1
    refine CV.mX callees (by decide +kernel) [(0,[]),(1,[]),(2,[]),(3,[]),(4,[]),(7,[]),(8,[]),(9,[]),(10,[]),(11,[]),(5,[11,8,1]),(6,[11,8]),(14,[]),(12,[8]),(13,[]),(15,[]),(16,[]),(17,[])] (by kernel_rfl) ?_
    repeat' first | refine CR.cons ?_ | refine ⟨_,fS foR0 (by decide),?_⟩ | refine ⟨_,fS foR1 (by decide),?_⟩ | refine ⟨_,cell_load ag22h hBA.g rfl,?_⟩ | refine ⟨_,fS foC0 (by decide),?_⟩ | refine ⟨_,fS foC1 (by decide),?_⟩ | refine ⟨_,cell_load ag3 hccA rfl,?_⟩ | refine ⟨_,_,build_one un22 one3 rfl,?_⟩ | fail
    refine push_ask (y:=cs[i]!.cl) hBA.u (by omega) (by omega) (by rw [List.length_map,List.length_take]; omega) ?_
    intro uA HuA huA kbuA fuA
    have luA:=kbuA.le
    have hguA:=(kbuA.get b4 (by omega) (fun h=>by have:=buA _ h; omega)).trans hBA.g
    have hcuA:=(kbuA.get bc (by omega) nuA).trans hccA
    have hvuA:=hBA.v.keepBut kbuA hBA.ap.symm
    have auA:Apart s2 uA:=hBA.v.apartNew fuA
    have hOuA:=hOA.but kbuA (fun h=>by have:=buA _ h; omega) a31A a32A
    have kMA:=Keep.new HuA (.cells [VJ cs[i]!.bh] 3 2)
    have hgMA:=(kMA.2 b4 (by omega)).trans hguA
    repeat' first | refine CR.cons ?_ | refine ⟨_,cell_load ag3 hcuA rfl,?_⟩ | refine ⟨_,cell_load ag22h hguA rfl,?_⟩ | refine ⟨(rfl:_ = Value.int _ _),?_⟩ | refine ⟨same_int,?_⟩ | refine ⟨(rfl:_ = s2),?_⟩ | refine ⟨hvuA.same,?_⟩ | refine ⟨_,fS foR0 (by decide),?_⟩ | refine ⟨_,_,build_one un22 one3 rfl,?_⟩ | fail
    refine push_ask (y:=cs[i]!.bh) hvuA (by omega) (by omega) (by rw [List.length_map,List.length_take]; omega) ?_
    intro vA HvA hvA kbvA fvA
    have lvA:=kbvA.le
    have hgvA:=(kbvA.get b4 (by omega) (fun h=>by have:=bvA _ h; omega)).trans hguA
    have hcvA:=(kbvA.get bc (by omega) nvA).trans hcuA
    have huvA:=huA.keepBut kbvA auA.symm
    have avA:Apart uA vA:=huA.apartNew fvA
    have hOvA:=hOuA.but kbvA (fun h=>by have:=bvA _ h; omega) a41A a42A
    have c1A:Apart t1 uA:=hOA.u.apartNew fuA
    have c2A:Apart t2 uA:=hOA.v.apartNew fuA
    have c3A:Apart t1 vA:=hOuA.u.apartNew fvA
    have c4A:Apart t2 vA:=hOuA.v.apartNew fvA
    have kvA:Keep Hb HvA:=kbvA.keep (kbuA.keep kinA fun c hc=>by have:=buA c hc; omega) fun c hc=>by have:=bvA c hc; omega
    repeat' first | refine CR.cons ?_ | fail
    refine ⟨_,_,store_row (i:=0) sz22h hgvA (by show 0 < 2; decide) (own_oneC huvA),by omega,?_⟩
    generalize hsqA:Heap.set HvA b4 _ = HqA
    have hgqA:HqA.get b4 = some (.cells (Fl uA s2) 71 1):=set_get hsqA
    have nqA:=set_n hsqA
    have oqA:=set_old hsqA
    repeat' first | refine CR.cons ?_ | refine ⟨_,fS foR1 (by decide),?_⟩ | fail
    refine ⟨_,_,store_row (i:=1) sz22h hgqA (by show 1 < 2; decide) (own_oneC hvA),by omega,?_⟩
    generalize hszA:Heap.set HqA b4 _ = HzA
    have hgzA:HzA.get b4 = some (.cells (Fl uA vA) 71 1):=set_get hszA
    have nzA:=set_n hszA
    have ozA:=set_old hszA
    have hOzA:=(hOvA.set hgvA (by omega) oqA nqA).set hgqA (by omega) ozA nzA
    have kxqA:KeepX b4 HvA HqA:=⟨by omega,fun x _ hx=>oqA x hx⟩
    have kxzA:KeepX b4 HqA HzA:=⟨by omega,fun x _ hx=>ozA x hx⟩
    have hBzA:Bu HzA b4 uA vA _ _ bn:=⟨by omega,hgzA,(huvA.keepX kxqA hgvA).keepX kxzA hgqA,(hvA.keepX kxqA hgvA).keepX kxzA hgqA,avA⟩
    have hczA:=(ozA bc (by omega)).trans ((oqA bc (by omega)).trans hcvA)
    have kzA:Keep Hb HzA:=keep_put (keep_put kvA (by omega) oqA nqA) (by omega) ozA nzA
    have hBB:=hOzA
    have hOB:=hBzA
    have hccB:=hczA
    have kinB:=kzA
    have a31B:Apart uA t1:=c1A.symm
    have a32B:Apart vA t1:=c3A.symm
    have a41B:Apart uA t2:=c2A.symm
    have a42B:Apart vA t2:=c4A.symm
    repeat' first | refine CR.nil ?_ | fail
    have kNB:=Keep.new HzA (.cells [VJ cs[i]!.ch] 3 2)
    have hgNB:=(kNB.2 b5 (by omega)).trans hBB.g
    have hcNB:=(kNB.2 bc (by omega)).trans hccB
    have buB:∀ c,blkOf t1 = some c->bn<=c:=fun c hc=>(hBB.u.lt hc).1
    have bvB:∀ c,blkOf t2 = some c->bn<=c:=fun c hc=>(hBB.v.lt hc).1
    refine CV.mX callees (by decide +kernel) [(0,[]),(1,[]),(2,[]),(3,[]),(4,[]),(7,[]),(8,[]),(9,[]),(10,[]),(11,[]),(5,[11,8,1]),(6,[11,8]),(14,[]),(12,[8]),(13,[]),(15,[]),(16,[]),(17,[])] (by kernel_rfl) ?_
    repeat' first | refine CR.cons ?_ | refine ⟨_,fS foR0 (by decide),?_⟩ | refine ⟨_,fS foR1 (by decide),?_⟩ | refine ⟨_,cell_load ag22h hBB.g rfl,?_⟩ | refine ⟨_,fS foC0 (by decide),?_⟩ | refine ⟨_,fS foC1 (by decide),?_⟩ | refine ⟨_,cell_load ag3 hccB rfl,?_⟩ | refine ⟨_,_,build_one un22 one3 rfl,?_⟩ | fail
    refine push_ask (y:=cs[i]!.ch) hBB.u (by omega) (by omega) (by rw [List.length_map,List.length_take]; omega) ?_
    intro uB HuB huB kbuB fuB
    have luB:=kbuB.le
    have hguB:=(kbuB.get b5 (by omega) (fun h=>by have:=buB _ h; omega)).trans hBB.g
    have hcuB:=(kbuB.get bc (by omega) nuB).trans hccB
    have hvuB:=hBB.v.keepBut kbuB hBB.ap.symm
    have auB:Apart t2 uB:=hBB.v.apartNew fuB
    have hOuB:=hOB.but kbuB (fun h=>by have:=buB _ h; omega) a31B a32B
    have kMB:=Keep.new HuB (.cells [VJ cs[i]!.bl] 3 2)
    have hgMB:=(kMB.2 b5 (by omega)).trans hguB
    repeat' first | refine CR.cons ?_ | refine ⟨_,cell_load ag3 hcuB rfl,?_⟩ | refine ⟨_,cell_load ag22h hguB rfl,?_⟩ | refine ⟨(rfl:_ = Value.int _ _),?_⟩ | refine ⟨same_int,?_⟩ | refine ⟨(rfl:_ = t2),?_⟩ | refine ⟨hvuB.same,?_⟩ | refine ⟨_,fS foR0 (by decide),?_⟩ | refine ⟨_,_,build_one un22 one3 rfl,?_⟩ | fail
    refine push_ask (y:=cs[i]!.bl) hvuB (by omega) (by omega) (by rw [List.length_map,List.length_take]; omega) ?_
    intro vB HvB hvB kbvB fvB
    have lvB:=kbvB.le
    have hgvB:=(kbvB.get b5 (by omega) (fun h=>by have:=bvB _ h; omega)).trans hguB
    have hcvB:=(kbvB.get bc (by omega) nvB).trans hcuB
    have huvB:=huB.keepBut kbvB auB.symm
    have avB:Apart uB vB:=huB.apartNew fvB
    have hOvB:=hOuB.but kbvB (fun h=>by have:=bvB _ h; omega) a41B a42B
    have c1B:Apart uA uB:=hOB.u.apartNew fuB
    have c2B:Apart vA uB:=hOB.v.apartNew fuB
    have c3B:Apart uA vB:=hOuB.u.apartNew fvB
    have c4B:Apart vA vB:=hOuB.v.apartNew fvB
    have kvB:Keep Hb HvB:=kbvB.keep (kbuB.keep kinB fun c hc=>by have:=buB c hc; omega) fun c hc=>by have:=bvB c hc; omega
    repeat' first | refine CR.cons ?_ | fail
    refine ⟨_,_,store_row (i:=0) sz22h hgvB (by show 0 < 2; decide) (own_oneC huvB),by omega,?_⟩
    generalize hsqB:Heap.set HvB b5 _ = HqB
    have hgqB:HqB.get b5 = some (.cells (Fl uB t2) 71 1):=set_get hsqB
    have nqB:=set_n hsqB
    have oqB:=set_old hsqB
    repeat' first | refine CR.cons ?_ | refine ⟨_,fS foR1 (by decide),?_⟩ | fail
    refine ⟨_,_,store_row (i:=1) sz22h hgqB (by show 1 < 2; decide) (own_oneC hvB),by omega,?_⟩
    generalize hszB:Heap.set HqB b5 _ = HzB
    have hgzB:HzB.get b5 = some (.cells (Fl uB vB) 71 1):=set_get hszB
    have nzB:=set_n hszB
    have ozB:=set_old hszB
    have hOzB:=(hOvB.set hgvB (by omega) oqB nqB).set hgqB (by omega) ozB nzB
    have kxqB:KeepX b5 HvB HqB:=⟨by omega,fun x _ hx=>oqB x hx⟩
    have kxzB:KeepX b5 HqB HzB:=⟨by omega,fun x _ hx=>ozB x hx⟩
    have hBzB:Bu HzB b5 uB vB _ _ bn:=⟨by omega,hgzB,(huvB.keepX kxqB hgvB).keepX kxzB hgqB,(hvB.keepX kxqB hgvB).keepX kxzB hgqB,avB⟩
    have hczB:=(ozB bc (by omega)).trans ((oqB bc (by omega)).trans hcvB)
    have kzB:Keep Hb HzB:=keep_put (keep_put kvB (by omega) oqB nqB) (by omega) ozB nzB
    have e1:(cs.take i).map (ca 0) ++ [cs[i]!.cl] = (cs.take (i + 1)).map (ca 0):=take_fn hi2
    have e2:(cs.take i).map (bu 0) ++ [cs[i]!.bh] = (cs.take (i + 1)).map (bu 0):=take_fn hi2
    have e3:(cs.take i).map (ca 1) ++ [cs[i]!.ch] = (cs.take (i + 1)).map (ca 1):=take_fn hi2
    have e4:(cs.take i).map (bu 1) ++ [cs[i]!.bl] = (cs.take (i + 1)).map (bu 1):=take_fn hi2
    rw [e1,e2] at hOzB
    rw [e3,e4] at hBzB
    repeat' first | refine CO.cons rfl ?_ | refine CO.nil ?_ | refine CV.region callees ?_ | refine CR.nil ?_ | refine ⟨(⟨by omega,by omega⟩:inI64 _),?_⟩ | fail
    refine ⟨(i + 1,uA,vA,uB,vB),(by repeat' first | exact trivial | refine ⟨rfl,?_⟩ | refine ⟨slot_int (by (try simp only [Int.toNat_natCast]); omega),?_⟩),(by (try dsimp only); omega),?_⟩
    exact ⟨by omega,hOzB,hBzB,⟨c1B.symm,c3B.symm,c2B.symm,c4B.symm⟩,kzB,by omega⟩
  obtain rfl:i = cs.length:=by omega
  rw [List.take_length] at hBs hBl
  have hC1:=hBs.u.row
  have hR1:=hBs.v.row
  have hC2:=hBl.u.row
  have hR2:=hBl.v.row
  repeat' first | refine CO.cons rfl ?_ | refine CO.nil ?_ | refine CV.seq ?_ | refine CV.region callees ?_ | refine CV.cond ?_ | refine CV.exit ?_ | refine ⟨_,fS foF0 (by decide),?_⟩ | refine ⟨_,cell_load ag25 hfx rfl,?_⟩ | refine ⟨_,cs_len hcx,?_⟩ | (refine ⟨fun _=>?_,fun _=>?_⟩<;>try (exfalso; omega)) | fail
  refine CV.wide callees (by decide +kernel) [0,1,3,4,2,5,6,7] (by kernel_rfl) ?_
  repeat' first | refine CG.cons rfl ?_ | refine ⟨_,ld28 hfx,?_⟩ | refine ⟨_,ld31 hBs.g,?_⟩ | refine ⟨_,ld31 hBl.g,?_⟩ | fail
  refine (times_spec (e:=0) (Nat.le_refl _) hcx htx hC1 hR1 (fv_same hBs.u hBs.v) hf hB0).mono ?_
  rintro lo H8 ⟨hlo,k8⟩
  have l8:=k8.1
  repeat' first | refine CG.cons rfl ?_ | fail
  refine (times_spec (e:=1) (Nat.le_refl _) (hcx.keep k8) (htx.keep k8) (hC2.keep k8) (hR2.keep k8) (fv_same hBl.u hBl.v) hf hB1).mono ?_
  rintro hi H9 ⟨hhi,k9⟩
  have l9:=k9.1
  have kx9:=kx.trans (k8.trans k9)
  have hlo9:Ints H9 lo B0:=(hlo.keep k9).row
  have hhi9:Ints H9 hi B1:=hhi.row
  have hb0l:=hB0.len
  have hb1l:=hB1.len
  have hql:=begS_len (cs:=cs) (B0:=B0) (B1:=B1)
  repeat' first | refine CO.cons rfl ?_ | refine CO.nil ?_ | refine CV.seq ?_ | refine CV.region callees ?_ | refine CV.block ?_ | refine CG.cons rfl ?_ | refine CG.nil ?_ | fail
  refine CV.loopc ?_
  refine WCv.rounds callees false (α:=Value × Nat) (fun (q,i)=>[(7,lo),(8,hi),(9,q),(10,VJ i)]) (fun (q,i) Hz=>i<=cs.length∧OwnSp Hz q ((begS (emL cs B0 B1)).take i) H9.n∧Keep H9 Hz) (fun (q,i)=>cs.length - i) (nilS,0) (by repeat' first | exact trivial | refine ⟨rfl,?_⟩ | refine ⟨slot_int (by (try simp only [Int.toNat_natCast]); omega),?_⟩) ?_ ?_
  · exact ⟨by omega,OwnS.nil,Keep.refl _⟩
  rintro ⟨q,i⟩ Hy ⟨hi3,hq,ky⟩ hBy
  have ly:=ky.1
  have hloy:Ints Hy lo B0:=Row.keep hlo9 ky
  have hhiy:Ints Hy hi B1:=Row.keep hhi9 ky
  by_cases hi2:i < cs.length
  · repeat' first | refine CO.cons rfl ?_ | refine CO.nil ?_ | refine CV.seq ?_ | refine CV.region callees ?_ | refine CV.cond ?_ | refine CV.block ?_ | refine CV.skip ?_ | refine CV.draw callees (by decide +kernel) ?_ | refine CH.cons rfl ?_ | refine CH.nil ?_ | refine ⟨_,ints_len (by assumption),?_⟩ | refine ⟨_,ints_addr (by assumption) (by omega) (by omega),?_⟩ | refine ⟨_,ints_load (by assumption) (by omega) (by omega),?_⟩ | refine ⟨_,bu41,?_⟩ | refine ⟨_,_,sp_one,?_⟩ | (refine ⟨fun _=>?_,fun _=>?_⟩<;>try (exfalso; omega)) | fail
    refine sp_push (d:=(B0[i]!,B1[i]!)) hq (by omega) (by omega) (by rw [List.length_take]; omega) ?_
    intro q6 H6 hq6 kb6 hf6
    have l6:=kb6.le
    rw [show (begS (emL cs B0 B1)).take i ++ [(B0[i]!,B1[i]!)] = _ from beg_take hi2] at hq6
    repeat' first | refine CO.cons rfl ?_ | refine CO.nil ?_ | refine CV.region callees ?_ | refine CH.nil ?_ | refine ⟨(⟨by omega,by omega⟩:inI64 _),?_⟩ | fail
    refine ⟨(q6,i + 1),(by repeat' first | exact trivial | refine ⟨rfl,?_⟩ | refine ⟨slot_int (by (try simp only [Int.toNat_natCast]); omega),?_⟩),(by (try dsimp only); omega),?_⟩
    exact ⟨by omega,hq6,kb6.keep ky fun c hc=>(hq.lt hc).1⟩
  have hie:i = cs.length:=by omega
  rw [hie,<- hql,List.take_length] at hq
  repeat' first | refine CO.cons rfl ?_ | refine CO.nil ?_ | refine CV.seq ?_ | refine CV.region callees ?_ | refine CV.cond ?_ | refine CV.exit ?_ | refine CV.ret ?_ | refine ⟨_,ints_len (by assumption),?_⟩ | (refine ⟨fun _=>?_,fun _=>?_⟩<;>try (exfalso; omega)) | fail
  exact ⟨by simp only [List.all_cons,List.all_nil,OwnS.notTuple hq]; rfl,OwnS.low hq (by omega),(kb.trans kx9).trans ky⟩
set_option maxHeartbeats 16000000 in
set_option maxRecDepth 100000 in
theorem heatV_spec {B:Nat} {H:Heap} {cv tv lv:Value} {cs:List Co} {ts:List (Int × Int)} {B0 B1:List Int} {m:Int} (hB:B<=H.n) (hc:RowS 7 H cv (cs.map Col)) (ht:RowS 2 H tv (ts.map Hl)) (hl:RowS 2 H lv ((begS (emL cs B0 B1)).map Hl)) (hf:FOk cs ts) (hB0:IsBeg 0 cs ts B0) (hB1:IsBeg 1 cs ts B1) (hm0:0<=m) (hm1:m<=300) :
    CallB Try.prog B 74 [Fv cv tv,lv,VJ m] H (fun r H'=>r = Hv (heatL (emL cs B0 B1) m)∧Keep H H'):=by
  have hn12:=hf.n
  have hql:=begS_len (cs:=cs) (B0:=B0) (B1:=B1)
  have hel:(emL cs B0 B1).length = cs.length:=emL_len
  have hEo:=emL_ok hf hB0 hB1
  obtain ⟨G,hG⟩:∃ G,(emL cs B0 B1).map (giv m) = G:=⟨_,rfl⟩
  have hGl:G.length = cs.length:=by rw [<- hG,List.length_map,hel]
  have hGa:∀ i,i < cs.length->G[i]! = giv m (emAt cs B0 B1 i):=fun i hi=>by rw [<- hG,giv_at (by omega),emL_at hi]
  have hGb:∀ i,i < cs.length->(0<=(G[i]!).1∧(G[i]!).1<=1000)∧0<=(G[i]!).2∧(G[i]!).2<=1000:=fun i hi=>by
    rw [<- hG,giv_at (by omega)]; exact giv_bd (hEo i (by omega))
  have hHL:heatL (emL cs B0 B1) m = (sumI (G.map (·.1)),sumI (G.map (·.2))):=by rw [heatL,hG]; rfl
  rw [hHL]
  have hb1:∀ j:Nat,j < (G.map (·.1)).length->0<=(G.map (·.1))[j]!∧(G.map (·.1))[j]!<=1000:=fun j hj=>by
    rw [List.length_map] at hj; rw [map_at1 hj]; exact (hGb j (by omega)).1
  have hb2:∀ j:Nat,j < (G.map (·.2)).length->0<=(G.map (·.2))[j]!∧(G.map (·.2))[j]!<=1000:=fun j hj=>by
    rw [List.length_map] at hj; rw [map_at2 hj]; exact (hGb j (by omega)).2
  refine CV.enter callees false rfl Try.func74 rfl (by kernel_rfl) (Nat.le_of_ble_eq_true rfl) hB ?_
  repeat' first | refine CO.cons rfl ?_ | refine CV.seq ?_ | refine CV.region callees ?_ | fail
  refine ⟨(by simp only [notTuple]),?_⟩
  rw [allocFv hc.cells.1 ht.cells.1]
  generalize hs0:Heap.new H _ = H0
  have hg0:=new_get hs0
  have k0:=new_keep hs0
  have n0:=new_n hs0
  obtain ⟨b0,hbn0⟩:∃ b,Heap.n H = b:=⟨_,rfl⟩
  rw [hbn0] at hg0 n0 ⊢
  repeat' first | refine CO.cons rfl ?_ | refine CO.nil ?_ | refine CV.seq ?_ | refine CV.region callees ?_ | refine CV.block ?_ | refine ⟨_,_,al41,?_⟩ | fail
  generalize hs6:Heap.new H0 _ = H6
  have hg6:=new_get hs6
  have k6:=new_keep hs6
  have n6:=new_n hs6
  obtain ⟨b6,hbn6⟩:∃ b,Heap.n H0 = b:=⟨_,rfl⟩
  rw [hbn6] at hg6 n6 ⊢
  repeat' first | fail
  generalize hs7:Heap.new H6 _ = H7
  have hg7:=new_get hs7
  have k7:=new_keep hs7
  have n7:=new_n hs7
  obtain ⟨b7,hbn7⟩:∃ b,Heap.n H6 = b:=⟨_,rfl⟩
  rw [hbn7] at hg7 n7 ⊢
  have k07:=(k0.trans k6).trans k7
  have hf7:=(k7.2 b0 (by omega)).trans ((k6.2 b0 (by omega)).trans hg0)
  have hr7:=(k7.2 b6 (by omega)).trans hg6
  repeat' first | fail
  refine CV.loopc ?_
  refine WCv.rounds callees false (α:=Nat) (fun i=>[(1,lv),(2,VJ m),(3,.pointer (some ⟨b0,0,none⟩)),(6,.pointer (some ⟨b6,0,none⟩)),(7,.pointer (some ⟨b7,0,none⟩)),(8,VJ i)]) (fun i Hz=>i<=cs.length∧Hz.get b0 = some (.cells (Fl cv tv) 25 1)∧Hz.get b6 = some (.cells (Hl (0,0)) 27 1)∧Hz.get b7 = some (.cells (Hl (sumI ((G.map (·.1)).take i),sumI ((G.map (·.2)).take i))) 27 1)∧Keep H Hz∧b7 < Hz.n) (fun i=>cs.length - i) (0) (by repeat' first | exact trivial | refine ⟨rfl,?_⟩ | refine ⟨slot_int (by (try simp only [Int.toNat_natCast]); omega),?_⟩) ?_ ?_
  · exact ⟨by omega,hf7,hr7,hg7,k07,by omega⟩
  clear hf7 hr7 hg7
  rintro i Hx ⟨hi,hfx,hrx,hgx,kx,lx⟩ hBx
  have hcx:=hc.keep kx
  by_cases hi2:i < cs.length
  · have hlx:=hl.keep kx
    have s1:=sumI_bd (c:=1000) (by decide) (i:=i) hb1 (by rw [List.length_map]; omega)
    have s2:=sumI_bd (c:=1000) (by decide) (i:=i) hb2 (by rw [List.length_map]; omega)
    have e1:=sumI_take (l:=G.map (·.1)) (i:=i) (by rw [List.length_map]; omega)
    have e2:=sumI_take (l:=G.map (·.2)) (i:=i) (by rw [List.length_map]; omega)
    have gb:=hGb i hi2
    rw [map_at1 (by omega)] at e1
    rw [map_at2 (by omega)] at e2
    have ga:=hGa i hi2
    have hem:=hEo i (by omega)
    rw [emL_at hi2] at hem
    obtain ⟨a1,a2,a3,a4,a5,a6,a7,a8,a9,a10,a11,a12⟩:=hem
    obtain ⟨X1,hX1⟩:∃ X,sumI ((G.map (·.1)).take i) = X:=⟨_,rfl⟩
    obtain ⟨X2,hX2⟩:∃ X,sumI ((G.map (·.2)).take i) = X:=⟨_,rfl⟩
    rw [hX1] at e1 s1 hgx
    rw [hX2] at e2 s2 hgx
    have hla:∀ X,RowS 2 X lv ((begS (emL cs B0 B1)).map Hl)->aload Try.prog 3 X (fieldOf (elemS lv 2 i) 0) = some (VJ B0[i]!):=fun X h=>by rw [sp_a h (by omega),begS_at hi2]
    have hlb:∀ X,RowS 2 X lv ((begS (emL cs B0 B1)).map Hl)->aload Try.prog 3 X (fieldOf (elemS lv 2 i) 1) = some (VJ B1[i]!):=fun X h=>by rw [sp_b h (by omega),begS_at hi2]
    repeat' first | refine CO.cons rfl ?_ | refine CO.nil ?_ | refine CV.seq ?_ | refine CV.region callees ?_ | refine CV.cond ?_ | refine CV.block ?_ | refine CV.skip ?_ | refine ⟨_,fS foF0 (by decide),?_⟩ | refine ⟨_,cell_load ag25 hfx rfl,?_⟩ | refine ⟨_,cs_len hcx,?_⟩ | refine ⟨_,cs_addr hcx (by omega) (by omega),?_⟩ | refine ⟨_,cs_load hcx hi2,?_⟩ | refine ⟨_,_,al48,?_⟩ | (refine ⟨fun _=>?_,fun _=>?_⟩<;>try (exfalso; omega)) | fail
    generalize hs8:Heap.new Hx _ = H8
    have hg8:=new_get hs8
    have k8:=new_keep hs8
    have n8:=new_n hs8
    obtain ⟨b8,hbn8⟩:∃ b,Heap.n Hx = b:=⟨_,rfl⟩
    rw [hbn8] at hg8 n8 ⊢
    repeat' first | fail
    refine ⟨_,_,st48 hg8,by omega,?_⟩
    generalize hs9:Heap.set H8 b8 _ = H9
    have hg9:H9.get b8 = some (.cells (Col cs[i]!) 32 1):=set_get hs9
    have n9:=set_n hs9
    have o9:=set_old hs9
    obtain ⟨c,hcc⟩:∃ c,cs[i]! = c:=⟨_,rfl⟩
    have hgE:giv m (emAt cs B0 B1 i) = (if B1[i]!<=m∧m < B0[i]! + c.bl then c.hl else 0,if B0[i]!<=m∧m < B1[i]! + c.bh then c.hh else 0):=by rw [<- hcc]; rfl
    simp only [emAt] at a1 a2 a3 a4 a5 a6 a7 a8 a9 a10 a11 a12
    rw [hcc] at hg9 a5 a6 a7 a8 a9 a10 a11 a12
    rw [hgE] at ga
    have k9:Keep Hx H9:=keep_put k8 (by omega) o9 n9
    have hl9:=hlx.keep k9
    have h79:=(k9.2 b7 (by omega)).trans hgx
    obtain ⟨p,hp⟩:∃ p,B0[i]! = p:=⟨_,rfl⟩
    obtain ⟨r,hr⟩:∃ r,B1[i]! = r:=⟨_,rfl⟩
    rw [hp] at hla ga a1 a2
    rw [hr] at hlb ga a3 a4
    have zf9:=(k9.2 b0 (by omega)).trans hfx
    have zr9:=(k9.2 b6 (by omega)).trans hrx
    by_cases c1:r<=m∧m < p + c.bl
    · rw [if_pos c1] at ga
      repeat' first | refine CO.cons rfl ?_ | refine CO.nil ?_ | refine CV.seq ?_ | refine CV.region callees ?_ | refine CV.cond ?_ | refine CV.draw callees (by decide +kernel) ?_ | refine CH.cons rfl ?_ | refine CH.nil ?_ | refine CH.consG rfl ?_ | refine ⟨(⟨by omega,by omega⟩:inI64 _),?_⟩ | refine ⟨_,fS foC1 (by decide),?_⟩ | refine ⟨_,fS foC2 (by decide),?_⟩ | refine ⟨_,fS foS0 (by decide),?_⟩ | refine ⟨_,cell_load ag3 hg9 rfl,?_⟩ | refine ⟨_,sp_addr (hl9) (by omega) (by omega),?_⟩ | refine ⟨_,sp_f (hl9) foS0 (by decide) (by omega),?_⟩ | refine ⟨_,sp_f (hl9) foS1 (by decide) (by omega),?_⟩ | refine ⟨_,hla H9 (hl9),?_⟩ | refine ⟨_,hlb H9 (hl9),?_⟩ | refine ⟨_,cell_load ag3 h79 rfl,?_⟩ | (refine ⟨fun _=>?_,fun _=>?_⟩<;>try (exfalso; omega)) | fail
      refine ⟨_,_,store_row (i:=0) sz3 h79 (by show 0 < 2; decide) rfl,by omega,?_⟩
      generalize hsd:Heap.set H9 b7 _ = Hd
      have hgd:Hd.get b7 = some (.cells (Hl (X1 + c.hl,X2)) 27 1):=set_get hsd
      have nd:=set_n hsd
      have od:=set_old hsd
      have kd:KeepX b7 H9 Hd:=⟨by omega,fun x _ hx=>od x hx⟩
      have hcd:=(od b8 (by omega)).trans hg9
      have hld:=hl9.keepX kd h79
      have zfd:=(od b0 (by omega)).trans zf9
      have zrd:=(od b6 (by omega)).trans zr9
      have kxd:Keep H Hd:=keep_put (kx.trans k9) (by omega) od nd
      by_cases c2:p<=m∧m < r + c.bh
      · rw [if_pos c2] at ga
        repeat' first | refine CO.cons rfl ?_ | refine CO.nil ?_ | refine CV.seq ?_ | refine CV.region callees ?_ | refine CV.cond ?_ | refine CV.draw callees (by decide +kernel) ?_ | refine CH.cons rfl ?_ | refine CH.nil ?_ | refine CH.consG rfl ?_ | refine ⟨(⟨by omega,by omega⟩:inI64 _),?_⟩ | refine ⟨_,fS foC1 (by decide),?_⟩ | refine ⟨_,fS foC2 (by decide),?_⟩ | refine ⟨_,fS foS1 (by decide),?_⟩ | refine ⟨_,cell_load ag3 hcd rfl,?_⟩ | refine ⟨_,sp_addr (hld) (by omega) (by omega),?_⟩ | refine ⟨_,sp_f (hld) foS0 (by decide) (by omega),?_⟩ | refine ⟨_,sp_f (hld) foS1 (by decide) (by omega),?_⟩ | refine ⟨_,hla Hd (hld),?_⟩ | refine ⟨_,hlb Hd (hld),?_⟩ | refine ⟨_,cell_load ag3 hgd rfl,?_⟩ | (refine ⟨fun _=>?_,fun _=>?_⟩<;>try (exfalso; omega)) | fail
        refine ⟨_,_,store_row (i:=1) sz3 hgd (by show 1 < 2; decide) rfl,by omega,?_⟩
        generalize hse:Heap.set Hd b7 _ = He
        have hge:He.get b7 = some (.cells (Hl (X1 + c.hl,X2 + c.hh)) 27 1):=set_get hse
        have ne:=set_n hse
        have oe:=set_old hse
        have zf:=(oe b0 (by omega)).trans zfd
        have zr:=(oe b6 (by omega)).trans zrd
        have zg:=hge
        have zk:Keep H He:=keep_put kxd (by omega) oe ne
        repeat' first | refine CO.cons rfl ?_ | refine CO.nil ?_ | refine CV.region callees ?_ | refine ⟨(⟨by omega,by omega⟩:inI64 _),?_⟩ | fail
        refine ⟨(i + 1),(by repeat' first | exact trivial | refine ⟨rfl,?_⟩ | refine ⟨slot_int (by (try simp only [Int.toNat_natCast]); omega),?_⟩),(by (try dsimp only); omega),?_⟩
        exact ⟨by omega,zf,zr,by rw [e1,e2,ga]; exact zg,zk,by have:=zk.1; omega⟩
      · rw [if_neg c2] at ga
        repeat' first | refine CO.cons rfl ?_ | refine CO.nil ?_ | refine CV.seq ?_ | refine CV.region callees ?_ | refine CV.cond ?_ | refine CV.skip ?_ | refine CV.draw callees (by decide +kernel) ?_ | refine CH.cons rfl ?_ | refine CH.nil ?_ | refine CH.consG rfl ?_ | refine ⟨(⟨by omega,by omega⟩:inI64 _),?_⟩ | refine ⟨_,fS foC1 (by decide),?_⟩ | refine ⟨_,fS foS1 (by decide),?_⟩ | refine ⟨_,cell_load ag3 hcd rfl,?_⟩ | refine ⟨_,sp_addr (hld) (by omega) (by omega),?_⟩ | refine ⟨_,sp_f (hld) foS0 (by decide) (by omega),?_⟩ | refine ⟨_,sp_f (hld) foS1 (by decide) (by omega),?_⟩ | refine ⟨_,hla Hd (hld),?_⟩ | refine ⟨_,hlb Hd (hld),?_⟩ | (refine ⟨fun _=>?_,fun _=>?_⟩<;>try (exfalso; omega)) | fail
        all_goals
          have zf:=zfd
          have zr:=zrd
          have zg:Hd.get b7 = some (.cells (Hl (X1 + c.hl,X2 + 0)) 27 1):=by rw [Int.add_zero]; exact hgd
          have zk:=kxd
          repeat' first | fail
          refine ⟨(i + 1),(by repeat' first | exact trivial | refine ⟨rfl,?_⟩ | refine ⟨slot_int (by (try simp only [Int.toNat_natCast]); omega),?_⟩),(by (try dsimp only); omega),?_⟩
          exact ⟨by omega,zf,zr,by rw [e1,e2,ga]; exact zg,zk,by have:=zk.1; omega⟩
    · rw [if_neg c1] at ga
      have kx9:Keep H H9:=kx.trans k9
      by_cases c2:p<=m∧m < r + c.bh
      · rw [if_pos c2] at ga
        repeat' first | refine CO.cons rfl ?_ | refine CO.nil ?_ | refine CV.seq ?_ | refine CV.region callees ?_ | refine CV.cond ?_ | refine CV.skip ?_ | refine CV.draw callees (by decide +kernel) ?_ | refine CH.cons rfl ?_ | refine CH.nil ?_ | refine CH.consG rfl ?_ | refine ⟨(⟨by omega,by omega⟩:inI64 _),?_⟩ | refine ⟨_,fS foC1 (by decide),?_⟩ | refine ⟨_,fS foC2 (by decide),?_⟩ | refine ⟨_,fS foS0 (by decide),?_⟩ | refine ⟨_,fS foS1 (by decide),?_⟩ | refine ⟨_,cell_load ag3 hg9 rfl,?_⟩ | refine ⟨_,sp_addr (hl9) (by omega) (by omega),?_⟩ | refine ⟨_,sp_f (hl9) foS0 (by decide) (by omega),?_⟩ | refine ⟨_,sp_f (hl9) foS1 (by decide) (by omega),?_⟩ | refine ⟨_,hla H9 (hl9),?_⟩ | refine ⟨_,hlb H9 (hl9),?_⟩ | refine ⟨_,cell_load ag3 h79 rfl,?_⟩ | (refine ⟨fun _=>?_,fun _=>?_⟩<;>try (exfalso; omega)) | fail
        all_goals
          refine ⟨_,_,store_row (i:=1) sz3 h79 (by show 1 < 2; decide) rfl,by omega,?_⟩
          generalize hse:Heap.set H9 b7 _ = He
          have hge:He.get b7 = some (.cells (Hl (X1,X2 + c.hh)) 27 1):=set_get hse
          have ne:=set_n hse
          have oe:=set_old hse
          have zf:=(oe b0 (by omega)).trans zf9
          have zr:=(oe b6 (by omega)).trans zr9
          have zg:He.get b7 = some (.cells (Hl (X1 + 0,X2 + c.hh)) 27 1):=by rw [Int.add_zero]; exact hge
          have zk:Keep H He:=keep_put kx9 (by omega) oe ne
          repeat' first | refine CO.cons rfl ?_ | refine CO.nil ?_ | refine CV.region callees ?_ | refine ⟨(⟨by omega,by omega⟩:inI64 _),?_⟩ | fail
          refine ⟨(i + 1),(by repeat' first | exact trivial | refine ⟨rfl,?_⟩ | refine ⟨slot_int (by (try simp only [Int.toNat_natCast]); omega),?_⟩),(by (try dsimp only); omega),?_⟩
          exact ⟨by omega,zf,zr,by rw [e1,e2,ga]; exact zg,zk,by have:=zk.1; omega⟩
      · rw [if_neg c2] at ga
        repeat' first | refine CO.cons rfl ?_ | refine CO.nil ?_ | refine CV.seq ?_ | refine CV.region callees ?_ | refine CV.cond ?_ | refine CV.skip ?_ | refine CV.draw callees (by decide +kernel) ?_ | refine CH.cons rfl ?_ | refine CH.nil ?_ | refine CH.consG rfl ?_ | refine ⟨(⟨by omega,by omega⟩:inI64 _),?_⟩ | refine ⟨_,fS foC1 (by decide),?_⟩ | refine ⟨_,fS foS0 (by decide),?_⟩ | refine ⟨_,fS foS1 (by decide),?_⟩ | refine ⟨_,cell_load ag3 hg9 rfl,?_⟩ | refine ⟨_,sp_addr (hl9) (by omega) (by omega),?_⟩ | refine ⟨_,sp_f (hl9) foS0 (by decide) (by omega),?_⟩ | refine ⟨_,sp_f (hl9) foS1 (by decide) (by omega),?_⟩ | refine ⟨_,hla H9 (hl9),?_⟩ | refine ⟨_,hlb H9 (hl9),?_⟩ | (refine ⟨fun _=>?_,fun _=>?_⟩<;>try (exfalso; omega)) | fail
        all_goals
          have zf:=zf9
          have zr:=zr9
          have zg:H9.get b7 = some (.cells (Hl (X1 + 0,X2 + 0)) 27 1):=by rw [Int.add_zero,Int.add_zero]; exact h79
          have zk:=kx9
          repeat' first | fail
          refine ⟨(i + 1),(by repeat' first | exact trivial | refine ⟨rfl,?_⟩ | refine ⟨slot_int (by (try simp only [Int.toNat_natCast]); omega),?_⟩),(by (try dsimp only); omega),?_⟩
          exact ⟨by omega,zf,zr,by rw [e1,e2,ga]; exact zg,zk,by have:=zk.1; omega⟩
  have hie:i = cs.length:=by omega
  rw [hie,<- hGl,<- List.length_map (f:=(·.1)),List.take_length,List.length_map,<- List.length_map (f:=(·.2)),List.take_length] at hgx
  repeat' first | refine CO.cons rfl ?_ | refine CO.nil ?_ | refine CV.seq ?_ | refine CV.region callees ?_ | refine CV.cond ?_ | refine CV.exit ?_ | refine ⟨_,fS foF0 (by decide),?_⟩ | refine ⟨_,cell_load ag25 hfx rfl,?_⟩ | refine ⟨_,cs_len hcx,?_⟩ | refine ⟨_,ld41 hgx,?_⟩ | (refine ⟨fun _=>?_,fun _=>?_⟩<;>try (exfalso; omega)) | fail
  refine ⟨_,_,st41 hrx,by omega,?_⟩
  generalize hsz:Heap.set Hx b6 _ = Hz
  have hgz:Hz.get b6 = some (.cells (Hl (sumI (G.map (·.1)),sumI (G.map (·.2)))) 27 1):=set_get hsz
  have nz:=set_n hsz
  have oz:=set_old hsz
  repeat' first | refine CO.nil ?_ | refine CV.ret ?_ | fail
  exact ⟨_,ld41 hgz,rfl,rfl,keep_put kx (by omega) oz nz⟩
end Go.Proofs.Ytglkphjjinmgmaa
