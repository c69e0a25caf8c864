/- The reference's beginnings: the walk. -/
import Derived.Test.Ytglkphjjinmgmaaq3h
set_option linter.unusedVariables false
set_option linter.unusedSimpArgs false
namespace Go.Proofs.Ytglkphjjinmgmaa
open Go.AI
theorem fv_same {e e':TypeId} {H H':Heap} {u v:Value} {us vs:List Value} {B B':Nat} (h1:Own e H u us B) (h2:Own e' H' v vs B'):sameFix (Fv u v) (Fv u v) = true:=by
  rcases h1 with ⟨rfl,_⟩ | ⟨b,rfl,_⟩<;>rcases h2 with ⟨rfl,_⟩ | ⟨c,rfl,_⟩<;>simp [sameFix,sameFixL,sameFix1]
theorem keep_but {x:Value} {H H':Heap} (k:Keep H H'):KeepBut x H H':=⟨k.1,fun c hc _=>k.2 c hc⟩
set_option maxHeartbeats 4000000 in
set_option maxRecDepth 100000 in
theorem spread_spec {B B0:Nat} {H:Heap} {av u v:Value} {A:List Int} {cs:List Co} {e f t:Int} (hB:B<=B0) (hBn:B0<=H.n) (hA:Own 3 H av (A.map VJ) B0) (hu:Ints H u (cs.map (ca e))) (hv:Ints H v (cs.map (bu e))) (huc:u.cells.toList = [u]) (hvc:v.cells.toList = [v]) (hAl:A.length = cs.length) (hn12:cs.length<=12) (hf:0<=f∧f < cs.length) (ht:0<=t∧t < cs.length) (hlo:∀ i:Nat,i < A.length->0<=A[i]!∧A[i]!<=1000000) (hca:1<=ca e (coAt cs t)∧ca e (coAt cs t)<=300) :
    CallB Try.prog B 104 [Fv u v,av,VJ f,VJ t] H (fun r H'=>(∃ w A',r = .bool w∧OneWay e cs A f t A' w∧Own 3 H' av (A'.map VJ) B0)∧KeepBut av H H'):=by
  have hB2:B<=H.n:=by omega
  have e1:(cs.map (ca e))[t.toNat]! = ca e (coAt cs t):=map_at (by omega)
  have e2:(cs.map (bu e))[f.toNat]! = bu e (coAt cs f):=map_at (by omega)
  have hsp:SpC e cs A f t ↔ (A[f.toNat]! < 1000000∧ca e (coAt cs t)<=bu e (coAt cs f)∧A[f.toNat]! + ca e (coAt cs t) < A[t.toNat]!):=Iff.rfl
  have lf:=hlo f.toNat (by omega)
  have lt:=hlo t.toNat (by omega)
  have hml:(cs.map (ca e)).length = cs.length:=List.length_map _
  have hmr:(cs.map (bu e)).length = cs.length:=List.length_map _
  refine CV.enter callees false rfl Try.func104 rfl (by kernel_rfl) (Nat.le_of_ble_eq_true rfl) hB2 ?_
  repeat' first | refine CO.cons rfl ?_ | refine CV.seq ?_ | refine CV.region callees ?_ | fail
  refine ⟨(by simp only [notTuple]),?_⟩
  rw [allocRv huc hvc]
  generalize hs0:Heap.new H _ = H0
  have hg0:=new_get hs0
  have k0:=new_keep hs0
  have n0:=new_n hs0
  obtain ⟨b0,hbn0⟩:∃ b,Heap.n H = b:=⟨_,rfl⟩
  rw [hbn0] at hg0 n0 ⊢
  have hA0:=hA.keep k0
  have hI0:Ints H0 av A:=hA0.row
  have hu0:Ints H0 u (cs.map (ca e)):=Row.keep hu k0
  have hv0:Ints H0 v (cs.map (bu e)):=Row.keep hv k0
  by_cases hs:A[f.toNat]! < 1000000∧ca e (coAt cs t)<=bu e (coAt cs f)∧A[f.toNat]! + ca e (coAt cs t) < A[t.toNat]!
  · obtain ⟨s1,s2,s3⟩:=hs
    repeat' first | refine CO.cons rfl ?_ | refine CO.nil ?_ | refine CV.seq ?_ | refine CV.cond ?_ | refine CV.skip ?_ | refine CV.draw callees (by decide +kernel) ?_ | refine CH.cons rfl ?_ | refine CH.nil ?_ | refine CH.consG rfl ?_ | refine ⟨_,ints_addr (by assumption) (by omega) (by omega),?_⟩ | refine ⟨_,ints_load (by assumption) (by omega) (by omega),?_⟩ | refine ⟨(⟨by omega,by omega⟩:inI64 _),?_⟩ | refine ⟨_,fS foR0 (by decide),?_⟩ | refine ⟨_,fS foR1 (by decide),?_⟩ | refine ⟨_,cell_load ag22h hg0 rfl,?_⟩ | (refine ⟨fun _=>?_,fun _=>?_⟩<;>try (exfalso; omega)) | fail
    rw [e1]
    refine put_ask (y:=A[f.toNat]! + ca e (coAt cs t)) hA0 (by omega) (by omega) ?_
    intro Ha hoa kba
    repeat' first | refine CO.cons rfl ?_ | refine CO.nil ?_ | refine CV.seq ?_ | refine CV.region callees ?_ | refine CV.ret ?_ | refine CH.nil ?_ | fail
    exact ⟨rfl,⟨true,A.set t.toNat (A[f.toNat]! + ca e (coAt cs t)),rfl,⟨fun _=>⟨⟨s1,s2,s3⟩,rfl⟩,fun h=>by cases h⟩,hoa⟩,⟨by have:=kba.le; omega,fun c hc hne=>(kba.get c (by omega) hne).trans (k0.2 c hc)⟩⟩
  · have hno:OneWay e cs A f t A false:=⟨fun h=>(by cases h),fun _=>⟨hs,rfl⟩⟩
    repeat' first | refine CO.cons rfl ?_ | refine CO.nil ?_ | refine CV.seq ?_ | refine CV.region callees ?_ | refine CV.cond ?_ | refine CV.ret ?_ | refine CV.draw callees (by decide +kernel) ?_ | refine CH.cons rfl ?_ | refine CH.nil ?_ | refine CH.consG rfl ?_ | refine ⟨_,ints_addr (by assumption) (by omega) (by omega),?_⟩ | refine ⟨_,ints_load (by assumption) (by omega) (by omega),?_⟩ | refine ⟨(⟨by omega,by omega⟩:inI64 _),?_⟩ | refine ⟨_,fS foR0 (by decide),?_⟩ | refine ⟨_,fS foR1 (by decide),?_⟩ | refine ⟨_,cell_load ag22h hg0 rfl,?_⟩ | (refine ⟨fun _=>?_,fun _=>?_⟩<;>try (exfalso; omega)) | fail
    all_goals exact ⟨rfl,⟨false,A,rfl,hno,hA0⟩,keep_but k0⟩
theorem init_take {cs:List Co} {i:Nat} (h:i < cs.length):(initB cs).take i ++ [bif cs[i]!.lt then 0 else 1000000] = (initB cs).take (i + 1):=by
  have h2:i < (initB cs).length:=by simp [initB,h]
  rw [List.take_succ_eq_append_getElem h2,<- initB_at h,getElem!_pos _ i h2]
theorem init_len {cs:List Co}:(initB cs).length = cs.length:=by simp [initB]
set_option maxHeartbeats 8000000 in
set_option maxRecDepth 100000 in
theorem times_spec {B:Nat} {H:Heap} {cv tv u v:Value} {cs:List Co} {ts:List (Int × Int)} {e:Int} {Bs:List Int} (hB:B<=H.n) (hc:RowS 7 H cv (cs.map Col)) (ht:RowS 2 H tv (ts.map Hl)) (hu:Ints H u (cs.map (ca e))) (hv:Ints H v (cs.map (bu e))) (hfs:sameFix (Fv u v) (Fv u v) = true) (hf:FOk cs ts) (hb:IsBeg e cs ts Bs) :
    CallB Try.prog B 94 [Fv cv tv,Fv u v] H (fun r H'=>Own 3 H' r (Bs.map VJ) H.n∧Keep H H'):=by
  have hn12:=hf.n
  have hm40:=hf.m
  have huc:=row_cells hu
  have hvc:=row_cells hv
  refine CV.enter callees false rfl Try.func94 rfl (by kernel_rfl) (Nat.le_of_ble_eq_true rfl) hB ?_
  repeat' first | refine CO.cons rfl ?_ | refine CV.seq ?_ | refine CV.region callees ?_ | fail
  refine ⟨(by simp only [notTuple]),?_⟩
  rw [allocFv hc.cells.1 ht.cells.1]
  generalize hs0:Heap.new H _ = H0
  have hg0:=new_get hs0
  have k0:=new_keep hs0
  have n0:=new_n hs0
  obtain ⟨b0,hbn0⟩:∃ b,Heap.n H = b:=⟨_,rfl⟩
  rw [hbn0] at hg0 n0 ⊢
  repeat' first | refine CO.cons rfl ?_ | fail
  refine ⟨(by simp only [notTuple]),?_⟩
  rw [allocRv huc hvc]
  generalize hs1:Heap.new H0 _ = H1
  have hg1:=new_get hs1
  have k1:=new_keep hs1
  have n1:=new_n hs1
  obtain ⟨b1,hbn1⟩:∃ b,Heap.n H0 = b:=⟨_,rfl⟩
  rw [hbn1] at hg1 n1 ⊢
  have k01:=k0.trans k1
  have hf1:=(k1.2 b0 (by omega)).trans hg0
  obtain ⟨bn,hbnn⟩:∃ bn,H1.n = bn:=⟨_,rfl⟩
  repeat' first | refine CO.cons rfl ?_ | refine CO.nil ?_ | refine CV.seq ?_ | refine CV.region callees ?_ | refine CV.block ?_ | fail
  refine CV.loopc ?_
  refine WCv.rounds callees false (α:=Nat × Value) (fun (i,q)=>[(2,.pointer (some ⟨b0,0,none⟩)),(3,.pointer (some ⟨b1,0,none⟩)),(5,q),(6,VJ i)]) (fun (i,q) Hz=>i<=cs.length∧Own 3 Hz q (((initB cs).take i).map VJ) bn∧Keep H1 Hz) (fun (i,q)=>cs.length - i) (0,nilS) (by repeat' first | exact trivial | refine ⟨rfl,?_⟩ | refine ⟨slot_int (by (try simp only [Int.toNat_natCast]); omega),?_⟩) ?_ ?_
  · exact ⟨by omega,.inl ⟨rfl,rfl⟩,Keep.refl _⟩
  rintro ⟨i,q⟩ Hx ⟨hi,hq,kx⟩ hBx
  have lx:=kx.1
  have hfx:=(kx.2 b0 (by omega)).trans hf1
  have hcx:=(hc.keep k01).keep kx
  by_cases hi2:i < cs.length
  · have htk:=init_take hi2
    have htl:((initB cs).take i).length<=12:=by rw [List.length_take]; omega
    cases hlt:cs[i]!.lt with
    | true =>
      rw [hlt] at htk
      have hld:aload Try.prog 4 Hx (fieldOf (elemS cv 7 i) 6) = some (.bool true):=by rw [cs_lit hcx hi2,hlt]
      repeat' first | refine CO.cons rfl ?_ | refine CO.nil ?_ | refine CV.seq ?_ | refine CV.region callees ?_ | refine CV.cond ?_ | refine CV.block ?_ | refine CV.skip ?_ | refine ⟨_,fS foF0 (by decide),?_⟩ | refine ⟨_,cell_load ag25 hfx rfl,?_⟩ | refine ⟨_,cs_len hcx,?_⟩ | refine ⟨_,cs_addr hcx (by omega) (by omega),?_⟩ | refine ⟨_,cs_f hcx foC3 (by decide) hi2,?_⟩ | refine ⟨_,hld,?_⟩ | (refine ⟨fun _=>?_,fun _=>?_⟩<;>try (exfalso; omega)) | fail
      refine ⟨_,_,build_one un22 one3 rfl,?_⟩
      repeat' first | refine CO.cons rfl ?_ | fail
      refine push_ask (y:=0) hq (by omega) (by omega) (by omega) ?_
      intro q2 Hq hq2 kbq fq
      have lq:=kbq.le
      rw [show ((initB cs).take i ++ [(0:Int)]) = (initB cs).take (i + 1) from htk] at hq2
      repeat' first | refine CO.cons rfl ?_ | refine CO.nil ?_ | refine CV.region callees ?_ | refine ⟨(⟨by omega,by omega⟩:inI64 _),?_⟩ | fail
      refine ⟨(i + 1,q2),(by repeat' first | exact trivial | refine ⟨rfl,?_⟩ | refine ⟨slot_int (by (try simp only [Int.toNat_natCast]); omega),?_⟩),(by (try dsimp only); omega),?_⟩
      exact ⟨by omega,hq2,kbq.keep kx fun c hc=>by have:=(hq.lt hc).1; omega⟩
    | false =>
      rw [hlt] at htk
      have hld:aload Try.prog 4 Hx (fieldOf (elemS cv 7 i) 6) = some (.bool false):=by rw [cs_lit hcx hi2,hlt]
      repeat' first | refine CO.cons rfl ?_ | refine CO.nil ?_ | refine CV.seq ?_ | refine CV.region callees ?_ | refine CV.cond ?_ | refine CV.block ?_ | refine CV.skip ?_ | refine ⟨_,fS foF0 (by decide),?_⟩ | refine ⟨_,cell_load ag25 hfx rfl,?_⟩ | refine ⟨_,cs_len hcx,?_⟩ | refine ⟨_,cs_addr hcx (by omega) (by omega),?_⟩ | refine ⟨_,cs_f hcx foC3 (by decide) hi2,?_⟩ | refine ⟨_,hld,?_⟩ | (refine ⟨fun _=>?_,fun _=>?_⟩<;>try (exfalso; omega)) | fail
      refine ⟨_,_,build_one un22 one3 rfl,?_⟩
      repeat' first | refine CO.cons rfl ?_ | fail
      refine push_ask (y:=1000000) hq (by omega) (by omega) (by omega) ?_
      intro q2 Hq hq2 kbq fq
      have lq:=kbq.le
      rw [show ((initB cs).take i ++ [(1000000:Int)]) = (initB cs).take (i + 1) from htk] at hq2
      repeat' first | refine CO.cons rfl ?_ | refine CO.nil ?_ | refine CV.region callees ?_ | refine ⟨(⟨by omega,by omega⟩:inI64 _),?_⟩ | fail
      refine ⟨(i + 1,q2),(by repeat' first | exact trivial | refine ⟨rfl,?_⟩ | refine ⟨slot_int (by (try simp only [Int.toNat_natCast]); omega),?_⟩),(by (try dsimp only); omega),?_⟩
      exact ⟨by omega,hq2,kbq.keep kx fun c hc=>by have:=(hq.lt hc).1; omega⟩
  have hie:i = cs.length:=by omega
  rw [hie,show (initB cs).take cs.length = initB cs by rw [<- init_len,List.take_length]] at hq
  repeat' first | refine CO.cons rfl ?_ | refine CO.nil ?_ | refine CV.seq ?_ | refine CV.region callees ?_ | refine CV.cond ?_ | refine CV.block ?_ | refine CV.exit ?_ | refine ⟨_,fS foF0 (by decide),?_⟩ | refine ⟨_,cell_load ag25 hfx rfl,?_⟩ | refine ⟨_,cs_len hcx,?_⟩ | (refine ⟨fun _=>?_,fun _=>?_⟩<;>try (exfalso; omega)) | fail
  have hqb:∀ c,blkOf q = some c->bn<=c:=fun c hc=>(hq.lt hc).1
  have tt1:Bool.toNat true = 1:=rfl
  have tt0:Bool.toNat false = 0:=rfl
  refine CV.loopc ?_
  refine WCv.rounds callees false (α:=List Int × Bool) (fun (A,more)=>[(2,.pointer (some ⟨b0,0,none⟩)),(3,.pointer (some ⟨b1,0,none⟩)),(5,q),(7,.bool more)]) (fun (A,more) Hz=>Pre e cs ts A∧(more = false->IsBeg e cs ts A)∧Own 3 Hz q (A.map VJ) bn∧Keep H1 Hz) (fun (A,more)=>(2 * sumI A).toNat + more.toNat) (initB cs,true) (by repeat' first | exact trivial | refine ⟨rfl,?_⟩ | refine ⟨slot_int (by (try simp only [Int.toNat_natCast]); omega),?_⟩) ?_ ?_
  · exact ⟨pre_init,fun h=>(by cases h),hq,kx⟩
  clear hq kx hfx hcx lx hBx
  rintro ⟨A,more⟩ Hx ⟨hpr,hbe,hq,kx⟩ hBx
  have lx:=kx.1
  cases more with
  | false =>
    obtain rfl:=IsBeg.one hf (hbe rfl) hb
    repeat' first | refine CO.cons rfl ?_ | refine CO.nil ?_ | refine CV.seq ?_ | refine CV.region callees ?_ | refine CV.cond ?_ | refine CV.exit ?_ | refine CV.ret ?_ | fail
    exact ⟨by simp only [List.all_cons,List.all_nil,hq.notTuple]; rfl,hq.lower (by omega),k01.trans kx⟩
  | true =>
    repeat' first | refine CO.cons rfl ?_ | refine CO.nil ?_ | refine CV.seq ?_ | refine CV.region callees ?_ | refine CV.cond ?_ | refine CV.block ?_ | refine CV.skip ?_ | fail
    refine CV.loopc ?_
    refine WCv.rounds callees false (α:=Nat × List Int × Bool) (fun (j,A',more)=>[(2,.pointer (some ⟨b0,0,none⟩)),(3,.pointer (some ⟨b1,0,none⟩)),(5,q),(7,.bool more),(8,VJ j)]) (fun (j,A',more) Hz=>j<=ts.length∧Look e cs ts A j A' more∧Own 3 Hz q (A'.map VJ) bn∧Keep H1 Hz) (fun (j,A',more)=>ts.length - j) (0,A,false) (by repeat' first | exact trivial | refine ⟨rfl,?_⟩ | refine ⟨slot_int (by (try simp only [Int.toNat_natCast]); omega),?_⟩) ?_ ?_
    · exact ⟨by omega,⟨hpr,Int.le_refl _,fun h=>(by cases h),fun _=>⟨rfl,fun k hk=>by omega⟩⟩,hq,kx⟩
    clear hq kx hBx lx hbe
    rintro ⟨j,A',more⟩ Hy ⟨hj,hlk,hq,ky⟩ hBy
    have ly:=ky.1
    have hfy:=(ky.2 b0 (by omega)).trans hf1
    have hgy:=(ky.2 b1 (by omega)).trans hg1
    have hty:=(ht.keep k01).keep ky
    by_cases hj2:j < ts.length
    · have hti:=hf.t j hj2
      repeat' first | refine CO.cons rfl ?_ | refine CO.nil ?_ | refine CV.seq ?_ | refine CV.region callees ?_ | refine CV.cond ?_ | refine CV.block ?_ | refine CV.skip ?_ | refine ⟨_,fS foF1 (by decide),?_⟩ | refine ⟨_,cell_load ag26 hfy rfl,?_⟩ | refine ⟨_,ts_len hty,?_⟩ | refine ⟨_,ts_addr hty (by omega) (by omega),?_⟩ | refine ⟨_,ts_load hty hj2,?_⟩ | refine ⟨_,_,al82,?_⟩ | (refine ⟨fun _=>?_,fun _=>?_⟩<;>try (exfalso; omega)) | fail
      generalize hs2:Heap.new Hy _ = H2
      have hg2:=new_get hs2
      have k2:=new_keep hs2
      have n2:=new_n hs2
      obtain ⟨b2,hbn2⟩:∃ b,Heap.n Hy = b:=⟨_,rfl⟩
      rw [hbn2] at hg2 n2 ⊢
      repeat' first | fail
      refine ⟨_,_,st82 hg2,by omega,?_⟩
      generalize hs3:Heap.set H2 b2 _ = H3
      have hg3:H3.get b2 = some (.cells (Hl ts[j]!) 99 1):=set_get hs3
      have n3:=set_n hs3
      have o3:=set_old hs3
      have k3:Keep Hy H3:=keep_put k2 (by omega) o3 n3
      have l3:=k3.1
      have hB3:=(k3.2 b1 (by omega)).trans hgy
      have hq3:=hq.keep k3
      have hu3:Ints H3 u (cs.map (ca e)):=Row.keep (Row.keep (Row.keep hu k01) ky) k3
      have hv3:Ints H3 v (cs.map (bu e)):=Row.keep (Row.keep (Row.keep hv k01) ky) k3
      have p0:=hlk.pre
      have c1:=ca_pos (e:=e) hf hti.1.1 hti.1.2
      have c2:=ca_pos (e:=e) hf hti.2.1.1 hti.2.1.2
      repeat' first | refine CO.nil ?_ | refine CV.seq ?_ | refine CR.cons ?_ | refine CV.wideR callees (by decide +kernel) [(0,[]),(1,[]),(2,[]),(3,[]),(4,[]),(5,[]),(7,[]),(8,[]),(9,[]),(10,[]),(11,[]),(12,[]),(6,[12,10,7]),(13,[]),(14,[]),(15,[])] (by kernel_rfl) ?_ | refine ⟨_,fS foT0 (by decide),?_⟩ | refine ⟨_,fS foT1 (by decide),?_⟩ | refine ⟨_,cell_load ag3 hg3 rfl,?_⟩ | refine ⟨_,ld31 hB3,?_⟩ | fail
      refine (spread_spec (B0:=bn) (by omega) (by omega) hq3 hu3 hv3 huc hvc p0.len hn12 hti.1 hti.2.1 p0.lo c2).mono ?_
      rintro r H4 ⟨⟨w1,A1,rfl,hw1,hq4⟩,kb4⟩
      have l4:=kb4.le
      obtain ⟨p1,_,_⟩:=hw1.pre hf (.inl (mem_at2 hj2)) p0
      have hg4:=(kb4.get b2 (by omega) (fun h=>by have:=(hq3.lt h).2; have:=(hq.lt h).2; omega)).trans hg3
      have hB4:=(kb4.get b1 (by omega) (fun h=>by have:=hqb _ h; omega)).trans hB3
      have k4:Keep H1 H4:=kb4.keep (ky.trans k3) (fun c hc=>by have:=hqb c hc; omega)
      have hu4:Ints H4 u (cs.map (ca e)):=Row.keep (Row.keep hu k01) k4
      have hv4:Ints H4 v (cs.map (bu e)):=Row.keep (Row.keep hv k01) k4
      repeat' first | refine CR.cons ?_ | refine ⟨_,cell_load ag3 hg4 rfl,?_⟩ | refine ⟨(rfl:_ = Value.int _ _),?_⟩ | refine ⟨same_int,?_⟩ | refine ⟨_,ld31 hB4,?_⟩ | refine ⟨(rfl:_ = Fv u v),?_⟩ | refine ⟨hfs,?_⟩ | fail
      refine (spread_spec (B0:=bn) (by omega) (by omega) hq4 hu4 hv4 huc hvc p1.len hn12 hti.2.1 hti.1 p1.lo c1).mono ?_
      rintro r H5 ⟨⟨w2,A2,rfl,hw2,hq5⟩,kb5⟩
      have l5:=kb5.le
      have k5:Keep H1 H5:=kb5.keep k4 (fun c hc=>by have:=hqb c hc; omega)
      have hL:=hlk.next hf hj2 hw1 hw2
      cases more<;>cases w1<;>cases w2
      · repeat' first | refine CO.cons rfl ?_ | refine CO.nil ?_ | refine CV.region callees ?_ | refine CO.consG rfl ?_ | refine CR.cons ?_ | refine CR.nil ?_ | refine ⟨(⟨by omega,by omega⟩:inI64 _),?_⟩ | fail
        refine ⟨(j + 1,A2,false),(by repeat' first | exact trivial | refine ⟨rfl,?_⟩ | refine ⟨slot_int (by (try simp only [Int.toNat_natCast]); omega),?_⟩),(by (try dsimp only); omega),?_⟩
        exact ⟨by omega,hL,hq5,k5⟩
      all_goals
        repeat' first | refine CO.cons rfl ?_ | refine CO.nil ?_ | refine CV.region callees ?_ | refine CO.consG rfl ?_ | refine CR.cons ?_ | refine CR.nil ?_ | refine ⟨(⟨by omega,by omega⟩:inI64 _),?_⟩ | fail
        refine ⟨(j + 1,A2,true),(by repeat' first | exact trivial | refine ⟨rfl,?_⟩ | refine ⟨slot_int (by (try simp only [Int.toNat_natCast]); omega),?_⟩),(by (try dsimp only); omega),?_⟩
        exact ⟨by omega,hL,hq5,k5⟩
    have hje:j = ts.length:=by omega
    have hle:=hlk.le
    have hnn:=sumI_nonneg (fun i hi=>(hlk.pre.lo i hi).1)
    cases more with
    | false =>
      repeat' first | refine CO.cons rfl ?_ | refine CO.nil ?_ | refine CV.seq ?_ | refine CV.region callees ?_ | refine CV.cond ?_ | refine CV.exit ?_ | refine ⟨_,fS foF1 (by decide),?_⟩ | refine ⟨_,cell_load ag26 hfy rfl,?_⟩ | refine ⟨_,ts_len hty,?_⟩ | (refine ⟨fun _=>?_,fun _=>?_⟩<;>try (exfalso; omega)) | fail
      refine ⟨(A',false),(by repeat' first | exact trivial | refine ⟨rfl,?_⟩ | refine ⟨slot_int (by (try simp only [Int.toNat_natCast]); omega),?_⟩),(by (try dsimp only); omega),?_⟩
      exact ⟨hlk.pre,fun _=>hlk.pre.isBeg hf fun k hk=>by obtain ⟨rfl,h⟩:=hlk.no rfl; exact h k (by omega),hq,ky⟩
    | true =>
      have hlt:=hlk.yes rfl
      repeat' first | refine CO.cons rfl ?_ | refine CO.nil ?_ | refine CV.seq ?_ | refine CV.region callees ?_ | refine CV.cond ?_ | refine CV.exit ?_ | refine ⟨_,fS foF1 (by decide),?_⟩ | refine ⟨_,cell_load ag26 hfy rfl,?_⟩ | refine ⟨_,ts_len hty,?_⟩ | (refine ⟨fun _=>?_,fun _=>?_⟩<;>try (exfalso; omega)) | fail
      refine ⟨(A',true),(by repeat' first | exact trivial | refine ⟨rfl,?_⟩ | refine ⟨slot_int (by (try simp only [Int.toNat_natCast]); omega),?_⟩),(by (try dsimp only); omega),?_⟩
      exact ⟨hlk.pre,fun h=>(by cases h),hq,ky⟩
end Go.Proofs.Ytglkphjjinmgmaa
