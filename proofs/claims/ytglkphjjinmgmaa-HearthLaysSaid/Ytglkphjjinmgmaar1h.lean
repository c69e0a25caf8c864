/- Minutes,handed out one by one,for whatever pours. -/
import Derived.Test.YtglkphjjinmgmaaM3h
import Derived.Test.Ytglkphjjinmgmaaq7h
set_option linter.unusedVariables false
set_option linter.unusedSimpArgs false
namespace Go.Proofs.Ytglkphjjinmgmaa
open Go.AI
set_option maxHeartbeats 8000000 in
set_option maxRecDepth 100000 in
theorem minutes1N_spec {B l bb last:Nat} {k:Ke} {ev pv:Value} {E:List Em} {ps:List Po} {H:Heap} (J:Nat->Nat->Heap->Prop) (D:Heap->Prop) (hB:B<=H.n) (hl:l < H.n) (hbb:bb + 1 < l) (hlast:last<=300) (hk:KOk k) (hn:E.length<=12) (hE:∀ i,i < E.length->EmOk E[i]!) (hp:POk k.wa ps)
    (h00:H.get bb = some (.cells (Bol k ev pv) 116 1)∧H.get (bb + 1) = some (.cells [VJ last] 3 1)) (hJ0:∀ b H',Keep H H'->H.n<=b->b < H'.n->J b 0 H') (hJs:∀ b m H H',J b m H->b < H.n->KeepX b H H'->J b m H')
    (hJb:∀ b m H,J b m H->H.get bb = some (.cells (Bol k ev pv) 116 1)∧H.get (bb + 1) = some (.cells [VJ last] 3 1)∧RowS 6 H ev (E.map Eml)∧RowS 3 H pv (ps.map Pol))
    (hY:∀ b m H1,m<=last->J b m H1->l < H1.n->b < H1.n->B<=H1.n->RoundB Try.prog B l [VJ (m:Int),Hv (warmM k E ps m)] H1 (fun r H2=>(r = .bool true∧J b (m + 1) H2 ∨ r = .bool false∧D H2)∧H2.get b = H1.get b∧H1.n<=H2.n)) :
    CallB Try.prog B 97 [.func (.yield l) #[] #[],.pointer (some ⟨bb,0,none⟩),.pointer (some ⟨bb + 1,0,none⟩)] H (fun _ H'=>(∃ b,J b (last + 1) H') ∨ D H'):=by
  have hn20:=hp.n
  obtain ⟨g1,g2⟩:=h00
  refine CV.enter callees false rfl Try.func97 rfl (by kernel_rfl) (Nat.le_of_ble_eq_true rfl) hB ?_
  repeat' first | refine CV.seq ?_ | fail
  repeat' first | refine CR.cons (es:=[]) ?_ | refine CR.call ?_ | refine CV.al callees rfl 10 [(0,[]),(1,[]),(2,[]),(3,[]),(4,[]),(5,[]),(8,[]),(9,[]),(6,[9,2]),(7,[]),(10,[7,9,2]),(11,[9]),(12,[])] (by kernel_rfl) rfl al117 ?_ | refine ⟨_,fS foB0 (by decide),?_⟩ | refine ⟨_,fS foK0 (by decide),?_⟩ | refine ⟨_,fS foK1 (by decide),?_⟩ | refine ⟨_,fS foB2 (by decide),?_⟩ | refine ⟨_,cell_load ag3 g1 rfl,?_⟩ | refine ⟨_,agg_load ag41 sz41 g1 (Nat.le_of_ble_eq_true rfl),?_⟩ | fail
  refine (knownOf_spec (p:=(k.wl,k.wh)) (Nat.le_refl _)).mono ?_
  rintro r H1 ⟨rfl,k1⟩
  have l1:=k1.1
  have g11:=(k1.2 bb (by omega)).trans g1
  have g21:=(k1.2 (bb + 1) (by omega)).trans g2
  repeat' first | refine CR.cons ?_ | refine ⟨_,bu117,?_⟩ | refine ⟨_,_,al117,?_⟩ | fail
  generalize hs2:Heap.new H1 _ = H2
  have hg2:=new_get hs2
  have k2:=new_keep hs2
  have n2:=new_n hs2
  obtain ⟨b2,hbn2⟩:∃ b,Heap.n H1 = b:=⟨_,rfl⟩
  rw [hbn2] at hg2 n2 ⊢
  have g12:=(k2.2 bb (by omega)).trans g11
  have g22:=(k2.2 (bb + 1) (by omega)).trans g21
  repeat' first | refine ⟨_,cell_load ag53 g12 rfl,?_⟩ | refine ⟨(show bb ≠ b2 by omega),?_⟩ | fail
  refine ⟨_,_,st117 hg2,by omega,?_⟩
  generalize hs3:Heap.set H2 b2 _ = H3
  have hg3:H3.get b2 = some (.cells (Wtl ⟨k.wa,k.wl,k.wh⟩) 138 1):=set_get hs3
  have n3:=set_n hs3
  have o3:=set_old hs3
  have k3:Keep H H3:=keep_put (k1.trans k2) (by omega) o3 n3
  have g23:=(o3 (bb + 1) (by omega)).trans g22
  have hJ3:=hJ0 b2 H3 k3 (by omega) (by omega)
  repeat' first | refine CO.cons rfl ?_ | refine CO.nil ?_ | refine CV.seq ?_ | refine CV.region callees ?_ | refine CV.block ?_ | refine CR.cons ?_ | refine CR.nil ?_ | refine ⟨(⟨by omega,by omega⟩:inI64 _),?_⟩ | refine ⟨_,cell_load ag3 g23 rfl,?_⟩ | fail
  refine CV.loopc ?_
  refine WCv.rounds callees false (α:=Nat × Nat × Wt × Value) (fun (m,j,w,v)=>[(0,.func (.yield l) #[] #[]),(1,.pointer (some ⟨bb,0,none⟩)),(4,.pointer (some ⟨b2,0,none⟩)),(5,v),(18,VJ ((last:Int) + 1)),(19,VJ m)]) (fun (m,j,w,v) Hz=>m<=last + 1∧J b2 m Hz∧l < Hz.n∧b2 < Hz.n∧Hz.get b2 = some (.cells (Wtl w) 138 1)∧befM k E ps m = (w,ps.drop j)∧WS k ps j w∧(∀ Hq,RowS 3 Hq pv (ps.map Pol)->RowS 3 Hq v ((ps.drop j).map Pol))) (fun (m,j,w,v)=>last + 1 - m) (0,0,⟨k.wa,k.wl,k.wh⟩,pv) (by repeat' first | exact trivial | refine ⟨rfl,?_⟩ | refine ⟨slot_int (by (try simp only [Int.toNat_natCast]); omega),?_⟩) ?_ ?_
  · exact ⟨by omega,hJ3,by omega,by omega,hg3,rfl,WS.zero hk,fun Hq h=>h⟩
  clear hJ3 g23 hg3 k3 g12 g22 g11 g21 g1 g2 hJ0
  rintro ⟨m,j,w,v⟩ Hx ⟨hm,hJ,lx,lb,hgx,hbef,hws,hsub⟩ hBx
  by_cases hm2:m < last + 1
  · have haft:∀ w' r,pourR m r w' = pourR m (ps.drop j) w->pourR m r w' = aftM k E ps m:=fun w' r h=>by rw [h,aftM,hbef]
    repeat' first | refine CO.cons rfl ?_ | refine CO.nil ?_ | refine CV.seq ?_ | refine CV.region callees ?_ | refine CV.cond ?_ | refine CV.block ?_ | refine CV.skip ?_ | (refine ⟨fun _=>?_,fun _=>?_⟩<;>try (exfalso; omega)) | fail
    refine CV.loopc ?_
    refine WCv.rounds callees false (α:=Nat × Wt × Value) (fun (j',w',v')=>[(0,.func (.yield l) #[] #[]),(1,.pointer (some ⟨bb,0,none⟩)),(4,.pointer (some ⟨b2,0,none⟩)),(5,v'),(6,VJ m),(18,VJ ((last:Int) + 1)),(19,VJ m)]) (fun (j',w',v') Hz=>J b2 m Hz∧l < Hz.n∧b2 < Hz.n∧Hz.get b2 = some (.cells (Wtl w') 138 1)∧pourR m (ps.drop j') w' = aftM k E ps m∧WS k ps j' w'∧(∀ Hq,RowS 3 Hq pv (ps.map Pol)->RowS 3 Hq v' ((ps.drop j').map Pol))) (fun (j',w',v')=>ps.length - j') (j,w,v) (by repeat' first | exact trivial | refine ⟨rfl,?_⟩ | refine ⟨slot_int (by (try simp only [Int.toNat_natCast]); omega),?_⟩) ?_ ?_
    · exact ⟨hJ,lx,lb,hgx,haft w _ rfl,hws,hsub⟩
    clear hJ lx lb hgx hbef hws hsub haft hBx
    rintro ⟨j',w',v'⟩ Hy ⟨hJ,ly,lb,hgy,haft,hws,hsub⟩ hBy
    obtain ⟨g1,g2,g3,g4⟩:=hJb b2 m Hy hJ
    have hv:=hsub Hy g4
    have hdl:(ps.drop j').length = ps.length - j':=List.length_drop
    have hjl:=hws.jl
    by_cases hj:j' < ps.length
    · have hd:=drop_at hj
      have h0l:0 < (ps.drop j').length:=by omega
      have h0:(ps.drop j')[0]! = ps[j']!:=by rw [hd]; rfl
      have hpj:=hp.wm j' hj
      have hpl:=hp.la j' hj
      have hpa:=hp.wa (j' + 1) (by omega)
      have hps:=watN_succ (w:=k.wa) hj
      have hla:=hws.la
      have hld:=po_min hv h0l
      rw [h0] at hld
      by_cases hmi:ps[j']!.mi = m
      · have hpr:pourR m (ps.drop j') w' = pourR m (ps.drop (j' + 1)) (pourN w' ps[j']!):=by rw [hd,pourR,if_pos hmi]
        obtain ⟨u,hu,husub⟩:=RowS.slice_lo hv un53 sz62 (i:=1) (kd:=.i64) (by omega) (by rw [List.length_map]; omega)
        have hl0:=po_load hv h0l
        rw [h0] at hl0
        repeat' first | refine CO.cons rfl ?_ | refine CO.nil ?_ | refine CV.seq ?_ | refine CV.region callees ?_ | refine CV.cond ?_ | refine CV.block ?_ | refine CV.skip ?_ | refine CO.consG rfl ?_ | refine ⟨_,po_len hv,?_⟩ | refine ⟨_,po_addr hv (by omega) (by omega),?_⟩ | refine ⟨_,po_f hv foO0 (by decide) h0l,?_⟩ | refine ⟨_,hld,?_⟩ | (refine ⟨fun _=>?_,fun _=>?_⟩<;>try (exfalso; omega)) | fail
        refine CV.wideR callees (by decide +kernel) [(0,[]),(1,[]),(2,[]),(3,[]),(5,[]),(6,[]),(4,[]),(7,[]),(8,[])] (by kernel_rfl) ?_
        repeat' first | refine CR.cons ?_ | refine ⟨_,ld117 hgy,?_⟩ | refine ⟨_,po_addr hv (by omega) (by omega),?_⟩ | refine ⟨_,hl0,?_⟩ | refine ⟨_,hu,?_⟩ | fail
        refine (poured_spec (by omega) hws.ok hpj.1 hpj.2 hpl.1 hpl.2.1 (by omega) (by omega)).mono ?_
        rintro r H4 ⟨rfl,k4⟩
        have l4:=k4.1
        have hg4:=(k4.2 b2 (by omega)).trans hgy
        repeat' first | refine CR.cons ?_ | fail
        refine ⟨_,_,st117 hg4,by omega,?_⟩
        generalize hs5:Heap.set H4 b2 _ = H5
        have hg5:H5.get b2 = some (.cells (Wtl (pourN w' ps[j']!)) 138 1):=set_get hs5
        have n5:=set_n hs5
        have o5:=set_old hs5
        have hJ5:J b2 m H5:=hJs _ _ _ _ hJ lb ⟨by omega,fun c hc hcb=>by rw [o5 c hcb,k4.2 c hc]⟩
        repeat' first | refine CR.cons ?_ | refine CR.nil ?_ | fail
        refine ⟨(j' + 1,pourN w' ps[j']!,u),(by repeat' first | exact trivial | refine ⟨rfl,?_⟩ | refine ⟨slot_int (by (try simp only [Int.toNat_natCast]); omega),?_⟩),(by (try dsimp only); omega),?_⟩
        refine ⟨hJ5,by omega,by omega,hg5,by rw [<- hpr]; exact haft,hws.pour hp hj,fun Hq h=>?_⟩
        have:=husub Hq (hsub Hq h)
        rw [<- List.map_drop,List.drop_drop] at this
        exact this
      · repeat' first | refine CO.cons rfl ?_ | refine CO.nil ?_ | refine CV.seq ?_ | refine CV.region callees ?_ | refine CV.cond ?_ | refine CV.exit ?_ | refine CO.consG rfl ?_ | refine ⟨_,po_len hv,?_⟩ | refine ⟨_,po_addr hv (by omega) (by omega),?_⟩ | refine ⟨_,po_f hv foO0 (by decide) h0l,?_⟩ | refine ⟨_,hld,?_⟩ | (refine ⟨fun _=>?_,fun _=>?_⟩<;>try (exfalso; omega)) | fail
        have haft2:aftM k E ps m = (w',ps.drop j'):=(by rw [<- haft,hd,pourR,if_neg hmi])
        have hwarm:warmM k E ps m = (w'.w0,w'.w1):=by rw [warmM,haft2]
        have hyy:=hY b2 m Hy (by omega) hJ ly lb hBy
        rw [hwarm] at hyy
        repeat' first | refine CO.cons rfl ?_ | refine ⟨_,fS foW1 (by decide),?_⟩ | refine ⟨_,agg_load ag87 sz87 hgy (Nat.le_of_ble_eq_true rfl),?_⟩ | fail
        refine hyy.mono ?_
        rintro r H4 ⟨(⟨rfl,hJ4⟩ | ⟨rfl,hD⟩),ko,l4⟩
        · obtain ⟨f1,f2,f3,f4⟩:=hJb b2 (m + 1) H4 hJ4
          have hg4:=ko.trans hgy
          have hbd:=heatL_bd (m:=(m:Int)) hn hE
          repeat' first | refine CO.cons rfl ?_ | refine CO.nil ?_ | refine CV.cond ?_ | refine CV.skip ?_ | fail
          refine CV.wideR callees (by decide +kernel) [(0,[]),(1,[]),(2,[]),(3,[]),(4,[]),(5,[]),(6,[2,0]),(7,[]),(8,[])] (by kernel_rfl) ?_
          repeat' first | refine CR.cons ?_ | refine ⟨_,ld117 hg4,?_⟩ | refine ⟨_,fS foB0 (by decide),?_⟩ | refine ⟨_,fS foB1 (by decide),?_⟩ | refine ⟨_,agg_load (n:=8) (by kernel_rfl) (by kernel_rfl) f1 (Nat.le_of_ble_eq_true rfl),?_⟩ | refine ⟨_,cell_load (by kernel_rfl) f1 rfl,?_⟩ | fail
          refine (heatOf_spec (by omega) f3 hn hE).mono ?_
          rintro r H5 ⟨rfl,k5⟩
          have l5:=k5.1
          have f15:=(k5.2 bb (by omega)).trans f1
          have hg5:=(k5.2 b2 (by omega)).trans hg4
          repeat' first | refine CR.cons ?_ | refine ⟨_,agg_load (n:=8) (by kernel_rfl) (by kernel_rfl) f15 (Nat.le_of_ble_eq_true rfl),?_⟩ | refine ⟨_,ld117 hg5,?_⟩ | refine ⟨(rfl:_ = Value.agg _),?_⟩ | refine ⟨same_wt,?_⟩ | refine ⟨same_ke,?_⟩ | fail
          refine (heated_spec (k:=k) (by omega) hws.ok hk hbd.1.1 hbd.1.2 hbd.2.1 hbd.2.2).mono ?_
          rintro r H6 ⟨rfl,k6⟩
          have l6:=k6.1
          have hg6:=(k6.2 b2 (by omega)).trans hg5
          repeat' first | refine CR.cons ?_ | fail
          refine ⟨_,_,st117 hg6,by omega,?_⟩
          generalize hs7:Heap.set H6 b2 _ = H7
          have hg7:H7.get b2 = some (.cells (Wtl (hotN k w' (heatL E m))) 138 1):=set_get hs7
          have n7:=set_n hs7
          have o7:=set_old hs7
          have hJ7:J b2 (m + 1) H7:=hJs _ _ _ _ hJ4 (by omega) ⟨by omega,fun c hc hcb=>by rw [o7 c hcb,k6.2 c (by omega),k5.2 c hc]⟩
          repeat' first | refine CO.cons rfl ?_ | refine CO.nil ?_ | refine CV.region callees ?_ | refine CR.nil ?_ | refine ⟨(⟨by omega,by omega⟩:inI64 _),?_⟩ | fail
          refine ⟨(m + 1,j',hotN k w' (heatL E m),v'),(by repeat' first | exact trivial | refine ⟨rfl,?_⟩ | refine ⟨slot_int (by (try simp only [Int.toNat_natCast]); omega),?_⟩),(by (try dsimp only); omega),?_⟩
          refine ⟨by omega,hJ7,by omega,by omega,hg7,?_,⟨hws.jl,hws.la,hotN_ok hws.ok hk hbd.1.1 hbd.1.2 hbd.2.1 hbd.2.2⟩,hsub⟩
          have:befM k E ps (m + 1) = (hotN k (aftM k E ps m).1 (heatL E m),(aftM k E ps m).2):=rfl
          rw [this,haft2]
        · repeat' first | refine CO.cons rfl ?_ | refine CO.nil ?_ | refine CV.cond ?_ | refine CV.ret ?_ | fail
          exact ⟨rfl,.inr hD⟩
    · have hde:ps.drop j' = []:=List.drop_eq_nil_of_le (by omega)
      repeat' first | refine CO.cons rfl ?_ | refine CO.nil ?_ | refine CV.seq ?_ | refine CV.region callees ?_ | refine CV.cond ?_ | refine CV.exit ?_ | refine CO.consG rfl ?_ | refine ⟨_,po_len hv,?_⟩ | (refine ⟨fun _=>?_,fun _=>?_⟩<;>try (exfalso; omega)) | fail
      have haft2:aftM k E ps m = (w',ps.drop j'):=(by rw [<- haft,hde]; rfl)
      have hwarm:warmM k E ps m = (w'.w0,w'.w1):=by rw [warmM,haft2]
      have hyy:=hY b2 m Hy (by omega) hJ ly lb hBy
      rw [hwarm] at hyy
      repeat' first | refine CO.cons rfl ?_ | refine ⟨_,fS foW1 (by decide),?_⟩ | refine ⟨_,agg_load ag87 sz87 hgy (Nat.le_of_ble_eq_true rfl),?_⟩ | fail
      refine hyy.mono ?_
      rintro r H4 ⟨(⟨rfl,hJ4⟩ | ⟨rfl,hD⟩),ko,l4⟩
      · obtain ⟨f1,f2,f3,f4⟩:=hJb b2 (m + 1) H4 hJ4
        have hg4:=ko.trans hgy
        have hbd:=heatL_bd (m:=(m:Int)) hn hE
        repeat' first | refine CO.cons rfl ?_ | refine CO.nil ?_ | refine CV.cond ?_ | refine CV.skip ?_ | fail
        refine CV.wideR callees (by decide +kernel) [(0,[]),(1,[]),(2,[]),(3,[]),(4,[]),(5,[]),(6,[2,0]),(7,[]),(8,[])] (by kernel_rfl) ?_
        repeat' first | refine CR.cons ?_ | refine ⟨_,ld117 hg4,?_⟩ | refine ⟨_,fS foB0 (by decide),?_⟩ | refine ⟨_,fS foB1 (by decide),?_⟩ | refine ⟨_,agg_load (n:=8) (by kernel_rfl) (by kernel_rfl) f1 (Nat.le_of_ble_eq_true rfl),?_⟩ | refine ⟨_,cell_load (by kernel_rfl) f1 rfl,?_⟩ | fail
        refine (heatOf_spec (by omega) f3 hn hE).mono ?_
        rintro r H5 ⟨rfl,k5⟩
        have l5:=k5.1
        have f15:=(k5.2 bb (by omega)).trans f1
        have hg5:=(k5.2 b2 (by omega)).trans hg4
        repeat' first | refine CR.cons ?_ | refine ⟨_,agg_load (n:=8) (by kernel_rfl) (by kernel_rfl) f15 (Nat.le_of_ble_eq_true rfl),?_⟩ | refine ⟨_,ld117 hg5,?_⟩ | refine ⟨(rfl:_ = Value.agg _),?_⟩ | refine ⟨same_wt,?_⟩ | refine ⟨same_ke,?_⟩ | fail
        refine (heated_spec (k:=k) (by omega) hws.ok hk hbd.1.1 hbd.1.2 hbd.2.1 hbd.2.2).mono ?_
        rintro r H6 ⟨rfl,k6⟩
        have l6:=k6.1
        have hg6:=(k6.2 b2 (by omega)).trans hg5
        repeat' first | refine CR.cons ?_ | fail
        refine ⟨_,_,st117 hg6,by omega,?_⟩
        generalize hs7:Heap.set H6 b2 _ = H7
        have hg7:H7.get b2 = some (.cells (Wtl (hotN k w' (heatL E m))) 138 1):=set_get hs7
        have n7:=set_n hs7
        have o7:=set_old hs7
        have hJ7:J b2 (m + 1) H7:=hJs _ _ _ _ hJ4 (by omega) ⟨by omega,fun c hc hcb=>by rw [o7 c hcb,k6.2 c (by omega),k5.2 c hc]⟩
        repeat' first | refine CO.cons rfl ?_ | refine CO.nil ?_ | refine CV.region callees ?_ | refine CR.nil ?_ | refine ⟨(⟨by omega,by omega⟩:inI64 _),?_⟩ | fail
        refine ⟨(m + 1,j',hotN k w' (heatL E m),v'),(by repeat' first | exact trivial | refine ⟨rfl,?_⟩ | refine ⟨slot_int (by (try simp only [Int.toNat_natCast]); omega),?_⟩),(by (try dsimp only); omega),?_⟩
        refine ⟨by omega,hJ7,by omega,by omega,hg7,?_,⟨hws.jl,hws.la,hotN_ok hws.ok hk hbd.1.1 hbd.1.2 hbd.2.1 hbd.2.2⟩,hsub⟩
        have:befM k E ps (m + 1) = (hotN k (aftM k E ps m).1 (heatL E m),(aftM k E ps m).2):=rfl
        rw [this,haft2]
      · repeat' first | refine CO.cons rfl ?_ | refine CO.nil ?_ | refine CV.cond ?_ | refine CV.ret ?_ | fail
        exact ⟨rfl,.inr hD⟩
  have hme:m = last + 1:=by omega
  subst hme
  repeat' first | refine CO.cons rfl ?_ | refine CO.nil ?_ | refine CV.seq ?_ | refine CV.region callees ?_ | refine CV.cond ?_ | refine CV.exit ?_ | (refine ⟨fun _=>?_,fun _=>?_⟩<;>try (exfalso; omega)) | fail
  exact ⟨rfl,.inl ⟨b2,hJ⟩⟩
end Go.Proofs.Ytglkphjjinmgmaa
