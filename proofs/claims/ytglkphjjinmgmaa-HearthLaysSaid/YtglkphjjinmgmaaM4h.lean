/- Several texts in one. -/
import Derived.Test.YtglkphjjinmgmaaM2h
import Derived.Test.YtglkphjjinmgmaaM1h
set_option linter.unusedVariables false
set_option linter.unusedSimpArgs false
namespace Go.Proofs.Ytglkphjjinmgmaa
open Go.AI
theorem KeepX.put {b c:Nat} {H H1 H2:Heap} (k:KeepX b H H1) (hc:H.n<=c) (o:∀ x,x ≠ c->H2.get x = H1.get x) (n:H2.n = H1.n):KeepX b H H2:=⟨by have:=k.1; omega,fun x hx hxb=>(o x (by omega)).trans (k.2 x hx hxb)⟩
theorem Box.put {b c:Nat} {H1 H2:Heap} (h:Box b H1) (hc:b ≠ c) (o:∀ x,x ≠ c->H2.get x = H1.get x) (n:H2.n = H1.n):Box b H2:=⟨by have:=h.1; omega,by obtain ⟨w,hw⟩:=h.2; exact ⟨w,(o b hc).trans hw⟩⟩
theorem OwnS.boxed {e:TypeId} {s b:Nat} {H H':Heap} {v:Value} {rs:List (List Value)} {B:Nat} (h:OwnS e s H v rs B) (k:KeepX b H H') (hb:Box b H):OwnS e s H' v rs B:=by
  obtain ⟨_,w,hw⟩:=hb
  exact OwnS.keepX h k hw
set_option maxHeartbeats 4000000 in
set_option maxRecDepth 100000 in
theorem bspan_spec {B b:Nat} {H:Heap} {l h:Int} (hB:B<=b) (hn:B<=H.n) (hb:Box b H) (h0:0<=l) (h1:l<=h) (h2:h < 100000) :
    CallB Try.prog B 57 [bp b,VJ l,VJ h] H (fun r H'=>(∃ p:Int × Int,r = Hv p∧l<=p.1∧p.1<=p.2∧p.2<=h)∧Box b H'∧KeepX b H H'):=by
  have hbn:=hb.1
  refine CV.enter callees false rfl Try.func57 rfl (by kernel_rfl) (Nat.le_of_ble_eq_true rfl) hn ?_
  repeat' first | refine CO.cons rfl ?_ | refine CO.nil ?_ | refine CV.seq ?_ | refine CV.region callees ?_ | refine ⟨_,_,al41,?_⟩ | fail
  generalize hs0:Heap.new H _ = H0
  have hg0:=new_get hs0
  have k0:=new_keep hs0
  have n0:=new_n hs0
  obtain ⟨b0,hbn0⟩:∃ b,Heap.n H = b:=⟨_,rfl⟩
  rw [hbn0] at hg0 n0 ⊢
  have hb0:=hb.keep k0
  repeat' first | fail
  refine (any_spec hB (by omega) hb0 (by omega) h1 (by omega)).mono ?_
  rintro r H1 ⟨⟨n,rfl,n1,n2⟩,hb1,k1⟩
  have l1:=k1.1
  repeat' first | refine CO.cons rfl ?_ | refine CO.nil ?_ | refine CV.seq ?_ | refine CV.region callees ?_ | fail
  refine (up_spec hB (by omega) hb1 (by omega)).mono ?_
  rintro r H2 ⟨⟨w,rfl,w1,w2⟩,hb2,k2⟩
  have l2:=k2.1
  have k12:=k1.trans k2
  have hg2:=(k12.2 b0 (by omega) (by omega)).trans hg0
  have x2:KeepX b H H2:=(k0.butX b).trans k12
  repeat' first | refine CO.cons rfl ?_ | refine CO.nil ?_ | refine CV.seq ?_ | refine CV.region callees ?_ | refine CV.cond ?_ | refine CV.block ?_ | refine CV.skip ?_ | refine ⟨(⟨by omega,by omega⟩:inI64 _),?_⟩ | refine ⟨_,fun tm ha=>step1_min rfl (ev_tmp ha rfl) (ev_tmp ha rfl),?_⟩ | (refine ⟨fun _=>?_,fun _=>?_⟩<;>try (exfalso; omega)) | fail
  · repeat' first | refine CO.cons rfl ?_ | refine ⟨_,bu41,?_⟩ | fail
    refine ⟨_,_,st41 hg2,by omega,?_⟩
    generalize hs9:Heap.set H2 b0 _ = H9
    have hg9:H9.get b0 = some (.cells (Hl ((n,n))) 27 1):=set_get hs9
    have n9:=set_n hs9
    have o9:=set_old hs9
    repeat' first | refine CO.nil ?_ | refine CV.ret ?_ | fail
    exact ⟨_,ld41 hg9,rfl,⟨⟨(n,n),rfl,by omega,by (try dsimp only); omega,by (try dsimp only); omega⟩,hb2.put (by omega) o9 n9,KeepX.put x2 (by omega) o9 n9⟩⟩
  · repeat' first | fail
    refine (any_spec hB (by omega) hb2 (by omega) (by omega) (by omega)).mono ?_
    rintro r H3 ⟨⟨m,rfl,m1,m2⟩,hb3,k3⟩
    have l3:=k3.1
    have hg3:=(k3.2 b0 (by omega) (by omega)).trans hg2
    have x3:=x2.trans k3
    repeat' first | refine CO.cons rfl ?_ | refine ⟨_,bu41,?_⟩ | fail
    refine ⟨_,_,st41 hg3,by omega,?_⟩
    generalize hs9:Heap.set H3 b0 _ = H9
    have hg9:H9.get b0 = some (.cells (Hl ((n,m))) 27 1):=set_get hs9
    have n9:=set_n hs9
    have o9:=set_old hs9
    repeat' first | refine CO.nil ?_ | refine CV.ret ?_ | fail
    exact ⟨_,ld41 hg9,rfl,⟨⟨(n,m),rfl,by omega,by (try dsimp only); omega,by (try dsimp only); omega⟩,hb3.put (by omega) o9 n9,KeepX.put x3 (by omega) o9 n9⟩⟩
  · repeat' first | fail
    refine (any_spec hB (by omega) hb2 (by omega) (by omega) (by omega)).mono ?_
    rintro r H3 ⟨⟨m,rfl,m1,m2⟩,hb3,k3⟩
    have l3:=k3.1
    have hg3:=(k3.2 b0 (by omega) (by omega)).trans hg2
    have x3:=x2.trans k3
    repeat' first | refine CO.cons rfl ?_ | refine ⟨_,bu41,?_⟩ | fail
    refine ⟨_,_,st41 hg3,by omega,?_⟩
    generalize hs9:Heap.set H3 b0 _ = H9
    have hg9:H9.get b0 = some (.cells (Hl ((n,m))) 27 1):=set_get hs9
    have n9:=set_n hs9
    have o9:=set_old hs9
    repeat' first | refine CO.nil ?_ | refine CV.ret ?_ | fail
    exact ⟨_,ld41 hg9,rfl,⟨⟨(n,m),rfl,by omega,by (try dsimp only); omega,by (try dsimp only); omega⟩,hb3.put (by omega) o9 n9,KeepX.put x3 (by omega) o9 n9⟩⟩
set_option maxRecDepth 100000 in
theorem fit_spec {B:Nat} {H:Heap} {x n:Int} (hB:B<=H.n) (hn:2<=n) (h0:0<=x) (h1:x < 2 * n) (h9:n < 100000) :
    CallB Try.prog B 67 [VJ x,VJ n] H (fun r H'=>r = VJ (if x < n then x else x - n)∧H' = H):=by
  have hm:x.tmod n = if x < n then x else x - n:=by
    rw [Int.tmod_eq_emod_of_nonneg h0]
    split
    · exact Int.emod_eq_of_lt h0 (by assumption)
    · rename_i hx
      rw [show x = (x - n) + n by omega,Int.add_emod_right,Int.emod_eq_of_lt (by omega) (by omega)]
      omega
  have hm0:0<=x.tmod n:=by rw [hm]; split<;>omega
  have hm1:x.tmod n < n:=by rw [hm]; split<;>omega
  rw [<- hm]
  refine CV.enter callees false rfl Try.func67 rfl (by kernel_rfl) (Nat.le_of_ble_eq_true rfl) hB ?_
  repeat' first | refine CO.cons rfl ?_ | refine CO.nil ?_ | refine CV.seq ?_ | refine CV.region callees ?_ | refine CV.cond ?_ | refine CV.skip ?_ | refine CV.ret ?_ | refine ⟨_,fun tm ha=>step1_rem rfl (ev_tmp ha rfl) (ev_tmp ha rfl) (by omega),?_⟩ | (refine ⟨fun _=>?_,fun _=>?_⟩<;>try (exfalso; omega)) | fail
  exact ⟨rfl,rfl,rfl⟩
theorem zero48b:zeroBB Try.prog 32 = some (Col ⟨0,0,0,0,0,0,false⟩,56):=by kernel_rfl
theorem zero82b:zeroBB Try.prog 99 = some (Hl (0,0),16):=by kernel_rfl
theorem sz25:sizeB Try.prog 22 = some 1:=by kernel_rfl
theorem sz26:sizeB Try.prog 23 = some 1:=by kernel_rfl
theorem ownS_keepBt {e:TypeId} {s:Nat} {H H':Heap} {v x:Value} {rs:List (List Value)} {B:Nat} (h:OwnS e s H v rs B) (k:KeepBut x H H') (ha:∀ c,blkOf v = some c->blkOf x ≠ some c):OwnS e s H' v rs B:=by
  refine ⟨h.1,?_⟩
  rcases h.2 with h | ⟨b',rfl,h2,h3,h4⟩
  · exact .inl h
  · exact .inr ⟨b',rfl,h2,Nat.lt_of_lt_of_le h3 k.le,by rw [k.get b' h3 (ha b' rfl)]; exact h4⟩
theorem zero28:zeroCells Try.prog 25 = some (Fl nilS nilS):=by kernel_rfl
theorem al28 {H:Heap}:sAlloc Try.prog H 25 = some (.pointer (some ⟨H.n,0,none⟩),H.new (.cells (Fl nilS nilS) 25 1),H.n):=alloc_of zero28
theorem st28 {H:Heap} {b q:Nat} {c p c' p':Value} {e:TypeId} (h1:oneC c' = true) (h2:oneC p' = true) (hg:H.get b = some (.cells (Fl c p) e (q + 1))):astore Try.prog 25 H (Fv c' p') (.pointer (some ⟨b,0,none⟩)) = some (H.set b (.cells (Fl c' p') e (q + 1)),b):=store_all (vs:=Fl c' p') hg rfl sz28 (by
  have:(Fl c' p').all oneC = (oneC c' && (oneC p' && true)):=rfl
  rw [this,h1,h2]; rfl)
theorem ld28 {H:Heap} {b:Nat} {c p:Value} {e:TypeId} {q:Nat} (hg:H.get b = some (.cells (Fl c p) e q)):aload Try.prog 25 H (.pointer (some ⟨b,0,none⟩)) = some (Fv c p):=agg_load ag28 sz28 hg (Nat.le_refl _)
theorem bu48 {p q r:Int × Int} {l:Bool}:abuild Try.prog 32 [(0,Hv p),(1,Hv q),(2,Hv r),(3,.bool l)] = some (Cov ⟨p.1,p.2,q.1,q.2,r.1,r.2,l⟩):=by kernel_rfl
abbrev OwnC (H:Heap) (v:Value) (l:List Co) (B:Nat):Prop:=OwnS 32 7 H v (l.map Col) B
abbrev OwnT (H:Heap) (v:Value) (l:List (Int × Int)) (B:Nat):Prop:=OwnS 99 2 H v (l.map Hl) B
theorem co_one {H:Heap} {x:Co}:abuildSlice Try.prog H 22 1 [(0,Cov x)] = some (.slice (some ⟨H.n,0,none⟩) 1 0,H.new (.cells (Col x) 32 2),H.n) :=
  build_oneS (row:=Col x) un25 zero48b (by decide) rfl
theorem co_push {K:Value->Heap->Prop} {B B0:Nat} {H:Heap} {x:Value} {l:List Co} {d:Co} (hx:OwnC H x l B0) (hB0:B0<=H.n) (hB:B<=B0) (hn:l.length < 1000000)
    (hk:∀ r H',OwnC H' r (l ++ [d]) B0->KeepBut x H H'->(∀ c,blkOf r = some c->H.n<=c)->K r H') :
    ∃ v H' b,aappend Try.prog (H.new (.cells (Col d) 32 2)) #[22,22] x (.slice (some ⟨H.n,0,none⟩) 1 0) = some (v,H',b)∧B<=b∧K v H' :=
  append_askS (z:=Col ⟨0,0,0,0,0,0,false⟩) un25 zero48b (by decide) rfl hx hB0 hB (by rw [List.length_map]; exact hn) (fun r H' ho=>hk r H' (by rw [OwnC,List.map_append]; exact ho))
theorem to_one {H:Heap} {x:Int × Int}:abuildSlice Try.prog H 23 1 [(0,Hv x)] = some (.slice (some ⟨H.n,0,none⟩) 1 0,H.new (.cells (Hl x) 99 2),H.n) :=
  build_oneS (row:=Hl x) un26 zero82b (by decide) rfl
theorem to_push {K:Value->Heap->Prop} {B B0:Nat} {H:Heap} {x:Value} {l:List (Int × Int)} {d:Int × Int} (hx:OwnT H x l B0) (hB0:B0<=H.n) (hB:B<=B0) (hn:l.length < 1000000)
    (hk:∀ r H',OwnT H' r (l ++ [d]) B0->KeepBut x H H'->(∀ c,blkOf r = some c->H.n<=c)->K r H') :
    ∃ v H' b,aappend Try.prog (H.new (.cells (Hl d) 99 2)) #[23,23] x (.slice (some ⟨H.n,0,none⟩) 1 0) = some (v,H',b)∧B<=b∧K v H' :=
  append_askS (z:=Hl (0,0)) un26 zero82b (by decide) rfl hx hB0 hB (by rw [List.length_map]; exact hn) (fun r H' ho=>hk r H' (by rw [OwnT,List.map_append]; exact ho))
theorem build_540 {H:Heap}:abuildSlice Try.prog H 33 2 [(0,VJ 5),(1,VJ 40)] = some (.slice (some ⟨H.n,0,none⟩) 2 0,H.new (.cells [VJ 5,VJ 40] 3 2),H.n):=build_vals [VJ 5,VJ 40] un22 one3 rfl (by simp)
structure CoS (c:Co):Prop extends CoOk c where
  c8:c.ch<=8
  b12:c.bh<=12
  h40:c.hh<=40
theorem getAt_snoc {α:Type} [Inhabited α] {l:List α} {d:α} {P:α->Prop} (h:∀ i,i < l.length->P l[i]!) (hd:P d):∀ i,i < (l ++ [d]).length->P (l ++ [d])[i]!:=by
  intro i hi
  rw [List.length_append,List.length_singleton] at hi
  rw [getElem!_pos _ i (by simp; omega)]
  by_cases hi2:i < l.length
  · rw [List.getElem_append_left hi2]
    have:=h i hi2
    rwa [getElem!_pos l i hi2] at this
  · rw [List.getElem_append_right (by omega)]
    simpa using hd
set_option maxHeartbeats 8000000 in
set_option maxRecDepth 100000 in
theorem fireOf_spec {B b:Nat} {H:Heap} {n:Int} (hB:B<=b) (hn:B<=H.n) (hb:Box b H) (h0:0<=n) (h9:n<=10) :
    CallB Try.prog B 16 [bp b,VJ n] H (fun r H'=>(∃ cv tv cs ts,r = Fv cv tv∧OwnC H' cv cs H.n∧OwnT H' tv ts H.n∧FOk cs ts∧(cs.length:Int)<=n∧(∀ i,i < cs.length->CoS cs[i]!))∧Box b H'∧KeepX b H H'):=by
  have hbn:=hb.1
  refine CV.enter callees false rfl Try.func16 rfl (by kernel_rfl) (Nat.le_of_ble_eq_true rfl) hn ?_
  repeat' first | refine CO.cons rfl ?_ | refine CO.nil ?_ | refine CV.seq ?_ | refine CV.region callees ?_ | refine ⟨(⟨by omega,by omega⟩:inI64 _),?_⟩ | refine ⟨_,_,al28,?_⟩ | fail
  generalize hs0:Heap.new H _ = H0
  have hg0:=new_get hs0
  have k0:=new_keep hs0
  have n0:=new_n hs0
  obtain ⟨b0,hbn0⟩:∃ b,Heap.n H = b:=⟨_,rfl⟩
  rw [hbn0] at hg0 n0 ⊢
  repeat' first | fail
  generalize hs1:Heap.new H0 _ = H1
  have hg1:=new_get hs1
  have k1:=new_keep hs1
  have n1:=new_n hs1
  obtain ⟨b1,hbn1⟩:∃ b,Heap.n H0 = b:=⟨_,rfl⟩
  rw [hbn1] at hg1 n1 ⊢
  have k01:=k0.trans k1
  have hz1:=(k1.2 b0 (by omega)).trans hg0
  have hb1:=hb.keep k01
  repeat' first | fail
  refine (up_spec hB (by omega) hb1 (by omega)).mono ?_
  rintro r H2 ⟨⟨m,rfl,m1,m2⟩,hb2,k2⟩
  have l2:=k2.1
  have hg2:=(k2.2 b1 (by omega) (by omega)).trans hg1
  have hz2:=(k2.2 b0 (by omega) (by omega)).trans hz1
  have x2:KeepX b H H2:=(k01.butX b).trans k2
  repeat' first | refine CO.cons rfl ?_ | refine CO.nil ?_ | refine CV.block ?_ | fail
  refine CV.loopc ?_
  refine WCv.rounds callees false (α:=Value × List Co × Int) (fun (q,cs,k)=>[(0,bp b),(1,VJ n),(4,.pointer (some ⟨b0,0,none⟩)),(5,.pointer (some ⟨b1,0,none⟩)),(6,VJ k)]) (fun (q,cs,k) Hz=>(cs.length:Int) + k = m∧0<=k∧Hz.get b1 = some (.cells (Fl q nilS) 25 1)∧Hz.get b0 = some (.cells (Fl nilS nilS) 25 1)∧OwnC Hz q cs H2.n∧(∀ i,i < cs.length->CoS cs[i]!)∧Box b Hz∧KeepX b H Hz∧H2.n<=Hz.n) (fun (q,cs,k)=>k.toNat) (nilS,[],m) (by repeat' first | exact trivial | refine ⟨rfl,?_⟩ | refine ⟨slot_int (by (try simp only [Int.toNat_natCast]); omega),?_⟩) ?_ ?_
  · exact ⟨by simp,by omega,hg2,hz2,OwnS.nil,fun i hi=>by simp at hi,hb2,x2,Nat.le_refl _⟩
  rintro ⟨q,cs,k⟩ Hx ⟨hcl,hk0,hgx,hzx,hq,hcs,hbx,xx,lx⟩ hBx
  by_cases hp:0 < k
  · repeat' first | refine CO.cons rfl ?_ | refine CO.nil ?_ | refine CV.seq ?_ | refine CV.region callees ?_ | refine CV.cond ?_ | refine CV.block ?_ | refine CV.skip ?_ | (refine ⟨fun _=>?_,fun _=>?_⟩<;>try (exfalso; omega)) | fail
    refine CV.mX callees (by decide +kernel) [(0,[]),(1,[]),(2,[]),(4,[]),(6,[]),(7,[]),(11,[]),(3,[1]),(5,[1]),(8,[1]),(9,[1]),(10,[1]),(12,[1]),(13,[]),(14,[1]),(15,[]),(16,[]),(17,[])] (by kernel_rfl) ?_
    repeat' first | refine CR.cons ?_ | refine ⟨_,fS foF0 (by decide),?_⟩ | refine ⟨_,cell_load ag25 hgx rfl,?_⟩ | fail
    refine (bspan_spec hB (by omega) hbx (by omega) (by omega) (by omega)).mono ?_
    rintro r H3 ⟨⟨p1,rfl,p11,p12,p13⟩,hb3,k3⟩
    have l3:=k3.1
    have hg3:=(k3.2 b1 (by omega) (by omega)).trans hgx
    have hz3:=(k3.2 b0 (by omega) (by omega)).trans hzx
    have hq3:OwnC H3 q cs H2.n:=OwnS.boxed hq k3 hbx
    repeat' first | refine CR.cons ?_ | refine ⟨_,cell_load ag25 hg3 rfl,?_⟩ | refine ⟨(rfl:_ = q),?_⟩ | refine ⟨hq3.same,?_⟩ | fail
    refine (bspan_spec hB (by omega) hb3 (by omega) (by omega) (by omega)).mono ?_
    rintro r H4 ⟨⟨p2,rfl,p21,p22,p23⟩,hb4,k4⟩
    have l4:=k4.1
    have hg4:=(k4.2 b1 (by omega) (by omega)).trans hg3
    have hz4:=(k4.2 b0 (by omega) (by omega)).trans hz3
    have hq4:OwnC H4 q cs H2.n:=OwnS.boxed hq3 k4 hb3
    have kN:=Keep.new H4 (.cells [VJ 5,VJ 40] 3 2)
    have hgN:(H4.new (.cells [VJ 5,VJ 40] 3 2)).get b1 = some (.cells (Fl q nilS) 25 1):=(kN.2 b1 (by omega)).trans hg4
    have hqN:OwnC (H4.new (.cells [VJ 5,VJ 40] 3 2)) q cs H2.n:=OwnS.keep hq4 kN
    repeat' first | refine CR.cons ?_ | refine ⟨_,cell_load ag25 hg4 rfl,?_⟩ | refine ⟨(rfl:_ = q),?_⟩ | refine ⟨hq4.same,?_⟩ | refine ⟨_,_,build_540,?_⟩ | fail
    have hI:Ints (H4.new (.cells [VJ 5,VJ 40] 3 2)) (.slice (some ⟨H4.n,0,none⟩) 2 0) [5,40]:=new_row rfl
    generalize hs5:H4.new _ = H5 at hgN hqN kN hI ⊢
    have l5:H4.n < H5.n:=by have:=new_n hs5; omega
    have hz5:=(kN.2 b0 (by omega)).trans hz4
    have hb5:=hb4.keep kN
    refine (pick_spec hB (by omega) hb5 hI (by decide) (by decide)).mono ?_
    rintro r H6 ⟨⟨j,hj,rfl⟩,hb6,k6⟩
    have l6:=k6.1
    have hg6:=(k6.2 b1 (by omega) (by omega)).trans hgN
    have hz6:=(k6.2 b0 (by omega) (by omega)).trans hz5
    have hq6:OwnC H6 q cs H2.n:=OwnS.boxed hqN k6 hb5
    obtain ⟨u,hu,hu1,hu2⟩:∃ u,([5,40]:List Int)[j]! = u∧0<=u∧u<=40:=by
      refine ⟨_,rfl,?_⟩
      have hj2:j < 2:=hj
      rcases (by omega:j = 0 ∨ j = 1) with rfl | rfl<;>decide
    rw [hu]
    repeat' first | refine CR.cons ?_ | refine ⟨_,cell_load ag25 hg6 rfl,?_⟩ | refine ⟨(rfl:_ = q),?_⟩ | refine ⟨hq6.same,?_⟩ | fail
    refine (bspan_spec hB (by omega) hb6 (by omega) (by omega) (by omega)).mono ?_
    rintro r H7 ⟨⟨p3,rfl,p31,p32,p33⟩,hb7,k7⟩
    have l7:=k7.1
    have hg7:=(k7.2 b1 (by omega) (by omega)).trans hg6
    have hz7:=(k7.2 b0 (by omega) (by omega)).trans hz6
    have hq7:OwnC H7 q cs H2.n:=OwnS.boxed hq6 k7 hb6
    repeat' first | refine CR.cons ?_ | refine ⟨_,cell_load ag25 hg7 rfl,?_⟩ | refine ⟨(rfl:_ = q),?_⟩ | refine ⟨hq7.same,?_⟩ | fail
    refine (one_spec hB (by omega) hb7 (by omega)).mono ?_
    rintro r H8 ⟨⟨w,rfl⟩,hb8,k8⟩
    have l8:=k8.1
    have hg8:=(k8.2 b1 (by omega) (by omega)).trans hg7
    have hz8:=(k8.2 b0 (by omega) (by omega)).trans hz7
    have hq8:OwnC H8 q cs H2.n:=OwnS.boxed hq7 k8 hb7
    have x8:KeepX b H H8:=((((xx.trans k3).trans k4).trans (kN.butX b)).trans k6).trans (k7.trans k8)
    obtain ⟨d,hd⟩:∃ d:Co,d = ⟨p1.1,p1.2,p2.1,p2.2,p3.1,p3.2,w⟩:=⟨_,rfl⟩
    have hds:CoS d:=by
      subst hd
      exact ⟨⟨by omega,by omega,by (show p1.2<=300); omega,by omega,by omega,by (show p2.2<=300); omega,by omega,by omega,by (show p3.2<=1000); omega⟩,p13,p23,by (show p3.2<=40); omega⟩
    have kM:=Keep.new H8 (.cells (Col d) 32 2)
    have hgM:(H8.new (.cells (Col d) 32 2)).get b1 = some (.cells (Fl q nilS) 25 1):=(kM.2 b1 (by omega)).trans hg8
    repeat' first | refine CR.cons ?_ | refine ⟨_,cell_load ag25 hg8 rfl,?_⟩ | refine ⟨(rfl:_ = q),?_⟩ | refine ⟨hq8.same,?_⟩ | refine ⟨_,bu48,?_⟩ | (rw [<- hd]) | refine ⟨_,_,co_one,?_⟩ | fail
    refine co_push hq8 (by omega) (by omega) (by omega) ?_
    intro q9 H9 hq9 kb9 hf9
    have l9:=kb9.le
    have hqa:∀ c,blkOf q = some c->H2.n<=c:=fun c hc=>(hq8.lt hc).1
    have hg9:=(kb9.get b1 (by omega) (fun h=>by have:=hqa _ h; omega)).trans hg8
    have hz9:=(kb9.get b0 (by omega) (fun h=>by have:=hqa _ h; omega)).trans hz8
    have hb9:=hb8.keepBut kb9 (fun h=>by have:=hqa _ h; omega)
    have x9:=kb9.keepX x8 fun c hc=>by have:=hqa _ hc; omega
    repeat' first | refine CR.cons ?_ | refine ⟨_,fS foF0 (by decide),?_⟩ | fail
    refine ⟨_,_,store_row (i:=0) sz25 hg9 (by show 0 < 2; decide) hq9.oneC,by omega,?_⟩
    generalize hsA:Heap.set H9 b1 _ = HA
    have hgA:HA.get b1 = some (.cells (Fl q9 nilS) 25 1):=set_get hsA
    have nA:=set_n hsA
    have oA:=set_old hsA
    repeat' first | refine CO.cons rfl ?_ | refine CO.nil ?_ | refine CV.region callees ?_ | refine CR.nil ?_ | refine ⟨(⟨by omega,by omega⟩:inI64 _),?_⟩ | fail
    refine ⟨(q9,cs ++ [d],k - 1),(by repeat' first | exact trivial | refine ⟨rfl,?_⟩ | refine ⟨slot_int (by (try simp only [Int.toNat_natCast]); omega),?_⟩),(by (try dsimp only); omega),?_⟩
    have kA:KeepX b1 H9 HA:=⟨by omega,fun c hc hcl=>oA c hcl⟩
    exact ⟨by simp; omega,by omega,hgA,(oA b0 (by omega)).trans hz9,OwnS.keepX hq9 kA hg9,getAt_snoc hcs hds,hb9.put (by omega) oA nA,KeepX.put x9 (by omega) oA nA,by omega⟩
  obtain rfl:k = 0:=by omega
  repeat' first | refine CO.cons rfl ?_ | refine CO.nil ?_ | refine CV.seq ?_ | refine CV.region callees ?_ | refine CV.cond ?_ | refine CV.exit ?_ | refine ⟨(⟨by omega,by omega⟩:inI64 _),?_⟩ | refine ⟨_,fS foF0 (by decide),?_⟩ | refine ⟨_,cell_load ag25 hgx rfl,?_⟩ | refine ⟨_,cs_len hq.row,?_⟩ | (refine ⟨fun _=>?_,fun _=>?_⟩<;>try (exfalso; omega)) | fail
  refine (up_spec hB (by omega) hbx (by omega)).mono ?_
  rintro r H3 ⟨⟨t,rfl,t1,t2⟩,hb3,k3⟩
  have l3:=k3.1
  have hg3:=(k3.2 b1 (by omega) (by omega)).trans hgx
  have hz3:=(k3.2 b0 (by omega) (by omega)).trans hzx
  have hq3:OwnC H3 q cs H2.n:=OwnS.boxed hq k3 hbx
  have x3:=xx.trans k3
  clear hgx hzx
  repeat' first | refine CO.cons rfl ?_ | refine CO.nil ?_ | refine CV.block ?_ | fail
  refine CV.loopc ?_
  refine WCv.rounds callees false (α:=Value × List (Int × Int) × Int) (fun (tq,ts,k)=>[(0,bp b),(1,VJ n),(4,.pointer (some ⟨b0,0,none⟩)),(5,.pointer (some ⟨b1,0,none⟩)),(7,VJ cs.length),(8,VJ k)]) (fun (tq,ts,k) Hz=>(ts.length:Int) + k = t∧0<=k∧Hz.get b1 = some (.cells (Fl q tq) 25 1)∧Hz.get b0 = some (.cells (Fl nilS nilS) 25 1)∧OwnC Hz q cs H2.n∧OwnT Hz tq ts H3.n∧(∀ i,i < ts.length->(0<=ts[i]!.1∧ts[i]!.1 < cs.length)∧(0<=ts[i]!.2∧ts[i]!.2 < cs.length)∧ts[i]!.1 ≠ ts[i]!.2)∧Box b Hz∧KeepX b H Hz∧H3.n<=Hz.n) (fun (tq,ts,k)=>k.toNat) (nilS,[],t) (by repeat' first | exact trivial | refine ⟨rfl,?_⟩ | refine ⟨slot_int (by (try simp only [Int.toNat_natCast]); omega),?_⟩) ?_ ?_
  · exact ⟨by simp,by omega,hg3,hz3,hq3,OwnS.nil,fun i hi=>by simp at hi,hb3,x3,Nat.le_refl _⟩
  rintro ⟨tq,ts,k⟩ Hy ⟨htl,hk0,hgy,hzy,hqy,hty,hts,hby,xy,ly⟩ hBy
  have hqc:∀ c,blkOf q = some c->H2.n<=c∧c < H3.n:=fun c hc=>⟨(hq3.lt hc).1,(hq3.lt hc).2⟩
  by_cases hp:0 < k∧1 < cs.length
  · obtain ⟨hp1,hp2⟩:=hp
    repeat' first | refine CO.cons rfl ?_ | refine CO.nil ?_ | refine CV.seq ?_ | refine CV.region callees ?_ | refine CV.cond ?_ | refine CV.block ?_ | refine CV.skip ?_ | refine CO.consG rfl ?_ | (refine ⟨fun _=>?_,fun _=>?_⟩<;>try (exfalso; omega)) | fail
    refine (up_spec hB (by omega) hby (by omega)).mono ?_
    rintro r H4 ⟨⟨a,rfl,a1,a2⟩,hb4,k4⟩
    have l4:=k4.1
    have hg4:=(k4.2 b1 (by omega) (by omega)).trans hgy
    have hz4:=(k4.2 b0 (by omega) (by omega)).trans hzy
    have hq4:OwnC H4 q cs H2.n:=OwnS.boxed hqy k4 hby
    have ht4:OwnT H4 tq ts H3.n:=OwnS.boxed hty k4 hby
    have a3:a < cs.length:=by omega
    repeat' first | refine CO.cons rfl ?_ | refine CO.nil ?_ | refine CR.cons ?_ | refine ⟨(⟨by omega,by omega⟩:inI64 _),?_⟩ | refine CV.wideR callees (by decide +kernel) [(0,[]),(1,[]),(2,[]),(3,[]),(4,[]),(5,[]),(6,[]),(9,[]),(7,[1]),(8,[]),(10,[1]),(11,[]),(12,[1]),(13,[]),(14,[]),(15,[])] (by kernel_rfl) ?_ | refine ⟨_,fS foF1 (by decide),?_⟩ | refine ⟨_,cell_load ag26 hg4 rfl,?_⟩ | fail
    refine (any_spec hB (by omega) hb4 (by omega) (by omega) (by omega)).mono ?_
    rintro r H5 ⟨⟨d,rfl,d1,d2⟩,hb5,k5⟩
    have l5:=k5.1
    have hg5:=(k5.2 b1 (by omega) (by omega)).trans hg4
    have hz5:=(k5.2 b0 (by omega) (by omega)).trans hz4
    have hq5:OwnC H5 q cs H2.n:=OwnS.boxed hq4 k5 hb4
    have ht5:OwnT H5 tq ts H3.n:=OwnS.boxed ht4 k5 hb4
    repeat' first | refine CR.cons ?_ | refine ⟨(⟨by omega,by omega⟩:inI64 _),?_⟩ | refine ⟨_,cell_load ag26 hg5 rfl,?_⟩ | refine ⟨(rfl:_ = tq),?_⟩ | refine ⟨ht5.same,?_⟩ | fail
    refine (fit_spec (by omega) (by omega) (by omega) (by omega) (by omega)).mono ?_
    rintro r H6 ⟨rfl,rfl⟩
    obtain ⟨e,he,e1,e2,e3⟩:∃ e:Int,(if a + d < cs.length then a + d else a + d - cs.length) = e∧0<=e∧e < cs.length∧a ≠ e:=by
      refine ⟨_,rfl,?_⟩
      split<;>omega
    rw [he]
    have kM:=Keep.new H6 (.cells (Hl (a,e)) 99 2)
    have hgM:(H6.new (.cells (Hl (a,e)) 99 2)).get b1 = some (.cells (Fl q tq) 25 1):=(kM.2 b1 (by omega)).trans hg5
    repeat' first | refine CR.cons ?_ | refine ⟨_,cell_load ag26 hg5 rfl,?_⟩ | refine ⟨(rfl:_ = tq),?_⟩ | refine ⟨ht5.same,?_⟩ | refine ⟨_,bu82,?_⟩ | refine ⟨_,_,to_one,?_⟩ | fail
    refine to_push ht5 (by omega) (by omega) (by omega) ?_
    intro q9 H9 hq9 kb9 hf9
    have l9:=kb9.le
    have hqa:∀ c,blkOf tq = some c->H3.n<=c:=fun c hc=>(ht5.lt hc).1
    have hg9:=(kb9.get b1 (by omega) (fun h=>by have:=hqa _ h; omega)).trans hg5
    have hz9:=(kb9.get b0 (by omega) (fun h=>by have:=hqa _ h; omega)).trans hz5
    have hb9:=hb5.keepBut kb9 (fun h=>by have:=hqa _ h; omega)
    have hc9:OwnC H9 q cs H2.n:=ownS_keepBt hq5 kb9 fun c hc h=>by have:=hqa _ h; have:=hqc _ hc; omega
    have x9:=kb9.keepX (xy.trans (k4.trans k5)) fun c hc=>by have:=hqa _ hc; omega
    repeat' first | refine CR.cons ?_ | refine ⟨_,fS foF1 (by decide),?_⟩ | fail
    refine ⟨_,_,store_row (i:=1) sz26 hg9 (by show 1 < 2; decide) hq9.oneC,by omega,?_⟩
    generalize hsA:Heap.set H9 b1 _ = HA
    have hgA:HA.get b1 = some (.cells (Fl q q9) 25 1):=set_get hsA
    have nA:=set_n hsA
    have oA:=set_old hsA
    repeat' first | refine CO.cons rfl ?_ | refine CO.nil ?_ | refine CV.region callees ?_ | refine CR.nil ?_ | refine ⟨(⟨by omega,by omega⟩:inI64 _),?_⟩ | fail
    refine ⟨(q9,ts ++ [(a,e)],k - 1),(by repeat' first | exact trivial | refine ⟨rfl,?_⟩ | refine ⟨slot_int (by (try simp only [Int.toNat_natCast]); omega),?_⟩),(by (try dsimp only); omega),?_⟩
    have kA:KeepX b1 H9 HA:=⟨by omega,fun c hc hcl=>oA c hcl⟩
    exact ⟨by simp; omega,by omega,hgA,(oA b0 (by omega)).trans hz9,OwnS.keepX hc9 kA hg9,OwnS.keepX hq9 kA hg9,getAt_snoc (P:=fun p:Int × Int=>(0<=p.1∧p.1 < cs.length)∧(0<=p.2∧p.2 < cs.length)∧p.1 ≠ p.2) hts ⟨⟨a1,a3⟩,⟨e1,e2⟩,e3⟩,hb9.put (by omega) oA nA,KeepX.put x9 (by omega) oA nA,by omega⟩
  · have hfin:FOk cs ts:=⟨by omega,fun i hi=>(hcs i hi).toCoOk,by omega,hts⟩
    repeat' first | refine CO.cons rfl ?_ | refine CO.nil ?_ | refine CV.seq ?_ | refine CV.region callees ?_ | refine CV.cond ?_ | refine CV.exit ?_ | refine CO.consG rfl ?_ | refine ⟨_,ld28 hgy,?_⟩ | (refine ⟨fun _=>?_,fun _=>?_⟩<;>try (exfalso; omega)) | fail
    · refine ⟨_,_,st28 hqy.oneC hty.oneC hzy,by omega,?_⟩
      generalize hs5:Heap.set Hy b0 _ = H5
      have hg5:H5.get b0 = some (.cells (Fl q tq) 25 1):=set_get hs5
      have n5:=set_n hs5
      have o5:=set_old hs5
      repeat' first | refine CO.nil ?_ | refine CV.ret ?_ | fail
      have kA:KeepX b0 Hy H5:=⟨by omega,fun c hc hcl=>o5 c hcl⟩
      exact ⟨_,ld28 hg5,rfl,⟨q,tq,cs,ts,rfl,OwnS.low (OwnS.keepX hqy kA hzy) (by omega),OwnS.low (OwnS.keepX hty kA hzy) (by omega),hfin,by omega,hcs⟩,hby.put (by omega) o5 n5,KeepX.put xy (by omega) o5 n5⟩
    · refine ⟨_,_,st28 hqy.oneC hty.oneC hzy,by omega,?_⟩
      generalize hs5:Heap.set Hy b0 _ = H5
      have hg5:H5.get b0 = some (.cells (Fl q tq) 25 1):=set_get hs5
      have n5:=set_n hs5
      have o5:=set_old hs5
      repeat' first | refine CO.nil ?_ | refine CV.ret ?_ | fail
      have kA:KeepX b0 Hy H5:=⟨by omega,fun c hc hcl=>o5 c hcl⟩
      exact ⟨_,ld28 hg5,rfl,⟨q,tq,cs,ts,rfl,OwnS.low (OwnS.keepX hqy kA hzy) (by omega),OwnS.low (OwnS.keepX hty kA hzy) (by omega),hfin,by omega,hcs⟩,hby.put (by omega) o5 n5,KeepX.put xy (by omega) o5 n5⟩
theorem foR0:fieldOff Try.prog 71 0 = some (0,1):=by kernel_rfl
theorem foR1:fieldOff Try.prog 71 1 = some (1,1):=by kernel_rfl
theorem allocRv {H:Heap} {c t:Value} (h1:c.cells.toList = [c]) (h2:t.cells.toList = [t]):anew H (Value.cells (Fv c t)).toList 71 1 = H.new (.cells (Fl c t) 71 1):=by
  have:(Value.cells (Fv c t)).toList = c.cells.toList ++ (t.cells.toList ++ []):=by
    rw [h1,h2]; rfl
  rw [this,h1,h2]; rfl
theorem row_cells {H:Heap} {v:Value} {vs:List Value} (h:Row H v vs):v.cells.toList = [v]:=by
  rcases h with ⟨rfl,_⟩ | ⟨rfl,_⟩ | ⟨_,_,_,_,_,_,rfl,_⟩<;>rfl
theorem ag22h:isAggB Try.prog 33 = some false:=by kernel_rfl
theorem ag4h:isAggB Try.prog 4 = some false:=by kernel_rfl
theorem cs_lit {H:Heap} {v:Value} {l:List Co} (h:RowS 7 H v (l.map Col)) {j:Nat} (hj:j < l.length):aload Try.prog 4 H (fieldOf (elemS v 7 j) 6) = some (.bool l[j]!.lt):=h.fload ag4h (j:=j) (o:=6) (r:=Col l[j]!) (col_at hj) rfl
theorem ts_a {H:Heap} {v:Value} {l:List (Int × Int)} (h:RowS 2 H v (l.map Hl)) {j:Nat} (hj:j < l.length):aload Try.prog 3 H (fieldOf (elemS v 2 j) 0) = some (VJ (l[j]!).1):=h.fload ag3 (j:=j) (o:=0) (r:=Hl l[j]!) (hl_at hj) rfl
theorem ts_b {H:Heap} {v:Value} {l:List (Int × Int)} (h:RowS 2 H v (l.map Hl)) {j:Nat} (hj:j < l.length):aload Try.prog 3 H (fieldOf (elemS v 2 j) 1) = some (VJ (l[j]!).2):=h.fload ag3 (j:=j) (o:=1) (r:=Hl l[j]!) (hl_at hj) rfl
theorem ts_f {H:Heap} {v:Value} {l:List (Int × Int)} (h:RowS 2 H v (l.map Hl)) {f o n j:Nat} (hf:fieldOff Try.prog 99 f = some (o,n)) (hn:n ≠ 0) (hj:j < l.length):afieldAddr Try.prog 99 (elemS v 2 j) f = some (fieldOf (elemS v 2 j) o):=h.faddr hf hn (by rw [List.length_map]; exact hj)
theorem map_at {α:Type} [Inhabited α] {f:α->Int} {l:List α} {i:Nat} (h:i < l.length):(l.map f)[i]! = f l[i]!:=by
  rw [getElem!_pos _ i (by simpa using h),List.getElem_map,getElem!_pos l i h]
theorem mem_at2 {l:List (Int × Int)} {i:Nat} (h:i < l.length):((l[i]!).1,(l[i]!).2) ∈ l:=by
  show l[i]! ∈ l
  rw [getElem!_pos l i h]; exact List.getElem_mem h
end Go.Proofs.Ytglkphjjinmgmaa
