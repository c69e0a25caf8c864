/- Several texts in one. -/
import Derived.Test.YtglkphjjinmgmaaM2h
set_option linter.unusedVariables false
set_option linter.unusedSimpArgs false
namespace Go.Proofs.Ytglkphjjinmgmaa
open Go.AI
theorem un53:Try.prog.underlying 30 = some (.slice 82):=by kernel_rfl
theorem ag62:isAggB Try.prog 82 = some true:=by kernel_rfl
theorem sz62:sizeB Try.prog 82 = some 3:=by kernel_rfl
theorem ag53:isAggB Try.prog 30 = some false:=by kernel_rfl
theorem foO0:fieldOff Try.prog 82 0 = some (0,1):=by kernel_rfl
theorem foO1:fieldOff Try.prog 82 1 = some (1,1):=by kernel_rfl
theorem foO2:fieldOff Try.prog 82 2 = some (2,1):=by kernel_rfl
theorem zc62:zeroCells Try.prog 82 = some (Pol ⟨0,0,0⟩):=by kernel_rfl
theorem al62 {H:Heap}:sAlloc Try.prog H 82 = some (.pointer (some ⟨H.n,0,none⟩),H.new (.cells (Pol ⟨0,0,0⟩) 82 1),H.n):=alloc_of zc62
theorem st62 {H:Heap} {b k:Nat} {x y:Po} {e:TypeId} (hg:H.get b = some (.cells (Pol x) e (k + 1))):astore Try.prog 82 H (Pov y) (.pointer (some ⟨b,0,none⟩)) = some (H.set b (.cells (Pol y) e (k + 1)),b):=store_all (vs:=Pol y) hg rfl sz62 rfl
theorem po_at {l:List Po} {j:Nat} (hj:j < l.length):(l.map Pol)[j]? = some (Pol l[j]!):=by rw [List.getElem?_map,List.getElem?_eq_getElem hj,getElem!_pos l j hj]; rfl
theorem po_len {H:Heap} {v:Value} {l:List Po} (h:RowS 3 H v (l.map Pol)):alen Try.prog H 30 v = some (.int .i64 l.length):=by
  have:=h.alen un53; rwa [List.length_map] at this
theorem po_addr {H:Heap} {v:Value} {l:List Po} (h:RowS 3 H v (l.map Pol)) {n:Int} (h0:0<=n) (h1:n < l.length):aindexAddr Try.prog 30 v (.int .i64 n) = some (elemS v 3 n.toNat):=h.addr un53 sz62 h0 (by rw [List.length_map]; exact h1)
theorem po_load {H:Heap} {v:Value} {l:List Po} (h:RowS 3 H v (l.map Pol)) {j:Nat} (hj:j < l.length):aload Try.prog 82 H (elemS v 3 j) = some (Pov l[j]!):=h.load ag62 sz62 (po_at hj)
theorem po_f {H:Heap} {v:Value} {l:List Po} (h:RowS 3 H v (l.map Pol)) {f o n j:Nat} (hf:fieldOff Try.prog 82 f = some (o,n)) (hn:n ≠ 0) (hj:j < l.length):afieldAddr Try.prog 82 (elemS v 3 j) f = some (fieldOf (elemS v 3 j) o):=h.faddr hf hn (by rw [List.length_map]; exact hj)
theorem po_min {H:Heap} {v:Value} {l:List Po} (h:RowS 3 H v (l.map Pol)) {j:Nat} (hj:j < l.length):aload Try.prog 3 H (fieldOf (elemS v 3 j) 0) = some (VJ l[j]!.mi):=h.fload ag3 (j:=j) (o:=0) (r:=Pol l[j]!) (po_at hj) rfl
def watN (w:Int) (ps:List Po) (i:Nat):Int:=w + sumI ((ps.map (·.la)).take i)
theorem map_atL {l:List Po} {i:Nat} (h:i < l.length):(l.map (·.la))[i]! = l[i]!.la:=by
  rw [getElem!_pos _ i (by simpa using h),getElem!_pos l i h]; simp
theorem watN_succ {w:Int} {ps:List Po} {i:Nat} (h:i < ps.length):watN w ps (i + 1) = watN w ps i + ps[i]!.la:=by
  unfold watN
  rw [sumI_take (by rw [List.length_map]; exact h),map_atL h]; omega
theorem watN_zero {w:Int} {ps:List Po}:watN w ps 0 = w:=by simp [watN,sumI]
structure POk (w:Int) (ps:List Po):Prop where
  n:ps.length<=20
  mi:∀ i,i < ps.length->0<=ps[i]!.mi∧ps[i]!.mi<=300
  la:∀ i,i < ps.length->-50<=ps[i]!.la∧ps[i]!.la<=50∧ps[i]!.la ≠ 0
  wm:∀ i,i < ps.length->0<=ps[i]!.wm∧ps[i]!.wm<=1000
  up:∀ i,i + 1 < ps.length->ps[i]!.mi<=ps[i + 1]!.mi
  wa:∀ i,i<=ps.length->1<=watN w ps i∧watN w ps i<=50
set_option maxHeartbeats 4000000 in
set_option maxRecDepth 100000 in
theorem checkPours_ok {B:Nat} {H:Heap} {k:Ke} {pv:Value} {ps:List Po} (hB:B<=H.n) (hk:KOk k) (hp:RowS 3 H pv (ps.map Pol)) (ho:POk k.wa ps) :
    CallB Try.prog B 31 [Kev k,pv] H (fun r H'=>r = VJ 0∧Keep H H'):=by
  have hn20:=ho.n
  refine CV.enter callees false rfl Try.func31 rfl (by kernel_rfl) (Nat.le_of_ble_eq_true rfl) hB ?_
  repeat' first | refine CO.cons rfl ?_ | refine CV.seq ?_ | refine CV.region callees ?_ | fail
  refine ⟨(by simp only [notTuple]),?_⟩
  rw [boxKe]
  generalize hs0:Heap.new H _ = H0
  have hg0:=new_get hs0
  have k0:=new_keep hs0
  have n0:=new_n hs0
  obtain ⟨b0,hbn0⟩:∃ b,Heap.n H = b:=⟨_,rfl⟩
  rw [hbn0] at hg0 n0 ⊢
  repeat' first | refine CO.cons rfl ?_ | refine CO.nil ?_ | refine CV.seq ?_ | refine CV.region callees ?_ | refine ⟨_,agg_load (n:=8) (by kernel_rfl) (by kernel_rfl) hg0 (Nat.le_of_ble_eq_true rfl),?_⟩ | fail
  refine (checkKettle_ok (by omega) hk).mono ?_
  rintro r H1 ⟨rfl,k1⟩
  have l1:=k1.1
  have hg1:=(k1.2 b0 (by omega)).trans hg0
  have k01:=k0.trans k1
  have hp1:=hp.keep k01
  repeat' first | refine CO.cons rfl ?_ | refine CO.nil ?_ | refine CV.seq ?_ | refine CV.region callees ?_ | refine CV.cond ?_ | refine CV.block ?_ | refine CV.skip ?_ | refine ⟨_,po_len hp1,?_⟩ | refine ⟨_,fS foK0 (by decide),?_⟩ | refine ⟨_,cell_load ag3 hg1 rfl,?_⟩ | (refine ⟨fun _=>?_,fun _=>?_⟩<;>try (exfalso; omega)) | fail
  have hwz:=watN_zero (w:=k.wa) (ps:=ps)
  refine CV.loopc ?_
  refine WCv.rounds callees false (α:=Nat) (fun i=>[(1,pv),(6,VJ (watN k.wa ps i)),(19,pv),(20,VJ ps.length),(21,VJ i)]) (fun i Hz=>i<=ps.length∧Keep H Hz) (fun i=>ps.length - i) (0) (by repeat' first | exact trivial | refine ⟨rfl,?_⟩ | refine ⟨slot_int (by (try simp only [Int.toNat_natCast]); omega),?_⟩) ?_ ?_
  · exact ⟨by omega,k01⟩
  rintro i Hx ⟨hi,kx⟩ hBx
  by_cases hi2:i < ps.length
  · have hpx:=hp.keep kx
    have hmi:=ho.mi i hi2
    have hla:=ho.la i hi2
    have hwm:=ho.wm i hi2
    have hwa:=ho.wa (i + 1) (by omega)
    have hwi:=ho.wa i (by omega)
    have hws:=watN_succ (w:=k.wa) hi2
    repeat' first | refine CO.cons rfl ?_ | refine CO.nil ?_ | refine CV.seq ?_ | refine CV.region callees ?_ | refine CV.cond ?_ | refine CV.block ?_ | refine CV.skip ?_ | refine ⟨_,po_addr hpx (by omega) (by omega),?_⟩ | refine ⟨_,po_load hpx hi2,?_⟩ | refine ⟨_,_,al62,?_⟩ | (refine ⟨fun _=>?_,fun _=>?_⟩<;>try (exfalso; omega)) | fail
    generalize hs2:Heap.new Hx _ = H2
    have hg2:=new_get hs2
    have k2:=new_keep hs2
    have n2:=new_n hs2
    obtain ⟨b2,hbn2⟩:∃ b,Heap.n Hx = b:=⟨_,rfl⟩
    rw [hbn2] at hg2 n2 ⊢
    repeat' first | fail
    refine ⟨_,_,st62 hg2,by omega,?_⟩
    generalize hs3:Heap.set H2 b2 _ = H3
    have hg3:H3.get b2 = some (.cells (Pol ps[i]!) 82 1):=set_get hs3
    have n3:=set_n hs3
    have o3:=set_old hs3
    have k3:Keep Hx H3:=keep_put k2 (by omega) o3 n3
    have hp3:=hpx.keep k3
    repeat' first | refine CO.cons rfl ?_ | refine CO.nil ?_ | refine CV.seq ?_ | refine CV.region callees ?_ | refine ⟨_,fS foO0 (by decide),?_⟩ | refine ⟨_,cell_load ag3 hg3 rfl,?_⟩ | fail
    refine (isWithin_yes (by omega) ⟨by omega,by omega⟩).mono ?_
    rintro r H4 ⟨rfl,rfl⟩
    repeat' first | refine CO.cons rfl ?_ | refine CO.consG rfl ?_ | refine ⟨_,fS foO1 (by decide),?_⟩ | refine ⟨_,cell_load ag3 hg3 rfl,?_⟩ | fail
    refine (isWithin_yes (by omega) ⟨by omega,by omega⟩).mono ?_
    rintro r H4 ⟨rfl,rfl⟩
    repeat' first | refine CO.cons rfl ?_ | refine CO.consG rfl ?_ | refine ⟨_,fS foO1 (by decide),?_⟩ | refine ⟨_,fS foO2 (by decide),?_⟩ | refine ⟨_,cell_load ag3 hg3 rfl,?_⟩ | (refine ⟨fun _=>?_,fun _=>?_⟩<;>try (exfalso; omega)) | fail
    refine (isWithin_yes (by omega) ⟨by omega,by omega⟩).mono ?_
    rintro r H4 ⟨rfl,rfl⟩
    by_cases h0:i = 0
    · repeat' first | refine CO.cons rfl ?_ | refine CO.nil ?_ | refine CV.seq ?_ | refine CV.region callees ?_ | refine CV.cond ?_ | refine CV.skip ?_ | refine CV.draw callees (by decide +kernel) ?_ | refine CH.cons rfl ?_ | refine CH.nil ?_ | refine CO.consG rfl ?_ | refine CH.consG rfl ?_ | refine ⟨(⟨by omega,by omega⟩:inI64 _),?_⟩ | refine ⟨_,fS foO1 (by decide),?_⟩ | refine ⟨_,cell_load ag3 hg3 rfl,?_⟩ | (refine ⟨fun _=>?_,fun _=>?_⟩<;>try (exfalso; omega)) | fail
      refine (isWithin_yes (by omega) ⟨by omega,by omega⟩).mono ?_
      rintro r H4 ⟨rfl,rfl⟩
      repeat' first | refine CO.cons rfl ?_ | refine CO.nil ?_ | refine CV.region callees ?_ | refine CV.cond ?_ | refine CV.skip ?_ | refine ⟨(⟨by omega,by omega⟩:inI64 _),?_⟩ | fail
      refine ⟨i + 1,(by repeat' first | exact trivial | refine ⟨rfl,?_⟩ | refine ⟨slot_int (by (try simp only [Int.toNat_natCast]); omega),?_⟩),(by (try dsimp only); omega),?_⟩
      exact ⟨by omega,kx.trans k3⟩
    · have hix:((i:Int) - 1).toNat = i - 1:=by omega
      have hup:ps[((i:Int) - 1).toNat]!.mi<=ps[i]!.mi:=by
        have:=ho.up (i - 1) (by omega)
        rw [show i - 1 + 1 = i by omega] at this
        rw [hix]; exact this
      repeat' first | refine CO.cons rfl ?_ | refine CO.nil ?_ | refine CV.seq ?_ | refine CV.region callees ?_ | refine CV.cond ?_ | refine CV.skip ?_ | refine CV.draw callees (by decide +kernel) ?_ | refine CH.cons rfl ?_ | refine CH.nil ?_ | refine CO.consG rfl ?_ | refine CH.consG rfl ?_ | refine ⟨(⟨by omega,by omega⟩:inI64 _),?_⟩ | refine ⟨_,fS foO0 (by decide),?_⟩ | refine ⟨_,fS foO1 (by decide),?_⟩ | refine ⟨_,cell_load ag3 hg3 rfl,?_⟩ | refine ⟨_,po_addr hp3 (by omega) (by omega),?_⟩ | refine ⟨_,po_f hp3 foO0 (by decide) (by omega),?_⟩ | refine ⟨_,po_min hp3 (by omega),?_⟩ | (refine ⟨fun _=>?_,fun _=>?_⟩<;>try (exfalso; omega)) | fail
      refine (isWithin_yes (by omega) ⟨by omega,by omega⟩).mono ?_
      rintro r H4 ⟨rfl,rfl⟩
      repeat' first | refine CO.cons rfl ?_ | refine CO.nil ?_ | refine CV.region callees ?_ | refine CV.cond ?_ | refine CV.skip ?_ | refine ⟨(⟨by omega,by omega⟩:inI64 _),?_⟩ | fail
      refine ⟨i + 1,(by repeat' first | exact trivial | refine ⟨rfl,?_⟩ | refine ⟨slot_int (by (try simp only [Int.toNat_natCast]); omega),?_⟩),(by (try dsimp only); omega),?_⟩
      exact ⟨by omega,kx.trans k3⟩
  repeat' first | refine CO.cons rfl ?_ | refine CO.nil ?_ | refine CV.seq ?_ | refine CV.region callees ?_ | refine CV.cond ?_ | refine CV.exit ?_ | refine CV.ret ?_ | (refine ⟨fun _=>?_,fun _=>?_⟩<;>try (exfalso; omega)) | fail
  exact ⟨rfl,rfl,kx⟩
theorem ag98:isAggB Try.prog 116 = some true:=by kernel_rfl
theorem sz98:sizeB Try.prog 116 = some 10:=by kernel_rfl
theorem zc98:zeroCells Try.prog 116 = some (Bol ⟨0,0,0,0,0,0,0,0⟩ nilS nilS):=by kernel_rfl
theorem al98 {H:Heap}:sAlloc Try.prog H 116 = some (.pointer (some ⟨H.n,0,none⟩),H.new (.cells (Bol ⟨0,0,0,0,0,0,0,0⟩ nilS nilS) 116 1),H.n):=alloc_of zc98
theorem ld98 {H:Heap} {b:Nat} {k:Ke} {c p:Value} {e:TypeId} {q:Nat} (hg:H.get b = some (.cells (Bol k c p) e q)):aload Try.prog 116 H (.pointer (some ⟨b,0,none⟩)) = some (Bov k c p):=agg_load ag98 sz98 hg (Nat.le_refl _)
theorem st98 {H:Heap} {b q:Nat} {k k':Ke} {c p c' p':Value} {e:TypeId} (h1:oneC c' = true) (h2:oneC p' = true) (hg:H.get b = some (.cells (Bol k c p) e (q + 1))):astore Try.prog 116 H (Bov k' c' p') (.pointer (some ⟨b,0,none⟩)) = some (H.set b (.cells (Bol k' c' p') e (q + 1)),b):=store_all (vs:=Bol k' c' p') hg rfl sz98 (by
  have:(Bol k' c' p').all oneC = (oneC c' && (oneC p' && true)):=rfl
  rw [this,h1,h2]; rfl)
theorem bu98x {k:Ke} {x y:Option Addr} {n m c d:Nat}:abuild Try.prog 116 [(0,Kev k),(1,.slice x n c),(2,.slice y m d)] = some (Bov k (.slice x n c) (.slice y m d)):=by kernel_rfl
theorem RowS.isl {s:Nat} {H:Heap} {v:Value} {rs:List (List Value)} (h:RowS s H v rs):∃ x n c,v = .slice x n c:=by
  rcases h.2 with ⟨rfl,_⟩ | ⟨rfl,_⟩ | ⟨_,_,_,_,_,_,rfl,_⟩<;>exact ⟨_,_,_,rfl⟩
theorem bu98 {s s':Nat} {H H':Heap} {rs rs':List (List Value)} {k:Ke} {c p:Value} (h1:RowS s H c rs) (h2:RowS s' H' p rs'):abuild Try.prog 116 [(0,Kev k),(1,c),(2,p)] = some (Bov k c p):=by
  obtain ⟨_,_,_,rfl⟩:=RowS.isl h1
  obtain ⟨_,_,_,rfl⟩:=RowS.isl h2
  exact bu98x
set_option maxHeartbeats 4000000 in
set_option maxRecDepth 100000 in
theorem boilingOf_spec {B:Nat} {H:Heap} {k:Ke} {cv tv pv:Value} {cs:List Co} {ts:List (Int × Int)} {ps:List Po} {B0 B1:List Int} (hB:B<=H.n) (hk:KOk k) (hc:RowS 7 H cv (cs.map Col)) (ht:RowS 2 H tv (ts.map Hl)) (hp:RowS 3 H pv (ps.map Pol)) (ho:POk k.wa ps) (hf:FOk cs ts) (h0:IsBeg 0 cs ts B0) (h1:IsBeg 1 cs ts B1) :
    CallB Try.prog B 84 [Kev k,Fv cv tv,pv] H (fun r H'=>(∃ ev,r = .tuple #[Bov k ev pv,VJ 0]∧OwnE H' ev (emL cs B0 B1) H.n)∧Keep H H'):=by
  refine CV.enter callees false rfl Try.func84 rfl (by kernel_rfl) (Nat.le_of_ble_eq_true rfl) hB ?_
  repeat' first | refine CO.cons rfl ?_ | refine CV.seq ?_ | refine CV.region callees ?_ | fail
  refine ⟨(by simp only [notTuple]),?_⟩
  rw [boxKe]
  generalize hs0:Heap.new H _ = H0
  have hg0:=new_get hs0
  have k0:=new_keep hs0
  have n0:=new_n hs0
  obtain ⟨b0,hbn0⟩:∃ b,Heap.n H = b:=⟨_,rfl⟩
  rw [hbn0] at hg0 n0 ⊢
  repeat' first | refine CO.cons rfl ?_ | fail
  refine ⟨(by simp only [notTuple]),?_⟩
  rw [allocFv hc.cells.1 ht.cells.1]
  generalize hs1:Heap.new H0 _ = H1
  have hg1:=new_get hs1
  have k1:=new_keep hs1
  have n1:=new_n hs1
  obtain ⟨b1,hbn1⟩:∃ b,Heap.n H0 = b:=⟨_,rfl⟩
  rw [hbn1] at hg1 n1 ⊢
  repeat' first | refine CO.cons rfl ?_ | refine CO.nil ?_ | refine CV.seq ?_ | refine CV.region callees ?_ | refine ⟨_,_,al98,?_⟩ | fail
  generalize hs2:Heap.new H1 _ = H2
  have hg2:=new_get hs2
  have k2:=new_keep hs2
  have n2:=new_n hs2
  obtain ⟨b2,hbn2⟩:∃ b,Heap.n H1 = b:=⟨_,rfl⟩
  rw [hbn2] at hg2 n2 ⊢
  have k02:=(k0.trans k1).trans k2
  have hk2:=(k2.2 b0 (by omega)).trans ((k1.2 b0 (by omega)).trans hg0)
  have hr2:=(k2.2 b1 (by omega)).trans hg1
  repeat' first | refine CO.cons rfl ?_ | refine ⟨_,agg_load (n:=8) (by kernel_rfl) (by kernel_rfl) hk2 (Nat.le_of_ble_eq_true rfl),?_⟩ | fail
  refine (checkPours_ok (by omega) hk (hp.keep k02) ho).mono ?_
  rintro r H3 ⟨rfl,k3⟩
  have l3:=k3.1
  have k03:=k02.trans k3
  have hr3:=(k3.2 b1 (by omega)).trans hr2
  have hk3:=(k3.2 b0 (by omega)).trans hk2
  have hg3:=(k3.2 b2 (by omega)).trans hg2
  repeat' first | refine CO.cons rfl ?_ | refine CO.nil ?_ | refine CV.seq ?_ | refine CV.region callees ?_ | refine CV.cond ?_ | refine CV.skip ?_ | refine ⟨_,agg_load ag28 sz28 hr3 (Nat.le_refl _),?_⟩ | (refine ⟨fun _=>?_,fun _=>?_⟩<;>try (exfalso; omega)) | fail
  refine (check_ok (cs:=cs) (ts:=ts) (by omega) (hc.keep k03) (ht.keep k03) hf).mono ?_
  rintro r H4 ⟨rfl,k4⟩
  have l4:=k4.1
  have k04:=k03.trans k4
  have hr4:=(k4.2 b1 (by omega)).trans hr3
  have hk4:=(k4.2 b0 (by omega)).trans hk3
  have hg4:=(k4.2 b2 (by omega)).trans hg3
  repeat' first | refine CO.cons rfl ?_ | refine CO.nil ?_ | refine CV.seq ?_ | refine CV.region callees ?_ | refine CV.cond ?_ | refine CV.skip ?_ | (refine ⟨fun _=>?_,fun _=>?_⟩<;>try (exfalso; omega)) | fail
  refine CV.mX callees (by decide +kernel) [(0,[]),(1,[]),(3,[]),(2,[0]),(4,[]),(5,[]),(6,[])] (by kernel_rfl) ?_
  repeat' first | refine CR.cons ?_ | refine ⟨_,agg_load (n:=8) (by kernel_rfl) (by kernel_rfl) hk4 (Nat.le_of_ble_eq_true rfl),?_⟩ | refine ⟨_,agg_load ag28 sz28 hr4 (Nat.le_refl _),?_⟩ | fail
  refine (embers_spec (by omega) (hc.keep k04) (ht.keep k04) hf h0 h1).mono ?_
  rintro ev H5 ⟨he5,k5⟩
  have l5:=k5.1
  have hk5:=(k5.2 b0 (by omega)).trans hk4
  have hg5:=(k5.2 b2 (by omega)).trans hg4
  have k05:=k04.trans k5
  have hp5:=hp.keep k05
  repeat' first | refine CR.cons ?_ | refine ⟨_,agg_load (n:=8) (by kernel_rfl) (by kernel_rfl) hk5 (Nat.le_of_ble_eq_true rfl),?_⟩ | refine ⟨(rfl:_ = Value.agg _),?_⟩ | refine ⟨by simp [sameFix,sameFixL,sameFix1],?_⟩ | refine ⟨_,bu98 he5.row hp5,?_⟩ | fail
  refine ⟨_,_,st98 he5.oneC hp5.cells.2.1 hg5,by omega,?_⟩
  generalize hs6:Heap.set H5 b2 _ = H6
  have hg6:H6.get b2 = some (.cells (Bol k ev pv) 116 1):=set_get hs6
  have n6:=set_n hs6
  have o6:=set_old hs6
  repeat' first | refine CV.ret ?_ | refine CR.cons ?_ | refine CR.nil ?_ | fail
  have y6:KeepX b2 H5 H6:=by rw [<- hs6]; exact KeepX.set _ _
  exact ⟨_,ld98 hg6,rfl,⟨ev,rfl,OwnS.low (OwnS.keepX he5 y6 hg5) (by omega)⟩,keep_put k05 (by omega) o6 n6⟩
theorem mul_bd {a b A B:Int} (h0:0<=a) (h1:a<=A) (h2:0<=b) (h3:b<=B):0<=a * b∧a * b<=A * B :=
  ⟨Int.mul_nonneg h0 h2,Int.mul_le_mul h1 h3 h2 (Int.le_trans h0 h1)⟩
def rnd (n p:Int) (e:Int):Int:=if e = 1 then (n + (p - 1)) / p else n / p
set_option maxRecDepth 100000 in
theorem rounded_spec {B:Nat} {H:Heap} {n p e:Int} (hB:B<=H.n) (hn:0<=n) (hn1:n<=1000000000000000) (hp:1<=p) (hp1:p<=1000000000) :
    CallB Try.prog B 105 [VJ n,VJ p,VJ e] H (fun r H'=>r = VJ (rnd n p e)∧Keep H H'):=by
  have key:∀ x:Int,0<=x->x<=2000000000000000->IntKind.wrap .i64 (x.tdiv p) = x / p:=by
    intro x h0 h1
    rw [Int.tdiv_eq_ediv_of_nonneg h0]
    have h2:0<=x / p:=Int.ediv_nonneg h0 (by omega)
    have h3:x / p<=x:=Int.ediv_le_self _ h0
    exact wrapI (by omega) (by omega)
  refine CV.enter callees false rfl Try.func105 rfl (by kernel_rfl) (Nat.le_of_ble_eq_true rfl) hB ?_
  repeat' first | refine CO.cons rfl ?_ | refine CO.nil ?_ | refine CV.seq ?_ | refine CV.region callees ?_ | refine CV.cond ?_ | refine CV.skip ?_ | refine CV.ret ?_ | refine ⟨(⟨by omega,by omega⟩:inI64 _),?_⟩ | refine ⟨_,fun tm ha=>step1_quo rfl (ev_tmp ha rfl) (ev_tmp ha rfl) (by omega),?_⟩ | (refine ⟨fun _=>?_,fun _=>?_⟩<;>try (exfalso; omega)) | fail
  · exact ⟨rfl,by rw [key _ (by omega) (by omega),rnd,if_pos (by omega)],Keep.refl _⟩
  · exact ⟨rfl,by rw [key _ (by omega) (by omega),rnd,if_neg (by omega)],Keep.refl _⟩
theorem rnd_bd {n p e c:Int} (hn:0<=n) (hp:1<=p) (hc:n<=c * p):0<=rnd n p e∧rnd n p e<=c:=by
  have hp0:0 < p:=by omega
  unfold rnd
  split
  · refine ⟨Int.ediv_nonneg (by omega) (by omega),?_⟩
    have:n + (p - 1) < (c + 1) * p:=by rw [Int.add_mul]; omega
    have:=Int.ediv_lt_of_lt_mul hp0 this
    omega
  · exact ⟨Int.ediv_nonneg hn (by omega),Int.ediv_le_of_le_mul hp0 hc⟩
def pourN (w:Wt) (p:Po):Wt:=if 0 < p.la then ⟨w.la + p.la,rnd (w.w0 * w.la + p.wm * p.la) (w.la + p.la) 0,rnd (w.w1 * w.la + p.wm * p.la) (w.la + p.la) 1⟩ else ⟨w.la + p.la,w.w0,w.w1⟩
def hotS (k:Ke) (w h la:Int):Int:=w * la * 1000000 + h * k.ga * 1000000 - (w - k.ro) * k.lo * la
def hotN (k:Ke) (w:Wt) (h:Int × Int):Wt:=⟨w.la,min (rnd (hotS k w.w0 h.1 w.la) (w.la * 1000000) 0) 1000,min (rnd (hotS k w.w1 h.2 w.la) (w.la * 1000000) 1) 1000⟩
structure WOk (w:Wt):Prop where
  la:1<=w.la
  la':w.la<=50
  w0:0<=w.w0
  w0':w.w0<=1000
  w1:0<=w.w1
  w1':w.w1<=1000
theorem foW0:fieldOff Try.prog 138 0 = some (0,1):=by kernel_rfl
theorem foW1:fieldOff Try.prog 138 1 = some (1,2):=by kernel_rfl
theorem ag117:isAggB Try.prog 138 = some true:=by kernel_rfl
theorem sz117:sizeB Try.prog 138 = some 3:=by kernel_rfl
theorem zc117:zeroCells Try.prog 138 = some (Wtl ⟨0,0,0⟩):=by kernel_rfl
theorem al117 {H:Heap}:sAlloc Try.prog H 138 = some (.pointer (some ⟨H.n,0,none⟩),H.new (.cells (Wtl ⟨0,0,0⟩) 138 1),H.n):=alloc_of zc117
theorem st117 {H:Heap} {b k:Nat} {x y:Wt} {e:TypeId} (hg:H.get b = some (.cells (Wtl x) e (k + 1))):astore Try.prog 138 H (Wtv y) (.pointer (some ⟨b,0,none⟩)) = some (H.set b (.cells (Wtl y) e (k + 1)),b):=store_all (vs:=Wtl y) hg rfl sz117 rfl
theorem ld117 {H:Heap} {b:Nat} {x:Wt} {e:TypeId} {k:Nat} (hg:H.get b = some (.cells (Wtl x) e k)):aload Try.prog 138 H (.pointer (some ⟨b,0,none⟩)) = some (Wtv x):=agg_load ag117 sz117 hg (Nat.le_refl _)
theorem ixA {x y:Int}:aindex Try.prog 104 (Hv (x,y)) (VJ 0) = some (VJ x):=ix87a
theorem ixB {x y:Int}:aindex Try.prog 104 (Hv (x,y)) (VJ 1) = some (VJ y):=ix87b
theorem mul0 {a b A B:Int} (h1:-A<=a) (h2:a<=A) (h3:0<=b) (h4:b<=B) (hA:0<=A):-(A * B)<=a * b∧a * b<=A * B:=by
  have e1:a * b<=A * b:=Int.mul_le_mul_of_nonneg_right h2 h3
  have e2:A * b<=A * B:=Int.mul_le_mul_of_nonneg_left h4 hA
  have e3:-A * b<=a * b:=Int.mul_le_mul_of_nonneg_right h1 h3
  have e4:-A * b = -(A * b):=Int.neg_mul _ _
  omega
set_option maxHeartbeats 4000000 in
set_option maxRecDepth 100000 in
theorem poured_spec {B:Nat} {H:Heap} {w:Wt} {p:Po} (hB:B<=H.n) (hw:WOk w) (hp0:0<=p.wm) (hp1:p.wm<=1000) (hp2:-50<=p.la) (hp3:p.la<=50) (hl1:1<=w.la + p.la) (hl2:w.la + p.la<=50) :
    CallB Try.prog B 98 [Wtv w,Pov p] H (fun r H'=>r = Wtv (pourN w p)∧Keep H H'):=by
  obtain ⟨a1,a2,a3,a4,a5,a6⟩:=hw
  refine CV.enter callees false rfl Try.func98 rfl (by kernel_rfl) (Nat.le_of_ble_eq_true rfl) hB ?_
  repeat' first | refine CO.cons rfl ?_ | refine CV.seq ?_ | refine CV.region callees ?_ | fail
  refine ⟨(by simp only [notTuple]),?_⟩
  rw [boxWt]
  generalize hs0:Heap.new H _ = H0
  have hg0:=new_get hs0
  have k0:=new_keep hs0
  have n0:=new_n hs0
  obtain ⟨b0,hbn0⟩:∃ b,Heap.n H = b:=⟨_,rfl⟩
  rw [hbn0] at hg0 n0 ⊢
  repeat' first | refine CO.cons rfl ?_ | fail
  refine ⟨(by simp only [notTuple]),?_⟩
  rw [boxPo]
  generalize hs1:Heap.new H0 _ = H1
  have hg1:=new_get hs1
  have k1:=new_keep hs1
  have n1:=new_n hs1
  obtain ⟨b1,hbn1⟩:∃ b,Heap.n H0 = b:=⟨_,rfl⟩
  rw [hbn1] at hg1 n1 ⊢
  repeat' first | refine CO.cons rfl ?_ | refine CO.nil ?_ | refine CV.seq ?_ | refine CV.region callees ?_ | refine ⟨_,_,al117,?_⟩ | fail
  generalize hs2:Heap.new H1 _ = H2
  have hg2:=new_get hs2
  have k2:=new_keep hs2
  have n2:=new_n hs2
  obtain ⟨b2,hbn2⟩:∃ b,Heap.n H1 = b:=⟨_,rfl⟩
  rw [hbn2] at hg2 n2 ⊢
  have k02:=(k0.trans k1).trans k2
  have hw2:=(k2.2 b0 (by omega)).trans ((k1.2 b0 (by omega)).trans hg0)
  have hp2':=(k2.2 b1 (by omega)).trans hg1
  repeat' first | refine CO.cons rfl ?_ | refine CO.nil ?_ | refine CV.seq ?_ | refine CV.region callees ?_ | refine CV.cond ?_ | refine CV.skip ?_ | refine ⟨(⟨by omega,by omega⟩:inI64 _),?_⟩ | refine ⟨_,fS foW0 (by decide),?_⟩ | refine ⟨_,fS foO1 (by decide),?_⟩ | refine ⟨_,cell_load ag3 hw2 rfl,?_⟩ | refine ⟨_,cell_load ag3 hp2' rfl,?_⟩ | (refine ⟨fun _=>?_,fun _=>?_⟩<;>try (exfalso; omega)) | fail
  · rename_i hpos
    have m0:=mul_bd a3 a4 (show 0<=w.la by omega) a2
    have m1:=mul_bd a5 a6 (show 0<=w.la by omega) a2
    have m2:=mul_bd hp0 hp1 (show 0<=p.la by omega) hp3
    repeat' first | refine CO.cons rfl ?_ | refine CO.nil ?_ | refine CV.block ?_ | refine ⟨_,fS foW1 (by decide),?_⟩ | refine ⟨_,agg_load ag87 sz87 hw2 (Nat.le_of_ble_eq_true rfl),?_⟩ | fail
    obtain ⟨r0,hr0⟩:∃ r,rnd (w.w0 * w.la + p.wm * p.la) (w.la + p.la) 0 = r:=⟨_,rfl⟩
    obtain ⟨r1,hr1⟩:∃ r,rnd (w.w1 * w.la + p.wm * p.la) (w.la + p.la) 1 = r:=⟨_,rfl⟩
    refine CV.loopc ?_
    refine WCv.rounds callees false (α:=Nat) (fun i=>[(2,.pointer (some ⟨b0,0,none⟩)),(3,.pointer (some ⟨b1,0,none⟩)),(4,.pointer (some ⟨b2,0,none⟩)),(5,VJ (w.la + p.la)),(17,Hv (w.w0,w.w1)),(18,VJ i)]) (fun i Hz=>i<=2∧Hz.get b0 = some (.cells (Wtl ⟨w.la,if 0 < i then r0 else w.w0,if 1 < i then r1 else w.w1⟩) 138 1)∧Hz.get b1 = some (.cells (Pol p) 82 1)∧Hz.get b2 = some (.cells (Wtl ⟨0,0,0⟩) 138 1)∧Keep H Hz∧b2 < Hz.n) (fun i=>2 - i) (0) (by repeat' first | exact trivial | refine ⟨rfl,?_⟩ | refine ⟨slot_int (by (try simp only [Int.toNat_natCast]); omega),?_⟩) ?_ ?_
    · exact ⟨by omega,hw2,hp2',hg2,k02,by omega⟩
    clear hw2 hp2' hg2
    rintro i Hx ⟨hi,hwx,hpx,hgx,kx,lx⟩ hBx
    by_cases hi2:i < 2
    · rcases (show i = 0 ∨ i = 1 by omega) with rfl | rfl
      · replace hwx:Hx.get b0 = some (.cells [VJ w.la,VJ w.w0,VJ w.w1] 138 1):=hwx
        repeat' first | refine CO.cons rfl ?_ | refine CO.nil ?_ | refine CV.seq ?_ | refine CV.region callees ?_ | refine CV.cond ?_ | refine CV.block ?_ | refine CV.skip ?_ | refine ⟨(⟨by omega,by omega⟩:inI64 _),?_⟩ | refine ⟨_,ixA,?_⟩ | refine ⟨_,fS foW0 (by decide),?_⟩ | refine ⟨_,fS foO1 (by decide),?_⟩ | refine ⟨_,fS foO2 (by decide),?_⟩ | refine ⟨_,cell_load ag3 hwx rfl,?_⟩ | refine ⟨_,cell_load ag3 hpx rfl,?_⟩ | (refine ⟨fun _=>?_,fun _=>?_⟩<;>try (exfalso; omega)) | fail
        refine (rounded_spec (by omega) (by omega) (by omega) (by omega) (by omega)).mono ?_
        rintro r H4 ⟨rfl,k4⟩
        have l4:=k4.1
        have hw4:=(k4.2 b0 (by omega)).trans hwx
        repeat' first | refine CO.cons rfl ?_ | refine ⟨_,fS foW1 (by decide),?_⟩ | fail
        refine ⟨_,_,store_row sz3 hw4 (Nat.le_of_ble_eq_true rfl) rfl,by omega,?_⟩
        generalize hs5:Heap.set H4 b0 _ = H5
        have hg5:H5.get b0 = some (.cells (Wtl ⟨w.la,rnd (w.w0 * w.la + p.wm * p.la) (w.la + p.la) 0,w.w1⟩) 138 1):=set_get hs5
        have n5:=set_n hs5
        have o5:=set_old hs5
        rw [hr0] at hg5
        repeat' first | refine CO.cons rfl ?_ | refine CO.nil ?_ | refine CV.region callees ?_ | refine ⟨(⟨by omega,by omega⟩:inI64 _),?_⟩ | fail
        refine ⟨(1),(by repeat' first | exact trivial | refine ⟨rfl,?_⟩ | refine ⟨slot_int (by (try simp only [Int.toNat_natCast]); omega),?_⟩),(by (try dsimp only); omega),?_⟩
        exact ⟨by omega,hg5,(o5 b1 (by omega)).trans ((k4.2 b1 (by omega)).trans hpx),(o5 b2 (by omega)).trans ((k4.2 b2 (by omega)).trans hgx),keep_put (kx.trans k4) (by omega) o5 n5,by omega⟩
      · replace hwx:Hx.get b0 = some (.cells [VJ w.la,VJ r0,VJ w.w1] 138 1):=hwx
        repeat' first | refine CO.cons rfl ?_ | refine CO.nil ?_ | refine CV.seq ?_ | refine CV.region callees ?_ | refine CV.cond ?_ | refine CV.block ?_ | refine CV.skip ?_ | refine ⟨(⟨by omega,by omega⟩:inI64 _),?_⟩ | refine ⟨_,ixB,?_⟩ | refine ⟨_,fS foW0 (by decide),?_⟩ | refine ⟨_,fS foO1 (by decide),?_⟩ | refine ⟨_,fS foO2 (by decide),?_⟩ | refine ⟨_,cell_load ag3 hwx rfl,?_⟩ | refine ⟨_,cell_load ag3 hpx rfl,?_⟩ | (refine ⟨fun _=>?_,fun _=>?_⟩<;>try (exfalso; omega)) | fail
        refine (rounded_spec (by omega) (by omega) (by omega) (by omega) (by omega)).mono ?_
        rintro r H4 ⟨rfl,k4⟩
        have l4:=k4.1
        have hw4:=(k4.2 b0 (by omega)).trans hwx
        repeat' first | refine CO.cons rfl ?_ | refine ⟨_,fS foW1 (by decide),?_⟩ | fail
        refine ⟨_,_,store_row sz3 hw4 (Nat.le_of_ble_eq_true rfl) rfl,by omega,?_⟩
        generalize hs5:Heap.set H4 b0 _ = H5
        have hg5:H5.get b0 = some (.cells (Wtl ⟨w.la,r0,rnd (w.w1 * w.la + p.wm * p.la) (w.la + p.la) 1⟩) 138 1):=set_get hs5
        have n5:=set_n hs5
        have o5:=set_old hs5
        rw [hr1] at hg5
        repeat' first | refine CO.cons rfl ?_ | refine CO.nil ?_ | refine CV.region callees ?_ | refine ⟨(⟨by omega,by omega⟩:inI64 _),?_⟩ | fail
        refine ⟨(2),(by repeat' first | exact trivial | refine ⟨rfl,?_⟩ | refine ⟨slot_int (by (try simp only [Int.toNat_natCast]); omega),?_⟩),(by (try dsimp only); omega),?_⟩
        exact ⟨by omega,hg5,(o5 b1 (by omega)).trans ((k4.2 b1 (by omega)).trans hpx),(o5 b2 (by omega)).trans ((k4.2 b2 (by omega)).trans hgx),keep_put (kx.trans k4) (by omega) o5 n5,by omega⟩
    have hie:i = 2:=by omega
    subst hie
    replace hwx:Hx.get b0 = some (.cells [VJ w.la,VJ r0,VJ r1] 138 1):=hwx
    repeat' first | refine CO.cons rfl ?_ | refine CO.nil ?_ | refine CV.seq ?_ | refine CV.region callees ?_ | refine CV.cond ?_ | refine CV.exit ?_ | refine ⟨_,fS foW0 (by decide),?_⟩ | (refine ⟨fun _=>?_,fun _=>?_⟩<;>try (exfalso; omega)) | fail
    refine ⟨_,_,store_row sz3 hwx (Nat.le_of_ble_eq_true rfl) rfl,by omega,?_⟩
    generalize hs6:Heap.set Hx b0 _ = H6
    have hg6:H6.get b0 = some (.cells (Wtl ⟨w.la + p.la,r0,r1⟩) 138 1):=set_get hs6
    have n6:=set_n hs6
    have o6:=set_old hs6
    have hg6':=(o6 b2 (by omega)).trans hgx
    repeat' first | refine CO.cons rfl ?_ | refine CO.nil ?_ | refine CV.seq ?_ | refine CV.region callees ?_ | refine ⟨_,ld117 hg6,?_⟩ | fail
    refine ⟨_,_,st117 hg6',by omega,?_⟩
    generalize hs7:Heap.set H6 b2 _ = H7
    have hg7:H7.get b2 = some (.cells (Wtl ⟨w.la + p.la,r0,r1⟩) 138 1):=set_get hs7
    have n7:=set_n hs7
    have o7:=set_old hs7
    repeat' first | refine CO.nil ?_ | refine CV.ret ?_ | fail
    exact ⟨_,ld117 hg7,rfl,by rw [pourN,if_pos hpos,hr0,hr1],keep_put (keep_put kx (by omega) o6 n6) (by omega) o7 n7⟩
  · rename_i hneg
    refine ⟨_,_,store_row sz3 hw2 (Nat.le_of_ble_eq_true rfl) rfl,by omega,?_⟩
    generalize hs6:Heap.set H2 b0 _ = H6
    have hg6:H6.get b0 = some (.cells (Wtl ⟨w.la + p.la,w.w0,w.w1⟩) 138 1):=set_get hs6
    have n6:=set_n hs6
    have o6:=set_old hs6
    have hg6':=(o6 b2 (by omega)).trans hg2
    repeat' first | refine CO.cons rfl ?_ | refine CO.nil ?_ | refine CV.seq ?_ | refine CV.region callees ?_ | refine ⟨_,ld117 hg6,?_⟩ | fail
    refine ⟨_,_,st117 hg6',by omega,?_⟩
    generalize hs7:Heap.set H6 b2 _ = H7
    have hg7:H7.get b2 = some (.cells (Wtl ⟨w.la + p.la,w.w0,w.w1⟩) 138 1):=set_get hs7
    have n7:=set_n hs7
    have o7:=set_old hs7
    repeat' first | refine CO.nil ?_ | refine CV.ret ?_ | fail
    exact ⟨_,ld117 hg7,rfl,by rw [pourN,if_neg hneg],keep_put (keep_put k02 (by omega) o6 n6) (by omega) o7 n7⟩
theorem pourN_ok {w:Wt} {p:Po} (hw:WOk w) (hp0:0<=p.wm) (hp1:p.wm<=1000) (hl1:1<=w.la + p.la) (hl2:w.la + p.la<=50):WOk (pourN w p)∧(pourN w p).la = w.la + p.la:=by
  obtain ⟨a1,a2,a3,a4,a5,a6⟩:=hw
  unfold pourN
  split
  · rename_i hpos
    have d:1000 * (w.la + p.la) = 1000 * w.la + 1000 * p.la:=Int.mul_add _ _ _
    have e0:w.w0 * w.la<=1000 * w.la:=Int.mul_le_mul_of_nonneg_right a4 (by omega)
    have e1:w.w1 * w.la<=1000 * w.la:=Int.mul_le_mul_of_nonneg_right a6 (by omega)
    have e2:p.wm * p.la<=1000 * p.la:=Int.mul_le_mul_of_nonneg_right hp1 (by omega)
    have z0:0<=w.w0 * w.la:=Int.mul_nonneg a3 (by omega)
    have z1:0<=w.w1 * w.la:=Int.mul_nonneg a5 (by omega)
    have z2:0<=p.wm * p.la:=Int.mul_nonneg hp0 (by omega)
    have b0:=rnd_bd (n:=w.w0 * w.la + p.wm * p.la) (p:=w.la + p.la) (e:=0) (c:=1000) (by omega) hl1 (by omega)
    have b1:=rnd_bd (n:=w.w1 * w.la + p.wm * p.la) (p:=w.la + p.la) (e:=1) (c:=1000) (by omega) hl1 (by omega)
    exact ⟨⟨hl1,hl2,b0.1,b0.2,b1.1,b1.2⟩,rfl⟩
  · exact ⟨⟨hl1,hl2,a3,a4,a5,a6⟩,rfl⟩
theorem hotS_bd {k:Ke} {w h la:Int} (hk:KOk k) (h1:0<=w) (h2:w<=1000) (h3:1<=la) (h4:la<=50) (h5:0<=h) (h6:h<=12000):0<=hotS k w h la∧hotS k w h la<=100000000000000:=by
  obtain ⟨b1,b2,b3,b4,b5,b6,b7,b8,b9,b10,b11,b12,b13,b14⟩:=hk
  have m1:=mul_bd h1 h2 (show 0<=la by omega) h4
  have m2:=mul_bd h5 h6 b11 b12
  have m3:=mul0 (a:=w - k.ro) (A:=1000) (by omega) (by omega) b13 b14 (by omega)
  have m4:=mul0 (a:=(w - k.ro) * k.lo) (A:=1000000000) (by omega) (by omega) (show 0<=la by omega) h4 (by omega)
  have key:(w - k.ro) * k.lo * la<=w * la * 1000000:=by
    have e1:(w - k.ro) * k.lo<=w * 1000000:=by
      by_cases hh:0<=w - k.ro
      · have:=Int.mul_le_mul_of_nonneg_left b14 hh
        omega
      · have:(w - k.ro) * k.lo<=0:=Int.mul_nonpos_of_nonpos_of_nonneg (by omega) b13
        omega
    have e2:=Int.mul_le_mul_of_nonneg_right e1 (show 0<=la by omega)
    have e3:w * 1000000 * la = w * la * 1000000:=by rw [Int.mul_assoc,Int.mul_comm 1000000 la,<- Int.mul_assoc]
    omega
  unfold hotS
  omega
theorem hotN_ok {k:Ke} {w:Wt} {h:Int × Int} (hw:WOk w) (hk:KOk k) (h1:0<=h.1) (h2:h.1<=12000) (h3:0<=h.2) (h4:h.2<=12000):WOk (hotN k w h):=by
  obtain ⟨a1,a2,a3,a4,a5,a6⟩:=hw
  have s0:=(hotS_bd hk a3 a4 a1 a2 h1 h2).1
  have s1:=(hotS_bd hk a5 a6 a1 a2 h3 h4).1
  have r0:0<=rnd (hotS k w.w0 h.1 w.la) (w.la * 1000000) 0:=by unfold rnd; split<;>exact Int.ediv_nonneg (by omega) (by omega)
  have r1:0<=rnd (hotS k w.w1 h.2 w.la) (w.la * 1000000) 1:=by unfold rnd; split<;>exact Int.ediv_nonneg (by omega) (by omega)
  exact ⟨a1,a2,by show 0<=min _ _; omega,by show min _ _<=1000; omega,by show 0<=min _ _; omega,by show min _ _<=1000; omega⟩
set_option maxHeartbeats 4000000 in
set_option maxRecDepth 100000 in
theorem heated_spec {B:Nat} {H:Heap} {k:Ke} {w:Wt} {h:Int × Int} (hB:B<=H.n) (hw:WOk w) (hk:KOk k) (hh1:0<=h.1) (hh2:h.1<=12000) (hh3:0<=h.2) (hh4:h.2<=12000) :
    CallB Try.prog B 99 [Wtv w,Kev k,Hv h] H (fun r H'=>r = Wtv (hotN k w h)∧Keep H H'):=by
  obtain ⟨g0,g1⟩:=h
  replace hh1:0<=g0:=hh1
  replace hh2:g0<=12000:=hh2
  replace hh3:0<=g1:=hh3
  replace hh4:g1<=12000:=hh4
  obtain ⟨a1,a2,a3,a4,a5,a6⟩:=hw
  have s0:=hotS_bd hk a3 a4 a1 a2 hh1 hh2
  have s1:=hotS_bd hk a5 a6 a1 a2 hh3 hh4
  have hS:∀ x y:Int,hotS k x y w.la = x * w.la * 1000000 + y * k.ga * 1000000 - (x - k.ro) * k.lo * w.la:=fun _ _=>rfl
  obtain ⟨b1,b2,b3,b4,b5,b6,b7,b8,b9,b10,b11,b12,b13,b14⟩:=hk
  have m0:=mul_bd a3 a4 (show 0<=w.la by omega) a2
  have m1:=mul_bd a5 a6 (show 0<=w.la by omega) a2
  have p0:=mul_bd hh1 hh2 b11 b12
  have p1:=mul_bd hh3 hh4 b11 b12
  have q0:=mul0 (a:=w.w0 - k.ro) (A:=1000) (by omega) (by omega) b13 b14 (by omega)
  have q1:=mul0 (a:=w.w1 - k.ro) (A:=1000) (by omega) (by omega) b13 b14 (by omega)
  have u0:=mul0 (a:=(w.w0 - k.ro) * k.lo) (A:=1000000000) (by omega) (by omega) (show 0<=w.la by omega) a2 (by omega)
  have u1:=mul0 (a:=(w.w1 - k.ro) * k.lo) (A:=1000000000) (by omega) (by omega) (show 0<=w.la by omega) a2 (by omega)
  refine CV.enter callees false rfl Try.func99 rfl (by kernel_rfl) (Nat.le_of_ble_eq_true rfl) hB ?_
  repeat' first | refine CO.cons rfl ?_ | refine CV.seq ?_ | refine CV.region callees ?_ | fail
  refine ⟨(by simp only [notTuple]),?_⟩
  rw [boxWt]
  generalize hs0:Heap.new H _ = H0
  have hg0:=new_get hs0
  have k0:=new_keep hs0
  have n0:=new_n hs0
  obtain ⟨b0,hbn0⟩:∃ b,Heap.n H = b:=⟨_,rfl⟩
  rw [hbn0] at hg0 n0 ⊢
  repeat' first | refine CO.cons rfl ?_ | fail
  refine ⟨(by simp only [notTuple]),?_⟩
  rw [boxKe]
  generalize hs1:Heap.new H0 _ = H1
  have hg1:=new_get hs1
  have k1:=new_keep hs1
  have n1:=new_n hs1
  obtain ⟨b1,hbn1⟩:∃ b,Heap.n H0 = b:=⟨_,rfl⟩
  rw [hbn1] at hg1 n1 ⊢
  repeat' first | refine CO.cons rfl ?_ | fail
  refine ⟨(by simp only [notTuple]),?_⟩
  rw [allocHv]
  generalize hs2:Heap.new H1 _ = H2
  have hg2:=new_get hs2
  have k2:=new_keep hs2
  have n2:=new_n hs2
  obtain ⟨b2,hbn2⟩:∃ b,Heap.n H1 = b:=⟨_,rfl⟩
  rw [hbn2] at hg2 n2 ⊢
  repeat' first | refine CO.cons rfl ?_ | refine CO.nil ?_ | refine CV.seq ?_ | refine CV.region callees ?_ | refine ⟨_,_,al117,?_⟩ | fail
  generalize hs3:Heap.new H2 _ = H3
  have hg3:=new_get hs3
  have k3:=new_keep hs3
  have n3:=new_n hs3
  obtain ⟨b3,hbn3⟩:∃ b,Heap.n H2 = b:=⟨_,rfl⟩
  rw [hbn3] at hg3 n3 ⊢
  have k03:=((k0.trans k1).trans k2).trans k3
  have hw3:=(k3.2 b0 (by omega)).trans ((k2.2 b0 (by omega)).trans ((k1.2 b0 (by omega)).trans hg0))
  have hk3:=(k3.2 b1 (by omega)).trans ((k2.2 b1 (by omega)).trans hg1)
  have hh3':H3.get b2 = some (.cells [VJ g0,VJ g1] 104 1):=(k3.2 b2 (by omega)).trans hg2
  repeat' first | refine CO.cons rfl ?_ | refine CO.nil ?_ | refine CV.block ?_ | refine ⟨_,fS foW1 (by decide),?_⟩ | refine ⟨_,agg_load ag87 sz87 hw3 (Nat.le_of_ble_eq_true rfl),?_⟩ | fail
  obtain ⟨r0,hr0⟩:∃ r,min (rnd (hotS k w.w0 g0 w.la) (w.la * 1000000) 0) 1000 = r:=⟨_,rfl⟩
  obtain ⟨r1,hr1⟩:∃ r,min (rnd (hotS k w.w1 g1 w.la) (w.la * 1000000) 1) 1000 = r:=⟨_,rfl⟩
  refine CV.loopc ?_
  refine WCv.rounds callees false (α:=Nat) (fun i=>[(3,.pointer (some ⟨b0,0,none⟩)),(4,.pointer (some ⟨b1,0,none⟩)),(5,.pointer (some ⟨b2,0,none⟩)),(6,.pointer (some ⟨b3,0,none⟩)),(11,Hv (w.w0,w.w1)),(12,VJ i)]) (fun i Hz=>i<=2∧Hz.get b0 = some (.cells (Wtl ⟨w.la,if 0 < i then r0 else w.w0,if 1 < i then r1 else w.w1⟩) 138 1)∧Hz.get b1 = some (.cells (Kel k) 29 1)∧Hz.get b2 = some (.cells [VJ g0,VJ g1] 104 1)∧Hz.get b3 = some (.cells (Wtl ⟨0,0,0⟩) 138 1)∧Keep H Hz∧b3 < Hz.n) (fun i=>2 - i) (0) (by repeat' first | exact trivial | refine ⟨rfl,?_⟩ | refine ⟨slot_int (by (try simp only [Int.toNat_natCast]); omega),?_⟩) ?_ ?_
  · exact ⟨by omega,hw3,hk3,hh3',hg3,k03,by omega⟩
  clear hw3 hk3 hh3' hg3
  rintro i Hx ⟨hi,hwx,hkx,hhx,hgx,kx,lx⟩ hBx
  by_cases hi2:i < 2
  · rcases (show i = 0 ∨ i = 1 by omega) with rfl | rfl
    · replace hwx:Hx.get b0 = some (.cells [VJ w.la,VJ w.w0,VJ w.w1] 138 1):=hwx
      have e0:=hS w.w0 g0
      repeat' first | refine CO.cons rfl ?_ | refine CO.nil ?_ | refine CV.seq ?_ | refine CV.region callees ?_ | refine CV.cond ?_ | refine CV.block ?_ | refine CV.skip ?_ | refine CV.draw callees (by decide +kernel) ?_ | refine CH.cons rfl ?_ | refine CH.nil ?_ | refine ⟨(⟨by omega,by omega⟩:inI64 _),?_⟩ | refine ⟨_,ixA,?_⟩ | refine ⟨_,fS foW0 (by decide),?_⟩ | refine ⟨_,fS foK2 (by decide),?_⟩ | refine ⟨_,fS foK3 (by decide),?_⟩ | refine ⟨_,fS foK4 (by decide),?_⟩ | refine ⟨_,cell_load ag3 hwx rfl,?_⟩ | refine ⟨_,cell_load ag3 hkx rfl,?_⟩ | refine ⟨_,cell_load ag3 hhx rfl,?_⟩ | (refine ⟨fun _=>?_,fun _=>?_⟩<;>try (exfalso; omega)) | fail
      refine (rounded_spec (by omega) (by rw [<- e0]; omega) (by rw [<- e0]; omega) (by omega) (by omega)).mono ?_
      rintro r H4 ⟨rfl,k4⟩
      rw [<- e0]
      have l4:=k4.1
      have hw4:=(k4.2 b0 (by omega)).trans hwx
      repeat' first | refine CO.cons rfl ?_ | refine ⟨_,fun tm ha=>step1_min rfl (ev_tmp ha rfl) rfl,?_⟩ | refine ⟨_,fS foW1 (by decide),?_⟩ | fail
      refine ⟨_,_,store_row sz3 hw4 (Nat.le_of_ble_eq_true rfl) rfl,by omega,?_⟩
      generalize hs5:Heap.set H4 b0 _ = H5
      have hg5:H5.get b0 = some (.cells ([VJ w.la,VJ (min (rnd (hotS k w.w0 g0 w.la) (w.la * 1000000) 0) 1000),VJ w.w1]) 138 1):=set_get hs5
      have n5:=set_n hs5
      have o5:=set_old hs5
      rw [hr0] at hg5
      repeat' first | refine CO.cons rfl ?_ | refine CO.nil ?_ | refine CV.region callees ?_ | refine ⟨(⟨by omega,by omega⟩:inI64 _),?_⟩ | fail
      refine ⟨(1),(by repeat' first | exact trivial | refine ⟨rfl,?_⟩ | refine ⟨slot_int (by (try simp only [Int.toNat_natCast]); omega),?_⟩),(by (try dsimp only); omega),?_⟩
      exact ⟨by omega,hg5,(o5 b1 (by omega)).trans ((k4.2 b1 (by omega)).trans hkx),(o5 b2 (by omega)).trans ((k4.2 b2 (by omega)).trans hhx),(o5 b3 (by omega)).trans ((k4.2 b3 (by omega)).trans hgx),keep_put (kx.trans k4) (by omega) o5 n5,by omega⟩
    · replace hwx:Hx.get b0 = some (.cells [VJ w.la,VJ r0,VJ w.w1] 138 1):=hwx
      have e0:=hS w.w1 g1
      repeat' first | refine CO.cons rfl ?_ | refine CO.nil ?_ | refine CV.seq ?_ | refine CV.region callees ?_ | refine CV.cond ?_ | refine CV.block ?_ | refine CV.skip ?_ | refine CV.draw callees (by decide +kernel) ?_ | refine CH.cons rfl ?_ | refine CH.nil ?_ | refine ⟨(⟨by omega,by omega⟩:inI64 _),?_⟩ | refine ⟨_,ixB,?_⟩ | refine ⟨_,fS foW0 (by decide),?_⟩ | refine ⟨_,fS foK2 (by decide),?_⟩ | refine ⟨_,fS foK3 (by decide),?_⟩ | refine ⟨_,fS foK4 (by decide),?_⟩ | refine ⟨_,cell_load ag3 hwx rfl,?_⟩ | refine ⟨_,cell_load ag3 hkx rfl,?_⟩ | refine ⟨_,cell_load ag3 hhx rfl,?_⟩ | (refine ⟨fun _=>?_,fun _=>?_⟩<;>try (exfalso; omega)) | fail
      refine (rounded_spec (by omega) (by rw [<- e0]; omega) (by rw [<- e0]; omega) (by omega) (by omega)).mono ?_
      rintro r H4 ⟨rfl,k4⟩
      rw [<- e0]
      have l4:=k4.1
      have hw4:=(k4.2 b0 (by omega)).trans hwx
      repeat' first | refine CO.cons rfl ?_ | refine ⟨_,fun tm ha=>step1_min rfl (ev_tmp ha rfl) rfl,?_⟩ | refine ⟨_,fS foW1 (by decide),?_⟩ | fail
      refine ⟨_,_,store_row sz3 hw4 (Nat.le_of_ble_eq_true rfl) rfl,by omega,?_⟩
      generalize hs5:Heap.set H4 b0 _ = H5
      have hg5:H5.get b0 = some (.cells ([VJ w.la,VJ r0,VJ (min (rnd (hotS k w.w1 g1 w.la) (w.la * 1000000) 1) 1000)]) 138 1):=set_get hs5
      have n5:=set_n hs5
      have o5:=set_old hs5
      rw [hr1] at hg5
      repeat' first | refine CO.cons rfl ?_ | refine CO.nil ?_ | refine CV.region callees ?_ | refine ⟨(⟨by omega,by omega⟩:inI64 _),?_⟩ | fail
      refine ⟨(2),(by repeat' first | exact trivial | refine ⟨rfl,?_⟩ | refine ⟨slot_int (by (try simp only [Int.toNat_natCast]); omega),?_⟩),(by (try dsimp only); omega),?_⟩
      exact ⟨by omega,hg5,(o5 b1 (by omega)).trans ((k4.2 b1 (by omega)).trans hkx),(o5 b2 (by omega)).trans ((k4.2 b2 (by omega)).trans hhx),(o5 b3 (by omega)).trans ((k4.2 b3 (by omega)).trans hgx),keep_put (kx.trans k4) (by omega) o5 n5,by omega⟩
  have hie:i = 2:=by omega
  subst hie
  replace hwx:Hx.get b0 = some (.cells (Wtl ⟨w.la,r0,r1⟩) 138 1):=hwx
  repeat' first | refine CO.cons rfl ?_ | refine CO.nil ?_ | refine CV.seq ?_ | refine CV.region callees ?_ | refine CV.cond ?_ | refine CV.exit ?_ | refine ⟨_,ld117 hwx,?_⟩ | (refine ⟨fun _=>?_,fun _=>?_⟩<;>try (exfalso; omega)) | fail
  refine ⟨_,_,st117 hgx,by omega,?_⟩
  generalize hs7:Heap.set Hx b3 _ = H7
  have hg7:H7.get b3 = some (.cells (Wtl ⟨w.la,r0,r1⟩) 138 1):=set_get hs7
  have n7:=set_n hs7
  have o7:=set_old hs7
  repeat' first | refine CO.nil ?_ | refine CV.ret ?_ | fail
  exact ⟨_,ld117 hg7,rfl,by rw [hotN,hr0,hr1],keep_put kx (by omega) o7 n7⟩
def verN (k:Ke) (w:Int × Int):Int:=if k.si<=w.1∧w.2<=k.bo then 1 else if w.2 < k.si ∨ k.bo < w.1 then 2 else 3
theorem foB0:fieldOff Try.prog 116 0 = some (0,8):=by kernel_rfl
theorem foB1:fieldOff Try.prog 116 1 = some (8,1):=by kernel_rfl
theorem foB2:fieldOff Try.prog 116 2 = some (9,1):=by kernel_rfl
set_option maxHeartbeats 4000000 in
set_option maxRecDepth 100000 in
theorem verdict_spec {B:Nat} {H:Heap} {k:Ke} {c p:Value} {w:Int × Int} (hB:B<=H.n) (h1:c.cells.toList = [c]) (h2:p.cells.toList = [p]) :
    CallB Try.prog B 82 [Bov k c p,Hv w] H (fun r H'=>r = VJ (verN k w)∧Keep H H'):=by
  obtain ⟨w0,w1⟩:=w
  refine CV.enter callees false rfl Try.func82 rfl (by kernel_rfl) (Nat.le_of_ble_eq_true rfl) hB ?_
  repeat' first | refine CO.cons rfl ?_ | refine CV.seq ?_ | refine CV.region callees ?_ | fail
  refine ⟨(by simp only [notTuple]),?_⟩
  rw [boxBo h1 h2]
  generalize hs0:Heap.new H _ = H0
  have hg0:=new_get hs0
  have k0:=new_keep hs0
  have n0:=new_n hs0
  obtain ⟨b0,hbn0⟩:∃ b,Heap.n H = b:=⟨_,rfl⟩
  rw [hbn0] at hg0 n0 ⊢
  repeat' first | refine CO.cons rfl ?_ | fail
  refine ⟨(by simp only [notTuple]),?_⟩
  rw [allocHv]
  generalize hs1:Heap.new H0 _ = H1
  have hg1:=new_get hs1
  have k1:=new_keep hs1
  have n1:=new_n hs1
  obtain ⟨b1,hbn1⟩:∃ b,Heap.n H0 = b:=⟨_,rfl⟩
  rw [hbn1] at hg1 n1 ⊢
  have k01:=k0.trans k1
  have hb1:=(k1.2 b0 (by omega)).trans hg0
  replace hg1:H1.get b1 = some (.cells [VJ w0,VJ w1] 104 1):=hg1
  have hv:verN k (w0,w1) = if k.si<=w0∧w1<=k.bo then 1 else if w1 < k.si ∨ k.bo < w0 then 2 else 3:=rfl
  repeat' first | refine CO.cons rfl ?_ | refine CO.nil ?_ | refine CV.seq ?_ | refine CV.region callees ?_ | refine CV.cond ?_ | refine CV.block ?_ | refine CV.skip ?_ | refine CV.ret ?_ | refine CO.consG rfl ?_ | refine ⟨_,fS foB0 (by decide),?_⟩ | refine ⟨_,fS foK5 (by decide),?_⟩ | refine ⟨_,fS foK6 (by decide),?_⟩ | refine ⟨_,cell_load ag3 hb1 rfl,?_⟩ | refine ⟨_,cell_load ag3 hg1 rfl,?_⟩ | (refine ⟨fun _=>?_,fun _=>?_⟩<;>try (exfalso; omega)) | fail
  all_goals refine ⟨rfl,?_,k01⟩
  all_goals rw [hv]
  all_goals congr 1
  all_goals (repeat' split)<;>first | rfl | (exfalso; omega)
end Go.Proofs.Ytglkphjjinmgmaa
namespace Go.AI
theorem RowS.slice_lo {P:Program} {s:Nat} {H:Heap} {v:Value} {rs:List (List Value)} {t e:TypeId} (h:RowS s H v rs) (ht:P.underlying t = some (.slice e)) (hs:sizeB P e = some s) {i:Int} {kd:IntKind} (h0:0<=i) (h1:i<=rs.length) :
    ∃ r,aslice P t v (some (some (.int kd i))) none = some r∧∀ H',RowS s H' v rs->RowS s H' r (rs.drop i.toNat):=by
  rcases h.2 with ⟨rfl,rfl⟩ | ⟨rfl,rfl⟩ | ⟨b,o,c,cs,e',k,rfl,h2,h3,h4,h5,h6⟩
  · simp at h1
    have:i = 0:=by omega
    subst this
    exact ⟨.slice none 0 0,by simp [aslice,ht,hs,bound],fun H' h'=>by simpa using h'⟩
  · simp at h1
    have:i = 0:=by omega
    subst this
    exact ⟨anon,by simp [aslice,anon,ht,hs,bound],fun H' h'=>by simpa using h'⟩
  · by_cases hi0:i = 0
    · subst hi0
      exact ⟨.slice (some ⟨b,o,none⟩) rs.length c,by simp [aslice,ht,hs,bound],fun H' h'=>by simpa using h'⟩
    · by_cases hil:i = rs.length
      · subst hil
        refine ⟨anon,by simp only [aslice,ht,hs,bound]; rw [if_pos ⟨h0,Int.le_refl _,Int.le_refl _⟩,if_neg hi0,if_pos trivial],fun H' h'=>⟨fun r hr=>h'.1 r (List.mem_of_mem_drop hr),.inr (.inl ⟨rfl,by simp⟩)⟩⟩
      · refine ⟨.slice (some ⟨b,o + i.toNat * s,none⟩) (rs.length - i.toNat) (c + i.toNat),?_,fun H' h'=>⟨fun r hr=>h'.1 r (List.mem_of_mem_drop hr),?_⟩⟩
        · simp only [aslice,ht,hs,bound]
          rw [if_pos ⟨h0,h1,Int.le_refl _⟩,if_neg hi0,if_neg hil]
          congr 2
          omega
        · rcases h'.2 with ⟨hx,_⟩ | ⟨hx,_⟩ | ⟨b',o',c',cs',e2,k',hx,g2,g3,g4,g5,g6⟩
          · cases hx
          · simp [anon] at hx
          · cases hx
            refine .inr (.inr ⟨b,o + i.toNat * s,c + i.toNat,cs',e2,k',by rw [List.length_drop],g2,g3,g4,?_,fun j q r w hj hq=>?_⟩)
            · rw [List.length_drop]
              have:(rs.length - i.toNat) * s + i.toNat * s = rs.length * s:=by rw [<- Nat.add_mul]; congr 1; omega
              omega
            · rw [List.getElem?_drop] at hj
              have:=g6 (i.toNat + j) q r w hj hq
              rw [Nat.add_mul] at this
              rw [show o + i.toNat * s + j * s + q = o + (i.toNat * s + j * s) + q by omega]
              exact this
end Go.AI
namespace Go.Proofs.Ytglkphjjinmgmaa
open Go.AI
def pourR (m:Int):List Po->Wt->Wt × List Po
  | [],w=>(w,[])
  | p :: r,w=>if p.mi = m then pourR m r (pourN w p) else (w,p :: r)
def befM (k:Ke) (E:List Em) (ps:List Po):Nat->Wt × List Po
  | 0=>(⟨k.wa,k.wl,k.wh⟩,ps)
  | m + 1=>(hotN k (pourR m (befM k E ps m).2 (befM k E ps m).1).1 (heatL E m),(pourR m (befM k E ps m).2 (befM k E ps m).1).2)
def aftM (k:Ke) (E:List Em) (ps:List Po) (m:Nat):Wt × List Po:=pourR m (befM k E ps m).2 (befM k E ps m).1
def warmM (k:Ke) (E:List Em) (ps:List Po) (m:Nat):Int × Int:=((aftM k E ps m).1.w0,(aftM k E ps m).1.w1)
structure WS (k:Ke) (ps:List Po) (j:Nat) (w:Wt):Prop where
  jl:j<=ps.length
  la:w.la = watN k.wa ps j
  ok:WOk w
theorem WS.zero {k:Ke} {ps:List Po} (hk:KOk k):WS k ps 0 ⟨k.wa,k.wl,k.wh⟩ :=
  ⟨Nat.zero_le _,watN_zero.symm,hk.wa,hk.wa',hk.wl,by have:=hk.wm; have:=hk.wh; (show k.wl<=1000); omega,by have:=hk.wl; have:=hk.wm; (show 0<=k.wh); omega,hk.wh⟩
theorem WS.pour {k:Ke} {ps:List Po} {j:Nat} {w:Wt} (h:WS k ps j w) (hp:POk k.wa ps) (hj:j < ps.length):WS k ps (j + 1) (pourN w ps[j]!):=by
  have h1:=hp.wa (j + 1) (by omega)
  have h2:=watN_succ (w:=k.wa) hj
  have h3:=hp.wm j hj
  have h4:=h.la
  obtain ⟨a,b⟩:=pourN_ok (p:=ps[j]!) h.ok h3.1 h3.2 (by omega) (by omega)
  exact ⟨by omega,by omega,a⟩
theorem drop_at {ps:List Po} {j:Nat} (h:j < ps.length):ps.drop j = ps[j]! :: ps.drop (j + 1):=by
  rw [List.drop_eq_getElem_cons h,getElem!_pos ps j h]
theorem heatL_bd {E:List Em} {m:Int} (hn:E.length<=12) (hE:∀ i,i < E.length->EmOk E[i]!):(0<=(heatL E m).1∧(heatL E m).1<=12000)∧0<=(heatL E m).2∧(heatL E m).2<=12000:=by
  have hl:(E.map (giv m)).length = E.length:=List.length_map _
  have b1:=sumI_bd (c:=1000) (by decide) (l:=(E.map (giv m)).map (·.1)) (i:=E.length) (fun j hj=>by
    rw [List.length_map,hl] at hj
    rw [map_at1 (by omega),giv_at hj]; exact (giv_bd (hE j hj)).1) (by rw [List.length_map,hl]; exact Nat.le_refl _)
  have b2:=sumI_bd (c:=1000) (by decide) (l:=(E.map (giv m)).map (·.2)) (i:=E.length) (fun j hj=>by
    rw [List.length_map,hl] at hj
    rw [map_at2 (by omega),giv_at hj]; exact (giv_bd (hE j hj)).2) (by rw [List.length_map,hl]; exact Nat.le_refl _)
  rw [List.take_of_length_le (by simp)] at b1 b2
  exact ⟨⟨b1.1,Int.le_trans b1.2 (by omega)⟩,b2.1,Int.le_trans b2.2 (by omega)⟩
set_option maxRecDepth 100000 in
theorem minutes_spec {B:Nat} {H:Heap} {k:Ke} {ev pv:Value} {last:Int} (hB:B<=H.n) (h1:ev.cells.toList = [ev]) (h2:pv.cells.toList = [pv]) :
    CallB Try.prog B 79 [Bov k ev pv,VJ last] H (fun r H'=>(∃ b,r = .func (.func 97) #[] #[.pointer (some ⟨b,0,none⟩),.pointer (some ⟨b + 1,0,none⟩)]∧H'.get b = some (.cells (Bol k ev pv) 116 1)∧H'.get (b + 1) = some (.cells [VJ last] 3 1)∧H.n<=b∧b + 2<=H'.n)∧Keep H H'):=by
  refine CV.enter callees false rfl Try.func79 rfl (by kernel_rfl) (Nat.le_of_ble_eq_true rfl) hB ?_
  repeat' first | refine CO.cons rfl ?_ | refine CV.seq ?_ | refine CV.region callees ?_ | fail
  refine ⟨(by simp only [notTuple]),?_⟩
  rw [boxBo h1 h2]
  generalize hs0:Heap.new H _ = H0
  have hg0:=new_get hs0
  have k0:=new_keep hs0
  have n0:=new_n hs0
  obtain ⟨b0,hbn0⟩:∃ b,Heap.n H = b:=⟨_,rfl⟩
  rw [hbn0] at hg0 n0 ⊢
  repeat' first | refine CO.cons rfl ?_ | refine CO.nil ?_ | refine CV.seq ?_ | refine CV.region callees ?_ | refine CV.ret ?_ | refine ⟨(rfl:notTuple (Value.int _ _) = true),?_⟩ | refine ⟨(rfl:List.all _ cellLike = true),?_⟩ | fail
  generalize hs1:anew H0 _ _ _ = H1
  have hs1':H0.new (.cells [VJ last] 3 1) = H1:=hs1
  have hg1:=new_get hs1'
  have k1:=new_keep hs1'
  have n1:=new_n hs1'
  refine ⟨rfl,⟨b0,by rw [n0],(k1.2 b0 (by omega)).trans hg0,by rw [<- n0]; exact hg1,by omega,by omega⟩,k0.trans k1⟩
theorem bu117 {x y z:Int}:abuild Try.prog 138 [(0,VJ x),(1,Hv (y,z))] = some (Wtv ⟨x,y,z⟩):=by kernel_rfl
theorem same_wt {x y z:Int}:sameFix (.agg #[VJ x,VJ y,VJ z]) (.agg #[VJ x,VJ y,VJ z]) = true:=by simp [sameFix,sameFixL,sameFix1]
theorem same_ke {k:Ke}:sameFix (Kev k) (Kev k) = true:=by simp [sameFix,sameFixL,sameFix1]
set_option maxHeartbeats 8000000 in
set_option maxRecDepth 100000 in
theorem minutes1_spec {B l bb last:Nat} {k:Ke} {ev pv:Value} {E:List Em} {ps:List Po} {H:Heap} (J:Nat->Nat->Heap->Prop) (D:Heap->Prop) (hB:B<=H.n) (hl:l < H.n) (hbb:bb + 1 < l) (hlast:last<=300) (hk:KOk k) (hn:E.length<=12) (hE:∀ i,i < E.length->EmOk E[i]!) (hp:POk k.wa ps)
    (hpv:sameFix pv pv = true) (h00:H.get bb = some (.cells (Bol k ev pv) 116 1)∧H.get (bb + 1) = some (.cells [VJ last] 3 1)) (hJ0:∀ b H',Keep H H'->H.n<=b->b < H'.n->J b 0 H') (hJs:∀ b m H H',J b m H->b < H.n->KeepX b H H'->J b m H')
    (hJb:∀ b m H,J b m H->H.get bb = some (.cells (Bol k ev pv) 116 1)∧H.get (bb + 1) = some (.cells [VJ last] 3 1)∧RowS 6 H ev (E.map Eml)∧RowS 3 H pv (ps.map Pol))
    (hY:∀ b m H1,m<=last->J b m H1->l < H1.n->b < H1.n->B<=H1.n->RoundB Try.prog B l [VJ (m:Int),Hv (warmM k E ps m)] H1 (fun r H2=>(r = .bool true∧J b (m + 1) H2 ∨ r = .bool false∧D H2)∧H2.get b = H1.get b∧H1.n<=H2.n)) :
    CallB Try.prog B 97 [.func (.yield l) #[] #[],.pointer (some ⟨bb,0,none⟩),.pointer (some ⟨bb + 1,0,none⟩)] H (fun _ H'=>(∃ b,J b (last + 1) H') ∨ D H'):=by
  have hn20:=hp.n
  obtain ⟨g1,g2⟩:=h00
  refine CV.enter callees false rfl Try.func97 rfl (by kernel_rfl) (Nat.le_of_ble_eq_true rfl) hB ?_
  repeat' first | refine CV.seq ?_ | fail
  refine CV.al callees rfl 10 [(0,[]),(1,[]),(2,[]),(3,[]),(4,[]),(5,[]),(8,[]),(9,[]),(6,[9,2]),(7,[]),(10,[7,9,2]),(11,[9]),(12,[])] (by kernel_rfl) rfl al117 ?_
  repeat' first | refine CR.cons ?_ | refine ⟨_,fS foB0 (by decide),?_⟩ | refine ⟨_,fS foK0 (by decide),?_⟩ | refine ⟨_,fS foK1 (by decide),?_⟩ | refine ⟨_,fS foB2 (by decide),?_⟩ | refine ⟨_,cell_load ag3 g1 rfl,?_⟩ | refine ⟨_,agg_load ag41 sz41 g1 (Nat.le_of_ble_eq_true rfl),?_⟩ | fail
  refine (knownOf_spec (p:=(k.wl,k.wh)) (by omega)).mono ?_
  rintro r H1 ⟨rfl,k1⟩
  have l1:=k1.1
  have g11:=(k1.2 bb (by omega)).trans g1
  have g21:=(k1.2 (bb + 1) (by omega)).trans g2
  repeat' first | refine CR.cons ?_ | refine ⟨_,cell_load ag3 g11 rfl,?_⟩ | refine ⟨(rfl:_ = Value.int _ _),?_⟩ | refine ⟨same_int,?_⟩ | refine ⟨(rfl:_ = pv),?_⟩ | refine ⟨hpv,?_⟩ | refine ⟨_,bu117,?_⟩ | refine ⟨_,_,al117,?_⟩ | fail
  generalize hs2:Heap.new H1 _ = H2
  have hg2:=new_get hs2
  have k2:=new_keep hs2
  have n2:=new_n hs2
  obtain ⟨b2,hbn2⟩:∃ b,Heap.n H1 = b:=⟨_,rfl⟩
  rw [hbn2] at hg2 n2 ⊢
  have g12:=(k2.2 bb (by omega)).trans g11
  have g22:=(k2.2 (bb + 1) (by omega)).trans g21
  repeat' first | refine ⟨_,cell_load ag3 g12 rfl,?_⟩ | refine ⟨(show bb ≠ b2 by omega),?_⟩ | fail
  refine ⟨_,_,st117 hg2,by omega,?_⟩
  generalize hs3:Heap.set H2 b2 _ = H3
  have hg3:H3.get b2 = some (.cells (Wtl ⟨k.wa,k.wl,k.wh⟩) 138 1):=set_get hs3
  have n3:=set_n hs3
  have o3:=set_old hs3
  have k3:Keep H H3:=keep_put (k1.trans k2) (by omega) o3 n3
  have g23:=(o3 (bb + 1) (by omega)).trans g22
  have hJ3:=hJ0 b2 H3 k3 (by omega) (by omega)
  repeat' first | refine CO.cons rfl ?_ | refine CO.nil ?_ | refine CV.seq ?_ | refine CV.region callees ?_ | refine CV.block ?_ | refine CR.cons ?_ | refine CR.nil ?_ | refine ⟨(⟨by omega,by omega⟩:inI64 _),?_⟩ | refine ⟨_,cell_load ag3 g23 rfl,?_⟩ | fail
  refine CV.loopc ?_
  refine WCv.rounds callees false (α:=Nat × Nat × Wt × Value) (fun (m,j,w,v)=>[(0,.func (.yield l) #[] #[]),(1,.pointer (some ⟨bb,0,none⟩)),(4,.pointer (some ⟨b2,0,none⟩)),(5,v),(18,VJ ((last:Int) + 1)),(19,VJ m)]) (fun (m,j,w,v) Hz=>m<=last + 1∧J b2 m Hz∧l < Hz.n∧b2 < Hz.n∧Hz.get b2 = some (.cells (Wtl w) 138 1)∧befM k E ps m = (w,ps.drop j)∧WS k ps j w∧(∀ Hq,RowS 3 Hq pv (ps.map Pol)->RowS 3 Hq v ((ps.drop j).map Pol))) (fun (m,j,w,v)=>last + 1 - m) (0,0,⟨k.wa,k.wl,k.wh⟩,pv) (by repeat' first | exact trivial | refine ⟨rfl,?_⟩ | refine ⟨slot_int (by (try simp only [Int.toNat_natCast]); omega),?_⟩) ?_ ?_
  · exact ⟨by omega,hJ3,by omega,by omega,hg3,rfl,WS.zero hk,fun Hq h=>h⟩
  clear hJ3 g23 hg3 k3 g12 g22 g11 g21 g1 g2 hJ0
  rintro ⟨m,j,w,v⟩ Hx ⟨hm,hJ,lx,lb,hgx,hbef,hws,hsub⟩ hBx
  by_cases hm2:m < last + 1
  · have haft:∀ w' r,pourR m r w' = pourR m (ps.drop j) w->pourR m r w' = aftM k E ps m:=fun w' r h=>by rw [h,aftM,hbef]
    repeat' first | refine CO.cons rfl ?_ | refine CO.nil ?_ | refine CV.seq ?_ | refine CV.region callees ?_ | refine CV.cond ?_ | refine CV.block ?_ | refine CV.skip ?_ | (refine ⟨fun _=>?_,fun _=>?_⟩<;>try (exfalso; omega)) | fail
    refine CV.loopc ?_
    refine WCv.rounds callees false (α:=Nat × Wt × Value) (fun (j',w',v')=>[(0,.func (.yield l) #[] #[]),(1,.pointer (some ⟨bb,0,none⟩)),(4,.pointer (some ⟨b2,0,none⟩)),(5,v'),(6,VJ m),(18,VJ ((last:Int) + 1)),(19,VJ m)]) (fun (j',w',v') Hz=>J b2 m Hz∧l < Hz.n∧b2 < Hz.n∧Hz.get b2 = some (.cells (Wtl w') 138 1)∧pourR m (ps.drop j') w' = aftM k E ps m∧WS k ps j' w'∧(∀ Hq,RowS 3 Hq pv (ps.map Pol)->RowS 3 Hq v' ((ps.drop j').map Pol))) (fun (j',w',v')=>ps.length - j') (j,w,v) (by repeat' first | exact trivial | refine ⟨rfl,?_⟩ | refine ⟨slot_int (by (try simp only [Int.toNat_natCast]); omega),?_⟩) ?_ ?_
    · exact ⟨hJ,lx,lb,hgx,haft w _ rfl,hws,hsub⟩
    clear hJ lx lb hgx hbef hws hsub haft hBx
    rintro ⟨j',w',v'⟩ Hy ⟨hJ,ly,lb,hgy,haft,hws,hsub⟩ hBy
    obtain ⟨g1,g2,g3,g4⟩:=hJb b2 m Hy hJ
    have hv:=hsub Hy g4
    have hdl:(ps.drop j').length = ps.length - j':=List.length_drop
    have hjl:=hws.jl
    by_cases hj:j' < ps.length
    · have hd:=drop_at hj
      have h0l:0 < (ps.drop j').length:=by omega
      have h0:(ps.drop j')[0]! = ps[j']!:=by rw [hd]; rfl
      have hpj:=hp.wm j' hj
      have hpl:=hp.la j' hj
      have hpa:=hp.wa (j' + 1) (by omega)
      have hps:=watN_succ (w:=k.wa) hj
      have hla:=hws.la
      have hld:=po_min hv h0l
      rw [h0] at hld
      by_cases hmi:ps[j']!.mi = m
      · have hpr:pourR m (ps.drop j') w' = pourR m (ps.drop (j' + 1)) (pourN w' ps[j']!):=by rw [hd,pourR,if_pos hmi]
        obtain ⟨u,hu,husub⟩:=RowS.slice_lo hv un53 sz62 (i:=1) (kd:=.i64) (by omega) (by rw [List.length_map]; omega)
        have hl0:=po_load hv h0l
        rw [h0] at hl0
        repeat' first | refine CO.cons rfl ?_ | refine CO.nil ?_ | refine CV.seq ?_ | refine CV.region callees ?_ | refine CV.cond ?_ | refine CV.block ?_ | refine CV.skip ?_ | refine CO.consG rfl ?_ | refine ⟨_,po_len hv,?_⟩ | refine ⟨_,po_addr hv (by omega) (by omega),?_⟩ | refine ⟨_,po_f hv foO0 (by decide) h0l,?_⟩ | refine ⟨_,hld,?_⟩ | (refine ⟨fun _=>?_,fun _=>?_⟩<;>try (exfalso; omega)) | fail
        refine CV.wideR callees (by decide +kernel) [(0,[]),(1,[]),(2,[]),(3,[]),(5,[]),(6,[]),(4,[]),(7,[]),(8,[])] (by kernel_rfl) ?_
        repeat' first | refine CR.cons ?_ | refine ⟨_,ld117 hgy,?_⟩ | refine ⟨_,po_addr hv (by omega) (by omega),?_⟩ | refine ⟨_,hl0,?_⟩ | refine ⟨_,hu,?_⟩ | fail
        refine (poured_spec (by omega) hws.ok hpj.1 hpj.2 hpl.1 hpl.2.1 (by omega) (by omega)).mono ?_
        rintro r H4 ⟨rfl,k4⟩
        have l4:=k4.1
        have hg4:=(k4.2 b2 (by omega)).trans hgy
        repeat' first | refine CR.cons ?_ | fail
        refine ⟨_,_,st117 hg4,by omega,?_⟩
        generalize hs5:Heap.set H4 b2 _ = H5
        have hg5:H5.get b2 = some (.cells (Wtl (pourN w' ps[j']!)) 138 1):=set_get hs5
        have n5:=set_n hs5
        have o5:=set_old hs5
        have hJ5:J b2 m H5:=hJs _ _ _ _ hJ lb ⟨by omega,fun c hc hcb=>by rw [o5 c hcb,k4.2 c hc]⟩
        repeat' first | refine CR.cons ?_ | refine CR.nil ?_ | fail
        refine ⟨(j' + 1,pourN w' ps[j']!,u),(by repeat' first | exact trivial | refine ⟨rfl,?_⟩ | refine ⟨slot_int (by (try simp only [Int.toNat_natCast]); omega),?_⟩),(by (try dsimp only); omega),?_⟩
        refine ⟨hJ5,by omega,by omega,hg5,by rw [<- hpr]; exact haft,hws.pour hp hj,fun Hq h=>?_⟩
        have:=husub Hq (hsub Hq h)
        rw [<- List.map_drop,List.drop_drop] at this
        exact this
      · repeat' first | refine CO.cons rfl ?_ | refine CO.nil ?_ | refine CV.seq ?_ | refine CV.region callees ?_ | refine CV.cond ?_ | refine CV.exit ?_ | refine CO.consG rfl ?_ | refine ⟨_,po_len hv,?_⟩ | refine ⟨_,po_addr hv (by omega) (by omega),?_⟩ | refine ⟨_,po_f hv foO0 (by decide) h0l,?_⟩ | refine ⟨_,hld,?_⟩ | (refine ⟨fun _=>?_,fun _=>?_⟩<;>try (exfalso; omega)) | fail
        have haft2:aftM k E ps m = (w',ps.drop j'):=(by rw [<- haft,hd,pourR,if_neg hmi])
        have hwarm:warmM k E ps m = (w'.w0,w'.w1):=by rw [warmM,haft2]
        have hyy:=hY b2 m Hy (by omega) hJ ly lb hBy
        rw [hwarm] at hyy
        repeat' first | refine CO.cons rfl ?_ | refine ⟨_,fS foW1 (by decide),?_⟩ | refine ⟨_,agg_load ag87 sz87 hgy (Nat.le_of_ble_eq_true rfl),?_⟩ | fail
        refine hyy.mono ?_
        rintro r H4 ⟨(⟨rfl,hJ4⟩ | ⟨rfl,hD⟩),ko,l4⟩
        · obtain ⟨f1,f2,f3,f4⟩:=hJb b2 (m + 1) H4 hJ4
          have hg4:=ko.trans hgy
          have hbd:=heatL_bd (m:=(m:Int)) hn hE
          repeat' first | refine CO.cons rfl ?_ | refine CO.nil ?_ | refine CV.cond ?_ | refine CV.skip ?_ | fail
          refine CV.wideR callees (by decide +kernel) [(0,[]),(1,[]),(2,[]),(3,[]),(4,[]),(5,[]),(6,[2,0]),(7,[]),(8,[])] (by kernel_rfl) ?_
          repeat' first | refine CR.cons ?_ | refine ⟨_,ld117 hg4,?_⟩ | refine ⟨_,fS foB0 (by decide),?_⟩ | refine ⟨_,fS foB1 (by decide),?_⟩ | refine ⟨_,agg_load (n:=8) (by kernel_rfl) (by kernel_rfl) f1 (Nat.le_of_ble_eq_true rfl),?_⟩ | refine ⟨_,cell_load (by kernel_rfl) f1 rfl,?_⟩ | fail
          refine (heatOf_spec (by omega) f3 hn hE).mono ?_
          rintro r H5 ⟨rfl,k5⟩
          have l5:=k5.1
          have f15:=(k5.2 bb (by omega)).trans f1
          have hg5:=(k5.2 b2 (by omega)).trans hg4
          repeat' first | refine CR.cons ?_ | refine ⟨_,agg_load (n:=8) (by kernel_rfl) (by kernel_rfl) f15 (Nat.le_of_ble_eq_true rfl),?_⟩ | refine ⟨_,ld117 hg5,?_⟩ | refine ⟨(rfl:_ = Value.agg _),?_⟩ | refine ⟨same_wt,?_⟩ | refine ⟨same_ke,?_⟩ | fail
          refine (heated_spec (k:=k) (by omega) hws.ok hk hbd.1.1 hbd.1.2 hbd.2.1 hbd.2.2).mono ?_
          rintro r H6 ⟨rfl,k6⟩
          have l6:=k6.1
          have hg6:=(k6.2 b2 (by omega)).trans hg5
          repeat' first | refine CR.cons ?_ | fail
          refine ⟨_,_,st117 hg6,by omega,?_⟩
          generalize hs7:Heap.set H6 b2 _ = H7
          have hg7:H7.get b2 = some (.cells (Wtl (hotN k w' (heatL E m))) 138 1):=set_get hs7
          have n7:=set_n hs7
          have o7:=set_old hs7
          have hJ7:J b2 (m + 1) H7:=hJs _ _ _ _ hJ4 (by omega) ⟨by omega,fun c hc hcb=>by rw [o7 c hcb,k6.2 c (by omega),k5.2 c hc]⟩
          repeat' first | refine CO.cons rfl ?_ | refine CO.nil ?_ | refine CV.region callees ?_ | refine CR.nil ?_ | refine ⟨(⟨by omega,by omega⟩:inI64 _),?_⟩ | fail
          refine ⟨(m + 1,j',hotN k w' (heatL E m),v'),(by repeat' first | exact trivial | refine ⟨rfl,?_⟩ | refine ⟨slot_int (by (try simp only [Int.toNat_natCast]); omega),?_⟩),(by (try dsimp only); omega),?_⟩
          refine ⟨by omega,hJ7,by omega,by omega,hg7,?_,⟨hws.jl,hws.la,hotN_ok hws.ok hk hbd.1.1 hbd.1.2 hbd.2.1 hbd.2.2⟩,hsub⟩
          have:befM k E ps (m + 1) = (hotN k (aftM k E ps m).1 (heatL E m),(aftM k E ps m).2):=rfl
          rw [this,haft2]
        · repeat' first | refine CO.cons rfl ?_ | refine CO.nil ?_ | refine CV.cond ?_ | refine CV.ret ?_ | fail
          exact ⟨rfl,.inr hD⟩
    · have hde:ps.drop j' = []:=List.drop_eq_nil_of_le (by omega)
      repeat' first | refine CO.cons rfl ?_ | refine CO.nil ?_ | refine CV.seq ?_ | refine CV.region callees ?_ | refine CV.cond ?_ | refine CV.exit ?_ | refine CO.consG rfl ?_ | refine ⟨_,po_len hv,?_⟩ | (refine ⟨fun _=>?_,fun _=>?_⟩<;>try (exfalso; omega)) | fail
      have haft2:aftM k E ps m = (w',ps.drop j'):=(by rw [<- haft,hde]; rfl)
      have hwarm:warmM k E ps m = (w'.w0,w'.w1):=by rw [warmM,haft2]
      have hyy:=hY b2 m Hy (by omega) hJ ly lb hBy
      rw [hwarm] at hyy
      repeat' first | refine CO.cons rfl ?_ | refine ⟨_,fS foW1 (by decide),?_⟩ | refine ⟨_,agg_load ag87 sz87 hgy (Nat.le_of_ble_eq_true rfl),?_⟩ | fail
      refine hyy.mono ?_
      rintro r H4 ⟨(⟨rfl,hJ4⟩ | ⟨rfl,hD⟩),ko,l4⟩
      · obtain ⟨f1,f2,f3,f4⟩:=hJb b2 (m + 1) H4 hJ4
        have hg4:=ko.trans hgy
        have hbd:=heatL_bd (m:=(m:Int)) hn hE
        repeat' first | refine CO.cons rfl ?_ | refine CO.nil ?_ | refine CV.cond ?_ | refine CV.skip ?_ | fail
        refine CV.wideR callees (by decide +kernel) [(0,[]),(1,[]),(2,[]),(3,[]),(4,[]),(5,[]),(6,[2,0]),(7,[]),(8,[])] (by kernel_rfl) ?_
        repeat' first | refine CR.cons ?_ | refine ⟨_,ld117 hg4,?_⟩ | refine ⟨_,fS foB0 (by decide),?_⟩ | refine ⟨_,fS foB1 (by decide),?_⟩ | refine ⟨_,agg_load (n:=8) (by kernel_rfl) (by kernel_rfl) f1 (Nat.le_of_ble_eq_true rfl),?_⟩ | refine ⟨_,cell_load (by kernel_rfl) f1 rfl,?_⟩ | fail
        refine (heatOf_spec (by omega) f3 hn hE).mono ?_
        rintro r H5 ⟨rfl,k5⟩
        have l5:=k5.1
        have f15:=(k5.2 bb (by omega)).trans f1
        have hg5:=(k5.2 b2 (by omega)).trans hg4
        repeat' first | refine CR.cons ?_ | refine ⟨_,agg_load (n:=8) (by kernel_rfl) (by kernel_rfl) f15 (Nat.le_of_ble_eq_true rfl),?_⟩ | refine ⟨_,ld117 hg5,?_⟩ | refine ⟨(rfl:_ = Value.agg _),?_⟩ | refine ⟨same_wt,?_⟩ | refine ⟨same_ke,?_⟩ | fail
        refine (heated_spec (k:=k) (by omega) hws.ok hk hbd.1.1 hbd.1.2 hbd.2.1 hbd.2.2).mono ?_
        rintro r H6 ⟨rfl,k6⟩
        have l6:=k6.1
        have hg6:=(k6.2 b2 (by omega)).trans hg5
        repeat' first | refine CR.cons ?_ | fail
        refine ⟨_,_,st117 hg6,by omega,?_⟩
        generalize hs7:Heap.set H6 b2 _ = H7
        have hg7:H7.get b2 = some (.cells (Wtl (hotN k w' (heatL E m))) 138 1):=set_get hs7
        have n7:=set_n hs7
        have o7:=set_old hs7
        have hJ7:J b2 (m + 1) H7:=hJs _ _ _ _ hJ4 (by omega) ⟨by omega,fun c hc hcb=>by rw [o7 c hcb,k6.2 c (by omega),k5.2 c hc]⟩
        repeat' first | refine CO.cons rfl ?_ | refine CO.nil ?_ | refine CV.region callees ?_ | refine CR.nil ?_ | refine ⟨(⟨by omega,by omega⟩:inI64 _),?_⟩ | fail
        refine ⟨(m + 1,j',hotN k w' (heatL E m),v'),(by repeat' first | exact trivial | refine ⟨rfl,?_⟩ | refine ⟨slot_int (by (try simp only [Int.toNat_natCast]); omega),?_⟩),(by (try dsimp only); omega),?_⟩
        refine ⟨by omega,hJ7,by omega,by omega,hg7,?_,⟨hws.jl,hws.la,hotN_ok hws.ok hk hbd.1.1 hbd.1.2 hbd.2.1 hbd.2.2⟩,hsub⟩
        have:befM k E ps (m + 1) = (hotN k (aftM k E ps m).1 (heatL E m),(aftM k E ps m).2):=rfl
        rw [this,haft2]
      · repeat' first | refine CO.cons rfl ?_ | refine CO.nil ?_ | refine CV.cond ?_ | refine CV.ret ?_ | fail
        exact ⟨rfl,.inr hD⟩
  have hme:m = last + 1:=by omega
  subst hme
  repeat' first | refine CO.cons rfl ?_ | refine CO.nil ?_ | refine CV.seq ?_ | refine CV.region callees ?_ | refine CV.cond ?_ | refine CV.exit ?_ | (refine ⟨fun _=>?_,fun _=>?_⟩<;>try (exfalso; omega)) | fail
  exact ⟨rfl,.inl ⟨b2,hJ⟩⟩
set_option maxHeartbeats 4000000 in
set_option maxRecDepth 100000 in
theorem boilingFor_spec {B:Nat} {H:Heap} {k:Ke} {cv tv pv:Value} {cs:List Co} {ts:List (Int × Int)} {ps:List Po} {B0 B1:List Int} {m:Int} (hB:B<=H.n) (hk:KOk k) (hc:RowS 7 H cv (cs.map Col)) (ht:RowS 2 H tv (ts.map Hl)) (hp:RowS 3 H pv (ps.map Pol)) (ho:POk k.wa ps) (hf:FOk cs ts) (h0:IsBeg 0 cs ts B0) (h1:IsBeg 1 cs ts B1) (hm0:0<=m) (hm1:m<=300) :
    CallB Try.prog B 78 [Kev k,Fv cv tv,pv,VJ m] H (fun r H'=>(∃ ev,r = .tuple #[Bov k ev pv,VJ 0]∧OwnE H' ev (emL cs B0 B1) H.n)∧Keep H H'):=by
  refine CV.enter callees false rfl Try.func78 rfl (by kernel_rfl) (Nat.le_of_ble_eq_true rfl) hB ?_
  repeat' first | refine CO.cons rfl ?_ | refine CV.seq ?_ | refine CV.region callees ?_ | fail
  refine ⟨(by simp only [notTuple]),?_⟩
  rw [boxKe]
  generalize hs0:Heap.new H _ = H0
  have hg0:=new_get hs0
  have k0:=new_keep hs0
  have n0:=new_n hs0
  obtain ⟨b0,hbn0⟩:∃ b,Heap.n H = b:=⟨_,rfl⟩
  rw [hbn0] at hg0 n0 ⊢
  repeat' first | refine CO.cons rfl ?_ | fail
  refine ⟨(by simp only [notTuple]),?_⟩
  rw [allocFv hc.cells.1 ht.cells.1]
  generalize hs1:Heap.new H0 _ = H1
  have hg1:=new_get hs1
  have k1:=new_keep hs1
  have n1:=new_n hs1
  obtain ⟨b1,hbn1⟩:∃ b,Heap.n H0 = b:=⟨_,rfl⟩
  rw [hbn1] at hg1 n1 ⊢
  repeat' first | refine CO.cons rfl ?_ | refine CO.nil ?_ | refine CV.seq ?_ | refine CV.region callees ?_ | refine ⟨_,_,al98,?_⟩ | fail
  generalize hs2:Heap.new H1 _ = H2
  have hg2:=new_get hs2
  have k2:=new_keep hs2
  have n2:=new_n hs2
  obtain ⟨b2,hbn2⟩:∃ b,Heap.n H1 = b:=⟨_,rfl⟩
  rw [hbn2] at hg2 n2 ⊢
  have k02:=(k0.trans k1).trans k2
  have hk2:=(k2.2 b0 (by omega)).trans ((k1.2 b0 (by omega)).trans hg0)
  have hr2:=(k2.2 b1 (by omega)).trans hg1
  repeat' first | refine CO.cons rfl ?_ | refine ⟨_,agg_load (n:=8) (by kernel_rfl) (by kernel_rfl) hk2 (Nat.le_of_ble_eq_true rfl),?_⟩ | refine ⟨_,agg_load ag28 sz28 hr2 (Nat.le_refl _),?_⟩ | fail
  refine (boilingOf_spec (k:=k) (by omega) hk (hc.keep k02) (ht.keep k02) (hp.keep k02) ho hf h0 h1).mono ?_
  rintro r H3 ⟨⟨ev,rfl,he3⟩,k3⟩
  have l3:=k3.1
  have hg3:=(k3.2 b2 (by omega)).trans hg2
  have k03:=k02.trans k3
  have hp3:=hp.keep k03
  repeat' first | refine CO.cons rfl ?_ | refine ⟨_,_,al98,?_⟩ | fail
  generalize hs4:Heap.new H3 _ = H4
  have hg4:=new_get hs4
  have k4:=new_keep hs4
  have n4:=new_n hs4
  obtain ⟨b4,hbn4⟩:∃ b,Heap.n H3 = b:=⟨_,rfl⟩
  rw [hbn4] at hg4 n4 ⊢
  repeat' first | fail
  refine ⟨_,_,st98 he3.oneC hp3.cells.2.1 hg4,by omega,?_⟩
  generalize hs5:Heap.set H4 b4 _ = H5
  have hg5:H5.get b4 = some (.cells (Bol k ev pv) 116 1):=set_get hs5
  have n5:=set_n hs5
  have o5:=set_old hs5
  have k5:Keep H3 H5:=keep_put k4 (by omega) o5 n5
  have hg25:=(k5.2 b2 (by omega)).trans hg3
  repeat' first | refine CO.cons rfl ?_ | refine CO.nil ?_ | refine CV.seq ?_ | refine CV.region callees ?_ | refine CO.consG rfl ?_ | (refine ⟨fun _=>?_,fun _=>?_⟩<;>try (exfalso; omega)) | fail
  refine (isWithin_yes (by omega) ⟨hm0,hm1⟩).mono ?_
  rintro r H6 ⟨rfl,rfl⟩
  repeat' first | refine CO.cons rfl ?_ | refine CO.nil ?_ | refine CV.seq ?_ | refine CV.region callees ?_ | refine CV.cond ?_ | refine CV.skip ?_ | refine CO.consG rfl ?_ | refine ⟨_,ld98 hg5,?_⟩ | fail
  refine ⟨_,_,st98 he3.oneC hp3.cells.2.1 hg25,by omega,?_⟩
  generalize hs7:Heap.set H6 b2 _ = H7
  have hg7:H7.get b2 = some (.cells (Bol k ev pv) 116 1):=set_get hs7
  have n7:=set_n hs7
  have o7:=set_old hs7
  repeat' first | refine CO.cons rfl ?_ | refine CO.nil ?_ | refine CV.ret ?_ | fail
  have he5:OwnE H6 ev (emL cs B0 B1) H2.n:=OwnS.keep he3 k5
  have y7:KeepX b2 H6 H7:=by rw [<- hs7]; exact KeepX.set _ _
  exact ⟨_,ld98 hg7,rfl,⟨ev,rfl,OwnS.low (OwnS.keepX he5 y7 hg25) (by omega)⟩,keep_put (k03.trans k5) (by omega) o7 n7⟩
theorem ownS_keepN {e:TypeId} {s b:Nat} {H H':Heap} {v:Value} {rs:List (List Value)} {B:Nat} (h:OwnS e s H v rs B) (k:KeepX b H H') (hb:blkOf v ≠ some b):OwnS e s H' v rs B:=by
  refine ⟨h.1,?_⟩
  rcases h.2 with h | ⟨b',rfl,h2,h3,h4⟩
  · exact .inl h
  · exact .inr ⟨b',rfl,h2,Nat.lt_of_lt_of_le h3 k.1,by rw [k.2 b' h3 (fun e=>hb (by rw [<- e]; rfl))]; exact h4⟩
theorem ownS_keepF {e:TypeId} {s:Nat} {H H':Heap} {v:Value} {rs:List (List Value)} {B:Nat} (h:OwnS e s H v rs B) (hn:H.n<=H'.n) (hk:∀ c,blkOf v = some c->H'.get c = H.get c):OwnS e s H' v rs B:=by
  refine ⟨h.1,?_⟩
  rcases h.2 with h | ⟨b',rfl,h2,h3,h4⟩
  · exact .inl h
  · exact .inr ⟨b',rfl,h2,Nat.lt_of_lt_of_le h3 hn,by rw [hk b' rfl]; exact h4⟩
theorem zc35:zeroCells Try.prog 48 = some [nilS]:=by kernel_rfl
theorem ag35:isAggB Try.prog 48 = some false:=by kernel_rfl
theorem sz35:sizeB Try.prog 48 = some 1:=by kernel_rfl
def warmL (k:Ke) (E:List Em) (ps:List Po) (n:Nat):List (Int × Int):=(List.range n).map (warmM k E ps)
theorem warmL_succ {k:Ke} {E:List Em} {ps:List Po} {n:Nat}:warmL k E ps (n + 1) = warmL k E ps n ++ [warmM k E ps n]:=by
  simp [warmL,List.range_succ]
theorem warmL_len {k:Ke} {E:List Em} {ps:List Po} {n:Nat}:(warmL k E ps n).length = n:=by simp [warmL]
set_option maxHeartbeats 8000000 in
set_option maxRecDepth 100000 in
theorem run_spec {B:Nat} {H:Heap} {k:Ke} {cv tv pv:Value} {cs:List Co} {ts:List (Int × Int)} {ps:List Po} {B0 B1:List Int} {m:Nat} (hB:B<=H.n) (hk:KOk k) (hc:RowS 7 H cv (cs.map Col)) (ht:RowS 2 H tv (ts.map Hl)) (hp:RowS 3 H pv (ps.map Pol)) (ho:POk k.wa ps) (hpv:sameFix pv pv = true) (hf:FOk cs ts) (h0:IsBeg 0 cs ts B0) (h1:IsBeg 1 cs ts B1) (hm1:m<=300) :
    CallB Try.prog B 36 [Kev k,Fv cv tv,pv,VJ m] H (fun r H'=>(∃ q,r = .tuple #[q,VJ 0]∧OwnSp H' q (warmL k (emL cs B0 B1) ps (m + 1)) H.n)∧Keep H H'):=by
  refine CV.enter callees false rfl Try.func36 rfl (by kernel_rfl) (Nat.le_of_ble_eq_true rfl) hB ?_
  repeat' first | refine CO.cons rfl ?_ | refine CV.seq ?_ | refine CV.region callees ?_ | fail
  refine ⟨(by simp only [notTuple]),?_⟩
  rw [boxKe]
  generalize hs0:Heap.new H _ = H0
  have hg0:=new_get hs0
  have k0:=new_keep hs0
  have n0:=new_n hs0
  obtain ⟨b0,hbn0⟩:∃ b,Heap.n H = b:=⟨_,rfl⟩
  rw [hbn0] at hg0 n0 ⊢
  repeat' first | refine CO.cons rfl ?_ | fail
  refine ⟨(by simp only [notTuple]),?_⟩
  rw [allocFv hc.cells.1 ht.cells.1]
  generalize hs1:Heap.new H0 _ = H1
  have hg1:=new_get hs1
  have k1:=new_keep hs1
  have n1:=new_n hs1
  obtain ⟨b1,hbn1⟩:∃ b,Heap.n H0 = b:=⟨_,rfl⟩
  rw [hbn1] at hg1 n1 ⊢
  have k01:=k0.trans k1
  have hk1:=(k1.2 b0 (by omega)).trans hg0
  repeat' first | refine CO.cons rfl ?_ | refine CO.nil ?_ | refine CV.seq ?_ | refine CV.region callees ?_ | refine ⟨_,agg_load (n:=8) (by kernel_rfl) (by kernel_rfl) hk1 (Nat.le_of_ble_eq_true rfl),?_⟩ | refine ⟨_,agg_load ag28 sz28 hg1 (Nat.le_refl _),?_⟩ | fail
  refine (boilingFor_spec (k:=k) (by omega) hk (hc.keep k01) (ht.keep k01) (hp.keep k01) ho hf h0 h1 (by omega) (by omega)).mono ?_
  rintro r H3 ⟨⟨ev,rfl,he3⟩,k3⟩
  have l3:=k3.1
  have k03:=k01.trans k3
  have hp3:=hp.keep k03
  have hEl:(emL cs B0 B1).length<=12:=by rw [emL_len]; exact hf.n
  have hEo:=emL_ok hf h0 h1
  obtain ⟨E,hE⟩:∃ E,emL cs B0 B1 = E:=⟨_,rfl⟩
  rw [hE] at he3 hEl hEo ⊢
  repeat' first | refine CO.cons rfl ?_ | refine ⟨_,_,al98,?_⟩ | fail
  generalize hs4:Heap.new H3 _ = H4
  have hg4:=new_get hs4
  have k4:=new_keep hs4
  have n4:=new_n hs4
  obtain ⟨b4,hbn4⟩:∃ b,Heap.n H3 = b:=⟨_,rfl⟩
  rw [hbn4] at hg4 n4 ⊢
  repeat' first | fail
  refine ⟨_,_,st98 he3.oneC hp3.cells.2.1 hg4,by omega,?_⟩
  generalize hs5:Heap.set H4 b4 _ = H5
  have hg5:H5.get b4 = some (.cells (Bol k ev pv) 116 1):=set_get hs5
  have n5:=set_n hs5
  have o5:=set_old hs5
  have k5:Keep H3 H5:=keep_put k4 (by omega) o5 n5
  repeat' first | refine CO.cons rfl ?_ | refine CO.nil ?_ | refine CV.seq ?_ | refine CV.region callees ?_ | refine CV.cond ?_ | refine CV.skip ?_ | refine ⟨_,_,alloc_of zc35,?_⟩ | (refine ⟨fun _=>?_,fun _=>?_⟩<;>try (exfalso; omega)) | fail
  generalize hs6:Heap.new H5 _ = H6
  have hg6:=new_get hs6
  have k6:=new_keep hs6
  have n6:=new_n hs6
  obtain ⟨b6,hbn6⟩:∃ b,Heap.n H5 = b:=⟨_,rfl⟩
  rw [hbn6] at hg6 n6 ⊢
  have hg56:=(k6.2 b4 (by omega)).trans hg5
  have k06:=(k03.trans k5).trans k6
  have hp6:=hp.keep k06
  have he6:OwnE H6 ev E H1.n:=OwnS.keep he3 (k5.trans k6)
  repeat' first | refine CO.cons rfl ?_ | refine ⟨_,ld98 hg56,?_⟩ | fail
  refine (minutes_spec (by omega) he6.row.cells.1 hp6.cells.1).mono ?_
  rintro r H7 ⟨⟨bb,rfl,hbb,hbl,hb0,hb1⟩,k7⟩
  have l7:=k7.1
  have hg7:=(k7.2 b6 (by omega)).trans hg6
  have k07:=k06.trans k7
  have hp7:=hp.keep k07
  have he7:OwnE H7 ev E H1.n:=OwnS.keep he6 k7
  repeat' first | refine CO.nil ?_ | refine CV.block ?_ | fail
  refine CV.rangeFunc callees ?_
  refine fun tm ha=>?_
  generalize hs8:Heap.new H7 _ = H8
  have hg8:=new_get hs8
  have k8:=new_keep hs8
  have n8:=new_n hs8
  obtain ⟨l,hln⟩:∃ l,H7.n = l:=⟨_,rfl⟩
  rw [hln] at hg8 n8 ⊢
  have k08:=k07.trans k8
  have hbb8:=(k8.2 bb (by omega)).trans hbb
  have hbl8:=(k8.2 (bb + 1) (by omega)).trans hbl
  have hg68:=(k8.2 b6 (by omega)).trans hg7
  have he8:OwnE H8 ev E H1.n:=OwnS.keep he7 k8
  have heb:∀ c,blkOf ev = some c->c < b6:=fun c hc=>by have:=(he3.lt hc).2; omega
  have hob:∀ {s:Nat} {e:TypeId} {b:Nat} {v:Value} {rs:List (List Value)} {B':Nat} {X Y:Heap},OwnS e s X v rs B'->KeepX b X Y->blkOf v ≠ some b->OwnS e s Y v rs B':=fun h kk hb=>ownS_keepN h kk hb
  refine (minutes1_spec (B:=B) (l:=l) (bb:=bb) (last:=m) (k:=k) (ev:=ev) (pv:=pv) (E:=E) (ps:=ps)
    (fun b j Hx=>(l < b∧l < Hx.n)∧Hx.get l = H8.get l∧Hx.get bb = H8.get bb∧Hx.get (bb + 1) = H8.get (bb + 1)∧OwnE Hx ev E H1.n∧RowS 3 Hx pv (ps.map Pol)∧(∃ q,Hx.get b6 = some (.cells [q] 48 1)∧OwnSp Hx q (warmL k E ps j) (l + 1)∧blkOf q ≠ some b)∧Keep H Hx)
    (fun _=>False) (by omega) (by omega) (by omega) hm1 hk hEl hEo ho hpv ⟨hbb8,hbl8⟩ ?_ ?_ ?_ ?_).mono ?_
  · intro b H' kk hb1' hb2'
    exact ⟨⟨by omega,by have:=kk.1; omega⟩,kk.2 l (by omega),kk.2 bb (by omega),kk.2 (bb + 1) (by omega),OwnS.keep he8 kk,(hp.keep k08).keep kk,⟨nilS,(kk.2 b6 (by omega)).trans hg68,OwnS.nil,by simp [blkOf]⟩,k08.trans kk⟩
  · rintro b j X Y ⟨⟨q1,q2⟩,q3,q4,q5,q6,q7,⟨q,q8,q9,q10⟩,q11⟩ hbX kk
    have hY:Keep H Y:=⟨by have:=kk.1; have:=q11.1; omega,fun c hc=>(kk.2 c (by have:=q11.1; omega) (by omega)).trans (q11.2 c hc)⟩
    exact ⟨⟨q1,by have:=kk.1; omega⟩,(kk.2 l q2 (by omega)).trans q3,(kk.2 bb (by omega) (by omega)).trans q4,(kk.2 (bb + 1) (by omega) (by omega)).trans q5,hob q6 kk (fun h=>by have:=heb _ h; omega),hp.keep hY,⟨q,(kk.2 b6 (by omega) (by omega)).trans q8,hob q9 kk q10,q10⟩,hY⟩
  · rintro b j X ⟨_,_,q4,q5,q6,q7,_,_⟩
    exact ⟨q4.trans hbb8,q5.trans hbl8,q6.row,q7⟩
  · rintro b j X hj ⟨⟨q1,q2⟩,q3,q4,q5,q6,q7,⟨q,q8,q9,q10⟩,q11⟩ lx lb hBx
    refine RoundB.enter callees false (q3.trans hg8) ha rfl hBx (by omega) ?_
    repeat' first | refine CO.cons rfl ?_ | refine CV.region callees ?_ | refine ⟨_,_,al87,?_⟩ | fail
    generalize hsA:Heap.new X _ = XA
    have hgA:=new_get hsA
    have kA:=new_keep hsA
    have nA:=new_n hsA
    obtain ⟨bA,hbA⟩:∃ b,Heap.n X = b:=⟨_,rfl⟩
    rw [hbA] at hgA nA ⊢
    repeat' first | fail
    refine ⟨_,_,st87 hgA,by omega,?_⟩
    generalize hsC:Heap.set XA bA _ = XC'
    have hgC:XC'.get bA = some (.cells (Hl (warmM k E ps j)) 104 1):=set_get hsC
    have nC:=set_n hsC
    have oC:=set_old hsC
    have kC:Keep X XC':=keep_put kA (by omega) oC nC
    repeat' first | refine CO.nil ?_ | fail
    refine ⟨_,_,_,_,_,((kC.2 l (by omega)).trans q3).trans hg8,?_⟩
    generalize hsD:XC'.set l _ = XD
    have hgD:=set_get hsD
    have nD:=set_n hsD
    have oD:=set_old hsD
    have hD6:=(oD b6 (by omega)).trans ((kC.2 b6 (by omega)).trans q8)
    have hDA:=(oD bA (by omega)).trans hgC
    have kD:KeepX l X XD:=⟨by omega,fun c hc hcl=>(oD c hcl).trans (kC.2 c hc)⟩
    have hql:blkOf q ≠ some l:=fun h=>by have:=(q9.lt h).1; omega
    have hqD:OwnSp XD q (warmL k E ps j) (l + 1):=hob q9 kD hql
    repeat' first | refine CV.block ?_ | fail
    refine CV.wideR callees (by decide +kernel) [(0,[]),(1,[]),(2,[0]),(3,[0]),(4,[]),(5,[])] (by kernel_rfl) ?_
    repeat' first | refine CR.cons ?_ | refine ⟨_,cell_load ag35 hD6 rfl,?_⟩ | refine ⟨_,ld87 hDA,?_⟩ | fail
    refine (span_spec (by omega)).mono ?_
    rintro r XE ⟨rfl,kE⟩
    have lE:=kE.1
    have hE6:=(kE.2 b6 (by omega)).trans hD6
    have hqE:OwnSp XE q (warmL k E ps j) (l + 1):=OwnS.keep hqD kE
    have hE6n:(XE.new (.cells (Hl (warmM k E ps j)) 27 2)).get b6 = some (.cells [q] 48 1):=by rw [(Keep.new XE _).2 b6 (by omega)]; exact hE6
    repeat' first | refine CR.cons ?_ | refine ⟨_,cell_load ag35 hE6 rfl,?_⟩ | refine ⟨(rfl:_ = q),?_⟩ | refine ⟨hqE.same,?_⟩ | refine ⟨_,_,sp_one,?_⟩ | fail
    refine sp_push hqE (by omega) (by omega) (by rw [warmL_len]; omega) ?_
    intro q' XF hqF kF fF
    have lF:=kF.le
    have hqb:∀ c,c<=l->blkOf q ≠ some c:=fun c hc h=>by have:=(hqE.lt h).1; omega
    have hF6:=(kF.get b6 (by omega) (hqb b6 (by omega))).trans hE6
    repeat' first | refine CR.cons ?_ | fail
    refine ⟨_,_,var_store sz35 hF6 hqF.oneC,by omega,?_⟩
    generalize hsG:Heap.set XF b6 _ = XG
    have hgG:=set_get hsG
    have nG:=set_n hsG
    have oG:=set_old hsG
    have lG:XG.get l = XD.get l:=(oG l (by omega)).trans ((kF.get l (by omega) (hqb l (Nat.le_refl _))).trans (kE.2 l (by omega)))
    repeat' first | refine CR.nil ?_ | fail
    have hold:∀ c,c < X.n->c ≠ b6->c ≠ l->blkOf q ≠ some c->XG.get c = X.get c:=fun c h1 h2 h3 h4=>(oG c h2).trans ((kF.get c (by omega) h4).trans ((kE.2 c (by omega)).trans (kD.2 c h1 h3)))
    refine ⟨_,_,_,_,_,_,_,lG.trans hgD,rfl,⟨.inl ⟨rfl,⟨q1,by show l < XG.n; omega⟩,by rw [Heap.get_set_eq]; exact hg8.symm,?_,?_,?_,?_,⟨q',?_,?_,?_⟩,?_⟩,?_,by show bA<=XG.n; omega⟩⟩
    · rw [Heap.get_set_ne _ _ (by omega),hold bb (by omega) (by omega) (by omega) (hqb bb (by omega))]; exact q4
    · rw [Heap.get_set_ne _ _ (by omega),hold (bb + 1) (by omega) (by omega) (by omega) (hqb _ (by omega))]; exact q5
    · exact ownS_keepF q6 (by show X.n<=XG.n; omega) (fun c hc=>by have:=heb c hc; rw [Heap.get_set_ne _ _ (by omega),hold c (by omega) (by omega) (by omega) (hqb c (by omega))])
    · exact hp.keep ⟨by show H.n<=XG.n; omega,fun c hc=>by rw [Heap.get_set_ne _ _ (by omega),hold c (by omega) (by omega) (by omega) (hqb c (by omega))]; exact q11.2 c hc⟩
    · rw [Heap.get_set_ne _ _ (by omega)]; exact hgG
    · rw [warmL_succ]
      exact ownS_keepF hqF (by show XF.n<=XG.n; omega) (fun c hc=>by have:=fF c hc; rw [Heap.get_set_ne _ _ (by omega),oG c (by omega)])
    · intro h; have:=fF _ h; omega
    · exact ⟨by show H.n<=XG.n; omega,fun c hc=>by rw [Heap.get_set_ne _ _ (by omega),hold c (by omega) (by omega) (by omega) (hqb c (by omega))]; exact q11.2 c hc⟩
    · rw [Heap.get_set_ne _ _ (by omega)]; exact hold b lb (by omega) (by omega) q10
  rintro _ HZ (⟨b,⟨q1,q2⟩,q3,q4,q5,q6,q7,⟨q,q8,q9,q10⟩,q11⟩ | hf')
  · refine ⟨_,_,_,_,_,_,_,q3.trans hg8,rfl,rfl,?_⟩
    generalize hsZ:HZ.set l _ = HY
    have nZ:=set_n hsZ
    have oZ:=set_old hsZ
    have hZ6:=(oZ b6 (by omega)).trans q8
    have kZ:KeepX l HZ HY:=⟨by omega,fun c hc hcl=>oZ c hcl⟩
    have hqZ:OwnSp HY q (warmL k E ps (m + 1)) (l + 1):=hob q9 kZ (fun h=>by have:=(q9.lt h).1; omega)
    repeat' first | refine CO.cons rfl ?_ | refine CO.nil ?_ | refine CV.seq ?_ | refine CV.region callees ?_ | refine CV.ret ?_ | refine ⟨_,cell_load ag35 hZ6 rfl,?_⟩ | fail
    exact ⟨by simp only [List.all_cons,List.all_nil,hqZ.notTuple]; rfl,⟨q,rfl,hqZ.low (by omega)⟩,⟨by have:=q11.1; omega,fun c hc=>(oZ c (by omega)).trans (q11.2 c hc)⟩⟩
  · exact hf'.elim
end Go.Proofs.Ytglkphjjinmgmaa
