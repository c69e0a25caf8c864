/- What is known of the warmth,minute by minute: the reference's way. -/
import Derived.Test.Ytglkphjjinmgmaaq7h
import Derived.Test.YtglkphjjinmgmaaM6h
import Derived.Test.YtglkphjjinmgmaaM3h
set_option linter.unusedVariables false
set_option linter.unusedSimpArgs false
namespace Go.Proofs.Ytglkphjjinmgmaa
open Go.AI
theorem afS0 {x y:Int}:afield Try.prog 27 (Hv (x,y)) 0 = some (VJ x):=by kernel_rfl
theorem afS1 {x y:Int}:afield Try.prog 27 (Hv (x,y)) 1 = some (VJ y):=by kernel_rfl
theorem pour_a {w:Wt} {p:Po}:(pourN (wAt w.la w.w0) p).w0 = (pourN w p).w0:=by unfold pourN; split<;>rfl
theorem pour_b {w:Wt} {p:Po}:(pourN (wAt w.la w.w1) p).w1 = (pourN w p).w1:=by unfold pourN; split<;>rfl
def preW (k:Ke) (E:List Em) (ps:List Po):Nat->Wt × List Po
  | 0=>(⟨k.wa,k.wl,k.wh⟩,ps)
  | m + 1=>aftM k E ps m
theorem po_lad {H:Heap} {v:Value} {l:List Po} (h:RowS 3 H v (l.map Pol)) {j:Nat} (hj:j < l.length):aload Try.prog 3 H (fieldOf (elemS v 3 j) 1) = some (VJ l[j]!.la):=h.fload ag3 (j:=j) (o:=1) (r:=Pol l[j]!) (po_at hj) rfl
set_option maxHeartbeats 16000000 in
set_option maxRecDepth 100000 in
theorem runR_spec {B:Nat} {H:Heap} {k:Ke} {cv tv pv:Value} {cs:List Co} {ts:List (Int × Int)} {ps:List Po} {B0 B1:List Int} {M:Nat} (hB:B<=H.n) (hk:KOk k) (hc:RowS 7 H cv (cs.map Col)) (ht:RowS 2 H tv (ts.map Hl)) (hp:RowS 3 H pv (ps.map Pol)) (ho:POk k.wa ps) (hf:FOk cs ts) (h0:IsBeg 0 cs ts B0) (h1:IsBeg 1 cs ts B1) (hM:M<=300) :
    CallB Try.prog B 81 [Kev k,Fv cv tv,pv,VJ M] H (fun q H'=>OwnSp H' q (warmL k (emL cs B0 B1) ps (M + 1)) H.n∧Keep H H'):=by
  have hn20:=ho.n
  have hEl:(emL cs B0 B1).length<=12:=by rw [emL_len]; exact hf.n
  have hEo:=emL_ok hf h0 h1
  refine CV.enter callees false rfl Try.func81 rfl (by kernel_rfl) (Nat.le_of_ble_eq_true rfl) hB ?_
  repeat' first | refine CO.cons rfl ?_ | refine CV.seq ?_ | refine CV.region callees ?_ | fail
  refine ⟨(by simp only [notTuple]),?_⟩
  rw [boxKe]
  generalize hs4:Heap.new H _ = H4
  have hg4:=new_get hs4
  have k4:=new_keep hs4
  have n4:=new_n hs4
  obtain ⟨b4,hbn4⟩:∃ b,Heap.n H = b:=⟨_,rfl⟩
  rw [hbn4] at hg4 n4 ⊢
  repeat' first | refine CO.cons rfl ?_ | fail
  refine ⟨(by simp only [notTuple]),?_⟩
  rw [allocFv hc.cells.1 ht.cells.1]
  generalize hs5:Heap.new H4 _ = H5
  have hg5:=new_get hs5
  have k5:=new_keep hs5
  have n5:=new_n hs5
  obtain ⟨b5,hbn5⟩:∃ b,Heap.n H4 = b:=⟨_,rfl⟩
  rw [hbn5] at hg5 n5 ⊢
  have k45:=k4.trans k5
  have hk5:=(k5.2 b4 (by omega)).trans hg4
  repeat' first | refine CO.cons rfl ?_ | refine CO.nil ?_ | refine CV.seq ?_ | refine CV.region callees ?_ | refine ⟨_,ld28 hg5,?_⟩ | fail
  refine (beginsV_spec (by omega) (hc.keep k45) (ht.keep k45) hf h0 h1).mono ?_
  rintro bg H6 ⟨hbg,k6⟩
  have l6:=k6.1
  have hk6:=(k6.2 b4 (by omega)).trans hk5
  have hf6:=(k6.2 b5 (by omega)).trans hg5
  have k46:=k45.trans k6
  have hkl:aload Try.prog 27 H6 (.pointer (some ⟨b4,0 + 1,none⟩)) = some (Hv (k.wl,k.wh)):=agg_load ag41 sz41 hk6 (Nat.le_of_ble_eq_true rfl)
  repeat' first | refine CO.cons rfl ?_ | refine CO.nil ?_ | refine CV.seq ?_ | refine CV.region callees ?_ | refine CR.cons ?_ | refine CV.wideR callees (by decide +kernel) [(0,[]),(1,[]),(2,[]),(3,[]),(4,[3,1]),(5,[3]),(6,[]),(7,[])] (by kernel_rfl) ?_ | refine ⟨_,fS foK1 (by decide),?_⟩ | refine ⟨_,fS foK0 (by decide),?_⟩ | refine ⟨_,cell_load ag3 hk6 rfl,?_⟩ | refine ⟨_,hkl,?_⟩ | refine ⟨_,_,al41,?_⟩ | fail
  generalize hs7:Heap.new H6 _ = H7
  have hg7:=new_get hs7
  have k7:=new_keep hs7
  have n7:=new_n hs7
  obtain ⟨b7,hbn7⟩:∃ b,Heap.n H6 = b:=⟨_,rfl⟩
  rw [hbn7] at hg7 n7 ⊢
  have hk7:=(k7.2 b4 (by omega)).trans hk6
  have hf7:=(k7.2 b5 (by omega)).trans hf6
  repeat' first | fail
  refine ⟨(show b4 ≠ b7 by omega),?_⟩
  refine ⟨_,cell_load ag3 hk7 rfl,?_⟩
  refine ⟨_,_,st41 hg7,by omega,?_⟩
  generalize hs8:Heap.set H7 b7 _ = H8
  have hg8:H8.get b7 = some (.cells (Hl (k.wl,k.wh)) 27 1):=set_get hs8
  have n8:=set_n hs8
  have o8:=set_old hs8
  have k68:Keep H6 H8:=keep_put k7 (by omega) o8 n8
  have k08:=k46.trans k68
  have hk8:=(o8 b4 (by omega)).trans hk7
  have hf8:=(o8 b5 (by omega)).trans hf7
  have hbg8:RowS 2 H8 bg ((begS (emL cs B0 B1)).map Hl):=(OwnS.row hbg).keep k68
  obtain ⟨E,hE⟩:∃ E,emL cs B0 B1 = E:=⟨_,rfl⟩
  rw [hE] at hEl hEo ⊢
  repeat' first | refine CO.cons rfl ?_ | refine CO.nil ?_ | refine CV.seq ?_ | refine CV.region callees ?_ | refine CV.block ?_ | refine CR.cons ?_ | refine CR.nil ?_ | fail
  refine CV.loopc ?_
  refine WCv.rounds callees false (α:=Nat × Nat × Wt × Value) (fun (i,j,w,q)=>[(2,pv),(3,VJ M),(4,.pointer (some ⟨b4,0,none⟩)),(5,.pointer (some ⟨b5,0,none⟩)),(9,bg),(10,q),(11,.pointer (some ⟨b7,0,none⟩)),(12,VJ w.la),(13,VJ j),(14,VJ i)]) (fun (i,j,w,q) Hz=>i<=M + 1∧preW k E ps i = (w,ps.drop j)∧WS k ps j w∧Hz.get b7 = some (.cells (Hl (w.w0,w.w1)) 27 1)∧OwnSp Hz q (warmL k E ps i) H8.n∧KeepX b7 H8 Hz) (fun (i,j,w,q)=>M + 1 - i) (0,0,⟨k.wa,k.wl,k.wh⟩,nilS) (by repeat' first | exact trivial | refine ⟨rfl,?_⟩ | refine ⟨slot_int (by (try simp only [Int.toNat_natCast]); omega),?_⟩) ?_ ?_
  · exact ⟨by omega,rfl,WS.zero hk,hg8,OwnS.nil,KeepX.refl _ _⟩
  rintro ⟨i,j,w,q⟩ Hx ⟨hi,hpre,hws,hgx,hq,kx⟩ hBx
  have lx:=kx.1
  have rx:∀ {X:Heap} {s:Nat} {v:Value} {rs:List (List Value)},KeepX b7 H8 X->RowS s H8 v rs->RowS s X v rs:=fun kk h=>h.keepX kk hg8
  by_cases hi2:i < M + 1
  rotate_left
  · obtain rfl:i = M + 1:=by omega
    repeat' first | refine CO.cons rfl ?_ | refine CO.nil ?_ | refine CV.seq ?_ | refine CV.region callees ?_ | refine CV.cond ?_ | refine CV.exit ?_ | refine CV.ret ?_ | (refine ⟨fun _=>?_,fun _=>?_⟩<;>try (exfalso; omega)) | fail
    have hkf:Keep H Hx:=⟨by have:=k08.1; omega,fun c hc=>(kx.2 c (by have:=k08.1; omega) (by have:=k46.1; omega)).trans (k08.2 c hc)⟩
    exact ⟨by simp only [List.all_cons,List.all_nil,OwnS.notTuple hq]; rfl,OwnS.low hq (by have:=k08.1; omega),hkf⟩
  have kkx:=(kx.2 b4 (by omega) (by omega)).trans hk8
  have ffx:=(kx.2 b5 (by omega) (by omega)).trans hf8
  have hqne:∀ c,blkOf q = some c->H8.n<=c∧c < Hx.n:=fun c hc=>hq.lt hc
  by_cases hi0:i = 0
  · have hbefR:befM k E ps i = (w,ps.drop j):=by rw [hi0] at hpre ⊢; exact hpre
    have hwsR:=hws
    have hgR:=hgx
    have hqR:=hq
    have kR:=kx
    repeat' first | refine CO.cons rfl ?_ | refine CO.nil ?_ | refine CV.seq ?_ | refine CV.region callees ?_ | refine CV.cond ?_ | refine CV.block ?_ | refine CV.skip ?_ | (refine ⟨fun _=>?_,fun _=>?_⟩<;>try (exfalso; omega)) | fail
    refine CV.loopc ?_
    refine WCv.rounds callees false (α:=Nat × Wt) (fun (j',w')=>[(2,pv),(3,VJ M),(4,.pointer (some ⟨b4,0,none⟩)),(5,.pointer (some ⟨b5,0,none⟩)),(9,bg),(10,q),(11,.pointer (some ⟨b7,0,none⟩)),(12,VJ w'.la),(13,VJ j'),(14,VJ i)]) (fun (j',w') Hz=>pourR i (ps.drop j') w' = aftM k E ps i∧WS k ps j' w'∧Hz.get b7 = some (.cells (Hl (w'.w0,w'.w1)) 27 1)∧OwnSp Hz q (warmL k E ps i) H8.n∧KeepX b7 H8 Hz) (fun (j',w')=>ps.length - j') (j,w) (by repeat' first | exact trivial | refine ⟨rfl,?_⟩ | refine ⟨slot_int (by (try simp only [Int.toNat_natCast]); omega),?_⟩) ?_ ?_
    · exact ⟨by rw [aftM,hbefR],hwsR,hgR,hqR,kR⟩
    rintro ⟨j',w'⟩ Hy ⟨hpr,hws',hgy,hqy,ky⟩ hBy
    have ly:=ky.1
    have hpy:=rx ky (hp.keep k08)
    have hjl:=hws'.jl
    by_cases hj:j' < ps.length
    · have hd:=drop_at hj
      have hpj:=ho.wm j' hj
      have hpl:=ho.la j' hj
      have hpa:=ho.wa (j' + 1) (by omega)
      have hps:=watN_succ (w:=k.wa) hj
      have hla:=hws'.la
      have hwo:=hws'.ok
      obtain ⟨wo1,wo2,wo3,wo4,wo5,wo6⟩:=hws'.ok
      have hld:=po_min hpy hj
      have hla2:=po_lad hpy hj
      have hlp:=po_load hpy hj
      by_cases hmi:ps[j']!.mi = i
      · have hpr2:pourR i (ps.drop j') w' = pourR i (ps.drop (j' + 1)) (pourN w' ps[j']!):=by rw [hd,pourR,if_pos hmi]
        repeat' first | refine CO.cons rfl ?_ | refine CO.nil ?_ | refine CV.seq ?_ | refine CV.region callees ?_ | refine CV.cond ?_ | refine CV.block ?_ | refine CV.skip ?_ | refine CO.consG rfl ?_ | refine ⟨_,po_len hpy,?_⟩ | refine ⟨_,po_addr hpy (by omega) (by omega),?_⟩ | refine ⟨_,po_f hpy foO0 (by decide) hj,?_⟩ | refine ⟨_,hld,?_⟩ | (refine ⟨fun _=>?_,fun _=>?_⟩<;>try (exfalso; omega)) | fail
        refine CV.wideR callees (by decide +kernel) [(0,[]),(1,[]),(2,[]),(3,[]),(4,[]),(5,[]),(6,[]),(9,[]),(10,[]),(11,[]),(12,[]),(13,[]),(14,[]),(15,[]),(7,[14,12]),(8,[]),(16,[8]),(17,[]),(18,[]),(19,[])] (by kernel_rfl) ?_
        repeat' first | refine CR.cons ?_ | refine ⟨_,po_addr hpy (by omega) (by omega),?_⟩ | refine ⟨_,hlp,?_⟩ | refine ⟨_,fS foS0 (by decide),?_⟩ | refine ⟨_,fS foS1 (by decide),?_⟩ | refine ⟨_,cell_load ag3 hgy rfl,?_⟩ | fail
        refine (pouredR_spec (p:=ps[j']!) (x:=w'.w0) (la:=w'.la) (by omega) wo3 wo4 wo1 wo2 hpj.1 hpj.2 hpl.1 hpl.2.1 hpl.2.2 (by omega) (by omega)).mono ?_
        rintro r Ha ⟨rfl,ka⟩
        have la:=ka.1
        have hga:=(ka.2 b7 (by omega)).trans hgy
        have hlpa:=po_load (hpy.keep ka) hj
        repeat' first | refine CR.cons ?_ | refine ⟨_,cell_load ag3 hga rfl,?_⟩ | refine ⟨(rfl:_ = Value.int _ _),?_⟩ | refine ⟨same_int,?_⟩ | refine ⟨_,hlpa,?_⟩ | refine ⟨(rfl:_ = Pov _),?_⟩ | refine ⟨same_wt,?_⟩ | refine ⟨_,afS0,?_⟩ | fail
        refine (pouredR_spec (p:=ps[j']!) (x:=w'.w1) (la:=w'.la) (by omega) wo5 wo6 wo1 wo2 hpj.1 hpj.2 hpl.1 hpl.2.1 hpl.2.2 (by omega) (by omega)).mono ?_
        rintro r Hb ⟨rfl,kb⟩
        have lb:=kb.1
        have hgb:=(kb.2 b7 (by omega)).trans hga
        repeat' first | refine CR.cons ?_ | refine ⟨(rfl:_ = Value.int _ _),?_⟩ | refine ⟨same_int,?_⟩ | refine ⟨_,afS0,?_⟩ | refine ⟨_,afS1,?_⟩ | refine ⟨_,bu41,?_⟩ | fail
        refine ⟨_,_,st41 hgb,by omega,?_⟩
        rw [pour_a,pour_b]
        generalize hsc:Heap.set Hb b7 _ = Hc
        have hgc:Hc.get b7 = some (.cells (Hl ((pourN w' ps[j']!).w0,(pourN w' ps[j']!).w1)) 27 1):=set_get hsc
        have nc:=set_n hsc
        have oc:=set_old hsc
        have kxc:KeepX b7 Hy Hc:=⟨by omega,fun x hx hxb=>by rw [oc x hxb,kb.2 x (by omega),ka.2 x hx]⟩
        have hpc:=hpy.keepX kxc hgy
        have hlac:=po_lad hpc hj
        have hqc:OwnSp Hc q (warmL k E ps i) H8.n:=OwnS.keepX hqy kxc hgy
        have hpla:(pourN w' ps[j']!).la = w'.la + ps[j']!.la:=by unfold pourN; split<;>rfl
        repeat' first | refine CO.cons rfl ?_ | refine CO.nil ?_ | refine CV.seq ?_ | refine CV.region callees ?_ | refine CR.nil ?_ | refine ⟨(⟨by omega,by omega⟩:inI64 _),?_⟩ | refine ⟨_,po_addr hpc (by omega) (by omega),?_⟩ | refine ⟨_,po_f hpc foO1 (by decide) hj,?_⟩ | refine ⟨_,hlac,?_⟩ | fail
        rw [<- hpla]
        refine ⟨(j' + 1,pourN w' ps[j']!),(by repeat' first | exact trivial | refine ⟨rfl,?_⟩ | refine ⟨slot_int (by (try simp only [Int.toNat_natCast]); omega),?_⟩),(by (try dsimp only); omega),?_⟩
        exact ⟨by rw [<- hpr2]; exact hpr,hws'.pour ho hj,hgc,hqc,ky.trans kxc⟩
      · repeat' first | refine CO.cons rfl ?_ | refine CO.nil ?_ | refine CV.seq ?_ | refine CV.region callees ?_ | refine CV.cond ?_ | refine CV.exit ?_ | refine CO.consG rfl ?_ | refine ⟨_,po_len hpy,?_⟩ | refine ⟨_,po_addr hpy (by omega) (by omega),?_⟩ | refine ⟨_,po_f hpy foO0 (by decide) hj,?_⟩ | refine ⟨_,hld,?_⟩ | (refine ⟨fun _=>?_,fun _=>?_⟩<;>try (exfalso; omega)) | fail
        have haft2:aftM k E ps i = (w',ps.drop j'):=(by rw [<- hpr,hd,pourR,if_neg hmi])
        have hwarm:warmM k E ps i = (w'.w0,w'.w1):=by rw [warmM,haft2]
        repeat' first | refine CO.cons rfl ?_ | refine ⟨_,ld41 hgy,?_⟩ | refine ⟨_,_,sp_one,?_⟩ | fail
        refine sp_push (d:=(w'.w0,w'.w1)) hqy (by omega) (by omega) (by rw [warmL_len]; omega) ?_
        intro q2 HZ hqZ kbZ fZ
        have lZ:=kbZ.le
        rw [show warmL k E ps i ++ [(w'.w0,w'.w1)] = warmL k E ps (i + 1) by rw [warmL_succ,hwarm]] at hqZ
        have hqn:∀ c,blkOf q = some c->H8.n<=c:=fun c hc=>(hqy.lt hc).1
        repeat' first | refine CO.cons rfl ?_ | refine CO.nil ?_ | refine CV.region callees ?_ | refine ⟨(⟨by omega,by omega⟩:inI64 _),?_⟩ | fail
        refine ⟨(i + 1,j',w',q2),(by repeat' first | exact trivial | refine ⟨rfl,?_⟩ | refine ⟨slot_int (by (try simp only [Int.toNat_natCast]); omega),?_⟩),(by (try dsimp only); omega),?_⟩
        exact ⟨by omega,haft2,hws',(kbZ.get b7 (by omega) (fun h=>by have:=hqn _ h; omega)).trans hgy,hqZ,kbZ.keepX ky fun c hc=>by have:=hqn _ hc; omega⟩
    · have hde:ps.drop j' = []:=List.drop_eq_nil_of_le (by omega)
      repeat' first | refine CO.cons rfl ?_ | refine CO.nil ?_ | refine CV.seq ?_ | refine CV.region callees ?_ | refine CV.cond ?_ | refine CV.exit ?_ | refine CO.consG rfl ?_ | refine ⟨_,po_len hpy,?_⟩ | (refine ⟨fun _=>?_,fun _=>?_⟩<;>try (exfalso; omega)) | fail
      have haft2:aftM k E ps i = (w',ps.drop j'):=(by rw [<- hpr,hde]; rfl)
      have hwarm:warmM k E ps i = (w'.w0,w'.w1):=by rw [warmM,haft2]
      repeat' first | refine CO.cons rfl ?_ | refine ⟨_,ld41 hgy,?_⟩ | refine ⟨_,_,sp_one,?_⟩ | fail
      refine sp_push (d:=(w'.w0,w'.w1)) hqy (by omega) (by omega) (by rw [warmL_len]; omega) ?_
      intro q2 HZ hqZ kbZ fZ
      have lZ:=kbZ.le
      rw [show warmL k E ps i ++ [(w'.w0,w'.w1)] = warmL k E ps (i + 1) by rw [warmL_succ,hwarm]] at hqZ
      have hqn:∀ c,blkOf q = some c->H8.n<=c:=fun c hc=>(hqy.lt hc).1
      repeat' first | refine CO.cons rfl ?_ | refine CO.nil ?_ | refine CV.region callees ?_ | refine ⟨(⟨by omega,by omega⟩:inI64 _),?_⟩ | fail
      refine ⟨(i + 1,j',w',q2),(by repeat' first | exact trivial | refine ⟨rfl,?_⟩ | refine ⟨slot_int (by (try simp only [Int.toNat_natCast]); omega),?_⟩),(by (try dsimp only); omega),?_⟩
      exact ⟨by omega,haft2,hws',(kbZ.get b7 (by omega) (fun h=>by have:=hqn _ h; omega)).trans hgy,hqZ,kbZ.keepX ky fun c hc=>by have:=hqn _ hc; omega⟩
  obtain ⟨m,hm⟩:∃ m,i = m + 1:=⟨i - 1,by omega⟩
  have hpre2:aftM k E ps m = (w,ps.drop j):=by rw [hm] at hpre; exact hpre
  have hmi:((i:Int) - 1) = (m:Int):=by omega
  have hbd:=heatL_bd (m:=(m:Int)) hEl hEo
  obtain ⟨wx1,wx2,wx3,wx4,wx5,wx6⟩:=hws.ok
  repeat' first | refine CO.cons rfl ?_ | refine CO.nil ?_ | refine CV.seq ?_ | refine CV.region callees ?_ | refine CV.cond ?_ | refine CV.block ?_ | refine CV.skip ?_ | refine ⟨(⟨by omega,by omega⟩:inI64 _),?_⟩ | refine ⟨_,ld28 ffx,?_⟩ | (refine ⟨fun _=>?_,fun _=>?_⟩<;>try (exfalso; omega)) | fail
  rw [hmi]
  have hv:=heatV_spec (B:=B) (m:=(m:Int)) hBx (rx kx (hc.keep k08)) (rx kx (ht.keep k08)) (rx kx hbg8) hf h0 h1 (by omega) (by omega)
  rw [hE] at hv
  refine hv.mono ?_
  rintro r Ha ⟨rfl,ka⟩
  have la:=ka.1
  have hga:=(ka.2 b7 (by omega)).trans hgx
  have kka:=(ka.2 b4 (by omega)).trans kkx
  repeat' first | refine CO.cons rfl ?_ | refine ⟨_,_,al41,?_⟩ | fail
  generalize hsd:Heap.new Ha _ = Hd
  have hgd:=new_get hsd
  have kd:=new_keep hsd
  have nd:=new_n hsd
  obtain ⟨bd,hbnd⟩:∃ b,Heap.n Ha = b:=⟨_,rfl⟩
  rw [hbnd] at hgd nd ⊢
  have hgd7:=(kd.2 b7 (by omega)).trans hga
  have kkd:=(kd.2 b4 (by omega)).trans kka
  repeat' first | fail
  refine ⟨_,_,st41 hgd,by omega,?_⟩
  generalize hse:Heap.set Hd bd _ = He
  have hge:He.get bd = some (.cells (Hl (heatL E m)) 27 1):=set_get hse
  have ne:=set_n hse
  have oe:=set_old hse
  have hge7:=(oe b7 (by omega)).trans hgd7
  have kke:=(oe b4 (by omega)).trans kkd
  repeat' first | refine CO.nil ?_ | refine CR.cons ?_ | refine CV.wideR callees (by decide +kernel) [(0,[]),(1,[]),(2,[]),(3,[]),(4,[]),(5,[]),(8,[]),(9,[]),(10,[]),(11,[]),(12,[]),(13,[]),(6,[13,10,8]),(7,[]),(14,[7]),(15,[]),(16,[]),(17,[])] (by kernel_rfl) ?_ | refine ⟨_,ld51 kke,?_⟩ | refine ⟨_,fS foS0 (by decide),?_⟩ | refine ⟨_,fS foS1 (by decide),?_⟩ | refine ⟨_,cell_load ag3 hge7 rfl,?_⟩ | refine ⟨_,cell_load ag3 hge rfl,?_⟩ | fail
  refine (heatedR_spec (x:=w.w0) (la:=w.la) (y:=(heatL E m).1) (by omega) hk wx3 wx4 wx1 wx2 hbd.1.1 hbd.1.2).mono ?_
  rintro r Hf ⟨rfl,kf⟩
  have lf:=kf.1
  have hgf7:=(kf.2 b7 (by omega)).trans hge7
  have hgf:=(kf.2 bd (by omega)).trans hge
  have kkf:=(kf.2 b4 (by omega)).trans kke
  repeat' first | refine CR.cons ?_ | refine ⟨_,cell_load ag3 hgf7 rfl,?_⟩ | refine ⟨_,cell_load ag3 hgf rfl,?_⟩ | refine ⟨(rfl:_ = Value.int _ _),?_⟩ | refine ⟨same_int,?_⟩ | refine ⟨_,ld51 kkf,?_⟩ | refine ⟨(rfl:_ = Kev _),?_⟩ | refine ⟨same_ke,?_⟩ | refine ⟨_,afS0,?_⟩ | fail
  refine (heatedR_spec (x:=w.w1) (la:=w.la) (y:=(heatL E m).2) (by omega) hk wx5 wx6 wx1 wx2 hbd.2.1 hbd.2.2).mono ?_
  rintro r Hg ⟨rfl,kg⟩
  have lg:=kg.1
  have hgg7:=(kg.2 b7 (by omega)).trans hgf7
  repeat' first | refine CR.cons ?_ | refine ⟨(rfl:_ = Value.int _ _),?_⟩ | refine ⟨same_int,?_⟩ | refine ⟨_,afS0,?_⟩ | refine ⟨_,afS1,?_⟩ | refine ⟨_,bu41,?_⟩ | fail
  refine ⟨_,_,st41 hgg7,by omega,?_⟩
  generalize hsr:Heap.set Hg b7 _ = Hr
  have hgr:Hr.get b7 = some (.cells (Hl ((hotN k w (heatL E m)).w0,(hotN k w (heatL E m)).w1)) 27 1):=set_get hsr
  have nr:=set_n hsr
  have or:=set_old hsr
  have kxr:KeepX b7 Hx Hr:=⟨by omega,fun x hx hxb=>by rw [or x hxb,kg.2 x (by omega),kf.2 x (by omega),oe x (by omega),kd.2 x (by omega),ka.2 x hx]⟩
  have hbefR:befM k E ps i = (hotN k w (heatL E m),ps.drop j):=by
    have:befM k E ps (m + 1) = (hotN k (aftM k E ps m).1 (heatL E m),(aftM k E ps m).2):=rfl
    rw [hm,this,hpre2]
  have hwsR:WS k ps j (hotN k w (heatL E m)):=⟨hws.jl,hws.la,hotN_ok hws.ok hk hbd.1.1 hbd.1.2 hbd.2.1 hbd.2.2⟩
  have hgR:=hgr
  have hqR:OwnSp Hr q (warmL k E ps i) H8.n:=OwnS.keepX hq kxr hgx
  have kR:=kx.trans kxr
  repeat' first | refine CV.seq ?_ | refine CV.block ?_ | refine CR.nil ?_ | fail
  refine CV.loopc ?_
  refine WCv.rounds callees false (α:=Nat × Wt) (fun (j',w')=>[(2,pv),(3,VJ M),(4,.pointer (some ⟨b4,0,none⟩)),(5,.pointer (some ⟨b5,0,none⟩)),(9,bg),(10,q),(11,.pointer (some ⟨b7,0,none⟩)),(12,VJ w'.la),(13,VJ j'),(14,VJ i)]) (fun (j',w') Hz=>pourR i (ps.drop j') w' = aftM k E ps i∧WS k ps j' w'∧Hz.get b7 = some (.cells (Hl (w'.w0,w'.w1)) 27 1)∧OwnSp Hz q (warmL k E ps i) H8.n∧KeepX b7 H8 Hz) (fun (j',w')=>ps.length - j') (j,hotN k w (heatL E m)) (by repeat' first | exact trivial | refine ⟨rfl,?_⟩ | refine ⟨slot_int (by (try simp only [Int.toNat_natCast]); omega),?_⟩) ?_ ?_
  · exact ⟨by rw [aftM,hbefR],hwsR,hgR,hqR,kR⟩
  rintro ⟨j',w'⟩ Hy ⟨hpr,hws',hgy,hqy,ky⟩ hBy
  have ly:=ky.1
  have hpy:=rx ky (hp.keep k08)
  have hjl:=hws'.jl
  by_cases hj:j' < ps.length
  · have hd:=drop_at hj
    have hpj:=ho.wm j' hj
    have hpl:=ho.la j' hj
    have hpa:=ho.wa (j' + 1) (by omega)
    have hps:=watN_succ (w:=k.wa) hj
    have hla:=hws'.la
    have hwo:=hws'.ok
    obtain ⟨wo1,wo2,wo3,wo4,wo5,wo6⟩:=hws'.ok
    have hld:=po_min hpy hj
    have hla2:=po_lad hpy hj
    have hlp:=po_load hpy hj
    by_cases hmi:ps[j']!.mi = i
    · have hpr2:pourR i (ps.drop j') w' = pourR i (ps.drop (j' + 1)) (pourN w' ps[j']!):=by rw [hd,pourR,if_pos hmi]
      repeat' first | refine CO.cons rfl ?_ | refine CO.nil ?_ | refine CV.seq ?_ | refine CV.region callees ?_ | refine CV.cond ?_ | refine CV.block ?_ | refine CV.skip ?_ | refine CO.consG rfl ?_ | refine ⟨_,po_len hpy,?_⟩ | refine ⟨_,po_addr hpy (by omega) (by omega),?_⟩ | refine ⟨_,po_f hpy foO0 (by decide) hj,?_⟩ | refine ⟨_,hld,?_⟩ | (refine ⟨fun _=>?_,fun _=>?_⟩<;>try (exfalso; omega)) | fail
      refine CV.wideR callees (by decide +kernel) [(0,[]),(1,[]),(2,[]),(3,[]),(4,[]),(5,[]),(6,[]),(9,[]),(10,[]),(11,[]),(12,[]),(13,[]),(14,[]),(15,[]),(7,[14,12]),(8,[]),(16,[8]),(17,[]),(18,[]),(19,[])] (by kernel_rfl) ?_
      repeat' first | refine CR.cons ?_ | refine ⟨_,po_addr hpy (by omega) (by omega),?_⟩ | refine ⟨_,hlp,?_⟩ | refine ⟨_,fS foS0 (by decide),?_⟩ | refine ⟨_,fS foS1 (by decide),?_⟩ | refine ⟨_,cell_load ag3 hgy rfl,?_⟩ | fail
      refine (pouredR_spec (p:=ps[j']!) (x:=w'.w0) (la:=w'.la) (by omega) wo3 wo4 wo1 wo2 hpj.1 hpj.2 hpl.1 hpl.2.1 hpl.2.2 (by omega) (by omega)).mono ?_
      rintro r Ha ⟨rfl,ka⟩
      have la:=ka.1
      have hga:=(ka.2 b7 (by omega)).trans hgy
      have hlpa:=po_load (hpy.keep ka) hj
      repeat' first | refine CR.cons ?_ | refine ⟨_,cell_load ag3 hga rfl,?_⟩ | refine ⟨(rfl:_ = Value.int _ _),?_⟩ | refine ⟨same_int,?_⟩ | refine ⟨_,hlpa,?_⟩ | refine ⟨(rfl:_ = Pov _),?_⟩ | refine ⟨same_wt,?_⟩ | refine ⟨_,afS0,?_⟩ | fail
      refine (pouredR_spec (p:=ps[j']!) (x:=w'.w1) (la:=w'.la) (by omega) wo5 wo6 wo1 wo2 hpj.1 hpj.2 hpl.1 hpl.2.1 hpl.2.2 (by omega) (by omega)).mono ?_
      rintro r Hb ⟨rfl,kb⟩
      have lb:=kb.1
      have hgb:=(kb.2 b7 (by omega)).trans hga
      repeat' first | refine CR.cons ?_ | refine ⟨(rfl:_ = Value.int _ _),?_⟩ | refine ⟨same_int,?_⟩ | refine ⟨_,afS0,?_⟩ | refine ⟨_,afS1,?_⟩ | refine ⟨_,bu41,?_⟩ | fail
      refine ⟨_,_,st41 hgb,by omega,?_⟩
      rw [pour_a,pour_b]
      generalize hsc:Heap.set Hb b7 _ = Hc
      have hgc:Hc.get b7 = some (.cells (Hl ((pourN w' ps[j']!).w0,(pourN w' ps[j']!).w1)) 27 1):=set_get hsc
      have nc:=set_n hsc
      have oc:=set_old hsc
      have kxc:KeepX b7 Hy Hc:=⟨by omega,fun x hx hxb=>by rw [oc x hxb,kb.2 x (by omega),ka.2 x hx]⟩
      have hpc:=hpy.keepX kxc hgy
      have hlac:=po_lad hpc hj
      have hqc:OwnSp Hc q (warmL k E ps i) H8.n:=OwnS.keepX hqy kxc hgy
      have hpla:(pourN w' ps[j']!).la = w'.la + ps[j']!.la:=by unfold pourN; split<;>rfl
      repeat' first | refine CO.cons rfl ?_ | refine CO.nil ?_ | refine CV.seq ?_ | refine CV.region callees ?_ | refine CR.nil ?_ | refine ⟨(⟨by omega,by omega⟩:inI64 _),?_⟩ | refine ⟨_,po_addr hpc (by omega) (by omega),?_⟩ | refine ⟨_,po_f hpc foO1 (by decide) hj,?_⟩ | refine ⟨_,hlac,?_⟩ | fail
      rw [<- hpla]
      refine ⟨(j' + 1,pourN w' ps[j']!),(by repeat' first | exact trivial | refine ⟨rfl,?_⟩ | refine ⟨slot_int (by (try simp only [Int.toNat_natCast]); omega),?_⟩),(by (try dsimp only); omega),?_⟩
      exact ⟨by rw [<- hpr2]; exact hpr,hws'.pour ho hj,hgc,hqc,ky.trans kxc⟩
    · repeat' first | refine CO.cons rfl ?_ | refine CO.nil ?_ | refine CV.seq ?_ | refine CV.region callees ?_ | refine CV.cond ?_ | refine CV.exit ?_ | refine CO.consG rfl ?_ | refine ⟨_,po_len hpy,?_⟩ | refine ⟨_,po_addr hpy (by omega) (by omega),?_⟩ | refine ⟨_,po_f hpy foO0 (by decide) hj,?_⟩ | refine ⟨_,hld,?_⟩ | (refine ⟨fun _=>?_,fun _=>?_⟩<;>try (exfalso; omega)) | fail
      have haft2:aftM k E ps i = (w',ps.drop j'):=(by rw [<- hpr,hd,pourR,if_neg hmi])
      have hwarm:warmM k E ps i = (w'.w0,w'.w1):=by rw [warmM,haft2]
      repeat' first | refine CO.cons rfl ?_ | refine ⟨_,ld41 hgy,?_⟩ | refine ⟨_,_,sp_one,?_⟩ | fail
      refine sp_push (d:=(w'.w0,w'.w1)) hqy (by omega) (by omega) (by rw [warmL_len]; omega) ?_
      intro q2 HZ hqZ kbZ fZ
      have lZ:=kbZ.le
      rw [show warmL k E ps i ++ [(w'.w0,w'.w1)] = warmL k E ps (i + 1) by rw [warmL_succ,hwarm]] at hqZ
      have hqn:∀ c,blkOf q = some c->H8.n<=c:=fun c hc=>(hqy.lt hc).1
      repeat' first | refine CO.cons rfl ?_ | refine CO.nil ?_ | refine CV.region callees ?_ | refine ⟨(⟨by omega,by omega⟩:inI64 _),?_⟩ | fail
      refine ⟨(i + 1,j',w',q2),(by repeat' first | exact trivial | refine ⟨rfl,?_⟩ | refine ⟨slot_int (by (try simp only [Int.toNat_natCast]); omega),?_⟩),(by (try dsimp only); omega),?_⟩
      exact ⟨by omega,haft2,hws',(kbZ.get b7 (by omega) (fun h=>by have:=hqn _ h; omega)).trans hgy,hqZ,kbZ.keepX ky fun c hc=>by have:=hqn _ hc; omega⟩
  · have hde:ps.drop j' = []:=List.drop_eq_nil_of_le (by omega)
    repeat' first | refine CO.cons rfl ?_ | refine CO.nil ?_ | refine CV.seq ?_ | refine CV.region callees ?_ | refine CV.cond ?_ | refine CV.exit ?_ | refine CO.consG rfl ?_ | refine ⟨_,po_len hpy,?_⟩ | (refine ⟨fun _=>?_,fun _=>?_⟩<;>try (exfalso; omega)) | fail
    have haft2:aftM k E ps i = (w',ps.drop j'):=(by rw [<- hpr,hde]; rfl)
    have hwarm:warmM k E ps i = (w'.w0,w'.w1):=by rw [warmM,haft2]
    repeat' first | refine CO.cons rfl ?_ | refine ⟨_,ld41 hgy,?_⟩ | refine ⟨_,_,sp_one,?_⟩ | fail
    refine sp_push (d:=(w'.w0,w'.w1)) hqy (by omega) (by omega) (by rw [warmL_len]; omega) ?_
    intro q2 HZ hqZ kbZ fZ
    have lZ:=kbZ.le
    rw [show warmL k E ps i ++ [(w'.w0,w'.w1)] = warmL k E ps (i + 1) by rw [warmL_succ,hwarm]] at hqZ
    have hqn:∀ c,blkOf q = some c->H8.n<=c:=fun c hc=>(hqy.lt hc).1
    repeat' first | refine CO.cons rfl ?_ | refine CO.nil ?_ | refine CV.region callees ?_ | refine ⟨(⟨by omega,by omega⟩:inI64 _),?_⟩ | fail
    refine ⟨(i + 1,j',w',q2),(by repeat' first | exact trivial | refine ⟨rfl,?_⟩ | refine ⟨slot_int (by (try simp only [Int.toNat_natCast]); omega),?_⟩),(by (try dsimp only); omega),?_⟩
    exact ⟨by omega,haft2,hws',(kbZ.get b7 (by omega) (fun h=>by have:=hqn _ h; omega)).trans hgy,hqZ,kbZ.keepX ky fun c hc=>by have:=hqn _ hc; omega⟩
end Go.Proofs.Ytglkphjjinmgmaa
