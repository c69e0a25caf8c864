/- Several texts in one. -/
import Derived.Test.YtglkphjjinmgmaaM1h
set_option linter.unusedVariables false
set_option linter.unusedSimpArgs false
namespace Go.Proofs.Ytglkphjjinmgmaa
open Go.AI
structure Ke where
  wa:Int
  wl:Int
  wh:Int
  ro:Int
  ga:Int
  lo:Int
  si:Int
  bo:Int
deriving Inhabited
structure Po where
  mi:Int
  la:Int
  wm:Int
deriving Inhabited
structure Em where
  b0:Int
  b1:Int
  l0:Int
  l1:Int
  h0:Int
  h1:Int
deriving Inhabited
structure Wt where
  la:Int
  w0:Int
  w1:Int
deriving Inhabited
abbrev Kel (k:Ke):List Value:=[VJ k.wa,VJ k.wl,VJ k.wh,VJ k.ro,VJ k.ga,VJ k.lo,VJ k.si,VJ k.bo]
abbrev Kev (k:Ke):Value:=.agg #[VJ k.wa,VJ k.wl,VJ k.wh,VJ k.ro,VJ k.ga,VJ k.lo,VJ k.si,VJ k.bo]
abbrev Pol (p:Po):List Value:=[VJ p.mi,VJ p.la,VJ p.wm]
abbrev Pov (p:Po):Value:=.agg #[VJ p.mi,VJ p.la,VJ p.wm]
abbrev Eml (x:Em):List Value:=[VJ x.b0,VJ x.b1,VJ x.l0,VJ x.l1,VJ x.h0,VJ x.h1]
abbrev Emv (x:Em):Value:=.agg #[VJ x.b0,VJ x.b1,VJ x.l0,VJ x.l1,VJ x.h0,VJ x.h1]
abbrev Wtl (x:Wt):List Value:=[VJ x.la,VJ x.w0,VJ x.w1]
abbrev Wtv (x:Wt):Value:=.agg #[VJ x.la,VJ x.w0,VJ x.w1]
abbrev Bol (k:Ke) (c p:Value):List Value:=[VJ k.wa,VJ k.wl,VJ k.wh,VJ k.ro,VJ k.ga,VJ k.lo,VJ k.si,VJ k.bo,c,p]
abbrev Bov (k:Ke) (c p:Value):Value:=.agg #[VJ k.wa,VJ k.wl,VJ k.wh,VJ k.ro,VJ k.ga,VJ k.lo,VJ k.si,VJ k.bo,c,p]
theorem boxCo {H:Heap} {c:Co}:anew H (Value.cells (Cov c)).toList 32 1 = H.new (.cells (Col c) 32 1):=rfl
theorem boxKe {H:Heap} {k:Ke}:anew H (Value.cells (Kev k)).toList 29 1 = H.new (.cells (Kel k) 29 1):=rfl
theorem boxPo {H:Heap} {p:Po}:anew H (Value.cells (Pov p)).toList 82 1 = H.new (.cells (Pol p) 82 1):=rfl
theorem boxEm {H:Heap} {x:Em}:anew H (Value.cells (Emv x)).toList 106 1 = H.new (.cells (Eml x) 106 1):=rfl
theorem boxWt {H:Heap} {x:Wt}:anew H (Value.cells (Wtv x)).toList 138 1 = H.new (.cells (Wtl x) 138 1):=rfl
theorem boxBo {H:Heap} {k:Ke} {c p:Value} (h1:c.cells.toList = [c]) (h2:p.cells.toList = [p]):anew H (Value.cells (Bov k c p)).toList 116 1 = H.new (.cells (Bol k c p) 116 1):=by
  have:(Value.cells (Bov k c p)).toList = Kel k ++ (c.cells.toList ++ (p.cells.toList ++ [])):=by
    rw [h1,h2]; rfl
  rw [this,h1,h2]; rfl
set_option maxRecDepth 100000 in
theorem isWithin_spec {B:Nat} {H:Heap} {n a b:Int} (hB:B<=H.n) :
    CallB Try.prog B 71 [VJ n,VJ a,VJ b] H (fun r H'=>r = .bool (decide (a<=n∧n<=b))∧H' = H):=by
  refine CV.enter callees false rfl Try.func71 rfl (by kernel_rfl) (Nat.le_of_ble_eq_true rfl) hB ?_
  repeat' first | refine CO.cons rfl ?_ | refine CO.nil ?_ | refine CV.seq ?_ | refine CV.region callees ?_ | refine CV.ret ?_ | refine CO.consG rfl ?_ | (refine ⟨fun _=>?_,fun _=>?_⟩<;>try (exfalso; omega)) | fail
  · rename_i h1 h2
    exact ⟨rfl,by rw [decide_eq_true (⟨h1,h2⟩:a<=n∧n<=b)],rfl⟩
  · rename_i h1 h2
    exact ⟨rfl,by rw [decide_eq_false (fun h=>h2 h.2)],rfl⟩
  · rename_i h1
    exact ⟨rfl,by rw [decide_eq_false (fun h=>h1 h.1)],rfl⟩
theorem isWithin_yes {B:Nat} {H:Heap} {n a b:Int} (hB:B<=H.n) (h:a<=n∧n<=b) :
    CallB Try.prog B 71 [VJ n,VJ a,VJ b] H (fun r H'=>r = .bool true∧H' = H) :=
  (isWithin_spec hB).mono fun r H' ⟨h1,h2⟩=>⟨by rw [h1,decide_eq_true h],h2⟩
set_option maxRecDepth 100000 in
theorem checkSpan_ok {B:Nat} {H:Heap} {p:Int × Int} {a b:Int} (hB:B<=H.n) (h1:a<=p.1) (h2:p.1<=p.2) (h3:p.2<=b) :
    CallB Try.prog B 77 [Hv p,VJ a,VJ b] H (fun r H'=>r = VJ 0∧Keep H H'):=by
  refine CV.enter callees false rfl Try.func77 rfl (by kernel_rfl) (Nat.le_of_ble_eq_true rfl) hB ?_
  repeat' first | refine CO.cons rfl ?_ | refine CV.seq ?_ | refine CV.region callees ?_ | fail
  refine ⟨(by simp only [notTuple]),?_⟩
  rw [allocHv]
  generalize hs0:Heap.new H _ = H0
  have hg0:=new_get hs0
  have k0:=new_keep hs0
  have n0:=new_n hs0
  obtain ⟨b0,hbn0⟩:∃ b,Heap.n H = b:=⟨_,rfl⟩
  rw [hbn0] at hg0 n0 ⊢
  repeat' first | refine CO.cons rfl ?_ | refine CO.nil ?_ | refine CV.seq ?_ | refine CV.region callees ?_ | refine ⟨_,fS foS0 (by decide),?_⟩ | refine ⟨_,cell_load ag3 hg0 rfl,?_⟩ | fail
  refine (isWithin_yes (by omega) ⟨by omega,by omega⟩).mono ?_
  rintro r H1 ⟨rfl,rfl⟩
  repeat' first | refine CO.cons rfl ?_ | refine CO.consG rfl ?_ | refine ⟨_,fS foS1 (by decide),?_⟩ | refine ⟨_,cell_load ag3 hg0 rfl,?_⟩ | fail
  refine (isWithin_yes (by omega) ⟨by omega,by omega⟩).mono ?_
  rintro r H2 ⟨rfl,rfl⟩
  repeat' first | refine CO.cons rfl ?_ | refine CO.nil ?_ | refine CV.seq ?_ | refine CV.region callees ?_ | refine CV.cond ?_ | refine CV.skip ?_ | refine CV.ret ?_ | refine CO.consG rfl ?_ | refine ⟨_,fS foS0 (by decide),?_⟩ | refine ⟨_,fS foS1 (by decide),?_⟩ | refine ⟨_,cell_load ag3 hg0 rfl,?_⟩ | (refine ⟨fun _=>?_,fun _=>?_⟩<;>try (exfalso; omega)) | fail
  exact ⟨rfl,rfl,k0⟩
set_option maxRecDepth 100000 in
theorem checkCoal_ok {B:Nat} {H:Heap} {c:Co} (hB:B<=H.n) (hc:CoOk c) :
    CallB Try.prog B 75 [Cov c] H (fun r H'=>r = VJ 0∧Keep H H'):=by
  obtain ⟨c1,c2,c3,d1,d2,d3,e1,e2,e3⟩:=hc
  refine CV.enter callees false rfl Try.func75 rfl (by kernel_rfl) (Nat.le_of_ble_eq_true rfl) hB ?_
  repeat' first | refine CO.cons rfl ?_ | refine CV.seq ?_ | refine CV.region callees ?_ | fail
  refine ⟨(by simp only [notTuple]),?_⟩
  rw [boxCo]
  generalize hs0:Heap.new H _ = H0
  have hg0:=new_get hs0
  have k0:=new_keep hs0
  have n0:=new_n hs0
  obtain ⟨b0,hbn0⟩:∃ b,Heap.n H = b:=⟨_,rfl⟩
  rw [hbn0] at hg0 n0 ⊢
  repeat' first | refine CO.cons rfl ?_ | refine CO.nil ?_ | refine CV.seq ?_ | refine CV.region callees ?_ | refine ⟨_,fS foC0 (by decide),?_⟩ | refine ⟨_,agg_load ag41 sz41 hg0 (Nat.le_of_ble_eq_true rfl),?_⟩ | fail
  refine (checkSpan_ok (p:=(c.cl,c.ch)) (by omega) (by omega) c2 (by omega)).mono ?_
  rintro r H1 ⟨rfl,k1⟩
  have hg1:=(k1.2 b0 (by omega)).trans hg0
  have l1:=k1.1
  repeat' first | refine CO.cons rfl ?_ | refine CO.nil ?_ | refine CV.seq ?_ | refine CV.region callees ?_ | refine CV.cond ?_ | refine CV.skip ?_ | refine ⟨_,fS foC1 (by decide),?_⟩ | refine ⟨_,agg_load ag41 sz41 hg1 (Nat.le_of_ble_eq_true rfl),?_⟩ | (refine ⟨fun _=>?_,fun _=>?_⟩<;>try (exfalso; omega)) | fail
  refine (checkSpan_ok (p:=(c.bl,c.bh)) (by omega) (by omega) d2 (by omega)).mono ?_
  rintro r H2 ⟨rfl,k2⟩
  have hg2:=(k2.2 b0 (by omega)).trans hg1
  have l2:=k2.1
  repeat' first | refine CO.cons rfl ?_ | refine CO.nil ?_ | refine CV.seq ?_ | refine CV.region callees ?_ | refine CV.cond ?_ | refine CV.skip ?_ | refine ⟨_,fS foC2 (by decide),?_⟩ | refine ⟨_,agg_load ag41 sz41 hg2 (Nat.le_of_ble_eq_true rfl),?_⟩ | (refine ⟨fun _=>?_,fun _=>?_⟩<;>try (exfalso; omega)) | fail
  refine (checkSpan_ok (p:=(c.hl,c.hh)) (by omega) (by omega) e2 (by omega)).mono ?_
  rintro r H3 ⟨rfl,k3⟩
  repeat' first | refine CO.cons rfl ?_ | refine CO.nil ?_ | refine CV.ret ?_ | fail
  exact ⟨rfl,rfl,((k0.trans k1).trans k2).trans k3⟩
set_option maxHeartbeats 4000000 in
set_option maxRecDepth 100000 in
theorem check_ok {B:Nat} {H:Heap} {cv tv:Value} {cs:List Co} {ts:List (Int × Int)} (hB:B<=H.n) (hc:RowS 7 H cv (cs.map Col)) (ht:RowS 2 H tv (ts.map Hl)) (hf:FOk cs ts) :
    CallB Try.prog B 27 [Fv cv tv] H (fun r H'=>r = VJ 0∧Keep H H'):=by
  have hn12:=hf.n
  have hm40:=hf.m
  refine CV.enter callees false rfl Try.func27 rfl (by kernel_rfl) (Nat.le_of_ble_eq_true rfl) hB ?_
  repeat' first | refine CO.cons rfl ?_ | refine CV.seq ?_ | refine CV.region callees ?_ | fail
  refine ⟨(by simp only [notTuple]),?_⟩
  rw [allocFv hc.cells.1 ht.cells.1]
  generalize hs0:Heap.new H _ = H0
  have hg0:=new_get hs0
  have k0:=new_keep hs0
  have n0:=new_n hs0
  obtain ⟨b0,hbn0⟩:∃ b,Heap.n H = b:=⟨_,rfl⟩
  rw [hbn0] at hg0 n0 ⊢
  have hc0:=hc.keep k0
  repeat' first | refine CO.cons rfl ?_ | refine CO.nil ?_ | refine CV.seq ?_ | refine CV.region callees ?_ | refine CV.cond ?_ | refine CV.block ?_ | refine CV.skip ?_ | refine ⟨_,fS foF0 (by decide),?_⟩ | refine ⟨_,cell_load ag25 hg0 rfl,?_⟩ | refine ⟨_,cs_len hc0,?_⟩ | (refine ⟨fun _=>?_,fun _=>?_⟩<;>try (exfalso; omega)) | fail
  refine CV.loopc ?_
  refine WCv.rounds callees false (α:=Nat) (fun i=>[(1,.pointer (some ⟨b0,0,none⟩)),(13,cv),(14,VJ cs.length),(15,VJ i)]) (fun i Hz=>i<=cs.length∧Hz.get b0 = some (.cells (Fl cv tv) 25 1)∧Keep H Hz∧b0 < Hz.n) (fun i=>cs.length - i) (0) (by repeat' first | exact trivial | refine ⟨rfl,?_⟩ | refine ⟨slot_int (by (try simp only [Int.toNat_natCast]); omega),?_⟩) ?_ ?_
  · exact ⟨by omega,hg0,k0,by omega⟩
  rintro i Hx ⟨hi,hgx,kx,lx⟩ hBx
  by_cases hi2:i < cs.length
  · have hcx:=hc.keep kx
    repeat' first | refine CO.cons rfl ?_ | refine CO.nil ?_ | refine CV.seq ?_ | refine CV.region callees ?_ | refine CV.cond ?_ | refine CV.block ?_ | refine CV.skip ?_ | refine ⟨_,cs_addr hcx (by omega) (by omega),?_⟩ | refine ⟨_,cs_load hcx hi2,?_⟩ | refine ⟨_,_,al48,?_⟩ | (refine ⟨fun _=>?_,fun _=>?_⟩<;>try (exfalso; omega)) | fail
    generalize hs2:Heap.new Hx _ = H2
    have hg2:=new_get hs2
    have k2:=new_keep hs2
    have n2:=new_n hs2
    obtain ⟨b2,hbn2⟩:∃ b,Heap.n Hx = b:=⟨_,rfl⟩
    rw [hbn2] at hg2 n2 ⊢
    repeat' first | fail
    refine ⟨_,_,st48 hg2,by omega,?_⟩
    generalize hs3:Heap.set H2 b2 _ = H3
    have hg3:H3.get b2 = some (.cells (Col cs[i]!) 32 1):=set_get hs3
    have n3:=set_n hs3
    have o3:=set_old hs3
    have k3:Keep Hx H3:=keep_put k2 (by omega) o3 n3
    repeat' first | refine CO.cons rfl ?_ | refine CO.nil ?_ | refine CV.seq ?_ | refine CV.region callees ?_ | refine ⟨_,ld48 hg3,?_⟩ | fail
    refine (checkCoal_ok (by omega) (hf.c i hi2)).mono ?_
    rintro r H4 ⟨rfl,k4⟩
    have l4:=k4.1
    have k34:=k3.trans k4
    repeat' first | refine CO.cons rfl ?_ | refine CO.nil ?_ | refine CV.seq ?_ | refine CV.region callees ?_ | refine CV.cond ?_ | refine CV.skip ?_ | refine ⟨(⟨by omega,by omega⟩:inI64 _),?_⟩ | (refine ⟨fun _=>?_,fun _=>?_⟩<;>try (exfalso; omega)) | fail
    refine ⟨(i + 1),(by repeat' first | exact trivial | refine ⟨rfl,?_⟩ | refine ⟨slot_int (by (try simp only [Int.toNat_natCast]); omega),?_⟩),(by (try dsimp only); omega),?_⟩
    exact ⟨by omega,(k34.2 b0 (by omega)).trans hgx,kx.trans k34,by omega⟩
  have htx:=ht.keep kx
  repeat' first | refine CO.cons rfl ?_ | refine CO.nil ?_ | refine CV.seq ?_ | refine CV.region callees ?_ | refine CV.cond ?_ | refine CV.block ?_ | refine CV.skip ?_ | refine CV.exit ?_ | refine ⟨_,fS foF1 (by decide),?_⟩ | refine ⟨_,cell_load ag26 hgx rfl,?_⟩ | refine ⟨_,ts_len htx,?_⟩ | (refine ⟨fun _=>?_,fun _=>?_⟩<;>try (exfalso; omega)) | fail
  refine CV.loopc ?_
  refine WCv.rounds callees false (α:=Nat) (fun i=>[(1,.pointer (some ⟨b0,0,none⟩)),(30,tv),(31,VJ ts.length),(32,VJ i)]) (fun i Hz=>i<=ts.length∧Hz.get b0 = some (.cells (Fl cv tv) 25 1)∧Keep H Hz∧b0 < Hz.n) (fun i=>ts.length - i) (0) (by repeat' first | exact trivial | refine ⟨rfl,?_⟩ | refine ⟨slot_int (by (try simp only [Int.toNat_natCast]); omega),?_⟩) ?_ ?_
  · exact ⟨by omega,hgx,kx,lx⟩
  clear hgx kx htx
  rintro i Hx ⟨hi,hgx,kx,lx⟩ hBx
  by_cases hi2:i < ts.length
  · have hti:=hf.t i hi2
    have htx:=ht.keep kx
    repeat' first | refine CO.cons rfl ?_ | refine CO.nil ?_ | refine CV.seq ?_ | refine CV.region callees ?_ | refine CV.cond ?_ | refine CV.block ?_ | refine CV.skip ?_ | refine ⟨_,ts_addr htx (by omega) (by omega),?_⟩ | refine ⟨_,ts_load htx hi2,?_⟩ | refine ⟨_,_,al82,?_⟩ | (refine ⟨fun _=>?_,fun _=>?_⟩<;>try (exfalso; omega)) | fail
    generalize hs2:Heap.new Hx _ = H2
    have hg2:=new_get hs2
    have k2:=new_keep hs2
    have n2:=new_n hs2
    obtain ⟨b2,hbn2⟩:∃ b,Heap.n Hx = b:=⟨_,rfl⟩
    rw [hbn2] at hg2 n2 ⊢
    repeat' first | fail
    refine ⟨_,_,st82 hg2,by omega,?_⟩
    generalize hs3:Heap.set H2 b2 _ = H3
    have hg3:H3.get b2 = some (.cells (Hl ts[i]!) 99 1):=set_get hs3
    have n3:=set_n hs3
    have o3:=set_old hs3
    have k3:Keep Hx H3:=keep_put k2 (by omega) o3 n3
    have hgr3:=(k3.2 b0 (by omega)).trans hgx
    have hc3:=hc.keep (kx.trans k3)
    repeat' first | refine CO.cons rfl ?_ | refine CO.nil ?_ | refine CV.seq ?_ | refine CV.region callees ?_ | refine ⟨(⟨by omega,by omega⟩:inI64 _),?_⟩ | refine ⟨_,fS foT0 (by decide),?_⟩ | refine ⟨_,cell_load ag3 hg3 rfl,?_⟩ | refine ⟨_,cell_load ag25 hgr3 rfl,?_⟩ | refine ⟨_,cs_len hc3,?_⟩ | fail
    refine (isWithin_yes (by omega) ⟨by omega,by omega⟩).mono ?_
    rintro r H4 ⟨rfl,rfl⟩
    repeat' first | refine CO.cons rfl ?_ | refine CO.consG rfl ?_ | refine ⟨(⟨by omega,by omega⟩:inI64 _),?_⟩ | refine ⟨_,fS foT0 (by decide),?_⟩ | refine ⟨_,fS foT1 (by decide),?_⟩ | refine ⟨_,cell_load ag3 hg3 rfl,?_⟩ | refine ⟨_,cell_load ag25 hgr3 rfl,?_⟩ | refine ⟨_,cs_len hc3,?_⟩ | fail
    refine (isWithin_yes (by omega) ⟨by omega,by omega⟩).mono ?_
    rintro r H5 ⟨rfl,rfl⟩
    repeat' first | refine CO.cons rfl ?_ | refine CO.nil ?_ | refine CV.seq ?_ | refine CV.region callees ?_ | refine CV.cond ?_ | refine CV.skip ?_ | refine CO.consG rfl ?_ | refine ⟨(⟨by omega,by omega⟩:inI64 _),?_⟩ | refine ⟨_,fS foT0 (by decide),?_⟩ | refine ⟨_,fS foT1 (by decide),?_⟩ | refine ⟨_,cell_load ag3 hg3 rfl,?_⟩ | (refine ⟨fun _=>?_,fun _=>?_⟩<;>try (exfalso; omega)) | fail
    refine ⟨(i + 1),(by repeat' first | exact trivial | refine ⟨rfl,?_⟩ | refine ⟨slot_int (by (try simp only [Int.toNat_natCast]); omega),?_⟩),(by (try dsimp only); omega),?_⟩
    exact ⟨by omega,hgr3,kx.trans k3,by omega⟩
  repeat' first | refine CO.cons rfl ?_ | refine CO.nil ?_ | refine CV.seq ?_ | refine CV.region callees ?_ | refine CV.cond ?_ | refine CV.exit ?_ | refine CV.ret ?_ | (refine ⟨fun _=>?_,fun _=>?_⟩<;>try (exfalso; omega)) | fail
  exact ⟨rfl,rfl,kx⟩
end Go.Proofs.Ytglkphjjinmgmaa
namespace Go.AI
theorem OwnS.same {e:TypeId} {s:Nat} {H:Heap} {v:Value} {rs:List (List Value)} {B:Nat} (h:OwnS e s H v rs B):sameFix v v = true:=by
  rcases h.2 with ⟨rfl,_⟩ | ⟨b,rfl,_⟩
  · rfl
  · exact same_sl
theorem OwnS.keepX {e:TypeId} {s:Nat} {H H':Heap} {b:Nat} {v:Value} {rs:List (List Value)} {B:Nat} {cs0:List Value} {e0:TypeId} (h:OwnS e s H v rs B) (k:KeepX b H H') (hb:H.get b = some (.cells cs0 e0 1)):OwnS e s H' v rs B:=by
  refine ⟨h.1,?_⟩
  rcases h.2 with h | ⟨b',rfl,h2,h3,h4⟩
  · exact .inl h
  · refine .inr ⟨b',rfl,h2,Nat.lt_of_lt_of_le h3 k.1,?_⟩
    rw [k.2 b' h3 (by rintro rfl; rw [h4] at hb; cases hb)]; exact h4
theorem OwnS.oneC {e:TypeId} {s:Nat} {H:Heap} {v:Value} {rs:List (List Value)} {B:Nat} (h:OwnS e s H v rs B):AI.oneC v = true:=by
  rcases h.2 with ⟨rfl,_⟩ | ⟨_,rfl,_⟩<;>rfl
theorem Own.lower {e:TypeId} {H:Heap} {v:Value} {vs:List Value} {B B':Nat} (h:Own e H v vs B) (hB:B'<=B):Own e H v vs B':=by
  rcases h with h | ⟨b,h1,h2,h3,h4⟩
  · exact .inl h
  · exact .inr ⟨b,h1,Nat.le_trans hB h2,h3,h4⟩
end Go.AI
namespace Go.Proofs.Ytglkphjjinmgmaa
open Go.AI
theorem same_h {x:Int × Int}:sameFix (Hv x) (Hv x) = true:=by simp [sameFix,sameFixL,sameFix1]
theorem beginning_spec {B:Nat} {H:Heap} {cv tv:Value} {cs:List Co} {ts:List (Int × Int)} {e:Int} {Bs:List Int} (hB:B<=H.n) (hc:RowS 7 H cv (cs.map Col)) (ht:RowS 2 H tv (ts.map Hl)) (hf:FOk cs ts) (he:e = 0 ∨ e = 1) (hb:IsBeg e cs ts Bs) :
    CallB Try.prog B 92 [Fv cv tv,VJ e] H (fun r H'=>Own 3 H' r (Bs.map VJ) H.n∧Keep H H'):=by
  refine CallB.wild (v:=.slice (some ⟨H.n,0,none⟩) Bs.length 0) (H':=H.new (.cells (Bs.map VJ) 3 2)) (lo:=H.n) rfl rfl ?_ ⟨hB,by (show B<=H.n + 1); omega⟩ ⟨.inr ⟨H.n,by simp,Nat.le_refl _,Nat.lt_succ_self _,Heap.get_new_eq _ _⟩,Keep.new _ _⟩
  exact wildB_is ⟨cv,tv,e,cs,ts,rfl,hc,ht,hf,he,hb⟩
set_option maxRecDepth 100000 in
theorem knownOf_spec {B:Nat} {H:Heap} {p:Int × Int} (hB:B<=H.n) :
    CallB Try.prog B 93 [Hv p] H (fun r H'=>r = Hv p∧Keep H H'):=by
  refine CV.enter callees false rfl Try.func93 rfl (by kernel_rfl) (Nat.le_of_ble_eq_true rfl) hB ?_
  repeat' first | refine CO.cons rfl ?_ | refine CV.seq ?_ | refine CV.region callees ?_ | fail
  refine ⟨(by simp only [notTuple]),?_⟩
  rw [allocHv]
  generalize hs0:Heap.new H _ = H0
  have hg0:=new_get hs0
  have k0:=new_keep hs0
  have n0:=new_n hs0
  obtain ⟨b0,hbn0⟩:∃ b,Heap.n H = b:=⟨_,rfl⟩
  rw [hbn0] at hg0 n0 ⊢
  repeat' first | refine CO.cons rfl ?_ | refine CO.nil ?_ | refine CV.seq ?_ | refine CV.region callees ?_ | refine ⟨_,_,al87,?_⟩ | fail
  generalize hs1:Heap.new H0 _ = H1
  have hg1:=new_get hs1
  have k1:=new_keep hs1
  have n1:=new_n hs1
  obtain ⟨b1,hbn1⟩:∃ b,Heap.n H0 = b:=⟨_,rfl⟩
  rw [hbn1] at hg1 n1 ⊢
  have hg01:=(k1.2 b0 (by omega)).trans hg0
  repeat' first | refine CO.cons rfl ?_ | refine ⟨_,fS foS0 (by decide),?_⟩ | refine ⟨_,fS foS1 (by decide),?_⟩ | refine ⟨_,cell_load ag3 hg01 rfl,?_⟩ | refine ⟨_,bu87,?_⟩ | fail
  refine ⟨_,_,st87 hg1,by omega,?_⟩
  generalize hs2:Heap.set H1 b1 _ = H2
  have hg2:H2.get b1 = some (.cells (Hl p) 104 1):=set_get hs2
  have n2:=set_n hs2
  have o2:=set_old hs2
  repeat' first | refine CO.nil ?_ | refine CV.ret ?_ | fail
  exact ⟨_,ld87 hg2,rfl,rfl,keep_put (k0.trans k1) (by omega) o2 n2⟩
theorem addrK {b i:Nat} {k:Int} (h0:0<=k) (h1:k < 2):aindexAddr Try.prog 104 (.pointer (some ⟨b,i,none⟩)) (.int .i64 k) = some (.pointer (some ⟨b,i + k.toNat * 1,none⟩)):=array_addr un87 sz3 h0 h1
set_option maxRecDepth 100000 in
theorem span_spec {B:Nat} {H:Heap} {p:Int × Int} (hB:B<=H.n) :
    CallB Try.prog B 69 [Hv p] H (fun r H'=>r = Hv p∧Keep H H'):=by
  refine CV.enter callees false rfl Try.func69 rfl (by kernel_rfl) (Nat.le_of_ble_eq_true rfl) hB ?_
  repeat' first | refine CO.cons rfl ?_ | refine CV.seq ?_ | refine CV.region callees ?_ | fail
  refine ⟨(by simp only [notTuple]),?_⟩
  rw [allocHv]
  generalize hs0:Heap.new H _ = H0
  have hg0:=new_get hs0
  have k0:=new_keep hs0
  have n0:=new_n hs0
  obtain ⟨b0,hbn0⟩:∃ b,Heap.n H = b:=⟨_,rfl⟩
  rw [hbn0] at hg0 n0 ⊢
  repeat' first | refine CO.cons rfl ?_ | refine CO.nil ?_ | refine CV.seq ?_ | refine CV.region callees ?_ | refine ⟨_,_,al41,?_⟩ | fail
  generalize hs1:Heap.new H0 _ = H1
  have hg1:=new_get hs1
  have k1:=new_keep hs1
  have n1:=new_n hs1
  obtain ⟨b1,hbn1⟩:∃ b,Heap.n H0 = b:=⟨_,rfl⟩
  rw [hbn1] at hg1 n1 ⊢
  have hg01:=(k1.2 b0 (by omega)).trans hg0
  repeat' first | refine CO.cons rfl ?_ | refine ⟨_,addrK (by decide) (by decide),?_⟩ | refine ⟨_,cell_load ag3 hg01 rfl,?_⟩ | refine ⟨_,bu41,?_⟩ | fail
  refine ⟨_,_,st41 hg1,by omega,?_⟩
  generalize hs2:Heap.set H1 b1 _ = H2
  have hg2:H2.get b1 = some (.cells (Hl p) 27 1):=set_get hs2
  have n2:=set_n hs2
  have o2:=set_old hs2
  repeat' first | refine CO.nil ?_ | refine CV.ret ?_ | fail
  exact ⟨_,ld41 hg2,rfl,rfl,keep_put (k0.trans k1) (by omega) o2 n2⟩
theorem foE0:fieldOff Try.prog 106 0 = some (0,2):=by kernel_rfl
theorem foE1:fieldOff Try.prog 106 1 = some (2,2):=by kernel_rfl
theorem foE2:fieldOff Try.prog 106 2 = some (4,2):=by kernel_rfl
theorem sz89:sizeB Try.prog 106 = some 6:=by kernel_rfl
theorem ag89:isAggB Try.prog 106 = some true:=by kernel_rfl
theorem un85:Try.prog.underlying 101 = some (.slice 106):=by kernel_rfl
theorem zero89:zeroBB Try.prog 106 = some (Eml ⟨0,0,0,0,0,0⟩,48):=by kernel_rfl
theorem zc89:zeroCells Try.prog 106 = some (Eml ⟨0,0,0,0,0,0⟩):=by kernel_rfl
theorem al89 {H:Heap}:sAlloc Try.prog H 106 = some (.pointer (some ⟨H.n,0,none⟩),H.new (.cells (Eml ⟨0,0,0,0,0,0⟩) 106 1),H.n):=alloc_of zc89
theorem st89 {H:Heap} {b k:Nat} {x y:Em} {e:TypeId} (hg:H.get b = some (.cells (Eml x) e (k + 1))):astore Try.prog 106 H (Emv y) (.pointer (some ⟨b,0,none⟩)) = some (H.set b (.cells (Eml y) e (k + 1)),b):=store_all (vs:=Eml y) hg rfl sz89 rfl
theorem ld89 {H:Heap} {b:Nat} {x:Em} {e:TypeId} {k:Nat} (hg:H.get b = some (.cells (Eml x) e k)):aload Try.prog 106 H (.pointer (some ⟨b,0,none⟩)) = some (Emv x):=agg_load ag89 sz89 hg (Nat.le_refl _)
theorem bu89 {p q r:Int × Int}:abuild Try.prog 106 [(0,Hv p),(1,Hv q),(2,Hv r)] = some (Emv ⟨p.1,p.2,q.1,q.2,r.1,r.2⟩):=by kernel_rfl
abbrev OwnE (H:Heap) (v:Value) (l:List Em) (B:Nat):Prop:=OwnS 106 6 H v (l.map Eml) B
theorem em_at {l:List Em} {j:Nat} (hj:j < l.length):(l.map Eml)[j]? = some (Eml l[j]!):=by rw [List.getElem?_map,List.getElem?_eq_getElem hj,getElem!_pos l j hj]; rfl
theorem em_len {H:Heap} {v:Value} {l:List Em} (h:RowS 6 H v (l.map Eml)):alen Try.prog H 101 v = some (.int .i64 l.length):=by
  have:=h.alen un85; rwa [List.length_map] at this
theorem em_addr {H:Heap} {v:Value} {l:List Em} (h:RowS 6 H v (l.map Eml)) {n:Int} (h0:0<=n) (h1:n < l.length):aindexAddr Try.prog 101 v (.int .i64 n) = some (elemS v 6 n.toNat):=h.addr un85 sz89 h0 (by rw [List.length_map]; exact h1)
theorem em_load {H:Heap} {v:Value} {l:List Em} (h:RowS 6 H v (l.map Eml)) {j:Nat} (hj:j < l.length):aload Try.prog 106 H (elemS v 6 j) = some (Emv l[j]!):=h.load ag89 sz89 (em_at hj)
theorem em_put {H:Heap} {K:Heap->Prop} {B B0:Nat} {x:Value} {l:List Em} {j:Nat} {d:Em} (hx:OwnE H x l B0) (hB:B<=B0) (hj:j < l.length)
    (hk:∀ H',OwnE H' x (l.set j d) B0->KeepBut x H H'->K H') :
    ∃ H' b,astore Try.prog 106 H (Emv d) (elemS x 6 j) = some (H',b)∧B<=b∧K H' :=
  rstore_askS (row:=Eml d) sz89 hx hB (by rw [List.length_map]; exact hj) rfl rfl fun H' h1 h2=>hk H' (by rw [OwnE,List.map_set]; exact h1) h2
def emAt (cs:List Co) (B0 B1:List Int) (i:Nat):Em:=⟨B0[i]!,B1[i]!,cs[i]!.bl,cs[i]!.bh,cs[i]!.hl,cs[i]!.hh⟩
def emL (cs:List Co) (B0 B1:List Int):List Em:=(List.range cs.length).map (emAt cs B0 B1)
theorem emL_len {cs:List Co} {B0 B1:List Int}:(emL cs B0 B1).length = cs.length:=by simp [emL]
theorem emL_at {cs:List Co} {B0 B1:List Int} {i:Nat} (h:i < cs.length):(emL cs B0 B1)[i]! = emAt cs B0 B1 i:=by
  rw [getElem!_pos _ i (by rw [emL_len]; exact h)]; simp [emL]
set_option maxHeartbeats 4000000 in
set_option maxRecDepth 100000 in
theorem embers_spec {B:Nat} {H:Heap} {cv tv:Value} {cs:List Co} {ts:List (Int × Int)} {B0 B1:List Int} (hB:B<=H.n) (hc:RowS 7 H cv (cs.map Col)) (ht:RowS 2 H tv (ts.map Hl)) (hf:FOk cs ts) (h0:IsBeg 0 cs ts B0) (h1:IsBeg 1 cs ts B1) :
    CallB Try.prog B 68 [Fv cv tv] H (fun r H'=>OwnE H' r (emL cs B0 B1) H.n∧Keep H H'):=by
  have hn12:=hf.n
  have hl0:=h0.len
  have hl1:=h1.len
  refine CV.enter callees false rfl Try.func68 rfl (by kernel_rfl) (Nat.le_of_ble_eq_true rfl) hB ?_
  repeat' first | refine CO.cons rfl ?_ | refine CV.seq ?_ | refine CV.region callees ?_ | fail
  refine ⟨(by simp only [notTuple]),?_⟩
  rw [allocFv hc.cells.1 ht.cells.1]
  generalize hs0:Heap.new H _ = H0
  have hg0:=new_get hs0
  have k0:=new_keep hs0
  have n0:=new_n hs0
  obtain ⟨b0,hbn0⟩:∃ b,Heap.n H = b:=⟨_,rfl⟩
  rw [hbn0] at hg0 n0 ⊢
  have hc0:=hc.keep k0
  have ht0:=ht.keep k0
  repeat' first | refine CO.cons rfl ?_ | refine CO.nil ?_ | refine CV.seq ?_ | fail
  refine CV.wide callees (by decide +kernel) [0,2,1,3,4,5] (by kernel_rfl) ?_
  repeat' first | refine CG.cons rfl ?_ | refine ⟨_,agg_load ag28 sz28 hg0 (Nat.le_refl _),?_⟩ | fail
  refine (beginning_spec (Nat.le_refl _) hc0 ht0 hf (.inl rfl) h0).mono ?_
  rintro sv H1 ⟨hs1,k1⟩
  have l1:=k1.1
  repeat' first | refine CG.cons rfl ?_ | fail
  refine (beginning_spec (Nat.le_refl _) (hc0.keep k1) (ht0.keep k1) hf (.inr rfl) h1).mono ?_
  rintro lv H2 ⟨hl2,k2⟩
  have l2:=k2.1
  have hs2:=hs1.keep k2
  have k02:=(k0.trans k1).trans k2
  have hr2:=(k2.2 b0 (by omega)).trans ((k1.2 b0 (by omega)).trans hg0)
  have hc2:=hc.keep k02
  repeat' first | refine CO.cons rfl ?_ | refine CV.seq ?_ | refine CV.region callees ?_ | refine CG.cons rfl ?_ | refine CG.nil ?_ | refine ⟨_,fS foF0 (by decide),?_⟩ | refine ⟨_,cell_load ag25 hr2 rfl,?_⟩ | refine ⟨_,cs_len hc2,?_⟩ | fail
  refine ⟨_,_,make_rows un85 zero89 (by decide) cs.length (by omega),?_⟩
  generalize hs3:Heap.new H2 _ = H3
  have hg3:=new_get hs3
  have k3:=new_keep hs3
  have n3:=new_n hs3
  obtain ⟨b3,hbn3⟩:∃ b,Heap.n H2 = b:=⟨_,rfl⟩
  rw [hbn3] at hg3 n3 ⊢
  have k03:=k02.trans k3
  have hr3:=(k3.2 b0 (by omega)).trans hr2
  have hc3:=hc.keep k03
  have hs3:=hs2.keep k3
  have hl3:=hl2.keep k3
  have ho3:OwnE H3 (.slice (some ⟨b3,0,none⟩) cs.length 0) (List.replicate cs.length ⟨0,0,0,0,0,0⟩) b3:=⟨fun r hr=>by obtain ⟨x,_,rfl⟩:=List.mem_map.1 hr; rfl,.inr ⟨b3,by simp,Nat.le_refl _,by omega,by rw [hg3,List.map_replicate]⟩⟩
  obtain ⟨ov,hov⟩:∃ ov,Value.slice (some ⟨b3,0,none⟩) cs.length 0 = ov:=⟨_,rfl⟩
  have hblk:blkOf ov = some b3:=by rw [<- hov]; rfl
  rw [hov] at ho3 ⊢
  repeat' first | refine CO.cons rfl ?_ | refine CO.nil ?_ | refine CV.seq ?_ | refine CV.region callees ?_ | refine CV.block ?_ | refine ⟨_,fS foF0 (by decide),?_⟩ | refine ⟨_,cell_load ag25 hr3 rfl,?_⟩ | refine ⟨_,cs_len hc3,?_⟩ | fail
  obtain ⟨n3',hn3'⟩:∃ n,H3.n = n:=⟨_,rfl⟩
  have hsb:∀ c,blkOf sv = some c->c < b3:=fun c hc=>by have:=(hs2.lt hc).2; omega
  have hlb:∀ c,blkOf lv = some c->c < b3:=fun c hc=>by have:=(hl2.lt hc).2; omega
  refine CV.loopc ?_
  refine WCv.rounds callees false (α:=List Em × Nat) (fun (L,i)=>[(1,.pointer (some ⟨b0,0,none⟩)),(3,sv),(4,lv),(5,ov),(17,cv),(18,VJ cs.length),(19,VJ i)]) (fun (L,i) Hz=>i<=cs.length∧L.length = cs.length∧(∀ j:Nat,j < i->L[j]! = emAt cs B0 B1 j)∧OwnE Hz ov L b3∧Own 3 Hz sv (B0.map VJ) 0∧Own 3 Hz lv (B1.map VJ) 0∧Keep H Hz∧b3 < Hz.n) (fun (L,i)=>cs.length - i) (List.replicate cs.length ⟨0,0,0,0,0,0⟩,0) (by repeat' first | exact trivial | refine ⟨rfl,?_⟩ | refine ⟨slot_int (by (try simp only [Int.toNat_natCast]); omega),?_⟩) ?_ ?_
  · exact ⟨by omega,by simp,fun j hj=>by omega,ho3,Own.lower hs3 (by omega),Own.lower hl3 (by omega),k03,by omega⟩
  clear hs1 hs2 hs3 hl2 hl3 ho3 hr3 hc3 hr2 hc2 hg3
  rintro ⟨L,i⟩ Hx ⟨hi,hLl,hL,ho,hs,hl,kx,lx⟩ hBx
  by_cases hi2:i < cs.length
  · have hcx:=hc.keep kx
    have hco:=hf.c i hi2
    repeat' first | refine CO.cons rfl ?_ | refine CO.nil ?_ | refine CV.seq ?_ | refine CV.region callees ?_ | refine CV.cond ?_ | refine CV.block ?_ | refine CV.skip ?_ | refine ⟨_,cs_addr hcx (by omega) (by omega),?_⟩ | refine ⟨_,cs_load hcx hi2,?_⟩ | refine ⟨_,_,al48,?_⟩ | (refine ⟨fun _=>?_,fun _=>?_⟩<;>try (exfalso; omega)) | fail
    generalize hs4:Heap.new Hx _ = H4
    have hg4:=new_get hs4
    have k4:=new_keep hs4
    have n4:=new_n hs4
    obtain ⟨b4,hbn4⟩:∃ b,Heap.n Hx = b:=⟨_,rfl⟩
    rw [hbn4] at hg4 n4 ⊢
    repeat' first | fail
    refine ⟨_,_,st48 hg4,by omega,?_⟩
    generalize hs5:Heap.set H4 b4 _ = H5
    have hg5:H5.get b4 = some (.cells (Col cs[i]!) 32 1):=set_get hs5
    have n5:=set_n hs5
    have o5:=set_old hs5
    have k5:Keep Hx H5:=keep_put k4 (by omega) o5 n5
    have hs5:=hs.keep k5
    have hl5:=hl.keep k5
    have hI0:Ints H5 sv B0:=hs5.row
    have hI1:Ints H5 lv B1:=hl5.row
    have ho5:OwnE H5 ov L b3:=OwnS.keep ho k5
    repeat' first | refine CO.nil ?_ | fail
    refine CV.wideR callees (by decide +kernel) [(0,[]),(1,[]),(2,[]),(3,[]),(4,[]),(5,[]),(6,[]),(7,[]),(8,[]),(9,[]),(10,[]),(11,[]),(12,[]),(14,[]),(15,[]),(13,[15,10,9,5]),(16,[10,9,5]),(17,[]),(18,[]),(19,[])] (by kernel_rfl) ?_
    repeat' first | refine CR.cons ?_ | refine ⟨_,ints_addr (by assumption) (by omega) (by omega),?_⟩ | refine ⟨_,ints_load (by assumption) (by omega) (by omega),?_⟩ | refine ⟨_,bu87,?_⟩ | refine ⟨_,fS foC1 (by decide),?_⟩ | refine ⟨_,fS foC2 (by decide),?_⟩ | refine ⟨_,agg_load ag41 sz41 hg5 (Nat.le_of_ble_eq_true rfl),?_⟩ | fail
    refine (knownOf_spec (p:=(cs[i]!.bl,cs[i]!.bh)) (by omega)).mono ?_
    rintro r H6 ⟨rfl,k6⟩
    have l6:=k6.1
    have hg6:=(k6.2 b4 (by omega)).trans hg5
    have hs6:=hs5.keep k6
    have hl6:=hl5.keep k6
    have hJ0:Ints H6 sv B0:=hs6.row
    have hJ1:Ints H6 lv B1:=hl6.row
    clear hI0 hI1
    repeat' first | refine CR.cons ?_ | refine ⟨_,ints_load (by assumption) (by omega) (by omega),?_⟩ | refine ⟨_,agg_load ag41 sz41 hg6 (Nat.le_of_ble_eq_true rfl),?_⟩ | refine ⟨_,bu87,?_⟩ | refine ⟨(rfl:_ = Value.int _ _),?_⟩ | refine ⟨same_int,?_⟩ | refine ⟨(rfl:_ = Hv _),?_⟩ | refine ⟨same_h,?_⟩ | refine ⟨(rfl:_ = Value.agg _),?_⟩ | refine ⟨same_h (x:=(cs[i]!.hl,cs[i]!.hh)),?_⟩ | fail
    refine (knownOf_spec (p:=(cs[i]!.hl,cs[i]!.hh)) (by omega)).mono ?_
    rintro r H7 ⟨rfl,k7⟩
    have l7:=k7.1
    have k57:=k6.trans k7
    have hs7:=hs6.keep k7
    have hl7:=hl6.keep k7
    have hK0:Ints H7 sv B0:=hs7.row
    have hK1:Ints H7 lv B1:=hl7.row
    have ho7:OwnE H7 ov L b3:=OwnS.keep ho5 k57
    have kx7:=kx.trans (k5.trans k57)
    clear hJ0 hJ1
    repeat' first | refine CR.cons ?_ | refine ⟨_,ints_load (by assumption) (by omega) (by omega),?_⟩ | refine ⟨_,bu87,?_⟩ | refine ⟨(rfl:_ = Value.int _ _),?_⟩ | refine ⟨same_int,?_⟩ | refine ⟨(rfl:_ = Hv _),?_⟩ | refine ⟨same_h,?_⟩ | refine ⟨_,bu89,?_⟩ | refine ⟨_,em_addr ho7.row (by omega) (by omega),?_⟩ | fail
    refine em_put (d:=emAt cs B0 B1 i) ho7 (by omega) (by omega) ?_
    intro H8 ho8 kb8
    have l8:=kb8.le
    rw [Int.toNat_natCast] at ho8
    have kx8:Keep H H8:=kb8.keep kx7 fun c hc=>by rw [hblk] at hc; cases hc; omega
    have hs8:=hs7.keepBut kb8 (fun c hc hd=>by rw [hblk] at hd; cases hd; have:=hsb _ hc; omega)
    have hl8:=hl7.keepBut kb8 (fun c hc hd=>by rw [hblk] at hd; cases hd; have:=hlb _ hc; omega)
    repeat' first | refine CO.cons rfl ?_ | refine CO.nil ?_ | refine CV.region callees ?_ | refine CR.nil ?_ | refine ⟨(⟨by omega,by omega⟩:inI64 _),?_⟩ | fail
    refine ⟨(L.set i (emAt cs B0 B1 i),i + 1),(by repeat' first | exact trivial | refine ⟨rfl,?_⟩ | refine ⟨slot_int (by (try simp only [Int.toNat_natCast]); omega),?_⟩),(by (try dsimp only); omega),?_⟩
    refine ⟨by omega,by rw [List.length_set]; exact hLl,fun j hj=>?_,ho8,hs8,hl8,kx8,by omega⟩
    by_cases hji:j = i
    · subst hji
      rw [getElem!_pos _ j (by rw [List.length_set]; omega)]; simp
    · rw [getElem!_pos _ j (by rw [List.length_set]; omega),List.getElem_set_ne (by omega),<- getElem!_pos L j (by omega)]
      exact hL j (by omega)
  have hie:i = cs.length:=by omega
  have hLe:L = emL cs B0 B1:=by
    apply List.ext_getElem (by rw [hLl,emL_len])
    intro j h1 h2
    have:=hL j (by omega)
    rw [<- emL_at (by omega),getElem!_pos L j h1,getElem!_pos _ j h2] at this
    exact this
  subst hLe
  repeat' first | refine CO.cons rfl ?_ | refine CO.nil ?_ | refine CV.seq ?_ | refine CV.region callees ?_ | refine CV.cond ?_ | refine CV.exit ?_ | refine CV.ret ?_ | (refine ⟨fun _=>?_,fun _=>?_⟩<;>try (exfalso; omega)) | fail
  exact ⟨by simp only [List.all_cons,List.all_nil,OwnS.notTuple ho]; rfl,OwnS.low ho (by omega),kx⟩
structure EmOk (x:Em):Prop where
  b0:0<=x.b0
  b0':x.b0<=1000000
  b1:0<=x.b1
  b1':x.b1<=1000000
  l0:1<=x.l0
  l0':x.l0<=300
  l1:1<=x.l1
  l1':x.l1<=300
  h0:0<=x.h0
  h0':x.h0<=1000
  h1:0<=x.h1
  h1':x.h1<=1000
theorem emL_ok {cs:List Co} {ts:List (Int × Int)} {B0 B1:List Int} (hf:FOk cs ts) (h0:IsBeg 0 cs ts B0) (h1:IsBeg 1 cs ts B1):∀ i,i < (emL cs B0 B1).length->EmOk (emL cs B0 B1)[i]!:=by
  intro i hi
  rw [emL_len] at hi
  rw [emL_at hi]
  have a:=h0.lo i (by rw [h0.len]; exact hi)
  have b:=h1.lo i (by rw [h1.len]; exact hi)
  obtain ⟨c1,c2,c3,d1,d2,d3,e1,e2,e3⟩:=hf.c i hi
  exact ⟨a.1,a.2,b.1,b.2,d1,by show cs[i]!.bl<=300; omega,by show 1<=cs[i]!.bh; omega,d3,e1,by show cs[i]!.hl<=1000; omega,by show 0<=cs[i]!.hh; omega,e3⟩
def giv (m:Int) (x:Em):Int × Int:=(if x.b1<=m∧m < x.b0 + x.l0 then x.h0 else 0,if x.b0<=m∧m < x.b1 + x.l1 then x.h1 else 0)
set_option maxHeartbeats 4000000 in
set_option maxRecDepth 100000 in
theorem given_spec {B:Nat} {H:Heap} {x:Em} {m:Int} (hB:B<=H.n) (hx:EmOk x) :
    CallB Try.prog B 95 [Emv x,VJ m] H (fun r H'=>r = Hv (giv m x)∧Keep H H'):=by
  obtain ⟨a1,a2,a3,a4,a5,a6,a7,a8,a9,a10,a11,a12⟩:=hx
  refine CV.enter callees false rfl Try.func95 rfl (by kernel_rfl) (Nat.le_of_ble_eq_true rfl) hB ?_
  repeat' first | refine CO.cons rfl ?_ | refine CV.seq ?_ | refine CV.region callees ?_ | fail
  refine ⟨(by simp only [notTuple]),?_⟩
  rw [boxEm]
  generalize hs0:Heap.new H _ = H0
  have hg0:=new_get hs0
  have k0:=new_keep hs0
  have n0:=new_n hs0
  obtain ⟨b0,hbn0⟩:∃ b,Heap.n H = b:=⟨_,rfl⟩
  rw [hbn0] at hg0 n0 ⊢
  repeat' first | refine CO.cons rfl ?_ | refine CO.nil ?_ | refine CV.seq ?_ | refine CV.region callees ?_ | refine ⟨_,_,al87,?_⟩ | fail
  generalize hs1:Heap.new H0 _ = H1
  have hg1:=new_get hs1
  have k1:=new_keep hs1
  have n1:=new_n hs1
  obtain ⟨b1,hbn1⟩:∃ b,Heap.n H0 = b:=⟨_,rfl⟩
  rw [hbn1] at hg1 n1 ⊢
  repeat' first | fail
  generalize hs2:Heap.new H1 _ = H2
  have hg2:=new_get hs2
  have k2:=new_keep hs2
  have n2:=new_n hs2
  obtain ⟨b2,hbn2⟩:∃ b,Heap.n H1 = b:=⟨_,rfl⟩
  rw [hbn2] at hg2 n2 ⊢
  have k02:=(k0.trans k1).trans k2
  have he2:=(k2.2 b0 (by omega)).trans ((k1.2 b0 (by omega)).trans hg0)
  have hr2:=(k2.2 b1 (by omega)).trans hg1
  have hgE:giv m x = (if x.b1<=m∧m < x.b0 + x.l0 then x.h0 else 0,if x.b0<=m∧m < x.b1 + x.l1 then x.h1 else 0):=rfl
  repeat' first | refine CO.cons rfl ?_ | refine CO.nil ?_ | refine CV.seq ?_ | refine CV.region callees ?_ | refine CV.cond ?_ | refine CV.skip ?_ | refine CO.consG rfl ?_ | refine ⟨(⟨by omega,by omega⟩:inI64 _),?_⟩ | refine ⟨_,fS foE0 (by decide),?_⟩ | refine ⟨_,fS foE1 (by decide),?_⟩ | refine ⟨_,fS foE2 (by decide),?_⟩ | refine ⟨_,cell_load ag3 he2 rfl,?_⟩ | (refine ⟨fun _=>?_,fun _=>?_⟩<;>try (exfalso; omega)) | fail
  · rename_i hd1 hd2
    refine ⟨_,_,store_row sz3 hg2 (Nat.le_of_ble_eq_true rfl) rfl,by omega,?_⟩
    generalize hs3:Heap.set H2 b2 _ = H3
    have hg3:H3.get b2 = some (.cells (Hl (x.h0,0)) 104 1):=set_get hs3
    have n3:=set_n hs3
    have o3:=set_old hs3
    have hr3:=(o3 b1 (by omega)).trans hr2
    have he3:=(o3 b0 (by omega)).trans he2
    have k3:Keep H H3:=keep_put k02 (by omega) o3 n3
    repeat' first | refine CO.cons rfl ?_ | refine CO.nil ?_ | refine CV.seq ?_ | refine CV.region callees ?_ | refine CV.cond ?_ | refine CV.skip ?_ | refine CO.consG rfl ?_ | refine ⟨(⟨by omega,by omega⟩:inI64 _),?_⟩ | refine ⟨_,fS foE0 (by decide),?_⟩ | refine ⟨_,fS foE1 (by decide),?_⟩ | refine ⟨_,fS foE2 (by decide),?_⟩ | refine ⟨_,cell_load ag3 he3 rfl,?_⟩ | (refine ⟨fun _=>?_,fun _=>?_⟩<;>try (exfalso; omega)) | fail
    · rename_i hc1 hc2
      refine ⟨_,_,store_row sz3 hg3 (Nat.le_of_ble_eq_true rfl) rfl,by omega,?_⟩
      generalize hs5:Heap.set H3 b2 _ = H5
      have hg5:H5.get b2 = some (.cells (Hl (x.h0,x.h1)) 104 1):=set_get hs5
      have n5:=set_n hs5
      have o5:=set_old hs5
      have hr5:=(o5 b1 (by omega)).trans hr3
      have k5:Keep H H5:=keep_put k3 (by omega) o5 n5
      rw [show (x.h0,x.h1) = giv m x by rw [hgE,if_pos (show x.b0<=m∧m < x.b1 + x.l1 from ⟨hc1,hc2⟩)]; rw [if_pos (show x.b1<=m∧m < x.b0 + x.l0 from ⟨hd1,hd2⟩)]] at hg5
      repeat' first | refine CO.cons rfl ?_ | refine CO.nil ?_ | refine CV.seq ?_ | refine CV.region callees ?_ | refine ⟨_,ld87 hg5,?_⟩ | fail
      refine ⟨_,_,st87 hr5,by omega,?_⟩
      generalize hs9:Heap.set H5 b1 _ = H9
      have hg9:H9.get b1 = some (.cells (Hl (giv m x)) 104 1):=set_get hs9
      have n9:=set_n hs9
      have o9:=set_old hs9
      repeat' first | refine CO.nil ?_ | refine CV.ret ?_ | fail
      exact ⟨_,ld87 hg9,rfl,rfl,keep_put k5 (by omega) o9 n9⟩
    · rename_i hc1 hc2
      have hg6:=hg3
      rw [show (x.h0,(0:Int)) = giv m x by rw [hgE,if_neg (fun h:x.b0<=m∧m < x.b1 + x.l1=>hc2 h.2)]; rw [if_pos (show x.b1<=m∧m < x.b0 + x.l0 from ⟨hd1,hd2⟩)]] at hg6
      repeat' first | refine CO.cons rfl ?_ | refine ⟨_,ld87 hg6,?_⟩ | fail
      refine ⟨_,_,st87 hr3,by omega,?_⟩
      generalize hs9:Heap.set H3 b1 _ = H9
      have hg9:H9.get b1 = some (.cells (Hl (giv m x)) 104 1):=set_get hs9
      have n9:=set_n hs9
      have o9:=set_old hs9
      repeat' first | refine CO.nil ?_ | refine CV.ret ?_ | fail
      exact ⟨_,ld87 hg9,rfl,rfl,keep_put k3 (by omega) o9 n9⟩
    · rename_i hc1
      have hg6:=hg3
      rw [show (x.h0,(0:Int)) = giv m x by rw [hgE,if_neg (fun h:x.b0<=m∧m < x.b1 + x.l1=>hc1 h.1)]; rw [if_pos (show x.b1<=m∧m < x.b0 + x.l0 from ⟨hd1,hd2⟩)]] at hg6
      repeat' first | refine CO.cons rfl ?_ | refine ⟨_,ld87 hg6,?_⟩ | fail
      refine ⟨_,_,st87 hr3,by omega,?_⟩
      generalize hs9:Heap.set H3 b1 _ = H9
      have hg9:H9.get b1 = some (.cells (Hl (giv m x)) 104 1):=set_get hs9
      have n9:=set_n hs9
      have o9:=set_old hs9
      repeat' first | refine CO.nil ?_ | refine CV.ret ?_ | fail
      exact ⟨_,ld87 hg9,rfl,rfl,keep_put k3 (by omega) o9 n9⟩
  · rename_i hd1 hd2 hc1 hc2
    refine ⟨_,_,store_row sz3 hg2 (Nat.le_of_ble_eq_true rfl) rfl,by omega,?_⟩
    generalize hs5:Heap.set H2 b2 _ = H5
    have hg5:H5.get b2 = some (.cells (Hl ((0:Int),x.h1)) 104 1):=set_get hs5
    have n5:=set_n hs5
    have o5:=set_old hs5
    have hr5:=(o5 b1 (by omega)).trans hr2
    have k5:Keep H H5:=keep_put k02 (by omega) o5 n5
    rw [show ((0:Int),x.h1) = giv m x by rw [hgE,if_pos (show x.b0<=m∧m < x.b1 + x.l1 from ⟨hc1,hc2⟩)]; rw [if_neg (fun h:x.b1<=m∧m < x.b0 + x.l0=>hd2 h.2)]] at hg5
    repeat' first | refine CO.cons rfl ?_ | refine CO.nil ?_ | refine CV.seq ?_ | refine CV.region callees ?_ | refine ⟨_,ld87 hg5,?_⟩ | fail
    refine ⟨_,_,st87 hr5,by omega,?_⟩
    generalize hs9:Heap.set H5 b1 _ = H9
    have hg9:H9.get b1 = some (.cells (Hl (giv m x)) 104 1):=set_get hs9
    have n9:=set_n hs9
    have o9:=set_old hs9
    repeat' first | refine CO.nil ?_ | refine CV.ret ?_ | fail
    exact ⟨_,ld87 hg9,rfl,rfl,keep_put k5 (by omega) o9 n9⟩
  · rename_i hd1 hd2 hc1 hc2
    have hg6:=hg2
    rw [show ((0:Int),(0:Int)) = giv m x by rw [hgE,if_neg (fun h:x.b0<=m∧m < x.b1 + x.l1=>hc2 h.2)]; rw [if_neg (fun h:x.b1<=m∧m < x.b0 + x.l0=>hd2 h.2)]] at hg6
    repeat' first | refine CO.cons rfl ?_ | refine ⟨_,ld87 hg6,?_⟩ | fail
    refine ⟨_,_,st87 hr2,by omega,?_⟩
    generalize hs9:Heap.set H2 b1 _ = H9
    have hg9:H9.get b1 = some (.cells (Hl (giv m x)) 104 1):=set_get hs9
    have n9:=set_n hs9
    have o9:=set_old hs9
    repeat' first | refine CO.nil ?_ | refine CV.ret ?_ | fail
    exact ⟨_,ld87 hg9,rfl,rfl,keep_put k02 (by omega) o9 n9⟩
  · rename_i hd1 hc1 hc2
    refine ⟨_,_,store_row sz3 hg2 (Nat.le_of_ble_eq_true rfl) rfl,by omega,?_⟩
    generalize hs5:Heap.set H2 b2 _ = H5
    have hg5:H5.get b2 = some (.cells (Hl ((0:Int),x.h1)) 104 1):=set_get hs5
    have n5:=set_n hs5
    have o5:=set_old hs5
    have hr5:=(o5 b1 (by omega)).trans hr2
    have k5:Keep H H5:=keep_put k02 (by omega) o5 n5
    rw [show ((0:Int),x.h1) = giv m x by rw [hgE,if_pos (show x.b0<=m∧m < x.b1 + x.l1 from ⟨hc1,hc2⟩)]; rw [if_neg (fun h:x.b1<=m∧m < x.b0 + x.l0=>hd1 h.1)]] at hg5
    repeat' first | refine CO.cons rfl ?_ | refine CO.nil ?_ | refine CV.seq ?_ | refine CV.region callees ?_ | refine ⟨_,ld87 hg5,?_⟩ | fail
    refine ⟨_,_,st87 hr5,by omega,?_⟩
    generalize hs9:Heap.set H5 b1 _ = H9
    have hg9:H9.get b1 = some (.cells (Hl (giv m x)) 104 1):=set_get hs9
    have n9:=set_n hs9
    have o9:=set_old hs9
    repeat' first | refine CO.nil ?_ | refine CV.ret ?_ | fail
    exact ⟨_,ld87 hg9,rfl,rfl,keep_put k5 (by omega) o9 n9⟩
  · rename_i hd1 hc1
    have hg6:=hg2
    rw [show ((0:Int),(0:Int)) = giv m x by rw [hgE,if_neg (fun h:x.b0<=m∧m < x.b1 + x.l1=>hc1 h.1)]; rw [if_neg (fun h:x.b1<=m∧m < x.b0 + x.l0=>hd1 h.1)]] at hg6
    repeat' first | refine CO.cons rfl ?_ | refine ⟨_,ld87 hg6,?_⟩ | fail
    refine ⟨_,_,st87 hr2,by omega,?_⟩
    generalize hs9:Heap.set H2 b1 _ = H9
    have hg9:H9.get b1 = some (.cells (Hl (giv m x)) 104 1):=set_get hs9
    have n9:=set_n hs9
    have o9:=set_old hs9
    repeat' first | refine CO.nil ?_ | refine CV.ret ?_ | fail
    exact ⟨_,ld87 hg9,rfl,rfl,keep_put k02 (by omega) o9 n9⟩
theorem un112:Try.prog.underlying 133 = some (.slice 104):=by kernel_rfl
theorem zero87b:zeroBB Try.prog 104 = some (Hl (0,0),16):=by kernel_rfl
theorem kn_len {H:Heap} {v:Value} {l:List (Int × Int)} (h:RowS 2 H v (l.map Hl)):alen Try.prog H 133 v = some (.int .i64 l.length):=by
  have:=h.alen un112; rwa [List.length_map] at this
theorem kn_addr {H:Heap} {v:Value} {l:List (Int × Int)} (h:RowS 2 H v (l.map Hl)) {n:Int} (h0:0<=n) (h1:n < l.length):aindexAddr Try.prog 133 v (.int .i64 n) = some (elemS v 2 n.toNat):=h.addr un112 sz87 h0 (by rw [List.length_map]; exact h1)
theorem kn_load {H:Heap} {v:Value} {l:List (Int × Int)} (h:RowS 2 H v (l.map Hl)) {j:Nat} (hj:j < l.length):aload Try.prog 104 H (elemS v 2 j) = some (Hv l[j]!):=h.load ag87 sz87 (hl_at hj)
abbrev OwnK (H:Heap) (v:Value) (l:List (Int × Int)) (B:Nat):Prop:=OwnS 104 2 H v (l.map Hl) B
theorem kn_put {H:Heap} {K:Heap->Prop} {B B0:Nat} {x:Value} {l:List (Int × Int)} {j:Nat} {d:Int × Int} (hx:OwnK H x l B0) (hB:B<=B0) (hj:j < l.length)
    (hk:∀ H',OwnK H' x (l.set j d) B0->KeepBut x H H'->K H') :
    ∃ H' b,astore Try.prog 104 H (Hv d) (elemS x 2 j) = some (H',b)∧B<=b∧K H' :=
  rstore_askS (row:=Hl d) sz87 hx hB (by rw [List.length_map]; exact hj) rfl rfl fun H' h1 h2=>hk H' (by rw [OwnK,List.map_set]; exact h1) h2
def sumA (l:List (Int × Int)):Int:=sumI (l.map (·.1))
def sumB (l:List (Int × Int)):Int:=sumI (l.map (·.2))
theorem sumI_app:∀ {l:List Int} {x:Int},sumI (l ++ [x]) = sumI l + x
  | [],x=>by simp [sumI]
  | y :: l,x=>by simp only [List.cons_append,sumI,sumI_app]; omega
theorem sumI_take {l:List Int} {i:Nat} (h:i < l.length):sumI (l.take (i + 1)) = sumI (l.take i) + l[i]!:=by
  rw [List.take_succ_eq_append_getElem h,sumI_app,getElem!_pos l i h]
theorem sumI_bd {c:Int} (hc:0<=c):∀ {l:List Int} {i:Nat},(∀ j:Nat,j < l.length->0<=l[j]!∧l[j]!<=c)->i<=l.length->0<=sumI (l.take i)∧sumI (l.take i)<=c * i
  | l,0,_,_=>by simp [sumI]
  | l,i + 1,h,hi=>by
    have ih:=sumI_bd hc (i:=i) h (by omega)
    have h1:=h i (by omega)
    rw [sumI_take (by omega)]
    have:c * ((i + 1:Nat):Int) = c * i + c:=by rw [Int.natCast_add,Int.mul_add]; simp
    omega
theorem map_at1 {l:List (Int × Int)} {i:Nat} (h:i < l.length):(l.map (·.1))[i]! = l[i]!.1:=by
  rw [getElem!_pos _ i (by simpa using h),getElem!_pos l i h]; simp
theorem map_at2 {l:List (Int × Int)} {i:Nat} (h:i < l.length):(l.map (·.2))[i]! = l[i]!.2:=by
  rw [getElem!_pos _ i (by simpa using h),getElem!_pos l i h]; simp
set_option maxHeartbeats 4000000 in
set_option maxRecDepth 100000 in
theorem added_spec {B:Nat} {H:Heap} {v:Value} {l:List (Int × Int)} (hB:B<=H.n) (hv:RowS 2 H v (l.map Hl)) (hn:l.length<=12) (hb:∀ i,i < l.length->(0<=l[i]!.1∧l[i]!.1<=1000)∧0<=l[i]!.2∧l[i]!.2<=1000) :
    CallB Try.prog B 96 [v] H (fun r H'=>r = Hv (sumA l,sumB l)∧Keep H H'):=by
  have hb1:∀ j:Nat,j < (l.map (·.1)).length->0<=(l.map (·.1))[j]!∧(l.map (·.1))[j]!<=1000:=fun j hj=>by
    rw [List.length_map] at hj; rw [map_at1 hj]; exact (hb j hj).1
  have hb2:∀ j:Nat,j < (l.map (·.2)).length->0<=(l.map (·.2))[j]!∧(l.map (·.2))[j]!<=1000:=fun j hj=>by
    rw [List.length_map] at hj; rw [map_at2 hj]; exact (hb j hj).2
  refine CV.enter callees false rfl Try.func96 rfl (by kernel_rfl) (Nat.le_of_ble_eq_true rfl) hB ?_
  repeat' first | refine CO.cons rfl ?_ | refine CO.nil ?_ | refine CV.seq ?_ | refine CV.region callees ?_ | refine ⟨_,_,al87,?_⟩ | fail
  generalize hs0:Heap.new H _ = H0
  have hg0:=new_get hs0
  have k0:=new_keep hs0
  have n0:=new_n hs0
  obtain ⟨b0,hbn0⟩:∃ b,Heap.n H = b:=⟨_,rfl⟩
  rw [hbn0] at hg0 n0 ⊢
  repeat' first | fail
  generalize hs1:Heap.new H0 _ = H1
  have hg1:=new_get hs1
  have k1:=new_keep hs1
  have n1:=new_n hs1
  obtain ⟨b1,hbn1⟩:∃ b,Heap.n H0 = b:=⟨_,rfl⟩
  rw [hbn1] at hg1 n1 ⊢
  have k01:=k0.trans k1
  have hr1:=(k1.2 b0 (by omega)).trans hg0
  have hv1:=hv.keep k01
  repeat' first | refine CO.cons rfl ?_ | refine CO.nil ?_ | refine CV.block ?_ | refine ⟨_,kn_len hv1,?_⟩ | fail
  refine CV.loopc ?_
  refine WCv.rounds callees false (α:=Nat) (fun i=>[(2,.pointer (some ⟨b0,0,none⟩)),(3,.pointer (some ⟨b1,0,none⟩)),(6,v),(7,VJ l.length),(8,VJ i)]) (fun i Hz=>i<=l.length∧Hz.get b0 = some (.cells (Hl (0,0)) 104 1)∧Hz.get b1 = some (.cells (Hl (sumI ((l.map (·.1)).take i),sumI ((l.map (·.2)).take i))) 104 1)∧Keep H Hz∧b1 < Hz.n) (fun i=>l.length - i) (0) (by repeat' first | exact trivial | refine ⟨rfl,?_⟩ | refine ⟨slot_int (by (try simp only [Int.toNat_natCast]); omega),?_⟩) ?_ ?_
  · exact ⟨by omega,hr1,hg1,k01,by omega⟩
  rintro i Hx ⟨hi,hrx,hgx,kx,lx⟩ hBx
  by_cases hi2:i < l.length
  · have hvx:=hv.keep kx
    have s1:=sumI_bd (c:=1000) (by decide) (i:=i) hb1 (by rw [List.length_map]; omega)
    have s2:=sumI_bd (c:=1000) (by decide) (i:=i) hb2 (by rw [List.length_map]; omega)
    have hbi:=hb i hi2
    have e1:=sumI_take (l:=l.map (·.1)) (i:=i) (by rw [List.length_map]; exact hi2)
    have e2:=sumI_take (l:=l.map (·.2)) (i:=i) (by rw [List.length_map]; exact hi2)
    rw [map_at1 hi2] at e1
    rw [map_at2 hi2] at e2
    repeat' first | refine CO.cons rfl ?_ | refine CO.nil ?_ | refine CV.seq ?_ | refine CV.region callees ?_ | refine CV.cond ?_ | refine CV.block ?_ | refine CV.skip ?_ | refine ⟨_,kn_addr hvx (by omega) (by omega),?_⟩ | refine ⟨_,kn_load hvx hi2,?_⟩ | refine ⟨_,_,al87,?_⟩ | (refine ⟨fun _=>?_,fun _=>?_⟩<;>try (exfalso; omega)) | fail
    generalize hs2:Heap.new Hx _ = H2
    have hg2:=new_get hs2
    have k2:=new_keep hs2
    have n2:=new_n hs2
    obtain ⟨b2,hbn2⟩:∃ b,Heap.n Hx = b:=⟨_,rfl⟩
    rw [hbn2] at hg2 n2 ⊢
    repeat' first | fail
    refine ⟨_,_,st87 hg2,by omega,?_⟩
    generalize hs3:Heap.set H2 b2 _ = H3
    have hg3:H3.get b2 = some (.cells (Hl l[i]!) 104 1):=set_get hs3
    have n3:=set_n hs3
    have o3:=set_old hs3
    have k3:Keep Hx H3:=keep_put k2 (by omega) o3 n3
    have hg31:=(k3.2 b1 (by omega)).trans hgx
    repeat' first | refine CO.cons rfl ?_ | refine CO.nil ?_ | refine CV.seq ?_ | refine CV.region callees ?_ | refine ⟨(⟨by omega,by omega⟩:inI64 _),?_⟩ | refine ⟨_,addrK (by decide) (by decide),?_⟩ | refine ⟨_,cell_load ag3 hg31 rfl,?_⟩ | refine ⟨_,cell_load ag3 hg3 rfl,?_⟩ | fail
    refine ⟨_,_,store_row sz3 hg31 (Nat.le_of_ble_eq_true rfl) rfl,by omega,?_⟩
    generalize hs4:Heap.set H3 b1 _ = H4
    have hg4:H4.get b1 = some (.cells (Hl (sumI ((l.map (·.1)).take i) + l[i]!.1,sumI ((l.map (·.2)).take i))) 104 1):=set_get hs4
    have n4:=set_n hs4
    have o4:=set_old hs4
    have hg43:=(o4 b2 (by omega)).trans hg3
    repeat' first | refine CO.cons rfl ?_ | refine CO.nil ?_ | refine CV.region callees ?_ | refine ⟨(⟨by omega,by omega⟩:inI64 _),?_⟩ | refine ⟨_,addrK (by decide) (by decide),?_⟩ | refine ⟨_,cell_load ag3 hg4 rfl,?_⟩ | refine ⟨_,cell_load ag3 hg43 rfl,?_⟩ | fail
    refine ⟨_,_,store_row sz3 hg4 (Nat.le_of_ble_eq_true rfl) rfl,by omega,?_⟩
    generalize hs5:Heap.set H4 b1 _ = H5
    have hg5:H5.get b1 = some (.cells (Hl (sumI ((l.map (·.1)).take i) + l[i]!.1,sumI ((l.map (·.2)).take i) + l[i]!.2)) 104 1):=set_get hs5
    have n5:=set_n hs5
    have o5:=set_old hs5
    rw [<- e1,<- e2] at hg5
    have hr5:=(o5 b0 (by omega)).trans ((o4 b0 (by omega)).trans ((k3.2 b0 (by omega)).trans hrx))
    repeat' first | refine CO.cons rfl ?_ | refine CO.nil ?_ | refine CV.region callees ?_ | refine ⟨(⟨by omega,by omega⟩:inI64 _),?_⟩ | fail
    refine ⟨(i + 1),(by repeat' first | exact trivial | refine ⟨rfl,?_⟩ | refine ⟨slot_int (by (try simp only [Int.toNat_natCast]); omega),?_⟩),(by (try dsimp only); omega),?_⟩
    exact ⟨by omega,hr5,hg5,keep_put (keep_put (kx.trans k3) (by omega) o4 n4) (by omega) o5 n5,by omega⟩
  have hie:i = l.length:=by omega
  have e1:sumI ((l.map (·.1)).take i) = sumA l:=by rw [hie,<- List.length_map (f:=(·.1)),List.take_length]; rfl
  have e2:sumI ((l.map (·.2)).take i) = sumB l:=by rw [hie,<- List.length_map (f:=(·.2)),List.take_length]; rfl
  rw [e1,e2] at hgx
  repeat' first | refine CO.cons rfl ?_ | refine CO.nil ?_ | refine CV.seq ?_ | refine CV.region callees ?_ | refine CV.cond ?_ | refine CV.exit ?_ | refine ⟨_,ld87 hgx,?_⟩ | (refine ⟨fun _=>?_,fun _=>?_⟩<;>try (exfalso; omega)) | fail
  refine ⟨_,_,st87 hrx,by omega,?_⟩
  generalize hs6:Heap.set Hx b0 _ = H6
  have hg6:H6.get b0 = some (.cells (Hl (sumA l,sumB l)) 104 1):=set_get hs6
  have n6:=set_n hs6
  have o6:=set_old hs6
  repeat' first | refine CO.nil ?_ | refine CV.ret ?_ | fail
  exact ⟨_,ld87 hg6,rfl,rfl,keep_put kx (by omega) o6 n6⟩
def heatL (E:List Em) (m:Int):Int × Int:=(sumA (E.map (giv m)),sumB (E.map (giv m)))
theorem giv_bd {x:Em} {m:Int} (h:EmOk x):(0<=(giv m x).1∧(giv m x).1<=1000)∧0<=(giv m x).2∧(giv m x).2<=1000:=by
  obtain ⟨a1,a2,a3,a4,a5,a6,a7,a8,a9,a10,a11,a12⟩:=h
  unfold giv
  dsimp only
  constructor<;>split<;>omega
theorem giv_at {E:List Em} {m:Int} {i:Nat} (h:i < E.length):(E.map (giv m))[i]! = giv m E[i]!:=by
  rw [getElem!_pos _ i (by simpa using h),getElem!_pos E i h]; simp
set_option maxHeartbeats 4000000 in
set_option maxRecDepth 100000 in
theorem heatOf_spec {B:Nat} {H:Heap} {v:Value} {E:List Em} {m:Int} (hB:B<=H.n) (hv:RowS 6 H v (E.map Eml)) (hn:E.length<=12) (hE:∀ i,i < E.length->EmOk E[i]!) :
    CallB Try.prog B 72 [v,VJ m] H (fun r H'=>r = Hv (heatL E m)∧Keep H H'):=by
  refine CV.enter callees false rfl Try.func72 rfl (by kernel_rfl) (Nat.le_of_ble_eq_true rfl) hB ?_
  repeat' first | refine CO.cons rfl ?_ | refine CO.nil ?_ | refine CV.seq ?_ | refine CV.region callees ?_ | refine ⟨_,_,al87,?_⟩ | fail
  generalize hs0:Heap.new H _ = H0
  have hg0:=new_get hs0
  have k0:=new_keep hs0
  have n0:=new_n hs0
  obtain ⟨b0,hbn0⟩:∃ b,Heap.n H = b:=⟨_,rfl⟩
  rw [hbn0] at hg0 n0 ⊢
  have hv0:=hv.keep k0
  repeat' first | refine CO.cons rfl ?_ | refine ⟨_,em_len hv0,?_⟩ | fail
  refine ⟨_,_,make_rows un112 zero87b (by decide) E.length (by omega),?_⟩
  generalize hs1:Heap.new H0 _ = H1
  have hg1:=new_get hs1
  have k1:=new_keep hs1
  have n1:=new_n hs1
  obtain ⟨b1,hbn1⟩:∃ b,Heap.n H0 = b:=⟨_,rfl⟩
  rw [hbn1] at hg1 n1 ⊢
  have k01:=k0.trans k1
  have hr1:=(k1.2 b0 (by omega)).trans hg0
  have hv1:=hv.keep k01
  have ho1:OwnK H1 (.slice (some ⟨b1,0,none⟩) E.length 0) (List.replicate E.length (0,0)) b1:=⟨fun r hr=>by obtain ⟨x,_,rfl⟩:=List.mem_map.1 hr; rfl,.inr ⟨b1,by simp,Nat.le_refl _,by omega,by rw [hg1,List.map_replicate]⟩⟩
  obtain ⟨ov,hov⟩:∃ ov,Value.slice (some ⟨b1,0,none⟩) E.length 0 = ov:=⟨_,rfl⟩
  have hblk:blkOf ov = some b1:=by rw [<- hov]; rfl
  rw [hov] at ho1 ⊢
  repeat' first | refine CO.cons rfl ?_ | refine CO.nil ?_ | refine CV.seq ?_ | refine CV.region callees ?_ | refine CV.block ?_ | refine ⟨_,em_len hv1,?_⟩ | fail
  refine CV.loopc ?_
  refine WCv.rounds callees false (α:=List (Int × Int) × Nat) (fun (L,i)=>[(1,VJ m),(4,.pointer (some ⟨b0,0,none⟩)),(5,ov),(11,v),(12,VJ E.length),(13,VJ i)]) (fun (L,i) Hz=>i<=E.length∧L.length = E.length∧(∀ j:Nat,j < i->L[j]! = giv m E[j]!)∧OwnK Hz ov L b1∧Hz.get b0 = some (.cells (Hl (0,0)) 104 1)∧Keep H Hz∧b1 < Hz.n) (fun (L,i)=>E.length - i) (List.replicate E.length (0,0),0) (by repeat' first | exact trivial | refine ⟨rfl,?_⟩ | refine ⟨slot_int (by (try simp only [Int.toNat_natCast]); omega),?_⟩) ?_ ?_
  · exact ⟨by omega,by simp,fun j hj=>by omega,ho1,hr1,k01,by omega⟩
  rintro ⟨L,i⟩ Hx ⟨hi,hLl,hL,ho,hrx,kx,lx⟩ hBx
  by_cases hi2:i < E.length
  · have hvx:=hv.keep kx
    repeat' first | refine CO.cons rfl ?_ | refine CO.nil ?_ | refine CV.seq ?_ | refine CV.region callees ?_ | refine CV.cond ?_ | refine CV.block ?_ | refine CV.skip ?_ | refine ⟨_,em_addr hvx (by omega) (by omega),?_⟩ | refine ⟨_,em_load hvx hi2,?_⟩ | refine ⟨_,_,al89,?_⟩ | (refine ⟨fun _=>?_,fun _=>?_⟩<;>try (exfalso; omega)) | fail
    generalize hs2:Heap.new Hx _ = H2
    have hg2:=new_get hs2
    have k2:=new_keep hs2
    have n2:=new_n hs2
    obtain ⟨b2,hbn2⟩:∃ b,Heap.n Hx = b:=⟨_,rfl⟩
    rw [hbn2] at hg2 n2 ⊢
    repeat' first | fail
    refine ⟨_,_,st89 hg2,by omega,?_⟩
    generalize hs3:Heap.set H2 b2 _ = H3
    have hg3:H3.get b2 = some (.cells (Eml E[i]!) 106 1):=set_get hs3
    have n3:=set_n hs3
    have o3:=set_old hs3
    have k3:Keep Hx H3:=keep_put k2 (by omega) o3 n3
    repeat' first | refine CO.cons rfl ?_ | refine CO.nil ?_ | refine CV.region callees ?_ | refine ⟨_,ld89 hg3,?_⟩ | fail
    refine (given_spec (by omega) (hE i hi2)).mono ?_
    rintro r H4 ⟨rfl,k4⟩
    have l4:=k4.1
    have k34:=k3.trans k4
    have ho4:OwnK H4 ov L b1:=OwnS.keep ho k34
    repeat' first | refine CO.cons rfl ?_ | refine ⟨_,kn_addr ho4.row (by omega) (by omega),?_⟩ | fail
    refine kn_put ho4 (by omega) (by omega) ?_
    intro H5 ho5 kb5
    have l5:=kb5.le
    rw [Int.toNat_natCast] at ho5
    have hr5:=(kb5.get b0 (by omega) (by rw [hblk]; intro h; cases h; omega)).trans ((k34.2 b0 (by omega)).trans hrx)
    repeat' first | refine CO.cons rfl ?_ | refine CO.nil ?_ | refine CV.region callees ?_ | refine ⟨(⟨by omega,by omega⟩:inI64 _),?_⟩ | fail
    refine ⟨(L.set i (giv m E[i]!),i + 1),(by repeat' first | exact trivial | refine ⟨rfl,?_⟩ | refine ⟨slot_int (by (try simp only [Int.toNat_natCast]); omega),?_⟩),(by (try dsimp only); omega),?_⟩
    refine ⟨by omega,by rw [List.length_set]; exact hLl,fun j hj=>?_,ho5,hr5,kb5.keep (kx.trans k34) fun c hc=>by rw [hblk] at hc; cases hc; omega,by omega⟩
    by_cases hji:j = i
    · subst hji
      rw [getElem!_pos _ j (by rw [List.length_set]; omega)]; simp
    · rw [getElem!_pos _ j (by rw [List.length_set]; omega),List.getElem_set_ne (by omega),<- getElem!_pos L j (by omega)]
      exact hL j (by omega)
  have hie:i = E.length:=by omega
  have hLe:L = E.map (giv m):=by
    apply List.ext_getElem (by rw [hLl,List.length_map])
    intro j h1 h2
    have:=hL j (by omega)
    rw [<- giv_at (by omega),getElem!_pos L j h1,getElem!_pos _ j h2] at this
    exact this
  subst hLe
  repeat' first | refine CO.cons rfl ?_ | refine CO.nil ?_ | refine CV.seq ?_ | refine CV.region callees ?_ | refine CV.cond ?_ | refine CV.exit ?_ | (refine ⟨fun _=>?_,fun _=>?_⟩<;>try (exfalso; omega)) | fail
  refine (added_spec (by omega) ho.row (by rw [List.length_map]; exact hn) fun j hj=>?_).mono ?_
  · rw [List.length_map] at hj
    rw [giv_at hj]; exact giv_bd (hE j hj)
  rintro r H6 ⟨rfl,k6⟩
  have l6:=k6.1
  have hr6:=(k6.2 b0 (by omega)).trans hrx
  repeat' first | refine CO.cons rfl ?_ | fail
  refine ⟨_,_,st87 hr6,by omega,?_⟩
  generalize hs7:Heap.set H6 b0 _ = H7
  have hg7:H7.get b0 = some (.cells (Hl (heatL E m)) 104 1):=set_get hs7
  have n7:=set_n hs7
  have o7:=set_old hs7
  repeat' first | refine CO.nil ?_ | refine CV.ret ?_ | fail
  exact ⟨_,ld87 hg7,rfl,rfl,keep_put (kx.trans k6) (by omega) o7 n7⟩
theorem un35:Try.prog.underlying 48 = some (.slice 27):=by kernel_rfl
theorem zero41b:zeroBB Try.prog 27 = some (Hl (0,0),16):=by kernel_rfl
abbrev OwnSp (H:Heap) (v:Value) (l:List (Int × Int)) (B:Nat):Prop:=OwnS 27 2 H v (l.map Hl) B
theorem sp_one {H:Heap} {x:Int × Int}:abuildSlice Try.prog H 48 1 [(0,Hv x)] = some (.slice (some ⟨H.n,0,none⟩) 1 0,H.new (.cells (Hl x) 27 2),H.n) :=
  build_oneS (row:=Hl x) un35 zero41b (by decide) rfl
theorem sp_push {K:Value->Heap->Prop} {B B0:Nat} {H:Heap} {x:Value} {l:List (Int × Int)} {d:Int × Int} (hx:OwnSp H x l B0) (hB0:B0<=H.n) (hB:B<=B0) (hn:l.length < 1000000)
    (hk:∀ r H',OwnSp H' r (l ++ [d]) B0->KeepBut x H H'->(∀ c,blkOf r = some c->H.n<=c)->K r H') :
    ∃ v H' b,aappend Try.prog (H.new (.cells (Hl d) 27 2)) #[48,48] x (.slice (some ⟨H.n,0,none⟩) 1 0) = some (v,H',b)∧B<=b∧K v H' :=
  append_askS (z:=Hl (0,0)) un35 zero41b (by decide) rfl hx hB0 hB (by rw [List.length_map]; exact hn) (fun r H' ho=>hk r H' (by rw [OwnSp,List.map_append]; exact ho))
def begS (E:List Em):List (Int × Int):=E.map fun x=>(x.b0,x.b1)
theorem take_beg {E:List Em} {i:Nat} (h:i < E.length):(begS (E.take i)) ++ [(E[i]!.b0,E[i]!.b1)] = begS (E.take (i + 1)):=by
  unfold begS
  rw [List.take_succ_eq_append_getElem h,List.map_append,getElem!_pos E i h]; rfl
set_option maxHeartbeats 4000000 in
set_option maxRecDepth 100000 in
theorem begins_spec {B:Nat} {H:Heap} {cv tv:Value} {cs:List Co} {ts:List (Int × Int)} {B0 B1:List Int} (hB:B<=H.n) (hc:RowS 7 H cv (cs.map Col)) (ht:RowS 2 H tv (ts.map Hl)) (hf:FOk cs ts) (h0:IsBeg 0 cs ts B0) (h1:IsBeg 1 cs ts B1) :
    CallB Try.prog B 23 [Fv cv tv] H (fun r H'=>(∃ q,r = .tuple #[q,VJ 0]∧OwnSp H' q (begS (emL cs B0 B1)) H.n)∧Keep H H'):=by
  have hn12:=hf.n
  refine CV.enter callees false rfl Try.func23 rfl (by kernel_rfl) (Nat.le_of_ble_eq_true rfl) hB ?_
  repeat' first | refine CO.cons rfl ?_ | refine CV.seq ?_ | refine CV.region callees ?_ | fail
  refine ⟨(by simp only [notTuple]),?_⟩
  rw [allocFv hc.cells.1 ht.cells.1]
  generalize hs0:Heap.new H _ = H0
  have hg0:=new_get hs0
  have k0:=new_keep hs0
  have n0:=new_n hs0
  obtain ⟨b0,hbn0⟩:∃ b,Heap.n H = b:=⟨_,rfl⟩
  rw [hbn0] at hg0 n0 ⊢
  repeat' first | refine CO.cons rfl ?_ | refine CO.nil ?_ | refine CV.seq ?_ | refine CV.region callees ?_ | refine ⟨_,agg_load ag28 sz28 hg0 (Nat.le_refl _),?_⟩ | fail
  refine (check_ok (cs:=cs) (ts:=ts) (by omega) (hc.keep k0) (ht.keep k0) hf).mono ?_
  rintro r H1 ⟨rfl,k1⟩
  have l1:=k1.1
  have hr1:=(k1.2 b0 (by omega)).trans hg0
  have k01:=k0.trans k1
  repeat' first | refine CO.cons rfl ?_ | refine CO.nil ?_ | refine CV.seq ?_ | refine CV.region callees ?_ | refine CV.cond ?_ | refine CV.skip ?_ | refine ⟨_,agg_load ag28 sz28 hr1 (Nat.le_refl _),?_⟩ | (refine ⟨fun _=>?_,fun _=>?_⟩<;>try (exfalso; omega)) | fail
  refine (embers_spec (by omega) (hc.keep k01) (ht.keep k01) hf h0 h1).mono ?_
  rintro ev H2 ⟨he2,k2⟩
  have l2:=k2.1
  have k02:=k01.trans k2
  have hel:(emL cs B0 B1).length = cs.length:=emL_len
  obtain ⟨E,hE⟩:∃ E,emL cs B0 B1 = E:=⟨_,rfl⟩
  rw [hE] at he2 hel ⊢
  have her:=he2.row
  repeat' first | refine CO.cons rfl ?_ | refine CO.nil ?_ | refine CV.block ?_ | refine ⟨_,em_len her,?_⟩ | fail
  refine CV.loopc ?_
  refine WCv.rounds callees false (α:=Value × Nat) (fun (q,i)=>[(5,q),(14,ev),(15,VJ E.length),(16,VJ i)]) (fun (q,i) Hz=>i<=E.length∧OwnSp Hz q (begS (E.take i)) H2.n∧Keep H2 Hz) (fun (q,i)=>E.length - i) (nilS,0) (by repeat' first | exact trivial | refine ⟨rfl,?_⟩ | refine ⟨slot_int (by (try simp only [Int.toNat_natCast]); omega),?_⟩) ?_ ?_
  · exact ⟨by omega,OwnS.nil,Keep.refl _⟩
  rintro ⟨q,i⟩ Hx ⟨hi,hq,kx⟩ hBx
  have lx:=kx.1
  by_cases hi2:i < E.length
  · have hex:=her.keep kx
    repeat' first | refine CO.cons rfl ?_ | refine CO.nil ?_ | refine CV.seq ?_ | refine CV.region callees ?_ | refine CV.cond ?_ | refine CV.block ?_ | refine CV.skip ?_ | refine ⟨_,em_addr hex (by omega) (by omega),?_⟩ | refine ⟨_,em_load hex hi2,?_⟩ | refine ⟨_,_,al89,?_⟩ | (refine ⟨fun _=>?_,fun _=>?_⟩<;>try (exfalso; omega)) | fail
    generalize hs3:Heap.new Hx _ = H3
    have hg3:=new_get hs3
    have k3:=new_keep hs3
    have n3:=new_n hs3
    obtain ⟨b3,hbn3⟩:∃ b,Heap.n Hx = b:=⟨_,rfl⟩
    rw [hbn3] at hg3 n3 ⊢
    repeat' first | fail
    refine ⟨_,_,st89 hg3,by omega,?_⟩
    generalize hs4:Heap.set H3 b3 _ = H4
    have hg4:H4.get b3 = some (.cells (Eml E[i]!) 106 1):=set_get hs4
    have n4:=set_n hs4
    have o4:=set_old hs4
    have k4:Keep Hx H4:=keep_put k3 (by omega) o4 n4
    repeat' first | refine CO.cons rfl ?_ | refine CO.nil ?_ | refine CV.region callees ?_ | refine ⟨_,fS foE0 (by decide),?_⟩ | refine ⟨_,agg_load ag87 sz87 hg4 (Nat.le_of_ble_eq_true rfl),?_⟩ | fail
    refine (span_spec (p:=(E[i]!.b0,E[i]!.b1)) (by omega)).mono ?_
    rintro r H5 ⟨rfl,k5⟩
    have l5:=k5.1
    have k45:=k4.trans k5
    have hq5:OwnSp H5 q (begS (E.take i)) H2.n:=OwnS.keep hq k45
    repeat' first | refine CO.cons rfl ?_ | refine ⟨_,_,sp_one,?_⟩ | fail
    refine sp_push hq5 (by omega) (by omega) (by simp [begS]; omega) ?_
    intro q6 H6 hq6 kb6 hf6
    have l6:=kb6.le
    rw [take_beg hi2] at hq6
    have kx6:Keep H2 H6:=kb6.keep (kx.trans k45) fun c hc=>(hq5.lt hc).1
    repeat' first | refine CO.cons rfl ?_ | refine CO.nil ?_ | refine CV.region callees ?_ | refine ⟨(⟨by omega,by omega⟩:inI64 _),?_⟩ | fail
    refine ⟨(q6,i + 1),(by repeat' first | exact trivial | refine ⟨rfl,?_⟩ | refine ⟨slot_int (by (try simp only [Int.toNat_natCast]); omega),?_⟩),(by (try dsimp only); omega),?_⟩
    exact ⟨by omega,hq6,kx6⟩
  have hie:i = E.length:=by omega
  rw [hie,List.take_length] at hq
  repeat' first | refine CO.cons rfl ?_ | refine CO.nil ?_ | refine CV.seq ?_ | refine CV.region callees ?_ | refine CV.cond ?_ | refine CV.exit ?_ | refine CV.ret ?_ | (refine ⟨fun _=>?_,fun _=>?_⟩<;>try (exfalso; omega)) | fail
  refine ⟨by simp only [List.all_cons,List.all_nil,OwnS.notTuple hq]; rfl,⟨q,rfl,OwnS.low hq (by omega)⟩,k02.trans kx⟩
set_option maxHeartbeats 4000000 in
set_option maxRecDepth 100000 in
theorem heat_spec {B:Nat} {H:Heap} {cv tv:Value} {cs:List Co} {ts:List (Int × Int)} {B0 B1:List Int} {m:Int} (hB:B<=H.n) (hc:RowS 7 H cv (cs.map Col)) (ht:RowS 2 H tv (ts.map Hl)) (hf:FOk cs ts) (h0:IsBeg 0 cs ts B0) (h1:IsBeg 1 cs ts B1) (hm0:0<=m) (hm1:m<=300) :
    CallB Try.prog B 25 [Fv cv tv,VJ m] H (fun r H'=>r = .tuple #[Hv (heatL (emL cs B0 B1) m),VJ 0]∧Keep H H'):=by
  have hn12:=hf.n
  refine CV.enter callees false rfl Try.func25 rfl (by kernel_rfl) (Nat.le_of_ble_eq_true rfl) hB ?_
  repeat' first | refine CO.cons rfl ?_ | refine CV.seq ?_ | refine CV.region callees ?_ | fail
  refine ⟨(by simp only [notTuple]),?_⟩
  rw [allocFv hc.cells.1 ht.cells.1]
  generalize hs0:Heap.new H _ = H0
  have hg0:=new_get hs0
  have k0:=new_keep hs0
  have n0:=new_n hs0
  obtain ⟨b0,hbn0⟩:∃ b,Heap.n H = b:=⟨_,rfl⟩
  rw [hbn0] at hg0 n0 ⊢
  repeat' first | refine CO.cons rfl ?_ | refine CO.nil ?_ | refine CV.seq ?_ | refine CV.region callees ?_ | refine ⟨_,_,al41,?_⟩ | fail
  generalize hs1:Heap.new H0 _ = H1
  have hg1:=new_get hs1
  have k1:=new_keep hs1
  have n1:=new_n hs1
  obtain ⟨b1,hbn1⟩:∃ b,Heap.n H0 = b:=⟨_,rfl⟩
  rw [hbn1] at hg1 n1 ⊢
  have hr1:=(k1.2 b0 (by omega)).trans hg0
  have k01:=k0.trans k1
  repeat' first | refine CO.cons rfl ?_ | refine ⟨_,agg_load ag28 sz28 hr1 (Nat.le_refl _),?_⟩ | fail
  refine (check_ok (cs:=cs) (ts:=ts) (by omega) (hc.keep k01) (ht.keep k01) hf).mono ?_
  rintro r H2 ⟨rfl,k2⟩
  have l2:=k2.1
  have hr2:=(k2.2 b0 (by omega)).trans hr1
  have hg2:=(k2.2 b1 (by omega)).trans hg1
  have k02:=k01.trans k2
  repeat' first | refine CO.cons rfl ?_ | refine CO.nil ?_ | refine CV.seq ?_ | refine CV.region callees ?_ | refine CV.cond ?_ | refine CV.skip ?_ | (refine ⟨fun _=>?_,fun _=>?_⟩<;>try (exfalso; omega)) | fail
  refine (isWithin_yes (by omega) ⟨hm0,hm1⟩).mono ?_
  rintro r H3 ⟨rfl,rfl⟩
  repeat' first | refine CO.cons rfl ?_ | refine CO.nil ?_ | refine CV.seq ?_ | refine CV.region callees ?_ | refine CV.cond ?_ | refine CV.skip ?_ | refine ⟨_,agg_load ag28 sz28 hr2 (Nat.le_refl _),?_⟩ | fail
  refine (embers_spec (by omega) (hc.keep k02) (ht.keep k02) hf h0 h1).mono ?_
  rintro ev H3 ⟨he3,k3⟩
  have l3:=k3.1
  have hg3:=(k3.2 b1 (by omega)).trans hg2
  repeat' first | refine CO.cons rfl ?_ | fail
  refine (heatOf_spec (by omega) he3.row (by rw [emL_len]; omega) (emL_ok hf h0 h1)).mono ?_
  rintro r H4 ⟨rfl,k4⟩
  have l4:=k4.1
  have hg4:=(k4.2 b1 (by omega)).trans hg3
  repeat' first | refine CO.cons rfl ?_ | fail
  refine (span_spec (by omega)).mono ?_
  rintro r H5 ⟨rfl,k5⟩
  have l5:=k5.1
  have hg5:=(k5.2 b1 (by omega)).trans hg4
  repeat' first | refine CO.cons rfl ?_ | fail
  refine ⟨_,_,st41 hg5,by omega,?_⟩
  generalize hs6:Heap.set H5 b1 _ = H6
  have hg6:H6.get b1 = some (.cells (Hl (heatL (emL cs B0 B1) m)) 27 1):=set_get hs6
  have n6:=set_n hs6
  have o6:=set_old hs6
  repeat' first | refine CO.cons rfl ?_ | refine CO.nil ?_ | refine CV.ret ?_ | fail
  exact ⟨_,ld41 hg6,rfl,rfl,keep_put (((k02.trans k3).trans k4).trans k5) (by omega) o6 n6⟩
structure KOk (k:Ke):Prop where
  wa:1<=k.wa
  wa':k.wa<=50
  wl:0<=k.wl
  wm:k.wl<=k.wh
  wh:k.wh<=1000
  ro:0<=k.ro
  ro':k.ro<=1000
  si:0<=k.si
  bo:k.bo<=1000
  sb:k.si<=k.bo
  ga:0<=k.ga
  ga':k.ga<=1000
  lo:0<=k.lo
  lo':k.lo<=1000000
theorem foK0:fieldOff Try.prog 29 0 = some (0,1):=by kernel_rfl
theorem foK1:fieldOff Try.prog 29 1 = some (1,2):=by kernel_rfl
theorem foK2:fieldOff Try.prog 29 2 = some (3,1):=by kernel_rfl
theorem foK3:fieldOff Try.prog 29 3 = some (4,1):=by kernel_rfl
theorem foK4:fieldOff Try.prog 29 4 = some (5,1):=by kernel_rfl
theorem foK5:fieldOff Try.prog 29 5 = some (6,1):=by kernel_rfl
theorem foK6:fieldOff Try.prog 29 6 = some (7,1):=by kernel_rfl
theorem bu128 {x y z:Int}:abuild Try.prog 114 [(0,VJ x),(1,VJ y),(2,VJ z)] = some (.agg #[VJ x,VJ y,VJ z]):=by kernel_rfl
theorem ix128a {x y z:Int}:aindex Try.prog 114 (.agg #[VJ x,VJ y,VJ z]) (VJ 0) = some (VJ x):=by kernel_rfl
theorem ix128b {x y z:Int}:aindex Try.prog 114 (.agg #[VJ x,VJ y,VJ z]) (VJ 1) = some (VJ y):=by kernel_rfl
theorem ix128c {x y z:Int}:aindex Try.prog 114 (.agg #[VJ x,VJ y,VJ z]) (VJ 2) = some (VJ z):=by kernel_rfl
def thr (x y z:Int):Nat->Int
  | 0=>x
  | 1=>y
  | _=>z
theorem ix128 {x y z:Int} {j:Nat} (hj:j < 3):aindex Try.prog 114 (.agg #[VJ x,VJ y,VJ z]) (VJ j) = some (VJ (thr x y z j)):=by
  match j,hj with
  | 0,_=>exact ix128a
  | 1,_=>exact ix128b
  | 2,_=>exact ix128c
set_option maxHeartbeats 4000000 in
set_option maxRecDepth 100000 in
theorem checkKettle_ok {B:Nat} {H:Heap} {k:Ke} (hB:B<=H.n) (hk:KOk k) :
    CallB Try.prog B 29 [Kev k] H (fun r H'=>r = VJ 0∧Keep H H'):=by
  obtain ⟨a1,a2,a3,a4,a5,a6,a7,a8,a9,a10,a11,a12,a13,a14⟩:=hk
  refine CV.enter callees false rfl Try.func29 rfl (by kernel_rfl) (Nat.le_of_ble_eq_true rfl) hB ?_
  repeat' first | refine CO.cons rfl ?_ | refine CV.seq ?_ | refine CV.region callees ?_ | fail
  refine ⟨(by simp only [notTuple]),?_⟩
  rw [boxKe]
  generalize hs0:Heap.new H _ = H0
  have hg0:=new_get hs0
  have k0:=new_keep hs0
  have n0:=new_n hs0
  obtain ⟨b0,hbn0⟩:∃ b,Heap.n H = b:=⟨_,rfl⟩
  rw [hbn0] at hg0 n0 ⊢
  repeat' first | refine CO.cons rfl ?_ | refine CO.nil ?_ | refine CV.seq ?_ | refine CV.region callees ?_ | refine ⟨_,fS foK0 (by decide),?_⟩ | refine ⟨_,cell_load ag3 hg0 rfl,?_⟩ | fail
  refine (isWithin_yes (by omega) ⟨by omega,by omega⟩).mono ?_
  rintro r H1 ⟨rfl,rfl⟩
  repeat' first | refine CO.cons rfl ?_ | refine CO.nil ?_ | refine CV.seq ?_ | refine CV.region callees ?_ | refine CV.cond ?_ | refine CV.skip ?_ | refine ⟨_,fS foK1 (by decide),?_⟩ | refine ⟨_,agg_load ag41 sz41 hg0 (Nat.le_of_ble_eq_true rfl),?_⟩ | fail
  refine (checkSpan_ok (p:=(k.wl,k.wh)) (by omega) (by omega) a4 (by omega)).mono ?_
  rintro r H1 ⟨rfl,k1⟩
  have l1:=k1.1
  have hg1:=(k1.2 b0 (by omega)).trans hg0
  have k01:=k0.trans k1
  repeat' first | refine CO.cons rfl ?_ | refine CO.nil ?_ | refine CV.seq ?_ | refine CV.region callees ?_ | refine CV.cond ?_ | refine CV.block ?_ | refine CV.skip ?_ | refine ⟨_,fS foK2 (by decide),?_⟩ | refine ⟨_,fS foK5 (by decide),?_⟩ | refine ⟨_,fS foK6 (by decide),?_⟩ | refine ⟨_,cell_load ag3 hg1 rfl,?_⟩ | refine ⟨_,bu128,?_⟩ | (refine ⟨fun _=>?_,fun _=>?_⟩<;>try (exfalso; omega)) | fail
  refine CV.loopc ?_
  refine WCv.rounds callees false (α:=Nat) (fun i=>[(1,.pointer (some ⟨b0,0,none⟩)),(22,.agg #[VJ k.ro,VJ k.si,VJ k.bo]),(23,VJ i)]) (fun i Hz=>i<=3∧Hz = H1) (fun i=>3 - i) (0) (by repeat' first | exact trivial | refine ⟨rfl,?_⟩ | refine ⟨slot_int (by (try simp only [Int.toNat_natCast]); omega),?_⟩) ?_ ?_
  · exact ⟨by omega,rfl⟩
  rintro i Hx ⟨hi,rfl⟩ hBx
  by_cases hi2:i < 3
  · repeat' first | refine CO.cons rfl ?_ | refine CO.nil ?_ | refine CV.seq ?_ | refine CV.region callees ?_ | refine CV.cond ?_ | refine CV.block ?_ | refine CV.skip ?_ | refine ⟨_,ix128 hi2,?_⟩ | (refine ⟨fun _=>?_,fun _=>?_⟩<;>try (exfalso; omega)) | fail
    refine (isWithin_yes (by omega) (by match i,hi2 with | 0,_=>exact ⟨a6,a7⟩ | 1,_=>exact ⟨a8,(by omega:k.si<=1000)⟩ | 2,_=>exact ⟨(by omega:0<=k.bo),a9⟩)).mono ?_
    rintro r H2 ⟨rfl,rfl⟩
    repeat' first | refine CO.cons rfl ?_ | refine CO.nil ?_ | refine CV.region callees ?_ | refine CV.cond ?_ | refine CV.skip ?_ | refine ⟨(⟨by omega,by omega⟩:inI64 _),?_⟩ | fail
    refine ⟨(i + 1),(by repeat' first | exact trivial | refine ⟨rfl,?_⟩ | refine ⟨slot_int (by (try simp only [Int.toNat_natCast]); omega),?_⟩),(by (try dsimp only); omega),?_⟩
    exact ⟨by omega,rfl⟩
  repeat' first | refine CO.cons rfl ?_ | refine CO.nil ?_ | refine CV.seq ?_ | refine CV.region callees ?_ | refine CV.cond ?_ | refine CV.exit ?_ | refine ⟨_,fS foK3 (by decide),?_⟩ | refine ⟨_,cell_load ag3 hg1 rfl,?_⟩ | (refine ⟨fun _=>?_,fun _=>?_⟩<;>try (exfalso; omega)) | fail
  refine (isWithin_yes (by omega) ⟨by omega,by omega⟩).mono ?_
  rintro r H2 ⟨rfl,rfl⟩
  repeat' first | refine CO.cons rfl ?_ | refine CO.consG rfl ?_ | refine ⟨_,fS foK4 (by decide),?_⟩ | refine ⟨_,cell_load ag3 hg1 rfl,?_⟩ | fail
  refine (isWithin_yes (by omega) ⟨by omega,by omega⟩).mono ?_
  rintro r H2 ⟨rfl,rfl⟩
  repeat' first | refine CO.cons rfl ?_ | refine CO.nil ?_ | refine CV.seq ?_ | refine CV.region callees ?_ | refine CV.cond ?_ | refine CV.skip ?_ | refine CV.ret ?_ | refine CO.consG rfl ?_ | refine ⟨_,fS foK5 (by decide),?_⟩ | refine ⟨_,fS foK6 (by decide),?_⟩ | refine ⟨_,cell_load ag3 hg1 rfl,?_⟩ | (refine ⟨fun _=>?_,fun _=>?_⟩<;>try (exfalso; omega)) | fail
  exact ⟨rfl,rfl,k01⟩
end Go.Proofs.Ytglkphjjinmgmaa
