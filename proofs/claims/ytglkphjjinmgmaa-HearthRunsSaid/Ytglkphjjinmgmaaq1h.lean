/- The program's checks,whatever is checked. -/
import Derived.Test.Ytglkphjjinmgmaaq0h
set_option linter.unusedVariables false
set_option linter.unusedSimpArgs false
namespace Go.Proofs.Ytglkphjjinmgmaa
open Go.AI
theorem isWithin_no {B:Nat} {H:Heap} {n a b:Int} (hB:B<=H.n) (h:¬ (a<=n∧n<=b)) :
    CallB Try.prog B 71 [VJ n,VJ a,VJ b] H (fun r H'=>r = .bool false∧H' = H) :=
  (isWithin_spec hB).mono fun r H' ⟨h1,h2⟩=>⟨by rw [h1,decide_eq_false h],h2⟩
set_option maxRecDepth 100000 in
theorem checkSpan_spec {B:Nat} {H:Heap} {p:Int × Int} {a b:Int} (hB:B<=H.n) :
    CallB Try.prog B 77 [Hv p,VJ a,VJ b] H (fun r H'=>r = VJ (spE p a b)∧Keep H H'):=by
  refine CV.enter callees false rfl Try.func77 rfl (by kernel_rfl) (Nat.le_of_ble_eq_true rfl) hB ?_
  repeat' first | refine CO.cons rfl ?_ | refine CV.seq ?_ | refine CV.region callees ?_ | fail
  refine ⟨(by simp only [notTuple]),?_⟩
  rw [allocHv]
  generalize hs0:Heap.new H _ = H0
  have hg0:=new_get hs0
  have k0:=new_keep hs0
  have n0:=new_n hs0
  obtain ⟨b0,hbn0⟩:∃ b,Heap.n H = b:=⟨_,rfl⟩
  rw [hbn0] at hg0 n0 ⊢
  repeat' first | refine CO.cons rfl ?_ | refine CO.nil ?_ | refine CV.seq ?_ | refine CV.region callees ?_ | refine ⟨_,fS foS0 (by decide),?_⟩ | refine ⟨_,cell_load ag3 hg0 rfl,?_⟩ | fail
  by_cases h1:a<=p.1∧p.1<=b
  rotate_left
  · refine (isWithin_no (by omega) h1).mono ?_
    rintro r H1 ⟨rfl,rfl⟩
    repeat' first | refine CO.cons rfl ?_ | refine CO.nil ?_ | refine CV.seq ?_ | refine CV.region callees ?_ | refine CV.cond ?_ | refine CV.ret ?_ | refine CO.consG rfl ?_ | fail
    exact ⟨rfl,by rw [spE,if_neg (fun h=>h1 h.1)],k0⟩
  refine (isWithin_yes (by omega) h1).mono ?_
  rintro r H1 ⟨rfl,rfl⟩
  repeat' first | refine CO.cons rfl ?_ | refine CO.consG rfl ?_ | refine ⟨_,fS foS1 (by decide),?_⟩ | refine ⟨_,cell_load ag3 hg0 rfl,?_⟩ | fail
  by_cases h2:a<=p.2∧p.2<=b
  rotate_left
  · refine (isWithin_no (by omega) h2).mono ?_
    rintro r H2 ⟨rfl,rfl⟩
    repeat' first | refine CO.cons rfl ?_ | refine CO.nil ?_ | refine CV.seq ?_ | refine CV.region callees ?_ | refine CV.cond ?_ | refine CV.ret ?_ | refine CO.consG rfl ?_ | fail
    exact ⟨rfl,by rw [spE,if_neg (fun h=>h2 h.2)],k0⟩
  refine (isWithin_yes (by omega) h2).mono ?_
  rintro r H2 ⟨rfl,rfl⟩
  by_cases h3:p.1<=p.2
  · repeat' first | refine CO.cons rfl ?_ | refine CO.nil ?_ | refine CV.seq ?_ | refine CV.region callees ?_ | refine CV.cond ?_ | refine CV.skip ?_ | refine CV.ret ?_ | refine CO.consG rfl ?_ | refine ⟨_,fS foS0 (by decide),?_⟩ | refine ⟨_,fS foS1 (by decide),?_⟩ | refine ⟨_,cell_load ag3 hg0 rfl,?_⟩ | (refine ⟨fun _=>?_,fun _=>?_⟩<;>try (exfalso; omega)) | fail
    exact ⟨rfl,by rw [spE,if_pos ⟨h1,h2⟩,if_pos h3],k0⟩
  · repeat' first | refine CO.cons rfl ?_ | refine CO.nil ?_ | refine CV.seq ?_ | refine CV.region callees ?_ | refine CV.cond ?_ | refine CV.skip ?_ | refine CV.ret ?_ | refine CO.consG rfl ?_ | refine ⟨_,fS foS0 (by decide),?_⟩ | refine ⟨_,fS foS1 (by decide),?_⟩ | refine ⟨_,cell_load ag3 hg0 rfl,?_⟩ | (refine ⟨fun _=>?_,fun _=>?_⟩<;>try (exfalso; omega)) | fail
    exact ⟨rfl,by rw [spE,if_pos ⟨h1,h2⟩,if_neg h3],k0⟩
set_option maxRecDepth 100000 in
theorem checkCoal_spec {B:Nat} {H:Heap} {c:Co} (hB:B<=H.n) :
    CallB Try.prog B 75 [Cov c] H (fun r H'=>r = VJ (coE c)∧Keep H H'):=by
  have hco:coE c = if spE (c.cl,c.ch) 1 300 = 0 then (if spE (c.bl,c.bh) 1 300 = 0 then spE (c.hl,c.hh) 0 1000 else spE (c.bl,c.bh) 1 300) else spE (c.cl,c.ch) 1 300:=rfl
  refine CV.enter callees false rfl Try.func75 rfl (by kernel_rfl) (Nat.le_of_ble_eq_true rfl) hB ?_
  repeat' first | refine CO.cons rfl ?_ | refine CV.seq ?_ | refine CV.region callees ?_ | fail
  refine ⟨(by simp only [notTuple]),?_⟩
  rw [boxCo]
  generalize hs0:Heap.new H _ = H0
  have hg0:=new_get hs0
  have k0:=new_keep hs0
  have n0:=new_n hs0
  obtain ⟨b0,hbn0⟩:∃ b,Heap.n H = b:=⟨_,rfl⟩
  rw [hbn0] at hg0 n0 ⊢
  repeat' first | refine CO.cons rfl ?_ | refine CO.nil ?_ | refine CV.seq ?_ | refine CV.region callees ?_ | refine ⟨_,fS foC0 (by decide),?_⟩ | refine ⟨_,agg_load ag41 sz41 hg0 (Nat.le_of_ble_eq_true rfl),?_⟩ | fail
  refine (checkSpan_spec (p:=(c.cl,c.ch)) (by omega)).mono ?_
  obtain ⟨x,hx⟩:∃ x,spE (c.cl,c.ch) 1 300 = x:=⟨_,rfl⟩
  rw [hx] at hco ⊢
  rintro r H1 ⟨rfl,k1⟩
  have l1:=k1.1
  have hg1:=(k1.2 b0 (by omega)).trans hg0
  by_cases h1:x = 0
  rotate_left
  · rw [if_neg h1] at hco
    repeat' first | refine CO.cons rfl ?_ | refine CO.nil ?_ | refine CV.seq ?_ | refine CV.region callees ?_ | refine CV.cond ?_ | refine CV.ret ?_ | (refine ⟨fun _=>?_,fun _=>?_⟩<;>try (exfalso; omega)) | fail
    exact ⟨rfl,by rw [hco],k0.trans k1⟩
  rw [if_pos h1] at hco
  repeat' first | refine CO.cons rfl ?_ | refine CO.nil ?_ | refine CV.seq ?_ | refine CV.region callees ?_ | refine CV.cond ?_ | refine CV.skip ?_ | refine ⟨_,fS foC1 (by decide),?_⟩ | refine ⟨_,agg_load ag41 sz41 hg1 (Nat.le_of_ble_eq_true rfl),?_⟩ | (refine ⟨fun _=>?_,fun _=>?_⟩<;>try (exfalso; omega)) | fail
  refine (checkSpan_spec (p:=(c.bl,c.bh)) (by omega)).mono ?_
  obtain ⟨y,hy⟩:∃ y,spE (c.bl,c.bh) 1 300 = y:=⟨_,rfl⟩
  rw [hy] at hco ⊢
  rintro r H2 ⟨rfl,k2⟩
  have l2:=k2.1
  have hg2:=(k2.2 b0 (by omega)).trans hg1
  by_cases h2:y = 0
  rotate_left
  · rw [if_neg h2] at hco
    repeat' first | refine CO.cons rfl ?_ | refine CO.nil ?_ | refine CV.seq ?_ | refine CV.region callees ?_ | refine CV.cond ?_ | refine CV.ret ?_ | (refine ⟨fun _=>?_,fun _=>?_⟩<;>try (exfalso; omega)) | fail
    exact ⟨rfl,by rw [hco],(k0.trans k1).trans k2⟩
  rw [if_pos h2] at hco
  repeat' first | refine CO.cons rfl ?_ | refine CO.nil ?_ | refine CV.seq ?_ | refine CV.region callees ?_ | refine CV.cond ?_ | refine CV.skip ?_ | refine ⟨_,fS foC2 (by decide),?_⟩ | refine ⟨_,agg_load ag41 sz41 hg2 (Nat.le_of_ble_eq_true rfl),?_⟩ | (refine ⟨fun _=>?_,fun _=>?_⟩<;>try (exfalso; omega)) | fail
  refine (checkSpan_spec (p:=(c.hl,c.hh)) (by omega)).mono ?_
  rintro r H3 ⟨rfl,k3⟩
  repeat' first | refine CO.cons rfl ?_ | refine CO.nil ?_ | refine CV.ret ?_ | fail
  exact ⟨rfl,by rw [hco],((k0.trans k1).trans k2).trans k3⟩
set_option maxHeartbeats 4000000 in
set_option maxRecDepth 100000 in
theorem check_spec {B:Nat} {H:Heap} {cv tv:Value} {cs:List Co} {ts:List (Int × Int)} (hB:B<=H.n) (hc:RowS 7 H cv (cs.map Col)) (ht:RowS 2 H tv (ts.map Hl)) (hcn:cs.length<=100) (htn:ts.length<=100) :
    CallB Try.prog B 27 [Fv cv tv] H (fun r H'=>r = VJ (fiE cs ts)∧Keep H H'):=by
  have hfe:fiE cs ts = if cs.length<=12 then (if firE coE cs = 0 then (if ts.length<=40 then firE (toE cs.length) ts else 8) else firE coE cs) else 8:=rfl
  refine CV.enter callees false rfl Try.func27 rfl (by kernel_rfl) (Nat.le_of_ble_eq_true rfl) hB ?_
  repeat' first | refine CO.cons rfl ?_ | refine CV.seq ?_ | refine CV.region callees ?_ | fail
  refine ⟨(by simp only [notTuple]),?_⟩
  rw [allocFv hc.cells.1 ht.cells.1]
  generalize hs0:Heap.new H _ = H0
  have hg0:=new_get hs0
  have k0:=new_keep hs0
  have n0:=new_n hs0
  obtain ⟨b0,hbn0⟩:∃ b,Heap.n H = b:=⟨_,rfl⟩
  rw [hbn0] at hg0 n0 ⊢
  have hc0:=hc.keep k0
  by_cases h12:cs.length<=12
  rotate_left
  · rw [if_neg h12] at hfe
    repeat' first | refine CO.cons rfl ?_ | refine CO.nil ?_ | refine CV.seq ?_ | refine CV.region callees ?_ | refine CV.cond ?_ | refine CV.ret ?_ | refine ⟨_,fS foF0 (by decide),?_⟩ | refine ⟨_,cell_load ag25 hg0 rfl,?_⟩ | refine ⟨_,cs_len hc0,?_⟩ | (refine ⟨fun _=>?_,fun _=>?_⟩<;>try (exfalso; omega)) | fail
    exact ⟨rfl,by rw [hfe],k0⟩
  rw [if_pos h12] at hfe
  repeat' first | refine CO.cons rfl ?_ | refine CO.nil ?_ | refine CV.seq ?_ | refine CV.region callees ?_ | refine CV.cond ?_ | refine CV.block ?_ | refine CV.skip ?_ | refine ⟨_,fS foF0 (by decide),?_⟩ | refine ⟨_,cell_load ag25 hg0 rfl,?_⟩ | refine ⟨_,cs_len hc0,?_⟩ | (refine ⟨fun _=>?_,fun _=>?_⟩<;>try (exfalso; omega)) | fail
  refine CV.loopc ?_
  refine WCv.rounds callees false (α:=Nat) (fun i=>[(1,.pointer (some ⟨b0,0,none⟩)),(13,cv),(14,VJ cs.length),(15,VJ i)]) (fun i Hz=>i<=cs.length∧firE coE cs = firE coE (cs.drop i)∧Hz.get b0 = some (.cells (Fl cv tv) 25 1)∧Keep H Hz∧b0 < Hz.n) (fun i=>cs.length - i) (0) (by repeat' first | exact trivial | refine ⟨rfl,?_⟩ | refine ⟨slot_int (by (try simp only [Int.toNat_natCast]); omega),?_⟩) ?_ ?_
  · exact ⟨by omega,rfl,hg0,k0,by omega⟩
  rintro i Hx ⟨hi,hfi,hgx,kx,lx⟩ hBx
  by_cases hi2:i < cs.length
  · have hcx:=hc.keep kx
    repeat' first | refine CO.cons rfl ?_ | refine CO.nil ?_ | refine CV.seq ?_ | refine CV.region callees ?_ | refine CV.cond ?_ | refine CV.block ?_ | refine CV.skip ?_ | refine ⟨_,cs_addr hcx (by omega) (by omega),?_⟩ | refine ⟨_,cs_load hcx hi2,?_⟩ | refine ⟨_,_,al48,?_⟩ | (refine ⟨fun _=>?_,fun _=>?_⟩<;>try (exfalso; omega)) | fail
    generalize hs2:Heap.new Hx _ = H2
    have hg2:=new_get hs2
    have k2:=new_keep hs2
    have n2:=new_n hs2
    obtain ⟨b2,hbn2⟩:∃ b,Heap.n Hx = b:=⟨_,rfl⟩
    rw [hbn2] at hg2 n2 ⊢
    repeat' first | fail
    refine ⟨_,_,st48 hg2,by omega,?_⟩
    generalize hs3:Heap.set H2 b2 _ = H3
    have hg3:H3.get b2 = some (.cells (Col cs[i]!) 32 1):=set_get hs3
    have n3:=set_n hs3
    have o3:=set_old hs3
    have k3:Keep Hx H3:=keep_put k2 (by omega) o3 n3
    repeat' first | refine CO.cons rfl ?_ | refine CO.nil ?_ | refine CV.seq ?_ | refine CV.region callees ?_ | refine ⟨_,ld48 hg3,?_⟩ | fail
    refine (checkCoal_spec (by omega)).mono ?_
    obtain ⟨x,hx⟩:∃ x,coE cs[i]! = x:=⟨_,rfl⟩
    rw [hx]
    rintro r H4 ⟨rfl,k4⟩
    have l4:=k4.1
    have k34:=k3.trans k4
    by_cases h1:x = 0
    rotate_left
    · rw [firE_at hi2 (by rw [hx]; exact h1),hx] at hfi
      rw [hfi,if_neg h1] at hfe
      repeat' first | refine CO.cons rfl ?_ | refine CO.nil ?_ | refine CV.seq ?_ | refine CV.region callees ?_ | refine CV.cond ?_ | refine CV.ret ?_ | (refine ⟨fun _=>?_,fun _=>?_⟩<;>try (exfalso; omega)) | fail
      exact ⟨rfl,by rw [hfe],kx.trans k34⟩
    repeat' first | refine CO.cons rfl ?_ | refine CO.nil ?_ | refine CV.seq ?_ | refine CV.region callees ?_ | refine CV.cond ?_ | refine CV.skip ?_ | refine ⟨(⟨by omega,by omega⟩:inI64 _),?_⟩ | (refine ⟨fun _=>?_,fun _=>?_⟩<;>try (exfalso; omega)) | fail
    refine ⟨(i + 1),(by repeat' first | exact trivial | refine ⟨rfl,?_⟩ | refine ⟨slot_int (by (try simp only [Int.toNat_natCast]); omega),?_⟩),(by (try dsimp only); omega),?_⟩
    exact ⟨by omega,hfi.trans (firE_go hi2 (by rw [hx]; exact h1)),(k34.2 b0 (by omega)).trans hgx,kx.trans k34,by omega⟩
  have hie:i = cs.length:=by omega
  rw [hie,firE_end] at hfi
  rw [if_pos hfi] at hfe
  have htx:=ht.keep kx
  by_cases h40:ts.length<=40
  rotate_left
  · rw [if_neg h40] at hfe
    repeat' first | refine CO.cons rfl ?_ | refine CO.nil ?_ | refine CV.seq ?_ | refine CV.region callees ?_ | refine CV.cond ?_ | refine CV.exit ?_ | refine CV.ret ?_ | refine ⟨_,fS foF1 (by decide),?_⟩ | refine ⟨_,cell_load ag26 hgx rfl,?_⟩ | refine ⟨_,ts_len htx,?_⟩ | (refine ⟨fun _=>?_,fun _=>?_⟩<;>try (exfalso; omega)) | fail
    exact ⟨rfl,by rw [hfe],kx⟩
  rw [if_pos h40] at hfe
  repeat' first | refine CO.cons rfl ?_ | refine CO.nil ?_ | refine CV.seq ?_ | refine CV.region callees ?_ | refine CV.cond ?_ | refine CV.block ?_ | refine CV.skip ?_ | refine CV.exit ?_ | refine ⟨_,fS foF1 (by decide),?_⟩ | refine ⟨_,cell_load ag26 hgx rfl,?_⟩ | refine ⟨_,ts_len htx,?_⟩ | (refine ⟨fun _=>?_,fun _=>?_⟩<;>try (exfalso; omega)) | fail
  refine CV.loopc ?_
  refine WCv.rounds callees false (α:=Nat) (fun i=>[(1,.pointer (some ⟨b0,0,none⟩)),(30,tv),(31,VJ ts.length),(32,VJ i)]) (fun i Hz=>i<=ts.length∧firE (toE cs.length) ts = firE (toE cs.length) (ts.drop i)∧Hz.get b0 = some (.cells (Fl cv tv) 25 1)∧Keep H Hz∧b0 < Hz.n) (fun i=>ts.length - i) (0) (by repeat' first | exact trivial | refine ⟨rfl,?_⟩ | refine ⟨slot_int (by (try simp only [Int.toNat_natCast]); omega),?_⟩) ?_ ?_
  · exact ⟨by omega,rfl,hgx,kx,lx⟩
  clear hgx kx htx hfi
  rintro i Hx ⟨hi,hfi,hgx,kx,lx⟩ hBx
  by_cases hi2:i < ts.length
  · have htx:=ht.keep kx
    repeat' first | refine CO.cons rfl ?_ | refine CO.nil ?_ | refine CV.seq ?_ | refine CV.region callees ?_ | refine CV.cond ?_ | refine CV.block ?_ | refine CV.skip ?_ | refine ⟨_,ts_addr htx (by omega) (by omega),?_⟩ | refine ⟨_,ts_load htx hi2,?_⟩ | refine ⟨_,_,al82,?_⟩ | (refine ⟨fun _=>?_,fun _=>?_⟩<;>try (exfalso; omega)) | fail
    generalize hs2:Heap.new Hx _ = H2
    have hg2:=new_get hs2
    have k2:=new_keep hs2
    have n2:=new_n hs2
    obtain ⟨b2,hbn2⟩:∃ b,Heap.n Hx = b:=⟨_,rfl⟩
    rw [hbn2] at hg2 n2 ⊢
    repeat' first | fail
    refine ⟨_,_,st82 hg2,by omega,?_⟩
    generalize hs3:Heap.set H2 b2 _ = H3
    have hg3:H3.get b2 = some (.cells (Hl ts[i]!) 99 1):=set_get hs3
    have n3:=set_n hs3
    have o3:=set_old hs3
    have k3:Keep Hx H3:=keep_put k2 (by omega) o3 n3
    have hgr3:=(k3.2 b0 (by omega)).trans hgx
    have hc3:=hc.keep (kx.trans k3)
    obtain ⟨t0,ht0⟩:∃ t0,ts[i]! = t0:=⟨_,rfl⟩
    have hte:toE cs.length ts[i]! = if (0<=t0.1∧t0.1<=(cs.length:Int) - 1)∧(0<=t0.2∧t0.2<=(cs.length:Int) - 1) then (if t0.1 = t0.2 then 12 else 0) else 7:=by rw [ht0]; rfl
    rw [ht0] at hg3
    repeat' first | refine CO.cons rfl ?_ | refine CO.nil ?_ | refine CV.seq ?_ | refine CV.region callees ?_ | refine ⟨(⟨by omega,by omega⟩:inI64 _),?_⟩ | refine ⟨_,fS foT0 (by decide),?_⟩ | refine ⟨_,cell_load ag3 hg3 rfl,?_⟩ | refine ⟨_,cell_load ag25 hgr3 rfl,?_⟩ | refine ⟨_,cs_len hc3,?_⟩ | fail
    by_cases h1:0<=t0.1∧t0.1<=(cs.length:Int) - 1
    rotate_left
    · rw [if_neg (fun h=>h1 h.1)] at hte
      refine (isWithin_no (by omega) h1).mono ?_
      rintro r H4 ⟨rfl,rfl⟩
      repeat' first | refine CO.cons rfl ?_ | refine CO.nil ?_ | refine CV.seq ?_ | refine CV.region callees ?_ | refine CV.cond ?_ | refine CV.ret ?_ | refine CO.consG rfl ?_ | fail
      rw [firE_at hi2 (by rw [hte]; decide),hte] at hfi
      exact ⟨rfl,by rw [hfe,hfi],kx.trans k3⟩
    refine (isWithin_yes (by omega) h1).mono ?_
    rintro r H4 ⟨rfl,rfl⟩
    repeat' first | refine CO.cons rfl ?_ | refine CO.consG rfl ?_ | refine ⟨(⟨by omega,by omega⟩:inI64 _),?_⟩ | refine ⟨_,fS foT0 (by decide),?_⟩ | refine ⟨_,fS foT1 (by decide),?_⟩ | refine ⟨_,cell_load ag3 hg3 rfl,?_⟩ | refine ⟨_,cell_load ag25 hgr3 rfl,?_⟩ | refine ⟨_,cs_len hc3,?_⟩ | fail
    by_cases h2:0<=t0.2∧t0.2<=(cs.length:Int) - 1
    rotate_left
    · rw [if_neg (fun h=>h2 h.2)] at hte
      refine (isWithin_no (by omega) h2).mono ?_
      rintro r H5 ⟨rfl,rfl⟩
      repeat' first | refine CO.cons rfl ?_ | refine CO.nil ?_ | refine CV.seq ?_ | refine CV.region callees ?_ | refine CV.cond ?_ | refine CV.ret ?_ | refine CO.consG rfl ?_ | fail
      rw [firE_at hi2 (by rw [hte]; decide),hte] at hfi
      exact ⟨rfl,by rw [hfe,hfi],kx.trans k3⟩
    refine (isWithin_yes (by omega) h2).mono ?_
    rintro r H5 ⟨rfl,rfl⟩
    rw [if_pos ⟨h1,h2⟩] at hte
    by_cases h3:t0.1 = t0.2
    · rw [if_pos h3] at hte
      repeat' first | refine CO.cons rfl ?_ | refine CO.nil ?_ | refine CV.seq ?_ | refine CV.region callees ?_ | refine CV.cond ?_ | refine CV.skip ?_ | refine CV.ret ?_ | refine CO.consG rfl ?_ | refine ⟨_,fS foT0 (by decide),?_⟩ | refine ⟨_,fS foT1 (by decide),?_⟩ | refine ⟨_,cell_load ag3 hg3 rfl,?_⟩ | (refine ⟨fun _=>?_,fun _=>?_⟩<;>try (exfalso; omega)) | fail
      rw [firE_at hi2 (by rw [hte]; decide),hte] at hfi
      exact ⟨rfl,by rw [hfe,hfi],kx.trans k3⟩
    rw [if_neg h3] at hte
    repeat' first | refine CO.cons rfl ?_ | refine CO.nil ?_ | refine CV.seq ?_ | refine CV.region callees ?_ | refine CV.cond ?_ | refine CV.skip ?_ | refine CO.consG rfl ?_ | refine ⟨(⟨by omega,by omega⟩:inI64 _),?_⟩ | refine ⟨_,fS foT0 (by decide),?_⟩ | refine ⟨_,fS foT1 (by decide),?_⟩ | refine ⟨_,cell_load ag3 hg3 rfl,?_⟩ | (refine ⟨fun _=>?_,fun _=>?_⟩<;>try (exfalso; omega)) | fail
    refine ⟨(i + 1),(by repeat' first | exact trivial | refine ⟨rfl,?_⟩ | refine ⟨slot_int (by (try simp only [Int.toNat_natCast]); omega),?_⟩),(by (try dsimp only); omega),?_⟩
    exact ⟨by omega,hfi.trans (firE_go hi2 hte),hgr3,kx.trans k3,by omega⟩
  have hie:i = ts.length:=by omega
  rw [hie,firE_end] at hfi
  repeat' first | refine CO.cons rfl ?_ | refine CO.nil ?_ | refine CV.seq ?_ | refine CV.region callees ?_ | refine CV.cond ?_ | refine CV.exit ?_ | refine CV.ret ?_ | (refine ⟨fun _=>?_,fun _=>?_⟩<;>try (exfalso; omega)) | fail
  exact ⟨rfl,by rw [hfe,hfi],kx⟩
set_option maxHeartbeats 4000000 in
set_option maxRecDepth 100000 in
theorem checkKettle_spec {B:Nat} {H:Heap} {k:Ke} (hB:B<=H.n) :
    CallB Try.prog B 29 [Kev k] H (fun r H'=>r = VJ (keE k)∧Keep H H'):=by
  have hke:keE k = if 1<=k.wa∧k.wa<=50 then (if spE (k.wl,k.wh) 0 1000 = 0 then (if (((0<=k.ro∧k.ro<=1000)∧(0<=k.si∧k.si<=1000))∧(0<=k.bo∧k.bo<=1000))∧(0<=k.ga∧k.ga<=1000)∧(0<=k.lo∧k.lo<=1000000) then (if k.si<=k.bo then 0 else 11) else 2) else spE (k.wl,k.wh) 0 1000) else 2:=rfl
  refine CV.enter callees false rfl Try.func29 rfl (by kernel_rfl) (Nat.le_of_ble_eq_true rfl) hB ?_
  repeat' first | refine CO.cons rfl ?_ | refine CV.seq ?_ | refine CV.region callees ?_ | fail
  refine ⟨(by simp only [notTuple]),?_⟩
  rw [boxKe]
  generalize hs0:Heap.new H _ = H0
  have hg0:=new_get hs0
  have k0:=new_keep hs0
  have n0:=new_n hs0
  obtain ⟨b0,hbn0⟩:∃ b,Heap.n H = b:=⟨_,rfl⟩
  rw [hbn0] at hg0 n0 ⊢
  repeat' first | refine CO.cons rfl ?_ | refine CO.nil ?_ | refine CV.seq ?_ | refine CV.region callees ?_ | refine ⟨_,fS foK0 (by decide),?_⟩ | refine ⟨_,cell_load ag3 hg0 rfl,?_⟩ | fail
  by_cases h1:1<=k.wa∧k.wa<=50
  rotate_left
  · rw [if_neg h1] at hke
    refine (isWithin_no (by omega) h1).mono ?_
    rintro r H1 ⟨rfl,rfl⟩
    repeat' first | refine CO.cons rfl ?_ | refine CO.nil ?_ | refine CV.seq ?_ | refine CV.region callees ?_ | refine CV.cond ?_ | refine CV.ret ?_ | fail
    exact ⟨rfl,by rw [hke],k0⟩
  rw [if_pos h1] at hke
  refine (isWithin_yes (by omega) h1).mono ?_
  rintro r H1 ⟨rfl,rfl⟩
  repeat' first | refine CO.cons rfl ?_ | refine CO.nil ?_ | refine CV.seq ?_ | refine CV.region callees ?_ | refine CV.cond ?_ | refine CV.skip ?_ | refine ⟨_,fS foK1 (by decide),?_⟩ | refine ⟨_,agg_load ag41 sz41 hg0 (Nat.le_of_ble_eq_true rfl),?_⟩ | fail
  refine (checkSpan_spec (p:=(k.wl,k.wh)) (by omega)).mono ?_
  obtain ⟨x,hx⟩:∃ x,spE (k.wl,k.wh) 0 1000 = x:=⟨_,rfl⟩
  rw [hx] at hke ⊢
  rintro r H1 ⟨rfl,k1⟩
  have l1:=k1.1
  have hg1:=(k1.2 b0 (by omega)).trans hg0
  have k01:=k0.trans k1
  by_cases h2:x = 0
  rotate_left
  · rw [if_neg h2] at hke
    repeat' first | refine CO.cons rfl ?_ | refine CO.nil ?_ | refine CV.seq ?_ | refine CV.region callees ?_ | refine CV.cond ?_ | refine CV.ret ?_ | (refine ⟨fun _=>?_,fun _=>?_⟩<;>try (exfalso; omega)) | fail
    exact ⟨rfl,by rw [hke],k01⟩
  rw [if_pos h2] at hke
  repeat' first | refine CO.cons rfl ?_ | refine CO.nil ?_ | refine CV.seq ?_ | refine CV.region callees ?_ | refine CV.cond ?_ | refine CV.block ?_ | refine CV.skip ?_ | refine ⟨_,fS foK2 (by decide),?_⟩ | refine ⟨_,fS foK5 (by decide),?_⟩ | refine ⟨_,fS foK6 (by decide),?_⟩ | refine ⟨_,cell_load ag3 hg1 rfl,?_⟩ | refine ⟨_,bu128,?_⟩ | (refine ⟨fun _=>?_,fun _=>?_⟩<;>try (exfalso; omega)) | fail
  refine CV.loopc ?_
  refine WCv.rounds callees false (α:=Nat) (fun i=>[(1,.pointer (some ⟨b0,0,none⟩)),(22,.agg #[VJ k.ro,VJ k.si,VJ k.bo]),(23,VJ i)]) (fun i Hz=>(i<=3∧∀ j,j < i->0<=thr k.ro k.si k.bo j∧thr k.ro k.si k.bo j<=1000)∧Hz = H1) (fun i=>3 - i) (0) (by repeat' first | exact trivial | refine ⟨rfl,?_⟩ | refine ⟨slot_int (by (try simp only [Int.toNat_natCast]); omega),?_⟩) ?_ ?_
  · exact ⟨⟨by omega,fun j hj=>by omega⟩,rfl⟩
  rintro i Hx ⟨⟨hi,hth⟩,rfl⟩ hBx
  by_cases hi2:i < 3
  · repeat' first | refine CO.cons rfl ?_ | refine CO.nil ?_ | refine CV.seq ?_ | refine CV.region callees ?_ | refine CV.cond ?_ | refine CV.block ?_ | refine CV.skip ?_ | refine ⟨_,ix128 hi2,?_⟩ | (refine ⟨fun _=>?_,fun _=>?_⟩<;>try (exfalso; omega)) | fail
    by_cases h3:0<=thr k.ro k.si k.bo i∧thr k.ro k.si k.bo i<=1000
    rotate_left
    · have hno:¬ ((((0<=k.ro∧k.ro<=1000)∧(0<=k.si∧k.si<=1000))∧(0<=k.bo∧k.bo<=1000))∧(0<=k.ga∧k.ga<=1000)∧(0<=k.lo∧k.lo<=1000000)):=fun h=>h3 (by
        match i,hi2 with
        | 0,_=>exact h.1.1.1
        | 1,_=>exact h.1.1.2
        | 2,_=>exact h.1.2)
      rw [if_neg hno] at hke
      refine (isWithin_no (by omega) h3).mono ?_
      rintro r H2 ⟨rfl,rfl⟩
      repeat' first | refine CO.cons rfl ?_ | refine CO.nil ?_ | refine CV.seq ?_ | refine CV.region callees ?_ | refine CV.cond ?_ | refine CV.ret ?_ | fail
      exact ⟨rfl,by rw [hke],k01⟩
    refine (isWithin_yes (by omega) h3).mono ?_
    rintro r H2 ⟨rfl,rfl⟩
    repeat' first | refine CO.cons rfl ?_ | refine CO.nil ?_ | refine CV.region callees ?_ | refine CV.cond ?_ | refine CV.skip ?_ | refine ⟨(⟨by omega,by omega⟩:inI64 _),?_⟩ | fail
    refine ⟨(i + 1),(by repeat' first | exact trivial | refine ⟨rfl,?_⟩ | refine ⟨slot_int (by (try simp only [Int.toNat_natCast]); omega),?_⟩),(by (try dsimp only); omega),?_⟩
    refine ⟨⟨by omega,fun j hj=>?_⟩,rfl⟩
    by_cases hji:j = i
    · rw [hji]; exact h3
    · exact hth j (by omega)
  have h30:=hth 0 (by omega)
  have h31:=hth 1 (by omega)
  have h32:=hth 2 (by omega)
  repeat' first | refine CO.cons rfl ?_ | refine CO.nil ?_ | refine CV.seq ?_ | refine CV.region callees ?_ | refine CV.cond ?_ | refine CV.exit ?_ | refine ⟨_,fS foK3 (by decide),?_⟩ | refine ⟨_,cell_load ag3 hg1 rfl,?_⟩ | (refine ⟨fun _=>?_,fun _=>?_⟩<;>try (exfalso; omega)) | fail
  by_cases h4:0<=k.ga∧k.ga<=1000
  rotate_left
  · rw [if_neg (fun h=>h4 h.2.1)] at hke
    refine (isWithin_no (by omega) h4).mono ?_
    rintro r H2 ⟨rfl,rfl⟩
    repeat' first | refine CO.cons rfl ?_ | refine CO.nil ?_ | refine CV.seq ?_ | refine CV.region callees ?_ | refine CV.cond ?_ | refine CV.ret ?_ | refine CO.consG rfl ?_ | fail
    exact ⟨rfl,by rw [hke],k01⟩
  refine (isWithin_yes (by omega) h4).mono ?_
  rintro r H2 ⟨rfl,rfl⟩
  repeat' first | refine CO.cons rfl ?_ | refine CO.consG rfl ?_ | refine ⟨_,fS foK4 (by decide),?_⟩ | refine ⟨_,cell_load ag3 hg1 rfl,?_⟩ | fail
  by_cases h5:0<=k.lo∧k.lo<=1000000
  rotate_left
  · rw [if_neg (fun h=>h5 h.2.2)] at hke
    refine (isWithin_no (by omega) h5).mono ?_
    rintro r H2 ⟨rfl,rfl⟩
    repeat' first | refine CO.cons rfl ?_ | refine CO.nil ?_ | refine CV.seq ?_ | refine CV.region callees ?_ | refine CV.cond ?_ | refine CV.ret ?_ | refine CO.consG rfl ?_ | fail
    exact ⟨rfl,by rw [hke],k01⟩
  refine (isWithin_yes (by omega) h5).mono ?_
  rintro r H2 ⟨rfl,rfl⟩
  rw [if_pos ⟨⟨⟨h30,h31⟩,h32⟩,h4,h5⟩] at hke
  by_cases h6:k.si<=k.bo
  · rw [if_pos h6] at hke
    repeat' first | refine CO.cons rfl ?_ | refine CO.nil ?_ | refine CV.seq ?_ | refine CV.region callees ?_ | refine CV.cond ?_ | refine CV.skip ?_ | refine CV.ret ?_ | refine CO.consG rfl ?_ | refine ⟨_,fS foK5 (by decide),?_⟩ | refine ⟨_,fS foK6 (by decide),?_⟩ | refine ⟨_,cell_load ag3 hg1 rfl,?_⟩ | (refine ⟨fun _=>?_,fun _=>?_⟩<;>try (exfalso; omega)) | fail
    exact ⟨rfl,by rw [hke],k01⟩
  · rw [if_neg h6] at hke
    repeat' first | refine CO.cons rfl ?_ | refine CO.nil ?_ | refine CV.seq ?_ | refine CV.region callees ?_ | refine CV.cond ?_ | refine CV.skip ?_ | refine CV.ret ?_ | refine CO.consG rfl ?_ | refine ⟨_,fS foK5 (by decide),?_⟩ | refine ⟨_,fS foK6 (by decide),?_⟩ | refine ⟨_,cell_load ag3 hg1 rfl,?_⟩ | (refine ⟨fun _=>?_,fun _=>?_⟩<;>try (exfalso; omega)) | fail
    exact ⟨rfl,by rw [hke],k01⟩
def prevM (ps:List Po) (i:Nat):Int:=if i = 0 then 0 else ps[i - 1]!.mi
set_option maxHeartbeats 8000000 in
set_option maxRecDepth 100000 in
theorem checkPours_spec {B:Nat} {H:Heap} {k:Ke} {pv:Value} {ps:List Po} (hB:B<=H.n) (hp:RowS 3 H pv (ps.map Pol)) (hpn:ps.length<=100) :
    CallB Try.prog B 31 [Kev k,pv] H (fun r H'=>r = VJ (psE k ps)∧Keep H H'):=by
  have hpe:psE k ps = if keE k = 0 then (if ps.length<=20 then poE k.wa 0 ps else 8) else keE k:=rfl
  refine CV.enter callees false rfl Try.func31 rfl (by kernel_rfl) (Nat.le_of_ble_eq_true rfl) hB ?_
  repeat' first | refine CO.cons rfl ?_ | refine CV.seq ?_ | refine CV.region callees ?_ | fail
  refine ⟨(by simp only [notTuple]),?_⟩
  rw [boxKe]
  generalize hs0:Heap.new H _ = H0
  have hg0:=new_get hs0
  have k0:=new_keep hs0
  have n0:=new_n hs0
  obtain ⟨b0,hbn0⟩:∃ b,Heap.n H = b:=⟨_,rfl⟩
  rw [hbn0] at hg0 n0 ⊢
  repeat' first | refine CO.cons rfl ?_ | refine CO.nil ?_ | refine CV.seq ?_ | refine CV.region callees ?_ | refine ⟨_,agg_load (n:=8) (by kernel_rfl) (by kernel_rfl) hg0 (Nat.le_of_ble_eq_true rfl),?_⟩ | fail
  refine (checkKettle_spec (by omega)).mono ?_
  obtain ⟨x,hx⟩:∃ x,keE k = x:=⟨_,rfl⟩
  rw [hx] at hpe ⊢
  rintro r H1 ⟨rfl,k1⟩
  have l1:=k1.1
  have hg1:=(k1.2 b0 (by omega)).trans hg0
  have k01:=k0.trans k1
  have hp1:=hp.keep k01
  by_cases h1:x = 0
  rotate_left
  · rw [if_neg h1] at hpe
    repeat' first | refine CO.cons rfl ?_ | refine CO.nil ?_ | refine CV.seq ?_ | refine CV.region callees ?_ | refine CV.cond ?_ | refine CV.ret ?_ | (refine ⟨fun _=>?_,fun _=>?_⟩<;>try (exfalso; omega)) | fail
    exact ⟨rfl,by rw [hpe],k01⟩
  rw [if_pos h1] at hpe
  have hk:=keE_zero (hx.trans h1)
  by_cases h20:ps.length<=20
  rotate_left
  · rw [if_neg h20] at hpe
    repeat' first | refine CO.cons rfl ?_ | refine CO.nil ?_ | refine CV.seq ?_ | refine CV.region callees ?_ | refine CV.cond ?_ | refine CV.skip ?_ | refine CV.ret ?_ | refine ⟨_,po_len hp1,?_⟩ | (refine ⟨fun _=>?_,fun _=>?_⟩<;>try (exfalso; omega)) | fail
    exact ⟨rfl,by rw [hpe],k01⟩
  rw [if_pos h20] at hpe
  repeat' first | refine CO.cons rfl ?_ | refine CO.nil ?_ | refine CV.seq ?_ | refine CV.region callees ?_ | refine CV.cond ?_ | refine CV.block ?_ | refine CV.skip ?_ | refine ⟨_,po_len hp1,?_⟩ | refine ⟨_,fS foK0 (by decide),?_⟩ | refine ⟨_,cell_load ag3 hg1 rfl,?_⟩ | (refine ⟨fun _=>?_,fun _=>?_⟩<;>try (exfalso; omega)) | fail
  refine CV.loopc ?_
  refine WCv.rounds callees false (α:=Nat × Int) (fun (i,w)=>[(1,pv),(6,VJ w),(19,pv),(20,VJ ps.length),(21,VJ i)]) (fun (i,w) Hz=>i<=ps.length∧poE k.wa 0 ps = poE w (prevM ps i) (ps.drop i)∧(1<=w∧w<=50)∧Keep H Hz) (fun (i,w)=>ps.length - i) (0,k.wa) (by repeat' first | exact trivial | refine ⟨rfl,?_⟩ | refine ⟨slot_int (by (try simp only [Int.toNat_natCast]); omega),?_⟩) ?_ ?_
  · exact ⟨by omega,rfl,⟨hk.wa,hk.wa'⟩,k01⟩
  rintro ⟨i,w⟩ Hx ⟨hi,hpi,⟨hw1,hw2⟩,kx⟩ hBx
  by_cases hi2:i < ps.length
  · have hpx:=hp.keep kx
    rw [drop_atq hi2,poE] at hpi
    repeat' first | refine CO.cons rfl ?_ | refine CO.nil ?_ | refine CV.seq ?_ | refine CV.region callees ?_ | refine CV.cond ?_ | refine CV.block ?_ | refine CV.skip ?_ | refine ⟨_,po_addr hpx (by omega) (by omega),?_⟩ | refine ⟨_,po_load hpx hi2,?_⟩ | refine ⟨_,_,al62,?_⟩ | (refine ⟨fun _=>?_,fun _=>?_⟩<;>try (exfalso; omega)) | fail
    generalize hs2:Heap.new Hx _ = H2
    have hg2:=new_get hs2
    have k2:=new_keep hs2
    have n2:=new_n hs2
    obtain ⟨b2,hbn2⟩:∃ b,Heap.n Hx = b:=⟨_,rfl⟩
    rw [hbn2] at hg2 n2 ⊢
    repeat' first | fail
    refine ⟨_,_,st62 hg2,by omega,?_⟩
    generalize hs3:Heap.set H2 b2 _ = H3
    have hg3:H3.get b2 = some (.cells (Pol ps[i]!) 82 1):=set_get hs3
    have n3:=set_n hs3
    have o3:=set_old hs3
    have k3:Keep Hx H3:=keep_put k2 (by omega) o3 n3
    have hp3:=hpx.keep k3
    have hpv:prevM ps i = if i = 0 then 0 else ps[i - 1]!.mi:=rfl
    have hpw:prevM ps (i + 1) = ps[i]!.mi:=by rw [prevM,if_neg (by omega)]; rfl
    obtain ⟨p,hpp⟩:∃ p,ps[i]! = p:=⟨_,rfl⟩
    rw [hpp] at hg3 hpi hpw
    repeat' first | refine CO.cons rfl ?_ | refine CO.nil ?_ | refine CV.seq ?_ | refine CV.region callees ?_ | refine ⟨_,fS foO0 (by decide),?_⟩ | refine ⟨_,cell_load ag3 hg3 rfl,?_⟩ | fail
    by_cases c1:0<=p.mi∧p.mi<=300
    rotate_left
    · refine (isWithin_no (by omega) c1).mono ?_
      rintro r H4 ⟨rfl,rfl⟩
      repeat' first | refine CO.cons rfl ?_ | refine CO.nil ?_ | refine CV.seq ?_ | refine CV.region callees ?_ | refine CV.cond ?_ | refine CV.ret ?_ | refine CO.consG rfl ?_ | fail
      rw [if_neg (fun h:poB p=>c1 h.1)] at hpi
      exact ⟨rfl,by rw [hpe,hpi],kx.trans k3⟩
    refine (isWithin_yes (by omega) c1).mono ?_
    rintro r H4 ⟨rfl,rfl⟩
    repeat' first | refine CO.cons rfl ?_ | refine CO.consG rfl ?_ | refine ⟨_,fS foO1 (by decide),?_⟩ | refine ⟨_,cell_load ag3 hg3 rfl,?_⟩ | fail
    by_cases c2:-50<=p.la∧p.la<=50
    rotate_left
    · refine (isWithin_no (by omega) c2).mono ?_
      rintro r H4 ⟨rfl,rfl⟩
      repeat' first | refine CO.cons rfl ?_ | refine CO.nil ?_ | refine CV.seq ?_ | refine CV.region callees ?_ | refine CV.cond ?_ | refine CV.ret ?_ | refine CO.consG rfl ?_ | fail
      rw [if_neg (fun h:poB p=>c2 h.2.1)] at hpi
      exact ⟨rfl,by rw [hpe,hpi],kx.trans k3⟩
    refine (isWithin_yes (by omega) c2).mono ?_
    rintro r H4 ⟨rfl,rfl⟩
    by_cases c3:p.la = 0
    · repeat' first | refine CO.cons rfl ?_ | refine CO.nil ?_ | refine CV.seq ?_ | refine CV.region callees ?_ | refine CV.cond ?_ | refine CV.ret ?_ | refine CO.consG rfl ?_ | refine ⟨_,fS foO1 (by decide),?_⟩ | refine ⟨_,cell_load ag3 hg3 rfl,?_⟩ | (refine ⟨fun _=>?_,fun _=>?_⟩<;>try (exfalso; omega)) | fail
      rw [if_neg (fun h:poB p=>h.2.2.1 c3)] at hpi
      exact ⟨rfl,by rw [hpe,hpi],kx.trans k3⟩
    repeat' first | refine CO.cons rfl ?_ | refine CO.consG rfl ?_ | refine ⟨_,fS foO1 (by decide),?_⟩ | refine ⟨_,fS foO2 (by decide),?_⟩ | refine ⟨_,cell_load ag3 hg3 rfl,?_⟩ | (refine ⟨fun _=>?_,fun _=>?_⟩<;>try (exfalso; omega)) | fail
    by_cases c4:0<=p.wm∧p.wm<=1000
    rotate_left
    · refine (isWithin_no (by omega) c4).mono ?_
      rintro r H4 ⟨rfl,rfl⟩
      repeat' first | refine CO.cons rfl ?_ | refine CO.nil ?_ | refine CV.seq ?_ | refine CV.region callees ?_ | refine CV.cond ?_ | refine CV.ret ?_ | refine CO.consG rfl ?_ | fail
      rw [if_neg (fun h:poB p=>c4 h.2.2.2)] at hpi
      exact ⟨rfl,by rw [hpe,hpi],kx.trans k3⟩
    refine (isWithin_yes (by omega) c4).mono ?_
    rintro r H4 ⟨rfl,rfl⟩
    rw [if_pos (show poB p from ⟨c1,c2,c3,c4⟩)] at hpi
    by_cases h0:i = 0
    · rw [hpv,if_pos h0,if_pos c1.1] at hpi
      by_cases c6:1<=w + p.la∧w + p.la<=50
      rotate_left
      · rw [if_neg c6] at hpi
        repeat' first | refine CO.cons rfl ?_ | refine CO.nil ?_ | refine CV.seq ?_ | refine CV.region callees ?_ | refine CV.cond ?_ | refine CV.skip ?_ | refine CV.draw callees (by decide +kernel) ?_ | refine CH.cons rfl ?_ | refine CH.nil ?_ | refine CO.consG rfl ?_ | refine CH.consG rfl ?_ | refine ⟨(⟨by omega,by omega⟩:inI64 _),?_⟩ | refine ⟨_,fS foO1 (by decide),?_⟩ | refine ⟨_,cell_load ag3 hg3 rfl,?_⟩ | (refine ⟨fun _=>?_,fun _=>?_⟩<;>try (exfalso; omega)) | fail
        refine (isWithin_no (by omega) c6).mono ?_
        rintro r H4 ⟨rfl,rfl⟩
        repeat' first | refine CO.cons rfl ?_ | refine CO.nil ?_ | refine CV.seq ?_ | refine CV.region callees ?_ | refine CV.cond ?_ | refine CV.ret ?_ | fail
        exact ⟨rfl,by rw [hpe,hpi],kx.trans k3⟩
      rw [if_pos c6] at hpi
      repeat' first | refine CO.cons rfl ?_ | refine CO.nil ?_ | refine CV.seq ?_ | refine CV.region callees ?_ | refine CV.cond ?_ | refine CV.skip ?_ | refine CV.draw callees (by decide +kernel) ?_ | refine CH.cons rfl ?_ | refine CH.nil ?_ | refine CO.consG rfl ?_ | refine CH.consG rfl ?_ | refine ⟨(⟨by omega,by omega⟩:inI64 _),?_⟩ | refine ⟨_,fS foO1 (by decide),?_⟩ | refine ⟨_,cell_load ag3 hg3 rfl,?_⟩ | (refine ⟨fun _=>?_,fun _=>?_⟩<;>try (exfalso; omega)) | fail
      refine (isWithin_yes (by omega) c6).mono ?_
      rintro r H4 ⟨rfl,rfl⟩
      repeat' first | refine CO.cons rfl ?_ | refine CO.nil ?_ | refine CV.region callees ?_ | refine CV.cond ?_ | refine CV.skip ?_ | refine ⟨(⟨by omega,by omega⟩:inI64 _),?_⟩ | fail
      refine ⟨(i + 1,w + p.la),(by repeat' first | exact trivial | refine ⟨rfl,?_⟩ | refine ⟨slot_int (by (try simp only [Int.toNat_natCast]); omega),?_⟩),(by (try dsimp only); omega),?_⟩
      exact ⟨by omega,by rw [hpi,hpw],c6,kx.trans k3⟩
    · have hix:((i:Int) - 1).toNat = i - 1:=by omega
      rw [hpv,if_neg h0] at hpi
      obtain ⟨u,hu⟩:∃ u,ps[((i:Int) - 1).toNat]!.mi = u:=⟨_,rfl⟩
      have hu2:ps[i - 1]!.mi = u:=by rw [<- hu,hix]
      rw [hu2] at hpi
      by_cases c5:u<=p.mi
      · rw [if_pos c5] at hpi
        by_cases c6:1<=w + p.la∧w + p.la<=50
        rotate_left
        · rw [if_neg c6] at hpi
          repeat' first | refine CO.cons rfl ?_ | refine CO.nil ?_ | refine CV.seq ?_ | refine CV.region callees ?_ | refine CV.cond ?_ | refine CV.skip ?_ | refine CV.draw callees (by decide +kernel) ?_ | refine CH.cons rfl ?_ | refine CH.nil ?_ | refine CO.consG rfl ?_ | refine CH.consG rfl ?_ | refine ⟨(⟨by omega,by omega⟩:inI64 _),?_⟩ | refine ⟨_,fS foO0 (by decide),?_⟩ | refine ⟨_,fS foO1 (by decide),?_⟩ | refine ⟨_,cell_load ag3 hg3 rfl,?_⟩ | refine ⟨_,po_addr hp3 (by omega) (by omega),?_⟩ | refine ⟨_,po_f hp3 foO0 (by decide) (by omega),?_⟩ | refine ⟨_,po_min hp3 (by omega),?_⟩ | (refine ⟨fun _=>?_,fun _=>?_⟩<;>try (exfalso; omega)) | fail
          refine (isWithin_no (by omega) c6).mono ?_
          rintro r H4 ⟨rfl,rfl⟩
          repeat' first | refine CO.cons rfl ?_ | refine CO.nil ?_ | refine CV.seq ?_ | refine CV.region callees ?_ | refine CV.cond ?_ | refine CV.ret ?_ | fail
          exact ⟨rfl,by rw [hpe,hpi],kx.trans k3⟩
        rw [if_pos c6] at hpi
        repeat' first | refine CO.cons rfl ?_ | refine CO.nil ?_ | refine CV.seq ?_ | refine CV.region callees ?_ | refine CV.cond ?_ | refine CV.skip ?_ | refine CV.draw callees (by decide +kernel) ?_ | refine CH.cons rfl ?_ | refine CH.nil ?_ | refine CO.consG rfl ?_ | refine CH.consG rfl ?_ | refine ⟨(⟨by omega,by omega⟩:inI64 _),?_⟩ | refine ⟨_,fS foO0 (by decide),?_⟩ | refine ⟨_,fS foO1 (by decide),?_⟩ | refine ⟨_,cell_load ag3 hg3 rfl,?_⟩ | refine ⟨_,po_addr hp3 (by omega) (by omega),?_⟩ | refine ⟨_,po_f hp3 foO0 (by decide) (by omega),?_⟩ | refine ⟨_,po_min hp3 (by omega),?_⟩ | (refine ⟨fun _=>?_,fun _=>?_⟩<;>try (exfalso; omega)) | fail
        refine (isWithin_yes (by omega) c6).mono ?_
        rintro r H4 ⟨rfl,rfl⟩
        repeat' first | refine CO.cons rfl ?_ | refine CO.nil ?_ | refine CV.region callees ?_ | refine CV.cond ?_ | refine CV.skip ?_ | refine ⟨(⟨by omega,by omega⟩:inI64 _),?_⟩ | fail
        refine ⟨(i + 1,w + p.la),(by repeat' first | exact trivial | refine ⟨rfl,?_⟩ | refine ⟨slot_int (by (try simp only [Int.toNat_natCast]); omega),?_⟩),(by (try dsimp only); omega),?_⟩
        exact ⟨by omega,by rw [hpi,hpw],c6,kx.trans k3⟩
      rw [if_neg c5] at hpi
      repeat' first | refine CO.cons rfl ?_ | refine CO.nil ?_ | refine CV.seq ?_ | refine CV.region callees ?_ | refine CV.cond ?_ | refine CV.skip ?_ | refine CV.ret ?_ | refine CV.draw callees (by decide +kernel) ?_ | refine CH.cons rfl ?_ | refine CH.nil ?_ | refine CO.consG rfl ?_ | refine CH.consG rfl ?_ | refine ⟨(⟨by omega,by omega⟩:inI64 _),?_⟩ | refine ⟨_,fS foO0 (by decide),?_⟩ | refine ⟨_,cell_load ag3 hg3 rfl,?_⟩ | refine ⟨_,po_addr hp3 (by omega) (by omega),?_⟩ | refine ⟨_,po_f hp3 foO0 (by decide) (by omega),?_⟩ | refine ⟨_,po_min hp3 (by omega),?_⟩ | (refine ⟨fun _=>?_,fun _=>?_⟩<;>try (exfalso; omega)) | fail
      exact ⟨rfl,by rw [hpe,hpi],kx.trans k3⟩
  have hie:i = ps.length:=by omega
  rw [hie,List.drop_length] at hpi
  repeat' first | refine CO.cons rfl ?_ | refine CO.nil ?_ | refine CV.seq ?_ | refine CV.region callees ?_ | refine CV.cond ?_ | refine CV.exit ?_ | refine CV.ret ?_ | (refine ⟨fun _=>?_,fun _=>?_⟩<;>try (exfalso; omega)) | fail
  exact ⟨rfl,by rw [hpe,hpi]; rfl,kx⟩
end Go.Proofs.Ytglkphjjinmgmaa
