/- Whether the kettle surely sings,for whatever pours. -/
import Derived.Test.YtglkphjjinmgmaaM7h
import Derived.Test.Ytglkphjjinmgmaar1h
set_option linter.unusedVariables false
set_option linter.unusedSimpArgs false
namespace Go.Proofs.Ytglkphjjinmgmaa
open Go.AI
set_option maxHeartbeats 8000000 in
set_option maxRecDepth 100000 in
theorem surelyN_spec {B:Nat} {H:Heap} {k:Ke} {ev pv:Value} {E:List Em} {ps:List Po} {fr to:Nat} (hB:B<=H.n) (hk:KOk k) (he:RowS 6 H ev (E.map Eml)) (hEl:E.length<=12) (hEo:∀ i,i < E.length->EmOk E[i]!) (hp:RowS 3 H pv (ps.map Pol)) (ho:POk k.wa ps) (hm1:to<=300) :
    CallB Try.prog B 88 [Bov k ev pv,VJ fr,VJ to] H (fun r H'=>r = .bool (surB k E ps fr to)∧Keep H H'):=by
  refine CV.enter callees false rfl Try.func88 rfl (by kernel_rfl) (Nat.le_of_ble_eq_true rfl) hB ?_
  repeat' first | refine CO.cons rfl ?_ | refine CV.seq ?_ | refine CV.region callees ?_ | fail
  refine ⟨(by simp only [notTuple]),?_⟩
  rw [boxBo he.cells.1 hp.cells.1]
  generalize hs0:Heap.new H _ = H0
  have hg0:=new_get hs0
  have k0:=new_keep hs0
  have n0:=new_n hs0
  obtain ⟨b0,hbn0⟩:∃ b,Heap.n H = b:=⟨_,rfl⟩
  rw [hbn0] at hg0 n0 ⊢
  repeat' first | refine CO.cons rfl ?_ | refine ⟨(rfl:notTuple (Value.int _ _) = true),?_⟩ | fail
  generalize hs1:anew H0 _ _ _ = H1
  have hs1':H0.new (.cells [VJ fr] 3 1) = H1:=hs1
  have hg1:=new_get hs1'
  have k1:=new_keep hs1'
  have n1:=new_n hs1'
  obtain ⟨b1,hbn1⟩:∃ b,Heap.n H0 = b:=⟨_,rfl⟩
  rw [hbn1] at hg1 n1 ⊢
  repeat' first | refine CO.cons rfl ?_ | refine CO.nil ?_ | refine CV.seq ?_ | refine CV.region callees ?_ | refine ⟨_,_,alloc_of zc4k,?_⟩ | fail
  generalize hs2:Heap.new H1 _ = H2
  have hg2:=new_get hs2
  have k2:=new_keep hs2
  have n2:=new_n hs2
  obtain ⟨b2,hbn2⟩:∃ b,Heap.n H1 = b:=⟨_,rfl⟩
  rw [hbn2] at hg2 n2 ⊢
  have k02:=(k0.trans k1).trans k2
  have hg02:=((k1.trans k2).2 b0 (by omega)).trans hg0
  have hg12:=(k2.2 b1 (by omega)).trans hg1
  repeat' first | refine CO.cons rfl ?_ | refine ⟨_,ld98 hg02,?_⟩ | fail
  refine (minutes_spec (by omega) he.cells.1 hp.cells.1).mono ?_
  rintro r H7 ⟨⟨bb,rfl,hbb,hbl,hb0,hb1⟩,k7⟩
  have l7:=k7.1
  repeat' first | refine CO.nil ?_ | refine CV.block ?_ | fail
  refine CV.rangeFunc callees ?_
  refine fun tm ha=>?_
  generalize hs8:Heap.new H7 _ = H8
  have hg8:=new_get hs8
  have k8:=new_keep hs8
  have n8:=new_n hs8
  obtain ⟨l,hln⟩:∃ l,H7.n = l:=⟨_,rfl⟩
  rw [hln] at hg8 n8 ⊢
  have k28:=k7.trans k8
  have k08:=k02.trans k28
  have hbb8:=(k8.2 bb (by omega)).trans hbb
  have hbl8:=(k8.2 (bb + 1) (by omega)).trans hbl
  have h80:=(k28.2 b0 (by omega)).trans hg02
  have h81:=(k28.2 b1 (by omega)).trans hg12
  have h82:=(k28.2 b2 (by omega)).trans hg2
  refine (minutes1N_spec (B:=B) (l:=l) (bb:=bb) (last:=to) (k:=k) (ev:=ev) (pv:=pv) (E:=E) (ps:=ps)
    (fun b j Hx=>(l < b∧l < Hx.n)∧Hx.get l = H8.get l∧Hx.get bb = H8.get bb∧Hx.get (bb + 1) = H8.get (bb + 1)∧Keep H Hx∧Hx.get b0 = H8.get b0∧Hx.get b1 = H8.get b1∧Hx.get b2 = H8.get b2∧∀ m,fr<=m->m < j->verN k (warmM k E ps m) = 1)
    (fun X=>X.get b2 = some (.cells [.bool false] 4 1)∧(∃ tm ps x y,X.get l = some (.loop .done (some .ret) tm ps x y))∧Keep H X∧surB k E ps fr to = false) (by omega) (by omega) (by omega) hm1 hk hEl hEo ho ⟨hbb8,hbl8⟩ ?_ ?_ ?_ ?_).mono ?_
  · intro b H' kk hb1' hb2'
    exact ⟨⟨by omega,by have:=kk.1; omega⟩,kk.2 l (by omega),kk.2 bb (by omega),kk.2 (bb + 1) (by omega),k08.trans kk,kk.2 b0 (by omega),kk.2 b1 (by omega),kk.2 b2 (by omega),fun m h1 h2=>by omega⟩
  · rintro b j X Y ⟨⟨q1,q2⟩,q3,q4,q5,q6,q7,q8,q9,q10⟩ hbX kk
    have hY:Keep H Y:=⟨by have:=kk.1; have:=q6.1; omega,fun c hc=>(kk.2 c (by have:=q6.1; omega) (by omega)).trans (q6.2 c hc)⟩
    exact ⟨⟨q1,by have:=kk.1; omega⟩,(kk.2 l q2 (by omega)).trans q3,(kk.2 bb (by omega) (by omega)).trans q4,(kk.2 (bb + 1) (by omega) (by omega)).trans q5,hY,(kk.2 b0 (by omega) (by omega)).trans q7,(kk.2 b1 (by omega) (by omega)).trans q8,(kk.2 b2 (by omega) (by omega)).trans q9,q10⟩
  · rintro b j X ⟨_,_,q4,q5,q6,_⟩
    exact ⟨q4.trans hbb8,q5.trans hbl8,he.keep q6,hp.keep q6⟩
  · rintro b j X hj ⟨⟨q1,q2⟩,q3,q4,q5,q6,q7,q8,q9,q10⟩ lx lb hBx
    refine RoundB.enter callees false (q3.trans hg8) ha rfl hBx (by omega) ?_
    repeat' first | refine CO.cons rfl ?_ | refine CO.nil ?_ | refine CV.seq ?_ | refine CV.region callees ?_ | refine ⟨_,_,al87,?_⟩ | fail
    generalize hsA:Heap.new X _ = XA
    have hgA:=new_get hsA
    have kA:=new_keep hsA
    have nA:=new_n hsA
    obtain ⟨bA,hbA⟩:∃ b,Heap.n X = b:=⟨_,rfl⟩
    rw [hbA] at hgA nA ⊢
    repeat' first | fail
    refine ⟨_,_,st87 hgA,by omega,?_⟩
    generalize hsC:Heap.set XA bA _ = XC'
    have hgC:XC'.get bA = some (.cells (Hl (warmM k E ps j)) 104 1):=set_get hsC
    have nC:=set_n hsC
    have oC:=set_old hsC
    have kC:Keep X XC':=keep_put kA (by omega) oC nC
    repeat' first | refine CO.nil ?_ | fail
    refine ⟨_,_,_,_,_,((kC.2 l (by omega)).trans q3).trans hg8,?_⟩
    generalize hsD:XC'.set l _ = XD
    have hgD:=set_get hsD
    have nD:=set_n hsD
    have oD:=set_old hsD
    have hDA:=(oD bA (by omega)).trans hgC
    have hold:∀ c,c < X.n->c ≠ l->XD.get c = X.get c:=fun c hc hcl=>(oD c hcl).trans (kC.2 c hc)
    have hD0:=(hold b0 (by omega) (by omega)).trans (q7.trans h80)
    have hD1:=(hold b1 (by omega) (by omega)).trans (q8.trans h81)
    have hD2:=(hold b2 (by omega) (by omega)).trans (q9.trans h82)
    obtain ⟨vv,hvv⟩:∃ x,verN k (warmM k E ps j) = x:=⟨_,rfl⟩
    have fin:∀ {X3:Heap} {ob:AObj},H8.get l = some ob->Keep XD X3->(fr<=j->vv = 1)->((l < b∧l < (X3.set l ob).n)∧(X3.set l ob).get l = H8.get l∧(X3.set l ob).get bb = H8.get bb∧(X3.set l ob).get (bb + 1) = H8.get (bb + 1)∧Keep H (X3.set l ob)∧(X3.set l ob).get b0 = H8.get b0∧(X3.set l ob).get b1 = H8.get b1∧(X3.set l ob).get b2 = H8.get b2∧∀ m,fr<=m->m < j + 1->verN k (warmM k E ps m) = 1)∧(X3.set l ob).get b = X.get b∧bA<=(X3.set l ob).n:=by
      intro X3 ob hob k3 hv
      have l3:=k3.1
      have g:∀ c,c < X.n->c ≠ l->(X3.set l ob).get c = X.get c:=fun c u1 u2=>by rw [Heap.get_set_ne _ _ (by omega),k3.2 c (by omega)]; exact hold c u1 u2
      refine ⟨⟨⟨q1,by show l < X3.n; omega⟩,by rw [Heap.get_set_eq]; exact hob.symm,(g bb (by omega) (by omega)).trans q4,(g (bb + 1) (by omega) (by omega)).trans q5,⟨by show H.n<=X3.n; have:=q6.1; omega,fun c hc=>(g c (by have:=q6.1; omega) (by omega)).trans (q6.2 c hc)⟩,(g b0 (by omega) (by omega)).trans q7,(g b1 (by omega) (by omega)).trans q8,(g b2 (by omega) (by omega)).trans q9,fun m u1 u2=>?_⟩,g b lb (by omega),by show bA<=X3.n; omega⟩
      by_cases e:m = j
      · rw [e,hvv]; exact hv (by omega)
      · exact q10 m u1 (by omega)
    by_cases hge:fr<=j
    · repeat' first | refine CO.cons rfl ?_ | refine CV.seq ?_ | refine CV.region callees ?_ | refine CV.block ?_ | refine CO.consG rfl ?_ | refine ⟨_,cell_load ag3 hD1 rfl,?_⟩ | refine ⟨_,ld98 hD0,?_⟩ | refine ⟨_,ld87 hDA,?_⟩ | (refine ⟨fun _=>?_,fun _=>?_⟩<;>try (exfalso; omega)) | fail
      refine (verdict_spec (k:=k) (w:=warmM k E ps j) (by omega) he.cells.1 hp.cells.1).mono ?_
      rintro r XE ⟨rfl,kE⟩
      rw [hvv]
      have lE:=kE.1
      by_cases hv1:vv = 1
      · repeat' first | refine CO.cons rfl ?_ | refine CO.nil ?_ | refine CV.cond ?_ | refine CV.skip ?_ | refine CO.consG rfl ?_ | (refine ⟨fun _=>?_,fun _=>?_⟩<;>try (exfalso; omega)) | fail
        have hf:=fin hg8 kE (fun _=>hv1)
        refine ⟨_,_,_,_,_,_,_,(kE.2 l (by omega)).trans hgD,rfl,⟨.inl ⟨rfl,hf.1⟩,hf.2⟩⟩
      · repeat' first | refine CO.cons rfl ?_ | refine CO.nil ?_ | refine CV.seq ?_ | refine CV.region callees ?_ | refine CV.cond ?_ | refine CO.consG rfl ?_ | (refine ⟨fun _=>?_,fun _=>?_⟩<;>try (exfalso; omega)) | fail
        refine ⟨_,_,var_store sz4k ((kE.2 b2 (by omega)).trans hD2) rfl,by omega,?_⟩
        generalize hsF:Heap.set XE b2 _ = HF
        have hgF:HF.get b2 = some (.cells ([.bool false]) 4 1):=set_get hsF
        have nF:=set_n hsF
        have oF:=set_old hsF
        have hlF:=(oF l (by omega)).trans ((kE.2 l (by omega)).trans hgD)
        repeat' first | refine CO.nil ?_ | refine CV.ret ?_ | fail
        refine ⟨_,_,_,_,_,_,_,hlF,rfl,⟨.inr ⟨rfl,?_,⟨_,_,_,_,Heap.get_set_eq _ _ _⟩,?_,surB_false hge hj (by rw [hvv]; exact hv1)⟩,?_,?_⟩⟩
        · rw [Heap.get_set_ne _ _ (by omega)]; exact hgF
        · exact ⟨by show H.n<=HF.n; have:=q6.1; omega,fun c hc=>by have:=q6.1; rw [Heap.get_set_ne _ _ (by omega),oF c (by omega),kE.2 c (by omega),hold c (by omega) (by omega)]; exact q6.2 c hc⟩
        · rw [Heap.get_set_ne _ _ (by omega),oF b (by omega),kE.2 b (by omega)]; exact hold b lb (by omega)
        · show bA<=HF.n; omega
    · repeat' first | refine CO.cons rfl ?_ | refine CO.nil ?_ | refine CV.seq ?_ | refine CV.region callees ?_ | refine CV.cond ?_ | refine CV.block ?_ | refine CV.skip ?_ | refine CO.consG rfl ?_ | refine ⟨_,cell_load ag3 hD1 rfl,?_⟩ | (refine ⟨fun _=>?_,fun _=>?_⟩<;>try (exfalso; omega)) | fail
      have hf:=fin hg8 (Keep.refl XD) (fun h=>absurd h hge)
      refine ⟨_,_,_,_,_,_,_,hgD,rfl,⟨.inl ⟨rfl,hf.1⟩,hf.2⟩⟩
  rintro _ HZ (⟨b,⟨q1,q2⟩,q3,q4,q5,q6,q7,q8,q9,q10⟩ | ⟨q1,⟨tm',ps',x',y',q3⟩,qK,qs⟩)
  · refine ⟨_,_,_,_,_,_,_,q3.trans hg8,rfl,rfl,?_⟩
    generalize hsZ:HZ.set l _ = HY
    have nZ:=set_n hsZ
    have oZ:=set_old hsZ
    have hZ2:=(oZ b2 (by omega)).trans (q9.trans h82)
    repeat' first | refine CO.cons rfl ?_ | refine CV.seq ?_ | refine CV.region callees ?_ | fail
    refine ⟨_,_,var_store sz4k hZ2 rfl,by omega,?_⟩
    generalize hsV:Heap.set HY b2 _ = HV
    have hgV:HV.get b2 = some (.cells ([.bool true]) 4 1):=set_get hsV
    have nV:=set_n hsV
    have oV:=set_old hsV
    repeat' first | refine CO.nil ?_ | refine CV.ret ?_ | refine ⟨_,cell_load ag4 hgV rfl,?_⟩ | fail
    exact ⟨rfl,by rw [surB_true fun m h1 h2=>q10 m h1 (by omega)],⟨by have:=q6.1; omega,fun c hc=>(oV c (by have:=q6.1; omega)).trans ((oZ c (by omega)).trans (q6.2 c hc))⟩⟩
  · refine ⟨_,_,_,_,_,_,_,q3,rfl,rfl,?_⟩
    generalize hsZ:HZ.set l _ = HY
    have nZ:=set_n hsZ
    have oZ:=set_old hsZ
    have hZ2:=(oZ b2 (by omega)).trans q1
    repeat' first | refine ⟨_,cell_load ag4 hZ2 rfl,?_⟩ | fail
    exact ⟨rfl,by rw [qs],⟨by have:=qK.1; omega,fun c hc=>(oZ c (by omega)).trans (qK.2 c hc)⟩⟩
end Go.Proofs.Ytglkphjjinmgmaa
