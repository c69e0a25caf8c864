/- When the kettle sings first. -/
import Derived.Test.Ytglkphjjinmgmaar4h
import Derived.Test.YtglkphjjinmgmaaM7h
set_option linter.unusedVariables false
set_option linter.unusedSimpArgs false
namespace Go.Proofs.Ytglkphjjinmgmaa
open Go.AI
def whenG:List Int->Int->Int->Int × Int
  | [],_,p=>(-1,p)
  | v :: r,m,p=>if v = 1 then (m,if p = -1∧v ≠ 2 then m else p) else whenG r (m + 1) (if p = -1∧v ≠ 2 then m else p)
def whenR:List Int->Int->Int × Int
  | [],_=>(-1,-1)
  | v :: r,m=>(if v = 1 then m else (whenR r (m + 1)).1,if v ≠ 2 then m else (whenR r (m + 1)).2)
theorem whenG_eq:∀ {l:List Int} {m p:Int},0<=m->whenG l m p = ((whenR l m).1,if p = -1 then (whenR l m).2 else p)
  | [],m,p,_=>by
    simp only [whenG,whenR]
    split
    · rename_i h; rw [h]
    · rfl
  | v :: r,m,p,h=>by
    simp only [whenG,whenR]
    by_cases h1:v = 1
    · rw [if_pos h1,if_pos h1]
      by_cases h2:p = -1
      · rw [if_pos ⟨h2,by omega⟩,if_pos h2,if_pos (by omega)]
      · rw [if_neg (fun h=>h2 h.1),if_neg h2]
    · rw [if_neg h1,if_neg h1,whenG_eq (by omega)]
      by_cases h2:p = -1
      · by_cases h3:v ≠ 2
        · rw [if_pos (show p = -1∧v ≠ 2 from ⟨h2,h3⟩),if_neg (show ¬ m = -1 by omega),if_pos h2,if_pos h3]
        · rw [if_neg (show ¬ (p = -1∧v ≠ 2) from fun h=>h3 h.2),if_pos h2,if_pos h2,if_neg h3]
      · rw [if_neg (show ¬ (p = -1∧v ≠ 2) from fun h=>h2 h.1),if_neg h2,if_neg h2]
theorem whenG_zero {l:List Int}:whenG l 0 (-1) = whenR l 0:=by rw [whenG_eq (by omega),if_pos rfl]
theorem verL_drop {k:Ke} {E:List Em} {ps:List Po} {n j:Nat} (h:j < n):(verL k E ps n).drop j = verN k (warmM k E ps j) :: (verL k E ps n).drop (j + 1):=by
  have h2:j < (verL k E ps n).length:=by rw [verL_len]; exact h
  rw [List.drop_eq_getElem_cons h2]
  have:=verL_at (k:=k) (E:=E) (ps:=ps) h
  rw [getElem!_pos _ j h2] at this
  rw [this]
theorem sz49r:sizeB Try.prog 49 = some 1:=by kernel_rfl
theorem ag49r:isAggB Try.prog 49 = some false:=by kernel_rfl
theorem zc3r:zeroCells Try.prog 3 = some [VJ 0]:=by kernel_rfl
theorem rowS_at {s:Nat} {X Y:Heap} {v:Value} {rs:List (List Value)} (h:RowS s X v rs) (hk:∀ c,blkOf v = some c->c < X.n->Y.get c = X.get c∧c < Y.n):RowS s Y v rs:=by
  refine ⟨h.1,?_⟩
  rcases h.2 with h | h | ⟨b,i,c,cs,e,kd,rfl,h2,h3,h4⟩
  · exact .inl h
  · exact .inr (.inl h)
  · obtain ⟨a1,a2⟩:=hk b rfl h2
    exact .inr (.inr ⟨b,i,c,cs,e,kd,rfl,a2,a1.trans h3,h4⟩)
set_option maxHeartbeats 8000000 in
set_option maxRecDepth 100000 in
theorem whenE_spec {B:Nat} {H:Heap} {k:Ke} {cv tv pv:Value} {cs:List Co} {ts:List (Int × Int)} {ps:List Po} {m x:Int} (hB:B<=H.n) (hc:RowS 7 H cv (cs.map Col)) (ht:RowS 2 H tv (ts.map Hl)) (hp:RowS 3 H pv (ps.map Pol)) (hcn:cs.length<=100) (htn:ts.length<=100) (hpn:ps.length<=100) (hx:ruE k cs ts ps m = x) (hne:x ≠ 0) :
    CallB Try.prog B 40 [Kev k,Fv cv tv,pv,VJ m] H (fun r H'=>r = .tuple #[VJ 0,VJ 0,VJ x]∧Keep H H'):=by
  refine CV.enter callees false rfl Try.func40 rfl (by kernel_rfl) (Nat.le_of_ble_eq_true rfl) hB ?_
  repeat' first | refine CO.cons rfl ?_ | refine CV.seq ?_ | refine CV.region callees ?_ | fail
  refine ⟨(by simp only [notTuple]),?_⟩
  rw [boxKe]
  generalize hs0:Heap.new H _ = H0
  have hg0:=new_get hs0
  have k0:=new_keep hs0
  have n0:=new_n hs0
  obtain ⟨b0,hbn0⟩:∃ b,Heap.n H = b:=⟨_,rfl⟩
  rw [hbn0] at hg0 n0 ⊢
  repeat' first | refine CO.cons rfl ?_ | fail
  refine ⟨(by simp only [notTuple]),?_⟩
  rw [allocFv hc.cells.1 ht.cells.1]
  generalize hs1:Heap.new H0 _ = H1
  have hg1:=new_get hs1
  have k1:=new_keep hs1
  have n1:=new_n hs1
  obtain ⟨b1,hbn1⟩:∃ b,Heap.n H0 = b:=⟨_,rfl⟩
  rw [hbn1] at hg1 n1 ⊢
  repeat' first | refine CO.cons rfl ?_ | refine CO.nil ?_ | refine CV.seq ?_ | refine CV.region callees ?_ | refine ⟨_,_,alloc_of zc3r,?_⟩ | fail
  generalize hs8:Heap.new H1 _ = H8
  have hg8:=new_get hs8
  have k8:=new_keep hs8
  have n8:=new_n hs8
  obtain ⟨b8,hbn8⟩:∃ b,Heap.n H1 = b:=⟨_,rfl⟩
  rw [hbn8] at hg8 n8 ⊢
  repeat' first | fail
  generalize hs9:Heap.new H8 _ = H9
  have hg9:=new_get hs9
  have k9:=new_keep hs9
  have n9:=new_n hs9
  obtain ⟨b9,hbn9⟩:∃ b,Heap.n H8 = b:=⟨_,rfl⟩
  rw [hbn9] at hg9 n9 ⊢
  repeat' first | fail
  generalize hsa:Heap.new H9 _ = Ha
  have hga:=new_get hsa
  have ka:=new_keep hsa
  have na:=new_n hsa
  obtain ⟨ba,hbna⟩:∃ b,Heap.n H9 = b:=⟨_,rfl⟩
  rw [hbna] at hga na ⊢
  have k0a:=(((k0.trans k1).trans k8).trans k9).trans ka
  have kea:=(ka.2 b0 (by omega)).trans ((k9.2 b0 (by omega)).trans ((k8.2 b0 (by omega)).trans ((k1.2 b0 (by omega)).trans hg0)))
  have fia:=(ka.2 b1 (by omega)).trans ((k9.2 b1 (by omega)).trans ((k8.2 b1 (by omega)).trans hg1))
  have h8a:=(ka.2 b8 (by omega)).trans ((k9.2 b8 (by omega)).trans hg8)
  have h9a:=(ka.2 b9 (by omega)).trans hg9
  repeat' first | refine CO.cons rfl ?_ | refine ⟨_,agg_load (n:=8) (by kernel_rfl) (by kernel_rfl) kea (Nat.le_of_ble_eq_true rfl),?_⟩ | refine ⟨_,agg_load ag28 sz28 fia (Nat.le_refl _),?_⟩ | fail
  refine (boilingForE_spec (k:=k) (by omega) (hc.keep k0a) (ht.keep k0a) (hp.keep k0a) hcn htn hpn hx hne).mono ?_
  rintro r H3 ⟨rfl,k3⟩
  have l3:=k3.1
  repeat' first | refine CO.cons rfl ?_ | refine ⟨_,_,al98,?_⟩ | fail
  generalize hs4:Heap.new H3 _ = H4
  have hg4:=new_get hs4
  have k4:=new_keep hs4
  have n4:=new_n hs4
  obtain ⟨b4,hbn4⟩:∃ b,Heap.n H3 = b:=⟨_,rfl⟩
  rw [hbn4] at hg4 n4 ⊢
  repeat' first | fail
  refine ⟨_,_,st98 rfl rfl hg4,by omega,?_⟩
  generalize hs5:Heap.set H4 b4 _ = H5
  have hg5:H5.get b4 = some (.cells (Bol ⟨0,0,0,0,0,0,0,0⟩ nilS nilS) 116 1):=set_get hs5
  have n5:=set_n hs5
  have o5:=set_old hs5
  have k35:Keep H3 H5:=keep_put k4 (by omega) o5 n5
  have ka5:=k3.trans k35
  have h85:=(ka5.2 b8 (by omega)).trans h8a
  have h95:=(ka5.2 b9 (by omega)).trans h9a
  have ha5:=(ka5.2 ba (by omega)).trans hga
  repeat' first | refine CO.cons rfl ?_ | fail
  refine ⟨_,_,var_store sz49r ha5 rfl,by omega,?_⟩
  generalize hs6:Heap.set H5 ba _ = H6
  have hg6:H6.get ba = some (.cells ([VJ x]) 49 1):=set_get hs6
  have n6:=set_n hs6
  have o6:=set_old hs6
  have h86:=(o6 b8 (by omega)).trans h85
  have h96:=(o6 b9 (by omega)).trans h95
  have k06:Keep H H6:=keep_put (k0a.trans ka5) (by omega) o6 n6
  repeat' first | refine CO.cons rfl ?_ | refine CO.nil ?_ | refine CV.seq ?_ | refine CV.region callees ?_ | refine CV.cond ?_ | refine ⟨_,cell_load ag49r hg6 rfl,?_⟩ | (refine ⟨fun _=>?_,fun _=>?_⟩<;>try (exfalso; omega)) | fail
  refine CV.wideR callees (by decide +kernel) [(0,[]),(1,[0]),(2,[0]),(3,[])] (by kernel_rfl) ?_
  repeat' first | refine CR.cons ?_ | refine ⟨_,cell_load ag49r hg6 rfl,?_⟩ | fail
  refine ⟨(show ba ≠ b8 by omega),?_⟩
  refine ⟨_,cell_load ag49r hg6 rfl,?_⟩
  refine ⟨_,_,var_store sz3 h86 rfl,by omega,?_⟩
  generalize hs7:Heap.set H6 b8 _ = H7
  have hg7:H7.get b8 = some (.cells ([VJ 0]) 3 1):=set_get hs7
  have n7:=set_n hs7
  have o7:=set_old hs7
  have h97:=(o7 b9 (by omega)).trans h96
  have ha7:=(o7 ba (by omega)).trans hg6
  repeat' first | refine CR.cons ?_ | fail
  refine ⟨(show ba ≠ b9 by omega),?_⟩
  refine ⟨_,cell_load ag49r ha7 rfl,?_⟩
  refine ⟨_,_,var_store sz3 h97 rfl,by omega,?_⟩
  generalize hsc:Heap.set H7 b9 _ = Hc
  have hgc:Hc.get b9 = some (.cells ([VJ 0]) 3 1):=set_get hsc
  have nc:=set_n hsc
  have oc:=set_old hsc
  have h8c:=(oc b8 (by omega)).trans hg7
  have hac:=(oc ba (by omega)).trans ha7
  repeat' first | refine CR.cons ?_ | fail
  refine ⟨_,_,var_store sz49r hac rfl,by omega,?_⟩
  generalize hsd:Heap.set Hc ba _ = Hd
  have hgd:Hd.get ba = some (.cells ([VJ x]) 49 1):=set_get hsd
  have nd:=set_n hsd
  have od:=set_old hsd
  have h8d:=(od b8 (by omega)).trans h8c
  have h9d:=(od b9 (by omega)).trans hgc
  repeat' first | refine CV.ret ?_ | refine CR.nil ?_ | refine ⟨_,cell_load ag49r hgd rfl,?_⟩ | refine ⟨_,cell_load ag3 h8d rfl,?_⟩ | refine ⟨_,cell_load ag3 h9d rfl,?_⟩ | fail
  exact ⟨rfl,rfl,keep_put (keep_put (keep_put k06 (by omega) o7 n7) (by omega) oc nc) (by omega) od nd⟩
set_option maxHeartbeats 16000000 in
set_option maxRecDepth 100000 in
theorem whenN_spec {B:Nat} {H:Heap} {k:Ke} {cv tv pv:Value} {cs:List Co} {ts:List (Int × Int)} {ps:List Po} {B0 B1:List Int} {m:Nat} (hB:B<=H.n) (hk:KOk k) (hc:RowS 7 H cv (cs.map Col)) (ht:RowS 2 H tv (ts.map Hl)) (hp:RowS 3 H pv (ps.map Pol)) (ho:POk k.wa ps) (hf:FOk cs ts) (h0:IsBeg 0 cs ts B0) (h1:IsBeg 1 cs ts B1) (hm1:m<=300) :
    CallB Try.prog B 40 [Kev k,Fv cv tv,pv,VJ m] H (fun r H'=>r = .tuple #[VJ (whenG (verL k (emL cs B0 B1) ps (m + 1)) 0 (-1)).1,VJ (whenG (verL k (emL cs B0 B1) ps (m + 1)) 0 (-1)).2,VJ 0]∧Keep H H'):=by
  refine CV.enter callees false rfl Try.func40 rfl (by kernel_rfl) (Nat.le_of_ble_eq_true rfl) hB ?_
  repeat' first | refine CO.cons rfl ?_ | refine CV.seq ?_ | refine CV.region callees ?_ | fail
  refine ⟨(by simp only [notTuple]),?_⟩
  rw [boxKe]
  generalize hs0:Heap.new H _ = H0
  have hg0:=new_get hs0
  have k0:=new_keep hs0
  have n0:=new_n hs0
  obtain ⟨b0,hbn0⟩:∃ b,Heap.n H = b:=⟨_,rfl⟩
  rw [hbn0] at hg0 n0 ⊢
  repeat' first | refine CO.cons rfl ?_ | fail
  refine ⟨(by simp only [notTuple]),?_⟩
  rw [allocFv hc.cells.1 ht.cells.1]
  generalize hs1:Heap.new H0 _ = H1
  have hg1:=new_get hs1
  have k1:=new_keep hs1
  have n1:=new_n hs1
  obtain ⟨b1,hbn1⟩:∃ b,Heap.n H0 = b:=⟨_,rfl⟩
  rw [hbn1] at hg1 n1 ⊢
  repeat' first | refine CO.cons rfl ?_ | refine CO.nil ?_ | refine CV.seq ?_ | refine CV.region callees ?_ | refine ⟨_,_,alloc_of zc3r,?_⟩ | fail
  generalize hs8:Heap.new H1 _ = H8
  have hg8:=new_get hs8
  have k8:=new_keep hs8
  have n8:=new_n hs8
  obtain ⟨b8,hbn8⟩:∃ b,Heap.n H1 = b:=⟨_,rfl⟩
  rw [hbn8] at hg8 n8 ⊢
  repeat' first | fail
  generalize hs9:Heap.new H8 _ = H9
  have hg9:=new_get hs9
  have k9:=new_keep hs9
  have n9:=new_n hs9
  obtain ⟨b9,hbn9⟩:∃ b,Heap.n H8 = b:=⟨_,rfl⟩
  rw [hbn9] at hg9 n9 ⊢
  repeat' first | fail
  generalize hsa:Heap.new H9 _ = Ha
  have hga:=new_get hsa
  have ka:=new_keep hsa
  have na:=new_n hsa
  obtain ⟨ba,hbna⟩:∃ b,Heap.n H9 = b:=⟨_,rfl⟩
  rw [hbna] at hga na ⊢
  have k0a:=(((k0.trans k1).trans k8).trans k9).trans ka
  have kea:=(ka.2 b0 (by omega)).trans ((k9.2 b0 (by omega)).trans ((k8.2 b0 (by omega)).trans ((k1.2 b0 (by omega)).trans hg0)))
  have fia:=(ka.2 b1 (by omega)).trans ((k9.2 b1 (by omega)).trans ((k8.2 b1 (by omega)).trans hg1))
  have h8a:=(ka.2 b8 (by omega)).trans ((k9.2 b8 (by omega)).trans hg8)
  have h9a:=(ka.2 b9 (by omega)).trans hg9
  repeat' first | refine CO.cons rfl ?_ | refine ⟨_,agg_load (n:=8) (by kernel_rfl) (by kernel_rfl) kea (Nat.le_of_ble_eq_true rfl),?_⟩ | refine ⟨_,agg_load ag28 sz28 fia (Nat.le_refl _),?_⟩ | fail
  refine (boilingFor_spec (k:=k) (by omega) hk (hc.keep k0a) (ht.keep k0a) (hp.keep k0a) ho hf h0 h1 (by omega) (by omega)).mono ?_
  rintro r H3 ⟨⟨ev,rfl,he3⟩,k3⟩
  have l3:=k3.1
  have hp3:=(hp.keep k0a).keep k3
  have hEl:(emL cs B0 B1).length<=12:=by rw [emL_len]; exact hf.n
  have hEo:=emL_ok hf h0 h1
  obtain ⟨E,hE⟩:∃ E,emL cs B0 B1 = E:=⟨_,rfl⟩
  rw [hE] at he3 hEl hEo ⊢
  repeat' first | refine CO.cons rfl ?_ | refine ⟨_,_,al98,?_⟩ | fail
  generalize hs4:Heap.new H3 _ = H4
  have hg4:=new_get hs4
  have k4:=new_keep hs4
  have n4:=new_n hs4
  obtain ⟨b4,hbn4⟩:∃ b,Heap.n H3 = b:=⟨_,rfl⟩
  rw [hbn4] at hg4 n4 ⊢
  repeat' first | fail
  refine ⟨_,_,st98 he3.oneC hp3.cells.2.1 hg4,by omega,?_⟩
  generalize hs5:Heap.set H4 b4 _ = H5
  have hg5:H5.get b4 = some (.cells (Bol k ev pv) 116 1):=set_get hs5
  have n5:=set_n hs5
  have o5:=set_old hs5
  have k35:Keep H3 H5:=keep_put k4 (by omega) o5 n5
  have ka5:=k3.trans k35
  have h85:=(ka5.2 b8 (by omega)).trans h8a
  have h95:=(ka5.2 b9 (by omega)).trans h9a
  have ha5:=(ka5.2 ba (by omega)).trans hga
  repeat' first | refine CO.cons rfl ?_ | fail
  refine ⟨_,_,var_store sz49r ha5 rfl,by omega,?_⟩
  generalize hs6:Heap.set H5 ba _ = H6
  have hg6:H6.get ba = some (.cells ([VJ 0]) 49 1):=set_get hs6
  have n6:=set_n hs6
  have o6:=set_old hs6
  have h86:=(o6 b8 (by omega)).trans h85
  have h96:=(o6 b9 (by omega)).trans h95
  have h46:=(o6 b4 (by omega)).trans hg5
  have k06:Keep H H6:=keep_put (k0a.trans ka5) (by omega) o6 n6
  repeat' first | refine CO.cons rfl ?_ | refine CO.nil ?_ | refine CV.seq ?_ | refine CV.region callees ?_ | refine CV.cond ?_ | refine CV.skip ?_ | refine ⟨_,cell_load ag49r hg6 rfl,?_⟩ | (refine ⟨fun _=>?_,fun _=>?_⟩<;>try (exfalso; omega)) | fail
  refine ⟨_,_,var_store sz3 h96 rfl,by omega,?_⟩
  generalize hs7:Heap.set H6 b9 _ = H7
  have hg7:H7.get b9 = some (.cells ([VJ (-1)]) 3 1):=set_get hs7
  have n7:=set_n hs7
  have o7:=set_old hs7
  have h87:=(o7 b8 (by omega)).trans h86
  have ha7:=(o7 ba (by omega)).trans hg6
  have h47:=(o7 b4 (by omega)).trans h46
  have k07:Keep H H7:=keep_put k06 (by omega) o7 n7
  repeat' first | refine CO.cons rfl ?_ | refine CO.nil ?_ | refine CV.seq ?_ | refine CV.region callees ?_ | refine ⟨_,ld98 h47,?_⟩ | fail
  refine (minutes_spec (by omega) (OwnS.row he3).cells.1 hp3.cells.1).mono ?_
  rintro r Hm ⟨⟨bb,rfl,hbb,hbl,hb0',hb1'⟩,km⟩
  have lm:=km.1
  repeat' first | refine CO.nil ?_ | refine CV.block ?_ | fail
  refine CV.rangeFunc callees ?_
  refine fun tm htm=>?_
  generalize hsn:Heap.new Hm _ = Hn
  have hgn:=new_get hsn
  have kn:=new_keep hsn
  have nn:=new_n hsn
  obtain ⟨l,hln⟩:∃ l,Hm.n = l:=⟨_,rfl⟩
  rw [hln] at hgn nn ⊢
  have k7n:Keep H7 Hn:=km.trans kn
  have hbbn:=(kn.2 bb (by omega)).trans hbb
  have hbln:=(kn.2 (bb + 1) (by omega)).trans hbl
  have h8n:=(k7n.2 b8 (by omega)).trans h87
  have h9n:=(k7n.2 b9 (by omega)).trans hg7
  have han:=(k7n.2 ba (by omega)).trans ha7
  have h4n:=(k7n.2 b4 (by omega)).trans h47
  have k0n:Keep H Hn:=k07.trans k7n
  have k3n:∀ c,c < H3.n->c ≠ b8->c ≠ b9->c ≠ ba->Hn.get c = H3.get c:=fun c u1 u2 u3 u4=>(k7n.2 c (by omega)).trans ((o7 c u3).trans ((o6 c u4).trans (k35.2 c u1)))
  have heb:∀ c,blkOf ev = some c->Ha.n<=c∧c < H3.n:=fun c hc=>he3.lt hc
  have hen:RowS 6 Hn ev (E.map Eml):=rowS_at (OwnS.row he3) fun c u1 _=>by have:=heb c u1; exact ⟨k3n c (by omega) (by omega) (by omega) (by omega),by omega⟩
  obtain ⟨V,hV⟩:∃ V,verL k E ps (m + 1) = V:=⟨_,rfl⟩
  obtain ⟨W,hW0⟩:∃ W,whenG V 0 (-1) = W:=⟨_,rfl⟩
  rw [hV,hW0]
  have hVl:V.length = m + 1:=by rw [<- hV,verL_len]
  refine (minutes1N_spec (B:=B) (l:=l) (bb:=bb) (last:=m) (k:=k) (ev:=ev) (pv:=pv) (E:=E) (ps:=ps)
    (fun b j X=>(l < b∧l < X.n)∧X.get l = Hn.get l∧(∀ c,c < l->c ≠ b9->X.get c = Hn.get c)∧∃ p:Int,X.get b9 = some (.cells [VJ p] 3 1)∧(-1<=p∧p<=300)∧whenG (V.drop j) j p = W)
    (fun X=>(∃ tm ps x y,X.get l = some (.loop .done (some .ret) tm ps x y))∧l < X.n∧(∀ c,c < l->c ≠ b8->c ≠ b9->c ≠ ba->X.get c = Hn.get c)∧X.get b8 = some (.cells [VJ W.1] 3 1)∧X.get b9 = some (.cells [VJ W.2] 3 1)∧X.get ba = some (.cells [VJ 0] 49 1)) (by omega) (by omega) (by omega) hm1 hk hEl hEo ho ⟨hbbn,hbln⟩ ?_ ?_ ?_ ?_).mono ?_
  · intro b X kk hb1 hb2
    exact ⟨⟨by omega,by have:=kk.1; omega⟩,kk.2 l (by omega),fun c u1 _=>kk.2 c (by omega),-1,(kk.2 b9 (by omega)).trans h9n,⟨by omega,by omega⟩,by rw [List.drop_zero]; exact hW0⟩
  · rintro b j X Y ⟨⟨q1,q2⟩,q3,q4,p,q5,q6,q7⟩ hbX kk
    exact ⟨⟨q1,by have:=kk.1; omega⟩,(kk.2 l q2 (by omega)).trans q3,fun c u1 u2=>(kk.2 c (by omega) (by omega)).trans (q4 c u1 u2),p,(kk.2 b9 (by omega) (by omega)).trans q5,q6,q7⟩
  · rintro b j X ⟨⟨q1,q2⟩,q3,q4,p,q5,q6,q7⟩
    refine ⟨(q4 bb (by omega) (by omega)).trans hbbn,(q4 (bb + 1) (by omega) (by omega)).trans hbln,rowS_at hen fun c u1 _=>?_,rowS_at hp fun c _ u2=>?_⟩
    · have:=heb c u1
      exact ⟨q4 c (by omega) (by omega),by omega⟩
    · exact ⟨(q4 c (by omega) (by omega)).trans (k0n.2 c u2),by omega⟩
  · rintro b j X hj ⟨⟨q1,q2⟩,q3,q4,p,q5,q6,q7⟩ lx lb hBx
    have hdr:=verL_drop (k:=k) (E:=E) (ps:=ps) (n:=m + 1) (j:=j) (by omega)
    rw [hV] at hdr
    obtain ⟨vv,hvv⟩:∃ x,verN k (warmM k E ps j) = x:=⟨_,rfl⟩
    rw [hvv] at hdr
    rw [hdr,whenG] at q7
    refine RoundB.enter callees false (q3.trans hgn) htm rfl hBx (by omega) ?_
    repeat' first | refine CO.cons rfl ?_ | refine CO.nil ?_ | refine CV.seq ?_ | refine CV.region callees ?_ | refine ⟨_,_,al87,?_⟩ | fail
    generalize hsA:Heap.new X _ = XA
    have hgA:=new_get hsA
    have kA:=new_keep hsA
    have nA:=new_n hsA
    obtain ⟨bA,hbA⟩:∃ b,Heap.n X = b:=⟨_,rfl⟩
    rw [hbA] at hgA nA ⊢
    repeat' first | fail
    refine ⟨_,_,st87 hgA,by omega,?_⟩
    generalize hsC:Heap.set XA bA _ = XC'
    have hgC:XC'.get bA = some (.cells (Hl (warmM k E ps j)) 104 1):=set_get hsC
    have nC:=set_n hsC
    have oC:=set_old hsC
    have kC:Keep X XC':=keep_put kA (by omega) oC nC
    repeat' first | refine CO.nil ?_ | fail
    refine ⟨_,_,_,_,_,((kC.2 l (by omega)).trans q3).trans hgn,?_⟩
    generalize hsD:XC'.set l _ = XD
    have hgD:=set_get hsD
    have nD:=set_n hsD
    have oD:=set_old hsD
    have hDA:=(oD bA (by omega)).trans hgC
    have hold:∀ c,c < X.n->c ≠ l->XD.get c = X.get c:=fun c hc hcl=>(oD c hcl).trans (kC.2 c hc)
    have hD4:=(hold b4 (by omega) (by omega)).trans ((q4 b4 (by omega) (by omega)).trans h4n)
    have hD8:=(hold b8 (by omega) (by omega)).trans ((q4 b8 (by omega) (by omega)).trans h8n)
    have hDa:=(hold ba (by omega) (by omega)).trans ((q4 ba (by omega) (by omega)).trans han)
    have hD9:=(hold b9 (by omega) (by omega)).trans q5
    have fin:∀ {X3:Heap} {ob:AObj} {p':Int},Hn.get l = some ob->XD.n<=X3.n->(∀ c,c < XD.n->c ≠ b9->X3.get c = XD.get c)->X3.get b9 = some (.cells [VJ p'] 3 1)->(-1<=p'∧p'<=300)->whenG (V.drop (j + 1)) ((j:Int) + 1) p' = W->((l < b∧l < (X3.set l ob).n)∧(X3.set l ob).get l = Hn.get l∧(∀ c,c < l->c ≠ b9->(X3.set l ob).get c = Hn.get c)∧∃ p:Int,(X3.set l ob).get b9 = some (.cells [VJ p] 3 1)∧(-1<=p∧p<=300)∧whenG (V.drop (j + 1)) ((j + 1:Nat):Int) p = W)∧(X3.set l ob).get b = X.get b∧bA<=(X3.set l ob).n:=by
      intro X3 ob p' hob hn3 ho3 h93 hp' hw'
      have g:∀ c,c < X.n->c ≠ l->c ≠ b9->(X3.set l ob).get c = X.get c:=fun c u1 u2 u3=>by rw [Heap.get_set_ne _ _ (by omega),ho3 c (by omega) u3]; exact hold c u1 u2
      refine ⟨⟨⟨q1,by show l < X3.n; omega⟩,by rw [Heap.get_set_eq]; exact hob.symm,fun c u1 u2=>(g c (by omega) (by omega) u2).trans (q4 c u1 u2),p',?_,hp',?_⟩,g b lb (by omega) (by omega),by show bA<=X3.n; omega⟩
      · rw [Heap.get_set_ne _ _ (by omega)]; exact h93
      · rw [show ((j + 1:Nat):Int) = (j:Int) + 1 by omega]; exact hw'
    repeat' first | refine CO.cons rfl ?_ | refine CV.seq ?_ | refine CV.region callees ?_ | refine CV.block ?_ | refine ⟨_,ld98 hD4,?_⟩ | refine ⟨_,ld87 hDA,?_⟩ | fail
    refine (verdict_spec (k:=k) (w:=warmM k E ps j) (by omega) hen.cells.1 hp3.cells.1).mono ?_
    rintro r XE ⟨rfl,kE⟩
    rw [hvv]
    have lE:=kE.1
    have hE9:=(kE.2 b9 (by omega)).trans hD9
    have hE8:=(kE.2 b8 (by omega)).trans hD8
    have hEa:=(kE.2 ba (by omega)).trans hDa
    have hEl2:=(kE.2 l (by omega)).trans hgD
    by_cases hc2:p = -1∧vv ≠ 2
    · obtain ⟨c1,c2⟩:=hc2
      rw [if_pos (show p = -1∧vv ≠ 2 from ⟨c1,c2⟩)] at q7
      subst c1
      repeat' first | refine CO.cons rfl ?_ | refine CO.nil ?_ | refine CV.seq ?_ | refine CV.region callees ?_ | refine CV.cond ?_ | refine CO.consG rfl ?_ | refine ⟨_,cell_load ag3 hE9 rfl,?_⟩ | (refine ⟨fun _=>?_,fun _=>?_⟩<;>try (exfalso; omega)) | fail
      refine ⟨_,_,var_store sz3 hE9 rfl,by omega,?_⟩
      generalize hsF:Heap.set XE b9 _ = HF
      have hgF:HF.get b9 = some (.cells ([VJ (j:Int)]) 3 1):=set_get hsF
      have nF:=set_n hsF
      have oF:=set_old hsF
      have hF8:=(oF b8 (by omega)).trans hE8
      have hFa:=(oF ba (by omega)).trans hEa
      have hFl:=(oF l (by omega)).trans hEl2
      have hFo:∀ c,c < XD.n->c ≠ b9->HF.get c = XD.get c:=fun c u1 u2=>(oF c u2).trans (kE.2 c u1)
      by_cases hv1:vv = 1
      rotate_left
      · rw [if_neg hv1] at q7
        have hf:=fin hgn (by omega) hFo hgF ⟨by omega,by omega⟩ q7
        repeat' first | refine CO.cons rfl ?_ | refine CO.nil ?_ | refine CV.seq ?_ | refine CV.region callees ?_ | refine CV.cond ?_ | refine CV.skip ?_ | (refine ⟨fun _=>?_,fun _=>?_⟩<;>try (exfalso; omega)) | fail
        all_goals exact ⟨_,_,_,_,_,_,_,hFl,rfl,⟨.inl ⟨rfl,hf.1⟩,hf.2⟩⟩
      rw [if_pos hv1] at q7
      repeat' first | refine CO.cons rfl ?_ | refine CO.nil ?_ | refine CV.seq ?_ | refine CV.region callees ?_ | refine CV.cond ?_ | refine CR.cons ?_ | refine CV.wideR callees (by decide +kernel) [(0,[]),(1,[]),(2,[1]),(3,[]),(4,[])] (by kernel_rfl) ?_ | refine ⟨_,cell_load ag3 hgF rfl,?_⟩ | (refine ⟨fun _=>?_,fun _=>?_⟩<;>try (exfalso; omega)) | fail
      refine ⟨(show b9 ≠ b8 by omega),?_⟩
      refine ⟨_,cell_load ag3 hgF rfl,?_⟩
      refine ⟨_,_,var_store sz3 hF8 rfl,by omega,?_⟩
      generalize hsr:Heap.set HF b8 _ = Hr
      have hgr:Hr.get b8 = some (.cells ([VJ (j:Int)]) 3 1):=set_get hsr
      have nr:=set_n hsr
      have or:=set_old hsr
      have hr9:=(or b9 (by omega)).trans hgF
      have hra:=(or ba (by omega)).trans hFa
      repeat' first | refine CR.cons ?_ | fail
      refine ⟨_,_,var_store sz3 hr9 rfl,by omega,?_⟩
      generalize hst:Heap.set Hr b9 _ = Ht
      have hgt:Ht.get b9 = some (.cells ([VJ ((j:Int))]) 3 1):=set_get hst
      have nt:=set_n hst
      have ot:=set_old hst
      have ht8:=(ot b8 (by omega)).trans hgr
      have hta:=(ot ba (by omega)).trans hra
      repeat' first | refine CR.cons ?_ | fail
      refine ⟨_,_,var_store sz49r hta rfl,by omega,?_⟩
      generalize hsu:Heap.set Ht ba _ = Hu
      have hgu:Hu.get ba = some (.cells ([VJ 0]) 49 1):=set_get hsu
      have nu:=set_n hsu
      have ou:=set_old hsu
      have hu8:=(ou b8 (by omega)).trans ht8
      have hu9:=(ou b9 (by omega)).trans hgt
      have hul:=(ou l (by omega)).trans ((ot l (by omega)).trans ((or l (by omega)).trans hFl))
      have huo:∀ c,c < X.n->c ≠ l->c ≠ b8->c ≠ b9->c ≠ ba->Hu.get c = X.get c:=fun c u1 u2 u3 u4 u5=>(ou c u5).trans ((ot c u4).trans ((or c u3).trans ((hFo c (by omega) u4).trans (hold c u1 u2))))
      repeat' first | refine CV.ret ?_ | refine CR.nil ?_ | fail
      refine ⟨_,_,_,_,_,_,_,hul,rfl,⟨.inr ⟨rfl,⟨_,_,_,_,Heap.get_set_eq _ _ _⟩,by show l < Hu.n; omega,fun c u1 u2 u3 u4=>?_,?_,?_,?_⟩,?_,?_⟩⟩
      · rw [Heap.get_set_ne _ _ (by omega)]; exact (huo c (by omega) (by omega) u2 u3 u4).trans (q4 c u1 u3)
      · rw [Heap.get_set_ne _ _ (by omega),<- q7]; exact hu8
      · rw [Heap.get_set_ne _ _ (by omega),<- q7]; exact hu9
      · rw [Heap.get_set_ne _ _ (by omega)]; exact hgu
      · rw [Heap.get_set_ne _ _ (by omega)]; exact huo b lb (by omega) (by omega) (by omega) (by omega)
      · show bA<=Hu.n; omega
    · rw [if_neg hc2] at q7
      have hEo2:∀ c,c < XD.n->c ≠ b9->XE.get c = XD.get c:=fun c u1 _=>kE.2 c u1
      by_cases hv1:vv = 1
      rotate_left
      · rw [if_neg hv1] at q7
        have hf:=fin hgn (by omega) hEo2 hE9 ⟨by omega,by omega⟩ q7
        repeat' first | refine CO.cons rfl ?_ | refine CO.nil ?_ | refine CV.seq ?_ | refine CV.region callees ?_ | refine CV.cond ?_ | refine CV.skip ?_ | refine CO.consG rfl ?_ | refine ⟨_,cell_load ag3 hE9 rfl,?_⟩ | (refine ⟨fun _=>?_,fun _=>?_⟩<;>try (exfalso; omega)) | fail
        all_goals exact ⟨_,_,_,_,_,_,_,hEl2,rfl,⟨.inl ⟨rfl,hf.1⟩,hf.2⟩⟩
      rw [if_pos hv1] at q7
      repeat' first | refine CO.cons rfl ?_ | refine CO.nil ?_ | refine CV.seq ?_ | refine CV.region callees ?_ | refine CV.cond ?_ | refine CV.skip ?_ | refine CO.consG rfl ?_ | refine CR.cons ?_ | refine CV.wideR callees (by decide +kernel) [(0,[]),(1,[]),(2,[1]),(3,[]),(4,[])] (by kernel_rfl) ?_ | refine ⟨_,cell_load ag3 hE9 rfl,?_⟩ | (refine ⟨fun _=>?_,fun _=>?_⟩<;>try (exfalso; omega)) | fail
      refine ⟨(show b9 ≠ b8 by omega),?_⟩
      refine ⟨_,cell_load ag3 hE9 rfl,?_⟩
      refine ⟨_,_,var_store sz3 hE8 rfl,by omega,?_⟩
      generalize hsr:Heap.set XE b8 _ = Hr
      have hgr:Hr.get b8 = some (.cells ([VJ (j:Int)]) 3 1):=set_get hsr
      have nr:=set_n hsr
      have or:=set_old hsr
      have hr9:=(or b9 (by omega)).trans hE9
      have hra:=(or ba (by omega)).trans hEa
      repeat' first | refine CR.cons ?_ | fail
      refine ⟨_,_,var_store sz3 hr9 rfl,by omega,?_⟩
      generalize hst:Heap.set Hr b9 _ = Ht
      have hgt:Ht.get b9 = some (.cells ([VJ (p)]) 3 1):=set_get hst
      have nt:=set_n hst
      have ot:=set_old hst
      have ht8:=(ot b8 (by omega)).trans hgr
      have hta:=(ot ba (by omega)).trans hra
      repeat' first | refine CR.cons ?_ | fail
      refine ⟨_,_,var_store sz49r hta rfl,by omega,?_⟩
      generalize hsu:Heap.set Ht ba _ = Hu
      have hgu:Hu.get ba = some (.cells ([VJ 0]) 49 1):=set_get hsu
      have nu:=set_n hsu
      have ou:=set_old hsu
      have hu8:=(ou b8 (by omega)).trans ht8
      have hu9:=(ou b9 (by omega)).trans hgt
      have hul:=(ou l (by omega)).trans ((ot l (by omega)).trans ((or l (by omega)).trans hEl2))
      have huo:∀ c,c < X.n->c ≠ l->c ≠ b8->c ≠ b9->c ≠ ba->Hu.get c = X.get c:=fun c u1 u2 u3 u4 u5=>(ou c u5).trans ((ot c u4).trans ((or c u3).trans ((hEo2 c (by omega) u4).trans (hold c u1 u2))))
      repeat' first | refine CV.ret ?_ | refine CR.nil ?_ | fail
      refine ⟨_,_,_,_,_,_,_,hul,rfl,⟨.inr ⟨rfl,⟨_,_,_,_,Heap.get_set_eq _ _ _⟩,by show l < Hu.n; omega,fun c u1 u2 u3 u4=>?_,?_,?_,?_⟩,?_,?_⟩⟩
      · rw [Heap.get_set_ne _ _ (by omega)]; exact (huo c (by omega) (by omega) u2 u3 u4).trans (q4 c u1 u3)
      · rw [Heap.get_set_ne _ _ (by omega),<- q7]; exact hu8
      · rw [Heap.get_set_ne _ _ (by omega),<- q7]; exact hu9
      · rw [Heap.get_set_ne _ _ (by omega)]; exact hgu
      · rw [Heap.get_set_ne _ _ (by omega)]; exact huo b lb (by omega) (by omega) (by omega) (by omega)
      · show bA<=Hu.n; omega
  rintro _ HZ (⟨b,⟨q1,q2⟩,q3,q4,p,q5,q6,q7⟩ | ⟨⟨tm',ps',x',y',q3⟩,q2,q4,q8,q9,qa⟩)
  · refine ⟨_,_,_,_,_,_,_,q3.trans hgn,rfl,rfl,?_⟩
    generalize hsZ:HZ.set l _ = HY
    have nZ:=set_n hsZ
    have oZ:=set_old hsZ
    rw [List.drop_of_length_le (by omega),whenG] at q7
    have hz9:=(oZ b9 (by omega)).trans q5
    have hz8:=(oZ b8 (by omega)).trans ((q4 b8 (by omega) (by omega)).trans h8n)
    have hza:=(oZ ba (by omega)).trans ((q4 ba (by omega) (by omega)).trans han)
    repeat' first | refine CV.seq ?_ | refine CR.cons ?_ | refine CV.wideR callees (by decide +kernel) [(0,[]),(1,[0]),(2,[]),(3,[])] (by kernel_rfl) ?_ | refine ⟨_,cell_load ag3 hz9 rfl,?_⟩ | fail
    refine ⟨(show b9 ≠ b8 by omega),?_⟩
    refine ⟨_,cell_load ag3 hz9 rfl,?_⟩
    refine ⟨_,_,var_store sz3 hz8 rfl,by omega,?_⟩
    generalize hsr:Heap.set HY b8 _ = Hr
    have hgr:Hr.get b8 = some (.cells ([VJ (-1)]) 3 1):=set_get hsr
    have nr:=set_n hsr
    have or:=set_old hsr
    have hr9:=(or b9 (by omega)).trans hz9
    have hra:=(or ba (by omega)).trans hza
    repeat' first | refine CR.cons ?_ | fail
    refine ⟨_,_,var_store sz3 hr9 rfl,by omega,?_⟩
    generalize hst:Heap.set Hr b9 _ = Ht
    have hgt:Ht.get b9 = some (.cells ([VJ p]) 3 1):=set_get hst
    have nt:=set_n hst
    have ot:=set_old hst
    have ht8:=(ot b8 (by omega)).trans hgr
    have hta:=(ot ba (by omega)).trans hra
    repeat' first | refine CR.cons ?_ | fail
    refine ⟨_,_,var_store sz49r hta rfl,by omega,?_⟩
    generalize hsu:Heap.set Ht ba _ = Hu
    have hgu:Hu.get ba = some (.cells ([VJ 0]) 49 1):=set_get hsu
    have nu:=set_n hsu
    have ou:=set_old hsu
    have hu8:=(ou b8 (by omega)).trans ht8
    have hu9:=(ou b9 (by omega)).trans hgt
    repeat' first | refine CV.ret ?_ | refine CR.nil ?_ | refine ⟨_,cell_load ag49r hgu rfl,?_⟩ | refine ⟨_,cell_load ag3 hu8 rfl,?_⟩ | refine ⟨_,cell_load ag3 hu9 rfl,?_⟩ | fail
    exact ⟨rfl,by rw [<- q7],⟨by have:=k0n.1; omega,fun c hc=>(ou c (by omega)).trans ((ot c (by omega)).trans ((or c (by omega)).trans ((oZ c (by omega)).trans ((q4 c (by omega) (by omega)).trans (k0n.2 c hc)))))⟩⟩
  · refine ⟨_,_,_,_,_,_,_,q3,rfl,rfl,?_⟩
    generalize hsZ:HZ.set l _ = HY
    have nZ:=set_n hsZ
    have oZ:=set_old hsZ
    have hz9:=(oZ b9 (by omega)).trans q9
    have hz8:=(oZ b8 (by omega)).trans q8
    have hza:=(oZ ba (by omega)).trans qa
    repeat' first | refine ⟨_,cell_load ag49r hza rfl,?_⟩ | refine ⟨_,cell_load ag3 hz8 rfl,?_⟩ | refine ⟨_,cell_load ag3 hz9 rfl,?_⟩ | fail
    exact ⟨rfl,rfl,⟨by have:=k0n.1; omega,fun c hc=>(oZ c (by omega)).trans ((q4 c (by omega) (by omega) (by omega) (by omega)).trans (k0n.2 c hc))⟩⟩
end Go.Proofs.Ytglkphjjinmgmaa
