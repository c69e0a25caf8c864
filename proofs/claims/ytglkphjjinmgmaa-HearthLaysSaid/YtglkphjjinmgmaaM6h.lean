/- Several texts in one. -/
import Derived.Test.YtglkphjjinmgmaaM5h
set_option linter.unusedVariables false
set_option linter.unusedSimpArgs false
namespace Go.Proofs.Ytglkphjjinmgmaa
open Go.AI
theorem warmL_at {k:Ke} {E:List Em} {ps:List Po} {n i:Nat} (h:i < n):(warmL k E ps n)[i]! = warmM k E ps i:=by
  rw [getElem!_pos _ i (by rw [warmL_len]; exact h)]
  simp [warmL]
theorem sp_f {H:Heap} {v:Value} {l:List (Int × Int)} (h:RowS 2 H v (l.map Hl)) {f o n j:Nat} (hf:fieldOff Try.prog 27 f = some (o,n)) (hn:n ≠ 0) (hj:j < l.length):afieldAddr Try.prog 27 (elemS v 2 j) f = some (fieldOf (elemS v 2 j) o):=h.faddr hf hn (by rw [List.length_map]; exact hj)
theorem sp_a {H:Heap} {v:Value} {l:List (Int × Int)} (h:RowS 2 H v (l.map Hl)) {j:Nat} (hj:j < l.length):aload Try.prog 3 H (fieldOf (elemS v 2 j) 0) = some (VJ (l[j]!).1):=h.fload ag3 (j:=j) (o:=0) (r:=Hl l[j]!) (hl_at hj) rfl
theorem sp_b {H:Heap} {v:Value} {l:List (Int × Int)} (h:RowS 2 H v (l.map Hl)) {j:Nat} (hj:j < l.length):aload Try.prog 3 H (fieldOf (elemS v 2 j) 1) = some (VJ (l[j]!).2):=h.fload ag3 (j:=j) (o:=1) (r:=Hl l[j]!) (hl_at hj) rfl
section
variable {P:Program} {tm:Tm} {H:Heap} {o:Oper}
theorem apure_neg {t:TypeId} {x:Operand} {k:IntKind} {a:Int} (ho:o.op = .unOp .neg t x) (hx:ev P tm x = some (.int k a)):apure P tm o = some (.int k (k.wrap (-a))):=by
  unfold apure
  have hv:evT tm x = .int k a:=evT_of hx
  simp [ho,Op.operands,hx,plain,flat,scalar,execOp,hv,Op.unary]
  rw [<- Int.zero_sub a]
  rfl
theorem step1_neg {t:TypeId} {x:Operand} {a:Int} (ho:o.op = .unOp .neg t x) (hx:ev P tm x = some (.int .i64 a)) (h0:-9223372036854775808<=-a) (h1:-a < 9223372036854775808):step1 P tm H o = some (.int .i64 (-a),H,H.n):=by
  have h2:=apure_neg ho hx
  rw [wrapI h0 h1] at h2
  simp only [step1,ho,h2,ret]
end
theorem floor_t {n d:Int} (hd:0 < d):n.tdiv d - (if n.tmod d < 0 then 1 else 0) = n / d:=by
  by_cases hn:0<=n
  · rw [Int.tdiv_eq_ediv_of_nonneg hn,Int.tmod_eq_emod_of_nonneg hn,if_neg (by have:=Int.emod_nonneg n (show d ≠ 0 by omega); omega),Int.sub_zero]
  · obtain ⟨m,rfl⟩:∃ m,n = -m:=⟨-n,by omega⟩
    have hm:0<=m:=by omega
    rw [Int.neg_tdiv,Int.neg_tmod,Int.tdiv_eq_ediv_of_nonneg hm,Int.tmod_eq_emod_of_nonneg hm]
    have h0:=Int.emod_nonneg m (show d ≠ 0 by omega)
    have h1:=Int.emod_lt_of_pos m hd
    have h2:=Int.mul_ediv_add_emod m d
    symm
    by_cases hz:-(m % d) < 0
    · rw [if_pos hz]
      refine ((Int.ediv_emod_unique hd (r:=d - m % d)).2 ⟨?_,?_,?_⟩).1
      · rw [Int.mul_sub,Int.mul_neg,Int.mul_one]; omega
      · omega
      · omega
    · rw [if_neg hz,Int.sub_zero]
      refine ((Int.ediv_emod_unique hd (r:=0)).2 ⟨?_,?_,?_⟩).1
      · rw [Int.mul_neg]; omega
      · omega
      · omega
theorem ceil_t {n d:Int} (hd:0 < d):-((-n) / d) = (n + (d - 1)) / d:=by
  have h0:=Int.emod_nonneg (n + (d - 1)) (show d ≠ 0 by omega)
  have h1:=Int.emod_lt_of_pos (n + (d - 1)) hd
  have h2:=Int.mul_ediv_add_emod (n + (d - 1)) d
  have:=((Int.ediv_emod_unique (a:=-n) hd (q:=-((n + (d - 1)) / d)) (r:=d - 1 - (n + (d - 1)) % d)).2 ⟨by rw [Int.mul_neg]; omega,by omega,by omega⟩).1
  rw [this]; omega
abbrev wAt (la x:Int):Wt:=⟨la,x,x⟩
theorem tdiv_bd {n d C:Int} (hd:0 < d) (h0:-C<=n) (h1:n<=C):-C<=n.tdiv d∧n.tdiv d<=C:=by
  by_cases hn:0<=n
  · have a:=Int.ediv_nonneg hn (show 0<=d by omega)
    have b:=Int.ediv_le_self d hn
    rw [Int.tdiv_eq_ediv_of_nonneg hn]
    omega
  · obtain ⟨m,rfl⟩:∃ m,n = -m:=⟨-n,by omega⟩
    have hm:0<=m:=by omega
    have a:=Int.ediv_nonneg hm (show 0<=d by omega)
    have b:=Int.ediv_le_self d hm
    rw [Int.neg_tdiv,Int.tdiv_eq_ediv_of_nonneg hm]
    omega
set_option maxRecDepth 100000 in
theorem down_spec {B:Nat} {H:Heap} {n d:Int} (hB:B<=H.n) (h0:-1000000000000000<=n) (h1:n<=1000000000000000) (hd:1<=d) (hd1:d<=1000000000) :
    CallB Try.prog B 90 [VJ n,VJ d] H (fun r H'=>r = VJ (n / d)∧Keep H H'):=by
  have e:=floor_t (n:=n) (d:=d) (by omega)
  have b:=tdiv_bd (d:=d) (by omega) h0 h1
  refine CV.enter callees false rfl Try.func90 rfl (by kernel_rfl) (Nat.le_of_ble_eq_true rfl) hB ?_
  repeat' first | refine CO.cons rfl ?_ | refine CO.nil ?_ | refine CV.seq ?_ | refine CV.region callees ?_ | refine CV.cond ?_ | refine CV.skip ?_ | refine CV.ret ?_ | refine ⟨(⟨by omega,by omega⟩:inI64 _),?_⟩ | refine ⟨_,fun tm ha=>quoI rfl (ev_tmp ha rfl) (ev_tmp ha rfl) (by omega) (by omega) (by omega),?_⟩ | refine ⟨_,fun tm ha=>step1_rem rfl (ev_tmp ha rfl) (ev_tmp ha rfl) (by omega),?_⟩ | (refine ⟨fun _=>?_,fun _=>?_⟩<;>try (exfalso; omega)) | fail
  · rename_i h
    rw [if_pos h] at e
    exact ⟨rfl,by rw [<- e],Keep.refl _⟩
  · rename_i h
    rw [if_neg h] at e
    exact ⟨rfl,by rw [<- e,Int.sub_zero],Keep.refl _⟩
set_option maxRecDepth 100000 in
theorem upR_spec {B:Nat} {H:Heap} {n d:Int} (hB:B<=H.n) (h0:-1000000000000000<=n) (h1:n<=1000000000000000) (hd:1<=d) (hd1:d<=1000000000) :
    CallB Try.prog B 91 [VJ n,VJ d] H (fun r H'=>r = VJ ((n + (d - 1)) / d)∧Keep H H'):=by
  have e:=ceil_t (n:=n) (d:=d) (by omega)
  have f1:-1000000000000001<=(-n) / d:=Int.le_ediv_of_mul_le (by omega) (by
    have:=Int.mul_le_mul_of_nonneg_left hd (show 0<=1000000000000001 by decide)
    omega)
  have f2:(-n) / d<=1000000000000001:=Int.ediv_le_of_le_mul (by omega) (by
    have:=Int.mul_le_mul_of_nonneg_left hd (show 0<=1000000000000001 by decide)
    omega)
  refine CV.enter callees false rfl Try.func91 rfl (by kernel_rfl) (Nat.le_of_ble_eq_true rfl) hB ?_
  repeat' first | refine CO.cons rfl ?_ | refine CO.nil ?_ | refine CV.seq ?_ | refine CV.region callees ?_ | refine ⟨_,fun tm ha=>step1_neg rfl (ev_tmp ha rfl) (by omega) (by omega),?_⟩ | fail
  refine (down_spec (by omega) (by omega) (by omega) hd hd1).mono ?_
  rintro r H1 ⟨rfl,k1⟩
  repeat' first | refine CO.cons rfl ?_ | refine CO.nil ?_ | refine CV.ret ?_ | refine ⟨_,fun tm ha=>step1_neg rfl (ev_tmp ha rfl) (by omega) (by omega),?_⟩ | fail
  exact ⟨rfl,by rw [e],k1⟩
set_option maxHeartbeats 4000000 in
set_option maxRecDepth 100000 in
theorem heatedR_spec {B:Nat} {H:Heap} {k:Ke} {x la y:Int} (hB:B<=H.n) (hk:KOk k) (h1:0<=x) (h2:x<=1000) (h3:1<=la) (h4:la<=50) (h5:0<=y) (h6:y<=12000) :
    CallB Try.prog B 52 [Kev k,VJ x,VJ la,VJ y] H (fun r H'=>r = Hv ((hotN k (wAt la x) (y,y)).w0,(hotN k (wAt la x) (y,y)).w1)∧Keep H H'):=by
  have s0:=hotS_bd hk h1 h2 h3 h4 h5 h6
  have hS:hotS k x y la = x * la * 1000000 + y * k.ga * 1000000 - (x - k.ro) * k.lo * la:=rfl
  obtain ⟨b1,b2,b3,b4,b5,b6,b7,b8,b9,b10,b11,b12,b13,b14⟩:=hk
  have m0:=mul_bd h1 h2 (show 0<=la by omega) h4
  have p0:=mul_bd h5 h6 b11 b12
  have q0:=mul0 (a:=x - k.ro) (A:=1000) (by omega) (by omega) b13 b14 (by omega)
  have u0:=mul0 (a:=(x - k.ro) * k.lo) (A:=1000000000) (by omega) (by omega) (show 0<=la by omega) h4 (by omega)
  refine CV.enter callees false rfl Try.func52 rfl (by kernel_rfl) (Nat.le_of_ble_eq_true rfl) hB ?_
  repeat' first | refine CO.cons rfl ?_ | refine CV.seq ?_ | refine CV.region callees ?_ | fail
  refine ⟨(by simp only [notTuple]),?_⟩
  rw [boxKe]
  generalize hs0:Heap.new H _ = H0
  have hg0:=new_get hs0
  have k0:=new_keep hs0
  have n0:=new_n hs0
  obtain ⟨b0,hbn0⟩:∃ b,Heap.n H = b:=⟨_,rfl⟩
  rw [hbn0] at hg0 n0 ⊢
  repeat' first | refine CO.cons rfl ?_ | refine CO.nil ?_ | refine CV.seq ?_ | refine CV.region callees ?_ | refine ⟨(⟨by omega,by omega⟩:inI64 _),?_⟩ | refine ⟨_,_,al41,?_⟩ | fail
  generalize hs1:Heap.new H0 _ = H1
  have hg1:=new_get hs1
  have k1:=new_keep hs1
  have n1:=new_n hs1
  obtain ⟨b1,hbn1⟩:∃ b,Heap.n H0 = b:=⟨_,rfl⟩
  rw [hbn1] at hg1 n1 ⊢
  have hg01:=(k1.2 b0 (by omega)).trans hg0
  repeat' first | refine CO.cons rfl ?_ | refine CO.nil ?_ | refine CV.seq ?_ | refine CV.region callees ?_ | refine ⟨(⟨by omega,by omega⟩:inI64 _),?_⟩ | refine ⟨_,fS foK2 (by decide),?_⟩ | refine ⟨_,fS foK3 (by decide),?_⟩ | refine ⟨_,fS foK4 (by decide),?_⟩ | refine ⟨_,cell_load ag3 hg01 rfl,?_⟩ | fail
  have e:(x * la + y * k.ga) * 1000000 - (x - k.ro) * k.lo * la = hotS k x y la:=by rw [hS]; omega
  rw [e]
  refine (down_spec (by omega) (by omega) (by omega) (by omega) (by omega)).mono ?_
  rintro r H2 ⟨rfl,k2⟩
  have l2:=k2.1
  repeat' first | refine CO.cons rfl ?_ | refine ⟨(⟨by omega,by omega⟩:inI64 _),?_⟩ | refine ⟨_,fun tm ha=>step1_min rfl rfl (ev_tmp ha rfl),?_⟩ | fail
  refine (upR_spec (by omega) (by omega) (by omega) (by omega) (by omega)).mono ?_
  rintro r H3 ⟨rfl,k3⟩
  have l3:=k3.1
  have hg3:=(k3.2 b1 (by omega)).trans ((k2.2 b1 (by omega)).trans hg1)
  repeat' first | refine CO.cons rfl ?_ | refine ⟨_,fun tm ha=>step1_min rfl rfl (ev_tmp ha rfl),?_⟩ | refine ⟨_,bu41,?_⟩ | fail
  refine ⟨_,_,st41 hg3,by omega,?_⟩
  generalize hsq:Heap.set H3 b1 _ = H4
  have hg4:=set_get hsq
  have n4:=set_n hsq
  have o4:=set_old hsq
  repeat' first | refine CO.nil ?_ | refine CV.ret ?_ | fail
  refine ⟨_,ld41 hg4,rfl,?_,keep_put (((k0.trans k1).trans k2).trans k3) (by omega) o4 n4⟩
  rw [Int.min_comm 1000,Int.min_comm 1000]
  rfl
set_option maxHeartbeats 4000000 in
set_option maxRecDepth 100000 in
theorem pouredR_spec {B:Nat} {H:Heap} {p:Po} {x la:Int} (hB:B<=H.n) (h1:0<=x) (h2:x<=1000) (h3:1<=la) (h4:la<=50) (hp0:0<=p.wm) (hp1:p.wm<=1000) (hp2:-50<=p.la) (hp3:p.la<=50) (hpz:p.la ≠ 0) (hl1:1<=la + p.la) (hl2:la + p.la<=50) :
    CallB Try.prog B 53 [Pov p,VJ x,VJ la] H (fun r H'=>r = Hv ((pourN (wAt la x) p).w0,(pourN (wAt la x) p).w1)∧Keep H H'):=by
  refine CV.enter callees false rfl Try.func53 rfl (by kernel_rfl) (Nat.le_of_ble_eq_true rfl) hB ?_
  repeat' first | refine CO.cons rfl ?_ | refine CV.seq ?_ | refine CV.region callees ?_ | fail
  refine ⟨(by simp only [notTuple]),?_⟩
  rw [boxPo]
  generalize hs0:Heap.new H _ = H0
  have hg0:=new_get hs0
  have k0:=new_keep hs0
  have n0:=new_n hs0
  obtain ⟨b0,hbn0⟩:∃ b,Heap.n H = b:=⟨_,rfl⟩
  rw [hbn0] at hg0 n0 ⊢
  repeat' first | refine CO.cons rfl ?_ | refine CO.nil ?_ | refine CV.seq ?_ | refine CV.region callees ?_ | refine ⟨_,_,al41,?_⟩ | fail
  generalize hs1:Heap.new H0 _ = H1
  have hg1:=new_get hs1
  have k1:=new_keep hs1
  have n1:=new_n hs1
  obtain ⟨b1,hbn1⟩:∃ b,Heap.n H0 = b:=⟨_,rfl⟩
  rw [hbn1] at hg1 n1 ⊢
  have hg01:=(k1.2 b0 (by omega)).trans hg0
  by_cases hneg:p.la < 0
  · repeat' first | refine CO.cons rfl ?_ | refine CO.nil ?_ | refine CV.seq ?_ | refine CV.region callees ?_ | refine CV.cond ?_ | refine ⟨_,fS foO1 (by decide),?_⟩ | refine ⟨_,cell_load ag3 hg01 rfl,?_⟩ | refine ⟨_,bu41,?_⟩ | (refine ⟨fun _=>?_,fun _=>?_⟩<;>try (exfalso; omega)) | fail
    refine ⟨_,_,st41 hg1,by omega,?_⟩
    generalize hsq:Heap.set H1 b1 _ = H4
    have hg4:=set_get hsq
    have n4:=set_n hsq
    have o4:=set_old hsq
    repeat' first | refine CO.nil ?_ | refine CV.ret ?_ | fail
    exact ⟨_,ld41 hg4,rfl,by rw [pourN,if_neg (by omega)],keep_put (k0.trans k1) (by omega) o4 n4⟩
  · have m0:=mul_bd h1 h2 (show 0<=la by omega) h4
    have m2:=mul_bd hp0 hp1 (show 0<=p.la by omega) hp3
    repeat' first | refine CO.cons rfl ?_ | refine CO.nil ?_ | refine CV.seq ?_ | refine CV.region callees ?_ | refine CV.cond ?_ | refine CV.skip ?_ | refine ⟨(⟨by omega,by omega⟩:inI64 _),?_⟩ | refine ⟨_,fS foO1 (by decide),?_⟩ | refine ⟨_,fS foO2 (by decide),?_⟩ | refine ⟨_,cell_load ag3 hg01 rfl,?_⟩ | (refine ⟨fun _=>?_,fun _=>?_⟩<;>try (exfalso; omega)) | fail
    refine CV.wideR callees (by decide +kernel) [(0,[]),(1,[]),(2,[]),(3,[]),(4,[]),(6,[]),(7,[]),(8,[]),(9,[]),(10,[]),(5,[10,9]),(11,[]),(12,[]),(13,[])] (by kernel_rfl) ?_
    repeat' first | refine CR.cons ?_ | refine ⟨(⟨by omega,by omega⟩:inI64 _),?_⟩ | refine ⟨_,fS foO1 (by decide),?_⟩ | refine ⟨_,cell_load ag3 hg01 rfl,?_⟩ | fail
    refine (down_spec (n:=x * la + p.wm * p.la) (d:=la + p.la) (by omega) (by omega) (by omega) (by omega) (by omega)).mono ?_
    rintro r H2 ⟨rfl,k2⟩
    have l2:=k2.1
    have hg2:=(k2.2 b0 (by omega)).trans hg01
    repeat' first | refine CR.cons ?_ | refine ⟨(⟨by omega,by omega⟩:inI64 _),?_⟩ | refine ⟨_,cell_load ag3 hg2 rfl,?_⟩ | refine ⟨(rfl:_ = Value.int _ _),?_⟩ | refine ⟨same_int,?_⟩ | fail
    refine (upR_spec (n:=x * la + p.wm * p.la) (d:=la + p.la) (by omega) (by omega) (by omega) (by omega) (by omega)).mono ?_
    rintro r H3 ⟨rfl,k3⟩
    have l3:=k3.1
    have hg3:=(k3.2 b1 (by omega)).trans ((k2.2 b1 (by omega)).trans hg1)
    repeat' first | refine CR.cons ?_ | refine ⟨_,bu41,?_⟩ | fail
    refine ⟨_,_,st41 hg3,by omega,?_⟩
    generalize hsq:Heap.set H3 b1 _ = H4
    have hg4:=set_get hsq
    have n4:=set_n hsq
    have o4:=set_old hsq
    repeat' first | refine CV.ret ?_ | refine CR.nil ?_ | fail
    exact ⟨_,ld41 hg4,rfl,by rw [pourN,if_pos (by omega)]; rfl,keep_put (((k0.trans k1).trans k2).trans k3) (by omega) o4 n4⟩
theorem own_keepN {e:TypeId} {b:Nat} {H H':Heap} {v:Value} {vs:List Value} {B:Nat} (h:Own e H v vs B) (k:KeepX b H H') (hb:blkOf v ≠ some b):Own e H' v vs B:=by
  rcases h with h | ⟨b',rfl,h2,h3,h4⟩
  · exact .inl h
  · exact .inr ⟨b',rfl,h2,Nat.lt_of_lt_of_le h3 k.1,by rw [k.2 b' h3 (fun e=>hb (by rw [<- e]; rfl))]; exact h4⟩
theorem own_keepF {e:TypeId} {H H':Heap} {v:Value} {vs:List Value} {B:Nat} (h:Own e H v vs B) (hn:H.n<=H'.n) (hk:∀ c,blkOf v = some c->H'.get c = H.get c):Own e H' v vs B:=by
  rcases h with h | ⟨b',rfl,h2,h3,h4⟩
  · exact .inl h
  · exact .inr ⟨b',rfl,h2,Nat.lt_of_lt_of_le h3 hn,by rw [hk b' rfl]; exact h4⟩
end Go.Proofs.Ytglkphjjinmgmaa
