/- Several texts in one. -/
import Derived.Test.YtglkphjjinmgmaaM7h
import Derived.Test.YtglkphjjinmgmaaM6h
set_option linter.unusedVariables false
set_option linter.unusedSimpArgs false
namespace Go.Proofs.Ytglkphjjinmgmaa
open Go.AI
abbrev ieT:TypeId:=77
abbrev grT:TypeId:=129
theorem agIe:isAggB Try.prog ieT = some false:=by kernel_rfl
theorem agGr:isAggB Try.prog grT = some false:=by kernel_rfl
theorem szGr:sizeB Try.prog grT = some 1:=by kernel_rfl
theorem sz22k:sizeB Try.prog 33 = some 1:=by kernel_rfl
theorem zcGr:zeroCellsW Try.prog grT = some [.nilFunc]:=by kernel_rfl
theorem zc22k:zeroCells Try.prog 33 = some [nilS]:=by kernel_rfl
abbrev ieV (bf bb b1 b2:Nat):Value:=.func (.func 86) #[] #[pt bf,pt bb,pt b1,pt b2]
abbrev growV (b0:Nat):Value:=.func (.func 100) #[] #[pt (b0 + 1),pt (b0 + 2),pt b0,pt (b0 + 3)]
structure Gs (b0 n:Nat) (ie:Value) (X:Heap) (q:Value):Prop where
  n:X.get b0 = some (.cells [VJ n] 3 1)
  e:X.get (b0 + 1) = some (.cells [ie] ieT 1)
  c:X.get (b0 + 2) = some (.cells [q] 33 1)
  g:X.get (b0 + 3) = some (.cells [growV b0] grT 1)
def PostG (b0:Nat) (X:Heap) (q:Value) (c:List Int) (r:Value):Option (List Int)->Prop
  | none=>r = .bool false∧PreQ (b0 + 4) X q c
  | some s=>r = .bool true∧PreQ (b0 + 4) X q s
set_option maxHeartbeats 16000000 in
set_option maxRecDepth 100000 in
theorem grow_spec {B b0 n bf bb b1 b2:Nat} {En:List Int->Bool} (J:Heap->Prop) (hBb:B<=b0) (hn:n<=12)
    (hJ:∀ X X',J X->X.n<=X'.n->(∀ p,p < b0->X'.get p = X.get p)->J X')
    (hE:∀ q c X,J X->Ints X q c->Asc n 0 c->B<=X.n->b0 + 4<=X.n->CallB Try.prog B 86 [q,pt bf,pt bb,pt b1,pt b2] X (fun r X'=>r = .bool (En c)∧J X'∧X.n<=X'.n∧∀ p,b0<=p->p < X.n->X'.get p = X.get p)) :
    ∀ (m:Nat) (c:List Int) (f:Nat) (X:Heap) (q:Value),m<=12->J X->Gs b0 n (ieV bf bb b1 b2) X q->PreQ (b0 + 4) X q c->f<=n->Asc n 0 c->(∀ x ∈ c,x < (f:Int))->B<=X.n->b0 + 4<=X.n ->
    CallB Try.prog B 100 [VJ f,VJ m,pt (b0 + 1),pt (b0 + 2),pt b0,pt (b0 + 3)] X
      (fun r X'=>J X'∧X.n<=X'.n∧∃ q',Gs b0 n (ieV bf bb b1 b2) X' q'∧PostG b0 X' q' c r (tryG En n m c f)):=by
  intro m
  induction m with
  | zero =>
    intro c f X q hm12 hJX hG hP hfn ha hcf hBX hbX
    refine CV.enter callees false rfl Try.func100 rfl (by kernel_rfl) (Nat.le_of_ble_eq_true rfl) hBX ?_
    repeat' first | refine CO.cons rfl ?_ | refine CO.nil ?_ | refine CV.seq ?_ | refine CV.region callees ?_ | refine CV.cond ?_ | refine ⟨_,cell_load agIe hG.e rfl,?_⟩ | refine ⟨_,cell_load ag22 hG.c rfl,?_⟩ | (refine ⟨fun _=>?_,fun _=>?_⟩<;>try (exfalso; omega)) | fail
    refine (hE q c X hJX hP.ints ha hBX hbX).mono ?_
    rintro r X1 ⟨rfl,hJ1,l1,g1⟩
    repeat' first | refine CO.cons rfl ?_ | refine CO.nil ?_ | refine CV.ret ?_ | fail
    have hG1:Gs b0 n (ieV bf bb b1 b2) X1 q:=⟨(g1 _ (by omega) (by omega)).trans hG.n,(g1 _ (by omega) (by omega)).trans hG.e,(g1 _ (by omega) (by omega)).trans hG.c,(g1 _ (by omega) (by omega)).trans hG.g⟩
    have hP1:PreQ (b0 + 4) X1 q c:=hP.keep l1 fun p u1 u2 _ _=>g1 p (by omega) u2
    refine ⟨rfl,hJ1,l1,q,hG1,?_⟩
    rw [tryG]
    cases he:En c with
    | true=>exact ⟨rfl,hP1⟩
    | false=>exact ⟨rfl,hP1⟩
  | succ m ih =>
    intro c f X q hm12 hJX hG hP hfn ha hcf hBX hbX
    have hcl:=asc_len (Nat.zero_le _) ha
    obtain ⟨F,hF⟩:∃ F:Nat->Option (List Int),F = fun (j:Nat)=>tryG En n m (c ++ [(j:Int)]) (j + 1):=⟨_,rfl⟩
    have hT:tryG En n (m + 1) c f = loopG F (n - f) f:=by rw [tryG,hF]
    rw [hT]
    refine CV.enter callees false rfl Try.func100 rfl (by kernel_rfl) (Nat.le_of_ble_eq_true rfl) hBX ?_
    repeat' first | refine CO.cons rfl ?_ | refine CO.nil ?_ | refine CV.seq ?_ | refine CV.region callees ?_ | refine CV.cond ?_ | refine CV.block ?_ | refine CV.skip ?_ | (refine ⟨fun _=>?_,fun _=>?_⟩<;>try (exfalso; omega)) | fail
    refine CV.loopc ?_
    refine WCv.rounds callees false (α:=Nat × Value) (fun (i,q)=>[(0,VJ f),(1,VJ ((m + 1:Nat):Int)),(2,pt (b0 + 1)),(3,pt (b0 + 2)),(4,pt b0),(5,pt (b0 + 3)),(9,VJ i)]) (fun (i,q) Hz=>f<=i∧i<=n∧J Hz∧Gs b0 n (ieV bf bb b1 b2) Hz q∧PreQ (b0 + 4) Hz q c∧X.n<=Hz.n∧loopG F (n - i) i = loopG F (n - f) f) (fun (i,q)=>n - i) (f,q) (by repeat' first | exact trivial | refine ⟨rfl,?_⟩ | refine ⟨slot_int (by (try simp only [Int.toNat_natCast]); omega),?_⟩) ?_ ?_
    · exact ⟨Nat.le_refl _,hfn,hJX,hG,hP,Nat.le_refl _,rfl⟩
    clear hJX hG hP q
    rintro ⟨i,q⟩ Hx ⟨hfi,hin,hJx,hG,hP,lx,heq⟩ hBx
    by_cases hi2:i < n
    · repeat' first | refine CO.cons rfl ?_ | refine CO.nil ?_ | refine CV.seq ?_ | refine CV.region callees ?_ | refine CV.cond ?_ | refine CV.block ?_ | refine CV.skip ?_ | refine ⟨_,cell_load ag3 hG.n rfl,?_⟩ | refine ⟨_,cell_load ag22 hG.c rfl,?_⟩ | refine ⟨_,_,build_one un22 one3 rfl,?_⟩ | (refine ⟨fun _=>?_,fun _=>?_⟩<;>try (exfalso; omega)) | fail
      refine pre_push hP (by omega) (by omega) (by omega) ?_
      intro q1 X1 hP1 hk1 l1
      have hqn:∀ p,p < b0 + 4->X1.get p = Hx.get p:=fun p hp=>hk1 p (by omega) (fun e=>by have:=(hP.lt e).1; omega)
      repeat' first | refine CO.cons rfl ?_ | fail
      refine ⟨_,_,var_store sz22k ((hqn (b0 + 2) (by omega)).trans hG.c) hP1.one,by omega,?_⟩
      generalize hs2:Heap.set X1 (b0 + 2) _ = X2
      have hg2:X2.get (b0 + 2) = some (.cells [q1] 33 1):=set_get hs2
      have n2:=set_n hs2
      have o2:=set_old hs2
      have hG2:Gs b0 n (ieV bf bb b1 b2) X2 q1:=⟨(o2 _ (by omega)).trans ((hqn _ (by omega)).trans hG.n),(o2 _ (by omega)).trans ((hqn _ (by omega)).trans hG.e),hg2,(o2 _ (by omega)).trans ((hqn _ (by omega)).trans hG.g)⟩
      have hJ2:J X2:=hJ Hx X2 hJx (by omega) fun p hp=>(o2 p (by omega)).trans (hqn p (by omega))
      have hP2:PreQ (b0 + 4) X2 q1 (c ++ [(i:Int)]):=hP1.keep (by omega) fun p u1 u2 _ _=>o2 p (by omega)
      have hci:∀ x ∈ c,x < (i:Int):=fun x hx=>by have:=hcf x hx; omega
      have hih:=ih (c ++ [(i:Int)]) (i + 1) X2 q1 (by omega) hJ2 hG2 hP2 (by omega) (asc_snoc ha (Nat.zero_le _) hi2 hci) (fun x hx=>by
        rcases List.mem_append.1 hx with h | h
        · have:=hci x h; omega
        · rw [List.mem_singleton] at h; omega) (by omega) (by omega)
      rw [show ((i + 1:Nat):Int) = (i:Int) + 1 by omega,show (m:Int) = ((m + 1:Nat):Int) - 1 by omega] at hih
      repeat' first | refine CO.cons rfl ?_ | refine CO.nil ?_ | refine CV.seq ?_ | refine CV.region callees ?_ | refine ⟨(⟨by omega,by omega⟩:inI64 _),?_⟩ | refine ⟨_,cell_load agGr hG2.g rfl,?_⟩ | fail
      refine hih.mono ?_
      rintro r X3 ⟨hJ3,l3,q3,hG3,hm3⟩
      have hFi:F i = tryG En n m (c ++ [(i:Int)]) (i + 1):=by rw [hF]
      rw [<- hFi] at hm3
      have en:n - i = (n - (i + 1)) + 1:=by omega
      rw [en] at heq
      cases hFv:F i with
      | some s =>
        rw [hFv] at hm3
        obtain ⟨rfl,hP3⟩:=hm3
        rw [loopG_hit hFv] at heq
        repeat' first | refine CO.cons rfl ?_ | refine CO.nil ?_ | refine CV.seq ?_ | refine CV.region callees ?_ | refine CV.cond ?_ | refine CV.ret ?_ | fail
        refine ⟨rfl,hJ3,by omega,q3,hG3,?_⟩
        rw [<- heq]
        exact ⟨rfl,hP3⟩
      | none =>
        rw [hFv] at hm3
        obtain ⟨rfl,hP3⟩:=hm3
        rw [loopG_step hFv] at heq
        have hI3:Ints X3 q3 (c ++ [(i:Int)]):=hP3.ints
        have el:(((c ++ [(i:Int)]).length:Nat):Int) - 1 = (c.length:Int):=by rw [List.length_append,List.length_singleton]; omega
        obtain ⟨r4,hr4,hP4,hb4⟩:=pre_slice hP3
        have hl2:(c ++ [(i:Int)]).length = c.length + 1:=by rw [List.length_append,List.length_singleton]
        repeat' first | refine CO.cons rfl ?_ | refine CO.nil ?_ | refine CV.region callees ?_ | refine CV.cond ?_ | refine CV.skip ?_ | refine ⟨_,ints_len (by assumption),?_⟩ | refine ⟨(⟨by omega,by omega⟩:inI64 _),?_⟩ | refine ⟨_,cell_load ag22 hG3.c rfl,?_⟩ | fail
        rw [el]
        refine ⟨_,hr4,?_⟩
        repeat' first | refine CO.cons rfl ?_ | fail
        refine ⟨_,_,var_store sz22k hG3.c hP4.one,by omega,?_⟩
        generalize hs5:Heap.set X3 (b0 + 2) _ = X5
        have hg5:X5.get (b0 + 2) = some (.cells [r4] 33 1):=set_get hs5
        have n5:=set_n hs5
        have o5:=set_old hs5
        repeat' first | refine CO.cons rfl ?_ | refine CO.nil ?_ | refine CV.region callees ?_ | refine ⟨(⟨by omega,by omega⟩:inI64 _),?_⟩ | fail
        refine ⟨(i + 1,r4),(by repeat' first | exact trivial | refine ⟨rfl,?_⟩ | refine ⟨slot_int (by (try simp only [Int.toNat_natCast]); omega),?_⟩),(by (try dsimp only); omega),?_⟩
        exact ⟨by omega,by omega,hJ X3 X5 hJ3 (by omega) (fun p hp=>o5 p (by omega)),⟨(o5 _ (by omega)).trans hG3.n,(o5 _ (by omega)).trans hG3.e,hg5,(o5 _ (by omega)).trans hG3.g⟩,hP4.keep (by omega) (fun p u1 u2 _ _=>o5 p (by omega)),by omega,heq⟩
    obtain rfl:i = n:=by omega
    repeat' first | refine CO.cons rfl ?_ | refine CO.nil ?_ | refine CV.seq ?_ | refine CV.region callees ?_ | refine CV.cond ?_ | refine CV.exit ?_ | refine CV.ret ?_ | refine ⟨_,cell_load ag3 hG.n rfl,?_⟩ | (refine ⟨fun _=>?_,fun _=>?_⟩<;>try (exfalso; omega)) | fail
    refine ⟨rfl,hJx,lx,q,hG,?_⟩
    rw [<- heq,Nat.sub_self]
    exact ⟨rfl,hP⟩
set_option maxHeartbeats 16000000 in
set_option maxRecDepth 100000 in
theorem fewest_spec {B n bf bb b1 b2:Nat} {H:Heap} {En:List Int->Bool} (J:Heap->Prop) (hB:B<=H.n) (hn:n<=12)
    (hJ:∀ X X',J X->X.n<=X'.n->(∀ p,p < H.n->X'.get p = X.get p)->J X')
    (hE:∀ q c X,J X->Ints X q c->Asc n 0 c->B<=X.n->H.n + 4<=X.n->CallB Try.prog B 86 [q,pt bf,pt bb,pt b1,pt b2] X (fun r X'=>r = .bool (En c)∧J X'∧X.n<=X'.n∧∀ p,H.n<=p->p < X.n->X'.get p = X.get p))
    (hJ0:J H) :
    CallB Try.prog B 85 [VJ n,ieV bf bb b1 b2] H (fun r X'=>J X'∧H.n<=X'.n∧match fewG En n with
      | none=>r = .tuple #[nilS,.bool false]
      | some s=>∃ q,r = .tuple #[q,.bool true]∧PreQ (H.n + 4) X' q s):=by
  refine CV.enter callees false rfl Try.func85 rfl (by kernel_rfl) (Nat.le_of_ble_eq_true rfl) hB ?_
  repeat' first | refine CO.cons rfl ?_ | refine CV.seq ?_ | refine CV.region callees ?_ | refine ⟨(rfl:notTuple (Value.int _ _) = true),?_⟩ | fail
  generalize hs0':anew H _ _ _ = H0
  have hs0:H.new (.cells [VJ n] 3 1) = H0:=hs0'
  have hg0:=new_get hs0
  have k0:=new_keep hs0
  have n0:=new_n hs0
  obtain ⟨b0,hb0⟩:∃ b,H.n = b:=⟨_,rfl⟩
  rw [hb0] at hg0 n0 ⊢
  refine ⟨(by rfl),?_⟩
  generalize hs1':anew H0 _ _ _ = H1
  have hs1:H0.new (.cells [ieV bf bb b1 b2] ieT 1) = H1:=hs1'
  have hg1:=new_get hs1
  have k1:=new_keep hs1
  have n1:=new_n hs1
  rw [n0] at hg1 ⊢
  repeat' first | refine CO.cons rfl ?_ | refine CO.nil ?_ | refine CV.seq ?_ | refine CV.region callees ?_ | fail
  refine ⟨_,_,alloc_of zc22k,?_⟩
  generalize hs2:Heap.new H1 _ = H2
  have hg2:=new_get hs2
  have k2:=new_keep hs2
  have n2:=new_n hs2
  rw [show H1.n = b0 + 2 by omega] at hg2 ⊢
  repeat' first | refine CO.cons rfl ?_ | refine CO.nil ?_ | refine CV.seq ?_ | refine CV.region callees ?_ | fail
  refine ⟨_,_,alloc_ofW zcGr,?_⟩
  generalize hs3:Heap.new H2 _ = H3
  have hg3:=new_get hs3
  have k3:=new_keep hs3
  have n3:=new_n hs3
  rw [show H2.n = b0 + 3 by omega] at hg3 ⊢
  repeat' first | refine CO.cons rfl ?_ | refine CO.nil ?_ | refine CV.seq ?_ | refine CV.region callees ?_ | refine ⟨(rfl:List.all _ cellLike = true),?_⟩ | fail
  refine ⟨_,_,var_store szGr hg3 rfl,by omega,?_⟩
  generalize hs4:Heap.set H3 (b0 + 3) _ = H4
  have hg4:H4.get (b0 + 3) = some (.cells [growV b0] grT 1):=set_get hs4
  have n4:=set_n hs4
  have o4:=set_old hs4
  have h40:=(o4 b0 (by omega)).trans ((k3.2 b0 (by omega)).trans ((k2.2 b0 (by omega)).trans ((k1.2 b0 (by omega)).trans hg0)))
  have h41:=(o4 (b0 + 1) (by omega)).trans ((k3.2 (b0 + 1) (by omega)).trans ((k2.2 (b0 + 1) (by omega)).trans hg1))
  have h42:=(o4 (b0 + 2) (by omega)).trans ((k3.2 (b0 + 2) (by omega)).trans hg2)
  have hG4:Gs b0 n (ieV bf bb b1 b2) H4 nilS:=⟨h40,h41,h42,hg4⟩
  rw [hb0] at hJ hE
  have hJ4:J H4:=hJ H H4 hJ0 (by omega) fun p hp=>(o4 p (by omega)).trans ((k3.2 p (by omega)).trans ((k2.2 p (by omega)).trans ((k1.2 p (by omega)).trans (k0.2 p (by omega)))))
  obtain ⟨F,hF⟩:∃ F:Nat->Option (List Int),F = fun (s:Nat)=>tryG En n s [] 0:=⟨_,rfl⟩
  have hT:fewG En n = loopG F (n + 1) 0:=by rw [fewG,hF]
  rw [hT]
  repeat' first | refine CO.cons rfl ?_ | refine CO.nil ?_ | refine CV.seq ?_ | refine CV.region callees ?_ | refine CV.block ?_ | refine ⟨(⟨by omega,by omega⟩:inI64 _),?_⟩ | refine ⟨_,cell_load ag3 h40 rfl,?_⟩ | fail
  refine CV.loopc ?_
  refine WCv.rounds callees false (α:=Nat × Value) (fun (i,q)=>[(2,pt b0),(3,pt (b0 + 1)),(6,pt (b0 + 2)),(7,pt (b0 + 3)),(11,VJ ((n:Int) + 1)),(12,VJ i)]) (fun (i,q) Hz=>i<=n + 1∧J Hz∧Gs b0 n (ieV bf bb b1 b2) Hz q∧PreQ (b0 + 4) Hz q []∧H4.n<=Hz.n∧loopG F (n + 1 - i) i = loopG F (n + 1) 0) (fun (i,q)=>n + 1 - i) (0,nilS) (by repeat' first | exact trivial | refine ⟨rfl,?_⟩ | refine ⟨slot_int (by (try simp only [Int.toNat_natCast]); omega),?_⟩) ?_ ?_
  · exact ⟨by omega,hJ4,hG4,.inl ⟨rfl,rfl⟩,Nat.le_refl _,rfl⟩
  rintro ⟨i,q⟩ Hx ⟨hin,hJx,hG,hP,lx,heq⟩ hBx
  by_cases hi2:i < n + 1
  · have hih:=grow_spec (B:=B) (b0:=b0) (n:=n) (bf:=bf) (bb:=bb) (b1:=b1) (b2:=b2) (En:=En) J (by omega) hn hJ hE i [] 0 Hx q (by omega) hJx hG hP (Nat.zero_le _) trivial (fun x hx=>by cases hx) (by omega) (by omega)
    repeat' first | refine CO.cons rfl ?_ | refine CO.nil ?_ | refine CV.seq ?_ | refine CV.region callees ?_ | refine CV.cond ?_ | refine CV.block ?_ | refine CV.skip ?_ | refine ⟨_,cell_load agGr hG.g rfl,?_⟩ | (refine ⟨fun _=>?_,fun _=>?_⟩<;>try (exfalso; omega)) | fail
    refine hih.mono ?_
    rintro r X3 ⟨hJ3,l3,q3,hG3,hm3⟩
    have hFi:F i = tryG En n i [] 0:=by rw [hF]
    rw [<- hFi] at hm3
    have en:n + 1 - i = (n + 1 - (i + 1)) + 1:=by omega
    rw [en] at heq
    cases hFv:F i with
    | some s =>
      rw [hFv] at hm3
      obtain ⟨rfl,hP3⟩:=hm3
      rw [loopG_hit hFv] at heq
      repeat' first | refine CO.cons rfl ?_ | refine CO.nil ?_ | refine CV.seq ?_ | refine CV.region callees ?_ | refine CV.cond ?_ | refine CV.ret ?_ | refine ⟨_,cell_load ag22 hG3.c rfl,?_⟩ | fail
      rw [<- heq]
      have hnt:notTuple q3 = true:=by rcases hP3 with ⟨rfl,_⟩ | ⟨_,_,rfl,_⟩<;>rfl
      exact ⟨by simp only [List.all_cons,List.all_nil,hnt]; rfl,hJ3,by omega,q3,rfl,hP3⟩
    | none =>
      rw [hFv] at hm3
      obtain ⟨rfl,hP3⟩:=hm3
      rw [loopG_step hFv] at heq
      repeat' first | refine CO.cons rfl ?_ | refine CO.nil ?_ | refine CV.region callees ?_ | refine CV.cond ?_ | refine CV.skip ?_ | refine ⟨(⟨by omega,by omega⟩:inI64 _),?_⟩ | fail
      refine ⟨(i + 1,q3),(by repeat' first | exact trivial | refine ⟨rfl,?_⟩ | refine ⟨slot_int (by (try simp only [Int.toNat_natCast]); omega),?_⟩),(by (try dsimp only); omega),?_⟩
      exact ⟨by omega,hJ3,hG3,hP3,by omega,heq⟩
  obtain rfl:i = n + 1:=by omega
  repeat' first | refine CO.cons rfl ?_ | refine CO.nil ?_ | refine CV.seq ?_ | refine CV.region callees ?_ | refine CV.cond ?_ | refine CV.exit ?_ | refine CV.ret ?_ | (refine ⟨fun _=>?_,fun _=>?_⟩<;>try (exfalso; omega)) | fail
  rw [<- heq,Nat.sub_self]
  exact ⟨rfl,hJx,by omega,rfl⟩
theorem posI_snoc {l:List Int} {x a:Int} (h:x ∉ l):posI (l ++ [x]) a = if a = x then (l.length:Int) else posI l a:=by
  unfold posI
  by_cases e:a = x
  · subst e
    rw [if_pos (by simp),if_pos rfl,List.idxOf_append,if_neg h,List.idxOf_cons_self]
    simp
  · rw [if_neg e]
    by_cases m:a ∈ l
    · rw [if_pos (by simp [m]),if_pos m,List.idxOf_append,if_pos m]
    · rw [if_neg (by simp [m,e]),if_neg m]
theorem asc_notin {n:Nat}:∀ {t:List Int} {f i:Nat},Asc n f t->i < t.length->t[i]! ∉ t.take i
  | [],_,_,_,h=>by simp at h
  | y :: t,f,0,_,_=>by simp
  | y :: t,f,i + 1,ha,h=>by
    have hi:i < t.length:=by simpa using h
    have e:(y :: t)[i + 1]! = t[i]!:=by simp
    rw [e,List.take_succ_cons,List.mem_cons]
    rintro (h1 | h1)
    · have:=asc_in ha.2.2 t[i]! (by rw [getElem!_pos t i hi]; exact List.getElem_mem _)
      have:=ha.1
      omega
    · exact asc_notin ha.2.2 hi h1
set_option maxHeartbeats 16000000 in
set_option maxRecDepth 100000 in
theorem onlyR_spec {B:Nat} {H:Heap} {cv tv qv:Value} {cs:List Co} {ts:List (Int × Int)} {c:List Int} (hB:B<=H.n) (hc:RowS 7 H cv (cs.map Col)) (ht:RowS 2 H tv (ts.map Hl)) (hq:Ints H qv c) (hf:FOk cs ts) (ha:Asc cs.length 0 c) :
    CallB Try.prog B 59 [Fv cv tv,qv] H (fun r H'=>(∃ u w,r = Fv u w∧OwnC H' u (onlyC cs c) H.n∧OwnT H' w (onlyT ts c) H.n)∧Keep H H'):=by
  have hn12:=hf.n
  have hm40:=hf.m
  have hcl:=asc_len (Nat.zero_le _) ha
  refine CV.enter callees false rfl Try.func59 rfl (by kernel_rfl) (Nat.le_of_ble_eq_true rfl) hB ?_
  repeat' first | refine CO.cons rfl ?_ | refine CV.seq ?_ | refine CV.region callees ?_ | fail
  refine ⟨(by simp only [notTuple]),?_⟩
  rw [allocFv hc.cells.1 ht.cells.1]
  generalize hs0:Heap.new H _ = H0
  have hg0:=new_get hs0
  have k0:=new_keep hs0
  have n0:=new_n hs0
  obtain ⟨b0,hbn0⟩:∃ b,Heap.n H = b:=⟨_,rfl⟩
  rw [hbn0] at hg0 n0 ⊢
  repeat' first | refine CO.cons rfl ?_ | fail
  refine ⟨_,_,al28,?_⟩
  generalize hs1:Heap.new H0 _ = H1
  have hg1:=new_get hs1
  have k1:=new_keep hs1
  have n1:=new_n hs1
  obtain ⟨b1,hbn1⟩:∃ b,Heap.n H0 = b:=⟨_,rfl⟩
  rw [hbn1] at hg1 n1 ⊢
  have k01:=k0.trans k1
  have hf1:=(k1.2 b0 (by omega)).trans hg0
  have hc1:=hc.keep k01
  repeat' first | refine CO.cons rfl ?_ | refine CO.nil ?_ | refine CV.seq ?_ | refine CV.region callees ?_ | refine ⟨_,fS foF0 (by decide),?_⟩ | refine ⟨_,cell_load ag25 hf1 rfl,?_⟩ | refine ⟨_,cs_len hc1,?_⟩ | fail
  refine ⟨_,_,make_row un22 one3 (by omega) cs.length (by omega),?_⟩
  generalize hs2:Heap.new H1 _ = H2
  have hg2:=new_get hs2
  have k2:=new_keep hs2
  have n2:=new_n hs2
  obtain ⟨b2,hbn2⟩:∃ b,Heap.n H1 = b:=⟨_,rfl⟩
  rw [hbn2] at hg2 n2 ⊢
  have hf2:=(k2.2 b0 (by omega)).trans hf1
  have hr2:=(k2.2 b1 (by omega)).trans hg1
  have k02:=k01.trans k2
  have ho2:Own 3 H2 (.slice (some ⟨b2,0,none⟩) cs.length 0) ((List.replicate cs.length (0:Int)).map VJ) b2:=.inr ⟨b2,by simp,Nat.le_refl _,by omega,by rw [hg2]; simp⟩
  obtain ⟨sv,hsv⟩:∃ sv,Value.slice (some ⟨b2,0,none⟩) cs.length 0 = sv:=⟨_,rfl⟩
  have hblk:blkOf sv = some b2:=by rw [<- hsv]; rfl
  rw [hsv] at ho2 ⊢
  have hbne:∀ c,c ≠ b2->blkOf sv ≠ some c:=fun c hc h=>by rw [hblk] at h; cases h; exact hc rfl
  repeat' first | refine CO.cons rfl ?_ | refine CO.nil ?_ | refine CV.seq ?_ | refine CV.region callees ?_ | refine CV.block ?_ | fail
  refine CV.loopc ?_
  refine WCv.rounds callees false (α:=Nat × List Int) (fun (i,A)=>[(1,qv),(2,.pointer (some ⟨b0,0,none⟩)),(4,.pointer (some ⟨b1,0,none⟩)),(5,sv),(6,VJ i)]) (fun (i,A) Hz=>i<=cs.length∧A.length = cs.length∧(∀ j:Nat,j < i->A[j]! = -1)∧Hz.get b0 = some (.cells (Fl cv tv) 25 1)∧Hz.get b1 = some (.cells (Fl nilS nilS) 25 1)∧Own 3 Hz sv (A.map VJ) b2∧Keep H Hz∧b2 < Hz.n) (fun (i,A)=>cs.length - i) (0,List.replicate cs.length (0:Int)) (by repeat' first | exact trivial | refine ⟨rfl,?_⟩ | refine ⟨slot_int (by (try simp only [Int.toNat_natCast]); omega),?_⟩) ?_ ?_
  · exact ⟨by omega,by simp,fun j hj=>by omega,hf2,hr2,ho2,k02,by omega⟩
  clear hf2 hr2 ho2 k02 hf1 hc1
  rintro ⟨i,A⟩ Hx ⟨hi,hAl,hA,hfx,hrx,hox,kx,lx⟩ hBx
  have hIx:Ints Hx sv A:=hox.row
  by_cases hi2:i < cs.length
  · repeat' first | refine CO.cons rfl ?_ | refine CO.nil ?_ | refine CV.seq ?_ | refine CV.region callees ?_ | refine CV.cond ?_ | refine CV.block ?_ | refine CV.skip ?_ | refine ⟨_,ints_len (by assumption),?_⟩ | refine ⟨_,ints_addr (by assumption) (by omega) (by omega),?_⟩ | (refine ⟨fun _=>?_,fun _=>?_⟩<;>try (exfalso; omega)) | fail
    refine put_ask (y:=-1) hox (by omega) (by omega) ?_
    intro H3 ho3 kb3
    have l3:=kb3.le
    rw [Int.toNat_natCast] at ho3
    repeat' first | refine CO.cons rfl ?_ | refine CO.nil ?_ | refine CV.region callees ?_ | refine ⟨(⟨by omega,by omega⟩:inI64 _),?_⟩ | fail
    refine ⟨(i + 1,A.set i (-1)),(by repeat' first | exact trivial | refine ⟨rfl,?_⟩ | refine ⟨slot_int (by (try simp only [Int.toNat_natCast]); omega),?_⟩),(by (try dsimp only); omega),?_⟩
    refine ⟨by omega,by rw [List.length_set]; exact hAl,fun j hj=>?_,(kb3.get b0 (by omega) (hbne b0 (by omega))).trans hfx,(kb3.get b1 (by omega) (hbne b1 (by omega))).trans hrx,ho3,kb3.keep kx (fun c hc=>by rw [hblk] at hc; cases hc; omega),by omega⟩
    rw [getS (by omega)]
    by_cases hji:i = j
    · rw [if_pos hji]
    · rw [if_neg hji]; exact hA j (by omega)
  obtain rfl:i = cs.length:=by omega
  repeat' first | refine CO.cons rfl ?_ | refine CO.nil ?_ | refine CV.seq ?_ | refine CV.region callees ?_ | refine CV.cond ?_ | refine CV.exit ?_ | refine ⟨_,ints_len (by assumption),?_⟩ | (refine ⟨fun _=>?_,fun _=>?_⟩<;>try (exfalso; omega)) | fail
  refine ⟨_,_,al28,?_⟩
  generalize hs3:Heap.new Hx _ = H3
  have hg3:=new_get hs3
  have k3:=new_keep hs3
  have n3:=new_n hs3
  obtain ⟨b3,hbn3⟩:∃ b,Heap.n Hx = b:=⟨_,rfl⟩
  rw [hbn3] at hg3 n3 ⊢
  have kx3:=kx.trans k3
  have hf3:=(k3.2 b0 (by omega)).trans hfx
  have hr3:=(k3.2 b1 (by omega)).trans hrx
  have ho3:Own 3 H3 sv (A.map VJ) b2:=hox.keep k3
  clear hIx
  repeat' first | refine CO.cons rfl ?_ | refine CO.nil ?_ | refine CV.seq ?_ | refine CV.region callees ?_ | refine CV.block ?_ | fail
  refine CV.loopc ?_
  refine WCv.rounds callees false (α:=Nat × List Int × Value) (fun (i,A,u)=>[(1,qv),(2,.pointer (some ⟨b0,0,none⟩)),(4,.pointer (some ⟨b1,0,none⟩)),(5,sv),(7,.pointer (some ⟨b3,0,none⟩)),(8,VJ i)]) (fun (i,A,u) Hz=>i<=c.length∧A.length = cs.length∧(∀ j:Nat,j < cs.length->A[j]! = posI (c.take i) j)∧Hz.get b0 = some (.cells (Fl cv tv) 25 1)∧Hz.get b1 = some (.cells (Fl nilS nilS) 25 1)∧Hz.get b3 = some (.cells (Fl u nilS) 25 1)∧Own 3 Hz sv (A.map VJ) b2∧OwnC Hz u (onlyC cs (c.take i)) H3.n∧Keep H Hz∧H3.n<=Hz.n) (fun (i,A,u)=>c.length - i) (0,A,nilS) (by repeat' first | exact trivial | refine ⟨rfl,?_⟩ | refine ⟨slot_int (by (try simp only [Int.toNat_natCast]); omega),?_⟩) ?_ ?_
  · exact ⟨by omega,hAl,fun j hj=>by rw [hA j (by omega)]; simp [posI],hf3,hr3,hg3,ho3,OwnS.nil,kx3,Nat.le_refl _⟩
  clear hf3 hr3 ho3 hA hAl hox hfx hrx hi2
  rintro ⟨i,A,u⟩ Hy ⟨hi,hAl,hA,hfy,hry,hgy,hoy,huy,ky,ly⟩ hBy
  have hIy:Ints Hy sv A:=hoy.row
  have hqy:Ints Hy qv c:=Row.keep hq ky
  by_cases hi2:i < c.length
  · have hin:=asc_in ha c[i]! (by rw [getElem!_pos c i hi2]; exact List.getElem_mem _)
    have hno:=asc_notin ha hi2
    have hxi:c[(i:Int).toNat]! = c[i]!:=rfl
    obtain ⟨x,hx⟩:∃ x,c[i]! = x:=⟨_,rfl⟩
    rw [hx] at hin hxi hno
    repeat' first | refine CO.cons rfl ?_ | refine CO.nil ?_ | refine CV.seq ?_ | refine CV.region callees ?_ | refine CV.cond ?_ | refine CV.block ?_ | refine CV.skip ?_ | refine ⟨_,ints_len (by assumption),?_⟩ | refine ⟨_,ints_addr (by assumption) (by omega) (by omega),?_⟩ | refine ⟨_,ints_load (by assumption) (by omega) (by omega),?_⟩ | (refine ⟨fun _=>?_,fun _=>?_⟩<;>try (exfalso; omega)) | fail
    rw [hxi]
    repeat' first | fail
    refine put_ask (i:=x.toNat) (y:=(i:Int)) hoy (by omega) (by omega) ?_
    intro H4 ho4 kb4
    have l4:=kb4.le
    have hf4:=(kb4.get b0 (by omega) (hbne b0 (by omega))).trans hfy
    have hr4:=(kb4.get b1 (by omega) (hbne b1 (by omega))).trans hry
    have hg4:=(kb4.get b3 (by omega) (hbne b3 (by omega))).trans hgy
    have k4:Keep H H4:=kb4.keep ky fun c hc=>by rw [hblk] at hc; cases hc; omega
    have hu4:OwnC H4 u (onlyC cs (c.take i)) H3.n:=ownS_keepBt huy kb4 fun q hq h=>by rw [hblk] at h; cases h; have:=(huy.lt hq).1; omega
    have hc4:=hc.keep k4
    clear hIy hqy
    have hq4:Ints H4 qv c:=Row.keep hq k4
    have hgN:(H4.new (.cells (Col cs[x.toNat]!) 32 2)).get b3 = some (.cells (Fl u nilS) 25 1):=((Keep.new H4 _).2 b3 (by omega)).trans hg4
    have kN:=Keep.new H4 (.cells (Col cs[x.toNat]!) 32 2)
    repeat' first | refine CO.nil ?_ | refine CG.cons rfl ?_ | refine ⟨_,ints_addr (by assumption) (by omega) (by omega),?_⟩ | refine ⟨_,ints_load (by assumption) (by omega) (by omega),?_⟩ | refine CV.ap callees rfl rfl [0,1,2,3,4,5,6,7,8,9,10] (by kernel_rfl) ?_ | refine ⟨_,fS foF0 (by decide),?_⟩ | refine ⟨_,cell_load ag25 hg4 rfl,?_⟩ | refine ⟨_,cell_load ag25 hf4 rfl,?_⟩ | fail
    rw [hxi]
    repeat' first | refine CO.cons rfl ?_ | refine CG.cons rfl ?_ | refine CG.nil ?_ | refine ⟨_,cs_addr hc4 (by omega) (by omega),?_⟩ | refine ⟨_,cs_load hc4 (by omega),?_⟩ | refine ⟨_,_,co_one,?_⟩ | fail
    refine co_push hu4 (by omega) (by omega) (by simp [onlyC]; omega) ?_
    intro u' H5 hu5 kb5 hf5
    have l5:=kb5.le
    have hqa:∀ q,blkOf u = some q->H3.n<=q:=fun q hq=>(hu4.lt hq).1
    have hg5:=(kb5.get b3 (by omega) (fun h=>by have:=hqa _ h; omega)).trans hg4
    have hf5':=(kb5.get b0 (by omega) (fun h=>by have:=hqa _ h; omega)).trans hf4
    have hr5:=(kb5.get b1 (by omega) (fun h=>by have:=hqa _ h; omega)).trans hr4
    have ho5:Own 3 H5 sv ((A.set x.toNat (i:Int)).map VJ) b2:=own_keepF ho4 (by omega) (fun q hq=>by rw [hblk] at hq; cases hq; exact kb5.get b2 (by omega) (fun h=>by have:=hqa _ h; omega))
    have k5:Keep H H5:=kb5.keep k4 fun q hq=>by have:=hqa _ hq; have:=kx.1; omega
    repeat' first | refine CO.cons rfl ?_ | refine ⟨_,fS foF0 (by decide),?_⟩ | fail
    refine ⟨_,_,store_row (i:=0) sz25 hg5 (by show 0 < 2; decide) hu5.oneC,by omega,?_⟩
    generalize hsA:Heap.set H5 b3 _ = HA
    have hgA:HA.get b3 = some (.cells (Fl u' nilS) 25 1):=set_get hsA
    have nA:=set_n hsA
    have oA:=set_old hsA
    repeat' first | refine CO.cons rfl ?_ | refine CO.nil ?_ | refine CV.region callees ?_ | refine ⟨(⟨by omega,by omega⟩:inI64 _),?_⟩ | fail
    refine ⟨(i + 1,A.set x.toNat (i:Int),u'),(by repeat' first | exact trivial | refine ⟨rfl,?_⟩ | refine ⟨slot_int (by (try simp only [Int.toNat_natCast]); omega),?_⟩),(by (try dsimp only); omega),?_⟩
    have kA:KeepX b3 H5 HA:=⟨by omega,fun q hq hql=>oA q hql⟩
    refine ⟨by omega,by rw [List.length_set]; exact hAl,fun j hj=>?_,(oA b0 (by omega)).trans hf5',(oA b1 (by omega)).trans hr5,hgA,own_keepN ho5 kA (by rw [hblk]; intro h; cases h; omega),by rw [onlyC_snoc hi2,hx]; exact OwnS.keepX hu5 kA hg5,⟨by have:=k5.1; omega,fun p hp=>(oA p (by have:=kx.1; omega)).trans (k5.2 p hp)⟩,by omega⟩
    rw [getS (by omega),List.take_add_one,List.getElem?_eq_getElem hi2]
    have e2:c.take i ++ (some c[i]).toList = c.take i ++ [x]:=by rw [<- hx,getElem!_pos c i hi2]; rfl
    rw [e2,posI_snoc hno,List.length_take,Nat.min_eq_left (by omega)]
    by_cases e:x.toNat = j
    · rw [if_pos e,if_pos (by omega)]
    · rw [if_neg e,if_neg (by omega)]; exact hA j hj
  obtain rfl:i = c.length:=by omega
  rw [List.take_length] at huy hA
  repeat' first | refine CO.cons rfl ?_ | refine CO.nil ?_ | refine CV.seq ?_ | refine CV.region callees ?_ | refine CV.cond ?_ | refine CV.block ?_ | refine CV.exit ?_ | refine ⟨_,ints_len (by assumption),?_⟩ | (refine ⟨fun _=>?_,fun _=>?_⟩<;>try (exfalso; omega)) | fail
  refine CV.loopc ?_
  refine WCv.rounds callees false (α:=Nat × Value) (fun (i,w)=>[(1,qv),(2,.pointer (some ⟨b0,0,none⟩)),(4,.pointer (some ⟨b1,0,none⟩)),(5,sv),(7,.pointer (some ⟨b3,0,none⟩)),(9,VJ i)]) (fun (i,w) Hz=>i<=ts.length∧KeepX b3 Hy Hz∧Hz.get b3 = some (.cells (Fl u w) 25 1)∧OwnT Hz w (onlyT (ts.take i) c) Hy.n) (fun (i,w)=>ts.length - i) (0,nilS) (by repeat' first | exact trivial | refine ⟨rfl,?_⟩ | refine ⟨slot_int (by (try simp only [Int.toNat_natCast]); omega),?_⟩) ?_ ?_
  · exact ⟨by omega,⟨Nat.le_refl _,fun _ _ _=>rfl⟩,hgy,OwnS.nil⟩
  clear hIy hqy
  rintro ⟨i,w⟩ Hw ⟨hi,xw,hgw,hw⟩ hBw
  have lw:=xw.1
  have kw:Keep H Hw:=⟨by have:=ky.1; omega,fun q hq=>(xw.2 q (by omega) (by have:=kx.1; omega)).trans (ky.2 q hq)⟩
  have hfw:=(xw.2 b0 (by omega) (by omega)).trans hfy
  have hrw:=(xw.2 b1 (by omega) (by omega)).trans hry
  have htw:=ht.keep kw
  have how:Own 3 Hw sv (A.map VJ) b2:=hoy.keepX xw hgy
  have hIw:Ints Hw sv A:=how.row
  have huw:OwnC Hw u (onlyC cs c) H3.n:=OwnS.keepX huy xw hgy
  by_cases hi2:i < ts.length
  · obtain ⟨x,hx⟩:∃ x,ts[i]! = x:=⟨_,rfl⟩
    have hti:=hf.t i hi2
    rw [hx] at hti
    have hxi:ts[(i:Int).toNat]! = x:=hx
    have ta:=(ts_a htw hi2)
    have tb:=(ts_b htw hi2)
    rw [hx] at ta tb
    have ea:A[x.1.toNat]! = posI c x.1:=by rw [hA _ (by omega)]; congr 1; omega
    have eb:A[x.2.toNat]! = posI c x.2:=by rw [hA _ (by omega)]; congr 1; omega
    obtain ⟨pa,hpa⟩:∃ p,posI c x.1 = p:=⟨_,rfl⟩
    obtain ⟨pb,hpb⟩:∃ p,posI c x.2 = p:=⟨_,rfl⟩
    rw [hpa] at ea
    rw [hpb] at eb
    have hpt:posT c x = if 0<=pa∧0<=pb then [(pa,pb)] else []:=by unfold posT; rw [hpa,hpb]
    have hol:(onlyT (ts.take i) c).length<=40:=Nat.le_trans onlyT_len (by rw [List.length_take]; omega)
    by_cases hp:0<=pa∧0<=pb
    · obtain ⟨hp1,hp2⟩:=hp
      have hgM:(Hw.new (.cells (Hl (pa,pb)) 99 2)).get b3 = some (.cells (Fl u w) 25 1):=((Keep.new Hw _).2 b3 (by omega)).trans hgw
      repeat' first | refine CO.cons rfl ?_ | refine CO.nil ?_ | refine CV.seq ?_ | refine CV.region callees ?_ | refine CV.cond ?_ | refine CV.block ?_ | refine CV.skip ?_ | refine CV.draw callees (by decide +kernel) ?_ | refine CH.cons rfl ?_ | refine CH.nil ?_ | refine CO.consG rfl ?_ | refine ⟨_,ints_addr (by assumption) (by omega) (by omega),?_⟩ | refine ⟨_,ints_load (by assumption) (by omega) (by omega),?_⟩ | refine ⟨_,fS foF1 (by decide),?_⟩ | refine ⟨_,cell_load ag26 hfw rfl,?_⟩ | refine ⟨_,cell_load ag26 hgw rfl,?_⟩ | refine ⟨_,ts_len htw,?_⟩ | refine ⟨_,ts_addr htw (by omega) (by omega),?_⟩ | refine ⟨_,ts_f htw foT0 (by decide) hi2,?_⟩ | refine ⟨_,ts_f htw foT1 (by decide) hi2,?_⟩ | refine ⟨_,ta,?_⟩ | refine ⟨_,tb,?_⟩ | refine ⟨_,bu82,?_⟩ | refine ⟨_,_,to_one,?_⟩ | (refine ⟨fun _=>?_,fun _=>?_⟩<;>try (exfalso; omega)) | fail
      rw [ea,eb]
      refine to_push hw (by omega) (by omega) (by omega) ?_
      intro w' H7 hw7 kb7 hf7
      have l7:=kb7.le
      have hqa:∀ q,blkOf w = some q->Hy.n<=q:=fun q hq=>(hw.lt hq).1
      have hg7:=(kb7.get b3 (by omega) (fun h=>by have:=hqa _ h; omega)).trans hgw
      have x7:=kb7.keepX xw fun q hq=>by have:=hqa _ hq; omega
      repeat' first | refine CO.cons rfl ?_ | refine ⟨_,fS foF1 (by decide),?_⟩ | fail
      refine ⟨_,_,store_row (i:=1) sz26 hg7 (by show 1 < 2; decide) hw7.oneC,by omega,?_⟩
      generalize hsA:Heap.set H7 b3 _ = HA
      have hgA:HA.get b3 = some (.cells (Fl u w') 25 1):=set_get hsA
      have nA:=set_n hsA
      have oA:=set_old hsA
      repeat' first | refine CO.cons rfl ?_ | refine CO.nil ?_ | refine CV.region callees ?_ | refine ⟨(⟨by omega,by omega⟩:inI64 _),?_⟩ | fail
      refine ⟨(i + 1,w'),(by repeat' first | exact trivial | refine ⟨rfl,?_⟩ | refine ⟨slot_int (by (try simp only [Int.toNat_natCast]); omega),?_⟩),(by (try dsimp only); omega),?_⟩
      have kA:KeepX b3 H7 HA:=⟨by omega,fun q hq hql=>oA q hql⟩
      exact ⟨by omega,x7.trans kA,hgA,by rw [onlyT_snoc hi2,hx,hpt,if_pos ⟨hp1,hp2⟩]; exact OwnS.keepX hw7 kA hg7⟩
    · have hT:onlyT (ts.take (i + 1)) c = onlyT (ts.take i) c:=by rw [onlyT_snoc hi2,hx,hpt,if_neg hp,List.append_nil]
      by_cases hp1:0<=pa
      · have hp2:¬ 0<=pb:=fun h=>hp ⟨hp1,h⟩
        repeat' first | refine CO.cons rfl ?_ | refine CO.nil ?_ | refine CV.seq ?_ | refine CV.region callees ?_ | refine CV.cond ?_ | refine CV.block ?_ | refine CV.skip ?_ | refine CV.draw callees (by decide +kernel) ?_ | refine CH.cons rfl ?_ | refine CH.nil ?_ | refine CO.consG rfl ?_ | refine ⟨_,ints_addr (by assumption) (by omega) (by omega),?_⟩ | refine ⟨_,ints_load (by assumption) (by omega) (by omega),?_⟩ | refine ⟨(⟨by omega,by omega⟩:inI64 _),?_⟩ | refine ⟨_,fS foF1 (by decide),?_⟩ | refine ⟨_,cell_load ag26 hfw rfl,?_⟩ | refine ⟨_,ts_len htw,?_⟩ | refine ⟨_,ts_addr htw (by omega) (by omega),?_⟩ | refine ⟨_,ts_f htw foT0 (by decide) hi2,?_⟩ | refine ⟨_,ts_f htw foT1 (by decide) hi2,?_⟩ | refine ⟨_,ta,?_⟩ | refine ⟨_,tb,?_⟩ | (refine ⟨fun _=>?_,fun _=>?_⟩<;>try (exfalso; omega)) | fail
        refine ⟨(i + 1,w),(by repeat' first | exact trivial | refine ⟨rfl,?_⟩ | refine ⟨slot_int (by (try simp only [Int.toNat_natCast]); omega),?_⟩),(by (try dsimp only); omega),?_⟩
        exact ⟨by omega,xw,hgw,by rw [hT]; exact hw⟩
      · repeat' first | refine CO.cons rfl ?_ | refine CO.nil ?_ | refine CV.seq ?_ | refine CV.region callees ?_ | refine CV.cond ?_ | refine CV.block ?_ | refine CV.skip ?_ | refine CV.draw callees (by decide +kernel) ?_ | refine CH.cons rfl ?_ | refine CH.nil ?_ | refine CO.consG rfl ?_ | refine ⟨_,ints_addr (by assumption) (by omega) (by omega),?_⟩ | refine ⟨_,ints_load (by assumption) (by omega) (by omega),?_⟩ | refine ⟨(⟨by omega,by omega⟩:inI64 _),?_⟩ | refine ⟨_,fS foF1 (by decide),?_⟩ | refine ⟨_,cell_load ag26 hfw rfl,?_⟩ | refine ⟨_,ts_len htw,?_⟩ | refine ⟨_,ts_addr htw (by omega) (by omega),?_⟩ | refine ⟨_,ts_f htw foT0 (by decide) hi2,?_⟩ | refine ⟨_,ts_f htw foT1 (by decide) hi2,?_⟩ | refine ⟨_,ta,?_⟩ | refine ⟨_,tb,?_⟩ | (refine ⟨fun _=>?_,fun _=>?_⟩<;>try (exfalso; omega)) | fail
        refine ⟨(i + 1,w),(by repeat' first | exact trivial | refine ⟨rfl,?_⟩ | refine ⟨slot_int (by (try simp only [Int.toNat_natCast]); omega),?_⟩),(by (try dsimp only); omega),?_⟩
        exact ⟨by omega,xw,hgw,by rw [hT]; exact hw⟩
  obtain rfl:i = ts.length:=by omega
  rw [List.take_length] at hw
  repeat' first | refine CO.cons rfl ?_ | refine CO.nil ?_ | refine CV.seq ?_ | refine CV.region callees ?_ | refine CV.cond ?_ | refine CV.exit ?_ | refine ⟨_,fS foF1 (by decide),?_⟩ | refine ⟨_,cell_load ag26 hfw rfl,?_⟩ | refine ⟨_,ts_len htw,?_⟩ | refine ⟨_,ld28 hgw,?_⟩ | (refine ⟨fun _=>?_,fun _=>?_⟩<;>try (exfalso; omega)) | fail
  refine ⟨_,_,st28 huw.oneC hw.oneC hrw,by omega,?_⟩
  generalize hsz:Heap.set Hw b1 _ = Hz
  have hgz:Hz.get b1 = some (.cells (Fl u w) 25 1):=set_get hsz
  have nz:=set_n hsz
  have oz:=set_old hsz
  repeat' first | refine CO.nil ?_ | refine CV.ret ?_ | fail
  have kz:KeepX b1 Hw Hz:=⟨by omega,fun q hq hql=>oz q hql⟩
  exact ⟨_,ld28 hgz,rfl,⟨u,w,rfl,OwnS.low (OwnS.keepX huw kz hrw) (by omega),OwnS.low (OwnS.keepX hw kz hrw) (by have:=ky.1; omega)⟩,keep_put kw (by omega) oz nz⟩
theorem drop_atk {a:List Int} {i:Nat} (h:i < a.length):a.drop i = a[i]! :: a.drop (i + 1):=by
  rw [List.drop_eq_getElem_cons h,getElem!_pos a i h]
set_option maxRecDepth 100000 in
theorem less_spec {B:Nat} {H:Heap} {av bv:Value} {a b:List Int} (hB:B<=H.n) (ha:Ints H av a) (hb:Ints H bv b) (hl:a.length = b.length) (hn:a.length < 1000000) :
    CallB Try.prog B 61 [av,bv] H (fun v H'=>v = .bool (lessB a b)∧Keep H H'):=by
  refine CV.enter callees false rfl Try.func61 rfl (by kernel_rfl) (Nat.le_of_ble_eq_true rfl) hB ?_
  repeat' first | refine CO.cons rfl ?_ | refine CO.nil ?_ | refine CV.seq ?_ | refine CV.region callees ?_ | refine CV.block ?_ | fail
  refine CV.loopc ?_
  refine WCv.rounds callees false (α:=Nat) (fun i=>[(0,av),(1,bv),(5,VJ i)]) (fun i Hz=>i<=a.length∧lessB (a.drop i) (b.drop i) = lessB a b∧Keep H Hz) (fun i=>a.length - i) (0) (by repeat' first | exact trivial | refine ⟨rfl,?_⟩ | refine ⟨slot_int (by (try simp only [Int.toNat_natCast]); omega),?_⟩) ?_ ?_
  · exact ⟨by omega,rfl,Keep.refl _⟩
  rintro i Hx ⟨hi,hw,kx⟩ hBx
  have hax:Ints Hx av a:=Row.keep ha kx
  have hbx:Ints Hx bv b:=Row.keep hb kx
  by_cases hi2:i < a.length
  · rw [drop_atk hi2,drop_atk (show i < b.length by omega)] at hw
    simp only [lessB] at hw
    have hai:a[(i:Int).toNat]! = a[i]!:=rfl
    have hbi:b[(i:Int).toNat]! = b[i]!:=rfl
    by_cases e:a[i]! = b[i]!
    · rw [if_pos e] at hw
      repeat' first | refine CO.cons rfl ?_ | refine CO.nil ?_ | refine CV.seq ?_ | refine CV.region callees ?_ | refine CV.cond ?_ | refine CV.block ?_ | refine CV.skip ?_ | refine CV.draw callees (by decide +kernel) ?_ | refine CH.cons rfl ?_ | refine CH.nil ?_ | refine CO.consG rfl ?_ | refine ⟨_,ints_len (by assumption),?_⟩ | refine ⟨_,ints_addr (by assumption) (by omega) (by omega),?_⟩ | refine ⟨_,ints_load (by assumption) (by omega) (by omega),?_⟩ | refine ⟨(⟨by omega,by omega⟩:inI64 _),?_⟩ | (refine ⟨fun _=>?_,fun _=>?_⟩<;>try (exfalso; omega)) | fail
      refine ⟨(i + 1),(by repeat' first | exact trivial | refine ⟨rfl,?_⟩ | refine ⟨slot_int (by (try simp only [Int.toNat_natCast]); omega),?_⟩),(by (try dsimp only); omega),?_⟩
      exact ⟨by omega,hw,kx⟩
    · rw [if_neg e] at hw
      rw [<- hw]
      by_cases c:a[i]! < b[i]!
      · rw [decide_eq_true c]
        repeat' first | refine CO.cons rfl ?_ | refine CO.nil ?_ | refine CV.seq ?_ | refine CV.region callees ?_ | refine CV.cond ?_ | refine CV.block ?_ | refine CV.skip ?_ | refine CV.ret ?_ | refine CV.draw callees (by decide +kernel) ?_ | refine CH.cons rfl ?_ | refine CH.nil ?_ | refine CO.consG rfl ?_ | refine ⟨_,ints_len (by assumption),?_⟩ | refine ⟨_,ints_addr (by assumption) (by omega) (by omega),?_⟩ | refine ⟨_,ints_load (by assumption) (by omega) (by omega),?_⟩ | (refine ⟨fun _=>?_,fun _=>?_⟩<;>try (exfalso; omega)) | fail
        exact ⟨rfl,rfl,kx⟩
      · rw [decide_eq_false c]
        repeat' first | refine CO.cons rfl ?_ | refine CO.nil ?_ | refine CV.seq ?_ | refine CV.region callees ?_ | refine CV.cond ?_ | refine CV.block ?_ | refine CV.skip ?_ | refine CV.ret ?_ | refine CV.draw callees (by decide +kernel) ?_ | refine CH.cons rfl ?_ | refine CH.nil ?_ | refine CO.consG rfl ?_ | refine ⟨_,ints_len (by assumption),?_⟩ | refine ⟨_,ints_addr (by assumption) (by omega) (by omega),?_⟩ | refine ⟨_,ints_load (by assumption) (by omega) (by omega),?_⟩ | (refine ⟨fun _=>?_,fun _=>?_⟩<;>try (exfalso; omega)) | fail
        exact ⟨rfl,rfl,kx⟩
  obtain rfl:i = a.length:=by omega
  rw [List.drop_length] at hw
  rw [<- hw]
  repeat' first | refine CO.cons rfl ?_ | refine CO.nil ?_ | refine CV.seq ?_ | refine CV.region callees ?_ | refine CV.cond ?_ | refine CV.exit ?_ | refine CV.ret ?_ | refine CO.consG rfl ?_ | refine ⟨_,ints_len (by assumption),?_⟩ | (refine ⟨fun _=>?_,fun _=>?_⟩<;>try (exfalso; omega)) | fail
  exact ⟨rfl,rfl,kx⟩
set_option maxRecDepth 100000 in
theorem eqInts_spec {B:Nat} {H:Heap} {av bv:Value} {a b:List Int} (hB:B<=H.n) (ha:Ints H av a) (hb:Ints H bv b) (hn:a.length < 1000000) :
    CallB Try.prog B 42 [av,bv] H (fun v H'=>v = .bool (decide (a = b))∧Keep H H'):=by
  refine CV.enter callees false rfl Try.func42 rfl (by kernel_rfl) (Nat.le_of_ble_eq_true rfl) hB ?_
  by_cases hl:a.length = b.length
  · repeat' first | refine CO.cons rfl ?_ | refine CO.nil ?_ | refine CV.seq ?_ | refine CV.region callees ?_ | refine CV.cond ?_ | refine CV.block ?_ | refine CV.skip ?_ | refine ⟨_,ints_len (by assumption),?_⟩ | (refine ⟨fun _=>?_,fun _=>?_⟩<;>try (exfalso; omega)) | fail
    refine CV.loopc ?_
    refine WCv.rounds callees false (α:=Nat) (fun i=>[(0,av),(1,bv),(5,VJ i)]) (fun i Hz=>i<=a.length∧(∀ j,j < i->a[j]! = b[j]!)∧Keep H Hz) (fun i=>a.length - i) (0) (by repeat' first | exact trivial | refine ⟨rfl,?_⟩ | refine ⟨slot_int (by (try simp only [Int.toNat_natCast]); omega),?_⟩) ?_ ?_
    · exact ⟨by omega,fun j hj=>by omega,Keep.refl _⟩
    rintro i Hx ⟨hi,hw,kx⟩ hBx
    have hax:Ints Hx av a:=Row.keep ha kx
    have hbx:Ints Hx bv b:=Row.keep hb kx
    by_cases hi2:i < a.length
    · have hai:a[(i:Int).toNat]! = a[i]!:=rfl
      have hbi:b[(i:Int).toNat]! = b[i]!:=rfl
      by_cases e:a[i]! = b[i]!
      · repeat' first | refine CO.cons rfl ?_ | refine CO.nil ?_ | refine CV.seq ?_ | refine CV.region callees ?_ | refine CV.cond ?_ | refine CV.block ?_ | refine CV.skip ?_ | refine CV.draw callees (by decide +kernel) ?_ | refine CH.cons rfl ?_ | refine CH.nil ?_ | refine ⟨_,ints_len (by assumption),?_⟩ | refine ⟨_,ints_addr (by assumption) (by omega) (by omega),?_⟩ | refine ⟨_,ints_load (by assumption) (by omega) (by omega),?_⟩ | refine ⟨(⟨by omega,by omega⟩:inI64 _),?_⟩ | (refine ⟨fun _=>?_,fun _=>?_⟩<;>try (exfalso; omega)) | fail
        refine ⟨(i + 1),(by repeat' first | exact trivial | refine ⟨rfl,?_⟩ | refine ⟨slot_int (by (try simp only [Int.toNat_natCast]); omega),?_⟩),(by (try dsimp only); omega),?_⟩
        refine ⟨by omega,fun j hj=>?_,kx⟩
        by_cases c:j = i
        · rw [c]; exact e
        · exact hw j (by omega)
      · have hne:¬ a = b:=fun h=>e (by rw [h])
        rw [decide_eq_false hne]
        repeat' first | refine CO.cons rfl ?_ | refine CO.nil ?_ | refine CV.seq ?_ | refine CV.region callees ?_ | refine CV.cond ?_ | refine CV.block ?_ | refine CV.skip ?_ | refine CV.ret ?_ | refine CV.draw callees (by decide +kernel) ?_ | refine CH.cons rfl ?_ | refine CH.nil ?_ | refine ⟨_,ints_len (by assumption),?_⟩ | refine ⟨_,ints_addr (by assumption) (by omega) (by omega),?_⟩ | refine ⟨_,ints_load (by assumption) (by omega) (by omega),?_⟩ | (refine ⟨fun _=>?_,fun _=>?_⟩<;>try (exfalso; omega)) | fail
        exact ⟨rfl,rfl,kx⟩
    obtain rfl:i = a.length:=by omega
    have heq:a = b:=by
      apply List.ext_getElem hl
      intro j h1 h2
      have:=hw j h1
      rw [getElem!_pos a j h1,getElem!_pos b j h2] at this
      exact this
    rw [decide_eq_true heq]
    repeat' first | refine CO.cons rfl ?_ | refine CO.nil ?_ | refine CV.seq ?_ | refine CV.region callees ?_ | refine CV.cond ?_ | refine CV.exit ?_ | refine CV.ret ?_ | refine ⟨_,ints_len (by assumption),?_⟩ | (refine ⟨fun _=>?_,fun _=>?_⟩<;>try (exfalso; omega)) | fail
    exact ⟨rfl,rfl,kx⟩
  · have hne:¬ a = b:=fun h=>hl (by rw [h])
    rw [decide_eq_false hne]
    repeat' first | refine CO.cons rfl ?_ | refine CO.nil ?_ | refine CV.seq ?_ | refine CV.region callees ?_ | refine CV.cond ?_ | refine CV.ret ?_ | refine ⟨_,ints_len (by assumption),?_⟩ | (refine ⟨fun _=>?_,fun _=>?_⟩<;>try (exfalso; omega)) | fail
    exact ⟨rfl,rfl,Keep.refl _⟩
end Go.Proofs.Ytglkphjjinmgmaa
