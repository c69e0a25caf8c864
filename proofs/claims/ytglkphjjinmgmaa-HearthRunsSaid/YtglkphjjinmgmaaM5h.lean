/- Several texts in one. -/
import Derived.Test.YtglkphjjinmgmaaM4h
import Derived.Test.YtglkphjjinmgmaaM3h
set_option linter.unusedVariables false
set_option linter.unusedSimpArgs false
namespace Go.Proofs.Ytglkphjjinmgmaa
open Go.AI
theorem notHeldS:Try.prog.stoodInHeld 27 = false:=by kernel_rfl
set_option maxRecDepth 100000 in
theorem eqSp {a b c d:Int}:pureRun Try.prog (Op.equal 27 (.agg #[.int .i64 a,.int .i64 b]) (.agg #[.int .i64 c,.int .i64 d])) = some ((a == c) && (b == d)):=by
  unfold Op.equal
  rw [show Op.maxDepth = 9998 + 1 + 1 from rfl,Op.equalIn,pureRun_bind,pureRun_underlying Try.underlying27]
  simp only [Option.bind_some]
  rw [pureRun_bind,show pureRun Try.prog program = some Try.prog from rfl,Option.bind_some,if_neg (by rw [notHeldS]; simp),pureRun_bind,<- Array.forIn_toList]
  simp only [List.forIn_cons,List.forIn_nil]
  simp only [pureRun_bind]
  simp only [show ("Lo" ≠ "_") = True from by simp,show ("Hi" ≠ "_") = True from by simp,if_true,pureRun_bind,partT0,Option.bind_some,eq_ints un3]
  cases (a == c) with
  | false=>rfl
  | true =>
    have hp:∀ {α:Type} (x:α),pureRun Try.prog (pure x) = some x:=fun _=>rfl
    simp only [Bool.not_true,Bool.false_eq_true,if_false,hp,Option.bind_some,pureRun_bind,partT1,eq_ints un3,Bool.true_and]
    cases (b == d)<;>rfl
theorem eqSp1 {p:Int × Int}:pureRun Try.prog (Op.equal 27 (Hv p) (Hv p)) = some true:=by
  rw [eqSp]; simp
theorem guardS {op:BinOp} {x y:Operand} {p q:Int × Int}:pureRun Try.prog (eqGuard op 27 x y (Hv p) (Hv q)) = some ():=by
  cases op<;>kernel_rfl
theorem step1_eqS {tm:Tm} {H:Heap} {q:Oper} {u:TypeId} {x y:Operand} {p:Int × Int} (ho:q.op = .binOp .eql 27 x y u) (hx:ev Try.prog tm x = some (Hv p)) (hy:ev Try.prog tm y = some (Hv p)):step1 Try.prog tm H q = some (.bool true,H,H.n):=by
  refine step1_bin ho hx hy rfl rfl (apure_bin ho hx hy rfl rfl guardS ?_ rfl)
  rw [show binOp .eql 27 (Hv p) (Hv p) = (do pure (.bool (<- Op.equal 27 (Hv p) (Hv p)))) from rfl,pureRun_bind,eqSp1]
  rfl
theorem step1_neS {tm:Tm} {H:Heap} {q:Oper} {u:TypeId} {x y:Operand} {p:Int × Int} (ho:q.op = .binOp .neq 27 x y u) (hx:ev Try.prog tm x = some (Hv p)) (hy:ev Try.prog tm y = some (Hv p)):step1 Try.prog tm H q = some (.bool false,H,H.n):=by
  refine step1_bin ho hx hy rfl rfl (apure_bin ho hx hy rfl rfl guardS ?_ rfl)
  rw [show binOp .neq 27 (Hv p) (Hv p) = (do pure (.bool (!(<- Op.equal 27 (Hv p) (Hv p))))) from rfl,pureRun_bind,eqSp1]
  rfl
set_option maxRecDepth 100000 in
theorem lspan_spec {B:Nat} {H:Heap} {x y:Int} (hB:B<=H.n) :
    CallB Try.prog B 50 [VJ x,VJ y] H (fun r H'=>r = Hv (x,y)∧Keep H H'):=by
  refine CV.enter callees false rfl Try.func50 rfl (by kernel_rfl) (Nat.le_of_ble_eq_true rfl) hB ?_
  repeat' first | refine CO.cons rfl ?_ | refine CO.nil ?_ | refine CV.seq ?_ | refine CV.region callees ?_ | refine ⟨_,_,al41,?_⟩ | fail
  generalize hs0:Heap.new H _ = H0
  have hg0:=new_get hs0
  have k0:=new_keep hs0
  have n0:=new_n hs0
  obtain ⟨b0,hbn0⟩:∃ b,Heap.n H = b:=⟨_,rfl⟩
  rw [hbn0] at hg0 n0 ⊢
  repeat' first | refine CO.cons rfl ?_ | refine ⟨_,bu41,?_⟩ | fail
  refine ⟨_,_,st41 hg0,by omega,?_⟩
  generalize hs2:Heap.set H0 b0 _ = H2
  have hg2:H2.get b0 = some (.cells (Hl (x,y)) 27 1):=set_get hs2
  have n2:=set_n hs2
  have o2:=set_old hs2
  repeat' first | refine CO.nil ?_ | refine CV.ret ?_ | fail
  exact ⟨_,ld41 hg2,rfl,rfl,keep_put k0 (by omega) o2 n2⟩
set_option maxRecDepth 100000 in
theorem lone_spec {B:Nat} {H:Heap} {x:Int} (hB:B<=H.n) :
    CallB Try.prog B 62 [VJ x] H (fun r H'=>r = Hv (x,x)∧Keep H H'):=by
  refine CV.enter callees false rfl Try.func62 rfl (by kernel_rfl) (Nat.le_of_ble_eq_true rfl) hB ?_
  repeat' first | refine CO.cons rfl ?_ | refine CO.nil ?_ | refine CV.seq ?_ | refine CV.region callees ?_ | refine ⟨_,_,al41,?_⟩ | fail
  generalize hs0:Heap.new H _ = H0
  have hg0:=new_get hs0
  have k0:=new_keep hs0
  have n0:=new_n hs0
  obtain ⟨b0,hbn0⟩:∃ b,Heap.n H = b:=⟨_,rfl⟩
  rw [hbn0] at hg0 n0 ⊢
  repeat' first | fail
  refine (lspan_spec (by omega)).mono ?_
  rintro r H1 ⟨rfl,k1⟩
  have l1:=k1.1
  have hg1:=(k1.2 b0 (by omega)).trans hg0
  repeat' first | refine CO.cons rfl ?_ | fail
  refine ⟨_,_,st41 hg1,by omega,?_⟩
  generalize hs2:Heap.set H1 b0 _ = H2
  have hg2:H2.get b0 = some (.cells (Hl (x,x)) 27 1):=set_get hs2
  have n2:=set_n hs2
  have o2:=set_old hs2
  repeat' first | refine CO.nil ?_ | refine CV.ret ?_ | fail
  exact ⟨_,ld41 hg2,rfl,rfl,keep_put (k0.trans k1) (by omega) o2 n2⟩
def c3a:Co:=⟨1,1,3,4,10,12,true⟩
def c3b:Co:=⟨2,3,5,5,20,20,false⟩
def c3c:Co:=⟨4,6,2,2,5,5,false⟩
def cs3:List Co:=[c3a,c3b,c3c]
def ts3:List (Int × Int):=[(0,1),(1,2)]
theorem fok3:FOk cs3 ts3:=by
  refine ⟨by decide,fun i hi=>?_,by decide,fun i hi=>?_⟩
  · have hi':i < 3:=hi
    rcases (by omega:i = 0 ∨ i = 1 ∨ i = 2) with rfl | rfl | rfl<;>constructor<;>decide
  · have hi':i < 2:=hi
    rcases (by omega:i = 0 ∨ i = 1) with rfl | rfl<;>decide
theorem arc3 {e:Int} {p:Int × Int} (h:Arc e cs3 ts3 p):p = (0,1) ∨ p = (1,2) ∨ p = (1,0) ∨ p = (2,1):=by
  obtain ⟨a,b⟩:=p
  rcases h.1 with h | h<;>simp [ts3] at h<;>rcases h with ⟨rfl,rfl⟩ | ⟨rfl,rfl⟩<;>simp
def b30:List Int:=[0,2,6]
def b31:List Int:=[0,3,1000000]
theorem beg30:IsBeg 0 cs3 ts3 b30:=by
  refine ⟨rfl,fun i hi=>?_,fun i hi=>?_,fun p hp=>?_,fun i hi hl=>?_⟩
  · have hi':i < 3:=hi
    rcases (by omega:i = 0 ∨ i = 1 ∨ i = 2) with rfl | rfl | rfl<;>decide
  · have hi':i < 3:=hi
    rcases (by omega:i = 0 ∨ i = 1 ∨ i = 2) with rfl | rfl | rfl<;>decide
  · rcases arc3 hp with rfl | rfl | rfl | rfl<;>decide
  · have hi':i < 3:=hi
    rcases (by omega:i = 0 ∨ i = 1 ∨ i = 2) with rfl | rfl | rfl
    · exact absurd hl (by decide)
    · exact .inr ⟨(0,1),⟨.inl (by decide),by decide⟩,by decide⟩
    · exact .inr ⟨(1,2),⟨.inl (by decide),by decide⟩,by decide⟩
theorem beg31:IsBeg 1 cs3 ts3 b31:=by
  refine ⟨rfl,fun i hi=>?_,fun i hi=>?_,fun p hp=>?_,fun i hi hl=>?_⟩
  · have hi':i < 3:=hi
    rcases (by omega:i = 0 ∨ i = 1 ∨ i = 2) with rfl | rfl | rfl<;>decide
  · have hi':i < 3:=hi
    rcases (by omega:i = 0 ∨ i = 1 ∨ i = 2) with rfl | rfl | rfl<;>decide
  · have h2:=hp.2
    rcases arc3 hp with rfl | rfl | rfl | rfl<;>revert h2<;>decide
  · have hi':i < 3:=hi
    rcases (by omega:i = 0 ∨ i = 1 ∨ i = 2) with rfl | rfl | rfl
    · exact absurd hl (by decide)
    · exact .inr ⟨(0,1),⟨.inl (by decide),by decide⟩,by decide⟩
    · exact .inl (by decide)
theorem co_three {H:Heap}:abuildSlice Try.prog H 22 3 [(0,Cov c3a),(1,Cov c3b),(2,Cov c3c)] = some (.slice (some ⟨H.n,0,none⟩) 3 0,H.new (.cells (cs3.map Col).flatten 32 2),H.n):=by kernel_rfl
theorem to_two {H:Heap}:abuildSlice Try.prog H 23 2 [(0,Hv (0,1)),(1,Hv (1,2))] = some (.slice (some ⟨H.n,0,none⟩) 2 0,H.new (.cells (ts3.map Hl).flatten 99 2),H.n):=by kernel_rfl
theorem bu28 {x y:Option Addr} {n m c d:Nat}:abuild Try.prog 25 [(0,.slice x n c),(1,.slice y m d)] = some (Fv (.slice x n c) (.slice y m d)):=by kernel_rfl
set_option maxHeartbeats 4000000 in
set_option maxRecDepth 100000 in
theorem three_spec {B:Nat} {H:Heap} (hB:B<=H.n) :
    CallB Try.prog B 63 [] H (fun r H'=>(∃ cv tv,r = Fv cv tv∧RowS 7 H' cv (cs3.map Col)∧RowS 2 H' tv (ts3.map Hl))∧Keep H H'):=by
  refine CV.enter callees false rfl Try.func63 rfl (by kernel_rfl) (Nat.le_of_ble_eq_true rfl) hB ?_
  repeat' first | refine CO.cons rfl ?_ | refine CO.nil ?_ | refine CV.seq ?_ | refine CV.region callees ?_ | refine ⟨_,_,al28,?_⟩ | fail
  generalize hs0:Heap.new H _ = H0
  have hg0:=new_get hs0
  have k0:=new_keep hs0
  have n0:=new_n hs0
  obtain ⟨b0,hbn0⟩:∃ b,Heap.n H = b:=⟨_,rfl⟩
  rw [hbn0] at hg0 n0 ⊢
  repeat' first | fail
  refine (lone_spec (by omega)).mono ?_
  rintro r H1 ⟨rfl,k1⟩
  have l1:=k1.1
  repeat' first | refine CO.cons rfl ?_ | fail
  refine (lspan_spec (by omega)).mono ?_
  rintro r H2 ⟨rfl,k2⟩
  have l2:=k2.1
  repeat' first | refine CO.cons rfl ?_ | fail
  refine (lspan_spec (by omega)).mono ?_
  rintro r H3 ⟨rfl,k3⟩
  have l3:=k3.1
  repeat' first | refine CO.cons rfl ?_ | refine ⟨_,bu48,?_⟩ | fail
  refine (lspan_spec (by omega)).mono ?_
  rintro r H4 ⟨rfl,k4⟩
  have l4:=k4.1
  repeat' first | refine CO.cons rfl ?_ | fail
  refine (lone_spec (by omega)).mono ?_
  rintro r H5 ⟨rfl,k5⟩
  have l5:=k5.1
  repeat' first | refine CO.cons rfl ?_ | fail
  refine (lone_spec (by omega)).mono ?_
  rintro r H6 ⟨rfl,k6⟩
  have l6:=k6.1
  repeat' first | refine CO.cons rfl ?_ | refine ⟨_,bu48,?_⟩ | fail
  refine (lspan_spec (by omega)).mono ?_
  rintro r H7 ⟨rfl,k7⟩
  have l7:=k7.1
  repeat' first | refine CO.cons rfl ?_ | fail
  refine (lone_spec (by omega)).mono ?_
  rintro r H8 ⟨rfl,k8⟩
  have l8:=k8.1
  repeat' first | refine CO.cons rfl ?_ | fail
  refine (lone_spec (by omega)).mono ?_
  rintro r H9 ⟨rfl,k9⟩
  have l9:=k9.1
  have k09:=(((k0.trans k1).trans (k2.trans k3)).trans ((k4.trans k5).trans (k6.trans k7))).trans (k8.trans k9)
  have kk:=(((k1).trans (k2.trans k3)).trans ((k4.trans k5).trans (k6.trans k7))).trans (k8.trans k9)
  have hg9:=(kk.2 b0 (by omega)).trans hg0
  repeat' first | refine CO.cons rfl ?_ | refine ⟨_,bu48,?_⟩ | fail
  refine ⟨_,_,co_three,?_⟩
  generalize hsa:Heap.new H9 _ = Ha
  have hga:=new_get hsa
  have ka:=new_keep hsa
  have na:=new_n hsa
  obtain ⟨ba,hbna⟩:∃ b,Heap.n H9 = b:=⟨_,rfl⟩
  rw [hbna] at hga na ⊢
  repeat' first | refine CO.cons rfl ?_ | refine ⟨_,bu82,?_⟩ | fail
  refine ⟨_,_,to_two,?_⟩
  generalize hsb:Heap.new Ha _ = Hb
  have hgb:=new_get hsb
  have kb:=new_keep hsb
  have nb:=new_n hsb
  obtain ⟨bb,hbnb⟩:∃ b,Heap.n Ha = b:=⟨_,rfl⟩
  rw [hbnb] at hgb nb ⊢
  have hgb2:=(kb.2 b0 (by omega)).trans ((ka.2 b0 (by omega)).trans hg9)
  have hga2:=(kb.2 ba (by omega)).trans hga
  repeat' first | refine CO.cons rfl ?_ | refine ⟨_,bu28,?_⟩ | fail
  refine ⟨_,_,st28 rfl rfl hgb2,by omega,?_⟩
  generalize hsz:Heap.set Hb b0 _ = Hz
  have hgz:=set_get hsz
  have nz:=set_n hsz
  have oz:=set_old hsz
  repeat' first | refine CO.nil ?_ | refine CV.ret ?_ | fail
  have q1:OwnC Hz (.slice (some ⟨ba,0,none⟩) 3 0) cs3 0:=⟨fun r hr=>by obtain ⟨x,_,rfl⟩:=List.mem_map.1 hr; rfl,.inr ⟨ba,rfl,Nat.zero_le _,by omega,(oz ba (by omega)).trans hga2⟩⟩
  have q2:OwnT Hz (.slice (some ⟨bb,0,none⟩) 2 0) ts3 0:=⟨fun r hr=>by obtain ⟨x,_,rfl⟩:=List.mem_map.1 hr; rfl,.inr ⟨bb,rfl,Nat.zero_le _,by omega,(oz bb (by omega)).trans hgb⟩⟩
  exact ⟨_,ld28 hgz,rfl,⟨_,_,rfl,q1.row,q2.row⟩,keep_put ((k09.trans ka).trans kb) (by omega) oz nz⟩
def pot3:Ke:=⟨10,200,200,200,100,100000,400,900⟩
theorem zc51:zeroCellsW Try.prog 29 = some (Kel ⟨0,0,0,0,0,0,0,0⟩):=by kernel_rfl
theorem sz51h:sizeB Try.prog 29 = some 8:=by kernel_rfl
theorem ag51h:isAggB Try.prog 29 = some true:=by kernel_rfl
theorem al51 {H:Heap}:sAlloc Try.prog H 29 = some (.pointer (some ⟨H.n,0,none⟩),H.new (.cells (Kel ⟨0,0,0,0,0,0,0,0⟩) 29 1),H.n):=alloc_ofW zc51
theorem st51 {H:Heap} {b k:Nat} {p q:Ke} {e:TypeId} (hg:H.get b = some (.cells (Kel p) e (k + 1))):astore Try.prog 29 H (Kev q) (.pointer (some ⟨b,0,none⟩)) = some (H.set b (.cells (Kel q) e (k + 1)),b):=store_allW (vs:=Kel q) hg rfl sz51h rfl
theorem ld51 {H:Heap} {b:Nat} {p:Ke} {e:TypeId} {k:Nat} (hg:H.get b = some (.cells (Kel p) e k)):aload Try.prog 29 H (.pointer (some ⟨b,0,none⟩)) = some (Kev p):=agg_load ag51h sz51h hg (Nat.le_refl _)
theorem bu51 {w r g l s b:Int} {p:Int × Int}:abuild Try.prog 29 [(0,VJ w),(1,Hv p),(2,VJ r),(3,VJ g),(4,VJ l),(5,VJ s),(6,VJ b)] = some (Kev ⟨w,p.1,p.2,r,g,l,s,b⟩):=by kernel_rfl
set_option maxRecDepth 100000 in
theorem pot_spec {B:Nat} {H:Heap} (hB:B<=H.n) :
    CallB Try.prog B 64 [] H (fun r H'=>r = Kev pot3∧Keep H H'):=by
  refine CV.enter callees false rfl Try.func64 rfl (by kernel_rfl) (Nat.le_of_ble_eq_true rfl) hB ?_
  repeat' first | refine CO.cons rfl ?_ | refine CO.nil ?_ | refine CV.seq ?_ | refine CV.region callees ?_ | refine ⟨_,_,al51,?_⟩ | fail
  generalize hs0:Heap.new H _ = H0
  have hg0:=new_get hs0
  have k0:=new_keep hs0
  have n0:=new_n hs0
  obtain ⟨b0,hbn0⟩:∃ b,Heap.n H = b:=⟨_,rfl⟩
  rw [hbn0] at hg0 n0 ⊢
  repeat' first | fail
  refine (lone_spec (by omega)).mono ?_
  rintro r H1 ⟨rfl,k1⟩
  have l1:=k1.1
  have hg1:=(k1.2 b0 (by omega)).trans hg0
  repeat' first | refine CO.cons rfl ?_ | refine ⟨_,bu51,?_⟩ | fail
  refine ⟨_,_,st51 hg1,by omega,?_⟩
  generalize hs2:Heap.set H1 b0 _ = H2
  have hg2:H2.get b0 = some (.cells (Kel pot3) 29 1):=set_get hs2
  have n2:=set_n hs2
  have o2:=set_old hs2
  repeat' first | refine CO.nil ?_ | refine CV.ret ?_ | fail
  exact ⟨_,ld51 hg2,rfl,rfl,keep_put (k0.trans k1) (by omega) o2 n2⟩
theorem sp_len {H:Heap} {v:Value} {l:List (Int × Int)} (h:RowS 2 H v (l.map Hl)):alen Try.prog H 48 v = some (.int .i64 l.length):=by
  have:=h.alen un35; rwa [List.length_map] at this
theorem sp_addr {H:Heap} {v:Value} {l:List (Int × Int)} (h:RowS 2 H v (l.map Hl)) {n:Int} (h0:0<=n) (h1:n < l.length):aindexAddr Try.prog 48 v (.int .i64 n) = some (elemS v 2 n.toNat):=h.addr un35 sz41 h0 (by rw [List.length_map]; exact h1)
theorem sp_load {H:Heap} {v:Value} {l:List (Int × Int)} (h:RowS 2 H v (l.map Hl)) {j:Nat} (hj:j < l.length):aload Try.prog 27 H (elemS v 2 j) = some (Hv l[j]!):=h.load ag41 sz41 (hl_at hj)
set_option maxHeartbeats 4000000 in
set_option maxRecDepth 100000 in
theorem eqSpans_spec {B:Nat} {H:Heap} {v w:Value} {l:List (Int × Int)} (hB:B<=H.n) (hv:RowS 2 H v (l.map Hl)) (hw:RowS 2 H w (l.map Hl)) (hn:l.length < 100000) :
    CallB Try.prog B 33 [v,w] H (fun r H'=>r = .bool true∧H' = H):=by
  refine CV.enter callees false rfl Try.func33 rfl (by kernel_rfl) (Nat.le_of_ble_eq_true rfl) hB ?_
  repeat' first | refine CO.cons rfl ?_ | refine CO.nil ?_ | refine CV.seq ?_ | refine CV.region callees ?_ | refine CV.cond ?_ | refine CV.block ?_ | refine CV.skip ?_ | refine ⟨_,sp_len hv,?_⟩ | refine ⟨_,sp_len hw,?_⟩ | (refine ⟨fun _=>?_,fun _=>?_⟩<;>try (exfalso; omega)) | fail
  refine CV.loopc ?_
  refine WCv.rounds callees false (α:=Nat) (fun i=>[(0,v),(1,w),(5,VJ i)]) (fun i Hz=>i<=l.length∧Hz = H) (fun i=>l.length - i) (0) (by repeat' first | exact trivial | refine ⟨rfl,?_⟩ | refine ⟨slot_int (by (try simp only [Int.toNat_natCast]); omega),?_⟩) ?_ ?_
  · exact ⟨by omega,rfl⟩
  rintro i Hx ⟨hi,rfl⟩ hBx
  by_cases hi2:i < l.length
  · repeat' first | refine CO.cons rfl ?_ | refine CO.nil ?_ | refine CV.seq ?_ | refine CV.region callees ?_ | refine CV.cond ?_ | refine CV.block ?_ | refine CV.skip ?_ | refine CV.draw callees (by decide +kernel) ?_ | refine CH.cons rfl ?_ | refine CH.nil ?_ | refine ⟨(⟨by omega,by omega⟩:inI64 _),?_⟩ | refine ⟨_,sp_len hv,?_⟩ | refine ⟨_,sp_addr hv (by omega) (by omega),?_⟩ | refine ⟨_,sp_addr hw (by omega) (by omega),?_⟩ | refine ⟨_,sp_load hv hi2,?_⟩ | refine ⟨_,sp_load hw hi2,?_⟩ | refine ⟨_,fun tm ha=>step1_neS rfl (ev_tmp ha rfl) (ev_tmp ha rfl),?_⟩ | (refine ⟨fun _=>?_,fun _=>?_⟩<;>try (exfalso; omega)) | fail
    refine ⟨(i + 1),(by repeat' first | exact trivial | refine ⟨rfl,?_⟩ | refine ⟨slot_int (by (try simp only [Int.toNat_natCast]); omega),?_⟩),(by (try dsimp only); omega),?_⟩
    exact ⟨by omega,rfl⟩
  repeat' first | refine CO.cons rfl ?_ | refine CO.nil ?_ | refine CV.seq ?_ | refine CV.region callees ?_ | refine CV.cond ?_ | refine CV.exit ?_ | refine CV.ret ?_ | refine ⟨_,sp_len hv,?_⟩ | (refine ⟨fun _=>?_,fun _=>?_⟩<;>try (exfalso; omega)) | fail
  exact ⟨rfl,rfl,rfl⟩
theorem begS3:begS (emL cs3 b30 b31) = [(0,0),(2,3),(6,1000000)]:=by rfl
theorem heat3:heatL (emL cs3 b30 b31) 3 = (20,32):=by kernel_rfl
theorem warm3:warmL pot3 (emL cs3 b30 b31) [] (3 + 1) = [(200,200),(300,320),(390,428),(471,726)]:=by kernel_rfl
theorem kok3:KOk pot3:=by constructor<;>decide
theorem pok3:POk pot3.wa []:=by
  constructor
  all_goals first
    | decide
    | (intro i hi; simp at hi)
    | (intro i h1 hi; simp at hi)
    | (intro i j h1 h2; simp at h2)
theorem nil_row {s:Nat} {H:Heap}:RowS s H nilS (([]:List Po).map Pol):=⟨fun r hr=>(by cases hr),.inl ⟨rfl,rfl⟩⟩
theorem sp_three {H:Heap}:abuildSlice Try.prog H 48 3 [(0,Hv (0,0)),(1,Hv (2,3)),(2,Hv (6,1000000))] = some (.slice (some ⟨H.n,0,none⟩) 3 0,H.new (.cells (([(0,0),(2,3),(6,1000000)]:List (Int × Int)).map Hl).flatten 27 2),H.n):=by kernel_rfl
theorem sp_four {H:Heap}:abuildSlice Try.prog H 48 4 [(0,Hv (200,200)),(1,Hv (300,320)),(2,Hv (390,428)),(3,Hv (471,726))] = some (.slice (some ⟨H.n,0,none⟩) 4 0,H.new (.cells (([(200,200),(300,320),(390,428),(471,726)]:List (Int × Int)).map Hl).flatten 27 2),H.n):=by kernel_rfl
theorem sp_new {H':Heap} {b n:Nat} {l:List (Int × Int)} (hn:n = l.length) (hb:b < H'.n) (hg:H'.get b = some (.cells (l.map Hl).flatten 27 2)):OwnSp H' (.slice (some ⟨b,0,none⟩) n 0) l 0 :=
  ⟨fun r hr=>by obtain ⟨x,_,rfl⟩:=List.mem_map.1 hr; rfl,.inr ⟨b,by rw [hn,List.length_map],Nat.zero_le _,hb,hg⟩⟩
set_option maxHeartbeats 8000000 in
set_option maxRecDepth 100000 in
theorem awake_spec {B:Nat} {H:Heap} (hB:B<=H.n) :
    CallB Try.prog B 14 [] H (fun r H'=>r = .bool true∧Keep H H'):=by
  refine CV.enter callees false rfl Try.func14 rfl (by kernel_rfl) (Nat.le_of_ble_eq_true rfl) hB ?_
  repeat' first | refine CO.cons rfl ?_ | refine CO.nil ?_ | refine CV.seq ?_ | refine CV.region callees ?_ | fail
  refine (three_spec (by omega)).mono ?_
  rintro r H1 ⟨⟨cv1,tv1,rfl,hc1,ht1⟩,k1⟩
  have l1:=k1.1
  repeat' first | refine CO.cons rfl ?_ | fail
  refine (begins_spec (by omega) hc1 ht1 fok3 beg30 beg31).mono ?_
  rintro r H2 ⟨⟨q,rfl,hq2⟩,k2⟩
  have l2:=k2.1
  rw [begS3] at hq2
  repeat' first | refine CO.cons rfl ?_ | refine CO.nil ?_ | refine CV.seq ?_ | refine CV.region callees ?_ | fail
  refine (three_spec (by omega)).mono ?_
  rintro r H3 ⟨⟨cv3,tv3,rfl,hc3,ht3⟩,k3⟩
  have l3:=k3.1
  repeat' first | refine CO.cons rfl ?_ | fail
  refine (heat_spec (by omega) hc3 ht3 fok3 beg30 beg31 (by decide) (by decide)).mono ?_
  rintro r H4 ⟨rfl,k4⟩
  have l4:=k4.1
  rw [heat3]
  repeat' first | refine CO.cons rfl ?_ | refine ⟨_,_,al41,?_⟩ | fail
  generalize hs5:Heap.new H4 _ = H5
  have hg5:=new_get hs5
  have k5:=new_keep hs5
  have n5:=new_n hs5
  obtain ⟨b5,hbn5⟩:∃ b,Heap.n H4 = b:=⟨_,rfl⟩
  rw [hbn5] at hg5 n5 ⊢
  repeat' first | fail
  refine ⟨_,_,st41 hg5,by omega,?_⟩
  generalize hs6:Heap.set H5 b5 _ = H6
  have hg6:H6.get b5 = some (.cells (Hl (20,32)) 27 1):=set_get hs6
  have n6:=set_n hs6
  have o6:=set_old hs6
  have k6:Keep H4 H6:=keep_put k5 (by omega) o6 n6
  have l6:=k6.1
  repeat' first | refine CO.cons rfl ?_ | refine CO.nil ?_ | refine CV.seq ?_ | refine CV.region callees ?_ | fail
  refine (pot_spec (by omega)).mono ?_
  rintro r H7 ⟨rfl,k7⟩
  have l7:=k7.1
  repeat' first | refine CO.cons rfl ?_ | fail
  refine (three_spec (by omega)).mono ?_
  rintro r H8 ⟨⟨cv8,tv8,rfl,hc8,ht8⟩,k8⟩
  have l8:=k8.1
  repeat' first | refine CO.cons rfl ?_ | fail
  refine (run_spec (m:=3) (ps:=[]) (by omega) kok3 hc8 ht8 nil_row pok3 rfl fok3 beg30 beg31 (by decide)).mono ?_
  rintro r H9 ⟨⟨w,rfl,hw9⟩,k9⟩
  have l9:=k9.1
  rw [warm3] at hw9
  have k29:=(((k3.trans k4).trans (k6.trans k7)).trans (k8.trans k9))
  have hq9:OwnSp H9 q [(0,0),(2,3),(6,1000000)] H1.n:=OwnS.keep hq2 k29
  have hg9:=(((k7.trans k8).trans k9).2 b5 (by omega)).trans hg6
  have kx9:=(k1.trans k2).trans k29
  repeat' first | refine CO.cons rfl ?_ | refine CO.nil ?_ | refine CV.seq ?_ | fail
  refine CV.wide callees (by decide +kernel) [0,1,2,3,4,5,6,7,8,9,10,11,12,13,14,15,16,17,18,19,20,21,22,23,24,25,26,27,28,29,30,31,32] (by kernel_rfl) ?_
  repeat' first | refine CG.cons rfl ?_ | refine CG.consG rfl ?_ | (refine ⟨fun _=>?_,fun _=>?_⟩<;>try (exfalso; omega)) | fail
  refine (lone_spec (by omega)).mono ?_
  rintro r Ha ⟨rfl,ka⟩
  have la:=ka.1
  repeat' first | refine CG.consG rfl ?_ | fail
  refine (lspan_spec (by omega)).mono ?_
  rintro r Hb ⟨rfl,kb⟩
  have lb:=kb.1
  repeat' first | refine CG.consG rfl ?_ | fail
  refine (lspan_spec (by omega)).mono ?_
  rintro r Hc ⟨rfl,kc⟩
  have lc:=kc.1
  repeat' first | refine CG.consG rfl ?_ | fail
  refine ⟨_,_,sp_three,?_⟩
  generalize hsd:Heap.new Hc _ = Hd
  have hgd:=new_get hsd
  have kd:=new_keep hsd
  have nd:=new_n hsd
  obtain ⟨bd,hbnd⟩:∃ b,Heap.n Hc = b:=⟨_,rfl⟩
  rw [hbnd] at hgd nd ⊢
  have k9d:=((ka.trans kb).trans kc).trans kd
  have hqd:OwnSp Hd q [(0,0),(2,3),(6,1000000)] H1.n:=OwnS.keep hq9 k9d
  have hxd:=sp_new (l:=[(0,0),(2,3),(6,1000000)]) rfl (by omega) hgd
  repeat' first | refine CG.consG rfl ?_ | fail
  refine (eqSpans_spec (by omega) hqd.row hxd.row (by decide)).mono ?_
  rintro r He ⟨rfl,rfl⟩
  have hge:=(k9d.2 b5 (by omega)).trans hg9
  repeat' first | refine CG.cons rfl ?_ | refine CG.consG rfl ?_ | refine ⟨_,ld41 hge,?_⟩ | fail
  refine (lspan_spec (by omega)).mono ?_
  rintro r Hf ⟨rfl,kf⟩
  have lf:=kf.1
  have hgf:=(kf.2 b5 (by omega)).trans hge
  repeat' first | refine CG.cons rfl ?_ | refine CG.consG rfl ?_ | refine ⟨_,fun tm ha=>step1_eqS rfl (ev_tmp ha rfl) (ev_tmp ha rfl),?_⟩ | fail
  refine (lone_spec (by omega)).mono ?_
  rintro r Hg ⟨rfl,kg⟩
  have lg:=kg.1
  repeat' first | refine CG.consG rfl ?_ | fail
  refine (lspan_spec (by omega)).mono ?_
  rintro r Hh ⟨rfl,kh⟩
  have lh:=kh.1
  repeat' first | refine CG.consG rfl ?_ | fail
  refine (lspan_spec (by omega)).mono ?_
  rintro r Hi ⟨rfl,ki⟩
  have li:=ki.1
  repeat' first | refine CG.consG rfl ?_ | fail
  refine (lspan_spec (by omega)).mono ?_
  rintro r Hj ⟨rfl,kj⟩
  have lj:=kj.1
  repeat' first | refine CG.consG rfl ?_ | fail
  refine ⟨_,_,sp_four,?_⟩
  generalize hsk:Heap.new Hj _ = Hk
  have hgk:=new_get hsk
  have kk:=new_keep hsk
  have nk:=new_n hsk
  obtain ⟨bk,hbnk⟩:∃ b,Heap.n Hj = b:=⟨_,rfl⟩
  rw [hbnk] at hgk nk ⊢
  have k9k:=((k9d.trans kf).trans (kg.trans kh)).trans ((ki.trans kj).trans kk)
  have hwk:OwnSp Hk w _ _:=OwnS.keep hw9 k9k
  have hxk:=sp_new (l:=[(200,200),(300,320),(390,428),(471,726)]) rfl (by omega) hgk
  repeat' first | refine CG.consG rfl ?_ | fail
  refine (eqSpans_spec (by omega) hwk.row hxk.row (by decide)).mono ?_
  rintro r Hl' ⟨rfl,rfl⟩
  repeat' first | refine CV.ret ?_ | refine CG.cons rfl ?_ | refine CG.nil ?_ | fail
  exact ⟨rfl,rfl,kx9.trans k9k⟩
theorem own_oneC {e:TypeId} {H:Heap} {v:Value} {vs:List Value} {B:Nat} (h:Own e H v vs B):AI.oneC v = true:=by
  rcases h with ⟨rfl,_⟩ | ⟨_,rfl,_⟩<;>rfl
theorem take_fn {f:Co->Int} {l:List Co} {i:Nat} (h:i < l.length):(l.take i).map f ++ [f l[i]!] = (l.take (i + 1)).map f:=by
  rw [List.take_add_one,List.map_append,List.getElem?_eq_getElem h,getElem!_pos l i h]; rfl
theorem sz22h:sizeB Try.prog 33 = some 1:=by kernel_rfl
theorem zero31:zeroCells Try.prog 71 = some (Fl nilS nilS):=by kernel_rfl
theorem al31 {H:Heap}:sAlloc Try.prog H 71 = some (.pointer (some ⟨H.n,0,none⟩),H.new (.cells (Fl nilS nilS) 71 1),H.n):=alloc_of zero31
theorem sz31:sizeB Try.prog 71 = some 2:=by kernel_rfl
theorem ag31:isAggB Try.prog 71 = some true:=by kernel_rfl
theorem ld31 {H:Heap} {b:Nat} {c p:Value} {e:TypeId} {q:Nat} (hg:H.get b = some (.cells (Fl c p) e q)):aload Try.prog 71 H (.pointer (some ⟨b,0,none⟩)) = some (Fv c p):=agg_load ag31 sz31 hg (Nat.le_refl _)
theorem begS_at {cs:List Co} {B0 B1:List Int} {i:Nat} (h:i < cs.length):(begS (emL cs B0 B1))[i]! = (B0[i]!,B1[i]!):=by
  have h2:i < (emL cs B0 B1).length:=by rw [emL_len]; exact h
  have h3:i < (begS (emL cs B0 B1)).length:=by rw [begS,List.length_map]; exact h2
  rw [getElem!_pos _ i h3]
  simp only [begS,List.getElem_map]
  have:=emL_at (B0:=B0) (B1:=B1) h
  rw [getElem!_pos _ i h2] at this
  rw [this]; rfl
theorem begS_len {cs:List Co} {B0 B1:List Int}:(begS (emL cs B0 B1)).length = cs.length:=by rw [begS,List.length_map,emL_len]
structure Bu (H:Heap) (b:Nat) (x y:Value) (U V:List Int) (B0:Nat):Prop where
  lt:b < H.n
  g:H.get b = some (.cells (Fl x y) 71 1)
  u:Own 3 H x (U.map VJ) B0
  v:Own 3 H y (V.map VJ) B0
  ap:Apart x y
theorem Bu.keep {H H':Heap} {b B0:Nat} {u v:Value} {U V:List Int} (h:Bu H b u v U V B0) (k:Keep H H'):Bu H' b u v U V B0:=⟨Nat.lt_of_lt_of_le h.lt k.1,(k.2 b h.lt).trans h.g,h.u.keep k,h.v.keep k,h.ap⟩
theorem Bu.but {H H':Heap} {b B0:Nat} {x u v:Value} {U V:List Int} (h:Bu H b u v U V B0) (k:KeepBut x H H') (hb:blkOf x ≠ some b) (h1:Apart u x) (h2:Apart v x):Bu H' b u v U V B0:=⟨Nat.lt_of_lt_of_le h.lt k.le,(k.get b h.lt hb).trans h.g,h.u.keepBut k h1,h.v.keepBut k h2,h.ap⟩
theorem Bu.set {H H':Heap} {b c B0:Nat} {u v:Value} {U V:List Int} {cs0:List Value} {e0:TypeId} (h:Bu H b u v U V B0) (hg:H.get c = some (.cells cs0 e0 1)) (hbc:b ≠ c) (o:∀ x,x ≠ c->H'.get x = H.get x) (n:H'.n = H.n):Bu H' b u v U V B0:=by
  have k:KeepX c H H':=⟨by omega,fun x _ hx=>o x hx⟩
  exact ⟨by have:=h.lt; omega,(o b hbc).trans h.g,h.u.keepX k hg,h.v.keepX k hg,h.ap⟩
theorem build_3 {H:Heap} {x y z:Int}:abuildSlice Try.prog H 33 3 [(0,VJ x),(1,VJ y),(2,VJ z)] = some (.slice (some ⟨H.n,0,none⟩) 3 0,H.new (.cells [VJ x,VJ y,VJ z] 3 2),H.n):=build_vals [VJ x,VJ y,VJ z] un22 one3 rfl (by simp)
theorem bu51b {w r g l:Int} {p:Int × Int}:abuild Try.prog 29 [(0,VJ w),(1,Hv p),(2,VJ r),(3,VJ g),(4,VJ l)] = some (Kev ⟨w,p.1,p.2,r,g,l,0,0⟩):=by kernel_rfl
theorem pick3 {x y z:Int} {j:Nat} (hj:j < 3):∃ u,([x,y,z]:List Int)[j]! = u∧(u = x ∨ u = y ∨ u = z):=by
  rcases (by omega:j = 0 ∨ j = 1 ∨ j = 2) with rfl | rfl | rfl
  · exact ⟨_,rfl,.inl rfl⟩
  · exact ⟨_,rfl,.inr (.inl rfl)⟩
  · exact ⟨_,rfl,.inr (.inr rfl)⟩
set_option maxHeartbeats 8000000 in
set_option maxRecDepth 100000 in
theorem kettleOf_spec {B b:Nat} {H:Heap} (hB:B<=b) (hn:B<=H.n) (hb:Box b H) :
    CallB Try.prog B 17 [bp b] H (fun r H'=>(∃ k,r = Kev k∧KOk k∧k.wa<=30)∧Box b H'∧KeepX b H H'):=by
  have hbn:=hb.1
  refine CV.enter callees false rfl Try.func17 rfl (by kernel_rfl) (Nat.le_of_ble_eq_true rfl) hn ?_
  repeat' first | refine CO.cons rfl ?_ | refine CO.nil ?_ | refine CV.seq ?_ | refine CV.region callees ?_ | refine ⟨_,_,al51,?_⟩ | fail
  generalize hs0:Heap.new H _ = H0
  have hg0:=new_get hs0
  have k0:=new_keep hs0
  have n0:=new_n hs0
  obtain ⟨b0,hbn0⟩:∃ b,Heap.n H = b:=⟨_,rfl⟩
  rw [hbn0] at hg0 n0 ⊢
  have hb0:=hb.keep k0
  repeat' first | fail
  refine (any_spec hB (by omega) hb0 (by omega) (by omega) (by omega)).mono ?_
  rintro r H1 ⟨⟨wa,rfl,wa1,wa2⟩,hb1,k1⟩
  have l1:=k1.1
  repeat' first | refine CO.cons rfl ?_ | fail
  refine (bspan_spec hB (by omega) hb1 (by omega) (by omega) (by omega)).mono ?_
  rintro r H2 ⟨⟨p,rfl,p1,p2,p3⟩,hb2,k2⟩
  have l2:=k2.1
  repeat' first | refine CO.cons rfl ?_ | fail
  refine (any_spec hB (by omega) hb2 (by omega) (by omega) (by omega)).mono ?_
  rintro r H3 ⟨⟨ro,rfl,ro1,ro2⟩,hb3,k3⟩
  have l3:=k3.1
  repeat' first | refine CO.cons rfl ?_ | fail
  refine (up_spec hB (by omega) hb3 (by omega)).mono ?_
  rintro r H4 ⟨⟨g1,rfl,g1a,g1b⟩,hb4,k4⟩
  have l4:=k4.1
  repeat' first | refine CO.cons rfl ?_ | fail
  refine (up_spec hB (by omega) hb4 (by omega)).mono ?_
  rintro r H5 ⟨⟨g2,rfl,g2a,g2b⟩,hb5,k5⟩
  have l5:=k5.1
  repeat' first | refine CO.cons rfl ?_ | fail
  refine ⟨_,_,build_3,?_⟩
  have hI6:Ints (H5.new (.cells [VJ 0,VJ g1,VJ g2] 3 2)) (.slice (some ⟨H5.n,0,none⟩) 3 0) [0,g1,g2]:=new_row rfl
  generalize hs6:H5.new _ = H6 at hI6 ⊢
  have k6:=new_keep hs6
  have n6:=new_n hs6
  have hb6:=hb5.keep k6
  repeat' first | refine CO.cons rfl ?_ | fail
  refine (pick_spec hB (by omega) hb6 hI6 (by show 0 < 3; omega) (by show 3<=1000; omega)).mono ?_
  rintro r H7 ⟨⟨j,hj,rfl⟩,hb7,k7⟩
  have l7:=k7.1
  obtain ⟨ga,hga,hga2⟩:=pick3 (x:=0) (y:=g1) (z:=g2) hj
  rw [hga]
  repeat' first | refine CO.cons rfl ?_ | fail
  refine (up_spec hB (by omega) hb7 (by omega)).mono ?_
  rintro r H8 ⟨⟨o1,rfl,o1a,o1b⟩,hb8,k8⟩
  have l8:=k8.1
  repeat' first | refine CO.cons rfl ?_ | fail
  refine (up_spec hB (by omega) hb8 (by omega)).mono ?_
  rintro r H9 ⟨⟨o2,rfl,o2a,o2b⟩,hb9,k9⟩
  have l9:=k9.1
  repeat' first | refine CO.cons rfl ?_ | fail
  refine ⟨_,_,build_3,?_⟩
  have hIa:Ints (H9.new (.cells [VJ 0,VJ o1,VJ o2] 3 2)) (.slice (some ⟨H9.n,0,none⟩) 3 0) [0,o1,o2]:=new_row rfl
  generalize hsa:H9.new _ = Ha at hIa ⊢
  have ka:=new_keep hsa
  have na:=new_n hsa
  have hba:=hb9.keep ka
  repeat' first | refine CO.cons rfl ?_ | fail
  refine (pick_spec hB (by omega) hba hIa (by show 0 < 3; omega) (by show 3<=1000; omega)).mono ?_
  rintro r Hc ⟨⟨i,hi,rfl⟩,hbc,kc⟩
  have lc:=kc.1
  obtain ⟨lo,hlo,hlo2⟩:=pick3 (x:=0) (y:=o1) (z:=o2) hi
  rw [hlo]
  have x0c:KeepX b H0 Hc:=(((k1.trans k2).trans (k3.trans k4)).trans ((k5.trans (k6.butX b)).trans (k7.trans k8))).trans ((k9.trans (ka.butX b)).trans kc)
  have hgc:=(x0c.2 b0 (by omega) (by omega)).trans hg0
  repeat' first | refine CO.cons rfl ?_ | refine ⟨_,bu51b,?_⟩ | refine ⟨_,_,al51,?_⟩ | fail
  generalize hsd:Heap.new Hc _ = Hd
  have hgd:=new_get hsd
  have kd:=new_keep hsd
  have nd:=new_n hsd
  obtain ⟨bd,hbnd⟩:∃ b,Heap.n Hc = b:=⟨_,rfl⟩
  rw [hbnd] at hgd nd ⊢
  have hgcd:=(kd.2 b0 (by omega)).trans hgc
  repeat' first | fail
  refine ⟨_,_,st51 hgd,by omega,?_⟩
  generalize hse:Heap.set Hd bd _ = He
  have hge:He.get bd = some (.cells (Kel ⟨wa,p.1,p.2,ro,ga,lo,0,0⟩) 29 1):=set_get hse
  have ne:=set_n hse
  have oe:=set_old hse
  have hge0:=(oe b0 (by omega)).trans hgcd
  have ke:Keep Hc He:=keep_put kd (by omega) oe ne
  have hbe:=hbc.keep ke
  have le:=ke.1
  repeat' first | refine CO.cons rfl ?_ | refine CO.nil ?_ | refine CV.seq ?_ | refine CV.region callees ?_ | fail
  refine (any_spec hB (by omega) hbe (by omega) (by omega) (by omega)).mono ?_
  rintro r Hf ⟨⟨si,rfl,si1,si2⟩,hbf,kf⟩
  have lf:=kf.1
  have hgf:=(kf.2 bd (by omega) (by omega)).trans hge
  have hgf0:=(kf.2 b0 (by omega) (by omega)).trans hge0
  repeat' first | refine CO.cons rfl ?_ | refine ⟨_,fS foK5 (by decide),?_⟩ | fail
  refine ⟨_,_,store_row (i:=6) sz3 hgf (Nat.le_of_ble_eq_true rfl) rfl,by omega,?_⟩
  generalize hsg:Heap.set Hf bd _ = Hg
  have hgg:Hg.get bd = some (.cells (Kel ⟨wa,p.1,p.2,ro,ga,lo,si,0⟩) 29 1):=set_get hsg
  have ng:=set_n hsg
  have og:=set_old hsg
  have hgg0:=(og b0 (by omega)).trans hgf0
  have hbg:=hbf.put (by omega) og ng
  repeat' first | refine CO.cons rfl ?_ | refine CO.nil ?_ | refine CV.seq ?_ | refine CV.region callees ?_ | refine ⟨_,fS foK5 (by decide),?_⟩ | refine ⟨_,cell_load ag3 hgg rfl,?_⟩ | fail
  refine (any_spec (l:=si) hB (by omega) hbg (by omega) (by omega) (by omega)).mono ?_
  rintro r Hh ⟨⟨bo,rfl,bo1,bo2⟩,hbh,kh⟩
  have lh:=kh.1
  have hgh:=(kh.2 bd (by omega) (by omega)).trans hgg
  have hgh0:=(kh.2 b0 (by omega) (by omega)).trans hgg0
  repeat' first | refine CO.cons rfl ?_ | refine ⟨_,fS foK6 (by decide),?_⟩ | fail
  refine ⟨_,_,store_row (i:=7) sz3 hgh (Nat.le_of_ble_eq_true rfl) rfl,by omega,?_⟩
  generalize hsi:Heap.set Hh bd _ = Hi
  have hgi:Hi.get bd = some (.cells (Kel ⟨wa,p.1,p.2,ro,ga,lo,si,bo⟩) 29 1):=set_get hsi
  have ni:=set_n hsi
  have oi:=set_old hsi
  have hgi0:=(oi b0 (by omega)).trans hgh0
  have hbi:=hbh.put (by omega) oi ni
  repeat' first | refine CO.cons rfl ?_ | refine CO.nil ?_ | refine CV.seq ?_ | refine CV.region callees ?_ | refine ⟨_,ld51 hgi,?_⟩ | fail
  refine ⟨_,_,st51 hgi0,by omega,?_⟩
  generalize hsj:Heap.set Hi b0 _ = Hj
  have hgj:Hj.get b0 = some (.cells (Kel ⟨wa,p.1,p.2,ro,ga,lo,si,bo⟩) 29 1):=set_get hsj
  have nj:=set_n hsj
  have oj:=set_old hsj
  repeat' first | refine CO.nil ?_ | refine CV.ret ?_ | fail
  have xe:KeepX b H He:=((k0.butX b).trans x0c).trans (ke.butX b)
  have xg:KeepX b H Hg:=KeepX.put (xe.trans kf) (by omega) og ng
  have xi:KeepX b H Hi:=KeepX.put (xg.trans kh) (by omega) oi ni
  exact ⟨_,ld51 hgj,rfl,⟨⟨wa,p.1,p.2,ro,ga,lo,si,bo⟩,rfl,⟨wa1,by (show wa<=50); omega,by (show 0<=p.1); omega,p2,by (show p.2<=1000); omega,by (show 0<=ro); omega,by (show ro<=1000); omega,si1,bo2,bo1,by (show 0<=ga); omega,by (show ga<=1000); omega,by (show 0<=lo); omega,by (show lo<=1000000); omega⟩,wa2⟩,hbi.put (by omega) oj nj,KeepX.put xi (by omega) oj nj⟩
theorem quoI {P:Program} {tm:Tm} {H:Heap} {o:Oper} {t u:TypeId} {x y:Operand} {a b:Int} (ho:o.op = .binOp .quo t x y u) (hx:ev P tm x = some (.int .i64 a)) (hy:ev P tm y = some (.int .i64 b)) (hb:b ≠ 0) (h0:-9223372036854775808<=a.tdiv b) (h1:a.tdiv b < 9223372036854775808):step1 P tm H o = some (.int .i64 (a.tdiv b),H,H.n):=by
  have:=step1_quo ho hx hy hb (H:=H)
  rw [wrapI h0 h1] at this
  exact this
theorem zero62b:zeroBB Try.prog 82 = some (Pol ⟨0,0,0⟩,24):=by kernel_rfl
abbrev OwnO (H:Heap) (v:Value) (l:List Po) (B:Nat):Prop:=OwnS 82 3 H v (l.map Pol) B
theorem po_one {H:Heap} {x:Po}:abuildSlice Try.prog H 30 1 [(0,Pov x)] = some (.slice (some ⟨H.n,0,none⟩) 1 0,H.new (.cells (Pol x) 82 2),H.n) :=
  build_oneS (row:=Pol x) un53 zero62b (by decide) rfl
theorem po_push {K:Value->Heap->Prop} {B B0:Nat} {H:Heap} {x:Value} {l:List Po} {d:Po} (hx:OwnO H x l B0) (hB0:B0<=H.n) (hB:B<=B0) (hn:l.length < 1000000)
    (hk:∀ r H',OwnO H' r (l ++ [d]) B0->KeepBut x H H'->(∀ c,blkOf r = some c->H.n<=c)->K r H') :
    ∃ v H' b,aappend Try.prog (H.new (.cells (Pol d) 82 2)) #[30,30] x (.slice (some ⟨H.n,0,none⟩) 1 0) = some (v,H',b)∧B<=b∧K v H' :=
  append_askS (z:=Pol ⟨0,0,0⟩) un53 zero62b (by decide) rfl hx hB0 hB (by rw [List.length_map]; exact hn) (fun r H' ho=>hk r H' (by rw [OwnO,List.map_append]; exact ho))
theorem bu62 {x y z:Int}:abuild Try.prog 82 [(0,VJ x),(1,VJ y),(2,VJ z)] = some (Pov ⟨x,y,z⟩):=by kernel_rfl
theorem watN_snoc {w:Int} {ps:List Po} {d:Po}:(∀ i,i<=ps.length->watN w (ps ++ [d]) i = watN w ps i)∧watN w (ps ++ [d]) (ps.length + 1) = watN w ps ps.length + d.la:=by
  constructor
  · intro i hi
    unfold watN
    rw [List.map_append,List.take_append_of_le_length (by rw [List.length_map]; exact hi)]
  · unfold watN
    rw [List.map_append,List.take_of_length_le (by simp),List.take_of_length_le (by simp),List.map_cons,List.map_nil,sumI_app]
    omega
theorem at_old {l:List Po} {d:Po} {i:Nat} (h:i < l.length):(l ++ [d])[i]! = l[i]!:=by
  rw [getElem!_pos (l ++ [d]) i (by rw [List.length_append]; omega),List.getElem_append_left h,getElem!_pos l i h]
theorem at_new {l:List Po} {d:Po}:(l ++ [d])[l.length]! = d:=by
  rw [getElem!_pos (l ++ [d]) l.length (by rw [List.length_append,List.length_singleton]; omega),List.getElem_append_right (Nat.le_refl _)]
  simp
structure PoN (w:Int) (ps:List Po) (water minute:Int):Prop extends POk w ps where
  wt:water = watN w ps ps.length
  m0:0<=minute
  last:∀ i,i < ps.length->ps[i]!.mi<=minute
theorem PoN.nil {w:Int} (h:1<=w∧w<=50):PoN w [] w 0:=⟨⟨by decide,fun i hi=>by simp at hi,fun i hi=>by simp at hi,fun i hi=>by simp at hi,fun i hi=>by simp at hi,fun i hi=>by
  obtain rfl:i = 0:=by simpa using hi
  rw [watN_zero]; exact h⟩,by rw [List.length_nil,watN_zero],by decide,fun i hi=>by simp at hi⟩
theorem PoN.later {w:Int} {ps:List Po} {water minute m':Int} (h:PoN w ps water minute) (hm:minute<=m'):PoN w ps water m':=⟨h.toPOk,h.wt,by have:=h.m0; omega,fun i hi=>by have:=h.last i hi; omega⟩
theorem PoN.snoc {w:Int} {ps:List Po} {water minute la wm:Int} (h:PoN w ps water minute) (hn:ps.length < 20) (hm:minute<=300) (hl:1 - water<=la∧la<=50 - water∧la<=50∧la ≠ 0) (hw:0<=wm∧wm<=1000):PoN w (ps ++ [⟨minute,la,wm⟩]) (water + la) minute:=by
  have hlen:(ps ++ [(⟨minute,la,wm⟩:Po)]).length = ps.length + 1:=by rw [List.length_append,List.length_singleton]
  have hwl:=h.wa ps.length (Nat.le_refl _)
  have hwt:=h.wt
  have hm0:=h.m0
  have two:∀ {P:Nat->Po->Prop},(∀ i,i < ps.length->P i ps[i]!)->P ps.length ⟨minute,la,wm⟩->∀ i,i < ps.length + 1->P i (ps ++ [(⟨minute,la,wm⟩:Po)])[i]!:=by
    intro P h1 h2 i hi
    by_cases hi2:i < ps.length
    · rw [at_old hi2]; exact h1 i hi2
    · obtain rfl:i = ps.length:=by omega
      rw [at_new]; exact h2
  refine ⟨⟨by omega,fun i hi=>?_,fun i hi=>?_,fun i hi=>?_,fun i hi=>?_,fun i hi=>?_⟩,?_,hm0,fun i hi=>?_⟩
  · rw [hlen] at hi
    exact two (P:=fun _ p=>0<=p.mi∧p.mi<=300) h.mi ⟨hm0,hm⟩ i hi
  · rw [hlen] at hi
    exact two (P:=fun _ p=>-50<=p.la∧p.la<=50∧p.la ≠ 0) h.la ⟨by show -50<=la; omega,hl.2.2.1,hl.2.2.2⟩ i hi
  · rw [hlen] at hi
    exact two (P:=fun _ p=>0<=p.wm∧p.wm<=1000) h.wm hw i hi
  · rw [hlen] at hi
    rw [at_old (by omega)]
    by_cases hi2:i + 1 < ps.length
    · rw [at_old hi2]; exact h.up i hi2
    · rw [show i + 1 = ps.length by omega,at_new]; exact h.last i (by omega)
  · rw [hlen] at hi
    by_cases hi2:i<=ps.length
    · rw [watN_snoc.1 i hi2]; exact h.wa i hi2
    · rw [show i = ps.length + 1 by omega,watN_snoc.2]
      show 1<=_ + la∧_ + la<=50
      omega
  · rw [hlen,watN_snoc.2,hwt]
  · rw [hlen] at hi
    exact two (P:=fun _ p=>p.mi<=minute) h.last (Int.le_refl _) i hi
set_option maxHeartbeats 8000000 in
set_option maxRecDepth 100000 in
theorem poursOf_spec {B b:Nat} {H:Heap} {k:Ke} {mo mn:Int} (hB:B<=b) (hn:B<=H.n) (hb:Box b H) (hk:KOk k) (h0:0<=mo) (h1:mo<=20) (h2:0<=mn) (h3:mn<=1000) :
    CallB Try.prog B 20 [bp b,Kev k,VJ mo,VJ mn] H (fun r H'=>(∃ ps,OwnO H' r ps H.n∧POk k.wa ps∧(ps.length:Int)<=mo)∧Box b H'∧KeepX b H H'):=by
  have hbn:=hb.1
  have q0:0<=mn.tdiv 2:=Int.tdiv_nonneg h2 (by decide)
  have q1:mn.tdiv 2<=mn:=Int.tdiv_le_self _ h2
  refine CV.enter callees false rfl Try.func20 rfl (by kernel_rfl) (Nat.le_of_ble_eq_true rfl) hn ?_
  repeat' first | refine CO.cons rfl ?_ | refine CV.seq ?_ | refine CV.region callees ?_ | fail
  refine ⟨(by simp only [notTuple]),?_⟩
  rw [boxKe]
  generalize hs5:Heap.new H _ = H5
  have hg5:=new_get hs5
  have k5:=new_keep hs5
  have n5:=new_n hs5
  obtain ⟨b5,hbn5⟩:∃ b,Heap.n H = b:=⟨_,rfl⟩
  rw [hbn5] at hg5 n5 ⊢
  have hb5:=hb.keep k5
  repeat' first | refine CO.cons rfl ?_ | refine CO.nil ?_ | refine CV.seq ?_ | refine CV.region callees ?_ | refine ⟨(⟨by omega,by omega⟩:inI64 _),?_⟩ | refine ⟨_,fS foK0 (by decide),?_⟩ | refine ⟨_,cell_load ag3 hg5 rfl,?_⟩ | fail
  refine (up_spec hB (by omega) hb5 (by omega)).mono ?_
  rintro r H6 ⟨⟨t,rfl,t1,t2⟩,hb6,k6⟩
  have l6:=k6.1
  have x6:=(k5.butX b).trans k6
  repeat' first | refine CO.cons rfl ?_ | refine CO.nil ?_ | refine CV.block ?_ | fail
  refine CV.loopc ?_
  refine WCv.rounds callees false (α:=Value × List Po × Int × Int × Int) (fun (q,ps,water,minute,c)=>[(0,bp b),(3,VJ mn),(9,q),(10,VJ water),(11,VJ minute),(12,VJ c)]) (fun (q,ps,water,minute,c) Hz=>(ps.length:Int) + c<=t∧0<=c∧OwnO Hz q ps H6.n∧PoN k.wa ps water minute∧minute<=1000 * (t - c)∧Box b Hz∧KeepX b H Hz∧H6.n<=Hz.n) (fun (q,ps,water,minute,c)=>c.toNat) (nilS,[],k.wa,0,t) (by repeat' first | exact trivial | refine ⟨rfl,?_⟩ | refine ⟨slot_int (by (try simp only [Int.toNat_natCast]); omega),?_⟩) ?_ ?_
  · exact ⟨by simp,by omega,OwnS.nil,PoN.nil ⟨hk.wa,hk.wa'⟩,by omega,hb6,x6,Nat.le_refl _⟩
  rintro ⟨q,ps,water,minute,c⟩ Hx ⟨hpl,hc0,hq,hps,hmi,hbx,xx,lx⟩ hBx
  have hw:=hps.wa ps.length (Nat.le_refl _)
  have hwt:=hps.wt
  have hm0:=hps.m0
  by_cases hp:0 < c
  · repeat' first | refine CO.cons rfl ?_ | refine CO.nil ?_ | refine CV.seq ?_ | refine CV.region callees ?_ | refine CV.cond ?_ | refine CV.block ?_ | refine CV.skip ?_ | refine ⟨(⟨by omega,by omega⟩:inI64 _),?_⟩ | refine ⟨_,fun tm ha=>quoI rfl (ev_tmp ha rfl) rfl (by decide) (by omega) (by omega),?_⟩ | (refine ⟨fun _=>?_,fun _=>?_⟩<;>try (exfalso; omega)) | fail
    refine (up_spec hB (by omega) hbx (by omega)).mono ?_
    rintro r H7 ⟨⟨d,rfl,d1,d2⟩,hb7,k7⟩
    have l7:=k7.1
    have hq7:OwnO H7 q ps H6.n:=OwnS.boxed hq k7 hbx
    repeat' first | refine CO.cons rfl ?_ | refine CO.nil ?_ | refine CV.seq ?_ | refine CV.region callees ?_ | refine ⟨(⟨by omega,by omega⟩:inI64 _),?_⟩ | refine ⟨_,fun tm ha=>step1_min rfl rfl (ev_tmp ha rfl),?_⟩ | fail
    refine (any_spec hB (by omega) hb7 (by omega) (by omega) (by omega)).mono ?_
    rintro r H8 ⟨⟨la,rfl,la1,la2⟩,hb8,k8⟩
    have l8:=k8.1
    have hq8:OwnO H8 q ps H6.n:=OwnS.boxed hq7 k8 hb7
    have x8:=(xx.trans k7).trans k8
    have hps2:=hps.later (m':=minute + d) (by omega)
    by_cases hla:la = 0 ∨ 300 < minute + d
    · repeat' first | refine CO.cons rfl ?_ | refine CO.nil ?_ | refine CV.seq ?_ | refine CV.region callees ?_ | refine CV.cond ?_ | refine CV.exit ?_ | refine CO.consG rfl ?_ | refine ⟨(⟨by omega,by omega⟩:inI64 _),?_⟩ | (refine ⟨fun _=>?_,fun _=>?_⟩<;>try (exfalso; omega)) | fail
      all_goals
        refine ⟨(q,ps,water,minute + d,c - 1),(by repeat' first | exact trivial | refine ⟨rfl,?_⟩ | refine ⟨slot_int (by (try simp only [Int.toNat_natCast]); omega),?_⟩),(by (try dsimp only); omega),?_⟩
        exact ⟨by omega,by omega,hq8,hps2,by omega,hb8,x8,by omega⟩
    · repeat' first | refine CO.cons rfl ?_ | refine CO.nil ?_ | refine CV.seq ?_ | refine CV.region callees ?_ | refine CV.cond ?_ | refine CV.skip ?_ | refine CO.consG rfl ?_ | refine ⟨(⟨by omega,by omega⟩:inI64 _),?_⟩ | (refine ⟨fun _=>?_,fun _=>?_⟩<;>try (exfalso; omega)) | fail
      refine (up_spec hB (by omega) hb8 (by omega)).mono ?_
      rintro r H9 ⟨⟨wm,rfl,wm1,wm2⟩,hb9,k9⟩
      have l9:=k9.1
      have hq9:OwnO H9 q ps H6.n:=OwnS.boxed hq8 k9 hb8
      repeat' first | refine CO.cons rfl ?_ | refine ⟨_,bu62,?_⟩ | refine ⟨_,_,po_one,?_⟩ | fail
      refine po_push hq9 (by omega) (by omega) (by omega) ?_
      intro qa Ha hqa kba hfa
      have la':=kba.le
      have bq:∀ c,blkOf q = some c->H6.n<=c:=fun c hc=>(hq9.lt hc).1
      have hba:=hb9.keepBut kba (fun h=>by have:=bq _ h; have:=hb6.1; omega)
      have xa:=kba.keepX (x8.trans k9) fun c hc=>by have:=bq _ hc; omega
      repeat' first | refine CO.cons rfl ?_ | refine CO.nil ?_ | refine CV.region callees ?_ | refine ⟨(⟨by omega,by omega⟩:inI64 _),?_⟩ | fail
      refine ⟨(qa,ps ++ [⟨minute + d,la,wm⟩],water + la,minute + d,c - 1),(by repeat' first | exact trivial | refine ⟨rfl,?_⟩ | refine ⟨slot_int (by (try simp only [Int.toNat_natCast]); omega),?_⟩),(by (try dsimp only); omega),?_⟩
      exact ⟨by rw [List.length_append,List.length_singleton]; omega,by omega,hqa,hps2.snoc (by omega) (by omega) ⟨by omega,by omega,by omega,by omega⟩ ⟨by omega,by omega⟩,by omega,hba,xa,by omega⟩
  repeat' first | refine CO.cons rfl ?_ | refine CO.nil ?_ | refine CV.seq ?_ | refine CV.region callees ?_ | refine CV.cond ?_ | refine CV.exit ?_ | refine CV.ret ?_ | (refine ⟨fun _=>?_,fun _=>?_⟩<;>try (exfalso; omega)) | fail
  exact ⟨by simp only [List.all_cons,List.all_nil,OwnS.notTuple hq]; rfl,⟨ps,OwnS.low hq (by omega),hps.toPOk,by omega⟩,hbx,xx⟩
def mkC (cs:List Co) (U V:List Int):List Co:=(List.range cs.length).map fun i=>⟨U[i]!,U[i]!,V[i]!,V[i]!,cs[i]!.hl,cs[i]!.hh,cs[i]!.lt⟩
end Go.Proofs.Ytglkphjjinmgmaa
