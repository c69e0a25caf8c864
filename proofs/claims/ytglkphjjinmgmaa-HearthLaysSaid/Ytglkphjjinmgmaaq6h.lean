/- Copies and comparisons of fires and pours. -/
import Derived.Test.Ytglkphjjinmgmaaq5h
import Derived.Test.YtglkphjjinmgmaaM5h
set_option linter.unusedVariables false
set_option linter.unusedSimpArgs false
namespace Go.Proofs.Ytglkphjjinmgmaa
open Go.AI
theorem coNone {H:Heap}:abuildSlice Try.prog H 22 0 [] = some (.slice (some ⟨H.n,0,none⟩) 0 0,H.new (.cells [] 32 2),H.n):=by kernel_rfl
theorem toNone {H:Heap}:abuildSlice Try.prog H 23 0 [] = some (.slice (some ⟨H.n,0,none⟩) 0 0,H.new (.cells [] 99 2),H.n):=by kernel_rfl
theorem buF {s s':Nat} {H H':Heap} {rs rs':List (List Value)} {c p:Value} (h1:RowS s H c rs) (h2:RowS s' H' p rs'):abuild Try.prog 25 [(0,c),(1,p)] = some (Fv c p):=by
  obtain ⟨_,_,_,rfl⟩:=RowS.isl h1
  obtain ⟨_,_,_,rfl⟩:=RowS.isl h2
  exact bu28
set_option maxHeartbeats 4000000 in
set_option maxRecDepth 100000 in
theorem ownFireQ_spec {B:Nat} {H:Heap} {cv tv:Value} {cs:List Co} {ts:List (Int × Int)} (hB:B<=H.n) (hc:RowS 7 H cv (cs.map Col)) (ht:RowS 2 H tv (ts.map Hl)) (hcn:cs.length<=100) (htn:ts.length<=100) :
    CallB Try.prog B 21 [Fv cv tv] H (fun r H'=>(∃ q p,r = Fv q p∧OwnC H' q cs H.n∧OwnT H' p ts H.n)∧Keep H H'):=by
  refine CV.enter callees false rfl Try.func21 rfl (by kernel_rfl) (Nat.le_of_ble_eq_true rfl) hB ?_
  repeat' first | refine CO.cons rfl ?_ | refine CV.seq ?_ | refine CV.region callees ?_ | fail
  refine ⟨(by simp only [notTuple]),?_⟩
  rw [allocFv hc.cells.1 ht.cells.1]
  generalize hs0:Heap.new H _ = H0
  have hg0:=new_get hs0
  have k0:=new_keep hs0
  have n0:=new_n hs0
  obtain ⟨b0,hbn0⟩:∃ b,Heap.n H = b:=⟨_,rfl⟩
  rw [hbn0] at hg0 n0 ⊢
  repeat' first | refine CO.cons rfl ?_ | refine CO.nil ?_ | refine CV.seq ?_ | refine ⟨_,_,al28,?_⟩ | fail
  generalize hs1:Heap.new H0 _ = H1
  have hg1:=new_get hs1
  have k1:=new_keep hs1
  have n1:=new_n hs1
  obtain ⟨b1,hbn1⟩:∃ b,Heap.n H0 = b:=⟨_,rfl⟩
  rw [hbn1] at hg1 n1 ⊢
  have hf1:=(k1.2 b0 (by omega)).trans hg0
  have k01:=k0.trans k1
  have hc1:=hc.keep k01
  have ht1:=ht.keep k01
  repeat' first | refine CR.cons (es:=[]) ?_ | refine CV.mX callees (by decide +kernel) [(1,[]),(2,[]),(5,[]),(6,[]),(0,[6,2]),(3,[6]),(4,[6]),(7,[]),(8,[]),(9,[])] (by kernel_rfl) ?_ | refine ⟨_,fS foF0 (by decide),?_⟩ | refine ⟨_,fS foF1 (by decide),?_⟩ | refine ⟨_,cell_load ag25 hf1 rfl,?_⟩ | fail
  refine CR.opL H1.n (by omega) (Nat.le_refl _) ?_
  refine ⟨_,_,coNone,?_⟩
  refine .inr ⟨by omega,_,cell_load ag26 hf1 rfl,?_⟩
  refine .inr ⟨by omega,_,cell_load ag25 hf1 rfl,?_⟩
  refine CR.opL H1.n (by omega) (by show H1.n<=H1.n + 1; omega) ?_
  refine copy_askS (B:=H1.n) (z:=Col ⟨0,0,0,0,0,0,false⟩) un25 zero48b (by decide) hc1 (Nat.le_refl _) (by rw [List.length_map]; omega) ?_
  intro q H2 hq k2
  have l2:=k2.1
  have hfN:(H1.new (.cells [] 32 2)).get b0 = some (.cells (Fl cv tv) 25 1):=by rw [Heap.get_new_ne _ _ (by omega)]; exact hf1
  have hf2:=(k2.2 b0 (by omega)).trans hf1
  have hz2:=(k2.2 b1 (by omega)).trans hg1
  have ht2:=ht1.keep k2
  refine .inr ⟨by omega,_,cell_load ag26 hfN rfl,?_⟩
  refine CR.opL H1.n (by omega) (by omega) ?_
  refine ⟨_,_,toNone,?_⟩
  refine .inr ⟨by omega,_,cell_load ag26 hf2 rfl,?_⟩
  repeat' first | refine CR.cons (es:=[]) ?_ | fail
  refine copy_askS (z:=Hl (0,0)) un26 zero82b (by decide) ht2 (by omega) (by rw [List.length_map]; omega) ?_
  intro p H3 hp k3
  have l3:=k3.1
  have hz3:=(k3.2 b1 (by omega)).trans hz2
  have hq3:OwnC H3 q cs H1.n:=OwnS.keep hq k3
  repeat' first | refine CR.cons (es:=[]) ?_ | refine ⟨_,buF (OwnS.row hq3) (OwnS.row hp),?_⟩ | fail
  refine ⟨_,_,st28 (OwnS.oneC hq3) (OwnS.oneC hp) hz3,by omega,?_⟩
  generalize hs4:Heap.set H3 b1 _ = H4
  have hg4:H4.get b1 = some (.cells (Fl q p) 25 1):=set_get hs4
  have n4:=set_n hs4
  have o4:=set_old hs4
  have kx:KeepX b1 H3 H4:=⟨by omega,fun c hc hcl=>o4 c hcl⟩
  repeat' first | refine CV.ret ?_ | refine CR.nil ?_ | fail
  exact ⟨_,ld28 hg4,rfl,⟨q,p,rfl,OwnS.low (OwnS.keepX hq3 kx hz3) (by omega),OwnS.low (OwnS.keepX hp kx hz3) (by omega)⟩,keep_put ((k01.trans k2).trans k3) (by omega) o4 n4⟩
theorem pure_forIn2 {α β:Type} {P:Program} {init:β} {f:α->β->Sem (ForInStep β)}:∀ (l:List α),(∀ a ∈ l,pureRun P (f a init) = some (.yield init))->pureRun P (forIn l init f) = some init
  | [],_=>rfl
  | a :: l,h=>by
    rw [List.forIn_cons,pureRun_bind,h a (by simp)]
    exact pure_forIn2 l fun b hb=>h b (by simp [hb])
theorem eq_int2 {t:TypeId} {k:IntKind} {a:Int} {d:Nat} (ht:Try.prog.underlying t = some (.int k)):pureRun Try.prog (Op.equalIn (d + 1) t (.int .i64 a) (.int .i64 a)) = some true:=by
  rw [Op.equalIn,pureRun_bind,pureRun_underlying ht]
  simp
  rfl
theorem unBq:Try.prog.underlying 4 = some .bool:=by kernel_rfl
theorem eq_bool2 {a:Bool} {d:Nat}:pureRun Try.prog (Op.equalIn (d + 1) 4 (.bool a) (.bool a)) = some true:=by
  rw [Op.equalIn,pureRun_bind,pureRun_underlying unBq]
  simp
  rfl
theorem notHeldC:Try.prog.stoodInHeld 32 = false:=by kernel_rfl
theorem partS0 {a b:Int}:pureRun Try.prog (part 3 #[VJ a,VJ b] 0) = some (VJ a):=by kernel_rfl
theorem partS1 {a b:Int}:pureRun Try.prog (part 3 #[VJ a,VJ b] 1) = some (VJ b):=by kernel_rfl
theorem partC0 {a b c d e f:Int} {w:Bool}:pureRun Try.prog (part 27 #[VJ a,VJ b,VJ c,VJ d,VJ e,VJ f,.bool w] 0) = some (Hv (a,b)):=by kernel_rfl
theorem partC2 {a b c d e f:Int} {w:Bool}:pureRun Try.prog (part 27 #[VJ a,VJ b,VJ c,VJ d,VJ e,VJ f,.bool w] 2) = some (Hv (c,d)):=by kernel_rfl
theorem partC4 {a b c d e f:Int} {w:Bool}:pureRun Try.prog (part 27 #[VJ a,VJ b,VJ c,VJ d,VJ e,VJ f,.bool w] 4) = some (Hv (e,f)):=by kernel_rfl
theorem partC6 {a b c d e f:Int} {w:Bool}:pureRun Try.prog (part 4 #[VJ a,VJ b,VJ c,VJ d,VJ e,VJ f,.bool w] 6) = some (.bool w):=by kernel_rfl
set_option maxRecDepth 100000 in
theorem eqSpn {p:Int × Int} {d:Nat}:pureRun Try.prog (Op.equalIn (d + 1 + 1) 27 (Hv p) (Hv p)) = some true:=by
  rw [show d + 1 + 1 = d + 1 + 1 from rfl,Op.equalIn,pureRun_bind,pureRun_underlying Try.underlying27]
  simp only [Option.bind_some]
  rw [pureRun_bind,show pureRun Try.prog program = some Try.prog from rfl,Option.bind_some,if_neg (by rw [notHeldS]; simp),pureRun_bind,<- Array.forIn_toList,pure_forIn2]
  · rfl
  intro f hf
  simp only [List.mem_cons,List.not_mem_nil,or_false] at hf
  rcases hf with rfl | rfl
  · rw [if_pos (by decide),pureRun_bind,partS0,Option.bind_some,pureRun_bind,partS0,Option.bind_some,pureRun_bind,eq_int2 un3]; rfl
  · rw [if_pos (by decide),pureRun_bind,partS1,Option.bind_some,pureRun_bind,partS1,Option.bind_some,pureRun_bind,eq_int2 un3]; rfl
set_option maxRecDepth 100000 in
theorem eqCo1 {x:Co}:pureRun Try.prog (Op.equal 32 (Cov x) (Cov x)) = some true:=by
  unfold Op.equal
  rw [show Op.maxDepth = 9997 + 1 + 1 + 1 from rfl,Op.equalIn,pureRun_bind,pureRun_underlying Try.underlying32]
  simp only [Option.bind_some]
  rw [pureRun_bind,show pureRun Try.prog program = some Try.prog from rfl,Option.bind_some,if_neg (by rw [notHeldC]; simp),pureRun_bind,<- Array.forIn_toList,pure_forIn2]
  · rfl
  intro f hf
  simp only [List.mem_cons,List.not_mem_nil,or_false] at hf
  rcases hf with rfl | rfl | rfl | rfl
  · rw [if_pos (by decide),pureRun_bind,partC0,Option.bind_some,pureRun_bind,partC0,Option.bind_some,pureRun_bind,eqSpn]; rfl
  · rw [if_pos (by decide),pureRun_bind,partC2,Option.bind_some,pureRun_bind,partC2,Option.bind_some,pureRun_bind,eqSpn]; rfl
  · rw [if_pos (by decide),pureRun_bind,partC4,Option.bind_some,pureRun_bind,partC4,Option.bind_some,pureRun_bind,eqSpn]; rfl
  · rw [if_pos (by decide),pureRun_bind,partC6,Option.bind_some,pureRun_bind,partC6,Option.bind_some,pureRun_bind,eq_bool2]; rfl
set_option maxRecDepth 100000 in
theorem eqTo1 {p:Int × Int}:pureRun Try.prog (Op.equal 99 (Hv p) (Hv p)) = some true:=by
  unfold Op.equal
  rw [show Op.maxDepth = 9998 + 1 + 1 from rfl,Op.equalIn,pureRun_bind,pureRun_underlying Try.underlying99]
  simp only [Option.bind_some]
  rw [pureRun_bind,show pureRun Try.prog program = some Try.prog from rfl,Option.bind_some,if_neg (by rw [notHeldT]; simp),pureRun_bind,<- Array.forIn_toList,pure_forIn2]
  · rfl
  intro f hf
  simp only [List.mem_cons,List.not_mem_nil,or_false] at hf
  rcases hf with rfl | rfl
  · rw [if_pos (by decide),pureRun_bind,partS0,Option.bind_some,pureRun_bind,partS0,Option.bind_some,pureRun_bind,eq_int2 un3]; rfl
  · rw [if_pos (by decide),pureRun_bind,partS1,Option.bind_some,pureRun_bind,partS1,Option.bind_some,pureRun_bind,eq_int2 un3]; rfl
theorem guardCo {op:BinOp} {x y:Operand} {p q:Co}:pureRun Try.prog (eqGuard op 32 x y (Cov p) (Cov q)) = some ():=by
  cases op<;>kernel_rfl
theorem guardTo {op:BinOp} {x y:Operand} {p q:Int × Int}:pureRun Try.prog (eqGuard op 99 x y (Hv p) (Hv q)) = some ():=by
  cases op<;>kernel_rfl
theorem step1_neCo {tm:Tm} {H:Heap} {q:Oper} {u:TypeId} {x y:Operand} {p:Co} (ho:q.op = .binOp .neq 32 x y u) (hx:ev Try.prog tm x = some (Cov p)) (hy:ev Try.prog tm y = some (Cov p)):step1 Try.prog tm H q = some (.bool false,H,H.n):=by
  refine step1_bin ho hx hy rfl rfl (apure_bin ho hx hy rfl rfl guardCo ?_ rfl)
  rw [show binOp .neq 32 (Cov p) (Cov p) = (do pure (.bool (!(<- Op.equal 32 (Cov p) (Cov p))))) from rfl,pureRun_bind,eqCo1]
  rfl
theorem step1_neTo {tm:Tm} {H:Heap} {q:Oper} {u:TypeId} {x y:Operand} {p:Int × Int} (ho:q.op = .binOp .neq 99 x y u) (hx:ev Try.prog tm x = some (Hv p)) (hy:ev Try.prog tm y = some (Hv p)):step1 Try.prog tm H q = some (.bool false,H,H.n):=by
  refine step1_bin ho hx hy rfl rfl (apure_bin ho hx hy rfl rfl guardTo ?_ rfl)
  rw [show binOp .neq 99 (Hv p) (Hv p) = (do pure (.bool (!(<- Op.equal 99 (Hv p) (Hv p))))) from rfl,pureRun_bind,eqTo1]
  rfl
set_option maxHeartbeats 4000000 in
set_option maxRecDepth 100000 in
theorem eqFires_spec {B:Nat} {H:Heap} {cv tv cw tw:Value} {cs:List Co} {ts:List (Int × Int)} (hB:B<=H.n) (hc:RowS 7 H cv (cs.map Col)) (ht:RowS 2 H tv (ts.map Hl)) (hd:RowS 7 H cw (cs.map Col)) (hu:RowS 2 H tw (ts.map Hl)) (hcn:cs.length<=100) (htn:ts.length<=100) :
    CallB Try.prog B 34 [Fv cv tv,Fv cw tw] H (fun r H'=>r = .bool true∧Keep H H'):=by
  refine CV.enter callees false rfl Try.func34 rfl (by kernel_rfl) (Nat.le_of_ble_eq_true rfl) hB ?_
  repeat' first | refine CO.cons rfl ?_ | refine CV.seq ?_ | refine CV.region callees ?_ | fail
  refine ⟨(by simp only [notTuple]),?_⟩
  rw [allocFv hc.cells.1 ht.cells.1]
  generalize hs0:Heap.new H _ = H0
  have hg0:=new_get hs0
  have k0:=new_keep hs0
  have n0:=new_n hs0
  obtain ⟨b0,hbn0⟩:∃ b,Heap.n H = b:=⟨_,rfl⟩
  rw [hbn0] at hg0 n0 ⊢
  repeat' first | refine CO.cons rfl ?_ | fail
  refine ⟨(by simp only [notTuple]),?_⟩
  rw [allocFv hd.cells.1 hu.cells.1]
  generalize hs1:Heap.new H0 _ = H1
  have hg1:=new_get hs1
  have k1:=new_keep hs1
  have n1:=new_n hs1
  obtain ⟨b1,hbn1⟩:∃ b,Heap.n H0 = b:=⟨_,rfl⟩
  rw [hbn1] at hg1 n1 ⊢
  have hg01:=(k1.2 b0 (by omega)).trans hg0
  have k01:=k0.trans k1
  have hc1:=hc.keep k01
  have ht1:=ht.keep k01
  have hd1:=hd.keep k01
  have hu1:=hu.keep k01
  repeat' first | refine CO.cons rfl ?_ | refine CO.nil ?_ | refine CV.seq ?_ | refine CV.region callees ?_ | refine CV.cond ?_ | refine CV.block ?_ | refine CV.skip ?_ | refine CO.consG rfl ?_ | refine ⟨_,fS foF0 (by decide),?_⟩ | refine ⟨_,fS foF1 (by decide),?_⟩ | refine ⟨_,cell_load ag25 hg01 rfl,?_⟩ | refine ⟨_,cell_load ag25 hg1 rfl,?_⟩ | refine ⟨_,cs_len hc1,?_⟩ | refine ⟨_,cs_len hd1,?_⟩ | refine ⟨_,ts_len ht1,?_⟩ | refine ⟨_,ts_len hu1,?_⟩ | (refine ⟨fun _=>?_,fun _=>?_⟩<;>try (exfalso; omega)) | fail
  refine CV.loopc ?_
  refine WCv.rounds callees false (α:=Nat) (fun i=>[(2,.pointer (some ⟨b0,0,none⟩)),(3,.pointer (some ⟨b1,0,none⟩)),(5,VJ i)]) (fun i Hz=>i<=cs.length∧Hz = H1) (fun i=>cs.length - i) (0) (by repeat' first | exact trivial | refine ⟨rfl,?_⟩ | refine ⟨slot_int (by (try simp only [Int.toNat_natCast]); omega),?_⟩) ?_ ?_
  · exact ⟨by omega,rfl⟩
  rintro i Hx ⟨hi,rfl⟩ hBx
  by_cases hi2:i < cs.length
  · repeat' first | refine CO.cons rfl ?_ | refine CO.nil ?_ | refine CV.seq ?_ | refine CV.region callees ?_ | refine CV.cond ?_ | refine CV.block ?_ | refine CV.skip ?_ | refine CV.draw callees (by decide +kernel) ?_ | refine CH.cons rfl ?_ | refine CH.nil ?_ | refine ⟨(⟨by omega,by omega⟩:inI64 _),?_⟩ | refine ⟨_,fS foF0 (by decide),?_⟩ | refine ⟨_,cell_load ag25 hg01 rfl,?_⟩ | refine ⟨_,cell_load ag25 hg1 rfl,?_⟩ | refine ⟨_,cs_len hc1,?_⟩ | refine ⟨_,cs_addr hc1 (by omega) (by omega),?_⟩ | refine ⟨_,cs_addr hd1 (by omega) (by omega),?_⟩ | refine ⟨_,cs_load hc1 hi2,?_⟩ | refine ⟨_,cs_load hd1 hi2,?_⟩ | refine ⟨_,fun tm ha=>step1_neCo rfl (ev_tmp ha rfl) (ev_tmp ha rfl),?_⟩ | (refine ⟨fun _=>?_,fun _=>?_⟩<;>try (exfalso; omega)) | fail
    refine ⟨(i + 1),(by repeat' first | exact trivial | refine ⟨rfl,?_⟩ | refine ⟨slot_int (by (try simp only [Int.toNat_natCast]); omega),?_⟩),(by (try dsimp only); omega),?_⟩
    exact ⟨by omega,rfl⟩
  repeat' first | refine CO.cons rfl ?_ | refine CO.nil ?_ | refine CV.seq ?_ | refine CV.region callees ?_ | refine CV.cond ?_ | refine CV.block ?_ | refine CV.exit ?_ | refine ⟨_,fS foF0 (by decide),?_⟩ | refine ⟨_,cell_load ag25 hg01 rfl,?_⟩ | refine ⟨_,cs_len hc1,?_⟩ | (refine ⟨fun _=>?_,fun _=>?_⟩<;>try (exfalso; omega)) | fail
  refine CV.loopc ?_
  refine WCv.rounds callees false (α:=Nat) (fun i=>[(2,.pointer (some ⟨b0,0,none⟩)),(3,.pointer (some ⟨b1,0,none⟩)),(6,VJ i)]) (fun i Hz=>i<=ts.length∧Hz = Hx) (fun i=>ts.length - i) (0) (by repeat' first | exact trivial | refine ⟨rfl,?_⟩ | refine ⟨slot_int (by (try simp only [Int.toNat_natCast]); omega),?_⟩) ?_ ?_
  · exact ⟨by omega,rfl⟩
  rintro i Hy ⟨hi,rfl⟩ hBy
  by_cases hi2:i < ts.length
  · repeat' first | refine CO.cons rfl ?_ | refine CO.nil ?_ | refine CV.seq ?_ | refine CV.region callees ?_ | refine CV.cond ?_ | refine CV.block ?_ | refine CV.skip ?_ | refine CV.draw callees (by decide +kernel) ?_ | refine CH.cons rfl ?_ | refine CH.nil ?_ | refine ⟨(⟨by omega,by omega⟩:inI64 _),?_⟩ | refine ⟨_,fS foF1 (by decide),?_⟩ | refine ⟨_,cell_load ag25 hg01 rfl,?_⟩ | refine ⟨_,cell_load ag25 hg1 rfl,?_⟩ | refine ⟨_,ts_len ht1,?_⟩ | refine ⟨_,ts_addr ht1 (by omega) (by omega),?_⟩ | refine ⟨_,ts_addr hu1 (by omega) (by omega),?_⟩ | refine ⟨_,ts_load ht1 hi2,?_⟩ | refine ⟨_,ts_load hu1 hi2,?_⟩ | refine ⟨_,fun tm ha=>step1_neTo rfl (ev_tmp ha rfl) (ev_tmp ha rfl),?_⟩ | (refine ⟨fun _=>?_,fun _=>?_⟩<;>try (exfalso; omega)) | fail
    refine ⟨(i + 1),(by repeat' first | exact trivial | refine ⟨rfl,?_⟩ | refine ⟨slot_int (by (try simp only [Int.toNat_natCast]); omega),?_⟩),(by (try dsimp only); omega),?_⟩
    exact ⟨by omega,rfl⟩
  repeat' first | refine CO.cons rfl ?_ | refine CO.nil ?_ | refine CV.seq ?_ | refine CV.region callees ?_ | refine CV.cond ?_ | refine CV.exit ?_ | refine CV.ret ?_ | refine ⟨_,fS foF1 (by decide),?_⟩ | refine ⟨_,cell_load ag25 hg01 rfl,?_⟩ | refine ⟨_,ts_len ht1,?_⟩ | (refine ⟨fun _=>?_,fun _=>?_⟩<;>try (exfalso; omega)) | fail
  exact ⟨rfl,rfl,k01⟩
end Go.Proofs.Ytglkphjjinmgmaa
