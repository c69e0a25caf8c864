/- Lay,the reference's way. -/
import Derived.Test.Ytglkphjjinmgmaat4h
import Derived.Test.Ytglkphjjinmgmaar6h
import Derived.Test.YtglkphjjinmgmaaM8h
set_option linter.unusedVariables false
set_option linter.unusedSimpArgs false
namespace Go.Proofs.Ytglkphjjinmgmaa
open Go.AI
set_option maxHeartbeats 4000000 in
set_option maxRecDepth 100000 in
theorem enough_spec {B:Nat} {H:Heap} {k:Ke} {cv tv pv:Value} {cs:List Co} {ts:List (Int × Int)} {ps:List Po} {B0 B1:List Int} {fr to:Nat} (hB:B<=H.n) (hk:KOk k) (hc:RowS 7 H cv (cs.map Col)) (ht:RowS 2 H tv (ts.map Hl)) (hp:RowS 3 H pv (ps.map Pol)) (ho:POk k.wa ps) (hf:FOk cs ts) (h0:IsBeg 0 cs ts B0) (h1:IsBeg 1 cs ts B1) (hft:fr<=to) (hM:to<=300) :
    CallB Try.prog B 102 [Kev k,Fv cv tv,pv,VJ fr,VJ to] H (fun r H'=>r = .bool (surB k (emL cs B0 B1) ps fr to)∧Keep H H'):=by
  refine CV.enter callees false rfl Try.func102 rfl (by kernel_rfl) (Nat.le_of_ble_eq_true rfl) hB ?_
  repeat' first | refine CO.cons rfl ?_ | refine CV.seq ?_ | refine CV.region callees ?_ | fail
  refine ⟨(by simp only [notTuple]),?_⟩
  rw [boxKe]
  generalize hs0:Heap.new H _ = H0
  have hg0:=new_get hs0
  have k0:=new_keep hs0
  have n0:=new_n hs0
  obtain ⟨b0,hbn0⟩:∃ b,Heap.n H = b:=⟨_,rfl⟩
  rw [hbn0] at hg0 n0 ⊢
  repeat' first | refine CO.cons rfl ?_ | fail
  refine ⟨(by simp only [notTuple]),?_⟩
  rw [allocFv hc.cells.1 ht.cells.1]
  generalize hs1:Heap.new H0 _ = H1
  have hg1:=new_get hs1
  have k1:=new_keep hs1
  have n1:=new_n hs1
  obtain ⟨b1,hbn1⟩:∃ b,Heap.n H0 = b:=⟨_,rfl⟩
  rw [hbn1] at hg1 n1 ⊢
  have k01:=k0.trans k1
  have hk1:=(k1.2 b0 (by omega)).trans hg0
  repeat' first | refine CO.cons rfl ?_ | refine CO.nil ?_ | refine CV.seq ?_ | refine CV.region callees ?_ | refine ⟨_,ld51 hk1,?_⟩ | refine ⟨_,ld28 hg1,?_⟩ | fail
  refine (runR_spec (by omega) hk (hc.keep k01) (ht.keep k01) (hp.keep k01) ho hf h0 h1 hM).mono ?_
  rintro q H2 ⟨hq0,k2⟩
  have l2:=k2.1
  have hq:=hq0.row
  have k02:=k01.trans k2
  have hk2:=(k2.2 b0 (by omega)).trans hk1
  obtain ⟨E,hE⟩:∃ E,emL cs B0 B1 = E:=⟨_,rfl⟩
  rw [hE] at hq ⊢
  have hql:(warmL k E ps (to + 1)).length = to + 1:=warmL_len
  repeat' first | refine CO.cons rfl ?_ | refine CO.nil ?_ | refine CV.seq ?_ | refine CV.region callees ?_ | refine CV.block ?_ | fail
  refine CV.loopc ?_
  refine WCv.rounds callees false (α:=Nat) (fun m=>[(4,VJ to),(5,.pointer (some ⟨b0,0,none⟩)),(11,q),(12,VJ m)]) (fun m Hz=>fr<=m∧m<=to + 1∧(∀ i,fr<=i->i < m->verN k (warmM k E ps i) = 1)∧Keep H2 Hz) (fun m=>to + 1 - m) (fr) (by repeat' first | exact trivial | refine ⟨rfl,?_⟩ | refine ⟨slot_int (by (try simp only [Int.toNat_natCast]); omega),?_⟩) ?_ ?_
  · exact ⟨Nat.le_refl _,by omega,fun i u1 u2=>by omega,Keep.refl _⟩
  rintro m Hx ⟨hm1,hm2,hall,kx⟩ hBx
  have lx:=kx.1
  have hqx:=hq.keep kx
  have hkx:=(kx.2 b0 (by omega)).trans hk2
  by_cases hi2:m < to + 1
  · have hld:aload Try.prog 27 Hx (elemS q 2 m) = some (Hv (warmM k E ps m)):=by rw [sp_load hqx (by omega),warmL_at hi2]
    repeat' first | refine CO.cons rfl ?_ | refine CO.nil ?_ | refine CV.seq ?_ | refine CV.region callees ?_ | refine CV.cond ?_ | refine CV.block ?_ | refine CV.skip ?_ | refine CV.draw callees (by decide +kernel) ?_ | refine CH.cons rfl ?_ | refine CH.nil ?_ | refine ⟨_,ld51 hkx,?_⟩ | refine ⟨_,sp_addr hqx (by omega) (by omega),?_⟩ | refine ⟨_,hld,?_⟩ | (refine ⟨fun _=>?_,fun _=>?_⟩<;>try (exfalso; omega)) | fail
    refine (refVer_spec (by omega)).mono ?_
    rintro r H5 ⟨rfl,k5⟩
    obtain ⟨vv,hvv⟩:∃ x,verN k (warmM k E ps m) = x:=⟨_,rfl⟩
    rw [hvv]
    by_cases hv1:vv = 1
    · repeat' first | refine CO.cons rfl ?_ | refine CO.nil ?_ | refine CV.region callees ?_ | refine CV.cond ?_ | refine CV.skip ?_ | refine CH.cons rfl ?_ | refine CH.nil ?_ | refine ⟨(⟨by omega,by omega⟩:inI64 _),?_⟩ | (refine ⟨fun _=>?_,fun _=>?_⟩<;>try (exfalso; omega)) | fail
      refine ⟨(m + 1),(by repeat' first | exact trivial | refine ⟨rfl,?_⟩ | refine ⟨slot_int (by (try simp only [Int.toNat_natCast]); omega),?_⟩),(by (try dsimp only); omega),?_⟩
      refine ⟨by omega,by omega,fun i u1 u2=>?_,kx.trans k5⟩
      by_cases e:i = m
      · rw [e,hvv]; exact hv1
      · exact hall i u1 (by omega)
    · repeat' first | refine CO.cons rfl ?_ | refine CO.nil ?_ | refine CV.seq ?_ | refine CV.region callees ?_ | refine CV.cond ?_ | refine CV.ret ?_ | refine CH.cons rfl ?_ | refine CH.nil ?_ | (refine ⟨fun _=>?_,fun _=>?_⟩<;>try (exfalso; omega)) | fail
      exact ⟨rfl,by rw [surB_false hm1 (by omega) (by rw [hvv]; exact hv1)],(k02.trans kx).trans k5⟩
  have hme:m = to + 1:=by omega
  repeat' first | refine CO.cons rfl ?_ | refine CO.nil ?_ | refine CV.seq ?_ | refine CV.region callees ?_ | refine CV.cond ?_ | refine CV.exit ?_ | refine CV.ret ?_ | (refine ⟨fun _=>?_,fun _=>?_⟩<;>try (exfalso; omega)) | fail
  exact ⟨rfl,by rw [surB_true fun i u1 u2=>hall i u1 (by omega)],k02.trans kx⟩
theorem sur_en {k:Ke} {cs:List Co} {ts:List (Int × Int)} {ps:List Po} {fr to:Nat} {c:List Int} {B0 B1:List Int} (hf:FOk cs ts) (hc:Asc cs.length 0 c) (h0:IsBeg 0 (onlyC cs c) (onlyT ts c) B0) (h1:IsBeg 1 (onlyC cs c) (onlyT ts c) B1) :
    surB k (emL (onlyC cs c) B0 B1) ps fr to = enB k cs ts ps fr to c:=by
  by_cases h:∀ m,fr<=m->m<=to->verN k (warmM k (emL (onlyC cs c) B0 B1) ps m) = 1
  · rw [surB_true h,(enB_iff hf hc h0 h1).2 h]
  · have h':enB k cs ts ps fr to c = false:=by
      cases he:enB k cs ts ps fr to c with
      | false=>rfl
      | true=>exact absurd ((enB_iff hf hc h0 h1).1 he) h
    rw [h']
    cases hs:surB k (emL (onlyC cs c) B0 B1) ps fr to with
    | false=>rfl
    | true =>
      exfalso
      apply h
      intro m u1 u2
      apply Classical.byContradiction
      intro hn
      rw [surB_false u1 u2 hn] at hs; cases hs
def PostL (X:Heap) (r:Value):Option (List Int)->Prop
  | none=>∃ q,r = .tuple #[q,.bool false]
  | some s=>∃ q,r = .tuple #[q,.bool true]∧Ints X q s
set_option maxHeartbeats 8000000 in
set_option maxRecDepth 100000 in
theorem layR_spec {k:Ke} {cv tv pv:Value} {cs:List Co} {ts:List (Int × Int)} {ps:List Po} {fr to:Nat} (hk:KOk k) (ho:POk k.wa ps) (hf:FOk cs ts) (hft:fr<=to) (hM:to<=300) :
    ∀ (more:Nat) {B:Nat} {H:Heap} {qv:Value} {c:List Int} {nx:Nat},B<=H.n->RowS 7 H cv (cs.map Col)->RowS 2 H tv (ts.map Hl)->RowS 3 H pv (ps.map Pol)->Ints H qv c->Asc cs.length 0 c->(∀ x ∈ c,x < (nx:Int))->nx<=cs.length->more<=20 ->
    CallB Try.prog B 89 [Kev k,Fv cv tv,pv,VJ fr,VJ to,qv,VJ nx,VJ more] H (fun r H'=>PostL H' r (tryG (enB k cs ts ps fr to) cs.length more c nx)∧Keep H H'):=by
  intro more
  induction more with
  | zero =>
    intro B H qv c nx hB hc ht hp hq ha hlt hnx hmo
    have hfo:=only_ok hf ha
    obtain ⟨B0,h0⟩:=isBeg_ex (e:=0) hfo
    obtain ⟨B1,h1⟩:=isBeg_ex (e:=1) hfo
    refine CV.enter callees false rfl Try.func89 rfl (by kernel_rfl) (Nat.le_of_ble_eq_true rfl) hB ?_
    repeat' first | refine CO.cons rfl ?_ | refine CV.seq ?_ | refine CV.region callees ?_ | fail
    refine ⟨(by simp only [notTuple]),?_⟩
    rw [boxKe]
    generalize hs0:Heap.new H _ = H0
    have hg0:=new_get hs0
    have k0:=new_keep hs0
    have n0:=new_n hs0
    obtain ⟨b0,hbn0⟩:∃ b,Heap.n H = b:=⟨_,rfl⟩
    rw [hbn0] at hg0 n0 ⊢
    repeat' first | refine CO.cons rfl ?_ | fail
    refine ⟨(by simp only [notTuple]),?_⟩
    rw [allocFv hc.cells.1 ht.cells.1]
    generalize hs1:Heap.new H0 _ = H1
    have hg1:=new_get hs1
    have k1:=new_keep hs1
    have n1:=new_n hs1
    obtain ⟨b1,hbn1⟩:∃ b,Heap.n H0 = b:=⟨_,rfl⟩
    rw [hbn1] at hg1 n1 ⊢
    have k01:=k0.trans k1
    have hk1:=(k1.2 b0 (by omega)).trans hg0
    have hq1:Ints H1 qv c:=Row.keep hq k01
    repeat' first | refine CO.cons rfl ?_ | refine CO.nil ?_ | refine CV.seq ?_ | refine CV.region callees ?_ | refine CV.cond ?_ | refine CR.cons ?_ | refine CV.wideR callees (by decide +kernel) [(0,[]),(1,[]),(2,[]),(3,[]),(5,[]),(6,[]),(7,[]),(4,[1]),(8,[]),(9,[]),(10,[])] (by kernel_rfl) ?_ | refine ⟨_,ld51 hk1,?_⟩ | refine ⟨_,ld28 hg1,?_⟩ | (refine ⟨fun _=>?_,fun _=>?_⟩<;>try (exfalso; omega)) | fail
    refine (onlyR_spec (by omega) (hc.keep k01) (ht.keep k01) hq1 hf ha).mono ?_
    rintro r H2 ⟨⟨u,w,rfl,hu,hw⟩,k2⟩
    have l2:=k2.1
    have hk2:=(k2.2 b0 (by omega)).trans hk1
    repeat' first | refine CR.cons ?_ | refine ⟨_,ld51 hk2,?_⟩ | refine ⟨(rfl:_ = Kev _),?_⟩ | refine ⟨same_ke,?_⟩ | fail
    refine (enough_spec (by omega) hk hu.row hw.row ((hp.keep k01).keep k2) ho hfo h0 h1 hft hM).mono ?_
    rw [sur_en hf ha h0 h1]
    rintro r H3 ⟨rfl,k3⟩
    have hqn:=(Row.oneC hq)
    repeat' first | refine CV.ret ?_ | refine CR.cons ?_ | refine CR.nil ?_ | fail
    have hq3:Ints H3 qv c:=Row.keep (Row.keep hq1 k2) k3
    have hpl:PostL H3 (.tuple #[qv,.bool (enB k cs ts ps fr to c)]) (tryG (enB k cs ts ps fr to) cs.length 0 c nx):=by
      rw [tryG]
      cases he:enB k cs ts ps fr to c with
      | true=>exact ⟨qv,rfl,hq3⟩
      | false=>exact ⟨qv,rfl⟩
    exact ⟨by simp only [List.all_cons,List.all_nil,hqn.2]; rfl,hpl,(k01.trans k2).trans k3⟩
  | succ more ih =>
    intro B H qv c nx hB hc ht hp hq ha hlt hnx hmo
    have hn12:=hf.n
    have hcl:=asc_len (Nat.zero_le _) ha
    refine CV.enter callees false rfl Try.func89 rfl (by kernel_rfl) (Nat.le_of_ble_eq_true rfl) hB ?_
    repeat' first | refine CO.cons rfl ?_ | refine CV.seq ?_ | refine CV.region callees ?_ | fail
    refine ⟨(by simp only [notTuple]),?_⟩
    rw [boxKe]
    generalize hs0:Heap.new H _ = H0
    have hg0:=new_get hs0
    have k0:=new_keep hs0
    have n0:=new_n hs0
    obtain ⟨b0,hbn0⟩:∃ b,Heap.n H = b:=⟨_,rfl⟩
    rw [hbn0] at hg0 n0 ⊢
    repeat' first | refine CO.cons rfl ?_ | fail
    refine ⟨(by simp only [notTuple]),?_⟩
    rw [allocFv hc.cells.1 ht.cells.1]
    generalize hs1:Heap.new H0 _ = H1
    have hg1:=new_get hs1
    have k1:=new_keep hs1
    have n1:=new_n hs1
    obtain ⟨b1,hbn1⟩:∃ b,Heap.n H0 = b:=⟨_,rfl⟩
    rw [hbn1] at hg1 n1 ⊢
    have k01:=k0.trans k1
    have hk1:=(k1.2 b0 (by omega)).trans hg0
    obtain ⟨En,hEn⟩:∃ En,enB k cs ts ps fr to = En:=⟨_,rfl⟩
    rw [hEn] at ih ⊢
    have hmi:(((more + 1:Nat):Int) - 1) = (more:Int):=by omega
    repeat' first | refine CO.cons rfl ?_ | refine CO.nil ?_ | refine CV.seq ?_ | refine CV.region callees ?_ | refine CV.cond ?_ | refine CV.block ?_ | refine CV.skip ?_ | (refine ⟨fun _=>?_,fun _=>?_⟩<;>try (exfalso; omega)) | fail
    refine CV.loopc ?_
    refine WCv.rounds callees false (α:=Nat) (fun i=>[(2,pv),(3,VJ fr),(4,VJ to),(5,qv),(7,VJ ((more + 1:Nat):Int)),(8,.pointer (some ⟨b0,0,none⟩)),(9,.pointer (some ⟨b1,0,none⟩)),(18,VJ i)]) (fun i Hz=>nx<=i∧i<=cs.length∧tryG En cs.length (more + 1) c nx = loopG (fun j=>tryG En cs.length more (c ++ [(j:Int)]) (j + 1)) (cs.length - i) i∧Keep H1 Hz) (fun i=>cs.length - i) (nx) (by repeat' first | exact trivial | refine ⟨rfl,?_⟩ | refine ⟨slot_int (by (try simp only [Int.toNat_natCast]); omega),?_⟩) ?_ ?_
    · exact ⟨Nat.le_refl _,hnx,rfl,Keep.refl _⟩
    rintro i Hx ⟨hi1,hi2,htg,kx⟩ hBx
    have lx:=kx.1
    have kkx:=(kx.2 b0 (by omega)).trans hk1
    have ffx:=(kx.2 b1 (by omega)).trans hg1
    have hcx:=(hc.keep k01).keep kx
    by_cases hi3:i < cs.length
    · rw [show cs.length - i = (cs.length - (i + 1)) + 1 by omega] at htg
      have hqx:Ints Hx qv c:=Row.keep (Row.keep hq k01) kx
      repeat' first | refine CO.cons rfl ?_ | refine CO.nil ?_ | refine CV.seq ?_ | refine CV.region callees ?_ | refine CV.cond ?_ | refine CV.block ?_ | refine CV.skip ?_ | refine CR.cons (es:=[]) ?_ | refine ⟨(⟨by omega,by omega⟩:inI64 _),?_⟩ | refine CV.mX callees (by decide +kernel) [(0,[]),(1,[]),(2,[]),(3,[]),(4,[]),(6,[]),(8,[]),(11,[]),(12,[]),(13,[]),(14,[]),(5,[14,12,1,0]),(7,[14,12,1,0]),(9,[14,12,1,0]),(10,[14,12,1,0]),(15,[]),(16,[]),(17,[]),(18,[]),(19,[]),(20,[])] (by kernel_rfl) ?_ | refine ⟨_,fS foF0 (by decide),?_⟩ | refine ⟨_,cell_load ag25 ffx rfl,?_⟩ | refine ⟨_,cs_len hcx,?_⟩ | refine ⟨_,ld51 kkx,?_⟩ | refine ⟨_,ld28 ffx,?_⟩ | (refine ⟨fun _=>?_,fun _=>?_⟩<;>try (exfalso; omega)) | fail
      refine CR.cons ?_
      refine ⟨_,_,build_none un22 one3,?_⟩
      refine CR.opL Hx.n (by omega) (by show Hx.n<=Hx.n + 1; omega) ?_
      refine copy_ask (B:=Hx.n) un22 one3 (by omega) hqx (Nat.le_refl _) (by rw [List.length_map]; omega) ?_
      intro u H2 hu k2
      have l2:=k2.1
      refine .inl ⟨(⟨by omega,by omega⟩:inI64 _),rfl,same_int,?_⟩
      refine .inl ⟨(⟨by omega,by omega⟩:inI64 _),rfl,same_int,?_⟩
      have fN:(Hx.new (.cells [] 3 2)).get b1 = some (.cells (Fl cv tv) 25 1):=by rw [Heap.get_new_ne _ _ (by omega)]; exact ffx
      have kN:(Hx.new (.cells [] 3 2)).get b0 = some (.cells (Kel k) 29 1):=by rw [Heap.get_new_ne _ _ (by omega)]; exact kkx
      refine .inr ⟨by omega,_,ld28 fN,?_⟩
      refine .inr ⟨by omega,_,ld51 kN,?_⟩
      have ff2:=(k2.2 b1 (by omega)).trans ffx
      have kk2:=(k2.2 b0 (by omega)).trans kkx
      refine CR.cons ?_
      refine ⟨_,_,build_one un22 one3 rfl,?_⟩
      refine CR.opL Hx.n (by omega) (by show Hx.n<=H2.n + 1; omega) ?_
      refine push_ask (B:=Hx.n) (y:=(i:Int)) hu l2 (Nat.le_refl _) (by omega) ?_
      intro u2 H3 hu2 kb3 f3
      have l3:=kb3.le
      have k3:Keep Hx H3:=kb3.keep k2 fun c hc=>(hu.lt hc).1
      have fM:(H2.new (.cells [VJ (i:Int)] 3 2)).get b1 = some (.cells (Fl cv tv) 25 1):=by rw [Heap.get_new_ne _ _ (by omega)]; exact ff2
      have kM:(H2.new (.cells [VJ (i:Int)] 3 2)).get b0 = some (.cells (Kel k) 29 1):=by rw [Heap.get_new_ne _ _ (by omega)]; exact kk2
      refine .inl ⟨(⟨by omega,by omega⟩:inI64 _),rfl,same_int,?_⟩
      refine .inl ⟨(⟨by omega,by omega⟩:inI64 _),rfl,same_int,?_⟩
      refine .inr ⟨by omega,_,ld28 fM,?_⟩
      refine .inr ⟨by omega,_,ld51 kM,?_⟩
      have k13:=kx.trans k3
      have hih:=ih (B:=B) (H:=H3) (qv:=u2) (c:=c ++ [(i:Int)]) (nx:=i + 1) (by omega) ((hc.keep k01).keep k13) ((ht.keep k01).keep k13) ((hp.keep k01).keep k13) hu2.row (asc_snoc ha (Nat.zero_le _) hi3 fun x hx=>by have:=hlt x hx; omega) (fun x hx=>by
        rcases List.mem_append.1 hx with h | h
        · have:=hlt x h; omega
        · simp only [List.mem_singleton] at h; omega) (by omega) (by omega)
      repeat' first | refine CR.cons (es:=[]) ?_ | fail
      rw [hmi]
      refine hih.mono ?_
      obtain ⟨rr,hrr⟩:∃ rr,tryG En cs.length more (c ++ [(i:Int)]) (i + 1) = rr:=⟨_,rfl⟩
      rw [hrr]
      cases rr with
      | none =>
        rintro r H4 ⟨⟨q,rfl⟩,k4⟩
        have l4:=k4.1
        repeat' first | refine CO.cons rfl ?_ | refine CO.nil ?_ | refine CV.seq ?_ | refine CV.region callees ?_ | refine CV.cond ?_ | refine CV.skip ?_ | refine CR.cons ?_ | refine CR.nil ?_ | refine ⟨(⟨by omega,by omega⟩:inI64 _),?_⟩ | fail
        refine ⟨(i + 1),(by repeat' first | exact trivial | refine ⟨rfl,?_⟩ | refine ⟨slot_int (by (try simp only [Int.toNat_natCast]); omega),?_⟩),(by (try dsimp only); omega),?_⟩
        exact ⟨by omega,by omega,by rw [htg,loopG_step (F:=fun j=>tryG En cs.length more (c ++ [(j:Int)]) (j + 1)) hrr],k13.trans k4⟩
      | some s =>
        rintro r H4 ⟨⟨q,rfl,hqs⟩,k4⟩
        have hqn:=(Row.oneC hqs)
        repeat' first | refine CO.cons rfl ?_ | refine CO.nil ?_ | refine CV.seq ?_ | refine CV.region callees ?_ | refine CV.cond ?_ | refine CV.ret ?_ | refine CR.cons ?_ | refine CR.nil ?_ | fail
        have hpl:PostL H4 (.tuple #[q,.bool true]) (tryG En cs.length (more + 1) c nx):=by
          rw [htg,loopG_hit (F:=fun j=>tryG En cs.length more (c ++ [(j:Int)]) (j + 1)) hrr]; exact ⟨q,rfl,hqs⟩
        exact ⟨by simp only [List.all_cons,List.all_nil,hqn.2]; rfl,hpl,(k01.trans k13).trans k4⟩
    have hie:i = cs.length:=by omega
    repeat' first | refine CO.cons rfl ?_ | refine CO.nil ?_ | refine CV.seq ?_ | refine CV.region callees ?_ | refine CV.cond ?_ | refine CV.exit ?_ | refine CV.ret ?_ | refine ⟨_,fS foF0 (by decide),?_⟩ | refine ⟨_,cell_load ag25 ffx rfl,?_⟩ | refine ⟨_,cs_len hcx,?_⟩ | (refine ⟨fun _=>?_,fun _=>?_⟩<;>try (exfalso; omega)) | fail
    have hpl:PostL Hx (.tuple #[nilS,.bool false]) (tryG En cs.length (more + 1) c nx):=by
      rw [htg,hie,Nat.sub_self]; exact ⟨nilS,rfl⟩
    exact ⟨rfl,hpl,k01.trans kx⟩
set_option maxHeartbeats 8000000 in
set_option maxRecDepth 100000 in
theorem refLay_spec {B:Nat} {H:Heap} {k:Ke} {cv tv pv:Value} {cs:List Co} {ts:List (Int × Int)} {ps:List Po} {fr to e:Int} {s:List Int} (hB:B<=H.n) (hc:RowS 7 H cv (cs.map Col)) (ht:RowS 2 H tv (ts.map Hl)) (hp:RowS 3 H pv (ps.map Pol)) (hcn:cs.length<=100) (htn:ts.length<=100) (hpn:ps.length<=100) (hQ:LayQ k cs ts ps fr to s e) :
    CallB Try.prog B 44 [Kev k,Fv cv tv,pv,VJ fr,VJ to] H (fun r H'=>(∃ q,r = .tuple #[q,VJ e]∧Ints H' q s)∧Keep H H'):=by
  have hle:laE k cs ts ps fr to = if boE k cs ts ps = 0 then (if (0<=fr∧fr<=300)∧(0<=to∧to<=300) then (if fr<=to then (if cs.length<=8 then 0 else 8) else 11) else 2) else boE k cs ts ps:=rfl
  obtain ⟨x,hx⟩:∃ x,laE k cs ts ps fr to = x:=⟨_,rfl⟩
  rw [hx] at hle
  refine CV.enter callees false rfl Try.func44 rfl (by kernel_rfl) (Nat.le_of_ble_eq_true rfl) hB ?_
  repeat' first | refine CO.cons rfl ?_ | refine CV.seq ?_ | refine CV.region callees ?_ | fail
  refine ⟨(by simp only [notTuple]),?_⟩
  rw [boxKe]
  generalize hs0:Heap.new H _ = H0
  have hg0:=new_get hs0
  have k0:=new_keep hs0
  have n0:=new_n hs0
  obtain ⟨b0,hbn0⟩:∃ b,Heap.n H = b:=⟨_,rfl⟩
  rw [hbn0] at hg0 n0 ⊢
  repeat' first | refine CO.cons rfl ?_ | fail
  refine ⟨(by simp only [notTuple]),?_⟩
  rw [allocFv hc.cells.1 ht.cells.1]
  generalize hs1:Heap.new H0 _ = H1
  have hg1:=new_get hs1
  have k1:=new_keep hs1
  have n1:=new_n hs1
  obtain ⟨b1,hbn1⟩:∃ b,Heap.n H0 = b:=⟨_,rfl⟩
  rw [hbn1] at hg1 n1 ⊢
  have k01:=k0.trans k1
  have hk1:=(k1.2 b0 (by omega)).trans hg0
  repeat' first | refine CO.cons rfl ?_ | refine CO.nil ?_ | refine CV.seq ?_ | refine CV.region callees ?_ | refine ⟨_,ld51 hk1,?_⟩ | refine ⟨_,ld28 hg1,?_⟩ | fail
  refine (checkRunR_spec (m:=0) (by omega) (hc.keep k01) (ht.keep k01) (hp.keep k01) hcn htn hpn).mono ?_
  rw [ruE_none]
  obtain ⟨y,hy⟩:∃ y,boE k cs ts ps = y:=⟨_,rfl⟩
  have hbz:y = 0->boE k cs ts ps = 0:=fun h=>by rw [hy]; exact h
  rw [hy] at hle ⊢
  rintro r H2 ⟨rfl,k2⟩
  have l2:=k2.1
  have k02:=k01.trans k2
  have hk2:=(k2.2 b0 (by omega)).trans hk1
  have hf2:=(k2.2 b1 (by omega)).trans hg1
  have hc2:=hc.keep k02
  by_cases hy0:y = 0
  rotate_left
  · rw [if_neg hy0] at hle
    repeat' first | refine CO.cons rfl ?_ | refine CO.nil ?_ | refine CV.seq ?_ | refine CV.region callees ?_ | refine CV.cond ?_ | refine CV.ret ?_ | (refine ⟨fun _=>?_,fun _=>?_⟩<;>try (exfalso; omega)) | fail
    rcases hQ with ⟨he,rfl,rfl⟩ | ⟨he,_⟩
    rotate_left
    · rw [hx] at he; omega
    rw [hx,hle]
    exact ⟨rfl,⟨nilS,rfl,.inl ⟨rfl,rfl⟩⟩,k02⟩
  rw [if_pos hy0] at hle
  repeat' first | refine CO.cons rfl ?_ | refine CO.nil ?_ | refine CV.seq ?_ | refine CV.region callees ?_ | refine CV.cond ?_ | refine CV.skip ?_ | (refine ⟨fun _=>?_,fun _=>?_⟩<;>try (exfalso; omega)) | fail
  by_cases c1:0<=fr∧fr<=300
  rotate_left
  · rw [if_neg (fun h=>c1 h.1)] at hle
    refine (within_no (by omega) c1).mono ?_
    rintro r H3 ⟨rfl,rfl⟩
    repeat' first | refine CO.cons rfl ?_ | refine CO.nil ?_ | refine CV.seq ?_ | refine CV.region callees ?_ | refine CV.cond ?_ | refine CV.ret ?_ | refine CO.consG rfl ?_ | fail
    rcases hQ with ⟨he,rfl,rfl⟩ | ⟨he,_⟩
    rotate_left
    · rw [hx] at he; omega
    rw [hx,hle]
    exact ⟨rfl,⟨nilS,rfl,.inl ⟨rfl,rfl⟩⟩,k02⟩
  refine (within_yes (by omega) c1).mono ?_
  rintro r H3 ⟨rfl,rfl⟩
  repeat' first | refine CO.cons rfl ?_ | refine CO.consG rfl ?_ | fail
  by_cases c2:0<=to∧to<=300
  rotate_left
  · rw [if_neg (fun h=>c2 h.2)] at hle
    refine (within_no (by omega) c2).mono ?_
    rintro r H4 ⟨rfl,rfl⟩
    repeat' first | refine CO.cons rfl ?_ | refine CO.nil ?_ | refine CV.seq ?_ | refine CV.region callees ?_ | refine CV.cond ?_ | refine CV.ret ?_ | refine CO.consG rfl ?_ | fail
    rcases hQ with ⟨he,rfl,rfl⟩ | ⟨he,_⟩
    rotate_left
    · rw [hx] at he; omega
    rw [hx,hle]
    exact ⟨rfl,⟨nilS,rfl,.inl ⟨rfl,rfl⟩⟩,k02⟩
  refine (within_yes (by omega) c2).mono ?_
  rintro r H4 ⟨rfl,rfl⟩
  rw [if_pos ⟨c1,c2⟩] at hle
  by_cases c3:fr<=to
  rotate_left
  · rw [if_neg c3] at hle
    repeat' first | refine CO.cons rfl ?_ | refine CO.nil ?_ | refine CV.seq ?_ | refine CV.region callees ?_ | refine CV.cond ?_ | refine CV.skip ?_ | refine CV.ret ?_ | refine CO.consG rfl ?_ | (refine ⟨fun _=>?_,fun _=>?_⟩<;>try (exfalso; omega)) | fail
    rcases hQ with ⟨he,rfl,rfl⟩ | ⟨he,_⟩
    rotate_left
    · rw [hx] at he; omega
    rw [hx,hle]
    exact ⟨rfl,⟨nilS,rfl,.inl ⟨rfl,rfl⟩⟩,k02⟩
  rw [if_pos c3] at hle
  by_cases c4:cs.length<=8
  rotate_left
  · rw [if_neg c4] at hle
    repeat' first | refine CO.cons rfl ?_ | refine CO.nil ?_ | refine CV.seq ?_ | refine CV.region callees ?_ | refine CV.cond ?_ | refine CV.skip ?_ | refine CV.ret ?_ | refine CO.consG rfl ?_ | refine ⟨_,fS foF0 (by decide),?_⟩ | refine ⟨_,cell_load ag25 hf2 rfl,?_⟩ | refine ⟨_,cs_len hc2,?_⟩ | (refine ⟨fun _=>?_,fun _=>?_⟩<;>try (exfalso; omega)) | fail
    rcases hQ with ⟨he,rfl,rfl⟩ | ⟨he,_⟩
    rotate_left
    · rw [hx] at he; omega
    rw [hx,hle]
    exact ⟨rfl,⟨nilS,rfl,.inl ⟨rfl,rfl⟩⟩,k02⟩
  rw [if_pos c4] at hle
  repeat' first | refine CO.cons rfl ?_ | refine CO.nil ?_ | refine CV.seq ?_ | refine CV.region callees ?_ | refine CV.cond ?_ | refine CV.block ?_ | refine CV.skip ?_ | refine CO.consG rfl ?_ | refine ⟨_,fS foF0 (by decide),?_⟩ | refine ⟨_,cell_load ag25 hf2 rfl,?_⟩ | refine ⟨_,cs_len hc2,?_⟩ | (refine ⟨fun _=>?_,fun _=>?_⟩<;>try (exfalso; omega)) | fail
  rcases hQ with ⟨he,_⟩ | ⟨he,f,t,rfl,rfl,hQ⟩
  · exact absurd (hx.trans hle) he
  obtain ⟨hk,ho,hf⟩:=boE_zero (hbz hy0)
  obtain ⟨En,hEn⟩:∃ En,enB k cs ts ps f t = En:=⟨_,rfl⟩
  rw [hEn] at hQ
  refine CV.loopc ?_
  refine WCv.rounds callees false (α:=Nat) (fun m=>[(2,pv),(3,VJ f),(4,VJ t),(5,.pointer (some ⟨b0,0,none⟩)),(6,.pointer (some ⟨b1,0,none⟩)),(13,VJ m)]) (fun m Hz=>m<=cs.length + 1∧fewG En cs.length = loopG (fun s=>tryG En cs.length s [] 0) (cs.length + 1 - m) m∧Keep H4 Hz) (fun m=>cs.length + 1 - m) (0) (by repeat' first | exact trivial | refine ⟨rfl,?_⟩ | refine ⟨slot_int (by (try simp only [Int.toNat_natCast]); omega),?_⟩) ?_ ?_
  · exact ⟨by omega,rfl,Keep.refl _⟩
  rintro m Hx ⟨hm,hfew,kx⟩ hBx
  have lx:=kx.1
  have hcx:=hc2.keep kx
  have htx:=(ht.keep k02).keep kx
  have hpx:=(hp.keep k02).keep kx
  have hkx:=(kx.2 b0 (by omega)).trans hk2
  have hfx:=(kx.2 b1 (by omega)).trans hf2
  by_cases hm2:m < cs.length + 1
  · rw [show cs.length + 1 - m = (cs.length + 1 - (m + 1)) + 1 by omega] at hfew
    repeat' first | refine CO.cons rfl ?_ | refine CO.nil ?_ | refine CV.seq ?_ | refine CV.region callees ?_ | refine CV.cond ?_ | refine CV.block ?_ | refine CV.skip ?_ | refine ⟨_,fS foF0 (by decide),?_⟩ | refine ⟨_,cell_load ag25 hfx rfl,?_⟩ | refine ⟨_,cs_len hcx,?_⟩ | refine ⟨_,ld51 hkx,?_⟩ | refine ⟨_,ld28 hfx,?_⟩ | (refine ⟨fun _=>?_,fun _=>?_⟩<;>try (exfalso; omega)) | fail
    have hih:=layR_spec hk ho hf (fr:=f) (to:=t) (by omega) (by omega) m (B:=B) (H:=Hx) (qv:=nilS) (c:=[]) (nx:=0) hBx hcx htx hpx (.inl ⟨rfl,rfl⟩) trivial (fun x hx=>by cases hx) (Nat.zero_le _) (by omega)
    rw [hEn,show ((0:Nat):Int) = 0 from rfl] at hih
    refine hih.mono ?_
    obtain ⟨rr,hrr⟩:∃ rr,tryG En cs.length m [] 0 = rr:=⟨_,rfl⟩
    rw [hrr]
    cases rr with
    | none =>
      rintro r H5 ⟨⟨q,rfl⟩,k5⟩
      repeat' first | refine CO.cons rfl ?_ | refine CO.nil ?_ | refine CV.seq ?_ | refine CV.region callees ?_ | refine CV.cond ?_ | refine CV.skip ?_ | refine ⟨(⟨by omega,by omega⟩:inI64 _),?_⟩ | fail
      refine ⟨(m + 1),(by repeat' first | exact trivial | refine ⟨rfl,?_⟩ | refine ⟨slot_int (by (try simp only [Int.toNat_natCast]); omega),?_⟩),(by (try dsimp only); omega),?_⟩
      exact ⟨by omega,by rw [hfew,loopG_step (F:=fun s=>tryG En cs.length s [] 0) hrr],kx.trans k5⟩
    | some z =>
      rintro r H5 ⟨⟨q,rfl,hqs⟩,k5⟩
      have hqn:=(Row.oneC hqs)
      repeat' first | refine CO.cons rfl ?_ | refine CO.nil ?_ | refine CV.seq ?_ | refine CV.region callees ?_ | refine CV.cond ?_ | refine CV.ret ?_ | fail
      rw [hfew,loopG_hit (F:=fun s=>tryG En cs.length s [] 0) hrr] at hQ
      rcases hQ with ⟨h,_⟩ | ⟨h,rfl⟩
      · cases h
      · cases h
        exact ⟨by simp only [List.all_cons,List.all_nil,hqn.2]; rfl,⟨q,rfl,hqs⟩,(k02.trans kx).trans k5⟩
  obtain rfl:m = cs.length + 1:=by omega
  rw [hfew,Nat.sub_self] at hQ
  repeat' first | refine CO.cons rfl ?_ | refine CO.nil ?_ | refine CV.seq ?_ | refine CV.region callees ?_ | refine CV.cond ?_ | refine CV.exit ?_ | refine CV.ret ?_ | refine ⟨_,fS foF0 (by decide),?_⟩ | refine ⟨_,cell_load ag25 hfx rfl,?_⟩ | refine ⟨_,cs_len hcx,?_⟩ | (refine ⟨fun _=>?_,fun _=>?_⟩<;>try (exfalso; omega)) | fail
  rcases hQ with ⟨_,rfl,rfl⟩ | ⟨h,_⟩
  · exact ⟨rfl,⟨nilS,rfl,.inl ⟨rfl,rfl⟩⟩,k02.trans kx⟩
  · cases h
end Go.Proofs.Ytglkphjjinmgmaa
