/- Run,Sings and When,whatever they are asked. -/
import Derived.Test.Ytglkphjjinmgmaar5h
import Derived.Test.YtglkphjjinmgmaaM8h
set_option linter.unusedVariables false
set_option linter.unusedSimpArgs false
namespace Go.Proofs.Ytglkphjjinmgmaa
open Go.AI
def RunQ (k:Ke) (cs:List Co) (ts:List (Int × Int)) (ps:List Po) (m:Int) (L:List (Int × Int)) (V:List Int) (w:Int × Int):Prop :=
  (ruE k cs ts ps m ≠ 0∧L = []∧V = []∧w = (0,0)) ∨ (ruE k cs ts ps m = 0∧∃ (M:Nat) (B0 B1:List Int),m = M∧M<=300∧IsBeg 0 cs ts B0∧IsBeg 1 cs ts B1∧L = warmL k (emL cs B0 B1) ps (M + 1)∧V = verL k (emL cs B0 B1) ps (M + 1)∧w = whenR (verL k (emL cs B0 B1) ps (M + 1)) 0)
theorem runQ_ex (k:Ke) (cs:List Co) (ts:List (Int × Int)) (ps:List Po) (m:Int):∃ L V w,RunQ k cs ts ps m L V w∧L.length<=301∧V.length<=301:=by
  by_cases h:ruE k cs ts ps m = 0
  · obtain ⟨h1,h2,h3⟩:=ruE_zero h
    obtain ⟨_,_,hf⟩:=boE_zero h1
    obtain ⟨B0,hb0⟩:=isBeg_ex (e:=0) hf
    obtain ⟨B1,hb1⟩:=isBeg_ex (e:=1) hf
    exact ⟨_,_,_,.inr ⟨h,m.toNat,B0,B1,by omega,by omega,hb0,hb1,rfl,rfl,rfl⟩,by rw [warmL_len]; omega,by rw [verL_len]; omega⟩
  · exact ⟨[],[],(0,0),.inl ⟨h,rfl,rfl,rfl⟩,by simp,by simp⟩
section
variable {B:Nat} {H:Heap} {k:Ke} {cv tv pv:Value} {cs:List Co} {ts:List (Int × Int)} {ps:List Po} {m:Int} {L:List (Int × Int)} {V:List Int} {w:Int × Int}
theorem runQ_spec (hB:B<=H.n) (hc:RowS 7 H cv (cs.map Col)) (ht:RowS 2 H tv (ts.map Hl)) (hp:RowS 3 H pv (ps.map Pol)) (hcn:cs.length<=100) (htn:ts.length<=100) (hpn:ps.length<=100) (hQ:RunQ k cs ts ps m L V w) :
    CallB Try.prog B 36 [Kev k,Fv cv tv,pv,VJ m] H (fun r H'=>(∃ q,r = .tuple #[q,VJ (ruE k cs ts ps m)]∧RowS 2 H' q (L.map Hl))∧Keep H H'):=by
  rcases hQ with ⟨he,rfl,rfl,rfl⟩ | ⟨he,M,B0,B1,rfl,hM,h0,h1,rfl,rfl,rfl⟩
  · exact (runE_spec hB hc ht hp hcn htn hpn rfl he).mono fun r H' ⟨hr,k⟩=>⟨⟨nilS,hr,OwnS.row (B:=0) (e:=27) OwnS.nil⟩,k⟩
  · obtain ⟨hb,_,_⟩:=ruE_zero he
    obtain ⟨hk,ho,hf⟩:=boE_zero hb
    rw [he]
    exact (runN_spec hB hk hc ht hp ho hf h0 h1 hM).mono fun r H' ⟨⟨q,hr,hq⟩,k⟩=>⟨⟨q,hr,hq.row⟩,k⟩
theorem singsQ_spec (hB:B<=H.n) (hc:RowS 7 H cv (cs.map Col)) (ht:RowS 2 H tv (ts.map Hl)) (hp:RowS 3 H pv (ps.map Pol)) (hcn:cs.length<=100) (htn:ts.length<=100) (hpn:ps.length<=100) (hQ:RunQ k cs ts ps m L V w) :
    CallB Try.prog B 38 [Kev k,Fv cv tv,pv,VJ m] H (fun r H'=>(∃ q,r = .tuple #[q,VJ (ruE k cs ts ps m)]∧Ints H' q V)∧Keep H H'):=by
  rcases hQ with ⟨he,rfl,rfl,rfl⟩ | ⟨he,M,B0,B1,rfl,hM,h0,h1,rfl,rfl,rfl⟩
  · exact (singsE_spec hB hc ht hp hcn htn hpn rfl he).mono fun r H' ⟨hr,k⟩=>⟨⟨nilS,hr,.inl ⟨rfl,rfl⟩⟩,k⟩
  · obtain ⟨hb,_,_⟩:=ruE_zero he
    obtain ⟨hk,ho,hf⟩:=boE_zero hb
    rw [he]
    exact (singsN_spec hB hk hc ht hp ho hf h0 h1 hM).mono fun r H' ⟨⟨q,hr,hq⟩,k⟩=>⟨⟨q,hr,hq.row⟩,k⟩
theorem whenQ_spec (hB:B<=H.n) (hc:RowS 7 H cv (cs.map Col)) (ht:RowS 2 H tv (ts.map Hl)) (hp:RowS 3 H pv (ps.map Pol)) (hcn:cs.length<=100) (htn:ts.length<=100) (hpn:ps.length<=100) (hQ:RunQ k cs ts ps m L V w) :
    CallB Try.prog B 40 [Kev k,Fv cv tv,pv,VJ m] H (fun r H'=>r = .tuple #[VJ w.1,VJ w.2,VJ (ruE k cs ts ps m)]∧Keep H H'):=by
  rcases hQ with ⟨he,rfl,rfl,rfl⟩ | ⟨he,M,B0,B1,rfl,hM,h0,h1,rfl,rfl,rfl⟩
  · exact whenE_spec hB hc ht hp hcn htn hpn rfl he
  · obtain ⟨hb,_,_⟩:=ruE_zero he
    obtain ⟨hk,ho,hf⟩:=boE_zero hb
    rw [he,<- whenG_zero]
    exact whenN_spec hB hk hc ht hp ho hf h0 h1 hM
set_option maxHeartbeats 8000000 in
set_option maxRecDepth 100000 in
theorem refRun_spec (hB:B<=H.n) (hc:RowS 7 H cv (cs.map Col)) (ht:RowS 2 H tv (ts.map Hl)) (hp:RowS 3 H pv (ps.map Pol)) (hcn:cs.length<=100) (htn:ts.length<=100) (hpn:ps.length<=100) (hQ:RunQ k cs ts ps m L V w) :
    CallB Try.prog B 37 [Kev k,Fv cv tv,pv,VJ m] H (fun r H'=>(∃ q,r = .tuple #[q,VJ (ruE k cs ts ps m)]∧RowS 2 H' q (L.map Hl))∧Keep H H'):=by
  refine CV.enter callees false rfl Try.func37 rfl (by kernel_rfl) (Nat.le_of_ble_eq_true rfl) hB ?_
  repeat' first | refine CO.cons rfl ?_ | refine CV.seq ?_ | refine CV.region callees ?_ | fail
  refine ⟨(by simp only [notTuple]),?_⟩
  rw [boxKe]
  generalize hs0:Heap.new H _ = H0
  have hg0:=new_get hs0
  have k0:=new_keep hs0
  have n0:=new_n hs0
  obtain ⟨b0,hbn0⟩:∃ b,Heap.n H = b:=⟨_,rfl⟩
  rw [hbn0] at hg0 n0 ⊢
  repeat' first | refine CO.cons rfl ?_ | fail
  refine ⟨(by simp only [notTuple]),?_⟩
  rw [allocFv hc.cells.1 ht.cells.1]
  generalize hs1:Heap.new H0 _ = H1
  have hg1:=new_get hs1
  have k1:=new_keep hs1
  have n1:=new_n hs1
  obtain ⟨b1,hbn1⟩:∃ b,Heap.n H0 = b:=⟨_,rfl⟩
  rw [hbn1] at hg1 n1 ⊢
  have k01:=k0.trans k1
  have hk1:=(k1.2 b0 (by omega)).trans hg0
  repeat' first | refine CO.cons rfl ?_ | refine CO.nil ?_ | refine CV.seq ?_ | refine CV.region callees ?_ | refine ⟨_,ld51 hk1,?_⟩ | refine ⟨_,ld28 hg1,?_⟩ | fail
  refine (checkRunR_spec (by omega) (hc.keep k01) (ht.keep k01) (hp.keep k01) hcn htn hpn).mono ?_
  rcases hQ with ⟨he,rfl,rfl,rfl⟩ | ⟨he,M,B0,B1,rfl,hM,h0,h1,rfl,rfl,rfl⟩
  · obtain ⟨x,hx⟩:∃ x,ruE k cs ts ps m = x:=⟨_,rfl⟩
    rw [hx] at he ⊢
    rintro r H2 ⟨rfl,k2⟩
    repeat' first | refine CO.cons rfl ?_ | refine CO.nil ?_ | refine CV.seq ?_ | refine CV.region callees ?_ | refine CV.cond ?_ | refine CV.ret ?_ | (refine ⟨fun _=>?_,fun _=>?_⟩<;>try (exfalso; omega)) | fail
    exact ⟨rfl,⟨nilS,rfl,OwnS.row (B:=0) (e:=27) OwnS.nil⟩,k01.trans k2⟩
  · obtain ⟨hb,_,_⟩:=ruE_zero he
    obtain ⟨hk,ho,hf⟩:=boE_zero hb
    rw [he]
    rintro r H2 ⟨rfl,k2⟩
    have l2:=k2.1
    have k02:=k01.trans k2
    have hk2:=(k2.2 b0 (by omega)).trans hk1
    have hf2:=(k2.2 b1 (by omega)).trans hg1
    repeat' first | refine CO.cons rfl ?_ | refine CO.nil ?_ | refine CV.seq ?_ | refine CV.region callees ?_ | refine CV.cond ?_ | refine CV.skip ?_ | refine ⟨_,ld51 hk2,?_⟩ | refine ⟨_,ld28 hf2,?_⟩ | (refine ⟨fun _=>?_,fun _=>?_⟩<;>try (exfalso; omega)) | fail
    refine (runR_spec (by omega) hk (hc.keep k02) (ht.keep k02) (hp.keep k02) ho hf h0 h1 hM).mono ?_
    rintro q H3 ⟨hq,k3⟩
    repeat' first | refine CO.cons rfl ?_ | refine CO.nil ?_ | refine CV.ret ?_ | fail
    exact ⟨by simp only [List.all_cons,List.all_nil,OwnS.notTuple hq]; rfl,⟨q,rfl,hq.row⟩,k02.trans k3⟩
set_option maxRecDepth 100000 in
theorem refVer_spec (hB:B<=H.n):CallB Try.prog B 83 [Kev k,Hv w] H (fun r H'=>r = VJ (verN k w)∧Keep H H'):=by
  have hv:verN k w = if k.si<=w.1∧w.2<=k.bo then 1 else if w.2 < k.si ∨ k.bo < w.1 then 2 else 3:=rfl
  refine CV.enter callees false rfl Try.func83 rfl (by kernel_rfl) (Nat.le_of_ble_eq_true rfl) hB ?_
  repeat' first | refine CO.cons rfl ?_ | refine CV.seq ?_ | refine CV.region callees ?_ | fail
  refine ⟨(by simp only [notTuple]),?_⟩
  rw [boxKe]
  generalize hs0:Heap.new H _ = H0
  have hg0:=new_get hs0
  have k0:=new_keep hs0
  have n0:=new_n hs0
  obtain ⟨b0,hbn0⟩:∃ b,Heap.n H = b:=⟨_,rfl⟩
  rw [hbn0] at hg0 n0 ⊢
  repeat' first | refine CO.cons rfl ?_ | fail
  refine ⟨(by simp only [notTuple]),?_⟩
  rw [allocHv]
  generalize hs1:Heap.new H0 _ = H1
  have hg1:=new_get hs1
  have k1:=new_keep hs1
  have n1:=new_n hs1
  obtain ⟨b1,hbn1⟩:∃ b,Heap.n H0 = b:=⟨_,rfl⟩
  rw [hbn1] at hg1 n1 ⊢
  have hk1:=(k1.2 b0 (by omega)).trans hg0
  by_cases c1:k.si<=w.1∧w.2<=k.bo
  · rw [if_pos c1] at hv
    obtain ⟨d1,d2⟩:=c1
    repeat' first | refine CO.cons rfl ?_ | refine CO.nil ?_ | refine CV.seq ?_ | refine CV.region callees ?_ | refine CV.cond ?_ | refine CV.block ?_ | refine CV.ret ?_ | refine CO.consG rfl ?_ | refine ⟨_,fS foS0 (by decide),?_⟩ | refine ⟨_,fS foS1 (by decide),?_⟩ | refine ⟨_,fS foK5 (by decide),?_⟩ | refine ⟨_,fS foK6 (by decide),?_⟩ | refine ⟨_,cell_load ag3 hg1 rfl,?_⟩ | refine ⟨_,cell_load ag3 hk1 rfl,?_⟩ | (refine ⟨fun _=>?_,fun _=>?_⟩<;>try (exfalso; omega)) | fail
    all_goals exact ⟨rfl,by rw [hv],k0.trans k1⟩
  · rw [if_neg c1] at hv
    by_cases c2:w.2 < k.si ∨ k.bo < w.1
    · rw [if_pos c2] at hv
      repeat' first | refine CO.cons rfl ?_ | refine CO.nil ?_ | refine CV.seq ?_ | refine CV.region callees ?_ | refine CV.cond ?_ | refine CV.block ?_ | refine CV.ret ?_ | refine CO.consG rfl ?_ | refine ⟨_,fS foS0 (by decide),?_⟩ | refine ⟨_,fS foS1 (by decide),?_⟩ | refine ⟨_,fS foK5 (by decide),?_⟩ | refine ⟨_,fS foK6 (by decide),?_⟩ | refine ⟨_,cell_load ag3 hg1 rfl,?_⟩ | refine ⟨_,cell_load ag3 hk1 rfl,?_⟩ | (refine ⟨fun _=>?_,fun _=>?_⟩<;>try (exfalso; omega)) | fail
      all_goals exact ⟨rfl,by rw [hv],k0.trans k1⟩
    · rw [if_neg c2] at hv
      repeat' first | refine CO.cons rfl ?_ | refine CO.nil ?_ | refine CV.seq ?_ | refine CV.region callees ?_ | refine CV.cond ?_ | refine CV.block ?_ | refine CV.skip ?_ | refine CV.ret ?_ | refine CO.consG rfl ?_ | refine ⟨_,fS foS0 (by decide),?_⟩ | refine ⟨_,fS foS1 (by decide),?_⟩ | refine ⟨_,fS foK5 (by decide),?_⟩ | refine ⟨_,fS foK6 (by decide),?_⟩ | refine ⟨_,cell_load ag3 hg1 rfl,?_⟩ | refine ⟨_,cell_load ag3 hk1 rfl,?_⟩ | (refine ⟨fun _=>?_,fun _=>?_⟩<;>try (exfalso; omega)) | fail
      all_goals exact ⟨rfl,by rw [hv],k0.trans k1⟩
set_option maxHeartbeats 8000000 in
set_option maxRecDepth 100000 in
theorem refSings_spec (hB:B<=H.n) (hc:RowS 7 H cv (cs.map Col)) (ht:RowS 2 H tv (ts.map Hl)) (hp:RowS 3 H pv (ps.map Pol)) (hcn:cs.length<=100) (htn:ts.length<=100) (hpn:ps.length<=100) (hQ:RunQ k cs ts ps m L V w) :
    CallB Try.prog B 39 [Kev k,Fv cv tv,pv,VJ m] H (fun r H'=>(∃ q,r = .tuple #[q,VJ (ruE k cs ts ps m)]∧Ints H' q V)∧Keep H H'):=by
  refine CV.enter callees false rfl Try.func39 rfl (by kernel_rfl) (Nat.le_of_ble_eq_true rfl) hB ?_
  repeat' first | refine CO.cons rfl ?_ | refine CV.seq ?_ | refine CV.region callees ?_ | fail
  refine ⟨(by simp only [notTuple]),?_⟩
  rw [boxKe]
  generalize hs0:Heap.new H _ = H0
  have hg0:=new_get hs0
  have k0:=new_keep hs0
  have n0:=new_n hs0
  obtain ⟨b0,hbn0⟩:∃ b,Heap.n H = b:=⟨_,rfl⟩
  rw [hbn0] at hg0 n0 ⊢
  repeat' first | refine CO.cons rfl ?_ | fail
  refine ⟨(by simp only [notTuple]),?_⟩
  rw [allocFv hc.cells.1 ht.cells.1]
  generalize hs1:Heap.new H0 _ = H1
  have hg1:=new_get hs1
  have k1:=new_keep hs1
  have n1:=new_n hs1
  obtain ⟨b1,hbn1⟩:∃ b,Heap.n H0 = b:=⟨_,rfl⟩
  rw [hbn1] at hg1 n1 ⊢
  have k01:=k0.trans k1
  have hk1:=(k1.2 b0 (by omega)).trans hg0
  repeat' first | refine CO.cons rfl ?_ | refine CO.nil ?_ | refine CV.seq ?_ | refine CV.region callees ?_ | refine ⟨_,ld51 hk1,?_⟩ | refine ⟨_,ld28 hg1,?_⟩ | fail
  refine (refRun_spec (by omega) (hc.keep k01) (ht.keep k01) (hp.keep k01) hcn htn hpn hQ).mono ?_
  rintro r H2 ⟨⟨q,rfl,hq⟩,k2⟩
  have l2:=k2.1
  have k02:=k01.trans k2
  have hk2:=(k2.2 b0 (by omega)).trans hk1
  rcases hQ with ⟨he,rfl,rfl,rfl⟩ | ⟨he,M,B0,B1,rfl,hM,h0,h1,rfl,rfl,rfl⟩
  · obtain ⟨x,hx⟩:∃ x,ruE k cs ts ps m = x:=⟨_,rfl⟩
    rw [hx] at he ⊢
    repeat' first | refine CO.cons rfl ?_ | refine CO.nil ?_ | refine CV.seq ?_ | refine CV.region callees ?_ | refine CV.cond ?_ | refine CV.ret ?_ | (refine ⟨fun _=>?_,fun _=>?_⟩<;>try (exfalso; omega)) | fail
    exact ⟨rfl,⟨nilS,rfl,.inl ⟨rfl,rfl⟩⟩,k02⟩
  · rw [he]
    obtain ⟨E,hE⟩:∃ E,emL cs B0 B1 = E:=⟨_,rfl⟩
    rw [hE] at hq ⊢
    have hql:(warmL k E ps (M + 1)).length = M + 1:=warmL_len
    repeat' first | refine CO.cons rfl ?_ | refine CO.nil ?_ | refine CV.seq ?_ | refine CV.region callees ?_ | refine CV.cond ?_ | refine CV.block ?_ | refine CV.skip ?_ | (refine ⟨fun _=>?_,fun _=>?_⟩<;>try (exfalso; omega)) | fail
    refine CV.loopc ?_
    refine WCv.rounds callees false (α:=Value × Nat) (fun (u,i)=>[(4,.pointer (some ⟨b0,0,none⟩)),(10,q),(12,u),(13,VJ i)]) (fun (u,i) Hz=>i<=M + 1∧Own 3 Hz u (((verL k E ps (M + 1)).take i).map VJ) H2.n∧Keep H2 Hz) (fun (u,i)=>M + 1 - i) (nilS,0) (by repeat' first | exact trivial | refine ⟨rfl,?_⟩ | refine ⟨slot_int (by (try simp only [Int.toNat_natCast]); omega),?_⟩) ?_ ?_
    · exact ⟨by omega,.inl ⟨rfl,rfl⟩,Keep.refl _⟩
    rintro ⟨u,i⟩ Hx ⟨hi,hu,kx⟩ hBx
    have lx:=kx.1
    have hqx:=hq.keep kx
    have hkx:=(kx.2 b0 (by omega)).trans hk2
    by_cases hi2:i < M + 1
    · have hld:aload Try.prog 27 Hx (elemS q 2 i) = some (Hv (warmM k E ps i)):=by rw [sp_load hqx (by omega),warmL_at hi2]
      have htk:(verL k E ps (M + 1)).take i ++ [verN k (warmM k E ps i)] = (verL k E ps (M + 1)).take (i + 1):=by
        have h2:i < (verL k E ps (M + 1)).length:=by rw [verL_len]; exact hi2
        rw [List.take_succ_eq_append_getElem h2,<- verL_at hi2,getElem!_pos _ i h2]
      have htl:((verL k E ps (M + 1)).take i).length<=301:=by rw [List.length_take,verL_len]; omega
      repeat' first | refine CO.cons rfl ?_ | refine CO.nil ?_ | refine CV.seq ?_ | refine CV.region callees ?_ | refine CV.cond ?_ | refine CV.block ?_ | refine CV.skip ?_ | refine CV.draw callees (by decide +kernel) ?_ | refine CH.cons rfl ?_ | refine ⟨_,sp_len hqx,?_⟩ | refine ⟨_,ld51 hkx,?_⟩ | refine ⟨_,sp_addr hqx (by omega) (by omega),?_⟩ | refine ⟨_,hld,?_⟩ | (refine ⟨fun _=>?_,fun _=>?_⟩<;>try (exfalso; omega)) | fail
      refine (refVer_spec (by omega)).mono ?_
      rintro r H5 ⟨rfl,k5⟩
      have l5:=k5.1
      repeat' first | refine CO.cons rfl ?_ | refine CH.nil ?_ | refine ⟨(rfl:plain _ = true),?_⟩ | refine ⟨_,_,build_one un22 one3 rfl,?_⟩ | fail
      refine push_ask (y:=verN k (warmM k E ps i)) hu (by omega) (by omega) (by omega) ?_
      intro u2 H6 hu2 kb6 f6
      have l6:=kb6.le
      rw [htk] at hu2
      repeat' first | refine CO.cons rfl ?_ | refine CO.nil ?_ | refine CV.region callees ?_ | refine CH.nil ?_ | refine ⟨(⟨by omega,by omega⟩:inI64 _),?_⟩ | fail
      refine ⟨(u2,i + 1),(by repeat' first | exact trivial | refine ⟨rfl,?_⟩ | refine ⟨slot_int (by (try simp only [Int.toNat_natCast]); omega),?_⟩),(by (try dsimp only); omega),?_⟩
      exact ⟨by omega,hu2,kb6.keep kx fun c hc=>(hu.lt hc).1⟩
    have hie:i = M + 1:=by omega
    rw [hie,show (verL k E ps (M + 1)).take (M + 1) = verL k E ps (M + 1) from List.take_of_length_le (by rw [verL_len]; omega)] at hu
    repeat' first | refine CO.cons rfl ?_ | refine CO.nil ?_ | refine CV.seq ?_ | refine CV.region callees ?_ | refine CV.cond ?_ | refine CV.exit ?_ | refine CV.ret ?_ | refine ⟨_,sp_len hqx,?_⟩ | (refine ⟨fun _=>?_,fun _=>?_⟩<;>try (exfalso; omega)) | fail
    exact ⟨by simp only [List.all_cons,List.all_nil,hu.notTuple]; rfl,⟨u,rfl,hu.row⟩,k02.trans kx⟩
set_option maxHeartbeats 8000000 in
set_option maxRecDepth 100000 in
theorem refWhen_spec (hB:B<=H.n) (hc:RowS 7 H cv (cs.map Col)) (ht:RowS 2 H tv (ts.map Hl)) (hp:RowS 3 H pv (ps.map Pol)) (hcn:cs.length<=100) (htn:ts.length<=100) (hpn:ps.length<=100) (hQ:RunQ k cs ts ps m L V w) (hVn:V.length<=301) :
    CallB Try.prog B 41 [Kev k,Fv cv tv,pv,VJ m] H (fun r H'=>r = .tuple #[VJ w.1,VJ w.2,VJ (ruE k cs ts ps m)]∧Keep H H'):=by
  refine CV.enter callees false rfl Try.func41 rfl (by kernel_rfl) (Nat.le_of_ble_eq_true rfl) hB ?_
  repeat' first | refine CO.cons rfl ?_ | refine CV.seq ?_ | refine CV.region callees ?_ | fail
  refine ⟨(by simp only [notTuple]),?_⟩
  rw [boxKe]
  generalize hs0:Heap.new H _ = H0
  have hg0:=new_get hs0
  have k0:=new_keep hs0
  have n0:=new_n hs0
  obtain ⟨b0,hbn0⟩:∃ b,Heap.n H = b:=⟨_,rfl⟩
  rw [hbn0] at hg0 n0 ⊢
  repeat' first | refine CO.cons rfl ?_ | fail
  refine ⟨(by simp only [notTuple]),?_⟩
  rw [allocFv hc.cells.1 ht.cells.1]
  generalize hs1:Heap.new H0 _ = H1
  have hg1:=new_get hs1
  have k1:=new_keep hs1
  have n1:=new_n hs1
  obtain ⟨b1,hbn1⟩:∃ b,Heap.n H0 = b:=⟨_,rfl⟩
  rw [hbn1] at hg1 n1 ⊢
  have k01:=k0.trans k1
  have hk1:=(k1.2 b0 (by omega)).trans hg0
  repeat' first | refine CO.cons rfl ?_ | refine CO.nil ?_ | refine CV.seq ?_ | refine CV.region callees ?_ | refine ⟨_,ld51 hk1,?_⟩ | refine ⟨_,ld28 hg1,?_⟩ | fail
  refine (refSings_spec (by omega) (hc.keep k01) (ht.keep k01) (hp.keep k01) hcn htn hpn hQ).mono ?_
  rintro r H2 ⟨⟨q,rfl,hq⟩,k2⟩
  have l2:=k2.1
  have k02:=k01.trans k2
  rcases hQ with ⟨he,rfl,rfl,rfl⟩ | ⟨he,M,B0,B1,rfl,hM,h0,h1,hL,hV,hw⟩
  · obtain ⟨x,hx⟩:∃ x,ruE k cs ts ps m = x:=⟨_,rfl⟩
    rw [hx] at he ⊢
    repeat' first | refine CO.cons rfl ?_ | refine CO.nil ?_ | refine CV.seq ?_ | refine CV.region callees ?_ | refine CV.cond ?_ | refine CV.ret ?_ | (refine ⟨fun _=>?_,fun _=>?_⟩<;>try (exfalso; omega)) | fail
    exact ⟨rfl,rfl,k02⟩
  · rw [he]
    have hw2:w = whenR V 0:=by rw [hw,hV]
    repeat' first | refine CO.cons rfl ?_ | refine CO.nil ?_ | refine CV.seq ?_ | refine CV.region callees ?_ | refine CV.cond ?_ | refine CV.block ?_ | refine CV.skip ?_ | refine ⟨_,ints_len (by assumption),?_⟩ | refine ⟨(⟨by omega,by omega⟩:inI64 _),?_⟩ | (refine ⟨fun _=>?_,fun _=>?_⟩<;>try (exfalso; omega)) | fail
    refine CV.loopc ?_
    refine WCv.rounds callees false (α:=Nat × Int × Int) (fun (n,s,p)=>[(11,q),(13,VJ s),(14,VJ p),(15,VJ ((n:Int) - 1))]) (fun (n,s,p) Hz=>n<=V.length∧whenR (V.drop n) n = (s,p)∧Hz = H2) (fun (n,s,p)=>n) (V.length,-1,-1) (by repeat' first | exact trivial | refine ⟨rfl,?_⟩ | refine ⟨slot_int (by (try simp only [Int.toNat_natCast]); omega),?_⟩) ?_ ?_
    · exact ⟨Nat.le_refl _,by rw [List.drop_length]; rfl,rfl⟩
    rintro ⟨n,s,p⟩ Hx ⟨hn,hsp,rfl⟩ hBx
    by_cases hn0:0 < n
    · have hix:((n:Int) - 1).toNat = n - 1:=by omega
      have hd:=drop_atq (l:=V) (j:=n - 1) (by omega)
      rw [show n - 1 + 1 = n by omega] at hd
      obtain ⟨v,hv⟩:∃ v,V[((n:Int) - 1).toNat]! = v:=⟨_,rfl⟩
      have hv2:V[n - 1]! = v:=by rw [<- hv,hix]
      rw [hv2] at hd
      have hnx:whenR (V.drop (n - 1)) ((n - 1:Nat):Int) = (if v = 1 then (n:Int) - 1 else s,if v ≠ 2 then (n:Int) - 1 else p):=by
        rw [hd,whenR,show (((n - 1:Nat):Int) + 1) = (n:Int) by omega,hsp,show ((n - 1:Nat):Int) = (n:Int) - 1 by omega]
      by_cases c1:v = 1
      · rw [if_pos c1,if_pos (by omega)] at hnx
        repeat' first | refine CO.cons rfl ?_ | refine CO.nil ?_ | refine CV.seq ?_ | refine CV.region callees ?_ | refine CV.cond ?_ | refine CV.block ?_ | refine CV.skip ?_ | refine ⟨_,ints_addr (by assumption) (by omega) (by omega),?_⟩ | refine ⟨_,ints_load (by assumption) (by omega) (by omega),?_⟩ | refine ⟨(⟨by omega,by omega⟩:inI64 _),?_⟩ | (refine ⟨fun _=>?_,fun _=>?_⟩<;>try (exfalso; omega)) | fail
        refine ⟨(n - 1,(n:Int) - 1,(n:Int) - 1),(by repeat' first | exact trivial | refine ⟨rfl,?_⟩ | refine ⟨slot_int (by (try simp only [Int.toNat_natCast]); omega),?_⟩),(by (try dsimp only); omega),?_⟩
        exact ⟨by omega,hnx,rfl⟩
      · rw [if_neg c1] at hnx
        by_cases c2:v = 2
        · rw [if_neg (fun h=>h c2)] at hnx
          repeat' first | refine CO.cons rfl ?_ | refine CO.nil ?_ | refine CV.seq ?_ | refine CV.region callees ?_ | refine CV.cond ?_ | refine CV.block ?_ | refine CV.skip ?_ | refine ⟨_,ints_addr (by assumption) (by omega) (by omega),?_⟩ | refine ⟨_,ints_load (by assumption) (by omega) (by omega),?_⟩ | refine ⟨(⟨by omega,by omega⟩:inI64 _),?_⟩ | (refine ⟨fun _=>?_,fun _=>?_⟩<;>try (exfalso; omega)) | fail
          refine ⟨(n - 1,s,p),(by repeat' first | exact trivial | refine ⟨rfl,?_⟩ | refine ⟨slot_int (by (try simp only [Int.toNat_natCast]); omega),?_⟩),(by (try dsimp only); omega),?_⟩
          exact ⟨by omega,hnx,rfl⟩
        · rw [if_pos c2] at hnx
          repeat' first | refine CO.cons rfl ?_ | refine CO.nil ?_ | refine CV.seq ?_ | refine CV.region callees ?_ | refine CV.cond ?_ | refine CV.block ?_ | refine CV.skip ?_ | refine ⟨_,ints_addr (by assumption) (by omega) (by omega),?_⟩ | refine ⟨_,ints_load (by assumption) (by omega) (by omega),?_⟩ | refine ⟨(⟨by omega,by omega⟩:inI64 _),?_⟩ | (refine ⟨fun _=>?_,fun _=>?_⟩<;>try (exfalso; omega)) | fail
          refine ⟨(n - 1,s,(n:Int) - 1),(by repeat' first | exact trivial | refine ⟨rfl,?_⟩ | refine ⟨slot_int (by (try simp only [Int.toNat_natCast]); omega),?_⟩),(by (try dsimp only); omega),?_⟩
          exact ⟨by omega,hnx,rfl⟩
    obtain rfl:n = 0:=by omega
    have hw3:w = (s,p):=by rw [hw2,<- hsp]; rfl
    repeat' first | refine CO.cons rfl ?_ | refine CO.nil ?_ | refine CV.seq ?_ | refine CV.region callees ?_ | refine CV.cond ?_ | refine CV.exit ?_ | refine CV.ret ?_ | (refine ⟨fun _=>?_,fun _=>?_⟩<;>try (exfalso; omega)) | fail
    exact ⟨rfl,by rw [hw3],k02⟩
end
end Go.Proofs.Ytglkphjjinmgmaa
