/- Lay,for whatever pours. -/
import Derived.Test.YtglkphjjinmgmaaM8h
import Derived.Test.Ytglkphjjinmgmaat2h
set_option linter.unusedVariables false
set_option linter.unusedSimpArgs false
namespace Go.Proofs.Ytglkphjjinmgmaa
open Go.AI
set_option maxHeartbeats 16000000 in
set_option maxRecDepth 100000 in
theorem layN_spec {B:Nat} {H:Heap} {k:Ke} {cv tv pv:Value} {cs:List Co} {ts:List (Int × Int)} {ps:List Po} {fr to:Nat} (hB:B<=H.n)
    (hk:KOk k) (hc:RowS 7 H cv (cs.map Col)) (ht:RowS 2 H tv (ts.map Hl)) (hp:RowS 3 H pv (ps.map Pol)) (ho:POk k.wa ps) (hf:FOk cs ts) (h8:cs.length<=8) (hm0:fr<=to) (hm1:to<=300) :
    CallB Try.prog B 43 [Kev k,Fv cv tv,pv,VJ fr,VJ to] H (fun r X'=>Keep H X'∧match fewG (enB k cs ts ps fr to) cs.length with
      | none=>r = .tuple #[nilS,VJ 7]
      | some s=>∃ q,r = .tuple #[q,VJ 0]∧Ints X' q s):=by
  obtain ⟨B0,h0⟩:=isBeg_ex (e:=0) hf
  obtain ⟨B1,h1⟩:=isBeg_ex (e:=1) hf
  refine CV.enter callees false rfl Try.func43 rfl (by kernel_rfl) (Nat.le_of_ble_eq_true rfl) hB ?_
  repeat' first | refine CO.cons rfl ?_ | refine CV.seq ?_ | refine CV.region callees ?_ | fail
  refine ⟨(by simp only [notTuple]),?_⟩
  rw [boxKe]
  generalize hs0:Heap.new H _ = H0
  have hg0:=new_get hs0
  have k0:=new_keep hs0
  have n0:=new_n hs0
  obtain ⟨b0,hbn0⟩:∃ b,Heap.n H = b:=⟨_,rfl⟩
  rw [hbn0] at hg0 n0 ⊢
  repeat' first | refine CO.cons rfl ?_ | fail
  refine ⟨(by simp only [notTuple]),?_⟩
  rw [allocFv hc.cells.1 ht.cells.1]
  generalize hs1:Heap.new H0 _ = H1
  have hg1:=new_get hs1
  have k1:=new_keep hs1
  have n1:=new_n hs1
  obtain ⟨b1,hbn1⟩:∃ b,Heap.n H0 = b:=⟨_,rfl⟩
  rw [hbn1] at hg1 n1 ⊢
  repeat' first | refine CO.cons rfl ?_ | fail
  refine ⟨(rfl:notTuple (Value.int _ _) = true),?_⟩
  generalize hs2':anew H1 _ _ _ = H2
  have hs2:H1.new (.cells [VJ fr] 3 1) = H2:=hs2'
  have hg2:=new_get hs2
  have k2:=new_keep hs2
  have n2:=new_n hs2
  obtain ⟨b2,hb2⟩:∃ b,H1.n = b:=⟨_,rfl⟩
  rw [hb2] at hg2 n2 ⊢
  repeat' first | refine CO.cons rfl ?_ | fail
  refine ⟨(rfl:notTuple (Value.int _ _) = true),?_⟩
  generalize hs3':anew H2 _ _ _ = H3
  have hs3:H2.new (.cells [VJ to] 3 1) = H3:=hs3'
  have hg3:=new_get hs3
  have k3:=new_keep hs3
  have n3:=new_n hs3
  obtain ⟨b3,hb3⟩:∃ b,H2.n = b:=⟨_,rfl⟩
  rw [hb3] at hg3 n3 ⊢
  have k03:Keep H H3:=((k0.trans k1).trans k2).trans k3
  have g0:=(((k1.trans k2).trans k3).2 b0 (by omega)).trans hg0
  have g1:=((k2.trans k3).2 b1 (by omega)).trans hg1
  have g2:=(k3.2 b2 (by omega)).trans hg2
  repeat' first | refine CO.cons rfl ?_ | refine CO.nil ?_ | refine CV.seq ?_ | refine CV.region callees ?_ | refine ⟨_,ld51 g0,?_⟩ | refine ⟨_,ld28 g1,?_⟩ | fail
  refine (boilingOf_spec (by omega) hk (hc.keep k03) (ht.keep k03) (hp.keep k03) ho hf h0 h1).mono ?_
  rintro r H4 ⟨⟨ev,rfl,he4⟩,k4⟩
  have l4:=k4.1
  repeat' first | refine CO.cons rfl ?_ | refine ⟨_,_,al98,?_⟩ | fail
  generalize hs5:Heap.new H4 _ = H5
  have hg5:=new_get hs5
  have k5:=new_keep hs5
  have n5:=new_n hs5
  obtain ⟨b5,hbn5⟩:∃ b,Heap.n H4 = b:=⟨_,rfl⟩
  rw [hbn5] at hg5 n5 ⊢
  repeat' first | fail
  refine ⟨_,_,st98 he4.oneC hp.cells.2.1 hg5,by omega,?_⟩
  generalize hs6:Heap.set H5 b5 _ = H6
  have hg6:H6.get b5 = some (.cells (Bol k ev pv) 116 1):=set_get hs6
  have n6:=set_n hs6
  have o6:=set_old hs6
  have k36:Keep H3 H6:=keep_put (k4.trans k5) (by omega) o6 n6
  have l6:=k36.1
  have k06:=k03.trans k36
  have g16:=(k36.2 b1 (by omega)).trans g1
  have g26:=(k36.2 b2 (by omega)).trans g2
  have g36:=(k36.2 b3 (by omega)).trans hg3
  have hc6:=hc.keep k06
  repeat' first | refine CO.cons rfl ?_ | refine CO.nil ?_ | refine CV.seq ?_ | refine CV.region callees ?_ | refine CV.cond ?_ | refine CV.skip ?_ | refine ⟨_,cell_load ag3 g26 rfl,?_⟩ | (refine ⟨fun _=>?_,fun _=>?_⟩<;>try (exfalso; omega)) | fail
  refine (isWithin_spec (by omega)).mono ?_
  rintro r H7 ⟨rfl,rfl⟩
  rw [decide_eq_true (show (0:Int)<=(fr:Int)∧(fr:Int)<=300 by omega)]
  repeat' first | refine CO.cons rfl ?_ | refine CO.consG rfl ?_ | refine ⟨_,cell_load ag3 g36 rfl,?_⟩ | fail
  refine (isWithin_spec (by omega)).mono ?_
  rintro r H8 ⟨rfl,rfl⟩
  rw [decide_eq_true (show (0:Int)<=(to:Int)∧(to:Int)<=300 by omega)]
  repeat' first | refine CO.cons rfl ?_ | refine CO.nil ?_ | refine CV.seq ?_ | refine CV.region callees ?_ | refine CV.cond ?_ | refine CV.skip ?_ | refine CO.consG rfl ?_ | refine ⟨_,cell_load ag3 g26 rfl,?_⟩ | refine ⟨_,cell_load ag3 g36 rfl,?_⟩ | refine ⟨_,fS foF0 (by decide),?_⟩ | refine ⟨_,cell_load ag25 g16 rfl,?_⟩ | refine ⟨_,cs_len hc6,?_⟩ | refine ⟨(rfl:List.all _ cellLike = true),?_⟩ | (refine ⟨fun _=>?_,fun _=>?_⟩<;>try (exfalso; omega)) | fail
  have hK0:Kap b1 b5 b2 b3 k cv tv pv fr to H8:=⟨g16,⟨ev,hg6⟩,g26,g36⟩
  refine (fewest_spec (B:=B) (H:=H8) (n:=cs.length) (bf:=b1) (bb:=b5) (b1:=b2) (b2:=b3) (En:=enB k cs ts ps fr to)
    (fun X=>Kap b1 b5 b2 b3 k cv tv pv fr to X∧Keep H X∧H8.n<=X.n) (by omega) (by omega) ?_ ?_ ⟨hK0,k06,Nat.le_refl _⟩).mono ?_
  · rintro X X' ⟨⟨q1,⟨e',q2⟩,q3,q4⟩,q5,q6⟩ hn hh
    exact ⟨⟨(hh _ (by omega)).trans q1,⟨e',(hh _ (by omega)).trans q2⟩,(hh _ (by omega)).trans q3,(hh _ (by omega)).trans q4⟩,⟨by have:=q5.1; omega,fun p hp=>(hh p (by omega)).trans (q5.2 p hp)⟩,by omega⟩
  · rintro q c X ⟨qK,q5,q6⟩ hq ha hBX hX
    refine (layFN_spec (B:=B) (by omega) (by omega) ⟨by omega,by omega,by omega⟩ ⟨by omega,by omega,by omega,by omega⟩ qK hk (hc.keep q5) (ht.keep q5) (hp.keep q5) ho hf hq ha hm1).mono ?_
    rintro r X' ⟨rfl,qK',kx⟩
    exact ⟨rfl,⟨qK',⟨by have:=q5.1; have:=kx.1; omega,fun p hp=>(kx.2 p (by omega) (by omega)).trans (q5.2 p hp)⟩,by have:=kx.1; omega⟩,kx.1,fun p u1 u2=>kx.2 p u2 (by omega)⟩
  · rintro r X ⟨⟨_,qk,_⟩,_,hr⟩
    cases hfw:fewG (enB k cs ts ps fr to) cs.length with
    | none =>
      rw [hfw] at hr
      obtain rfl:=hr
      repeat' first | refine CO.cons rfl ?_ | refine CO.nil ?_ | refine CV.seq ?_ | refine CV.region callees ?_ | refine CV.cond ?_ | refine CV.ret ?_ | fail
      exact ⟨rfl,qk,rfl⟩
    | some s =>
      rw [hfw] at hr
      obtain ⟨q,rfl,hP⟩:=hr
      have hnt:notTuple q = true:=by rcases hP with ⟨rfl,_⟩ | ⟨_,_,rfl,_⟩<;>rfl
      repeat' first | refine CO.cons rfl ?_ | refine CO.nil ?_ | refine CV.seq ?_ | refine CV.region callees ?_ | refine CV.cond ?_ | refine CV.skip ?_ | refine CV.ret ?_ | fail
      exact ⟨by simp only [List.all_cons,List.all_nil,hnt]; rfl,qk,q,rfl,hP.ints⟩
end Go.Proofs.Ytglkphjjinmgmaa
