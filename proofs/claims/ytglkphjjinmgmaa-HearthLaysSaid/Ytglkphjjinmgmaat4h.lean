/- Lay,whatever it is asked: errors,and the program's answer. -/
import Derived.Test.Ytglkphjjinmgmaat3h
import Derived.Test.Ytglkphjjinmgmaar4h
set_option linter.unusedVariables false
set_option linter.unusedSimpArgs false
namespace Go.Proofs.Ytglkphjjinmgmaa
open Go.AI
def laE (k:Ke) (cs:List Co) (ts:List (Int × Int)) (ps:List Po) (fr to:Int):Int:=if boE k cs ts ps = 0 then (if (0<=fr∧fr<=300)∧(0<=to∧to<=300) then (if fr<=to then (if cs.length<=8 then 0 else 8) else 11) else 2) else boE k cs ts ps
theorem laE_zero {k:Ke} {cs:List Co} {ts:List (Int × Int)} {ps:List Po} {fr to:Int} (h:laE k cs ts ps fr to = 0):boE k cs ts ps = 0∧0<=fr∧fr<=to∧to<=300∧cs.length<=8:=by
  unfold laE at h
  split at h
  · rename_i h1
    split at h
    · split at h
      · split at h
        · exact ⟨h1,by omega,by omega,by omega,by assumption⟩
        · omega
      · omega
    · omega
  · rename_i h1; exact absurd h h1
theorem ruE_none {k:Ke} {cs:List Co} {ts:List (Int × Int)} {ps:List Po}:ruE k cs ts ps 0 = boE k cs ts ps:=by
  unfold ruE
  split
  · rename_i h; rw [if_pos (by omega),h]
  · rfl
def LayQ (k:Ke) (cs:List Co) (ts:List (Int × Int)) (ps:List Po) (fr to:Int) (s:List Int) (e:Int):Prop :=
  (laE k cs ts ps fr to ≠ 0∧e = laE k cs ts ps fr to∧s = []) ∨ (laE k cs ts ps fr to = 0∧∃ (f t:Nat),fr = f∧to = t∧((fewG (enB k cs ts ps f t) cs.length = none∧e = 7∧s = []) ∨ (fewG (enB k cs ts ps f t) cs.length = some s∧e = 0)))
theorem layQ_ex (k:Ke) (cs:List Co) (ts:List (Int × Int)) (ps:List Po) (fr to:Int):∃ s e,LayQ k cs ts ps fr to s e∧s.length<=12:=by
  by_cases h:laE k cs ts ps fr to = 0
  · obtain ⟨_,h1,h2,h3,h4⟩:=laE_zero h
    cases hg:fewG (enB k cs ts ps fr.toNat to.toNat) cs.length with
    | none=>exact ⟨[],7,.inr ⟨h,fr.toNat,to.toNat,by omega,by omega,.inl ⟨hg,rfl,rfl⟩⟩,by simp⟩
    | some s=>exact ⟨s,0,.inr ⟨h,fr.toNat,to.toNat,by omega,by omega,.inr ⟨hg,rfl⟩⟩,by have:=asc_len (Nat.zero_le _) (few_some hg).1; omega⟩
  · exact ⟨[],_,.inl ⟨h,rfl,rfl⟩,by simp⟩
set_option maxHeartbeats 8000000 in
set_option maxRecDepth 100000 in
theorem layE_spec {B:Nat} {H:Heap} {k:Ke} {cv tv pv:Value} {cs:List Co} {ts:List (Int × Int)} {ps:List Po} {fr to x:Int} (hB:B<=H.n) (hc:RowS 7 H cv (cs.map Col)) (ht:RowS 2 H tv (ts.map Hl)) (hp:RowS 3 H pv (ps.map Pol)) (hcn:cs.length<=100) (htn:ts.length<=100) (hpn:ps.length<=100) (hx:laE k cs ts ps fr to = x) (hne:x ≠ 0) :
    CallB Try.prog B 43 [Kev k,Fv cv tv,pv,VJ fr,VJ to] H (fun r H'=>r = .tuple #[nilS,VJ x]∧Keep H H'):=by
  have hle:x = if boE k cs ts ps = 0 then (if (0<=fr∧fr<=300)∧(0<=to∧to<=300) then (if fr<=to then (if cs.length<=8 then 0 else 8) else 11) else 2) else boE k cs ts ps:=hx.symm
  refine CV.enter callees false rfl Try.func43 rfl (by kernel_rfl) (Nat.le_of_ble_eq_true rfl) hB ?_
  repeat' first | refine CO.cons rfl ?_ | refine CV.seq ?_ | refine CV.region callees ?_ | fail
  refine ⟨(by simp only [notTuple]),?_⟩
  rw [boxKe]
  generalize hs0:Heap.new H _ = H0
  have hg0:=new_get hs0
  have k0:=new_keep hs0
  have n0:=new_n hs0
  obtain ⟨b0,hbn0⟩:∃ b,Heap.n H = b:=⟨_,rfl⟩
  rw [hbn0] at hg0 n0 ⊢
  repeat' first | refine CO.cons rfl ?_ | fail
  refine ⟨(by simp only [notTuple]),?_⟩
  rw [allocFv hc.cells.1 ht.cells.1]
  generalize hs1:Heap.new H0 _ = H1
  have hg1:=new_get hs1
  have k1:=new_keep hs1
  have n1:=new_n hs1
  obtain ⟨b1,hbn1⟩:∃ b,Heap.n H0 = b:=⟨_,rfl⟩
  rw [hbn1] at hg1 n1 ⊢
  repeat' first | refine CO.cons rfl ?_ | fail
  refine ⟨(rfl:notTuple (Value.int _ _) = true),?_⟩
  generalize hs2':anew H1 _ _ _ = H2
  have hs2:H1.new (.cells [VJ fr] 3 1) = H2:=hs2'
  have hg2:=new_get hs2
  have k2:=new_keep hs2
  have n2:=new_n hs2
  obtain ⟨b2,hb2⟩:∃ b,H1.n = b:=⟨_,rfl⟩
  rw [hb2] at hg2 n2 ⊢
  repeat' first | refine CO.cons rfl ?_ | fail
  refine ⟨(rfl:notTuple (Value.int _ _) = true),?_⟩
  generalize hs3':anew H2 _ _ _ = H3
  have hs3:H2.new (.cells [VJ to] 3 1) = H3:=hs3'
  have hg3:=new_get hs3
  have k3:=new_keep hs3
  have n3:=new_n hs3
  obtain ⟨b3,hb3⟩:∃ b,H2.n = b:=⟨_,rfl⟩
  rw [hb3] at hg3 n3 ⊢
  have k03:Keep H H3:=((k0.trans k1).trans k2).trans k3
  have g0:=(((k1.trans k2).trans k3).2 b0 (by omega)).trans hg0
  have g1:=((k2.trans k3).2 b1 (by omega)).trans hg1
  have g2:=(k3.2 b2 (by omega)).trans hg2
  repeat' first | refine CO.cons rfl ?_ | refine CO.nil ?_ | refine CV.seq ?_ | refine CV.region callees ?_ | refine ⟨_,ld51 g0,?_⟩ | refine ⟨_,ld28 g1,?_⟩ | fail
  by_cases hb0:boE k cs ts ps = 0
  rotate_left
  · rw [if_neg hb0] at hle
    refine (boilingOfE_spec (k:=k) (by omega) (hc.keep k03) (ht.keep k03) (hp.keep k03) hcn htn hpn hle.symm hne).mono ?_
    rintro r H4 ⟨rfl,k4⟩
    have l4:=k4.1
    repeat' first | refine CO.cons rfl ?_ | refine ⟨_,_,al98,?_⟩ | fail
    generalize hs5:Heap.new H4 _ = H5
    have hg5:=new_get hs5
    have k5:=new_keep hs5
    have n5:=new_n hs5
    obtain ⟨b5,hbn5⟩:∃ b,Heap.n H4 = b:=⟨_,rfl⟩
    rw [hbn5] at hg5 n5 ⊢
    repeat' first | fail
    refine ⟨_,_,st98 rfl rfl hg5,by omega,?_⟩
    generalize hs6:Heap.set H5 b5 _ = H6
    have hg6:H6.get b5 = some (.cells (Bol ⟨0,0,0,0,0,0,0,0⟩ nilS nilS) 116 1):=set_get hs6
    have n6:=set_n hs6
    have o6:=set_old hs6
    have k06:Keep H H6:=keep_put (k03.trans (k4.trans k5)) (by omega) o6 n6
    repeat' first | refine CO.cons rfl ?_ | refine CO.nil ?_ | refine CV.seq ?_ | refine CV.region callees ?_ | refine CV.cond ?_ | refine CV.ret ?_ | (refine ⟨fun _=>?_,fun _=>?_⟩<;>try (exfalso; omega)) | fail
    exact ⟨rfl,rfl,k06⟩
  rw [if_pos hb0] at hle
  obtain ⟨hk,ho,hf⟩:=boE_zero hb0
  obtain ⟨B0,h0⟩:=isBeg_ex (e:=0) hf
  obtain ⟨B1,h1⟩:=isBeg_ex (e:=1) hf
  refine (boilingOf_spec (by omega) hk (hc.keep k03) (ht.keep k03) (hp.keep k03) ho hf h0 h1).mono ?_
  rintro r H4 ⟨⟨ev,rfl,he4⟩,k4⟩
  have l4:=k4.1
  repeat' first | refine CO.cons rfl ?_ | refine ⟨_,_,al98,?_⟩ | fail
  generalize hs5:Heap.new H4 _ = H5
  have hg5:=new_get hs5
  have k5:=new_keep hs5
  have n5:=new_n hs5
  obtain ⟨b5,hbn5⟩:∃ b,Heap.n H4 = b:=⟨_,rfl⟩
  rw [hbn5] at hg5 n5 ⊢
  repeat' first | fail
  refine ⟨_,_,st98 he4.oneC hp.cells.2.1 hg5,by omega,?_⟩
  generalize hs6:Heap.set H5 b5 _ = H6
  have hg6:H6.get b5 = some (.cells (Bol k ev pv) 116 1):=set_get hs6
  have n6:=set_n hs6
  have o6:=set_old hs6
  have k36:Keep H3 H6:=keep_put (k4.trans k5) (by omega) o6 n6
  have l6:=k36.1
  have k06:=k03.trans k36
  have g16:=(k36.2 b1 (by omega)).trans g1
  have g26:=(k36.2 b2 (by omega)).trans g2
  have g36:=(k36.2 b3 (by omega)).trans hg3
  have hc6:=hc.keep k06
  repeat' first | refine CO.cons rfl ?_ | refine CO.nil ?_ | refine CV.seq ?_ | refine CV.region callees ?_ | refine CV.cond ?_ | refine CV.skip ?_ | refine ⟨_,cell_load ag3 g26 rfl,?_⟩ | (refine ⟨fun _=>?_,fun _=>?_⟩<;>try (exfalso; omega)) | fail
  by_cases c1:0<=fr∧fr<=300
  rotate_left
  · rw [if_neg (fun h=>c1 h.1)] at hle
    refine (isWithin_no (by omega) c1).mono ?_
    rintro r H7 ⟨rfl,rfl⟩
    repeat' first | refine CO.cons rfl ?_ | refine CO.nil ?_ | refine CV.seq ?_ | refine CV.region callees ?_ | refine CV.cond ?_ | refine CV.ret ?_ | refine CO.consG rfl ?_ | fail
    exact ⟨rfl,by rw [hle],k06⟩
  refine (isWithin_yes (by omega) c1).mono ?_
  rintro r H7 ⟨rfl,rfl⟩
  repeat' first | refine CO.cons rfl ?_ | refine CO.consG rfl ?_ | refine ⟨_,cell_load ag3 g36 rfl,?_⟩ | fail
  by_cases c2:0<=to∧to<=300
  rotate_left
  · rw [if_neg (fun h=>c2 h.2)] at hle
    refine (isWithin_no (by omega) c2).mono ?_
    rintro r H8 ⟨rfl,rfl⟩
    repeat' first | refine CO.cons rfl ?_ | refine CO.nil ?_ | refine CV.seq ?_ | refine CV.region callees ?_ | refine CV.cond ?_ | refine CV.ret ?_ | refine CO.consG rfl ?_ | fail
    exact ⟨rfl,by rw [hle],k06⟩
  refine (isWithin_yes (by omega) c2).mono ?_
  rintro r H8 ⟨rfl,rfl⟩
  rw [if_pos ⟨c1,c2⟩] at hle
  by_cases c3:fr<=to
  rotate_left
  · rw [if_neg c3] at hle
    repeat' first | refine CO.cons rfl ?_ | refine CO.nil ?_ | refine CV.seq ?_ | refine CV.region callees ?_ | refine CV.cond ?_ | refine CV.skip ?_ | refine CV.ret ?_ | refine CO.consG rfl ?_ | refine ⟨_,cell_load ag3 g26 rfl,?_⟩ | refine ⟨_,cell_load ag3 g36 rfl,?_⟩ | (refine ⟨fun _=>?_,fun _=>?_⟩<;>try (exfalso; omega)) | fail
    exact ⟨rfl,by rw [hle],k06⟩
  rw [if_pos c3] at hle
  have c4:¬ cs.length<=8:=fun h=>by rw [if_pos h] at hle; exact hne hle
  rw [if_neg c4] at hle
  repeat' first | refine CO.cons rfl ?_ | refine CO.nil ?_ | refine CV.seq ?_ | refine CV.region callees ?_ | refine CV.cond ?_ | refine CV.skip ?_ | refine CV.ret ?_ | refine CO.consG rfl ?_ | refine ⟨_,cell_load ag3 g26 rfl,?_⟩ | refine ⟨_,cell_load ag3 g36 rfl,?_⟩ | refine ⟨_,fS foF0 (by decide),?_⟩ | refine ⟨_,cell_load ag25 g16 rfl,?_⟩ | refine ⟨_,cs_len hc6,?_⟩ | (refine ⟨fun _=>?_,fun _=>?_⟩<;>try (exfalso; omega)) | fail
  exact ⟨rfl,by rw [hle],k06⟩
theorem layQ_spec {B:Nat} {H:Heap} {k:Ke} {cv tv pv:Value} {cs:List Co} {ts:List (Int × Int)} {ps:List Po} {fr to e:Int} {s:List Int} (hB:B<=H.n) (hc:RowS 7 H cv (cs.map Col)) (ht:RowS 2 H tv (ts.map Hl)) (hp:RowS 3 H pv (ps.map Pol)) (hcn:cs.length<=100) (htn:ts.length<=100) (hpn:ps.length<=100) (hQ:LayQ k cs ts ps fr to s e) :
    CallB Try.prog B 43 [Kev k,Fv cv tv,pv,VJ fr,VJ to] H (fun r H'=>(∃ q,r = .tuple #[q,VJ e]∧Ints H' q s)∧Keep H H'):=by
  rcases hQ with ⟨he,rfl,rfl⟩ | ⟨he,f,t,rfl,rfl,hQ⟩
  · exact (layE_spec hB hc ht hp hcn htn hpn rfl he).mono fun r H' ⟨hr,k⟩=>⟨⟨nilS,hr,.inl ⟨rfl,rfl⟩⟩,k⟩
  · obtain ⟨hb,a1,a2,a3,a4⟩:=laE_zero he
    obtain ⟨hk,ho,hf⟩:=boE_zero hb
    refine (layN_spec hB hk hc ht hp ho hf a4 (by omega) (by omega)).mono ?_
    rintro r H' ⟨k,hr⟩
    rcases hQ with ⟨hg,rfl,rfl⟩ | ⟨hg,rfl⟩
    · rw [hg] at hr
      exact ⟨⟨nilS,hr,.inl ⟨rfl,rfl⟩⟩,k⟩
    · rw [hg] at hr
      exact ⟨hr,k⟩
end Go.Proofs.Ytglkphjjinmgmaa
