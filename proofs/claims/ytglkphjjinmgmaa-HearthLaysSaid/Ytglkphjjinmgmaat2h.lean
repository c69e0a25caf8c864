/- Whether some coals are enough,for whatever pours. -/
import Derived.Test.YtglkphjjinmgmaaM7h
import Derived.Test.Ytglkphjjinmgmaat1h
set_option linter.unusedVariables false
set_option linter.unusedSimpArgs false
namespace Go.Proofs.Ytglkphjjinmgmaa
open Go.AI
set_option maxHeartbeats 8000000 in
set_option maxRecDepth 100000 in
theorem layFN_spec {B bf bb b1 b2:Nat} {H:Heap} {k:Ke} {cv tv pv qv:Value} {cs:List Co} {ts:List (Int × Int)} {ps:List Po} {c:List Int} {fr to:Nat} (hB:B<=H.n) (hBb:B<=bb) (hbb:bf ≠ bb∧b1 ≠ bb∧b2 ≠ bb) (hbn:bf < H.n∧bb < H.n∧b1 < H.n∧b2 < H.n)
    (hK:Kap bf bb b1 b2 k cv tv pv fr to H) (hk:KOk k) (hc:RowS 7 H cv (cs.map Col)) (ht:RowS 2 H tv (ts.map Hl)) (hp:RowS 3 H pv (ps.map Pol)) (ho:POk k.wa ps) (hf:FOk cs ts) (hq:Ints H qv c) (ha:Asc cs.length 0 c) (hm1:to<=300) :
    CallB Try.prog B 86 [qv,pt bf,pt bb,pt b1,pt b2] H (fun r H'=>r = .bool (enB k cs ts ps fr to c)∧Kap bf bb b1 b2 k cv tv pv fr to H'∧KeepX bb H H'):=by
  obtain ⟨gf,⟨ev,gb⟩,gx,gy⟩:=hK
  have hfo:=only_ok hf ha
  obtain ⟨B0,h0⟩:=isBeg_ex (e:=0) hfo
  obtain ⟨B1,h1⟩:=isBeg_ex (e:=1) hfo
  refine CV.enter callees false rfl Try.func86 rfl (by kernel_rfl) (Nat.le_of_ble_eq_true rfl) hB ?_
  repeat' first | refine CO.cons rfl ?_ | refine CO.nil ?_ | refine CV.seq ?_ | refine CV.region callees ?_ | refine ⟨_,ld28 gf,?_⟩ | fail
  refine (only_spec (by omega) hc ht hq hf ha).mono ?_
  rintro r H1 ⟨⟨u,w,rfl,hu,hw⟩,k1⟩
  have l1:=k1.1
  repeat' first | refine CO.cons rfl ?_ | fail
  refine (embers_spec (by omega) hu.row hw.row hfo h0 h1).mono ?_
  rintro e2 H2 ⟨he2,k2⟩
  have l2:=k2.1
  have k02:=k1.trans k2
  have gb2:=(k02.2 bb (by omega)).trans gb
  repeat' first | refine CO.cons rfl ?_ | refine ⟨_,fS foB1k (by decide),?_⟩ | fail
  refine ⟨_,_,store_row (i:=8) szEm gb2 (by show 8 < 10; decide) he2.oneC,by omega,?_⟩
  generalize hs3:Heap.set H2 bb _ = H3
  have hg3:H3.get bb = some (.cells (Bol k e2 pv) 116 1):=set_get hs3
  have n3:=set_n hs3
  have o3:=set_old hs3
  have g:∀ p,p < H.n->p ≠ bb->H3.get p = H.get p:=fun p hp1 hp2=>(o3 p hp2).trans (k02.2 p hp1)
  have gx3:=(g b1 (by omega) (by omega)).trans gx
  have gy3:=(g b2 (by omega) (by omega)).trans gy
  have k23:KeepX bb H2 H3:=⟨by omega,fun p _ hp=>o3 p hp⟩
  have he3:OwnE H3 e2 (emL (onlyC cs c) B0 B1) H1.n:=OwnS.keepX he2 k23 gb2
  have hp3:RowS 3 H3 pv (ps.map Pol):=(hp.keep k02).keepX k23 gb2
  repeat' first | refine CO.cons rfl ?_ | refine CO.nil ?_ | refine CV.seq ?_ | refine CV.region callees ?_ | refine ⟨_,ld98 hg3,?_⟩ | refine ⟨_,cell_load ag3 gx3 rfl,?_⟩ | refine ⟨_,cell_load ag3 gy3 rfl,?_⟩ | fail
  refine (surelyN_spec (by omega) hk he3.row (by rw [emL_len]; exact hfo.n) (emL_ok hfo h0 h1) hp3 ho hm1).mono ?_
  rintro r H4 ⟨rfl,k4⟩
  have l4:=k4.1
  repeat' first | refine CO.cons rfl ?_ | refine CO.nil ?_ | refine CV.ret ?_ | fail
  have gg:∀ p,p < H.n->p ≠ bb->H4.get p = H.get p:=fun p hp1 hp2=>(k4.2 p (by omega)).trans (g p hp1 hp2)
  refine ⟨by first | rfl | trivial,?_,⟨(gg bf (by omega) hbb.1).trans gf,⟨e2,(k4.2 bb (by omega)).trans hg3⟩,(gg b1 (by omega) (by omega)).trans gx,(gg b2 (by omega) (by omega)).trans gy⟩,⟨by omega,gg⟩⟩
  congr 1
  by_cases h:∀ m,fr<=m->m<=to->verN k (warmM k (emL (onlyC cs c) B0 B1) ps m) = 1
  · rw [surB_true h,(enB_iff hf ha h0 h1).2 h]
  · have h':enB k cs ts ps fr to c = false:=by
      cases he:enB k cs ts ps fr to c with
      | false=>rfl
      | true=>exact absurd ((enB_iff hf ha h0 h1).1 he) h
    rw [h']
    obtain ⟨m,hm⟩:=Classical.not_forall.1 h
    obtain ⟨u1,hm⟩:=Classical.not_forall.1 hm
    obtain ⟨u2,hm⟩:=Classical.not_forall.1 hm
    exact surB_false u1 u2 hm
end Go.Proofs.Ytglkphjjinmgmaa
