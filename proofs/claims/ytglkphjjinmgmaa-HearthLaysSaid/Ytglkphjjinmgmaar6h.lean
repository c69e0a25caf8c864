/- Run,Sings and When,whatever they are asked. -/
import Derived.Test.Ytglkphjjinmgmaar5h
import Derived.Test.YtglkphjjinmgmaaM8h
set_option linter.unusedVariables false
set_option linter.unusedSimpArgs false
namespace Go.Proofs.Ytglkphjjinmgmaa
open Go.AI
section
variable {B:Nat} {H:Heap} {k:Ke} {cv tv pv:Value} {cs:List Co} {ts:List (Int × Int)} {ps:List Po} {m:Int} {L:List (Int × Int)} {V:List Int} {w:Int × Int}
set_option maxRecDepth 100000 in
theorem refVer_spec (hB:B<=H.n):CallB Try.prog B 83 [Kev k,Hv w] H (fun r H'=>r = VJ (verN k w)∧Keep H H'):=by
  have hv:verN k w = if k.si<=w.1∧w.2<=k.bo then 1 else if w.2 < k.si ∨ k.bo < w.1 then 2 else 3:=rfl
  refine CV.enter callees false rfl Try.func83 rfl (by kernel_rfl) (Nat.le_of_ble_eq_true rfl) hB ?_
  repeat' first | refine CO.cons rfl ?_ | refine CV.seq ?_ | refine CV.region callees ?_ | fail
  refine ⟨(by simp only [notTuple]),?_⟩
  rw [boxKe]
  generalize hs0:Heap.new H _ = H0
  have hg0:=new_get hs0
  have k0:=new_keep hs0
  have n0:=new_n hs0
  obtain ⟨b0,hbn0⟩:∃ b,Heap.n H = b:=⟨_,rfl⟩
  rw [hbn0] at hg0 n0 ⊢
  repeat' first | refine CO.cons rfl ?_ | fail
  refine ⟨(by simp only [notTuple]),?_⟩
  rw [allocHv]
  generalize hs1:Heap.new H0 _ = H1
  have hg1:=new_get hs1
  have k1:=new_keep hs1
  have n1:=new_n hs1
  obtain ⟨b1,hbn1⟩:∃ b,Heap.n H0 = b:=⟨_,rfl⟩
  rw [hbn1] at hg1 n1 ⊢
  have hk1:=(k1.2 b0 (by omega)).trans hg0
  by_cases c1:k.si<=w.1∧w.2<=k.bo
  · rw [if_pos c1] at hv
    obtain ⟨d1,d2⟩:=c1
    repeat' first | refine CO.cons rfl ?_ | refine CO.nil ?_ | refine CV.seq ?_ | refine CV.region callees ?_ | refine CV.cond ?_ | refine CV.block ?_ | refine CV.ret ?_ | refine CO.consG rfl ?_ | refine ⟨_,fS foS0 (by decide),?_⟩ | refine ⟨_,fS foS1 (by decide),?_⟩ | refine ⟨_,fS foK5 (by decide),?_⟩ | refine ⟨_,fS foK6 (by decide),?_⟩ | refine ⟨_,cell_load ag3 hg1 rfl,?_⟩ | refine ⟨_,cell_load ag3 hk1 rfl,?_⟩ | (refine ⟨fun _=>?_,fun _=>?_⟩<;>try (exfalso; omega)) | fail
    all_goals exact ⟨rfl,by rw [hv],k0.trans k1⟩
  · rw [if_neg c1] at hv
    by_cases c2:w.2 < k.si ∨ k.bo < w.1
    · rw [if_pos c2] at hv
      repeat' first | refine CO.cons rfl ?_ | refine CO.nil ?_ | refine CV.seq ?_ | refine CV.region callees ?_ | refine CV.cond ?_ | refine CV.block ?_ | refine CV.ret ?_ | refine CO.consG rfl ?_ | refine ⟨_,fS foS0 (by decide),?_⟩ | refine ⟨_,fS foS1 (by decide),?_⟩ | refine ⟨_,fS foK5 (by decide),?_⟩ | refine ⟨_,fS foK6 (by decide),?_⟩ | refine ⟨_,cell_load ag3 hg1 rfl,?_⟩ | refine ⟨_,cell_load ag3 hk1 rfl,?_⟩ | (refine ⟨fun _=>?_,fun _=>?_⟩<;>try (exfalso; omega)) | fail
      all_goals exact ⟨rfl,by rw [hv],k0.trans k1⟩
    · rw [if_neg c2] at hv
      repeat' first | refine CO.cons rfl ?_ | refine CO.nil ?_ | refine CV.seq ?_ | refine CV.region callees ?_ | refine CV.cond ?_ | refine CV.block ?_ | refine CV.skip ?_ | refine CV.ret ?_ | refine CO.consG rfl ?_ | refine ⟨_,fS foS0 (by decide),?_⟩ | refine ⟨_,fS foS1 (by decide),?_⟩ | refine ⟨_,fS foK5 (by decide),?_⟩ | refine ⟨_,fS foK6 (by decide),?_⟩ | refine ⟨_,cell_load ag3 hg1 rfl,?_⟩ | refine ⟨_,cell_load ag3 hk1 rfl,?_⟩ | (refine ⟨fun _=>?_,fun _=>?_⟩<;>try (exfalso; omega)) | fail
      all_goals exact ⟨rfl,by rw [hv],k0.trans k1⟩
end
end Go.Proofs.Ytglkphjjinmgmaa
