/- Beginnings and heats of whatever fire. -/
import Derived.Test.Ytglkphjjinmgmaaq6h
set_option linter.unusedVariables false
set_option linter.unusedSimpArgs false
namespace Go.Proofs.Ytglkphjjinmgmaa
open Go.AI
set_option maxRecDepth 100000 in
theorem much_spec {B:Nat} {H:Heap} {cv tv pv:Value} {cs:List Co} {ts:List (Int × Int)} {ps:List Po} (hB:B<=H.n) (hc:RowS 7 H cv (cs.map Col)) (ht:RowS 2 H tv (ts.map Hl)) (hp:RowS 3 H pv (ps.map Pol)) :
    CallB Try.prog B 13 [Fv cv tv,pv] H (fun r H'=>(r = .bool true ∨ r = .bool false∧cs.length<=30∧ts.length<=60∧ps.length<=40)∧Keep H H'):=by
  refine CV.enter callees false rfl Try.func13 rfl (by kernel_rfl) (Nat.le_of_ble_eq_true rfl) hB ?_
  repeat' first | refine CO.cons rfl ?_ | refine CV.seq ?_ | refine CV.region callees ?_ | fail
  refine ⟨(by simp only [notTuple]),?_⟩
  rw [allocFv hc.cells.1 ht.cells.1]
  generalize hs0:Heap.new H _ = H0
  have hg0:=new_get hs0
  have k0:=new_keep hs0
  have n0:=new_n hs0
  obtain ⟨b0,hbn0⟩:∃ b,Heap.n H = b:=⟨_,rfl⟩
  rw [hbn0] at hg0 n0 ⊢
  have hc0:=hc.keep k0
  have ht0:=ht.keep k0
  have hp0:=hp.keep k0
  by_cases h:cs.length<=30∧ts.length<=60∧ps.length<=40
  · repeat' first | refine CO.cons rfl ?_ | refine CO.nil ?_ | refine CV.seq ?_ | refine CV.region callees ?_ | refine CV.ret ?_ | refine CO.consG rfl ?_ | refine ⟨_,fS foF0 (by decide),?_⟩ | refine ⟨_,fS foF1 (by decide),?_⟩ | refine ⟨_,cell_load ag25 hg0 rfl,?_⟩ | refine ⟨_,cs_len hc0,?_⟩ | refine ⟨_,ts_len ht0,?_⟩ | refine ⟨_,po_len hp0,?_⟩ | (refine ⟨fun _=>?_,fun _=>?_⟩<;>try (exfalso; omega)) | fail
    exact ⟨rfl,.inr ⟨rfl,h⟩,k0⟩
  · repeat' first | refine CO.cons rfl ?_ | refine CO.nil ?_ | refine CV.seq ?_ | refine CV.region callees ?_ | refine CV.ret ?_ | refine CO.consG rfl ?_ | refine ⟨_,fS foF0 (by decide),?_⟩ | refine ⟨_,fS foF1 (by decide),?_⟩ | refine ⟨_,cell_load ag25 hg0 rfl,?_⟩ | refine ⟨_,cs_len hc0,?_⟩ | refine ⟨_,ts_len ht0,?_⟩ | refine ⟨_,po_len hp0,?_⟩ | (refine ⟨fun _=>?_,fun _=>?_⟩<;>try (exfalso; omega)) | fail
    all_goals exact ⟨rfl,.inl rfl,k0⟩
end Go.Proofs.Ytglkphjjinmgmaa
