
/- How many orders are allowed. -/
import Derived.Test.YtlamceokhbigaaaTbg
set_option linter.unusedVariables false
set_option linter.unusedSimpArgs false
namespace Go.Proofs.Ytlamceokhbigaaa
open Go.AI
theorem row_shape {H : Heap} {v : Value} {vs : List Value} (h : Row H v vs) : (v = .slice none 0 0 ∧ vs = []) ∨ ∃ a n c, v = .slice (some a) n c := by
  rcases h with h | ⟨h, _⟩ | ⟨b, i, c, cs, e, k, h, _⟩
  · exact .inl h
  · exact .inr ⟨_, _, _, h⟩
  · exact .inr ⟨_, _, _, h⟩
theorem step1_nilnil {P : Program} {tm : Tm} {H : Heap} {o : Oper} {t u e : TypeId} {x y : Operand} (ht : P.underlying t = some (.slice e)) (ho : o.op = .binOp .eql t x y u) (hx : ev P tm x = some (.slice none 0 0)) (hy : ev P tm y = some (.slice none 0 0)) : step1 P tm H o = some (.bool true, H, H.n) := by
  refine step1_bin ho hx hy rfl rfl (apure_bin ho hx hy rfl rfl (by rfl) ?_ rfl)
  rw [show binOp .eql t (.slice none 0 0) (.slice none 0 0) = (do pure (.bool (← Op.equal t (.slice none 0 0) (.slice none 0 0)))) from rfl, pureRun_bind]
  rw [show pureRun P (Op.equal t (.slice none 0 0) (.slice none 0 0)) = some true by
    unfold Op.equal
    rw [show Op.maxDepth = 9999 + 1 from rfl, Op.equalIn, pureRun_bind, pureRun_underlying ht]
    rfl]
  rfl

set_option maxRecDepth 100000 in
theorem clone_spec {B : Nat} {v : Value} {H : Heap} {xs : List Int} (hB : B ≤ H.n) (hv : Ints H v xs) (hn : xs.length < 1000000) :
    CallB Try.prog B 80 [v] H (fun r H' => Own 3 H' r (xs.map VI) H.n ∧ Keep H H') := by
  rcases row_shape hv with ⟨rfl, h0⟩ | ⟨a, n, c, rfl⟩
  · refine CV.enter callees false rfl Try.func80 rfl (by kernel_rfl) (Nat.le_of_ble_eq_true rfl) hB ?_
    repeat' first
      | refine CO.cons rfl ?_
      | refine CO.nil ?_
      | refine CV.seq ?_
      | refine CV.region callees ?_
      | refine CV.cond ?_
      | refine CV.ret ?_
      | (refine ⟨_, fun tm ha => step1_nilnil un22 rfl (ev_tmp ha rfl) rfl, ?_⟩)
      | fail
    exact ⟨rfl, .inl ⟨rfl, h0⟩, Keep.refl _⟩
  · refine CV.enter callees false rfl Try.func80 rfl (by kernel_rfl) (Nat.le_of_ble_eq_true rfl) hB ?_
    repeat' first
      | refine CO.cons rfl ?_
      | refine CO.nil ?_
      | refine CV.seq ?_
      | refine CV.region callees ?_
      | refine CV.cond ?_
      | refine CV.skip ?_
      | (refine ⟨_, fun tm ha => step1_nil rfl (ev_tmp ha rfl) rfl rfl (by simp [anil, un22]; rfl), ?_⟩)
      | (refine ⟨_, _, build_none un22 one3, ?_⟩)
      | fail
    refine copy_ask un22 one3 (by omega) hv hB (by simpa using hn) ?_
    intro r H' ho k
    repeat' first
      | refine CO.cons rfl ?_
      | refine CO.nil ?_
      | refine CV.ret ?_
      | fail
    exact ⟨by simp only [List.all_cons, List.all_nil, ho.notTuple]; rfl, ho, k⟩
theorem zc3 : zeroCellsW Try.prog 3 = some [VI 0] := by kernel_rfl
theorem al3 {H : Heap} : sAlloc Try.prog H 3 = some (.pointer (some ⟨H.n, 0, none⟩), H.new (.cells [VI 0] 3 1), H.n) := alloc_ofW zc3
end Go.Proofs.Ytlamceokhbigaaa

