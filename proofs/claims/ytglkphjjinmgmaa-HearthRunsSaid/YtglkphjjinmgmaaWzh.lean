/- From a call in each world to a row that holds,and what the arguments are seen as: a program without variables. -/
import Derived.Test.YtglkphjjinmgmaaM1h
import Derived.Test.YtglkphjjinmgmaaX4
import Derived.Test.YtglkphjjinmgmaaRows
import Derived.ProofKit
import Derived.ShutString
import Derived.OpenShut
import Derived.ChangeOld
import Derived.Handed
set_option linter.unusedVariables false
set_option linter.unusedSimpArgs false
namespace Go.Proofs.Ytglkphjjinmgmaa
open Go.AI Go.ChangeShapes Go.WideShapes Go.ChangeAt Go.RowKit
theorem own:ownKnob Try.prog.godebug = none:=by kernel_rfl
theorem laidOut:laidOutB Try.prog = true:=by kernel_rfl
theorem begins:Try.prog.globals.size < (begin Try.prog (fun _ _=>0) default).world.heap.size:=Nat.lt_of_lt_of_le (Nat.lt_succ_self _) (Nat.le_of_ble_eq_true (by kernel_rfl))
set_option maxRecDepth 100000 in
/-- A row's step: from what a call does in each world. -/
theorem lift {os:Os} {f:FuncId} {fn:Func} {s:ChangeSpec} {H:Type} {enc:TypeId × Value->H} (started:os.Started) (noInit:Try.prog.inits.idxOf? f = none) (hfn:Try.prog.funcs[f]? = some fn)
    (witness:∃ (w:World) (tape:Tape) (i:Input),w.os = os∧(w.forCall tape i).Shaped Try.prog∧i.vars = []∧Input.okWide Try.prog (w.forCall tape i) .any w.heap.size f i ∧
      (s.pre enc Try.prog fn [] false (w.forCall tape i).memory i.args∧sizedMet enc Try.prog fn (OpenSpec.ofChange s) false (w.forCall tape i).memory i.args)∧({}:Assume).holds Try.prog (lone (Frame.enter Try.prog f i.args .normal) [] (w.forCall tape i)))
    (contract:∀ (W:World) (base:Nat) (args:Array Value) (ds gs:List (DataW H)) (before:List MemPlace),0 < W.heap.size ->
      (∀ (j:Nat) t v,fn.params[j]? = some t->args[j]? = some v->Value.okWide Try.prog W .any base t v) ->
      DataW.Whole enc Try.prog fn.params.toList s.vars false W args.toList ds gs before ->
      Calls Try.prog f args W fun e W'=>∃ v,e = .returned v∧s.post enc Try.prog fn false true false false W args v W') :
    ReturnsInHanded {} Try.checked os f .any (fun w args=>s.pre enc Try.prog fn [] false w args∧sizedMet enc Try.prog fn (OpenSpec.ofChange s) false w args) (s.post enc Try.prog fn false true false false):=by
  refine returnsInHanded_of_calls (C:=Try.checked) own started noInit witness ?_
  intro w tape i _ hsh _ hok hpre _
  obtain ⟨_,_,_,fn',hfn',_,_,_,_,hval⟩:=hok
  have e:fn' = fn:=Option.some.inj (hfn'.symm.trans hfn)
  subst e
  obtain ⟨⟨ds,gs,before,hw,_⟩,_⟩:=hpre
  have hw':=DataW.Whole.of_heap (w':=w.forCall tape i) (by rfl) hw
  have hbig:0 < (w.forCall tape i).heap.size:=by
    obtain ⟨o,_,ho,_⟩:=hsh.2 Try.prog.globals.size (Nat.le_refl _) begins
    have:Try.prog.globals.size < (w.forCall tape i).heap.size:=(Array.getElem?_eq_some_iff.1 ho).1
    rw [nglobs] at this; omega
  refine (contract (w.forCall tape i) w.heap.size i.args ds gs before hbig hval hw').mono fun e W' ⟨v,he,hp⟩=>?_
  subst he
  exact ChangeSpec.post_blind hp
end Go.Proofs.Ytglkphjjinmgmaa
