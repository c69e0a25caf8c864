/- Several texts in one. -/
import Derived.Test.YtcpklnekpdhlmaaX4
import Derived.Test.YtcpklnekpdhlmaaChecked
import Derived.Test.YtcpklnekpdhlmaaRows
import Derived.ProofKit
import Derived.ShutString
import Derived.OpenShut
import Derived.ChangeOld
import Derived.Handed
set_option linter.unusedVariables false
set_option linter.unusedSimpArgs false

/- What is fixed of the program. -/
namespace Go.Proofs.Ytcpklnekpdhlmaa
open Go.AI

def globs : List AObj := []
def Base (H : Heap) : Prop := 0 ≤ H.n ∧ ∀ b o, globs[b]? = some o → H.get b = some o
instance : Oracle Try.prog := ⟨fun f => bif Nat.beq f 46 then some (.bool true) else bif Nat.beq f 13 then some (.bool true) else none, Base, [], by kernel_rfl⟩
theorem base_keep {H H' : Heap} (_ : Base H) (_ : Keep H H') : Base H' := ⟨Nat.zero_le _, fun b o hb => by simp [globs] at hb⟩
theorem base_any (H : Heap) : Base H := ⟨Nat.zero_le _, fun b o hb => by simp [globs] at hb⟩

theorem sz3 : sizeB Try.prog 3 = some 1 := by kernel_rfl
theorem ag3 : isAggB Try.prog 3 = some false := by kernel_rfl
theorem one3 : oneBB Try.prog 3 = some (.int .i64 0, 8) := by kernel_rfl
theorem callees : calleesOk Try.prog 115 = true := by kernel_rfl
theorem un3 : Try.prog.underlying 3 = some (.int .i64) := by kernel_rfl
theorem un4 : Try.prog.underlying 4 = some .bool := by kernel_rfl
theorem un22 : Try.prog.underlying 22 = some (.slice 3) := by kernel_rfl
theorem un102 : Try.prog.underlying 116 = some (.map 3 3) := by kernel_rfl
theorem ok41 : codeOk Try.f41.ntmps (Try.f41.body.getD .skip) = true := by kernel_rfl
theorem ok73 : codeOk Try.f73.ntmps (Try.f73.body.getD .skip) = true := by kernel_rfl
theorem ok24 : codeOk Try.f24.ntmps (Try.f24.body.getD .skip) = true := by kernel_rfl
theorem ok69 : codeOk Try.f69.ntmps (Try.f69.body.getD .skip) = true := by kernel_rfl

theorem ints_at {H : Heap} {v : Value} {xs : List Int} (h : Ints H v xs) {i : Int} (h0 : 0 ≤ i) (h1 : i < xs.length) : (xs.map (Value.int .i64))[i.toNat]? = some (.int .i64 xs[i.toNat]!) := by
  have : i.toNat < xs.length := by omega
  simp [List.getElem?_map, List.getElem?_eq_getElem this, getElem!_pos, this]
theorem drop_cons {xs : List Int} {n : Nat} (h : n < xs.length) : xs.drop n = xs[n]! :: xs.drop (n + 1) := by
  rw [List.drop_eq_getElem_cons h, getElem!_pos xs n h]
theorem ints_len {H : Heap} {v : Value} {xs : List Int} (h : Ints H v xs) : alen Try.prog H 22 v = some (.int .i64 xs.length) := by
  have := Row.alen h un22; simpa using this
theorem ints_addr {H : Heap} {v : Value} {xs : List Int} (h : Ints H v xs) {i : Int} (h0 : 0 ≤ i) (h1 : i < xs.length) : aindexAddr Try.prog 22 v (.int .i64 i) = some (elemAt v i.toNat) :=
  Row.addr h un22 sz3 h0 (by simpa using h1)
theorem ints_load {H : Heap} {v : Value} {xs : List Int} (h : Ints H v xs) {i : Int} (h0 : 0 ≤ i) (h1 : i < xs.length) : aload Try.prog 3 H (elemAt v i.toNat) = some (.int .i64 xs[i.toNat]!) :=
  Row.load h ag3 (ints_at h h0 h1)
end Go.Proofs.Ytcpklnekpdhlmaa

/- awake answers true: by the kernel, on the globals alone. -/
namespace Go.Proofs.Ytcpklnekpdhlmaa
open Go.AI

def isTrueB : Option Res → Nat → Bool
  | some (.bool true, _, lo), n => Nat.ble n lo
  | _, _ => false
theorem isTrueB_spec {r : Option Res} {n : Nat} (h : isTrueB r n = true) : ∃ H lo, r = some (.bool true, H, lo) ∧ n ≤ lo := by
  unfold isTrueB at h
  split at h
  · exact ⟨_, _, rfl, Nat.le_of_ble_eq_true h⟩
  · cases h
theorem scoredB : isTrueB (@call Try.prog (Oracle.none Try.prog) 3000 (.fn 46) [] (baseHeap globs)) 0 = true := by kernel_rfl
theorem scoredFound : found Try.prog globs 3000 46 (.bool true) := by
  obtain ⟨H, lo, h1, h2⟩ := isTrueB_spec scoredB
  exact ⟨H, lo, h1, by rw [base_n]; exact h2⟩
theorem awakeB : isTrueB (@call Try.prog (Oracle.none Try.prog) 3000 (.fn 13) [] (baseHeap globs)) 0 = true := by kernel_rfl
theorem awakeFound : found Try.prog globs 3000 13 (.bool true) := by
  obtain ⟨H, lo, h1, h2⟩ := isTrueB_spec awakeB
  exact ⟨H, lo, h1, by rw [base_n]; exact h2⟩
theorem mixed : Try.prog.follows .mixedOrders = true := by kernel_rfl
theorem nglobs : Try.prog.globals.size = 0 := by kernel_rfl
theorem oracleOK (B : Nat) : OracleOK Try.prog B := by
  intro f v hv H hb ρ w args k hR ha
  have hv' : (bif Nat.beq f 46 then some (Value.bool true) else bif Nat.beq f 13 then some (.bool true) else none) = some v := hv
  cases h : Nat.beq f 46 with
  | true =>
    rw [h] at hv'
    obtain rfl := Nat.eq_of_beq_eq_true h
    obtain rfl := Option.some.inj hv'
    exact found_ok mixed (by rfl) (by rw [nglobs]; rfl) rfl scoredFound hb.2 k hR ha
  | false =>
    rw [h, cond_false] at hv'
    cases h2 : Nat.beq f 13 with
    | true =>
      rw [h2] at hv'
      obtain rfl := Nat.eq_of_beq_eq_true h2
      obtain rfl := Option.some.inj hv'
      exact found_ok mixed (by rfl) (by rw [nglobs]; rfl) rfl awakeFound hb.2 k hR ha
    | false => rw [h2] at hv'; cases hv'
end Go.Proofs.Ytcpklnekpdhlmaa

/- From a call in each world to a row that holds: a program without variables. -/
namespace Go.Proofs.Ytcpklnekpdhlmaa
open Go.AI Go.ChangeShapes Go.WideShapes Go.ChangeAt Go.RowKit

theorem own : ownKnob Try.prog.godebug = none := by kernel_rfl
theorem laidOut : laidOutB Try.prog = true := by kernel_rfl
theorem begins : Try.prog.globals.size < (begin Try.prog (fun _ _ => 0) default).world.heap.size := Nat.lt_of_lt_of_le (Nat.lt_succ_self _) (Nat.le_of_ble_eq_true (by kernel_rfl))
set_option maxRecDepth 100000 in
/-- A row's step: from what a call does in each world. -/
theorem lift {os : Os} {f : FuncId} {fn : Func} {s : ChangeSpec} {H : Type} {enc : TypeId × Value → H} (started : os.Started) (noInit : Try.prog.inits.idxOf? f = none) (hfn : Try.prog.funcs[f]? = some fn)
    (witness : ∃ (w : World) (tape : Tape) (i : Input), w.os = os ∧ (w.forCall tape i).Shaped Try.prog ∧ i.vars = [] ∧ Input.okWide Try.prog (w.forCall tape i) .any w.heap.size f i ∧
      (s.pre enc Try.prog fn [] false (w.forCall tape i).memory i.args ∧ sizedMet enc Try.prog fn (OpenSpec.ofChange s) false (w.forCall tape i).memory i.args) ∧ ({} : Assume).holds Try.prog (lone (Frame.enter Try.prog f i.args .normal) [] (w.forCall tape i)))
    (contract : ∀ (W : World) (base : Nat) (args : Array Value) (ds gs : List (DataW H)) (before : List MemPlace), 0 < W.heap.size →
      (∀ (j : Nat) t v, fn.params[j]? = some t → args[j]? = some v → Value.okWide Try.prog W .any base t v) →
      DataW.Whole enc Try.prog fn.params.toList s.vars false W args.toList ds gs before →
      Calls Try.prog f args W fun e W' => ∃ v, e = .returned v ∧ s.post enc Try.prog fn false true false false W args v W') :
    ReturnsInHanded {} Try.checked os f .any (fun w args => s.pre enc Try.prog fn [] false w args ∧ sizedMet enc Try.prog fn (OpenSpec.ofChange s) false w args) (s.post enc Try.prog fn false true false false) := by
  refine returnsInHanded_of_calls (C := Try.checked) own started noInit witness ?_
  intro w tape i _ hsh _ hok hpre _
  obtain ⟨_, _, _, fn', hfn', _, _, _, _, hval⟩ := hok
  have e : fn' = fn := Option.some.inj (hfn'.symm.trans hfn)
  subst e
  obtain ⟨⟨ds, gs, before, hw, _⟩, _⟩ := hpre
  have hw' := DataW.Whole.of_heap (w' := w.forCall tape i) (by rfl) hw
  have hbig : 0 < (w.forCall tape i).heap.size := by
    obtain ⟨o, _, ho, _⟩ := hsh.2 Try.prog.globals.size (Nat.le_refl _) begins
    have : Try.prog.globals.size < (w.forCall tape i).heap.size := (Array.getElem?_eq_some_iff.1 ho).1
    rw [nglobs] at this; omega
  refine (contract (w.forCall tape i) w.heap.size i.args ds gs before hbig hval hw').mono fun e W' ⟨v, he, hp⟩ => ?_
  subst he
  exact ChangeSpec.post_blind hp
end Go.Proofs.Ytcpklnekpdhlmaa

/- What the arguments are seen as: no variables. -/
namespace Go.Proofs.Ytcpklnekpdhlmaa
open Go.AI Go.ChangeShapes Go.WideShapes Go.ChangeAt Go.RowKit
def seenG : List Seen := []
theorem seenG_hr {W : World} (l : List Seen) (hB : ∀ s ∈ l, s.ent.blk < W.heap.size) (hc : ∀ s ∈ l, calm s.obj = true)
    (ho : ∀ s ∈ l, ∀ cs e k, s.obj = .cells cs e k → ∀ (i : Nat) v, cs[i]? = some v → W.cell? ⟨s.ent.blk, s.ent.base + i, none⟩ = some v) : HR Try.prog W.heap.size (seenR (seenG ++ l)) (seenH (seenG ++ l)) W := by
  refine seen_hr (seenG ++ l) hB hc ho ?_
  intro g hg
  rw [nglobs] at hg; omega
end Go.Proofs.Ytcpklnekpdhlmaa
