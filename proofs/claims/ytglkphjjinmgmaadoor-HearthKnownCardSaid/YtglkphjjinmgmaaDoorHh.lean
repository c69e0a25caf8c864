/- HearthKnown answers true: the examples of its chapter have the results that are given there. No condition but that the listed variables of the library hold what the card ties them to (they are not looked at). -/
import Derived.Test.YtglkphjjinmgmaaDoorHg
import Derived.Test.YtglkphjjinmgmaaDoorX4
import Derived.Test.YtglkphjjinmgmaaDoorRows
import Derived.Test.YtglkphjjinmgmaaDoorTie
import Derived.Test.YtglkphjjinmgmaaDoorCards
import Derived.SevenTiedAt
import Derived.ProofKit
import Derived.ShutString
import Derived.OpenShut
import Derived.ChangeOld
import Derived.Lay
import Derived.LaidSub
set_option linter.unusedVariables false
set_option linter.unusedSimpArgs false
namespace Go.Proofs.YtglkphjjinmgmaaDoor
open Go.AI Go.ChangeShapes Go.WideShapes Go.ChangeAt Go.RowKit

theorem own : ownKnob Tryd.prog.godebug = none := by kernel_rfl
theorem laidOut : laidOutB Tryd.prog = true := by kernel_rfl
theorem begins : Tryd.prog.globals.size < (begin Tryd.prog (fun _ _ => 0) default).world.heap.size := Nat.lt_of_lt_of_le (Nat.lt_succ_self _) (Nat.le_of_ble_eq_true (by kernel_rfl))
abbrev laidT : List (String × DataW Unit) := [("math/bits.deBruijn32tab", Rows.laid_math_bits_deBruijn32tab), ("math/bits.deBruijn64tab", Rows.laid_math_bits_deBruijn64tab), ("internal/strconv.uint64pow10", Rows.laid_internal_strconv_uint64pow10)]
noncomputable def laidWorldT (os : Os) : World := World.laidAll Tryd.prog os laidT
set_option maxRecDepth 100000 in
theorem laidWorldT_met (os : Os) (args : Array Value) : laidMet Tryd.prog laidT ((laidWorldT os).forCall (fun _ _ => 0) ⟨#[], args, []⟩).memory :=
  laidMet_laidAll args (by kernel_rfl) (by kernel_rfl)
set_option maxRecDepth 100000 in
/-- A row's step: from what a call does in each world in which the tables are laid. -/
theorem liftT {os : Os} {f : FuncId} {fn : Func} {s : ChangeSpec} {H : Type} {enc : TypeId × Value → H} (started : os.Started) (noInit : Tryd.prog.inits.idxOf? f = none) (hfn : Tryd.prog.funcs[f]? = some fn)
    (witness : ∃ (w : World) (tape : Tape) (i : Input), w.os = os ∧ (w.forCall tape i).Shaped Tryd.prog ∧ i.vars = [] ∧ Input.okWide Tryd.prog (w.forCall tape i) .any w.heap.size f i ∧
      ((s.pre enc Tryd.prog fn [] false (w.forCall tape i).memory i.args ∧ laidMet Tryd.prog laidT (w.forCall tape i).memory) ∧ sizedMet enc Tryd.prog fn (OpenSpec.ofChange s) false (w.forCall tape i).memory i.args) ∧ ({} : Assume).holds Tryd.prog (lone (Frame.enter Tryd.prog f i.args .normal) [] (w.forCall tape i)))
    (contract : ∀ (W : World) (base : Nat) (args : Array Value) (ds gs : List (DataW H)) (before : List MemPlace), Tryd.prog.globals.size ≤ W.heap.size →
      (∀ (j : Nat) t v, fn.params[j]? = some t → args[j]? = some v → Value.okWide Tryd.prog W .any base t v) →
      DataW.Whole enc Tryd.prog fn.params.toList s.vars false W args.toList ds gs before →
      Calls Tryd.prog f args W fun e W' => ∃ v, e = .returned v ∧ s.post enc Tryd.prog fn false true false false W args v W') :
    ReturnsInHanded {} Tryd.checked os f .any (fun w args => (s.pre enc Tryd.prog fn [] false w args ∧ laidMet Tryd.prog laidT w) ∧ sizedMet enc Tryd.prog fn (OpenSpec.ofChange s) false w args) (s.post enc Tryd.prog fn false true false false) := by
  refine returnsInHanded_of_calls (C := Tryd.checked) own started noInit witness ?_
  intro w tape i _ hsh _ hok hpre _
  obtain ⟨_, _, _, fn', hfn', _, _, _, _, hval⟩ := hok
  have e : fn' = fn := Option.some.inj (hfn'.symm.trans hfn)
  subst e
  obtain ⟨⟨⟨ds, gs, before, hw, _⟩, _⟩, _⟩ := hpre
  have hw' := DataW.Whole.of_heap (w' := w.forCall tape i) (by rfl) hw
  have hbig : Tryd.prog.globals.size ≤ (w.forCall tape i).heap.size := by
    obtain ⟨o, _, ho, _⟩ := hsh.2 Tryd.prog.globals.size (Nat.le_refl _) begins
    have : Tryd.prog.globals.size < (w.forCall tape i).heap.size := (Array.getElem?_eq_some_iff.1 ho).1
    omega
  refine (contract (w.forCall tape i) w.heap.size i.args ds gs before hbig hval hw').mono fun e W' ⟨v, he, hp⟩ => ?_
  subst he
  exact ChangeSpec.post_blind hp
/-- What the globals are seen as: nothing is known of them. -/
def seenGo : List Seen := (List.range gl.length).map fun i => ⟨⟨i, 0, 0⟩, .gone⟩
theorem seenGo_get {s : Seen} (h : s ∈ seenGo) : s.ent.blk < gl.length ∧ s.obj = .gone := by
  unfold seenGo at h
  obtain ⟨i, hi, rfl⟩ := List.mem_map.1 h
  exact ⟨List.mem_range.1 hi, rfl⟩
theorem seenGo_hr {W : World} (hbig : Tryd.prog.globals.size ≤ W.heap.size) : HR Tryd.prog W.heap.size (seenR seenGo) (seenH seenGo) W := by
  have hn : gl.length = Tryd.prog.globals.size := nglobs
  refine seen_hr seenGo (fun s hs => ?_) (fun s hs => ?_) (fun s hs cs e k hc => ?_) fun g hg => ?_
  · have := (seenGo_get hs).1; omega
  · rw [(seenGo_get hs).2]; rfl
  · rw [(seenGo_get hs).2] at hc; cases hc
  · refine ⟨0, ?_⟩
    have hg' : g < gl.length := by omega
    have hr : (List.range gl.length)[g]? = some g := List.getElem?_range hg'
    show Option.map (fun x : Seen => x.ent) seenGo[g]? = _
    unfold seenGo
    rw [List.getElem?_map, hr]
    rfl
theorem seenGo_base : baseB gl (seenH seenGo) 0 = true := by kernel_rfl

theorem hearthKnown_spec : @CallB Tryd.prog (orG kn3) (seenH seenGo).n 3 [] (seenH seenGo) (fun r _ => r = .bool true) :=
  @CallB.known Tryd.prog (orG kn3) _ _ _ _ _ rfl seenGo_base (Nat.le_refl _) rfl
set_option maxRecDepth 100000 in
theorem hearthKnown_lifted (os : Os) (started : os.Started) (H : Type) (enc : TypeId × Value → H) :
    ReturnsInHanded {} Tryd.checked os 3 .any (fun w args => (Rows.hearthKnownSpec.pre enc Tryd.prog Tryd.f3 [] false w args ∧ laidMet Tryd.prog laidT w) ∧ sizedMet enc Tryd.prog Tryd.f3 (OpenSpec.ofChange Rows.hearthKnownSpec) false w args) (Rows.hearthKnownSpec.post enc Tryd.prog Tryd.f3 false true false false) := by
  refine liftT started (by kernel_rfl) Tryd.func3
    (ChangeSpec.witness_at (enc := enc) (C := Tryd.checked) (os := os) (X := fun w _ => laidMet Tryd.prog laidT w) false (laidWorldT os) #[] 8 rfl (by kernel_rfl) (by kernel_rfl) (by kernel_rfl) (by kernel_rfl) (by kernel_rfl) (laidWorldT_met os _)) ?_
  intro W base args ds gs before hbig hval hW
  have hW' := hW
  obtain ⟨p, q, hA0, hV, rfl, hfz, hnd⟩ := hW
  have hA : DataW.TrodAll enc Tryd.prog W 0 (fun _ => true) true Tryd.f3.params.toList args.toList ds p := hA0
  rw [Tryd.params3] at hA hval
  obtain ⟨hargs, rfl, rfl⟩ := trodAll_nil hA
  obtain rfl : args = #[] := by cases args; simp_all
  obtain ⟨rfl, rfl⟩ := trodVars_none hV
  have hrun := @run_of Tryd.prog (orG kn3) W.heap.size _ _ _ 3 [] #[] _ mixed (ok3 _) (seenGo_hr hbig) .nil hearthKnown_spec wildG
  refine hrun.mono fun e W' ⟨u, u', H', ρ', he, hu, hq, bel⟩ => ?_
  subst he; subst hq
  have hu' : u' = .bool true := hu.plain rfl
  subst hu'
  exact ⟨_, rfl, _, _, _, [], _, [], hW', trodAll_mk1 (shut_bool Tryd.underlying4 _), trodAll_mk0, rfl, bel.frame _, fun h => by cases h⟩

theorem hearthKnown_holds : Rows.HearthKnownSaid :=
  OpenClaim.holds_of_wide 3 Tryd.f3 rfl rfl rfl rfl rfl rfl rfl ⟨rfl, rfl, rfl, rfl, rfl⟩ rfl rfl rfl rfl rfl (by kernel_rfl) Tryd.func3 (by kernel_rfl)
    (of_decide_eq_true (by kernel_rfl)) (by unfold Func.isWrapper; first | (rw [if_pos (by decide +kernel)]; kernel_rfl) | (rw [if_neg (by decide +kernel)]; exact ⟨rfl, rfl⟩))
    (fun os started H enc _ => hearthKnown_lifted os started H enc)

theorem hearthKnown_card : Rows.HearthKnownCardSaid :=
  Claim7.holds_tied_plain_at .later [] [.data, .data, .data] true (true, "8051d2828adfe45c7eab15f522d670b62eac4bf4d6624548135252c9408bf771") false
    hearthKnown_holds (fun _ h => by cases h) (by kernel_rfl) (fun _ h => by cases h) hearthKnown_row_tie rfl ⟨rfl, rfl⟩ (by kernel_rfl) rfl
    (fun f fn hf hfn => by
      obtain rfl : f = 3 := Option.some.inj ((show Tryd.prog.funcNamed "aloeswood/aloeswoodlaw07.HearthKnown" = some 3 by kernel_rfl).symm.trans hf) |>.symm
      obtain rfl : fn = Tryd.f3 := (Option.some.inj (Tryd.func3.symm.trans hfn)).symm
      exact ⟨by kernel_rfl, fun j t ht => by
        rw [Tryd.params3] at ht
        simp at ht⟩)
    (by kernel_rfl)
end Go.Proofs.YtglkphjjinmgmaaDoor
