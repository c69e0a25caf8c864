/- Several texts in one. -/
import Derived.Test.YtkfaiokiaahbaaaDoorX4
import Derived.Test.YtkfaiokiaahbaaaDoorChecked
import Derived.Test.YtkfaiokiaahbaaaDoorRows
import Derived.Test.YtkfaiokiaahbaaaDoorTie
import Derived.ProofKit
import Derived.ShutString
import Derived.OpenShut
import Derived.ChangeOld
set_option linter.unusedVariables false
set_option linter.unusedSimpArgs false
/- What is fixed of the program. -/
namespace Go.Proofs.YtkfaiokiaahbaaaDoor
open Go.AI

def globs : List AObj := [.cells ([32,45,124,111,124,120].map fun n => Value.int .u8 n) 0 0, .gone, .gone, .gone]
def Base (H : Heap) : Prop := 4 ≤ H.n ∧ ∀ b o, globs[b]? = some o → H.get b = some o
/-- The two tables that are made anew at each call: how many ways there are to go on, and how many partitions there are. -/
def endT : List Int := [1,1,1,1,1,1,1,1,1,1,1,2,3,4,5,6,7,8,9,0,2,5,10,17,26,37,50,65,0,0,5,15,37,77,141,235,365,0,0,0,15,52,151,372,799,1540,0,0,0,0,52,203,674,1915,4736,0,0,0,0,0,203,877,3263,10481,0,0,0,0,0,0,877,4140,17007,0,0,0,0,0,0,0,4140,21147,0,0,0,0,0,0,0,0,21147,0,0,0,0,0,0,0,0,0]
def partT : List Int := [1,0,0,0,0,0,0,0,0,0,0,1,0,0,0,0,0,0,0,0,0,1,1,0,0,0,0,0,0,0,0,1,3,1,0,0,0,0,0,0,0,1,7,6,1,0,0,0,0,0,0,1,15,25,10,1,0,0,0,0,0,1,31,90,65,15,1,0,0,0,0,1,63,301,350,140,21,1,0,0,0,1,127,966,1701,1050,266,28,1,0,0,1,255,3025,7770,6951,2646,462,36,1]
def tabV (l : List Int) : Value := .agg (l.map (Value.int .i64)).toArray
instance : Oracle Tryd.prog := ⟨fun f => bif Nat.beq f 19 then some (.bool true) else bif Nat.beq f 82 then some (tabV endT) else bif Nat.beq f 84 then some (tabV partT) else none, Base, [(135, 1), (142, 2)], by kernel_rfl⟩
theorem base_keep {H H' : Heap} (h : Base H) (k : Keep H H') : Base H' :=
  ⟨Nat.le_trans h.1 k.1, fun b o hb => by
    have h1 : b < 4 := (List.getElem?_eq_some_iff.1 hb).1
    rw [k.2 b (Nat.lt_of_lt_of_le h1 h.1)]; exact h.2 b o hb⟩

theorem sz3 : sizeB Tryd.prog 3 = some 1 := by kernel_rfl
theorem ag3 : isAggB Tryd.prog 3 = some false := by kernel_rfl
theorem one3 : oneBB Tryd.prog 3 = some (.int .i64 0, 8) := by kernel_rfl
theorem callees : calleesOk Tryd.prog 139 = true := by kernel_rfl
theorem un3 : Tryd.prog.underlying 3 = some (.int .i64) := by kernel_rfl
theorem un4 : Tryd.prog.underlying 4 = some .bool := by kernel_rfl
theorem un22 : Tryd.prog.underlying 22 = some (.slice 3) := by kernel_rfl
theorem un102 : Tryd.prog.underlying 102 = some (.map 3 3) := by kernel_rfl
theorem ok11 : codeOk Tryd.f11.ntmps (Tryd.f11.body.getD .skip) = true := by kernel_rfl
theorem ok26 : codeOk Tryd.f26.ntmps (Tryd.f26.body.getD .skip) = true := by kernel_rfl
theorem ok28 : codeOk Tryd.f28.ntmps (Tryd.f28.body.getD .skip) = true := by kernel_rfl
theorem ok30 : codeOk Tryd.f30.ntmps (Tryd.f30.body.getD .skip) = true := by kernel_rfl
theorem ok75 : codeOk Tryd.f75.ntmps (Tryd.f75.body.getD .skip) = true := by kernel_rfl
theorem ok80 : codeOk Tryd.f80.ntmps (Tryd.f80.body.getD .skip) = true := by kernel_rfl

theorem ints_at {H : Heap} {v : Value} {xs : List Int} (h : Ints H v xs) {i : Int} (h0 : 0 ≤ i) (h1 : i < xs.length) : (xs.map (Value.int .i64))[i.toNat]? = some (.int .i64 xs[i.toNat]!) := by
  have : i.toNat < xs.length := by omega
  simp [List.getElem?_map, List.getElem?_eq_getElem this, getElem!_pos, this]
theorem drop_cons {xs : List Int} {n : Nat} (h : n < xs.length) : xs.drop n = xs[n]! :: xs.drop (n + 1) := by
  rw [List.drop_eq_getElem_cons h, getElem!_pos xs n h]
theorem ints_len {H : Heap} {v : Value} {xs : List Int} (h : Ints H v xs) : alen Tryd.prog H 22 v = some (.int .i64 xs.length) := by
  have := Row.alen h un22; simpa using this
theorem ints_addr {H : Heap} {v : Value} {xs : List Int} (h : Ints H v xs) {i : Int} (h0 : 0 ≤ i) (h1 : i < xs.length) : aindexAddr Tryd.prog 22 v (.int .i64 i) = some (elemAt v i.toNat) :=
  Row.addr h un22 sz3 h0 (by simpa using h1)
theorem ints_load {H : Heap} {v : Value} {xs : List Int} (h : Ints H v xs) {i : Int} (h0 : 0 ≤ i) (h1 : i < xs.length) : aload Tryd.prog 3 H (elemAt v i.toNat) = some (.int .i64 xs[i.toNat]!) :=
  Row.load h ag3 (ints_at h h0 h1)
end Go.Proofs.YtkfaiokiaahbaaaDoor

/- awake answers true: by the kernel, on the globals alone. -/
namespace Go.Proofs.YtkfaiokiaahbaaaDoor
open Go.AI

def isTrueB : Option Res → Nat → Bool
  | some (.bool true, _, lo), n => Nat.ble n lo
  | _, _ => false
theorem isTrueB_spec {r : Option Res} {n : Nat} (h : isTrueB r n = true) : ∃ H lo, r = some (.bool true, H, lo) ∧ n ≤ lo := by
  unfold isTrueB at h
  split at h
  · exact ⟨_, _, rfl, Nat.le_of_ble_eq_true h⟩
  · cases h
theorem awakeB : isTrueB (@call Tryd.prog (Oracle.none Tryd.prog) 3000 (.fn 19) [] (baseHeap globs)) 4 = true := by kernel_rfl
theorem awakeFound : found Tryd.prog globs 3000 19 (.bool true) := by
  obtain ⟨H, lo, h1, h2⟩ := isTrueB_spec awakeB
  exact ⟨H, lo, h1, by rw [base_n]; exact h2⟩
def isTabB : Option Res → List Int → Nat → Bool
  | some (.agg cs, _, lo), l, n => Nat.ble n lo && ints cs.toList l
  | _, _, _ => false
where
  ints : List Value → List Int → Bool
  | [], [] => true
  | .int .i64 x :: r, y :: l => decide (x = y) && ints r l
  | _, _ => false
theorem ints_spec' : ∀ (vs : List Value) (l : List Int), isTabB.ints vs l = true → vs = l.map (Value.int .i64)
  | [], [], _ => rfl
  | [], _ :: _, h => by simp [isTabB.ints] at h
  | v :: r, [], h => by unfold isTabB.ints at h; split at h <;> simp_all
  | v :: r, y :: l, h => by
    unfold isTabB.ints at h
    split at h
    · rename_i h1 h2; cases h1
    · rename_i x r' y' l' h1 h2
      cases h1; cases h2
      simp only [Bool.and_eq_true, decide_eq_true_eq] at h
      rw [h.1, ints_spec' _ _ h.2]; rfl
    · cases h
theorem isTabB_spec {r : Option Res} {l : List Int} {n : Nat} (h : isTabB r l n = true) : ∃ H lo, r = some (tabV l, H, lo) ∧ n ≤ lo := by
  unfold isTabB at h
  split at h
  · rename_i cs H lo
    simp only [Bool.and_eq_true] at h
    refine ⟨H, lo, ?_, Nat.le_of_ble_eq_true h.1⟩
    have := ints_spec' _ _ h.2
    rw [tabV, ← this]
  · cases h
theorem endB : isTabB (@call Tryd.prog (Oracle.none Tryd.prog) 3000 (.fn 82) [] (baseHeap globs)) endT 4 = true := by kernel_rfl
theorem partB : isTabB (@call Tryd.prog (Oracle.none Tryd.prog) 3000 (.fn 84) [] (baseHeap globs)) partT 4 = true := by kernel_rfl
theorem endFound : found Tryd.prog globs 3000 82 (tabV endT) := by
  obtain ⟨H, lo, h1, h2⟩ := isTabB_spec endB
  exact ⟨H, lo, h1, by rw [base_n]; exact h2⟩
theorem partFound : found Tryd.prog globs 3000 84 (tabV partT) := by
  obtain ⟨H, lo, h1, h2⟩ := isTabB_spec partB
  exact ⟨H, lo, h1, by rw [base_n]; exact h2⟩
theorem tab_plain (l : List Int) : plain (tabV l) = true := by
  simp [plain, flat, tabV, scalar]
theorem mixed : Tryd.prog.follows .mixedOrders = true := by kernel_rfl
theorem nglobs : Tryd.prog.globals.size = 4 := by kernel_rfl
theorem oracleOK (B : Nat) : OracleOK Tryd.prog B := by
  intro f v hv H hb ρ w args k hR ha
  have hv' : (bif Nat.beq f 19 then some (Value.bool true) else bif Nat.beq f 82 then some (tabV endT) else bif Nat.beq f 84 then some (tabV partT) else none) = some v := hv
  cases h : Nat.beq f 19 with
  | true =>
    rw [h] at hv'
    obtain rfl := Nat.eq_of_beq_eq_true h
    obtain rfl := Option.some.inj hv'
    exact found_ok mixed (by rfl) (by rw [nglobs]; rfl) rfl awakeFound hb.2 k hR ha
  | false =>
    rw [h, cond_false] at hv'
    cases h2 : Nat.beq f 82 with
    | true =>
      rw [h2] at hv'
      obtain rfl := Nat.eq_of_beq_eq_true h2
      obtain rfl := Option.some.inj hv'
      exact found_ok mixed (by rfl) (by rw [nglobs]; rfl) (tab_plain _) endFound hb.2 k hR ha
    | false =>
      rw [h2, cond_false] at hv'
      cases h3 : Nat.beq f 84 with
      | true =>
        rw [h3] at hv'
        obtain rfl := Nat.eq_of_beq_eq_true h3
        obtain rfl := Option.some.inj hv'
        exact found_ok mixed (by rfl) (by rw [nglobs]; rfl) (tab_plain _) partFound hb.2 k hR ha
      | false => rw [h3] at hv'; cases hv'
end Go.Proofs.YtkfaiokiaahbaaaDoor

/- The table that is laid, and a world that has it. -/
namespace Go.Proofs.YtkfaiokiaahbaaaDoor
open Go.AI Go.ChangeShapes Go.WideShapes Go.ChangeAt Go.RowKit

theorem own : ownKnob Tryd.prog.godebug = none := by kernel_rfl
theorem laidOut : laidOutB Tryd.prog = true := by kernel_rfl
theorem signsAt : Tryd.prog.globalNamed "aloeswood/chart.signs" = some 0 := by kernel_rfl
theorem signsType : (Tryd.prog.globals[0]?).map (·.type) = some 122 := by kernel_rfl
theorem u8At : Tryd.prog.underlying 5 = some (.int .u8) := by kernel_rfl
theorem cells122 : Tryd.prog.cellsOf 122 = 6 := by kernel_rfl
theorem cells5 : Tryd.prog.cellsOf 5 = 1 := by kernel_rfl
def signs : Array Value := #[.int .u8 32, .int .u8 45, .int .u8 124, .int .u8 111, .int .u8 124, .int .u8 120]
theorem cells121 : Tryd.prog.cellsOf 121 = 2 := by kernel_rfl

theorem int_of_trod {H : Type} {enc : TypeId × Value → H} {P : Program} {w : World} {base : Nat} {sp : Nat → Bool} {held : Bool} {fuel : Nat} {t : TypeId} {k : IntKind} {c : Value} {y : DataW H × List MemPlace}
    (ht : P.underlying t = some (.int k)) (h : DataW.trod enc P w base sp held fuel t [c] = some y) : ∃ n, c = .int k n ∧ y = (.lit (.int k n), []) := by
  cases fuel with
  | zero => simp [DataW.trod] at h
  | succ fuel =>
    cases c <;> simp [DataW.trod, ht] at h
    rename_i k' n
    obtain ⟨⟨rfl, _⟩, rfl⟩ := h
    exact ⟨n, rfl, rfl⟩
theorem pair_of_trod {H : Type} {enc : TypeId × Value → H} {w : World} {base : Nat} {sp : Nat → Bool} {held : Bool} {fuel : Nat} {l : List Value} {y : DataW H × List MemPlace}
    (h : DataW.trod enc Tryd.prog w base sp held fuel 121 l = some y) : ∃ a b, l = [.int .u8 a, .int .u8 b] ∧ y.1 = .agg [.lit (.int .u8 a), .lit (.int .u8 b)] := by
  cases fuel with
  | zero => simp [DataW.trod] at h
  | succ fuel =>
    simp only [DataW.trod, Tryd.underlying121, cells121, cells5] at h
    split at h
    · rename_i hl
      obtain ⟨c0, c1, rfl⟩ : ∃ c0 c1, l = [c0, c1] := by
        match l, hl with
        | [a, b], _ => exact ⟨a, b, rfl⟩
      have e : List.range 2 = [0, 1] := rfl
      rw [e] at h
      simp only [Option.map_eq_some_iff, List.mapM_cons, List.mapM_nil, Option.bind_eq_bind, Option.bind_eq_some_iff, Option.pure_def, Option.some.injEq] at h
      obtain ⟨xs, ⟨y0, h0, _, ⟨y1, h1, _, rfl, rfl⟩, rfl⟩, hx⟩ := h
      obtain ⟨n0, rfl, rfl⟩ := int_of_trod u8At h0
      obtain ⟨n1, rfl, rfl⟩ := int_of_trod u8At h1
      exact ⟨n0, n1, rfl, by rw [← hx]; rfl⟩
    · cases h

theorem cells_of_laid {W : World} (h : laidMet Tryd.prog [("aloeswood/chart.signs", Rows.laid_aloeswood_chart_signs)] W) : W.var? Tryd.prog "aloeswood/chart.signs" = some signs := by
  obtain ⟨ps, ⟨g, t, cs, fuel, p, q, hg, ht, hvar, hd, _, _⟩, _⟩ := h
  obtain rfl := Option.some.inj (signsAt.symm.trans hg)
  obtain rfl := Option.some.inj (signsType.symm.trans ht)
  rw [hvar]
  congr 1
  obtain ⟨l⟩ := cs
  cases fuel with
  | zero => simp [DataW.trod] at hd
  | succ fuel =>
    simp only [DataW.trod, Tryd.underlying122, cells122, cells121] at hd
    split at hd
    · rename_i hl
      obtain ⟨c0, c1, c2, c3, c4, c5, rfl⟩ : ∃ c0 c1 c2 c3 c4 c5, l = [c0, c1, c2, c3, c4, c5] := by
        match l, hl with
        | [a, b, c, d, e, f], _ => exact ⟨a, b, c, d, e, f, rfl⟩
      have e : List.range 3 = [0, 1, 2] := rfl
      rw [e] at hd
      simp only [Option.map_eq_some_iff, List.mapM_cons, List.mapM_nil, Option.bind_eq_bind, Option.bind_eq_some_iff, Option.pure_def, Option.some.injEq] at hd
      obtain ⟨xs, ⟨y0, h0, _, ⟨y1, h1, _, ⟨y2, h2, _, rfl, rfl⟩, rfl⟩, rfl⟩, hx⟩ := hd
      obtain ⟨a0, b0, e0, f0⟩ := pair_of_trod h0
      obtain ⟨a1, b1, e1, f1⟩ := pair_of_trod h1
      obtain ⟨a2, b2, e2, f2⟩ := pair_of_trod h2
      simp only [List.drop_zero, Nat.zero_mul, Nat.one_mul, Nat.reduceMul, List.drop_succ_cons, List.take_succ_cons, List.take_zero, List.cons.injEq, and_true] at e0 e1 e2
      obtain ⟨rfl, rfl⟩ := e0
      obtain ⟨rfl, rfl⟩ := e1
      obtain ⟨rfl, rfl⟩ := e2
      simp [Rows.laid_aloeswood_chart_signs, f0, f1, f2] at hx
      obtain ⟨⟨⟨rfl, rfl⟩, ⟨rfl, rfl⟩, rfl, rfl⟩, _⟩ := hx
      rfl
    · cases hd

abbrev laidL : List (String × DataW Unit) := [("aloeswood/chart.signs", Rows.laid_aloeswood_chart_signs)]

/-- A world in which the table is laid. -/
noncomputable def laidWorld (os : Os) : World :=
  { World.holding Tryd.prog os ⟨#[], #[], []⟩ with heap := (World.holding Tryd.prog os ⟨#[], #[], []⟩).heap.modify 0 fun
      | .cells _ t frozen => .cells signs t frozen
      | o => o }
theorem laidWorld_row (os : Os) (args : Array Value) : ((laidWorld os).forCall (fun _ _ => 0) ⟨#[], args, []⟩).memory.heap[0]? = some (.cells signs 122 (0, 0)) := by kernel_rfl
set_option maxRecDepth 100000 in
theorem laidWorld_met (os : Os) (args : Array Value) : laidMet Tryd.prog laidL ((laidWorld os).forCall (fun _ _ => 0) ⟨#[], args, []⟩).memory :=
  ⟨_, ⟨0, 122, signs, 8, [], [], by kernel_rfl, by kernel_rfl, by kernel_rfl, by kernel_rfl, rfl, rfl⟩, by decide, fun b off h => by
        have h' : MemPlace.cell b off ∈ [MemPlace.cell 0 0, .cell 0 1, .cell 0 2, .cell 0 3, .cell 0 4, .cell 0 5] := h
        have hb : b = 0 := by
          simp at h'
          omega
        subst hb
        refine ⟨⟨_, _, laidWorld_row os args⟩, fun u v hc => ?_⟩
        simp only [World.cell?, laidWorld_row os args] at hc
        simp at h'
        rcases h' with rfl | rfl | rfl | rfl | rfl | rfl <;> simp [signs] at hc⟩
theorem begins : Tryd.prog.globals.size < (begin Tryd.prog (fun _ _ => 0) default).world.heap.size := Nat.lt_of_lt_of_le (Nat.lt_succ_self _) (Nat.le_of_ble_eq_true (by kernel_rfl))

set_option maxRecDepth 100000 in
/-- A row's step: from what a call does in each world in which the table is laid. -/
theorem lift {os : Os} {f : FuncId} {fn : Func} {s : ChangeSpec} {H : Type} {enc : TypeId × Value → H} (started : os.Started) (noInit : Tryd.prog.inits.idxOf? f = none) (hfn : Tryd.prog.funcs[f]? = some fn)
    (witness : ∃ (w : World) (tape : Tape) (i : Input), w.os = os ∧ (w.forCall tape i).Shaped Tryd.prog ∧ i.vars = [] ∧ Input.okWide Tryd.prog (w.forCall tape i) .any w.heap.size f i ∧
      ((s.pre enc Tryd.prog fn [] false (w.forCall tape i).memory i.args ∧ laidMet Tryd.prog laidL (w.forCall tape i).memory) ∧ sizedMet enc Tryd.prog fn (OpenSpec.ofChange s) false (w.forCall tape i).memory i.args) ∧ ({} : Assume).holds Tryd.prog (lone (Frame.enter Tryd.prog f i.args .normal) [] (w.forCall tape i)))
    (contract : ∀ (W : World) (base : Nat) (args : Array Value) (ds gs : List (DataW H)) (before : List MemPlace), 4 ≤ W.heap.size →
      (∀ (j : Nat) t v, fn.params[j]? = some t → args[j]? = some v → Value.okWide Tryd.prog W .any base t v) →
      DataW.Whole enc Tryd.prog fn.params.toList s.vars false W args.toList ds gs before → laidMet Tryd.prog laidL W →
      Calls Tryd.prog f args W fun e W' => ∃ v, e = .returned v ∧ s.post enc Tryd.prog fn false true false false W args v W') :
    ReturnsInHanded {} Tryd.checked os f .any (fun w args => (s.pre enc Tryd.prog fn [] false w args ∧ laidMet Tryd.prog laidL w) ∧ sizedMet enc Tryd.prog fn (OpenSpec.ofChange s) false w args) (s.post enc Tryd.prog fn false true false false) := by
  refine returnsInHanded_of_calls (C := Tryd.checked) own started noInit witness ?_
  intro w tape i _ hsh _ hok hpre _
  obtain ⟨_, _, _, fn', hfn', _, _, _, _, hval⟩ := hok
  have e : fn' = fn := Option.some.inj (hfn'.symm.trans hfn)
  subst e
  obtain ⟨⟨⟨ds, gs, before, hw, _⟩, hx⟩, _⟩ := hpre
  have hw' := DataW.Whole.of_heap (w' := w.forCall tape i) (by rfl) hw
  have hbig : 4 ≤ (w.forCall tape i).heap.size := by
    obtain ⟨o, _, ho, _⟩ := hsh.2 Tryd.prog.globals.size (Nat.le_refl _) begins
    have : Tryd.prog.globals.size < (w.forCall tape i).heap.size := (Array.getElem?_eq_some_iff.1 ho).1
    rw [nglobs] at this; omega
  refine (contract (w.forCall tape i) w.heap.size i.args ds gs before hbig hval hw' (laidMet.of_heap (by rfl) hx)).mono fun e W' ⟨v, he, hp⟩ => ?_
  subst he
  exact ChangeSpec.post_blind hp
end Go.Proofs.YtkfaiokiaahbaaaDoor

/- What the globals are seen as. -/
namespace Go.Proofs.YtkfaiokiaahbaaaDoor
open Go.AI Go.ChangeShapes Go.WideShapes Go.ChangeAt Go.RowKit

/-- What the globals are seen as. -/
def seenG : List Seen := [⟨⟨0, 0, 0⟩, .cells ([32,45,124,111,124,120].map fun n => Value.int .u8 n) 0 0⟩, ⟨⟨1, 0, 0⟩, .gone⟩, ⟨⟨2, 0, 0⟩, .gone⟩, ⟨⟨3, 0, 0⟩, .gone⟩]
theorem seenG_hr {W : World} (hbig : 4 ≤ W.heap.size) (hL : laidMet Tryd.prog laidL W) (l : List Seen) (hB : ∀ s ∈ l, s.ent.blk < W.heap.size) (hc : ∀ s ∈ l, calm s.obj = true)
    (ho : ∀ s ∈ l, ∀ cs e k, s.obj = .cells cs e k → ∀ (i : Nat) v, cs[i]? = some v → W.cell? ⟨s.ent.blk, s.ent.base + i, none⟩ = some v) : HR Tryd.prog W.heap.size (seenR (seenG ++ l)) (seenH (seenG ++ l)) W := by
  refine seen_hr (seenG ++ l) ?_ ?_ ?_ ?_
  · intro s hs
    rcases List.mem_append.1 hs with hs | hs
    · simp only [seenG, List.mem_cons, List.not_mem_nil, or_false] at hs
      rcases hs with rfl | rfl | rfl | rfl
      · show 0 < _; omega
      · show 1 < _; omega
      · show 2 < _; omega
      · show 3 < _; omega
    · exact hB s hs
  · intro s hs
    rcases List.mem_append.1 hs with hs | hs
    · simp only [seenG, List.mem_cons, List.not_mem_nil, or_false] at hs
      rcases hs with rfl | rfl | rfl | rfl <;> rfl
    · exact hc s hs
  · intro s hs
    rcases List.mem_append.1 hs with hs | hs
    · simp only [seenG, List.mem_cons, List.not_mem_nil, or_false] at hs
      rcases hs with rfl | rfl | rfl | rfl
      · intro cs e k hcs i v hv
        cases hcs
        have h1 := World.var?_cell signsAt (cells_of_laid hL) i
        have : signs[i]? = some v := by
          rw [← hv]; simp [signs]
        simpa [this] using h1
      all_goals (intro cs e k h; cases h)
    · exact ho s hs
  · intro g hg
    rw [nglobs] at hg
    match g, hg with
    | 0, _ => exact ⟨0, rfl⟩
    | 1, _ => exact ⟨0, rfl⟩
    | 2, _ => exact ⟨0, rfl⟩
    | 3, _ => exact ⟨0, rfl⟩
theorem seenG_base (l : List Seen) : Base (seenH (seenG ++ l)) := by
  refine ⟨by rw [seen_n]; simp [seenG], fun b o hb => ?_⟩
  rw [seenH, base_get]
  match b, hb with
  | 0, hb => exact hb
  | 1, hb => exact hb
  | 2, hb => exact hb
  | 3, hb => exact hb
  | b + 4, hb => simp [globs] at hb

end Go.Proofs.YtkfaiokiaahbaaaDoor
