/- Several texts in one. -/
import Derived.Test.YtkfaiokiaahbaaaDoorX2
set_option linter.unusedVariables false
set_option linter.unusedSimpArgs false
/- The abstract machine and the model: code, and calls. -/
namespace Go.AI
open Go.RowKit

/-- The fence that lets everything in; within a round, or without. -/
def Fr (r : Option Nat) : Fence := { fn := fun _ => True, depth := none, alive := false, round := r }
theorem Fr_room (r : Option Nat) (k : Nat) : (Fr r).room k := fun d hd => by cases hd
theorem Fr_none : Fr none = Fence.wide := rfl

section
variable {P : Program} {B : Nat}

/-- A loop within a round. -/
theorem run_enterIn {w : World} {l₀ : Nat} {r₀ : Loop} (h : w.heap[l₀]? = some (.loop r₀)) (fn : FuncId) (tmps : Array Value) (ps : Array Tmp) (x y : Code) :
    (Instr.enterLoop fn tmps ps x y (some l₀)).run P w =
      .ok (w.heap.size, []) (w.alloc (.loop { state := .ready, pending := none, fn, tmps, params := ps, assign := x, body := y, defers := r₀.defers })) := by
  simp only [Instr.enterLoop, Sem.run_bind, run_getLoop h, Result.andThen, Sem.run_pure, run_newObj_alloc]
/-- A call, or a round. -/
def CalIn (P : Program) (k : Nat) (ρ : Ren) : Cal → Array Value → World → (Ending → World → Prop) → Prop
  | .fn f, args, w, R => CallsIn Fence.wide k P f args w R
  | .rnd b, args, w, R => ∀ e, ρ b = some e → ∃ fn tmps x y, (Instr.yield e.blk args).run P w = .ok (.round e.blk fn tmps x y) w ∧ RoundIn Fence.wide k P e.blk fn tmps x y w R
def isFn : Cal → Bool
  | .fn _ => true
  | .rnd _ => false
/-- What a call of the abstract machine says of the model's. -/
def CallOK (P : Program) (B : Nat) (cf : CallF) : Prop :=
  ∀ c l H v H' lo, cf c l H = some (v, H', lo) → ∀ ρ w (args : Array Value) (k : Nat), HR P B ρ H w → L2 (VT ρ) l args.toList →
    (isFn c = true ∨ lo < H.n) ∧ CalIn P k ρ c args w (fun e w' => ∃ ρ' v', e = .returned v' ∧ VT ρ' v v' ∧ HR P B ρ' H' w' ∧ Ext B ρ ρ' lo w w')

/-- The marks that ranges over functions have left among the deferred calls: each names a block of its own, which hands over no call. -/
def Marks (mb : Nat) (ρ : Ren) (ds : List Deferred) (w : World) : Prop :=
  ∃ rs : List Nat, ds = rs.map (fun r => { target := .collected r, args := #[] }) ∧ rs.Nodup ∧ ∀ r ∈ rs, mb ≤ r ∧ w.heap[r]? = some (.deferred (some [])) ∧ ∀ b e, ρ b = some e → e.blk ≠ r
theorem Marks.nil (mb : Nat) (ρ : Ren) (w : World) : Marks mb ρ [] w := ⟨[], rfl, .nil, fun r h => by cases h⟩
theorem Marks.ext {mb lo : Nat} {ρ ρ' : Ren} {ds : List Deferred} {w w' : World} (h : Marks mb ρ ds w) (he : Ext B ρ ρ' lo w w') : Marks mb ρ' ds w' := by
  obtain ⟨rs, h1, h2, h3⟩ := h
  refine ⟨rs, h1, h2, fun r hr => ?_⟩
  obtain ⟨h4, h5, h6⟩ := h3 r hr
  have hlt : r < w.heap.size := (Array.getElem?_eq_some_iff.1 h5).1
  refine ⟨h4, by rw [he.block r hlt fun b e _ hb _ => h6 b e hb]; exact h5, fun b e hb => ?_⟩
  cases hρ : ρ b with
  | some e' =>
    have := he.le _ _ hρ
    rw [hb] at this; cases this
    exact h6 b e hρ
  | none =>
    rcases he.fresh b e hρ hb with h7 | ⟨b0, e0, _, h8, _, h9⟩
    · omega
    · rw [← h9]; exact h6 b0 e0 h8

structure RS (P : Program) (B : Nat) (ρ0 : Ren) (w0 : World) (mb n : Nat) (ρ : Ren) (st : St) (a : Act) (w : World) : Prop where
  hr : HR P B ρ st.heap w
  fr : FR ρ st.tmps a
  size : a.tmps.size = n
  ext : Ext B ρ0 ρ st.lo w0 w
  marks : Marks mb ρ a.defers w

theorem put_defers (a : Act) (d : Option Tmp) (v : Value) : (a.put d v).defers = a.defers := by
  unfold Act.put; cases d <;> rfl
theorem RS.below {ρ0 ρ : Ren} {w0 w w' : World} {mb n : Nat} {st : St} {a : Act} (h : RS P B ρ0 w0 mb n ρ st a w) (hb : Below w.heap.size w w') : RS P B ρ0 w0 mb n ρ st a w' :=
  ⟨h.hr.below hb, h.fr, h.size, (by have := h.ext.trans (Ext.of_below (B := B) (ρ := ρ) st.lo hb); simpa using this), h.marks.ext (Ext.of_below (B := B) (ρ := ρ) 0 hb)⟩

theorem vt_isbool {ρ : Ren} {v v' : Value} (h : VT ρ v v') (b : Bool) : v = .bool b ↔ v' = .bool b := by
  constructor
  · intro e; subst e; exact vt_bool h
  · intro e; subst e
    cases h with
    | one h => cases h with
      | cell h => cases h with
        | same _ => rfl

theorem yielded_eq {ρ : Ren} {tm : Tm} {a : Act} (hF : FR ρ tm a) (ops : Array Oper) (j : Nat) : yieldedL ops.toList tm j = yielded ops a.tmps j := by
  unfold yieldedL yielded
  rw [Array.getElem?_toList]
  cases ops[j]? with
  | none => rfl
  | some o =>
    simp only [Option.bind_some]
    cases o.dst with
    | none => rfl
    | some d =>
      simp only [Option.bind_some]
      have h := hF.at_ d
      have hg : a.tmps.getD d undef = (a.tmps[d]?).getD undef := by simp [Array.getD_eq_getD_getElem?]
      rw [hg] at h
      cases ht : a.tmps[d]? with
      | none =>
        rw [ht] at h
        simp only [Option.getD_none] at h
        split
        · rename_i b hb
          have := (vt_isbool h b).1 hb
          cases this
        · rfl
      | some u =>
        rw [ht] at h
        simp only [Option.getD_some] at h
        cases u with
        | bool b => rw [(vt_isbool h b).2 rfl]
        | _ =>
          split
          · rename_i b hb
            have := (vt_isbool h b).1 hb
            cases this
          · rfl

theorem wanted_eq {ρ : Ren} {tm : Tm} {a : Act} (hF : FR ρ tm a) (ops : Array Oper) (o : Oper) : wantedL ops.toList tm o = Region.wanted o (yielded ops a.tmps) := by
  unfold wantedL Region.wanted
  cases o.guard with
  | none => rfl
  | some g => obtain ⟨j, want⟩ := g; simp only [yielded_eq hF]

theorem FR.put {ρ : Ren} {tm : Tm} {a : Act} {v v' : Value} {o : Oper} (hF : FR ρ tm a) (hd : dstOk a.tmps.size o = true) (hv : VT ρ v v') : FR ρ (putL tm o.dst v) (a.put o.dst v') := by
  unfold putL Act.put
  cases hdst : o.dst with
  | none => exact hF
  | some d =>
    have hlt : d < a.tmps.size := by simpa [dstOk, hdst] using hd
    refine ⟨fun i => ?_, hF.none⟩
    simp only
    by_cases hdi : d = i
    · subst hdi
      rw [Tm.at_set_eq]
      simp [Array.getD_eq_getD_getElem?, hlt]
      exact hv
    · rw [Tm.at_set_ne _ _ hdi]
      have := hF.at_ i
      simpa [Array.getD_eq_getD_getElem?, Array.getElem?_setIfInBounds, hdi] using this
theorem put_size (a : Act) (d : Option Tmp) (v : Value) : (a.put d v).tmps.size = a.tmps.size := by
  unfold Act.put; cases d <;> simp

theorem calleeOf_sound {ρ : Ren} {H : Heap} {w : World} {tm : Tm} {a : Act} {g : Operand} {xs : Array Operand} {f : FuncId} {l : List Value} (hH : HR P B ρ H w) (hF : FR ρ tm a) (h : calleeOf P tm g xs = some (f, l)) :
    ∃ (cap' : Array Value) (l' : List Value) (cap : Array Value), a.eval g = .func (.func f) #[] cap' ∧ evs P tm xs.toList = some l' ∧ l = l' ++ cap.toList ∧ L2 (VT ρ) cap.toList cap'.toList ∧ (∀ (args : Array Value) (w : World), (callFunc f args).run P w = .ok (.enter f args) w) := by
  unfold calleeOf at h
  split at h
  · rename_i f' first cap hev
    split at h
    · rename_i h0
      split at h
      · rename_i fn hfn
        split at h
        · rename_i hb
          split at h <;> cases h
          rename_i l' hl
          obtain ⟨cap', e1, h2⟩ := vt_fn (ev_sound hH hF hev) h0
          have hbody : ¬ fn.body = none := fun hh => by rw [hh] at hb; simp at hb
          exact ⟨cap', l', cap, e1, hl, rfl, h2, fun args w => by simp [callFunc, hfn, hbody, hb.2]⟩
        · cases h
      · cases h
    · cases h
  · cases h
/-- A call that is seen as one. -/
theorem callOf_sound {ρ : Ren} {H : Heap} {w : World} {tm : Tm} {a : Act} {o : Oper} {c : Cal} {l : List Value} (hH : HR P B ρ H w) (hF : FR ρ tm a) (h : callOf P tm o = some (c, l)) :
    ∃ args : Array Value, L2 (VT ρ) l args.toList ∧ (match c with
      | .fn f => ∀ w1, (execOp a.eval o).run P w1 = .ok (.enter f args) w1
      | .rnd b => ∃ e, ρ b = some e ∧ ∀ w1, (execOp a.eval o).run P w1 = (Instr.yield e.blk args).run P w1) := by
  unfold callOf at h
  split at h
  · rename_i cl hop
    split at h
    · rename_i g hg
      unfold calOf at h
      split at h
      · rename_i f l0 hcal
        cases h
        obtain ⟨cap', l', cap, e1, hl, rfl, h2, h3⟩ := calleeOf_sound hH hF hcal
        have h4 := evs_sound hH hF _ _ hl
        refine ⟨cl.args.map a.eval ++ cap', by simpa using h4.append h2, fun w1 => ?_⟩
        simp [execOp, hop, resolve, hg, e1, Deferred.ofValue, invoke, h3]
      · split at h
        · rename_i b l0 hr
          cases h
          unfold rndOf at hr
          split at hr
          · rename_i b' first cap hev
            split at hr
            · rename_i h0
              split at hr
              · rename_i vs hl
                cases hr
                obtain ⟨e, h1, h2⟩ := vt_yld (ev_sound hH hF hev)
                have h4 := evs_sound hH hF _ _ hl
                refine ⟨cl.args.map a.eval, by simpa using h4, e, h1, fun w1 => ?_⟩
                simp [execOp, hop, resolve, hg, h2, Deferred.ofValue, invoke]
              · cases hr
            · cases hr
          · cases hr
        · cases h
    · cases h
  · cases h

theorem noDefer_of {cf : CallF} {tm : Tm} {H : Heap} {o : Oper} {r : Res} (h : step P cf tm H o = some r) : noDefer o := by
  intro c hc
  unfold step callOf at h
  simp only [hc] at h
  simp [step1, hc] at h

/-- One operation. -/
theorem step_sound {cf : CallF} (hcf : CallOK P B cf) {ρ0 ρ : Ren} {w0 w : World} {mb n : Nat} {st : St} {a : Act} {o : Oper} {v : Value} {H' : Heap} {lo : Nat} (hd : dstOk n o = true) (h : RS P B ρ0 w0 mb n ρ st a w) (hs : step P cf st.tmps st.heap o = some (v, H', lo))
    (r : Option Nat) (k : Nat) (next : Act → World → Prop) (Q : Exit → Act → World → Prop)
    (hn : ∀ ρ' a' w', RS P B ρ0 w0 mb n ρ' ⟨putL st.tmps o.dst v, H', min st.lo lo⟩ a' w' → next a' w') : o.wpIn (Fr r) k P a w next Q := by
  refine ⟨fun _ _ => trivial, ?_⟩
  rw [semAt_of (noDefer_of hs)]
  unfold step at hs
  split at hs
  · rename_i c l hcall
    obtain ⟨args, h1, h2⟩ := callOf_sound h.hr h.fr hcall
    have hc := (hcf c l st.heap v H' lo hs ρ w args (k - 1) h.hr h1).2
    have fin : ∀ ρ' v' w', VT ρ' v v' → HR P B ρ' H' w' → Ext B ρ ρ' lo w w' → next (a.put o.dst v') w' := fun ρ' v' w' h3 h4 h5 =>
      hn ρ' _ w' ⟨h4, (h.fr.mono h5.le).put (by rw [h.size]; exact hd) h3, by rw [put_size]; exact h.size, h.ext.trans h5, by rw [put_defers]; exact h.marks.ext h5⟩
    cases c with
    | fn f =>
      rw [h2 w]
      exact ⟨fun hh => (by cases hh), (show CallsIn (Fr r) (k - 1) P f args w _ from hc).mono (by rintro e w' ⟨ρ', v', rfl, h3, h4, h5⟩; exact fin ρ' v' w' h3 h4 h5)⟩
    | rnd b =>
      obtain ⟨e, he, h3⟩ := h2
      obtain ⟨fn, tmps, x, y, h4, h5⟩ := hc e he
      rw [h3 w, h4]
      exact ⟨fun hh => (by cases hh), (show RoundIn (Fr r) (k - 1) P e.blk fn tmps x y w _ from h5).mono (by rintro e w' ⟨ρ', v', rfl, h3, h4, h5⟩; exact fin ρ' v' w' h3 h4 h5)⟩
  · obtain ⟨ρ', nx, v', w', h1, h2, h3, h4, h5⟩ := step1_sound h.hr h.fr hs
    rw [h1]
    have := hn ρ' (a.put o.dst v') w' ⟨h4, (h.fr.mono h5.le).put (by rw [h.size]; exact hd) h3, by rw [put_size]; exact h.size, h.ext.trans h5, by rw [put_defers]; exact h.marks.ext h5⟩
    rcases h2 with rfl | ⟨rfl, rfl⟩
    · exact this
    · exact this

/-- Operations in the text's order. -/
theorem opsL_sound {cf : CallF} (hcf : CallOK P B cf) {ρ0 : Ren} {w0 : World} {mb n : Nat} (ops : Array Oper) (hd : ∀ (i : Nat) (o : Oper), ops[i]? = some o → dstOk n o = true) (r : Option Nat) (kf : Nat) (Q : Exit → Act → World → Prop) (st' : St)
    (hQ : ∀ ρ' a' w', RS P B ρ0 w0 mb n ρ' st' a' w' → Q .normal a' w') : ∀ (l : List Oper) (k : Nat) (st : St) (ρ : Ren) (a : Act) (w : World), (∀ j, l[j]? = ops[k + j]?) → RS P B ρ0 w0 mb n ρ st a w → opsL P cf ops.toList l st = some st' →
    wpOpsIn (Fr r) kf P ops Q (List.range' k l.length) a w
  | [], k, st, ρ, a, w, _, h, hs => by
    simp only [opsL, Option.some.injEq] at hs
    subst hs
    exact hQ ρ a w h
  | o :: l, k, st, ρ, a, w, hl, h, hs => by
    have h0 : ops[k]? = some o := by simpa using (hl 0).symm
    have hl' : ∀ j, l[j]? = ops[k + 1 + j]? := fun j => by have := hl (j + 1); simpa [Nat.add_assoc, Nat.add_comm 1 j] using this
    rw [List.length_cons, List.range'_succ, wpOpsIn_cons]
    unfold wpOpIn
    simp only [h0]
    simp only [opsL, wanted_eq h.fr ops o] at hs
    split at hs
    · rename_i hw
      rw [if_pos hw]
      split at hs
      · rename_i v H' lo hst
        exact step_sound hcf (hd k o h0) h hst r kf _ _ fun ρ' a' w' h' => opsL_sound hcf ops hd r kf Q st' hQ l (k + 1) _ ρ' a' w' hl' h' hs
      · cases hs
    · rename_i hw
      rw [if_neg hw]
      refine ⟨fun _ _ => trivial, opsL_sound hcf ops hd r kf Q st' hQ l (k + 1) { st with tmps := putL st.tmps o.dst undef } ρ _ w hl' ⟨h.hr, h.fr.put (by rw [h.size]; exact hd k o h0) (VT.undef _), by rw [put_size]; exact h.size, h.ext, by rw [put_defers]; exact h.marks⟩ hs⟩

/-- Operations in the text's order, and what comes behind. -/
theorem opsL_mid {cf : CallF} (hcf : CallOK P B cf) {ρ0 : Ren} {w0 : World} {mb n : Nat} (ops : Array Oper) (hd : ∀ (i : Nat) (o : Oper), ops[i]? = some o → dstOk n o = true) (r : Option Nat) (kf : Nat) (Q : Exit → Act → World → Prop) (R : Act → World → Prop) (st' : St)
    (hR : ∀ ρ' a' w', RS P B ρ0 w0 mb n ρ' st' a' w' → R a' w') : ∀ (l : List Oper) (k : Nat) (st : St) (ρ : Ren) (a : Act) (w : World), (∀ j, j < l.length → l[j]? = ops[k + j]?) → RS P B ρ0 w0 mb n ρ st a w → opsL P cf ops.toList l st = some st' →
    wpMid (Fr r) kf P ops Q R (List.range' k l.length) a w
  | [], k, st, ρ, a, w, _, h, hs => by
    simp only [opsL, Option.some.injEq] at hs
    subst hs
    exact hR ρ a w h
  | o :: l, k, st, ρ, a, w, hl, h, hs => by
    have h0 : ops[k]? = some o := by simpa using (hl 0 (by simp)).symm
    have hl' : ∀ j, j < l.length → l[j]? = ops[k + 1 + j]? := fun j hj => by have := hl (j + 1) (by simp; omega); simpa [Nat.add_assoc, Nat.add_comm 1 j] using this
    rw [List.length_cons, List.range'_succ]
    unfold wpMid wpOpIn
    simp only [h0]
    simp only [opsL, wanted_eq h.fr ops o] at hs
    split at hs
    · rename_i hw
      rw [if_pos hw]
      split at hs
      · rename_i v H' lo hst
        exact step_sound hcf (hd k o h0) h hst r kf _ _ fun ρ' a' w' h' => opsL_mid hcf ops hd r kf Q R st' hR l (k + 1) _ ρ' a' w' hl' h' hs
      · cases hs
    · rename_i hw
      rw [if_neg hw]
      refine ⟨fun _ _ => trivial, opsL_mid hcf ops hd r kf Q R st' hR l (k + 1) { st with tmps := putL st.tmps o.dst undef } ρ _ w hl' ⟨h.hr, h.fr.put (by rw [h.size]; exact hd k o h0) (VT.undef _), by rw [put_size]; exact h.size, h.ext, by rw [put_defers]; exact h.marks⟩ hs⟩

/-- The head of a region that draws its order. -/
theorem headL_sound {cf : CallF} (hcf : CallOK P B cf) {ρ0 ρ : Ren} {w0 w : World} {mb n : Nat} (ops : Array Oper) (r : Option Nat) (kf : Nat) (K : Act → Prop) (st' : St)
    (hK : ∀ a', RS P B ρ0 w0 mb n ρ st' a' w → K a') : ∀ (l : List Oper) (st : St) (a : Act), (∀ o ∈ l, quietOp o = true ∧ dstOk n o = true) → RS P B ρ0 w0 mb n ρ st a w → headL P cf ops.toList l st = some st' →
    wpQuietIn (Fr r) kf P ops (fun w' => Below w.heap.size w w') K l a
  | [], st, a, _, h, hs => by
    simp only [headL, Option.some.injEq] at hs
    subst hs
    exact hK a h
  | o :: l, st, a, hl, h, hs => by
    refine ⟨fun _ _ _ _ => trivial, ?_⟩
    simp only [headL, wanted_eq h.fr ops o] at hs
    have hq := hl o (by simp)
    have go : ∀ v v', VT ρ v v' → headL P cf ops.toList l { st with tmps := putL st.tmps o.dst v } = some st' → wpQuietIn (Fr r) kf P ops (fun w' => Below w.heap.size w w') K l (a.put o.dst v') := fun v v' hv hs' =>
      headL_sound hcf ops r kf K st' hK l { st with tmps := putL st.tmps o.dst v } _ (fun o' ho' => hl o' (by simp [ho'])) ⟨h.hr, h.fr.put (by rw [h.size]; exact hq.2) hv, by rw [put_size]; exact h.size, h.ext, by rw [put_defers]; exact h.marks⟩ hs'
    split at hs
    · rename_i hw
      rw [if_pos hw]
      split at hs
      · rename_i c args hcall
        split at hs
        · rename_i v H' lo hc
          split at hs
          · rename_i hp
            obtain ⟨args', h1, h2⟩ := callOf_sound h.hr h.fr hcall
            have hlt := (hcf c args st.heap v H' lo hc ρ w args' 0 h.hr h1).1
            cases c with
            | rnd b => rcases hlt with hlt | hlt
                       · cases hlt
                       · omega
            | fn f =>
            refine ⟨v, fun w1 hb => ?_, go v v (VT.of_plain hp.1) hs⟩
            unfold Oper.quietAtIn
            rw [h2 w1]
            refine ⟨rfl, fun hh => (by cases hh), ?_⟩
            have hH1 := h.hr.below hb
            have hcc := (hcf (.fn f) args st.heap v H' lo hc ρ w1 args' (kf - 1) hH1 h1).2
            refine (show CallsIn (Fr r) (kf - 1) P f args' w1 _ from hcc).mono ?_
            rintro e w2 ⟨ρ', v', rfl, h3, h4, h5⟩
            refine ⟨by rw [h3.plain hp.1], ?_⟩
            exact hb.trans ((h5.below hH1 hp.2).mono hb.size)
          · cases hs
        · cases hs
      · split at hs
        · rename_i v H' lo hst
          obtain ⟨⟨v', h1, h2⟩, _, _⟩ := step1_quiet h.hr h.fr hq.1 hst
          refine ⟨v', fun w1 hb => ?_, go v v' h1 hs⟩
          unfold Oper.quietAtIn
          rw [h2 w1 hb]
          exact ⟨rfl, rfl⟩
        · cases hs
    · rename_i hw
      rw [if_neg hw]
      exact go undef undef (VT.undef _) hs

theorem quietN_noCall {tm : Tm} {o : Oper} (h : quietN o = true) : callOf P tm o = none := by
  simp only [quietN, Bool.and_eq_true, Bool.not_eq_true'] at h
  unfold callOf
  split
  · rename_i c hop
    split
    · rename_i g hg
      obtain ⟨h1, h2⟩ := h
      obtain ⟨cal, args, ats⟩ := c
      simp only at hg
      subst hg
      simp only [quietOp, hop] at h1
      simp only [isCallB, hop] at h2
      rw [h1] at h2; cases h2
    · rfl
  · rfl
theorem wideC_in {md : Region.Mode} {ops : Array Oper} : ∀ (is : List Nat) (listed : Array Bool), wideC md ops is listed = true → ∀ i ∈ is, ∃ o, ops[i]? = some o
  | [], _, _, i, hi => by cases hi
  | j :: is, listed, h, i, hi => by
    simp only [wideC, Bool.and_eq_true, Bool.or_eq_true, decide_eq_true_eq] at h
    rcases List.mem_cons.1 hi with rfl | hi
    · have : i ∈ Region.ready md ops listed := by
        rcases h.1 with h1 | h1
        · rw [h1]; simp
        · simpa using h1.1.2
      obtain ⟨_, o, ho, _⟩ := mem_ready.1 this
      exact ⟨o, ho⟩
    · exact wideC_in is _ h.2 i hi
/-- Operations in a given order, of which none writes what was there before it. -/
theorem opsG_sound {cf : CallF} (hcf : CallOK P B cf) {ρ0 : Ren} {w0 : World} {mb n : Nat} (ops : Array Oper) (hd : ∀ (i : Nat) (o : Oper), ops[i]? = some o → dstOk n o = true) (r : Option Nat) (kf : Nat) (Q : Exit → Act → World → Prop) (st' : St)
    (hQ : ∀ ρ' a' w', RS P B ρ0 w0 mb n ρ' st' a' w' → Q .normal a' w') : ∀ (is : List Nat) (st : St) (ρ : Ren) (a : Act) (w : World), (∀ i ∈ is, ∃ o, ops[i]? = some o) → RS P B ρ0 w0 mb n ρ st a w → opsG P cf ops.toList (pickOps ops.toList is) st = some st' →
    wpG (Fr r) kf P ops (onlyN Q) is a w
  | [], st, ρ, a, w, _, h, hs => by
    simp only [pickOps, opsG, Option.some.injEq] at hs
    subst hs
    exact hQ ρ a w h
  | i :: is, st, ρ, a, w, hin, h, hs => by
    obtain ⟨o, ho⟩ := hin i (by simp)
    have hin' : ∀ i ∈ is, ∃ o, ops[i]? = some o := fun j hj => hin j (by simp [hj])
    have ho' : ops.toList[i]? = some o := by simpa using ho
    simp only [pickOps, ho', opsG, wanted_eq h.fr ops o] at hs
    unfold wpG
    simp only [ho]
    have hlow : ∀ {v : Value} {v' : Value}, VT ρ v v' → RS P B ρ0 w0 mb n ρ ⟨putL st.tmps o.dst v, st.heap, min st.lo st.heap.n⟩ (a.put o.dst v') w := fun hv =>
      ⟨h.hr, h.fr.put (by rw [h.size]; exact hd i o ho) hv, by rw [put_size]; exact h.size, h.ext.lower (Nat.min_le_left _ _), by rw [put_defers]; exact h.marks⟩
    by_cases hq : quietN o = true
    · rw [if_pos hq]
      split at hs
      · rename_i hw
        rw [step, quietN_noCall hq] at hs
        simp only at hs
        split at hs
        · rename_i v H' lo hst
          have hq1 : quietOp o = true := by simp only [quietN, Bool.and_eq_true] at hq; exact hq.1
          obtain ⟨⟨v', h1, h2⟩, rfl, rfl⟩ := step1_quiet h.hr h.fr hq1 hst
          rw [if_pos (Nat.le_refl _)] at hs
          refine ⟨v', fun w' hb => ⟨fun _ _ _ _ => trivial, .inl ⟨hw, fun x hx => ?_⟩⟩, opsG_sound hcf ops hd r kf Q st' hQ is _ ρ _ w hin' (hlow h1) hs⟩
          subst hx
          unfold Oper.quietAtIn
          rw [h2 _ hb]
          exact ⟨rfl, rfl⟩
        · cases hs
      · rename_i hw
        exact ⟨undef, fun w' hb => ⟨fun _ _ _ _ => trivial, .inr ⟨by simpa using hw, rfl⟩⟩, opsG_sound hcf ops hd r kf Q st' hQ is { st with tmps := putL st.tmps o.dst undef } ρ _ w hin' ⟨h.hr, h.fr.put (by rw [h.size]; exact hd i o ho) (VT.undef _), by rw [put_size]; exact h.size, h.ext, by rw [put_defers]; exact h.marks⟩ hs⟩
    · rw [if_neg hq]
      unfold wpOpIn
      simp only [ho]
      split at hs
      · rename_i hw
        rw [if_pos hw]
        split at hs
        · rename_i v H' lo hst
          split at hs
          · rename_i hlo
            have hrel : RS P B ρ w mb n ρ ⟨st.tmps, st.heap, st.heap.n⟩ a w := ⟨h.hr, h.fr, h.size, Ext.refl _ _ _ _, h.marks⟩
            refine step_sound hcf (hd i o ho) hrel hst r kf _ _ fun ρ' a' w' h' => ?_
            have he : Ext B ρ ρ' st.heap.n w w' := by
              have := h'.ext
              simpa only [Nat.min_eq_left hlo] using this
            refine ⟨he.below h.hr (Nat.le_refl _), opsG_sound hcf ops hd r kf Q st' hQ is ⟨putL st.tmps o.dst v, H', min st.lo st.heap.n⟩ ρ' a' w' hin' ⟨h'.hr, h'.fr, h'.size, h.ext.trans he, h'.marks⟩ hs⟩
          · cases hs
        · cases hs
      · rename_i hw
        rw [if_neg hw]
        exact ⟨fun _ _ => trivial, Below.refl _ _, opsG_sound hcf ops hd r kf Q st' hQ is { st with tmps := putL st.tmps o.dst undef } ρ _ w hin' ⟨h.hr, h.fr.put (by rw [h.size]; exact hd i o ho) (VT.undef _), by rw [put_size]; exact h.size, h.ext, by rw [put_defers]; exact h.marks⟩ hs⟩

end
end Go.AI

/- The abstract machine and the model: what the abstract machine computes, the model does. -/
namespace Go.AI
open Go.RowKit
section
variable {P : Program} {B : Nat}

theorem take_takeWhile {α : Type} (p : α → Bool) : ∀ (l : List α) (x : α), x ∈ l.take (l.takeWhile p).length → p x = true
  | [], x, h => by simp at h
  | y :: l, x, h => by
    by_cases hp : p y = true
    · rw [List.takeWhile_cons_of_pos hp] at h
      simp only [List.length_cons, List.take_succ_cons, List.mem_cons] at h
      rcases h with rfl | h
      · exact hp
      · exact take_takeWhile p l x h
    · rw [List.takeWhile_cons_of_neg hp] at h
      simp at h

theorem stepR_scope {b : Frame} {a : Act} {k : List Item} {cs : List Frame} {w : World} {c : Code} : Go.step P (lone (b.atR a (.code (.scope c) :: k)) cs w) = .next (lone (b.atR a (.code c :: .inScope c :: k)) cs w) :=
  step_lone_go (by simp [stepG, stepG.exec, Frame.atR])
theorem stepR_inScope {b : Frame} {a : Act} {k : List Item} {cs : List Frame} {w : World} {c : Code} : Go.step P (lone (b.atR a (.inScope c :: k)) cs w) = .next (lone (b.atR a k) cs w) :=
  step_lone_go (by simp [stepG, stepG.exec, Frame.atR])
theorem wpIn_scope {F : Fence} {n : Nat} {Q : Exit → Act → World → Prop} {a : Act} {w : World} {c : Code} (h : c.wpIn F n P (Exit.noGoto Q) a w) : (Code.scope c).wpIn F n P Q a w := by
  intro b k cs hro hb hr
  have h0 : (lone (b.atR a (.code (.scope c) :: k)) cs w).fenced P F := fenced_calm hb hr rfl
  obtain ⟨e, a₁, w₁, hq, harr⟩ := h b (.inScope c :: k) cs hro hb hr
  cases e with
  | normal => exact ⟨.normal, a₁, w₁, hq, .head h0 stepR_scope (StepsIn.trans harr (.one (fenced_calm hb hr rfl) stepR_inScope))⟩
  | exit id =>
    have hx : exitTo id (.inScope c :: k) = exitTo id k := by simp [exitTo]
    exact ⟨.exit id, a₁, w₁, hq, fun k' hk => .head h0 stepR_scope (harr.1 k' (by rw [hx]; exact hk)),
      fun hr' hk => let ⟨k₁, h1, h2⟩ := harr.2 hr' (by rw [hx]; exact hk); ⟨k₁, h1, .head h0 stepR_scope h2⟩⟩
  | goto l => exact hq.elim
  | ret => exact ⟨_, a₁, w₁, hq, .of_steps (.one h0 stepR_scope) harr⟩
  | panic ch => exact ⟨_, a₁, w₁, hq, .of_steps (.one h0 stepR_scope) harr⟩
  | outgrown => exact ⟨_, a₁, w₁, hq, .of_steps (.one h0 stepR_scope) harr⟩


theorem loopEnd_spec {l : Nat} {tm : Tm} {lo : Nat} {H : Heap} {e : Exit} {st' : St} (h : loopEnd l tm lo H = some (e, st')) :
    ∃ s pend tm' ps a b, H.get l = some (.loop s pend tm' ps a b) ∧ s ≠ .busy ∧ jumpOf pend = some e ∧ st' = ⟨tm, H.set l (.loop .exhausted pend tm' ps a b), lo⟩ := by
  unfold loopEnd at h
  split at h
  · rename_i s pend tm' ps a b hg
    split at h
    · rename_i hs
      split at h
      · rename_i e' hj
        cases h
        exact ⟨s, pend, tm', ps, a, b, hg, fun hh => by subst hh; simp [notBusy] at hs, hj, rfl⟩
      · cases h
    · cases h
  · cases h
/-- The record of a loop is written. -/
theorem HR.putLoop {ρ : Ren} {H : Heap} {w : World} (h : HR P B ρ H w) {b : Nat} {s s' : LoopState} {pend pend' : Option Code} {tm : Tm} {ps : Array Tmp} {x y : Code} {e : Ent} (hg : H.get b = some (.loop s pend tm ps x y)) (hρ : ρ b = some e) :
    ∃ r : Loop, w.heap[e.blk]? = some (.loop r) ∧ (r.state = s ∧ r.pending = pend ∧ r.params = ps ∧ r.assign = x ∧ r.body = y) ∧
      HR P B ρ (H.set b (.loop s' pend' tm ps x y)) (w.putObj e.blk (.loop { r with state := s', pending := pend' })) ∧ Ext B ρ ρ b w (w.putObj e.blk (.loop { r with state := s', pending := pend' })) := by
  obtain ⟨hB, r, hr, ⟨h1, h2, h3, h4, h5⟩, h6, h7, h8, h9⟩ := h.obj b _ e hg hρ
  have hlt := (Array.getElem?_eq_some_iff.1 hr).1
  refine ⟨r, hr, ⟨h1, h2, h3, h4, h5⟩, h.write hg hρ rfl hB rfl rfl rfl World.putObj_size (fun k hk => World.putObj_heap_other hk) ⟨hB, _, World.putObj_heap_same hlt, ⟨rfl, rfl, h3, h4, h5⟩, h6, h7, h8, h9⟩ (fun _ => ⟨_, World.putObj_heap_same hlt⟩)⟩

theorem exec_sound {cf : CallF} (hcf : CallOK P B cf) (hm : P.follows .mixedOrders = true) {mb n : Nat} {ρ0 : Ren} {w0 : World} (r : Option Nat) (hlr : ∀ l0, r = some l0 → ∃ lp : Loop, w0.heap[l0]? = some (Obj.loop lp)) (hmb : mb ≤ w0.heap.size) (m : Nat) : ∀ (k : Nat) (c : Code) (st : St) (e : Exit) (st' : St), exec P cf k c st = some (e, st') → codeOk n c = true →
    ∀ (ρ : Ren) (a : Act) (w : World), RS P B ρ0 w0 mb n ρ st a w → ∀ (Q : Exit → Act → World → Prop), (∀ ρ' a' w', RS P B ρ0 w0 mb n ρ' st' a' w' → Q e a' w') → c.wpIn (Fr r) m P Q a w := by
  intro k
  induction k using Nat.strongRecOn with
  | _ k0 ih0 =>
    cases k0 with
    | zero => intro c st e st' h; simp [exec] at h
    | succ k =>
    have ih := ih0 k (Nat.lt_succ_self k)
    intro c st e st' h hok ρ a w hR Q hQ
    cases c with
    | skip => simp only [exec, Option.some.injEq, Prod.mk.injEq] at h; obtain ⟨rfl, rfl⟩ := h; exact wpIn_skip (hQ _ _ _ hR)
    | label l => simp only [exec, Option.some.injEq, Prod.mk.injEq] at h; obtain ⟨rfl, rfl⟩ := h; exact wpIn_label (hQ _ _ _ hR)
    | exit id => simp only [exec, Option.some.injEq, Prod.mk.injEq] at h; obtain ⟨rfl, rfl⟩ := h; exact wpIn_exit (hQ _ _ _ hR)
    | ret => simp only [exec, Option.some.injEq, Prod.mk.injEq] at h; obtain ⟨rfl, rfl⟩ := h; exact wpIn_ret (hQ _ _ _ hR)
    | region id ops draw =>
      simp only [codeOk, Bool.and_eq_true] at hok
      have hd : ∀ (i : Nat) (o : Oper), ops[i]? = some o → dstOk n o = true := fun i o ho => List.all_eq_true.1 hok.1 o (by
        have : ops.toList[i]? = some o := by simpa using ho
        exact List.mem_of_getElem? this)
      cases draw with
      | false =>
        simp only [exec, Bool.false_eq_true, if_false] at h
        split at h
        · rename_i st1 hs
          cases h
          refine wpIn_region ?_
          have := opsL_sound hcf ops hd r m Q st' hQ ops.toList 0 st ρ a w (fun j => by simp) hR hs
          simpa [List.range_eq_range'] using this
        · cases h
      | true =>
        simp only [exec, if_true, drawX] at h
        cases hws : wideSel ops.toList with
        | true =>
        have hwide : wideB .any ops = true := by
          have := hok.2
          rw [hws] at this
          simpa using this
        rw [hws, cond_true] at h
        split at h
        · rename_i st1 hs
          cases h
          have hwb := hwide
          simp only [wideB, Bool.and_eq_true] at hwb
          have hnd : ∀ (i : Nat) (o : Oper), ops[i]? = some o → noDefer o := fun i o ho c hc => by
            have : ops.toList[i]? = some o := by simpa using ho
            have := List.all_eq_true.1 hwb.1.1.1 o (List.mem_of_getElem? this)
            simp [notDefer, hc] at this
          have hC : Below w.heap.size w { w with drawn := w.drawn + 1 } := (Below.refl _ w).drew
          exact region_wide hnd hm hwide (opsG_sound hcf ops hd r m Q _ hQ _ st ρ a _ (wideC_in _ _ hwb.2) (hR.below hC) hs)
        · cases h
        | false =>
        have hdraw : drawOk ops = true := by
          have := hok.2
          rw [hws] at this
          simpa using this
        rw [hws, cond_false] at h
        simp only [drawOk, Bool.and_eq_true] at hdraw
        have hnd : ∀ (i : Nat) (o : Oper), ops[i]? = some o → noDefer o := fun i o ho c hc => by
          have : ops.toList[i]? = some o := by simpa using ho
          have := List.all_eq_true.1 hdraw.1 o (List.mem_of_getElem? this)
          simp [notDefer, hc] at this
        have hC : Below w.heap.size w { w with drawn := w.drawn + 1 } := (Below.refl _ w).drew
        have hb := hdraw.2
        split at h
        · rename_i st1 hs
          cases h
          unfold drawL at hs
          cases hmid : midOk ops.toList (callLen ops.toList) with
          | true =>
            rw [hmid, cond_true] at hb
            have eM : splitM ops.toList = callLen ops.toList := by unfold splitM; rw [hmid]; rfl
            have eQ : splitQ ops.toList = 1 := by unfold splitQ; rw [hmid]; rfl
            rw [eM, eQ] at hs
            have hhead : ∀ o ∈ ops.toList.take (callLen ops.toList), quietOp o = true ∧ dstOk n o = true := fun o ho => by
              have := take_takeWhile _ ops.toList o ho
              simp only [Bool.and_eq_true] at this
              exact ⟨this.1, List.all_eq_true.1 hok.1 o (List.mem_of_mem_take ho)⟩
            simp only [midOk, Bool.and_eq_true] at hmid
            have hrest : ∀ o ∈ ops.toList.drop (callLen ops.toList + 1), quietOp o = true ∧ dstOk n o = true := fun o ho => by
              have := List.all_eq_true.1 hmid.2 o ho
              simp only [Bool.and_eq_true] at this
              exact ⟨this.1, List.all_eq_true.1 hok.1 o (List.mem_of_mem_drop ho)⟩
            have hsz : callLen ops.toList + 1 ≤ ops.size := by
              simp only [midB, Bool.and_eq_true, decide_eq_true_eq] at hb
              exact hb.1.1.1.2
            split at hs
            · rename_i st2 hh
              split at hs
              · rename_i st3 hh3
                refine region_mid hnd (callLen ops.toList) 0 hm hb hC (headL_sound hcf ops r m _ _ (fun a' h' w' hw' => ?_) _ st a hhead hR hh)
                have hlen : ((ops.toList.drop (callLen ops.toList)).take 1).length = 1 := by simp; omega
                have := opsL_mid hcf ops hd r m Q (restR (Fr r) m P ops Q (callLen ops.toList + (0 + 1))) st3 (fun ρ' a2 w2 h2 =>
                  ⟨fun w3 => Below w2.heap.size w2 w3, Below.refl _ _, headL_sound hcf ops r m _ _ (fun a3 h3 w3 hw3 => hQ ρ' a3 w3 (h3.below hw3)) _ st3 a2 hrest h2 hs⟩)
                  ((ops.toList.drop (callLen ops.toList)).take 1) (callLen ops.toList) st2 ρ a' w' (fun j hj => by
                    rw [hlen] at hj
                    have : j = 0 := by omega
                    subst this
                    simp [List.getElem?_take, List.getElem?_drop]) (h'.below hw') hh3
                rw [hlen] at this
                exact this
              · cases hs
            · cases hs
          | false =>
            rw [hmid, cond_false] at hb
            have eM : splitM ops.toList = headLen ops.toList := by unfold splitM; rw [hmid]; rfl
            have eQ : splitQ ops.toList = ops.toList.length - headLen ops.toList := by unfold splitQ; rw [hmid]; rfl
            have hle : headLen ops.toList ≤ ops.toList.length := by
              unfold headLen
              exact (List.takeWhile_sublist _).length_le
            rw [eM, eQ, show headLen ops.toList + (ops.toList.length - headLen ops.toList) = ops.toList.length by omega, List.drop_length, show (ops.toList.drop (headLen ops.toList)).take (ops.toList.length - headLen ops.toList) = ops.toList.drop (headLen ops.toList) from List.take_of_length_le (by simp)] at hs
            have hhead : ∀ o ∈ ops.toList.take (headLen ops.toList), quietOp o = true ∧ dstOk n o = true := fun o ho =>
              ⟨take_takeWhile quietOp ops.toList o ho, List.all_eq_true.1 hok.1 o (List.mem_of_mem_take ho)⟩
            split at hs
            · rename_i st2 hh
              split at hs
              · rename_i st3 hh3
                simp only [headL, Option.some.injEq] at hs
                subst hs
                split at hb
                · rename_i hlen
                  have hlen' : headLen ops.toList = ops.toList.length := by simpa using hlen
                  rw [hlen'] at hh hh3 hhead
                  rw [List.drop_length] at hh3
                  rw [List.take_length] at hh hhead
                  simp only [opsL, Option.some.injEq] at hh3
                  subst hh3
                  exact region_quiet hnd hm hb hC (headL_sound hcf ops r m _ _ (fun a' h' w' hw' => hQ ρ a' w' (h'.below hw')) ops.toList st a hhead hR hh)
                · rw [Bool.or_eq_true] at hb
                  rcases hb with hb | hb
                  · refine region_tail hnd (headLen ops.toList) hm hb hC (headL_sound hcf ops r m _ _ (fun a' h' w' hw' => ?_) _ st a hhead hR hh)
                    have := opsL_sound hcf ops hd r m Q _ hQ (ops.toList.drop (headLen ops.toList)) (headLen ops.toList) st2 ρ a' w' (fun j => by simp [List.getElem?_drop]) (h'.below hw') hh3
                    simpa using this
                  · refine region_late hnd (lateLen ops.toList) (headLen ops.toList) hm hb hC (headL_sound hcf ops r m _ _ (fun a' h' w' hw' => ?_) _ st a hhead hR hh)
                    have := opsL_sound hcf ops hd r m (onlyN Q) _ (fun ρ' a' w' h => (hQ ρ' a' w' h : onlyN Q .normal a' w')) (ops.toList.drop (headLen ops.toList)) (headLen ops.toList) st2 ρ a' w' (fun j => by simp [List.getElem?_drop]) (h'.below hw') hh3
                    simpa using this
              · cases hs
            · cases hs
        · cases h
    | seq x y =>
      simp only [codeOk, Bool.and_eq_true] at hok
      simp only [exec] at h
      refine wpIn_seq ?_
      split at h
      · rename_i st1 hx
        exact ih x st _ st1 hx hok.1 ρ a w hR _ fun ρ' a' w' h' => ih y st1 e st' h hok.2 ρ' a' w' h' Q hQ
      · rename_i hne
        refine ih x st e st' h hok.1 ρ a w hR _ fun ρ' a' w' h' => ?_
        have := hQ ρ' a' w' h'
        cases e with
        | normal => exact absurd h (hne st')
        | _ => exact this
    | cond x y z =>
      simp only [codeOk, Bool.and_eq_true] at hok
      simp only [exec] at h
      split at h
      · rename_i hx
        exact wpIn_cond_true (vt_bool (ev_sound hR.hr hR.fr hx)) (ih y st e st' h hok.1 ρ a w hR Q hQ)
      · rename_i hx
        exact wpIn_cond_false (vt_bool (ev_sound hR.hr hR.fr hx)) (ih z st e st' h hok.2 ρ a w hR Q hQ)
      · cases h
    | scope b =>
      simp only [codeOk] at hok
      simp only [exec] at h
      refine wpIn_scope ?_
      split at h
      · cases h
      · rename_i hne
        refine ih b st e st' h hok ρ a w hR _ fun ρ' a' w' h' => ?_
        have := hQ ρ' a' w' h'
        cases e with
        | goto l => exact absurd h (hne l st')
        | _ => exact this
    | block id b =>
      simp only [codeOk] at hok
      simp only [exec] at h
      refine wpIn_block ?_
      split at h
      · rename_i j st1 hx
        refine ih b st _ st1 hx hok ρ a w hR _ fun ρ' a' w' h' => ?_
        split at h
        · rename_i hj
          cases h
          subst hj
          simpa [Exit.inBlock] using hQ ρ' a' w' h'
        · rename_i hj
          cases h
          simpa [Exit.inBlock, hj] using hQ ρ' a' w' h'
      · rename_i hne
        refine ih b st e st' h hok ρ a w hR _ fun ρ' a' w' h' => ?_
        have := hQ ρ' a' w' h'
        cases e with
        | exit j => exact absurd h (hne j st')
        | _ => exact this
    | loop b =>
      simp only [codeOk] at hok
      refine wpIn_loop_rounds (k + 1) ?_
      have key : ∀ (j : Nat), j ≤ k → ∀ (st : St) (ρ : Ren) (a : Act) (w : World), exec P cf (j + 1) (.loop b) st = some (e, st') → RS P B ρ0 w0 mb n ρ st a w → Code.roundsIn (Fr r) m P b Q (j + 1) a w := by
        intro j
        induction j with
        | zero =>
          intro _ st ρ a w h hR
          simp [exec] at h
        | succ j ihj =>
          intro hj st ρ a w h hR
          rw [exec] at h
          rw [roundsIn_succ]
          split at h
          · rename_i st1 hx
            exact ih0 (j + 1) (by omega) b st _ st1 hx hok ρ a w hR _ fun ρ' a' w' h' => ihj (by omega) st1 ρ' a' w' h h'
          · rename_i hne
            refine ih0 (j + 1) (by omega) b st e st' h hok ρ a w hR _ fun ρ' a' w' h' => ?_
            have := hQ ρ' a' w' h'
            cases e with
            | normal => exact absurd h (hne st')
            | _ => exact this
      exact key k (Nat.le_refl _) st ρ a w h hR
    | rangeFunc g ps x y =>
      simp only [codeOk, Bool.and_eq_true] at hok
      simp only [exec] at h
      split at h
      · rename_i f cap hcal
        split at h
        · rename_i v H2 lo hcall
          obtain ⟨s, pend, tm', ps', x', y', hget, hnb, hj, rfl⟩ := loopEnd_spec h
          obtain ⟨cap', l', capv, hev, hl', hcap, hc2, henter⟩ := calleeOf_sound hR.hr hR.fr hcal
          simp only [evs, Array.toList_empty, Option.some.injEq] at hl'
          subst hl'
          simp only [List.nil_append] at hcap
          subst hcap
          refine wpIn_rangeFunc fun fn _ => ?_
          have hold : B ≤ w.heap.size := hR.hr.old
          obtain ⟨l, mark, w1, dfs, hen, hb1, hl1, hl2, hrec, hmk⟩ : ∃ l mark w1 dfs, (Instr.enterLoop fn a.tmps ps x y (Fr r).round).run P w = .ok (l, mark) w1 ∧ Below w.heap.size w w1 ∧ w.heap.size ≤ l ∧ l < w1.heap.size ∧
              w1.heap[l]? = some (.loop { state := .ready, pending := none, fn, tmps := a.tmps, params := ps, assign := x, body := y, defers := dfs }) ∧ Marks mb (Ren.add ρ st.heap.n ⟨l, 0, 0⟩) (mark ++ a.defers) w1 := by
            cases r with
            | none =>
              refine ⟨_, _, _, w.heap.size, run_enterLoop_outer fn a.tmps ps x y, (((Below.refl _ w).alloc (Nat.le_refl _) _).alloc (by simp) _), by omega, by simp, ?_, ?_⟩
              · have := World.alloc_heap_new (w.alloc (.deferred (some []))) (.loop { state := .ready, pending := none, fn, tmps := a.tmps, params := ps, assign := x, body := y, defers := w.heap.size })
                simpa using this
              · obtain ⟨rs, h1, h2, h3⟩ := hR.marks
                refine ⟨w.heap.size :: rs, by simp [h1], List.nodup_cons.2 ⟨fun hin => ?_, h2⟩, fun r hr => ?_⟩
                · have := (Array.getElem?_eq_some_iff.1 (h3 _ hin).2.1).1
                  omega
                · have hbb : Below w.heap.size w ((w.alloc (.deferred (some []))).alloc (.loop { state := .ready, pending := none, fn, tmps := a.tmps, params := ps, assign := x, body := y, defers := w.heap.size })) := (((Below.refl _ w).alloc (Nat.le_refl _) _).alloc (by simp) _)
                  rcases List.mem_cons.1 hr with rfl | hr
                  · refine ⟨Nat.le_trans hmb hR.ext.size, ?_, fun b e hb => ?_⟩
                    · have h5 : Below (w.heap.size + 1) (w.alloc (.deferred (some []))) ((w.alloc (.deferred (some []))).alloc (.loop { state := .ready, pending := none, fn, tmps := a.tmps, params := ps, assign := x, body := y, defers := w.heap.size })) := (Below.refl _ _).alloc (by simp) _
                      rw [h5.block _ (by omega)]
                      exact World.alloc_heap_new w _
                    · by_cases hbn : b = st.heap.n
                      · subst hbn; rw [Ren.add_eq] at hb; cases hb; simp
                      · rw [Ren.add_ne _ _ hbn] at hb; exact Nat.ne_of_lt (hR.hr.top b e hb)
                  · obtain ⟨h6, h7, h8⟩ := h3 r hr
                    have hlt := (Array.getElem?_eq_some_iff.1 h7).1
                    refine ⟨h6, by rw [hbb.block _ hlt]; exact h7, fun b e hb => ?_⟩
                    by_cases hbn : b = st.heap.n
                    · subst hbn; rw [Ren.add_eq] at hb; cases hb; simp; omega
                    · rw [Ren.add_ne _ _ hbn] at hb; exact h8 b e hb
            | some l0 =>
              obtain ⟨lp0, hlp0⟩ := hlr l0 rfl
              obtain ⟨lp, hlp⟩ := hR.ext.loops l0 lp0 hlp0
              have hbb : Below w.heap.size w (w.alloc (.loop { state := .ready, pending := none, fn, tmps := a.tmps, params := ps, assign := x, body := y, defers := lp.defers })) := (Below.refl _ w).alloc (Nat.le_refl _) _
              refine ⟨_, _, _, lp.defers, run_enterIn hlp fn a.tmps ps x y, hbb, Nat.le_refl _, by simp, World.alloc_heap_new w _, ?_⟩
              obtain ⟨rs, h1, h2, h3⟩ := hR.marks
              refine ⟨rs, by simp [h1], h2, fun r hr => ?_⟩
              obtain ⟨h6, h7, h8⟩ := h3 r hr
              have hlt := (Array.getElem?_eq_some_iff.1 h7).1
              refine ⟨h6, by rw [hbb.block _ hlt]; exact h7, fun b e hb => ?_⟩
              by_cases hbn : b = st.heap.n
              · subst hbn; rw [Ren.add_eq] at hb; cases hb; simp; omega
              · rw [Ren.add_ne _ _ hbn] at hb; exact h8 b e hb
          have hle := hR.hr.le_add ⟨l, 0, 0⟩
          have hps : ∀ p ∈ ps.toList, p < a.tmps.size := fun p hp => by
            have := List.all_eq_true.1 hok.1.1 p hp
            rw [hR.size]; simpa using this
          obtain ⟨hH1, hE1⟩ := hR.hr.alloc hb1 ⟨l, 0, 0⟩ (.loop .ready none st.tmps ps x y) st.heap.n hl1 hl2 ⟨Nat.le_trans hold hl1, _, hrec, ⟨rfl, rfl, rfl, rfl, rfl⟩, hps, by rw [hR.size]; exact hok.1.2, by rw [hR.size]; exact hok.2, fun i => (hR.fr.at_ i).mono hle⟩
          refine ⟨l, mark, w1, { target := .fn (.func f) cap', args := #[.func (.yield l) #[] #[]] }, w1, f, #[.func (.yield l) #[] #[]] ++ cap', w1, hen, ?_, fun _ _ => trivial, ?_, fun hh => (by cases hh), ?_⟩
          · simp only [resolve, hev]
            simp [go_sem]
          · simp [invoke, go_sem, henter]
          · have hc := (hcf (.fn f) _ _ _ _ _ hcall (Ren.add ρ st.heap.n ⟨l, 0, 0⟩) w1 (#[.func (.yield l) #[] #[]] ++ cap') (m - 1) hH1 (by
              simpa using L2.cons (R := VT (Ren.add ρ st.heap.n ⟨l, 0, 0⟩)) (VT.one (.cell (.yld (e := ⟨l, 0, 0⟩) (Ren.add_eq ρ st.heap.n ⟨l, 0, 0⟩)))) (hc2.mono fun _ _ => VT.mono hle))).2
            refine (show CallsIn (Fr r) (m - 1) P f _ w1 _ from hc).mono ?_
            rintro e1 w3 ⟨ρ', v', rfl, h3, h4, h5⟩
            obtain ⟨rr, hrr, ⟨g1, g2, g3, g4, g5⟩, hH4, hE4⟩ := h4.putLoop (s' := .exhausted) (pend' := pend) hget (h5.le _ _ (Ren.add_eq ρ st.heap.n ⟨l, 0, 0⟩))
            have hend := run_endLoop (P := P) hrr (by rw [g1]; exact hnb)
            rw [show ({ rr with state := .exhausted } : Loop) = { rr with state := .exhausted, pending := pend } by rw [← g2]] at hend
            refine ⟨rr.pending, _, hend, ?_⟩
            have hR4 : RS P B ρ0 w0 mb n ρ' ⟨st.tmps, H2.set st.heap.n (.loop .exhausted pend tm' ps' x' y'), min (min st.lo st.heap.n) lo⟩ { a with defers := mark ++ a.defers } _ :=
              ⟨hH4, ⟨fun i => ((hR.fr.at_ i).mono hle).mono h5.le, trivial⟩, hR.size, (((hR.ext.trans hE1).trans h5).trans hE4).lower (by dsimp only; omega), (hmk.ext h5).ext hE4⟩
            rw [g2]
            cases pend with
            | none => simp only [jumpOf, Option.some.injEq] at hj; subst hj; exact hQ _ _ _ hR4
            | some c =>
              cases c with
              | ret => simp only [jumpOf, Option.some.injEq] at hj; subst hj; exact wpIn_ret (hQ _ _ _ hR4)
              | exit id => simp only [jumpOf, Option.some.injEq] at hj; subst hj; exact wpIn_exit (hQ _ _ _ hR4)
              | _ => simp [jumpOf] at hj
        · cases h
      · cases h
    | _ => simp [exec] at h

theorem FR.putPs {ρ : Ren} : ∀ (ps : List Tmp) (l : List Value) (args : List Value) (tm : Tm) (tmps : Array Value), L2 (VT ρ) l args → (∀ p ∈ ps, p < tmps.size) → (∀ i, VT ρ (Tm.at tm i) (tmps.getD i undef)) →
    (∀ i, VT ρ (Tm.at (AI.putPs (ps.zip l) tm) i) (((ps.zip args).foldl (fun tmps (t, a) => tmps.setIfInBounds t a) tmps).getD i undef)) ∧ ((ps.zip args).foldl (fun tmps (t, a) => tmps.setIfInBounds t a) tmps).size = tmps.size
  | [], _, _, tm, tmps, _, _, h => ⟨by simpa [AI.putPs] using h, rfl⟩
  | p :: ps, [], _, tm, tmps, .nil, _, h => ⟨by simpa [AI.putPs] using h, rfl⟩
  | p :: ps, x :: l, y :: args, tm, tmps, .cons h1 h2, hp, h => by
    have hlt : p < tmps.size := hp p (by simp)
    have := FR.putPs ps l args (Tr.set tm p x) (tmps.setIfInBounds p y) h2 (fun q hq => by simpa using hp q (by simp [hq])) (fun i => by
      by_cases hpi : p = i
      · subst hpi
        rw [Tm.at_set_eq]
        simp [Array.getD_eq_getD_getElem?, hlt]
        exact h1
      · rw [Tm.at_set_ne _ _ hpi]
        have := h i
        simpa [Array.getD_eq_getD_getElem?, Array.getElem?_setIfInBounds, hpi] using this)
    refine ⟨by simpa [AI.putPs] using this.1, by simpa using this.2⟩

/-- A round. -/
theorem round_sound {cf : CallF} (hcf : CallOK P B cf) (hm : P.follows .mixedOrders = true) {n b : Nat} {l : List Value} {H H' : Heap} {v : Value} {lo : Nat} (h : round P cf n b l H = some (v, H', lo)) {ρ : Ren} {w : World} {args : Array Value} (k : Nat) (hH : HR P B ρ H w) (hl : L2 (VT ρ) l args.toList) :
    lo < H.n ∧ CalIn P k ρ (.rnd b) args w (fun e w' => ∃ ρ' v', e = .returned v' ∧ VT ρ' v v' ∧ HR P B ρ' H' w' ∧ Ext B ρ ρ' lo w w') := by
  unfold round at h
  split at h
  · rename_i pend tm ps x y hget
    have hbn : b < H.n := hH.objs b _ hget
    split at h
    · rename_i hlen
      split at h
      · rename_i st1 hx1
        split at h
        · rename_i pend1 tm1 ps1 x1 y1 hget1
          split at h
          · rename_i e2 st2 hx2
            split at h
            · rename_i s2 pend2 tm2 ps2 x2 y2 j hget2 hj
              cases h
              refine ⟨by omega, fun e he => ?_⟩
              obtain ⟨hB, r, hr, ⟨h1, h2, h3, h4, h5⟩, h6, h7, h8, h9⟩ := hH.obj b _ e hget he
              have hsz : args.size = r.params.size := by
                have := hl.length
                rw [h3, ← hlen]; simpa using this.symm
              refine ⟨r.fn, _, r.assign, r.body, run_yield hr hsz, roundIn_of_wpIn trivial ?_⟩
              rw [h3, h4, h5]
              obtain ⟨f1, f2⟩ := FR.putPs ps.toList l args.toList tm r.tmps hl h6 h9
              have hfold : (ps.zip args).foldl (fun tmps (t, a) => tmps.setIfInBounds t a) r.tmps = (ps.toList.zip args.toList).foldl (fun tmps (t, a) => tmps.setIfInBounds t a) r.tmps := by
                rw [← Array.foldl_toList, Array.toList_zip]
              rw [hfold]
              have hR : RS P B ρ w 0 r.tmps.size ρ ⟨putPs (ps.toList.zip l) tm, H, H.n⟩ { tmps := (ps.toList.zip args.toList).foldl (fun tmps (t, a) => tmps.setIfInBounds t a) r.tmps, defers := [] } w :=
                ⟨hH, ⟨f1, trivial⟩, f2, Ext.refl _ _ _ _, Marks.nil _ _ _⟩
              refine (exec_sound hcf hm (some e.blk) (fun l0 hl0 => by cases hl0; exact ⟨r, hr⟩) (Nat.zero_le _) k n x _ .normal st1 hx1 h7 ρ _ w hR _ fun ρ1 a1 w1 hR1 => ?_ : Code.wpIn (Fr (some e.blk)) k P x _ _ w)
              have he1 : ρ1 b = some e := hR1.ext.le _ _ he
              obtain ⟨r1, hr1, ⟨g1, g2, g3, g4, g5⟩, hH2, hE2⟩ := hR1.hr.putLoop (s' := .busy) (pend' := pend1) hget1 he1
              have hbr := run_beginRound (P := P) hr1 g1
              rw [show ({ r1 with state := .busy } : Loop) = { r1 with state := .busy, pending := pend1 } by rw [← g2]] at hbr
              refine ⟨_, hbr, ?_⟩
              have hR2 : RS P B ρ w 0 r.tmps.size ρ1 ⟨st1.tmps, st1.heap.set b (.loop .busy pend1 tm1 ps1 x1 y1), min st1.lo b⟩ a1 (w1.putObj e.blk (.loop { r1 with state := .busy, pending := pend1 })) :=
                ⟨hH2, hR1.fr, hR1.size, hR1.ext.trans hE2, hR1.marks.ext hE2⟩
              refine (exec_sound hcf hm (some e.blk) (fun l0 hl0 => by cases hl0; exact ⟨r, hr⟩) (Nat.zero_le _) k n y _ e2 st2 hx2 h8 ρ1 _ _ hR2 _ fun ρ2 a2 w2 hR3 => ?_ : Code.wpIn (Fr (some e.blk)) k P y _ _ _)
              have he2 : ρ2 b = some e := hR3.ext.le _ _ he
              obtain ⟨r2, hr2, ⟨i1, i2, i3, i4, i5⟩, hH4, hE4⟩ := hR3.hr.putLoop (s' := bif j.isNone then .ready else .done) (pend' := j) hget2 he2
              have hfin : ∃ v w', (Instr.endRound e.blk j).run P w2 = .ok v w' ∧ ∃ ρ' v', (Ending.returned v : Ending) = .returned v' ∧ VT ρ' (.bool j.isNone) v' ∧ HR P B ρ' (st2.heap.set b (.loop (bif j.isNone then .ready else .done) j tm2 ps2 x2 y2)) w' ∧ Ext B ρ ρ' (min st2.lo b) w w' := by
                have hend := run_endRound (P := P) j hr2
                refine ⟨_, _, hend, ρ2, _, rfl, VT.of_plain rfl, ?_, ?_⟩
                · cases j <;> exact hH4
                · have := hR3.ext.trans hE4
                  cases j <;> exact this
              cases e2 with
              | normal => simp only [pendOf, Option.some.injEq] at hj; subst hj; exact hfin
              | ret => simp only [pendOf, Option.some.injEq] at hj; subst hj; exact hfin
              | exit id => simp only [pendOf, Option.some.injEq] at hj; subst hj; exact hfin
              | _ => simp [pendOf] at hj
            · cases h
          · cases h
        · cases h
      · cases h
    · cases h
  · cases h

/-- A block that no abstract one stands for is written. -/
theorem HR.aside {ρ : Ren} {H : Heap} {w : World} {r : Nat} {o : Obj} (h : HR P B ρ H w) (hn : ∀ b e, ρ b = some e → e.blk ≠ r) : HR P B ρ H (w.putObj r o) :=
  ⟨h.dom, h.lt, h.objs, fun b o' e ho he => (h.obj b o' e ho he).mono (Ren.le_refl _) (World.putObj_heap_other (hn b e he)), h.inj, fun b e he => by rw [World.putObj_size]; exact h.top b e he, h.glob, by rw [World.putObj_size]; exact h.old⟩
theorem Ext.aside {ρ ρ' : Ren} {lo : Nat} {w w' : World} {r : Nat} {o : Obj} (h : Ext B ρ ρ' lo w w') (hr : w.heap.size ≤ r) : Ext B ρ ρ' lo w (w'.putObj r o) :=
  ⟨h.le, h.os, h.tape, h.output, by rw [World.putObj_size]; exact h.size, fun k hk hc => by rw [World.putObj_heap_other (by omega)]; exact h.block k hk hc, h.fresh, fun k lp hlp => by
    have hlt := (Array.getElem?_eq_some_iff.1 hlp).1
    rw [World.putObj_heap_other (by omega)]; exact h.loops k lp hlp⟩
/-- Behind the marks. -/
theorem marks_leave {F : Fence} {k : Nat} {fn : Func} {tmps : Array Value} {R : Ending → World → Prop} {ρ0 ρ : Ren} {H : Heap} {lo : Nat} {w0 : World} (hR : ∀ w, HR P B ρ H w → Ext B ρ0 ρ lo w0 w → LeavesIn F k P fn tmps R [] .returning w) :
    ∀ (rs : List Nat) (w : World), HR P B ρ H w → Ext B ρ0 ρ lo w0 w → rs.Nodup → (∀ r ∈ rs, w0.heap.size ≤ r ∧ w.heap[r]? = some (.deferred (some [])) ∧ ∀ b e, ρ b = some e → e.blk ≠ r) →
      LeavesInM F k P fn tmps R (rs.map (fun r => { target := .collected r, args := #[] })) .returning w
  | [], w, hH, hE, _, _ => hR w hH hE
  | r :: rs, w, hH, hE, hnd, h => by
    obtain ⟨h1, h2, h3⟩ := h r (by simp)
    have hnd' := List.nodup_cons.1 hnd
    refine ⟨(by intro hh; cases hh), .inl ⟨r, _, rfl, run_takeDeferred h2, marks_leave hR rs _ (hH.aside h3) (hE.aside h1) hnd'.2 fun q hq => ?_⟩⟩
    obtain ⟨h4, h5, h6⟩ := h q (by simp [hq])
    refine ⟨h4, ?_, h6⟩
    rw [World.putObj_heap_other (by rintro rfl; exact hnd'.1 hq)]; exact h5

theorem putArgs_at : ∀ (l : List Value) (k : Nat) (t : Tm) (i : Nat), Tm.at (putArgs l k t) i = if k ≤ i ∧ i < k + l.length then l.getD (i - k) undef else Tm.at t i
  | [], k, t, i => by simp [putArgs]; intro h1 h2; omega
  | v :: l, k, t, i => by
    rw [putArgs, putArgs_at l (k + 1) (Tr.set t k v) i]
    by_cases h0 : i = k
    · subst h0
      rw [if_neg (by omega), Tm.at_set_eq, if_pos (by simp)]
      simp
    · rw [Tm.at_set_ne _ _ (Ne.symm h0)]
      by_cases h1 : k ≤ i ∧ i < k + (v :: l).length
      · rw [if_pos h1, if_pos (by simp at h1; omega)]
        rw [show i - k = (i - (k + 1)) + 1 by omega]
        simp
      · rw [if_neg h1, if_neg (by simp at h1; omega)]

theorem leaf_at (i : Nat) : Tm.at .leaf i = undef := rfl

theorem FR.start {ρ : Ren} {l : List Value} {args : Array Value} (h : L2 (VT ρ) l args.toList) (n : Nat) : FR ρ (putArgs l 0 .leaf) { tmps := args ++ Array.replicate n undef, defers := [] } := by
  refine ⟨fun i => ?_, trivial⟩
  have hlen := h.length
  rw [putArgs_at, leaf_at]
  by_cases hi : i < l.length
  · rw [if_pos (by omega)]
    have h1 : l[i]? = some (l.getD i undef) := by simp [hi]
    obtain ⟨y, hy, hr⟩ := h.get h1
    have hia : i < args.size := by simp at hlen; omega
    have hy' : args[i]? = some y := by simpa using hy
    simpa [Array.getD_eq_getD_getElem?, Array.getElem?_append_left hia, hy'] using hr
  · rw [if_neg (by omega)]
    have hia : args.size ≤ i := by simp at hlen; omega
    have : ((args ++ Array.replicate n undef).getD i undef) = undef := by
      rw [Array.getD_eq_getD_getElem?, Array.getElem?_append_right hia, Array.getElem?_replicate]
      split <;> rfl
    rw [this]; exact VT.undef _

def rv (a : Act) : ResultVar → Sem Value
  | .tmp t => pure (a.tmps.getD t undef)
  | .cell c t => do loadVar t (← asAddr (a.tmps.getD c undef))

theorem res_sound {ρ : Ren} {H : Heap} {w : World} {tm : Tm} {a : Act} (hH : HR P B ρ H w) (hF : FR ρ tm a) {x : ResultVar} {v : Value} (h : resOf P tm H x = some v) :
    ∃ v', VT ρ v v' ∧ (rv a x).run P w = .ok v' w := by
  cases x with
  | tmp t =>
    simp only [resOf, Option.some.injEq] at h
    subst h
    exact ⟨_, hF.at_ t, rfl⟩
  | cell c t =>
    simp only [resOf] at h
    split at h
    · rename_i ad hc
      have h1 := hF.at_ c
      rw [hc] at h1
      obtain ⟨v', h2, h3⟩ := q_load hH h1 h
      have h4 := h3 w (Below.refl _ _)
      have : ∃ ad', a.tmps.getD c undef = .pointer (some ad') := by
        cases h1 with
        | one h1 => cases h1 with
          | cell h1 =>
            generalize a.tmps.getD c undef = u at h1
            cases h1 with
            | same hs => simp [scalar] at hs
            | ptr _ => exact ⟨_, rfl⟩
      obtain ⟨ad', had⟩ := this
      refine ⟨v', h2, ?_⟩
      rw [had] at h4
      simpa [rv, had, asAddr, Instr.loadAt, Instr.sureAddr] using h4
    · cases h

theorem ress_sound {ρ : Ren} {H : Heap} {w : World} {tm : Tm} {a : Act} (hH : HR P B ρ H w) (hF : FR ρ tm a) : ∀ (xs : List ResultVar) (l : List Value), ressOf P tm H xs = some l →
    ∃ l', L2 (VT ρ) l l' ∧ (xs.mapM (m := Sem) (rv a)).run P w = .ok l' w
  | [], l, h => by simp only [ressOf, Option.some.injEq] at h; subst h; exact ⟨[], .nil, rfl⟩
  | x :: xs, l, h => by
    simp only [ressOf] at h
    split at h
    · rename_i v r hv hr
      cases h
      obtain ⟨v', h1, h2⟩ := res_sound hH hF hv
      obtain ⟨l', h3, h4⟩ := ress_sound hH hF xs r hr
      refine ⟨v' :: l', .cons h1 h3, ?_⟩
      rw [List.mapM_cons, Sem.run_bind, h2, Result.andThen_ok, Sem.run_bind, h4, Result.andThen_ok]
      rfl
    · cases h

theorem results_eq (fn : Func) (a : Act) : results fn a.tmps = (do
    let vs ← fn.results.mapM (rv a)
    pure (if h : vs.size = 1 then vs[0] else .tuple vs) : Sem Value) := by
  unfold results
  congr 1

theorem results_sound {ρ : Ren} {H : Heap} {w : World} {tm : Tm} {a : Act} (hH : HR P B ρ H w) (hF : FR ρ tm a) {fn : Func} {l : List Value} (h : ressOf P tm H fn.results.toList = some l) (hn : l.all notTuple = true) :
    ∃ v', VT ρ (tupled l) v' ∧ (results fn a.tmps).run P w = .ok v' w := by
  obtain ⟨l', h1, h2⟩ := ress_sound hH hF _ _ h
  refine ⟨if h : l'.toArray.size = 1 then l'.toArray[0] else .tuple l'.toArray, ?_, ?_⟩
  · have hlen := h1.length
    unfold tupled
    split
    · cases h1 with
      | cons hv ht => cases ht; exact hv
    · rename_i hne
      have hl1 : ¬ l'.toArray.size = 1 := by
        intro hh
        simp at hh
        rw [hh] at hlen
        obtain ⟨x, hx⟩ := List.length_eq_one_iff.1 hlen
        exact hne x hx
      rw [dif_neg hl1]
      exact .tup (L2.of_get (by simpa using hlen) fun i x y hx hy => by
        have hx' : l[i]? = some x := by simpa using hx
        exact (h1.both hx' (by simpa using hy)).to_R (List.all_eq_true.1 hn x (List.mem_of_getElem? hx')))
  · rw [results_eq, Sem.run_bind, Array.mapM_eq_mapM_toList, Sem.run_map, h2]
    rfl

/-- What is known beforehand is so. -/
def OracleOK (P : Program) [Oracle P] (B : Nat) : Prop :=
  ∀ f v, Oracle.val P f = some v → ∀ H, Oracle.base P H → ∀ ρ w (args : Array Value) (k : Nat), HR P B ρ H w → L2 (VT ρ) [] args.toList →
    CallsIn Fence.wide k P f args w (fun e w' => ∃ ρ' v', e = .returned v' ∧ VT ρ' v v' ∧ HR P B ρ' H w' ∧ Ext B ρ ρ' H.n w w')
theorem oracle_ok [Oracle P] (hO : OracleOK P B) {f : FuncId} {l : List Value} {H : Heap} {v : Value} {H' : Heap} {lo : Nat} (h : oracle P f l H = some (v, H', lo)) {ρ : Ren} {w : World} {args : Array Value} (k : Nat) (hH : HR P B ρ H w) (hl : L2 (VT ρ) l args.toList) :
    CallsIn Fence.wide k P f args w (fun e w' => ∃ ρ' v', e = .returned v' ∧ VT ρ' v v' ∧ HR P B ρ' H' w' ∧ Ext B ρ ρ' lo w w') := by
  unfold oracle at h
  split at h
  · cases h
  · rename_i u hu
    split at h
    · split at h
      · rename_i hb
        cases h
        exact hO f v hu H hb ρ w args k hH hl
      · cases h
    · cases h
theorem call_sound [Oracle P] (hO : OracleOK P B) (hm : P.follows .mixedOrders = true) : ∀ k, CallOK P B (call P k) := by
  intro k
  induction k with
  | zero => intro c l H v H' lo h; cases c <;> simp [call] at h
  | succ k ih =>
    intro c l H v H' lo h ρ w args kf hH hl
    cases c with
    | rnd b =>
      simp only [call] at h
      obtain ⟨h1, h2⟩ := round_sound ih hm h kf hH hl
      exact ⟨.inr h1, h2⟩
    | fn f =>
    refine ⟨.inl rfl, ?_⟩
    simp only [call] at h
    split at h
    · rename_i r ho
      cases h
      exact oracle_ok hO ho kf hH hl
    split at h
    · rename_i fn hfn
      split at h
      · rename_i c hc
        split at h
        · rename_i hok
          split at h
          · rename_i e st hx
            split at h
            · rename_i hend
              split at h
              · rename_i vs hvs
                split at h
                · rename_i hnt
                  cases h
                  refine callsIn_of_wp_marks hfn hc trivial ?_
                  have hsz : args.size = l.length := by simpa using hl.length.symm
                  have hR : RS P B ρ w w.heap.size fn.ntmps ρ ⟨putArgs l 0 .leaf, H, H.n⟩ { tmps := args ++ Array.replicate (fn.ntmps - args.size) undef, defers := [] } w :=
                    ⟨hH, FR.start hl _, by simp; have := hok.2; omega, Ext.refl _ _ _ _, Marks.nil _ _ _⟩
                  refine exec_sound ih hm none (fun l0 hl0 => by cases hl0) (Nat.le_refl _) kf k c _ e st hx hok.1 ρ _ w hR _ (fun ρ' a' w' h' => ?_)
                  obtain ⟨rs, h1, h2, h3⟩ := h'.marks
                  have hlv : LeavesInM Fence.wide kf P fn a'.tmps (fun e w' => ∃ ρ' v', e = .returned v' ∧ VT ρ' (tupled vs) v' ∧ HR P B ρ' st.heap w' ∧ Ext B ρ ρ' st.lo w w') a'.defers .returning w' := by
                    rw [h1]
                    refine marks_leave (fun w2 hH2 hE2 => ?_) rs w' h'.hr h'.ext h2 h3
                    obtain ⟨v', h4, h5⟩ := results_sound hH2 h'.fr hvs hnt
                    exact ⟨v', h5, ρ', v', rfl, h4, hH2, hE2⟩
                  cases e with
                  | normal => exact hlv
                  | ret => exact hlv
                  | _ => simp [ended] at hend
                · cases h
              · cases h
            · cases h
          · cases h
        · cases h
      · cases h
    · cases h

end
end Go.AI

/- The abstract machine: more fuel gives no other answer; rules by which code is walked. -/
namespace Go.AI
section
variable {P : Program}

def Sub (cf cf' : CallF) : Prop := ∀ f l H r, cf f l H = some r → cf' f l H = some r

theorem step_mono {cf cf' : CallF} (h : Sub cf cf') {tm : Tm} {H : Heap} {o : Oper} {r : Res} (hs : step P cf tm H o = some r) : step P cf' tm H o = some r := by
  unfold step at hs ⊢
  split at hs
  · exact h _ _ _ _ hs
  · exact hs
theorem opsL_mono {cf cf' : CallF} (h : Sub cf cf') (ops : List Oper) : ∀ (l : List Oper) (st : St) (r : St), opsL P cf ops l st = some r → opsL P cf' ops l st = some r
  | [], _, _, hs => hs
  | o :: l, st, r, hs => by
    simp only [opsL] at hs ⊢
    split at hs
    · rename_i hw
      rw [if_pos hw]
      split at hs
      · rename_i v H lo h1
        rw [step_mono h h1]
        exact opsL_mono h ops l _ r hs
      · cases hs
    · rename_i hw
      rw [if_neg hw]
      exact opsL_mono h ops l _ r hs
theorem headL_mono {cf cf' : CallF} (h : Sub cf cf') (ops : List Oper) : ∀ (l : List Oper) (st : St) (r : St), headL P cf ops l st = some r → headL P cf' ops l st = some r
  | [], _, _, hs => hs
  | o :: l, st, r, hs => by
    simp only [headL] at hs ⊢
    split at hs
    · rename_i hw
      rw [if_pos hw]
      split at hs
      · rename_i f args hc
        split at hs
        · rename_i v H lo h1
          rw [h _ _ _ _ h1]
          split at hs
          · rename_i hp
            simp only
            rw [if_pos hp]
            exact headL_mono h ops l _ r hs
          · cases hs
        · cases hs
      · split at hs
        · rename_i v H lo h1
          exact headL_mono h ops l _ r hs
        · cases hs
    · rename_i hw
      rw [if_neg hw]
      exact headL_mono h ops l _ r hs

theorem drawL_mono {cf cf' : CallF} (h : Sub cf cf') (ops : List Oper) (st r : St) (hs : drawL P cf ops st = some r) : drawL P cf' ops st = some r := by
  unfold drawL at hs ⊢
  split at hs
  · rename_i st1 h1
    rw [headL_mono h _ _ _ _ h1]
    simp only
    split at hs
    · rename_i st2 h2
      rw [opsL_mono h _ _ _ _ h2]
      simp only
      exact headL_mono h _ _ _ _ hs
    · cases hs
  · cases hs
theorem opsG_mono {cf cf' : CallF} (h : Sub cf cf') (ops : List Oper) : ∀ (l : List Oper) (st : St) (r : St), opsG P cf ops l st = some r → opsG P cf' ops l st = some r
  | [], _, _, hs => hs
  | o :: l, st, r, hs => by
    simp only [opsG] at hs ⊢
    split at hs
    · rename_i hw
      rw [if_pos hw]
      split at hs
      · rename_i v H lo h1
        rw [step_mono h h1]
        split at hs
        · rename_i hlo
          simp only
          rw [if_pos hlo]
          exact opsG_mono h ops l _ r hs
        · cases hs
      · cases hs
    · rename_i hw
      rw [if_neg hw]
      exact opsG_mono h ops l _ r hs
theorem drawX_mono {cf cf' : CallF} (h : Sub cf cf') (ops : List Oper) (st r : St) (hs : drawX P cf ops st = some r) : drawX P cf' ops st = some r := by
  unfold drawX at hs ⊢
  cases hw : wideSel ops with
  | true => rw [hw] at hs; exact opsG_mono h _ _ _ _ hs
  | false => rw [hw] at hs; exact drawL_mono h _ _ _ hs
theorem exec_mono {cf cf' : CallF} (h : Sub cf cf') : ∀ (k : Nat) (c : Code) (st : St) (r : Exit × St), exec P cf k c st = some r → ∀ k', k ≤ k' → exec P cf' k' c st = some r := by
  intro k
  induction k with
  | zero => intro c st r hs; simp [exec] at hs
  | succ k ih =>
    intro c st r hs k' hk
    obtain ⟨k', rfl⟩ : ∃ j, k' = j + 1 := ⟨k' - 1, by omega⟩
    have hk' : k ≤ k' := by omega
    cases c with
    | region id ops draw =>
      simp only [exec] at hs ⊢
      cases draw with
      | false =>
        simp only [Bool.false_eq_true, if_false] at hs ⊢
        split at hs
        · rename_i st1 h1
          rw [opsL_mono h _ _ _ _ h1]; exact hs
        · cases hs
      | true =>
        simp only [if_true] at hs ⊢
        split at hs
        · rename_i st1 h1
          rw [drawX_mono h _ _ _ h1]; exact hs
        · cases hs
    | seq x y =>
      simp only [exec] at hs ⊢
      split at hs
      · rename_i st1 h1
        rw [ih x st _ h1 k' hk']
        exact ih y st1 r hs k' hk'
      · rename_i hne
        rw [ih x st _ hs k' hk']
        obtain ⟨e, st1⟩ := r
        cases e with
        | normal => exact absurd hs (hne st1)
        | _ => rfl
    | cond x y z =>
      simp only [exec] at hs ⊢
      split at hs
      · exact ih y st r hs k' hk'
      · exact ih z st r hs k' hk'
      · cases hs
    | block id b =>
      simp only [exec] at hs ⊢
      split at hs
      · rename_i j st1 h1
        rw [ih b st _ h1 k' hk']
        exact hs
      · rename_i hne
        rw [ih b st _ hs k' hk']
        obtain ⟨e, st1⟩ := r
        cases e with
        | exit j => exact absurd hs (hne j st1)
        | _ => rfl
    | loop b =>
      simp only [exec] at hs ⊢
      split at hs
      · rename_i st1 h1
        rw [ih b st _ h1 k' hk']
        exact ih (.loop b) st1 r hs k' hk'
      · rename_i hne
        rw [ih b st _ hs k' hk']
        obtain ⟨e, st1⟩ := r
        cases e with
        | normal => exact absurd hs (hne st1)
        | _ => rfl
    | scope b =>
      simp only [exec] at hs ⊢
      split at hs
      · cases hs
      · rename_i hne
        rw [ih b st _ hs k' hk']
        obtain ⟨e, st1⟩ := r
        cases e with
        | goto l => exact absurd hs (hne l st1)
        | _ => rfl
    | rangeFunc g ps x y =>
      simp only [exec] at hs ⊢
      split at hs
      · rename_i f cap hc
        split at hs
        · rename_i v H lo h1
          rw [h _ _ _ _ h1]
          exact hs
        · cases hs
      · cases hs
    | skip => exact hs
    | label l => exact hs
    | exit id => exact hs
    | ret => exact hs
    | _ => simp [exec] at hs

theorem round_mono {cf cf' : CallF} (h : Sub cf cf') {k k' : Nat} (hk : k ≤ k') {b : Nat} {l : List Value} {H : Heap} {r : Res} (hs : round P cf k b l H = some r) : round P cf' k' b l H = some r := by
  unfold round at hs ⊢
  split at hs
  · rename_i pend tm ps x y hg
    split at hs
    · rename_i hl
      rw [if_pos hl]
      split at hs
      · rename_i st1 h1
        rw [exec_mono h _ _ _ _ h1 k' hk]
        simp only
        split at hs
        · rename_i pend1 tm1 ps1 x1 y1 hg1
          split at hs
          · rename_i e2 st2 h2
            simp only [exec_mono h _ _ _ _ h2 k' hk]
            exact hs
          · cases hs
        · cases hs
      · cases hs
    · cases hs
  · cases hs
variable [Oracle P]
theorem call_succ : ∀ k, Sub (call P k) (call P (k + 1)) := by
  intro k
  induction k with
  | zero => intro f l H r h; cases f <;> simp [call] at h
  | succ k ih =>
    intro f l H r h
    cases f with
    | rnd b =>
      rw [call] at h ⊢
      exact round_mono ih (Nat.le_succ k) h
    | fn f =>
    rw [call] at h ⊢
    split at h
    · exact h
    split at h
    · rename_i fn hfn
      split at h
      · rename_i c hc
        split at h
        · rename_i hok
          try rw [if_pos hok]
          split at h
          · rename_i e st hx
            rw [exec_mono ih k _ _ _ hx (k + 1) (Nat.le_succ k)]
            exact h
          · cases h
        · cases h
      · cases h
    · cases h
theorem call_le {k k' : Nat} (h : k ≤ k') : Sub (call P k) (call P k') := by
  induction h with
  | refl => exact fun _ _ _ _ h => h
  | step _ ih => exact fun f l H r h => call_succ _ f l H r (ih f l H r h)

/-! ### Rules -/
structure WF (P : Program) [Oracle P] (f : Cal) (l : List Value) (H : Heap) (Q : Value → Heap → Nat → Prop) : Prop where
  out : ∃ k v H' lo, call P k f l H = some (v, H', lo) ∧ Q v H' lo
def WC (P : Program) [Oracle P] (c : Code) (st : St) (Q : Exit → St → Prop) : Prop := ∃ k e st', exec P (call P k) k c st = some (e, st') ∧ Q e st'
def WO (P : Program) [Oracle P] (ops l : List Oper) (st : St) (Q : St → Prop) : Prop := ∃ k st', opsL P (call P k) ops l st = some st' ∧ Q st'
def WG (P : Program) [Oracle P] (ops l : List Oper) (st : St) (Q : St → Prop) : Prop := ∃ k st', opsG P (call P k) ops l st = some st' ∧ Q st'
def WH (P : Program) [Oracle P] (ops l : List Oper) (st : St) (Q : St → Prop) : Prop := ∃ k st', headL P (call P k) ops l st = some st' ∧ Q st'

theorem WF.mono {f : Cal} {l : List Value} {H : Heap} {Q Q' : Value → Heap → Nat → Prop} (h : WF P f l H Q) (hq : ∀ v H' lo, Q v H' lo → Q' v H' lo) : WF P f l H Q' := by
  obtain ⟨k, v, H', lo, h1, h2⟩ := h; exact ⟨k, v, H', lo, h1, hq _ _ _ h2⟩
theorem WC.mono {c : Code} {st : St} {Q Q' : Exit → St → Prop} (h : WC P c st Q) (hq : ∀ e st', Q e st' → Q' e st') : WC P c st Q' := by
  obtain ⟨k, e, st', h1, h2⟩ := h; exact ⟨k, e, st', h1, hq _ _ h2⟩
theorem WC.exec {c : Code} {st : St} {k : Nat} {e : Exit} {st' : St} (h : exec P (call P k) k c st = some (e, st')) {k' : Nat} (hk : k ≤ k') : exec P (call P k') k' c st = some (e, st') :=
  exec_mono (call_le hk) k c st _ h k' hk

/-- What follows an exit. -/
def andThen (K : St → Prop) (Q : Exit → St → Prop) : Exit → St → Prop
  | .normal, st => K st
  | e, st => Q e st
def inBlk (id : Nat) (Q : Exit → St → Prop) : Exit → St → Prop
  | .exit j, st => if j = id then Q .normal st else Q (.exit j) st
  | e, st => Q e st

theorem WC.skip {st : St} {Q : Exit → St → Prop} (h : Q .normal st) : WC P .skip st Q := ⟨1, _, _, rfl, h⟩
theorem WC.label {l : Nat} {st : St} {Q : Exit → St → Prop} (h : Q .normal st) : WC P (.label l) st Q := ⟨1, _, _, rfl, h⟩
theorem WC.exit {id : Nat} {st : St} {Q : Exit → St → Prop} (h : Q (.exit id) st) : WC P (.exit id) st Q := ⟨1, _, _, rfl, h⟩
theorem WC.ret {st : St} {Q : Exit → St → Prop} (h : Q .ret st) : WC P .ret st Q := ⟨1, _, _, rfl, h⟩
theorem WC.seq {x y : Code} {st : St} {Q : Exit → St → Prop} (h : WC P x st (andThen (fun st' => WC P y st' Q) Q)) : WC P (.seq x y) st Q := by
  obtain ⟨k, e, st', h1, h2⟩ := h
  cases e with
  | normal =>
    obtain ⟨k', e', st'', h3, h4⟩ := h2
    refine ⟨max k k' + 1, e', st'', ?_, h4⟩
    have h5 := exec_mono (call_le (show k ≤ max k k' + 1 by omega)) k _ _ _ h1 (max k k') (by omega)
    have h6 := exec_mono (call_le (show k' ≤ max k k' + 1 by omega)) k' _ _ _ h3 (max k k') (by omega)
    simp only [AI.exec, h5, h6]
  | _ =>
    refine ⟨k + 1, _, st', ?_, h2⟩
    have h5 := exec_mono (call_le (show k ≤ k + 1 by omega)) k _ _ _ h1 k (Nat.le_refl _)
    simp only [AI.exec, h5]
theorem WC.cond {x : Operand} {y z : Code} {st : St} {Q : Exit → St → Prop} {b : Bool} (hx : ev P st.tmps x = some (.bool b)) (h : WC P (if b then y else z) st Q) : WC P (.cond x y z) st Q := by
  obtain ⟨k, e, st', h1, h2⟩ := h
  refine ⟨k + 1, e, st', ?_, h2⟩
  have h5 := exec_mono (call_le (show k ≤ k + 1 by omega)) k _ _ _ h1 k (Nat.le_refl _)
  cases b <;> simp at h5 <;> simp only [AI.exec, hx, h5]
theorem WC.block {id : Nat} {b : Code} {st : St} {Q : Exit → St → Prop} (h : WC P b st (inBlk id Q)) : WC P (.block id b) st Q := by
  obtain ⟨k, e, st', h1, h2⟩ := h
  have h5 := exec_mono (call_le (show k ≤ k + 1 by omega)) k _ _ _ h1 k (Nat.le_refl _)
  cases e with
  | exit j =>
    simp only [inBlk] at h2
    split at h2
    · rename_i hj
      exact ⟨k + 1, .normal, st', by simp only [AI.exec, h5, hj, if_true], h2⟩
    · rename_i hj
      exact ⟨k + 1, .exit j, st', by simp only [AI.exec, h5, hj, if_false], h2⟩
  | _ => exact ⟨k + 1, _, st', by simp only [AI.exec, h5], h2⟩
/-- What follows a scope: no jump. -/
def inScp (Q : Exit → St → Prop) : Exit → St → Prop
  | .goto _, _ => False
  | e, st => Q e st
theorem WC.scope {b : Code} {st : St} {Q : Exit → St → Prop} (h : WC P b st (inScp Q)) : WC P (.scope b) st Q := by
  obtain ⟨k, e, st', h1, h2⟩ := h
  have h5 := exec_mono (call_le (show k ≤ k + 1 by omega)) k _ _ _ h1 k (Nat.le_refl _)
  cases e with
  | goto j => exact h2.elim
  | _ => exact ⟨k + 1, _, st', by simp only [AI.exec, h5], h2⟩
theorem WC.round {b : Code} {st : St} {Q : Exit → St → Prop} (h : WC P b st (andThen (fun st' => WC P (.loop b) st' Q) Q)) : WC P (.loop b) st Q := by
  obtain ⟨k, e, st', h1, h2⟩ := h
  cases e with
  | normal =>
    obtain ⟨k', e', st'', h3, h4⟩ := h2
    refine ⟨max k k' + 1, e', st'', ?_, h4⟩
    have h5 := exec_mono (call_le (show k ≤ max k k' + 1 by omega)) k _ _ _ h1 (max k k') (by omega)
    have h6 := exec_mono (call_le (show k' ≤ max k k' + 1 by omega)) k' _ _ _ h3 (max k k') (by omega)
    simp only [AI.exec, h5, h6]
  | _ =>
    refine ⟨k + 1, _, st', ?_, h2⟩
    have h5 := exec_mono (call_le (show k ≤ k + 1 by omega)) k _ _ _ h1 k (Nat.le_refl _)
    simp only [AI.exec, h5]
/-- A loop, by what holds at each round's head and by what each round lowers. -/
theorem WC.loop {b : Code} {Q : Exit → St → Prop} (I : St → Prop) (μ : St → Nat) (hr : ∀ st, I st → WC P b st (andThen (fun st' => I st' ∧ μ st' < μ st) Q)) : ∀ st, I st → WC P (.loop b) st Q := by
  have key : ∀ n st, μ st = n → I st → WC P (.loop b) st Q := by
    intro n
    induction n using Nat.strongRecOn with
    | _ n ih =>
      intro st hn hI
      refine WC.round ((hr st hI).mono fun e st' h => ?_)
      cases e with
      | normal => exact ih _ (by rw [← hn]; exact h.2) st' rfl h.1
      | _ => exact h
  exact fun st h => key _ st rfl h

theorem WO.nil {ops : List Oper} {st : St} {Q : St → Prop} (h : Q st) : WO P ops [] st Q := ⟨0, st, rfl, h⟩
theorem WO.skip {ops l : List Oper} {o : Oper} {st : St} {Q : St → Prop} (hw : wantedL ops st.tmps o = false) (h : WO P ops l { st with tmps := putL st.tmps o.dst undef } Q) : WO P ops (o :: l) st Q := by
  obtain ⟨k, st', h1, h2⟩ := h
  exact ⟨k, st', by simp only [opsL, hw, Bool.false_eq_true, if_false]; exact h1, h2⟩
theorem WO.step {ops l : List Oper} {o : Oper} {st : St} {Q : St → Prop} {v : Value} {H : Heap} {lo : Nat} (hw : wantedL ops st.tmps o = true) (hc : callOf P st.tmps o = none) (hs : step1 P st.tmps st.heap o = some (v, H, lo))
    (h : WO P ops l ⟨putL st.tmps o.dst v, H, min st.lo lo⟩ Q) : WO P ops (o :: l) st Q := by
  obtain ⟨k, st', h1, h2⟩ := h
  exact ⟨k, st', by simp only [opsL, hw, if_true, AI.step, hc, hs]; exact h1, h2⟩
theorem WO.call {ops l : List Oper} {o : Oper} {st : St} {Q : St → Prop} {f : Cal} {args : List Value} (hw : wantedL ops st.tmps o = true) (hc : callOf P st.tmps o = some (f, args))
    (h : WF P f args st.heap (fun v H lo => WO P ops l ⟨putL st.tmps o.dst v, H, min st.lo lo⟩ Q)) : WO P ops (o :: l) st Q := by
  obtain ⟨k, v, H, lo, h1, k', st', h2, h3⟩ := h
  refine ⟨max k k', st', ?_, h3⟩
  have h4 := call_le (show k ≤ max k k' by omega) _ _ _ _ h1
  have h5 := opsL_mono (call_le (show k' ≤ max k k' by omega)) _ _ _ _ h2
  simp only [opsL, hw, if_true, AI.step, hc, h4]
  exact h5
theorem WG.nil {ops : List Oper} {st : St} {Q : St → Prop} (h : Q st) : WG P ops [] st Q := ⟨0, st, rfl, h⟩
theorem WG.skip {ops l : List Oper} {o : Oper} {st : St} {Q : St → Prop} (hw : wantedL ops st.tmps o = false) (h : WG P ops l { st with tmps := putL st.tmps o.dst undef } Q) : WG P ops (o :: l) st Q := by
  obtain ⟨k, st', h1, h2⟩ := h
  exact ⟨k, st', by simp only [opsG, hw, Bool.false_eq_true, if_false]; exact h1, h2⟩
theorem WG.step {ops l : List Oper} {o : Oper} {st : St} {Q : St → Prop} {v : Value} {H : Heap} {lo : Nat} (hw : wantedL ops st.tmps o = true) (hc : callOf P st.tmps o = none) (hs : step1 P st.tmps st.heap o = some (v, H, lo)) (hlo : st.heap.n ≤ lo)
    (h : WG P ops l ⟨putL st.tmps o.dst v, H, min st.lo st.heap.n⟩ Q) : WG P ops (o :: l) st Q := by
  obtain ⟨k, st', h1, h2⟩ := h
  exact ⟨k, st', by simp only [opsG, hw, if_true, AI.step, hc, hs]; rw [if_pos hlo]; exact h1, h2⟩
theorem WG.call {ops l : List Oper} {o : Oper} {st : St} {Q : St → Prop} {f : Cal} {args : List Value} (hw : wantedL ops st.tmps o = true) (hc : callOf P st.tmps o = some (f, args))
    (h : WF P f args st.heap (fun v H lo => st.heap.n ≤ lo ∧ WG P ops l ⟨putL st.tmps o.dst v, H, min st.lo st.heap.n⟩ Q)) : WG P ops (o :: l) st Q := by
  obtain ⟨k, v, H, lo, h1, hlo, k', st', h2, h3⟩ := h
  refine ⟨max k k', st', ?_, h3⟩
  have h4 := call_le (show k ≤ max k k' by omega) _ _ _ _ h1
  have h5 := opsG_mono (call_le (show k' ≤ max k k' by omega)) _ _ _ _ h2
  simp only [opsG, hw, if_true, AI.step, hc, h4]
  rw [if_pos hlo]
  exact h5
theorem WH.nil {ops : List Oper} {st : St} {Q : St → Prop} (h : Q st) : WH P ops [] st Q := ⟨0, st, rfl, h⟩
theorem WH.skip {ops l : List Oper} {o : Oper} {st : St} {Q : St → Prop} (hw : wantedL ops st.tmps o = false) (h : WH P ops l { st with tmps := putL st.tmps o.dst undef } Q) : WH P ops (o :: l) st Q := by
  obtain ⟨k, st', h1, h2⟩ := h
  exact ⟨k, st', by simp only [headL, hw, Bool.false_eq_true, if_false]; exact h1, h2⟩
theorem WH.step {ops l : List Oper} {o : Oper} {st : St} {Q : St → Prop} {v : Value} {H : Heap} {lo : Nat} (hw : wantedL ops st.tmps o = true) (hc : callOf P st.tmps o = none) (hs : step1 P st.tmps st.heap o = some (v, H, lo))
    (h : WH P ops l { st with tmps := putL st.tmps o.dst v } Q) : WH P ops (o :: l) st Q := by
  obtain ⟨k, st', h1, h2⟩ := h
  exact ⟨k, st', by simp only [headL, hw, if_true, hc, hs]; exact h1, h2⟩
theorem WH.call {ops l : List Oper} {o : Oper} {st : St} {Q : St → Prop} {f : Cal} {args : List Value} (hw : wantedL ops st.tmps o = true) (hc : callOf P st.tmps o = some (f, args))
    (h : WF P f args st.heap (fun v _ lo => (plain v = true ∧ st.heap.n ≤ lo) ∧ WH P ops l { st with tmps := putL st.tmps o.dst v } Q)) : WH P ops (o :: l) st Q := by
  obtain ⟨k, v, H, lo, h1, hp, k', st', h2, h3⟩ := h
  refine ⟨max k k', st', ?_, h3⟩
  have h4 := call_le (show k ≤ max k k' by omega) _ _ _ _ h1
  have h5 := headL_mono (call_le (show k' ≤ max k k' by omega)) _ _ _ _ h2
  simp only [headL, hw, if_true, hc, h4]
  rw [if_pos hp]
  exact h5
theorem WC.region {id : Nat} {ops : Array Oper} {st : St} {Q : Exit → St → Prop} (h : WO P ops.toList ops.toList st (Q .normal)) : WC P (.region id ops false) st Q := by
  obtain ⟨k, st', h1, h2⟩ := h
  refine ⟨k + 1, .normal, st', ?_, h2⟩
  have := opsL_mono (call_le (show k ≤ k + 1 by omega)) _ _ _ _ h1
  simp only [AI.exec, Bool.false_eq_true, if_false, this]
theorem WC.wide {id : Nat} {ops : Array Oper} {st : St} {Q : Exit → St → Prop} (hs : wideSel ops.toList = true) (h : WG P ops.toList (pickOps ops.toList (wideI ops.toList)) st (Q .normal)) : WC P (.region id ops true) st Q := by
  obtain ⟨k, st', h1, h2⟩ := h
  refine ⟨k + 1, .normal, st', ?_, h2⟩
  have := opsG_mono (call_le (show k ≤ k + 1 by omega)) _ _ _ _ h1
  simp only [AI.exec, if_true, drawX, hs, cond_true, this]
theorem WC.draw {id : Nat} {ops : Array Oper} {st : St} {Q : Exit → St → Prop} (hs : wideSel ops.toList = false) (h : WH P ops.toList (ops.toList.take (splitM ops.toList)) st (fun st1 => WO P ops.toList ((ops.toList.drop (splitM ops.toList)).take (splitQ ops.toList)) st1 (fun st2 => WH P ops.toList (ops.toList.drop (splitM ops.toList + splitQ ops.toList)) st2 (Q .normal)))) : WC P (.region id ops true) st Q := by
  obtain ⟨k, st1, h1, k', st2, h2, k'', st3, h3, h4⟩ := h
  refine ⟨max k (max k' k'') + 1, .normal, st3, ?_, h4⟩
  have e1 := headL_mono (call_le (show k ≤ max k (max k' k'') + 1 by omega)) _ _ _ _ h1
  have e2 := opsL_mono (call_le (show k' ≤ max k (max k' k'') + 1 by omega)) _ _ _ _ h2
  have e3 := headL_mono (call_le (show k'' ≤ max k (max k' k'') + 1 by omega)) _ _ _ _ h3
  simp only [AI.exec, if_true, drawX, hs, cond_false, drawL, e1, e2, e3]

/-- A call, by its body. -/
theorem WF.enter {f : FuncId} {l : List Value} {H : Heap} {Q : Value → Heap → Nat → Prop} {fn : Func} {c : Code} (hor : Oracle.val P f = none) (hf : P.funcs[f]? = some fn) (hb : fn.body = some c) (hok : codeOk fn.ntmps c = true) (hl : l.length ≤ fn.ntmps)
    (h : WC P c ⟨putArgs l 0 .leaf, H, H.n⟩ (fun e st => ended e = true ∧ ∃ vs, ressOf P st.tmps st.heap fn.results.toList = some vs ∧ vs.all notTuple = true ∧ Q (tupled vs) st.heap st.lo)) : WF P (.fn f) l H Q := by
  obtain ⟨k, e, st, h1, h2, vs, h3, h4, h5⟩ := h
  refine ⟨k + 1, tupled vs, st.heap, st.lo, ?_, h5⟩
  rw [call]
  have hor' : oracle P f l H = none := by unfold oracle; rw [hor]
  simp only [hor', hf, hb]
  rw [if_pos ⟨hok, hl⟩]
  simp only [h1, h2, if_true, h3, h4]
/-- A round, by its code. -/
theorem WF.round {b : Nat} {l : List Value} {H : Heap} {Q : Value → Heap → Nat → Prop} {pend : Option Code} {tm : Tm} {ps : Array Tmp} {x y : Code} (hg : H.get b = some (.loop .ready pend tm ps x y)) (hl : l.length = ps.size)
    (h : WC P x ⟨putPs (ps.toList.zip l) tm, H, H.n⟩ (fun e st => e = .normal ∧ ∃ pend1 tm1 ps1 x1 y1, st.heap.get b = some (.loop .ready pend1 tm1 ps1 x1 y1) ∧
      WC P y ⟨st.tmps, st.heap.set b (.loop .busy pend1 tm1 ps1 x1 y1), min st.lo b⟩ (fun e2 st2 => ∃ s2 pend2 tm2 ps2 x2 y2 j, st2.heap.get b = some (.loop s2 pend2 tm2 ps2 x2 y2) ∧ pendOf e2 = some j ∧
        Q (.bool j.isNone) (st2.heap.set b (.loop (bif j.isNone then .ready else .done) j tm2 ps2 x2 y2)) (min st2.lo b)))) : WF P (.rnd b) l H Q := by
  obtain ⟨k, e, st, h1, rfl, pend1, tm1, ps1, x1, y1, h2, k', e2, st2, h3, s2, pend2, tm2, ps2, x2, y2, j, h4, h5, h6⟩ := h
  refine ⟨max k k' + 1, _, _, _, ?_, h6⟩
  rw [call]
  have g1 := WC.exec h1 (Nat.le_max_left k k')
  have g2 := WC.exec h3 (Nat.le_max_right k k')
  unfold AI.round
  simp only [hg]
  rw [if_pos hl]
  simp only [g1, h2, g2, h4, h5]
/-- A range over a function, by the one call. -/
theorem WC.rangeFunc {g : Operand} {ps : Array Tmp} {x y : Code} {st : St} {Q : Exit → St → Prop} {f : FuncId} {cap : List Value} (hc : calleeOf P st.tmps g #[] = some (f, cap))
    (h : WF P (.fn f) (.func (.yield st.heap.n) #[] #[] :: cap) (st.heap.new (.loop .ready none st.tmps ps x y)) (fun _ H lo => ∃ s pend tm ps' x' y' e, H.get st.heap.n = some (.loop s pend tm ps' x' y') ∧ notBusy s = true ∧ jumpOf pend = some e ∧
      Q e ⟨st.tmps, H.set st.heap.n (.loop .exhausted pend tm ps' x' y'), min (min st.lo st.heap.n) lo⟩)) : WC P (.rangeFunc g ps x y) st Q := by
  obtain ⟨k, v, H, lo, h1, s, pend, tm, ps', x', y', e, h2, h3, h4, h5⟩ := h
  refine ⟨k + 1, e, _, ?_, h5⟩
  have g1 := call_le (show k ≤ k + 1 by omega) _ _ _ _ h1
  simp only [AI.exec, hc, g1, loopEnd, h2, h3, h4, if_true]
theorem WF.known {f : FuncId} {v : Value} {H : Heap} {Q : Value → Heap → Nat → Prop} (ho : Oracle.val P f = some v) (hb : Oracle.base P H) (h : Q v H H.n) : WF P (.fn f) [] H Q :=
  ⟨1, v, H, H.n, by rw [call]; unfold oracle; simp only [ho, hb, if_true], h⟩
end
end Go.AI

/- The abstract machine: the rules as equations, to be used from left to right. -/
namespace Go.AI
section
variable {P : Program} [Oracle P]

theorem wc_skip {st : St} {Q : Exit → St → Prop} : WC P .skip st Q ↔ Q .normal st := by
  refine ⟨?_, WC.skip⟩
  rintro ⟨k, e, st', h1, h2⟩
  cases k with
  | zero => simp [exec] at h1
  | succ k => simp only [exec, Option.some.injEq, Prod.mk.injEq] at h1; obtain ⟨rfl, rfl⟩ := h1; exact h2
theorem wc_exit {id : Nat} {st : St} {Q : Exit → St → Prop} : WC P (.exit id) st Q ↔ Q (.exit id) st := by
  refine ⟨?_, WC.exit⟩
  rintro ⟨k, e, st', h1, h2⟩
  cases k with
  | zero => simp [exec] at h1
  | succ k => simp only [exec, Option.some.injEq, Prod.mk.injEq] at h1; obtain ⟨rfl, rfl⟩ := h1; exact h2
theorem wc_ret {st : St} {Q : Exit → St → Prop} : WC P .ret st Q ↔ Q .ret st := by
  refine ⟨?_, WC.ret⟩
  rintro ⟨k, e, st', h1, h2⟩
  cases k with
  | zero => simp [exec] at h1
  | succ k => simp only [exec, Option.some.injEq, Prod.mk.injEq] at h1; obtain ⟨rfl, rfl⟩ := h1; exact h2
theorem wc_seq {x y : Code} {st : St} {Q : Exit → St → Prop} : WC P (.seq x y) st Q ↔ WC P x st (andThen (fun st' => WC P y st' Q) Q) := by
  refine ⟨?_, WC.seq⟩
  rintro ⟨k, e, st', h1, h2⟩
  cases k with
  | zero => simp [exec] at h1
  | succ k =>
    simp only [exec] at h1
    split at h1
    · rename_i st1 hx
      exact ⟨k + 1, .normal, st1, exec_mono (fun _ _ _ _ h => h) k x st _ hx (k + 1) (by omega), k + 1, e, st', exec_mono (fun _ _ _ _ h => h) k y st1 _ h1 (k + 1) (by omega), h2⟩
    · rename_i hne
      refine ⟨k + 1, e, st', exec_mono (fun _ _ _ _ h => h) k x st _ h1 (k + 1) (by omega), ?_⟩
      cases e with
      | normal => exact absurd h1 (hne st')
      | _ => exact h2
theorem wc_cond {x : Operand} {y z : Code} {st : St} {Q : Exit → St → Prop} {b : Bool} (hx : ev P st.tmps x = some (.bool b)) : WC P (.cond x y z) st Q ↔ WC P (if b then y else z) st Q := by
  refine ⟨?_, WC.cond hx⟩
  rintro ⟨k, e, st', h1, h2⟩
  cases k with
  | zero => simp [exec] at h1
  | succ k =>
    simp only [exec, hx] at h1
    cases b <;> exact ⟨k + 1, e, st', exec_mono (fun _ _ _ _ h => h) k _ st _ h1 (k + 1) (by omega), h2⟩
theorem wc_block {id : Nat} {b : Code} {st : St} {Q : Exit → St → Prop} : WC P (.block id b) st Q ↔ WC P b st (inBlk id Q) := by
  refine ⟨?_, WC.block⟩
  rintro ⟨k, e, st', h1, h2⟩
  cases k with
  | zero => simp [exec] at h1
  | succ k =>
    simp only [exec] at h1
    split at h1
    · rename_i j st1 hx
      refine ⟨k + 1, .exit j, st1, exec_mono (fun _ _ _ _ h => h) k b st _ hx (k + 1) (by omega), ?_⟩
      split at h1
      · rename_i hj; cases h1; simp only [inBlk, hj, if_true]; exact h2
      · rename_i hj; cases h1; simp only [inBlk, hj, if_false]; exact h2
    · rename_i hne
      refine ⟨k + 1, e, st', exec_mono (fun _ _ _ _ h => h) k b st _ h1 (k + 1) (by omega), ?_⟩
      cases e with
      | exit j => exact absurd h1 (hne j st')
      | _ => exact h2
theorem wc_region {id : Nat} {ops : Array Oper} {st : St} {Q : Exit → St → Prop} : WC P (.region id ops false) st Q ↔ WO P ops.toList ops.toList st (Q .normal) := by
  refine ⟨?_, WC.region⟩
  rintro ⟨k, e, st', h1, h2⟩
  cases k with
  | zero => simp [exec] at h1
  | succ k =>
    simp only [exec, Bool.false_eq_true, if_false] at h1
    split at h1 <;> cases h1
    rename_i hx
    exact ⟨k + 1, st', hx, h2⟩
theorem wo_nil {ops : List Oper} {st : St} {Q : St → Prop} : WO P ops [] st Q ↔ Q st := by
  refine ⟨?_, WO.nil⟩
  rintro ⟨k, st', h1, h2⟩
  simp only [opsL, Option.some.injEq] at h1; subst h1; exact h2
/-- One operation, as it is seen. -/
def oneOp (P : Program) [Oracle P] (ops : List Oper) (o : Oper) (st : St) (K : St → Prop) : Prop :=
  if wantedL ops st.tmps o = true then
    match callOf P st.tmps o with
    | some (f, args) => WF P f args st.heap (fun v H lo => K ⟨putL st.tmps o.dst v, H, min st.lo lo⟩)
    | none => match step1 P st.tmps st.heap o with
      | some (v, H, lo) => K ⟨putL st.tmps o.dst v, H, min st.lo lo⟩
      | none => False
  else K { st with tmps := putL st.tmps o.dst undef }
theorem wo_cons {ops l : List Oper} {o : Oper} {st : St} {Q : St → Prop} : WO P ops (o :: l) st Q ↔ oneOp P ops o st (fun st' => WO P ops l st' Q) := by
  unfold oneOp
  by_cases hw : wantedL ops st.tmps o = true
  · rw [if_pos hw]
    cases hc : callOf P st.tmps o with
    | some fa =>
      obtain ⟨f, args⟩ := fa
      refine ⟨?_, WO.call hw hc⟩
      rintro ⟨k, st', h1, h2⟩
      simp only [opsL, hw, if_true, AI.step, hc] at h1
      split at h1
      · rename_i v H lo hf
        exact ⟨k, v, H, lo, hf, k, st', h1, h2⟩
      · cases h1
    | none =>
      cases hs : step1 P st.tmps st.heap o with
      | some r =>
        obtain ⟨v, H, lo⟩ := r
        refine ⟨?_, WO.step hw hc hs⟩
        rintro ⟨k, st', h1, h2⟩
        simp only [opsL, hw, if_true, AI.step, hc, hs] at h1
        exact ⟨k, st', h1, h2⟩
      | none =>
        refine ⟨?_, False.elim⟩
        rintro ⟨k, st', h1, h2⟩
        simp [opsL, hw, AI.step, hc, hs] at h1
  · rw [if_neg hw]
    refine ⟨?_, WO.skip (by simpa using hw)⟩
    rintro ⟨k, st', h1, h2⟩
    simp only [opsL] at h1
    rw [if_neg hw] at h1
    exact ⟨k, st', h1, h2⟩

theorem wh_nil {ops : List Oper} {st : St} {Q : St → Prop} : WH P ops [] st Q ↔ Q st := by
  refine ⟨?_, WH.nil⟩
  rintro ⟨k, st', h1, h2⟩
  simp only [headL, Option.some.injEq] at h1; subst h1; exact h2
def oneHead (P : Program) [Oracle P] (ops : List Oper) (o : Oper) (st : St) (K : St → Prop) : Prop :=
  if wantedL ops st.tmps o = true then
    match callOf P st.tmps o with
    | some (f, args) => WF P f args st.heap (fun v _ lo => (plain v = true ∧ st.heap.n ≤ lo) ∧ K { st with tmps := putL st.tmps o.dst v })
    | none => match step1 P st.tmps st.heap o with
      | some (v, _, _) => K { st with tmps := putL st.tmps o.dst v }
      | none => False
  else K { st with tmps := putL st.tmps o.dst undef }
theorem wh_cons {ops l : List Oper} {o : Oper} {st : St} {Q : St → Prop} : WH P ops (o :: l) st Q ↔ oneHead P ops o st (fun st' => WH P ops l st' Q) := by
  unfold oneHead
  by_cases hw : wantedL ops st.tmps o = true
  · rw [if_pos hw]
    cases hc : callOf P st.tmps o with
    | some fa =>
      obtain ⟨f, args⟩ := fa
      refine ⟨?_, WH.call hw hc⟩
      rintro ⟨k, st', h1, h2⟩
      simp only [headL, hw, if_true, hc] at h1
      split at h1
      · rename_i v H lo hf
        split at h1
        · rename_i hp
          exact ⟨k, v, H, lo, hf, hp, k, st', h1, h2⟩
        · cases h1
      · cases h1
    | none =>
      cases hs : step1 P st.tmps st.heap o with
      | some r =>
        obtain ⟨v, H, lo⟩ := r
        refine ⟨?_, WH.step hw hc hs⟩
        rintro ⟨k, st', h1, h2⟩
        simp only [headL, hw, if_true, hc, hs] at h1
        exact ⟨k, st', h1, h2⟩
      | none =>
        refine ⟨?_, False.elim⟩
        rintro ⟨k, st', h1, h2⟩
        simp [headL, hw, hc, hs] at h1
  · rw [if_neg hw]
    refine ⟨?_, WH.skip (by simpa using hw)⟩
    rintro ⟨k, st', h1, h2⟩
    simp only [headL] at h1
    rw [if_neg hw] at h1
    exact ⟨k, st', h1, h2⟩

@[simp] theorem andThen_normal {K : St → Prop} {Q : Exit → St → Prop} {st : St} : andThen K Q .normal st ↔ K st := Iff.rfl
@[simp] theorem andThen_ret {K : St → Prop} {Q : Exit → St → Prop} {st : St} : andThen K Q .ret st ↔ Q .ret st := Iff.rfl
@[simp] theorem andThen_exit {K : St → Prop} {Q : Exit → St → Prop} {st : St} {j : Nat} : andThen K Q (.exit j) st ↔ Q (.exit j) st := Iff.rfl
@[simp] theorem inBlk_normal {id : Nat} {Q : Exit → St → Prop} {st : St} : inBlk id Q .normal st ↔ Q .normal st := Iff.rfl
@[simp] theorem inBlk_ret {id : Nat} {Q : Exit → St → Prop} {st : St} : inBlk id Q .ret st ↔ Q .ret st := Iff.rfl
@[simp] theorem inBlk_exit {id : Nat} {Q : Exit → St → Prop} {st : St} {j : Nat} : inBlk id Q (.exit j) st ↔ if j = id then Q .normal st else Q (.exit j) st := Iff.rfl

end
end Go.AI

/- The abstract machine: what has to be shown so that code answers as it should, found by evaluation. -/
namespace Go.AI
section
variable (P : Program)

/-- What is known of the slots. -/
abbrev Kn := Tr Value

def Agree (tm : Tm) (L : Kn) : Prop := ∀ i v, L.get i = some v → Tm.at tm i = v

def getK : Kn → Nat → (Value → Prop) → Prop
  | .leaf, _, _ => False
  | .node l v r, i, K => bif Nat.beq i 0 then (match v with | some v => K v | none => False) else
      bif Nat.beq (i % 2) 1 then getK l (i / 2) K else getK r (i / 2 - 1) K

def setK : Nat → Kn → Nat → Value → (Kn → Prop) → Prop
  | 0, _, _, _, _ => False
  | f + 1, .leaf, i, v, K => bif Nat.beq i 0 then K (.node .leaf (some v) .leaf) else
      bif Nat.beq (i % 2) 1 then setK f .leaf (i / 2) v fun l => K (.node l none .leaf) else setK f .leaf (i / 2 - 1) v fun r => K (.node .leaf none r)
  | f + 1, .node l u r, i, v, K => bif Nat.beq i 0 then K (.node l (some v) r) else
      bif Nat.beq (i % 2) 1 then setK f l (i / 2) v fun l => K (.node l u r) else setK f r (i / 2 - 1) v fun r => K (.node l u r)

def putK (L : Kn) (d : Option Tmp) (v : Value) (K : Kn → Prop) : Prop :=
  match d with
  | some d => setK 14 L d v K
  | none => K L

def mkK : List (Nat × Value) → Kn → (Kn → Prop) → Prop
  | [], L, K => K L
  | (i, v) :: r, L, K => setK 14 L i v fun L => mkK r L K

def nthK {α : Type} : List α → Nat → (α → Prop) → Prop
  | [], _, _ => False
  | x :: l, i, K => bif Nat.beq i 0 then K x else nthK l (i - 1) K

def evK (L : Kn) (x : Operand) (K : Value → Prop) : Prop :=
  match x with
  | .tmp t => getK L t K
  | .const v => bif plain v then K v else False
  | .global g => bif Nat.blt g P.globals.size then K (.pointer (some ⟨g, 0, none⟩)) else False
  | .func f => K (.func (.func f) #[] #[])

def evsK (L : Kn) : List Operand → (List Value → Prop) → Prop
  | [], K => K []
  | x :: r, K => evK P L x fun v => evsK L r fun l => K (v :: l)

def evPartsK (L : Kn) : List (Nat × Operand) → (List (Nat × Value) → Prop) → Prop
  | [], K => K []
  | (i, x) :: r, K => evK P L x fun v => evPartsK L r fun l => K ((i, v) :: l)

def evO (L : Kn) (x : Option Operand) (K : Option (Option Value) → Prop) : Prop :=
  match x with
  | none => K none
  | some x => evK P L x fun v => K (some (some v))

/-- What is left to the reader. -/
def other (o : Oper) (L : Kn) (H : Heap) (K : Value → Heap → Prop) : Prop :=
  ∃ v, (∀ tm, Agree tm L → step1 P tm H o = some (v, H, H.n)) ∧ K v H

def inI64 (n : Int) : Prop := -9223372036854775808 ≤ n ∧ n < 9223372036854775808

def sayInt (wr : Bool) (k : IntKind) (n : Int) (K : Value → Prop) : Prop :=
  match wr, k with
  | false, .i64 => inI64 n ∧ K (.int .i64 n)
  | _, k => ∀ r, r = k.wrap n → K (.int k r)

def ask (p : Prop) (K : Value → Prop) : Prop := (p → K (.bool true)) ∧ (¬ p → K (.bool false))

def binK (wr : Bool) (op : BinOp) (a b : Value) (K : Value → Prop) (other : Prop) : Prop :=
  match a, b with
  | .int k x, .int j y => bif decide (k = j) then
      (match op with
      | .add => sayInt wr k (x + y) K
      | .sub => sayInt wr k (x - y) K
      | .mul => sayInt wr k (x * y) K
      | .eql => ask (x = y) K
      | .neq => ask (¬ x = y) K
      | .lss => ask (x < y) K
      | .leq => ask (x ≤ y) K
      | .gtr => ask (y < x) K
      | .geq => ask (y ≤ x) K
      | _ => other)
    else other
  | _, _ => other

def vcOp (B : Nat) (wr : Bool) (o : Oper) (L : Kn) (H : Heap) (K : Value → Heap → Prop) : Prop :=
  match o.op with
  | .move x => evK P L x fun v => K v H
  | .assign x => evK P L x fun v => K v H
  | .pick c a b => evK P L c fun v => match v with
    | .bool true => evK P L a fun v => K v H
    | .bool false => evK P L b fun v => K v H
    | _ => False
  | .alloc t => ∃ v H', sAlloc P H t = some (v, H', H.n) ∧ K v H'
  | .box t x => evK P L x fun v => notTuple v = true ∧ K (.pointer (some ⟨H.n, 0, none⟩)) (anew H v.cells.toList t 1)
  | .load t x => evK P L x fun p => ∃ r, aload P t H p = some r ∧ K r H
  | .store t x y => evK P L x fun a => evK P L y fun v => ∃ H' b, astore P t H v a = some (H', b) ∧ B ≤ b ∧ K undef H'
  | .nilCheck x => evK P L x fun v => ∃ r, nilOk v = some r ∧ K r H
  | .makeFunc fn first cap => match fn with
    | .func f => bif decide (first.size = 0) then evsK P L cap.toList fun l => l.all cellLike = true ∧ K (.func (.func f) #[] l.toArray) H else False
    | _ => False
  | .makeMap _ r => match r with
    | none => K (.map (some H.n)) (H.new (.map []))
    | some _ => False
  | .makeSlice t l c => evK P L l fun l => evK P L c fun c => ∃ v H', amakeSlice P H t l c = some (v, H', H.n) ∧ K v H'
  | .slice t x lo hi mx => match mx with
    | some _ => False
    | none => evK P L x fun v => evO P L lo fun lo => evO P L hi fun hi => ∃ r, aslice P t v lo hi = some r ∧ K r H
  | .fieldAddr s x f => evK P L x fun v => ∃ r, afieldAddr P s v f = some r ∧ K r H
  | .indexAddr t x i => evK P L x fun v => evK P L i fun i => ∃ r, aindexAddr P t v i = some r ∧ K r H
  | .field t x f => evK P L x fun v => ∃ r, afield P t v f = some r ∧ K r H
  | .index t x i => evK P L x fun v => evK P L i fun i => ∃ r, aindex P t v i = some r ∧ K r H
  | .extract x i => evK P L x fun v => match v with
    | .tuple vs => nthK vs.toList i fun r => K r H
    | _ => False
  | .build t parts => evPartsK P L parts.toList fun l => ∃ r, abuild P t l = some r ∧ K r H
  | .buildSlice t len parts => evPartsK P L parts.toList fun l => ∃ v H', abuildSlice P H t len l = some (v, H', H.n) ∧ K v H'
  | .lookup t x k ok => evK P L x fun x => evK P L k fun k => ∃ r, alookup P H t x k ok = some r ∧ K r H
  | .mapUpdate t m k x => evK P L m fun m => evK P L k fun k => evK P L x fun x => ∃ H' b, amapUpdate P H t m k x = some (H', b) ∧ B ≤ b ∧ K undef H'
  | .insert t m k x => evK P L m fun m => evK P L k fun k => evK P L x fun x => ∃ H' b, amapUpdate P H t m k x = some (H', b) ∧ B ≤ b ∧ K undef H'
  | .binOp op _ x y _ => evK P L x fun a => evK P L y fun b => binK wr op a b (fun v => K v H) (other P o L H K)
  | .unOp op _ x => match op with
    | .not => evK P L x fun v => match v with
      | .bool true => K (.bool false) H
      | .bool false => K (.bool true) H
      | _ => other P o L H K
    | _ => other P o L H K
  | .call c => match c.callee with
    | .builtin .len => match c.args.toList, c.argTypes.toList with
      | [x], [t] => evK P L x fun v => ∃ r, alen P H t v = some r ∧ K r H
      | _, _ => False
    | .builtin .append => match c.args.toList with
      | [x, y] => evK P L x fun x => evK P L y fun y => ∃ v H' b, aappend P H c.argTypes x y = some (v, H', b) ∧ B ≤ b ∧ K v H'
      | _ => False
    | .builtin _ => other P o L H K
    | _ => False
  | _ => other P o L H K

variable [Oracle P]

/-- A call that writes no block below B. -/
structure CallB (B : Nat) (f : FuncId) (l : List Value) (H : Heap) (Q : Value → Heap → Prop) : Prop where
  run : WF P (.fn f) l H fun v H' lo => (B ≤ lo ∧ B ≤ H'.n) ∧ Q v H'
/-- A round that writes no block below B. -/
structure RoundB (B : Nat) (b : Nat) (l : List Value) (H : Heap) (Q : Value → Heap → Prop) : Prop where
  run : WF P (.rnd b) l H fun v H' lo => (B ≤ lo ∧ B ≤ H'.n) ∧ Q v H'

/-- An operation: a call of a function below N goes to Kc. -/
def vcStep (N B Bc : Nat) (wr : Bool) (o : Oper) (L : Kn) (H : Heap) (Kc K : Value → Heap → Prop) : Prop :=
  match o.op with
  | .call c => match c.callee with
    | .value g => evK P L g fun v => match v with
      | .func (.func f) first cap => bif Nat.beq (assoc (Oracle.exts P) f) 0 then
          bif decide (first.size = 0) && (Nat.ble 2 f && Nat.blt f N) then evsK P L c.args.toList fun l => CallB P Bc f (l ++ cap.toList) H Kc else False
        else bif decide (first.size = 0) && decide (cap.size = 0) then evsK P L c.args.toList fun l => ∃ v, extVal (assoc (Oracle.exts P) f) l = some v ∧ K v H else False
      | .func (.yield b) first cap => bif decide (first.size = 0) && decide (cap.size = 0) then evsK P L c.args.toList fun l => RoundB P Bc b l H Kc else False
      | _ => False
    | .invoke _ _ => False
    | .builtin _ => vcOp P B wr o L H K
  | _ => vcOp P B wr o L H K

/-- Whether a guard lets through; one that was not itself let through lets nothing through. -/
def guardK (ops : List Oper) (L : Kn) (j : Nat) (want : Bool) (K : Bool → Prop) : Prop :=
  nthK ops j fun o => match o.dst with
    | some d => getK L d fun v => match v with
      | .bool true => K true
      | .bool false => K false
      | .tuple _ => K !want
      | _ => False
    | none => False

def bEq : Bool → Bool → Bool
  | true, b => b
  | false, b => !b

def vcOps (N B : Nat) (wr : Bool) (ops : List Oper) : List Oper → Kn → Heap → (Kn → Heap → Prop) → Prop
  | [], L, H, K => K L H
  | o :: rest, L, H, K =>
    match o.guard with
    | none => vcStep P N B B wr o L H (fun v H' => putK L o.dst v fun L' => vcOps N B wr ops rest L' H' K) (fun v H' => putK L o.dst v fun L' => vcOps N B wr ops rest L' H' K)
    | some (j, want) => guardK ops L j want fun b => bif bEq b want then
        vcStep P N B B wr o L H (fun v H' => putK L o.dst v fun L' => vcOps N B wr ops rest L' H' K) (fun v H' => putK L o.dst v fun L' => vcOps N B wr ops rest L' H' K)
      else putK L o.dst undef fun L' => vcOps N B wr ops rest L' H K

def vcHead (N B : Nat) (wr : Bool) (ops : List Oper) : List Oper → Kn → Heap → (Kn → Heap → Prop) → Prop
  | [], L, H, K => K L H
  | o :: rest, L, H, K =>
    match o.guard with
    | none => vcStep P N B H.n wr o L H (fun v _ => plain v = true ∧ putK L o.dst v fun L' => vcHead N B wr ops rest L' H K) (fun v _ => putK L o.dst v fun L' => vcHead N B wr ops rest L' H K)
    | some (j, want) => guardK ops L j want fun b => bif bEq b want then
        vcStep P N B H.n wr o L H (fun v _ => plain v = true ∧ putK L o.dst v fun L' => vcHead N B wr ops rest L' H K) (fun v _ => putK L o.dst v fun L' => vcHead N B wr ops rest L' H K)
      else putK L o.dst undef fun L' => vcHead N B wr ops rest L' H K

/-- Operations of which none writes what was there before it. -/
def vcG (N B : Nat) (wr : Bool) (ops : List Oper) : List Oper → Kn → Heap → (Kn → Heap → Prop) → Prop
  | [], L, H, K => K L H
  | o :: rest, L, H, K =>
    match o.guard with
    | none => vcStep P N H.n H.n wr o L H (fun v H' => putK L o.dst v fun L' => vcG N B wr ops rest L' H' K) (fun v H' => putK L o.dst v fun L' => vcG N B wr ops rest L' H' K)
    | some (j, want) => guardK ops L j want fun b => bif bEq b want then
        vcStep P N H.n H.n wr o L H (fun v H' => putK L o.dst v fun L' => vcG N B wr ops rest L' H' K) (fun v H' => putK L o.dst v fun L' => vcG N B wr ops rest L' H' K)
      else putK L o.dst undef fun L' => vcG N B wr ops rest L' H K

/-- Code, from whatever slots agree with what is known; it writes no block below B. -/
structure WCv (B : Nat) (c : Code) (L : Kn) (H : Heap) (Q : Exit → Kn → Heap → Prop) : Prop where
  run : ∀ tm lo, Agree tm L → B ≤ lo → B ≤ H.n → WC P c ⟨tm, H, lo⟩ fun e st => B ≤ st.lo ∧ B ≤ st.heap.n ∧ ∃ L', Agree st.tmps L' ∧ Q e L' st.heap

def vc (N B : Nat) (wr : Bool) : Code → Kn → Heap → (Exit → Kn → Heap → Prop) → Prop
  | .skip, L, H, Q => Q .normal L H
  | .label _, L, H, Q => Q .normal L H
  | .exit id, L, H, Q => Q (.exit id) L H
  | .ret, L, H, Q => Q .ret L H
  | .region _ ops draw, L, H, Q => match draw with
    | false => vcOps P N B wr ops.toList ops.toList L H (Q .normal)
    | true => bif wideSel ops.toList then False else vcHead P N B wr ops.toList (ops.toList.take (splitM ops.toList)) L H fun L H => vcOps P N B wr ops.toList ((ops.toList.drop (splitM ops.toList)).take (splitQ ops.toList)) L H fun L H => vcHead P N B wr ops.toList (ops.toList.drop (splitM ops.toList + splitQ ops.toList)) L H (Q .normal)
  | .seq a b, L, H, Q => vc N B wr a L H fun e L H => match e with
    | .normal => vc N B wr b L H Q
    | e => Q e L H
  | .cond x a b, L, H, Q => evK P L x fun v => match v with
    | .bool true => vc N B wr a L H Q
    | .bool false => vc N B wr b L H Q
    | _ => False
  | .block id b, L, H, Q => vc N B wr b L H fun e L H => match e with
    | .exit j => bif Nat.beq j id then Q .normal L H else Q (.exit j) L H
    | e => Q e L H
  | .scope b, L, H, Q => vc N B wr b L H fun e L H => match e with
    | .goto _ => False
    | e => Q e L H
  | .loop b, L, H, Q => WCv P B (.loop b) L H Q
  | .rangeFunc g ps x y, L, H, Q => WCv P B (.rangeFunc g ps x y) L H Q
  | _, _, _, _ => False
end
end Go.AI

/- The abstract machine: what has to be shown is enough. -/
namespace Go.AI
section
variable {P : Program}

theorem cond_iff {b : Bool} {p q : Prop} (h : bif b then p else q) : (b = true ∧ p) ∨ (b = false ∧ q) := by
  cases b
  · exact .inr ⟨rfl, h⟩
  · exact .inl ⟨rfl, h⟩

theorem getK_spec : ∀ (L : Kn) (i : Nat) (K : Value → Prop), getK L i K → ∃ v, L.get i = some v ∧ K v
  | .leaf, _, _, h => h.elim
  | .node l u r, i, K, h => by
    unfold getK at h
    unfold Tr.get
    rcases cond_iff h with ⟨h1, h2⟩ | ⟨h1, h2⟩
    · rw [h1]
      cases u with
      | some v => exact ⟨v, rfl, h2⟩
      | none => exact h2.elim
    · rw [h1]
      rcases cond_iff h2 with ⟨h3, h4⟩ | ⟨h3, h4⟩
      · rw [h3]; exact getK_spec l _ K h4
      · rw [h3]; exact getK_spec r _ K h4

theorem half_lt {f i : Nat} (h : i + 1 < 2 ^ (f + 1)) (h0 : Nat.beq i 0 = false) : (Nat.beq (i % 2) 1 = true → i / 2 + 1 < 2 ^ f) ∧ (Nat.beq (i % 2) 1 = false → i / 2 - 1 + 1 < 2 ^ f) := by
  have hp : 2 ^ (f + 1) = 2 * 2 ^ f := by rw [Nat.pow_succ]; omega
  have h0' : i ≠ 0 := by intro h; subst h; simp [Nat.beq] at h0
  constructor
  · intro h1
    have : i % 2 = 1 := Nat.eq_of_beq_eq_true h1
    omega
  · intro h1
    have : i % 2 ≠ 1 := Nat.ne_of_beq_eq_false h1
    omega

theorem setK_spec (v : Value) : ∀ (f : Nat) (L : Kn) (i : Nat) (K : Kn → Prop), setK f L i v K → i + 1 < 2 ^ f → K (Tr.setF v f L i)
  | 0, _, _, _, h, _ => h.elim
  | f + 1, .leaf, i, K, h, hi => by
    unfold setK at h
    unfold Tr.setF
    rcases cond_iff h with ⟨h1, h2⟩ | ⟨h1, h2⟩
    · rw [h1]; exact h2
    · rw [h1]
      have hh := half_lt hi h1
      rcases cond_iff h2 with ⟨h3, h4⟩ | ⟨h3, h4⟩
      · rw [h3]; exact setK_spec v f .leaf _ _ h4 (hh.1 h3)
      · rw [h3]; exact setK_spec v f .leaf _ _ h4 (hh.2 h3)
  | f + 1, .node l u r, i, K, h, hi => by
    unfold setK at h
    unfold Tr.setF
    rcases cond_iff h with ⟨h1, h2⟩ | ⟨h1, h2⟩
    · rw [h1]; exact h2
    · rw [h1]
      have hh := half_lt hi h1
      rcases cond_iff h2 with ⟨h3, h4⟩ | ⟨h3, h4⟩
      · rw [h3]; exact setK_spec v f l _ _ h4 (hh.1 h3)
      · rw [h3]; exact setK_spec v f r _ _ h4 (hh.2 h3)
theorem setK_big (v : Value) : ∀ (f : Nat) (L : Kn) (i : Nat) (K : Kn → Prop), setK f L i v K → i + 1 < 2 ^ f
  | 0, _, _, _, h => h.elim
  | f + 1, L, i, K, h => by
    have hp : 2 ^ (f + 1) = 2 * 2 ^ f := by rw [Nat.pow_succ]; omega
    have h2p : 0 < 2 ^ f := Nat.pos_of_ne_zero (by simp)
    have key : Nat.beq i 0 = true ∨ (Nat.beq i 0 = false ∧ ((∃ L' K', Nat.beq (i % 2) 1 = true ∧ setK f L' (i / 2) v K') ∨ ∃ L' K', Nat.beq (i % 2) 1 = false ∧ setK f L' (i / 2 - 1) v K')) := by
      cases L with
      | leaf =>
        unfold setK at h
        rcases cond_iff h with ⟨h1, h2⟩ | ⟨h1, h2⟩
        · exact .inl h1
        · rcases cond_iff h2 with ⟨h3, h4⟩ | ⟨h3, h4⟩
          · exact .inr ⟨h1, .inl ⟨_, _, h3, h4⟩⟩
          · exact .inr ⟨h1, .inr ⟨_, _, h3, h4⟩⟩
      | node l u r =>
        unfold setK at h
        rcases cond_iff h with ⟨h1, h2⟩ | ⟨h1, h2⟩
        · exact .inl h1
        · rcases cond_iff h2 with ⟨h3, h4⟩ | ⟨h3, h4⟩
          · exact .inr ⟨h1, .inl ⟨_, _, h3, h4⟩⟩
          · exact .inr ⟨h1, .inr ⟨_, _, h3, h4⟩⟩
    rcases key with h1 | ⟨h0, ⟨L', K', h1, h2⟩ | ⟨L', K', h1, h2⟩⟩
    · have : i = 0 := Nat.eq_of_beq_eq_true h1
      omega
    · have h3 := setK_big v f L' _ K' h2
      have : i % 2 = 1 := Nat.eq_of_beq_eq_true h1
      omega
    · have h3 := setK_big v f L' _ K' h2
      have h5 : i % 2 ≠ 1 := Nat.ne_of_beq_eq_false h1
      have h6 : i ≠ 0 := by intro h; subst h; simp [Nat.beq] at h0
      omega

theorem Agree.set {tm : Tm} {L L' : Kn} (h : Agree tm L) {d : Nat} {v : Value} (h1 : L'.get d = some v) (h2 : ∀ j, d ≠ j → L'.get j = L.get j) : Agree (Tr.set tm d v) L' := by
  intro i w hw
  by_cases hd : d = i
  · subst hd; rw [h1] at hw; cases hw; exact Tm.at_set_eq _ _ _
  · rw [h2 i hd] at hw
    rw [Tm.at_set_ne _ _ hd]; exact h i w hw
theorem setK_get {f : Nat} {L : Kn} {i : Nat} {v : Value} {K : Kn → Prop} (h : setK f L i v K) : ∃ L', K L' ∧ L'.get i = some v ∧ ∀ j, i ≠ j → L'.get j = L.get j := by
  have hb := setK_big v f L i K h
  exact ⟨_, setK_spec v f L i K h hb, setF_eq v f L i hb, fun j hj => setF_ne v f L i j hj⟩
theorem putK_spec {tm : Tm} {L : Kn} {d : Option Tmp} {v : Value} {K : Kn → Prop} (ha : Agree tm L) (h : putK L d v K) : ∃ L', Agree (putL tm d v) L' ∧ K L' := by
  cases d with
  | none => exact ⟨L, ha, h⟩
  | some d =>
    obtain ⟨L', h1, h2, h3⟩ := setK_get h
    exact ⟨L', ha.set h2 h3, h1⟩

theorem evK_spec {tm : Tm} {L : Kn} {x : Operand} {K : Value → Prop} (ha : Agree tm L) (h : evK P L x K) : ∃ v, ev P tm x = some v ∧ K v := by
  cases x with
  | tmp t =>
    obtain ⟨v, h1, h2⟩ := getK_spec L t K h
    exact ⟨v, by simp only [ev, ha t v h1], h2⟩
  | const v =>
    rcases cond_iff h with ⟨h1, h2⟩ | ⟨h1, h2⟩
    · exact ⟨v, by simp only [ev, h1, if_true], h2⟩
    · exact h2.elim
  | global g =>
    rcases cond_iff h with ⟨h1, h2⟩ | ⟨h1, h2⟩
    · refine ⟨_, ?_, h2⟩
      have : g < P.globals.size := Nat.le_of_ble_eq_true h1
      simp only [ev, this, if_true]
    · exact h2.elim
  | func f => exact ⟨_, rfl, h⟩
theorem evsK_spec {tm : Tm} {L : Kn} (ha : Agree tm L) : ∀ (xs : List Operand) (K : List Value → Prop), evsK P L xs K → ∃ l, evs P tm xs = some l ∧ K l
  | [], K, h => ⟨[], rfl, h⟩
  | x :: r, K, h => by
    obtain ⟨v, h1, h2⟩ := evK_spec ha h
    obtain ⟨l, h3, h4⟩ := evsK_spec ha r _ h2
    exact ⟨v :: l, by simp only [evs, h1, h3], h4⟩
theorem evPartsK_spec {tm : Tm} {L : Kn} (ha : Agree tm L) : ∀ (xs : List (Nat × Operand)) (K : List (Nat × Value) → Prop), evPartsK P L xs K → ∃ l, evParts P tm xs = some l ∧ K l
  | [], K, h => ⟨[], rfl, h⟩
  | (i, x) :: r, K, h => by
    obtain ⟨v, h1, h2⟩ := evK_spec ha h
    obtain ⟨l, h3, h4⟩ := evPartsK_spec ha r _ h2
    exact ⟨(i, v) :: l, by simp only [evParts, h1, h3], h4⟩
theorem evO_spec {tm : Tm} {L : Kn} (ha : Agree tm L) {x : Option Operand} {K : Option (Option Value) → Prop} (h : evO P L x K) : K (optEv P tm x) := by
  cases x with
  | none => exact h
  | some x =>
    obtain ⟨v, h1, h2⟩ := evK_spec ha h
    simp only [optEv, h1]; exact h2
theorem nthK_spec {α : Type} : ∀ (l : List α) (i : Nat) (K : α → Prop), nthK l i K → ∃ x, l[i]? = some x ∧ K x
  | [], _, _, h => h.elim
  | x :: l, i, K, h => by
    rcases cond_iff h with ⟨h1, h2⟩ | ⟨h1, h2⟩
    · have : i = 0 := Nat.eq_of_beq_eq_true h1
      subst this; exact ⟨x, rfl, h2⟩
    · obtain ⟨y, h3, h4⟩ := nthK_spec l _ K h2
      have : i ≠ 0 := Nat.ne_of_beq_eq_false h1
      obtain ⟨j, rfl⟩ : ∃ j, i = j + 1 := ⟨i - 1, by omega⟩
      exact ⟨y, by simpa using h3, h4⟩

theorem wrap_i64 {n : Int} (h : inI64 n) : IntKind.wrap .i64 n = n := by
  obtain ⟨h1, h2⟩ := h
  unfold IntKind.wrap
  simp [IntKind.signed, IntKind.bits]
  split <;> omega
theorem sayInt_spec {wr : Bool} {k : IntKind} {n : Int} {K : Value → Prop} (h : sayInt wr k n K) : K (.int k (k.wrap n)) := by
  unfold sayInt at h
  split at h
  · rw [wrap_i64 h.1]; exact h.2
  · exact h _ rfl
theorem ask_spec {p : Prop} [Decidable p] {K : Value → Prop} (h : ask p K) : K (.bool (decide p)) := by
  by_cases hp : p
  · simpa [hp] using h.1 hp
  · simpa [hp] using h.2 hp
theorem binK_spec {wr : Bool} {op : BinOp} {a b : Value} {K : Value → Prop} {oth : Prop} (h : binK wr op a b K oth) : (∃ v, abin op a b = some v ∧ K v) ∨ oth := by
  unfold binK at h
  split at h
  · rename_i k x j y
    rcases cond_iff h with ⟨h1, h2⟩ | ⟨h1, h2⟩
    · have hk : k = j := by simpa using h1
      subst hk
      cases op <;> simp only [] at h2
      case add => exact .inl ⟨_, by simp [abin], sayInt_spec h2⟩
      case sub => exact .inl ⟨_, by simp [abin], sayInt_spec h2⟩
      case mul => exact .inl ⟨_, by simp [abin], sayInt_spec h2⟩
      case eql => refine .inl ⟨.bool (x == y), by simp only [abin, if_true], ?_⟩; have := ask_spec h2; rw [show (x == y) = decide (x = y) from rfl]; exact this
      case neq => refine .inl ⟨.bool (x != y), by simp only [abin, if_true], ?_⟩; have := ask_spec h2; rw [show (x != y) = decide (¬ x = y) by simp [bne, decide_not]; rfl]; exact this
      case lss => exact .inl ⟨_, by simp only [abin, if_true], ask_spec h2⟩
      case leq => exact .inl ⟨_, by simp only [abin, if_true], ask_spec h2⟩
      case gtr => exact .inl ⟨_, by simp only [abin, if_true], ask_spec h2⟩
      case geq => exact .inl ⟨_, by simp only [abin, if_true], ask_spec h2⟩
      all_goals exact .inr h2
    · exact .inr h2
  · exact .inr h

theorem apure_not {tm : Tm} {o : Oper} {t : TypeId} {x : Operand} {b : Bool} (ho : o.op = .unOp .not t x) (hx : ev P tm x = some (.bool b)) : apure P tm o = some (.bool !b) := by
  unfold apure
  have hv : evT tm x = .bool b := by
    cases x with
    | tmp t => simpa [ev, evT] using hx
    | const v => simp only [ev] at hx; split at hx <;> simp_all [evT]
    | global g => simp only [ev] at hx; split at hx <;> simp_all
    | func f => simp [ev] at hx
  simp [ho, Op.operands, hx, plain, flat, scalar, execOp, hv, Op.unary]
  rfl

theorem other_spec {B : Nat} {o : Oper} {tm : Tm} {L : Kn} {H : Heap} {K : Value → Heap → Prop} (ha : Agree tm L) (hB : B ≤ H.n) (h : other P o L H K) : ∃ v H' lo, step1 P tm H o = some (v, H', lo) ∧ (B ≤ lo ∧ B ≤ H'.n) ∧ K v H' := by
  obtain ⟨v, h1, h2⟩ := h
  exact ⟨v, H, H.n, h1 tm ha, ⟨hB, hB⟩, h2⟩

theorem store_n {t : TypeId} {H H' : Heap} {v a : Value} {lo : Nat} (h : astore P t H v a = some (H', lo)) : H'.n = H.n := by
  unfold astore at h
  split at h
  · split at h
    · split at h
      · cases h; rfl
      · cases h
    · cases h
  · cases h
theorem update_n {t : TypeId} {H H' : Heap} {m k x : Value} {lo : Nat} (h : amapUpdate P H t m k x = some (H', lo)) : H'.n = H.n := by
  unfold amapUpdate at h
  split at h
  · split at h
    · split at h
      · split at h
        · cases h; rfl
        · cases h; rfl
        · cases h
      · cases h
    · cases h
  · cases h
theorem alloc_n {t : TypeId} {H H' : Heap} {v : Value} {lo : Nat} (h : sAlloc P H t = some (v, H', lo)) : H.n ≤ H'.n := by
  unfold sAlloc at h
  split at h
  · split at h
    · cases h; exact Nat.le_succ _
    · cases h
  · cases h
theorem make_n {t : TypeId} {H H' : Heap} {l c v : Value} {lo : Nat} (h : amakeSlice P H t l c = some (v, H', lo)) : H.n ≤ H'.n := by
  unfold amakeSlice at h
  split at h
  · split at h
    · split at h
      · split at h
        · cases h; exact Nat.le_succ _
        · cases h
      · cases h
    · cases h
  · cases h
theorem build_n {t : TypeId} {n : Nat} {H H' : Heap} {l : List (Nat × Value)} {v : Value} {lo : Nat} (h : abuildSlice P H t n l = some (v, H', lo)) : H.n ≤ H'.n := by
  unfold abuildSlice at h
  split at h
  · split at h
    · split at h
      · split at h
        · split at h
          · cases h; exact Nat.le_succ _
          · cases h
        · cases h
      · cases h
    · cases h
  · cases h
theorem append_n {ts : Array TypeId} {H H' : Heap} {x y v : Value} {lo : Nat} (h : aappend P H ts x y = some (v, H', lo)) : H.n ≤ H'.n := by
  unfold aappend at h
  split at h
  · split at h
    · cases h
    · split at h
      · split at h
        · split at h
          · split at h
            · cases h
            · split at h
              · split at h
                · split at h
                  · cases h; exact Nat.le_refl _
                  · split at h
                    · cases h; exact Nat.le_succ _
                    · cases h
                · split at h
                  · cases h; exact Nat.le_refl _
                  · split at h
                    · cases h
                    · split at h
                      · split at h
                        · cases h; exact Nat.le_succ _
                        · cases h
                      · cases h
                · cases h
              · cases h
          · cases h
        · cases h
      · cases h
  · cases h

theorem vcOp_spec {B : Nat} {wr : Bool} {o : Oper} {tm : Tm} {L : Kn} {H : Heap} {K : Value → Heap → Prop} (ha : Agree tm L) (hB : B ≤ H.n) (h : vcOp P B wr o L H K) : ∃ v H' lo, step1 P tm H o = some (v, H', lo) ∧ (B ≤ lo ∧ B ≤ H'.n) ∧ K v H' := by
  have hBB : B ≤ H.n ∧ B ≤ H.n := ⟨hB, hB⟩
  unfold vcOp at h
  split at h
  case h_1 x ho =>
    obtain ⟨v, h1, h2⟩ := evK_spec ha h
    exact ⟨v, H, H.n, by simp only [step1, ho, h1, ret], hBB, h2⟩
  case h_2 x ho =>
    obtain ⟨v, h1, h2⟩ := evK_spec ha h
    exact ⟨v, H, H.n, by simp only [step1, ho, h1, ret], hBB, h2⟩
  case h_3 c a b ho =>
    obtain ⟨v, h1, h2⟩ := evK_spec ha h
    split at h2
    · obtain ⟨v, h3, h4⟩ := evK_spec ha h2
      exact ⟨v, H, H.n, by simp only [step1, ho, sPick, h1, h3, ret], hBB, h4⟩
    · obtain ⟨v, h3, h4⟩ := evK_spec ha h2
      exact ⟨v, H, H.n, by simp only [step1, ho, sPick, h1, h3, ret], hBB, h4⟩
    · exact h2.elim
  case h_4 t ho =>
    obtain ⟨v, H', h1, h2⟩ := h
    exact ⟨v, H', H.n, by simp only [step1, ho, h1], ⟨hB, Nat.le_trans hB (alloc_n h1)⟩, h2⟩
  case h_5 t x ho =>
    obtain ⟨v, h1, h2, h3⟩ := evK_spec ha h
    exact ⟨_, _, _, by simp only [step1, ho, sBox, h1, h2, if_true], ⟨hB, Nat.le_succ_of_le hB⟩, h3⟩
  case h_6 t x ho =>
    obtain ⟨v, h1, r, h2, h3⟩ := evK_spec ha h
    exact ⟨r, H, H.n, by simp only [step1, ho, sLoad, h1, h2, ret], hBB, h3⟩
  case h_7 t x y ho =>
    obtain ⟨v, h1, h2⟩ := evK_spec ha h
    obtain ⟨w, h3, H', lo, h4, h5, h6⟩ := evK_spec ha h2
    exact ⟨undef, H', lo, by simp only [step1, ho, sStore, h1, h3, h4], ⟨h5, by rw [store_n h4]; exact hB⟩, h6⟩
  case h_8 x ho =>
    obtain ⟨v, h1, r, h2, h3⟩ := evK_spec ha h
    exact ⟨r, H, H.n, by simp only [step1, ho, sNil, h1, h2, ret], hBB, h3⟩
  case h_9 fn first cap ho =>
    split at h
    · rename_i f
      rcases cond_iff h with ⟨h1, h2⟩ | ⟨h1, h2⟩
      · have h1' : first.size = 0 := by simpa using h1
        obtain ⟨l, h3, h4, h5⟩ := evsK_spec ha _ _ h2
        exact ⟨_, H, H.n, by simp only [step1, ho, sFunc, h1', h3, h4, if_true], hBB, h5⟩
      · exact h2.elim
    · exact h.elim
  case h_10 t r ho =>
    split at h
    · exact ⟨_, _, _, by simp only [step1, ho, sMakeMap], ⟨hB, Nat.le_succ_of_le hB⟩, h⟩
    · exact h.elim
  case h_11 t l c ho =>
    obtain ⟨v, h1, h2⟩ := evK_spec ha h
    obtain ⟨w, h3, u, H', h4, h5⟩ := evK_spec ha h2
    exact ⟨u, H', H.n, by simp only [step1, ho, sMakeSlice, h1, h3, h4], ⟨hB, Nat.le_trans hB (make_n h4)⟩, h5⟩
  case h_12 t x lo hi mx ho =>
    split at h
    · exact h.elim
    · obtain ⟨v, h1, h2⟩ := evK_spec ha h
      obtain ⟨r, h4, h5⟩ := evO_spec ha (evO_spec ha h2)
      exact ⟨r, H, H.n, by simp only [step1, ho, sSlice, h1, h4, ret], hBB, h5⟩
  case h_13 s x f ho =>
    obtain ⟨v, h1, r, h2, h3⟩ := evK_spec ha h
    exact ⟨r, H, H.n, by simp only [step1, ho, sFieldAddr, h1, h2, ret], hBB, h3⟩
  case h_14 t x i ho =>
    obtain ⟨v, h1, h2⟩ := evK_spec ha h
    obtain ⟨w, h3, r, h4, h5⟩ := evK_spec ha h2
    exact ⟨r, H, H.n, by simp only [step1, ho, sIndexAddr, h1, h3, h4, ret], hBB, h5⟩
  case h_15 t x f ho =>
    obtain ⟨v, h1, r, h2, h3⟩ := evK_spec ha h
    exact ⟨r, H, H.n, by simp only [step1, ho, sField, h1, h2, ret], hBB, h3⟩
  case h_16 t x i ho =>
    obtain ⟨v, h1, h2⟩ := evK_spec ha h
    obtain ⟨w, h3, r, h4, h5⟩ := evK_spec ha h2
    exact ⟨r, H, H.n, by simp only [step1, ho, sIndex, h1, h3, h4, ret], hBB, h5⟩
  case h_17 x i ho =>
    obtain ⟨v, h1, h2⟩ := evK_spec ha h
    split at h2
    · obtain ⟨r, h3, h4⟩ := nthK_spec _ _ _ h2
      exact ⟨r, H, H.n, by simp only [step1, ho, sExtract, h1, h3, ret], hBB, h4⟩
    · exact h2.elim
  case h_18 t parts ho =>
    obtain ⟨l, h1, r, h2, h3⟩ := evPartsK_spec ha _ _ h
    exact ⟨r, H, H.n, by simp only [step1, ho, sBuild, h1, h2, ret], hBB, h3⟩
  case h_19 t len parts ho =>
    obtain ⟨l, h1, u, H', h2, h3⟩ := evPartsK_spec ha _ _ h
    exact ⟨u, H', H.n, by simp only [step1, ho, sBuildSlice, h1, h2], ⟨hB, Nat.le_trans hB (build_n h2)⟩, h3⟩
  case h_20 t x k ok ho =>
    obtain ⟨v, h1, h2⟩ := evK_spec ha h
    obtain ⟨w, h3, r, h4, h5⟩ := evK_spec ha h2
    exact ⟨r, H, H.n, by simp only [step1, ho, sLookup, h1, h3, h4, ret], hBB, h5⟩
  case h_21 t m k x ho =>
    obtain ⟨v, h1, h2⟩ := evK_spec ha h
    obtain ⟨w, h3, h4⟩ := evK_spec ha h2
    obtain ⟨u, h5, H', lo, h6, h7, h8⟩ := evK_spec ha h4
    exact ⟨undef, H', lo, by simp only [step1, ho, sMapUpdate, h1, h3, h5, h6], ⟨h7, by rw [update_n h6]; exact hB⟩, h8⟩
  case h_22 t m k x ho =>
    obtain ⟨v, h1, h2⟩ := evK_spec ha h
    obtain ⟨w, h3, h4⟩ := evK_spec ha h2
    obtain ⟨u, h5, H', lo, h6, h7, h8⟩ := evK_spec ha h4
    exact ⟨undef, H', lo, by simp only [step1, ho, sMapUpdate, h1, h3, h5, h6], ⟨h7, by rw [update_n h6]; exact hB⟩, h8⟩
  case h_23 op xt x y z ho =>
    obtain ⟨v, h1, h2⟩ := evK_spec ha h
    obtain ⟨w, h3, h4⟩ := evK_spec ha h2
    rcases binK_spec h4 with ⟨r, h5, h6⟩ | h5
    · exact ⟨r, H, H.n, by simp only [step1, ho, sBin, h1, h3, h5], hBB, h6⟩
    · exact other_spec ha hB h5
  case h_24 op t x ho =>
    split at h
    · obtain ⟨v, h1, h2⟩ := evK_spec ha h
      split at h2
      · exact ⟨_, H, H.n, by simp only [step1, ho, apure_not ho h1, ret, Bool.not_true, Bool.not_false], hBB, h2⟩
      · exact ⟨_, H, H.n, by simp only [step1, ho, apure_not ho h1, ret, Bool.not_true, Bool.not_false], hBB, h2⟩
      · exact other_spec ha hB h2
    · exact other_spec ha hB h
  case h_25 c ho =>
    split at h
    · rename_i hcal
      split at h
      · rename_i x t hx ht
        obtain ⟨v, h1, r, h2, h3⟩ := evK_spec ha h
        exact ⟨r, H, H.n, by simp only [step1, ho, sCall, hcal, sBuiltin, sLen, hx, ht, h1, h2, ret], hBB, h3⟩
      · exact h.elim
    · rename_i hcal
      split at h
      · rename_i x y hx
        obtain ⟨v, h1, h2⟩ := evK_spec ha h
        obtain ⟨w, h3, u, H', lo, h4, h5, h6⟩ := evK_spec ha h2
        exact ⟨u, H', lo, by simp only [step1, ho, sCall, hcal, sBuiltin, sAppend, hx, h1, h3, h4], ⟨h5, Nat.le_trans hB (append_n h4)⟩, h6⟩
      · exact h.elim
    · exact other_spec ha hB h
    · exact h.elim
  case h_26 => exact other_spec ha hB h

def calleeOk (P : Program) (f : Nat) : Bool :=
  match P.funcs[f]? with
  | some fn => fn.body.isSome && decide (fn.name ≠ "runtime.NumGoroutine")
  | none => false
def calleesOk (P : Program) [Oracle P] : Nat → Bool
  | 0 => true
  | n + 1 => (calleeOk P n || Nat.blt n 2 || !Nat.beq (assoc (Oracle.exts P) n) 0) && calleesOk P n
theorem calleesOk_spec [Oracle P] : ∀ (N : Nat), calleesOk P N = true → ∀ f, 2 ≤ f → f < N → assoc (Oracle.exts P) f = 0 → calleeOk P f = true
  | 0, _, f, _, hf, _ => absurd hf (Nat.not_lt_zero f)
  | N + 1, h, f, h2, hf, h0 => by
    simp only [calleesOk, Bool.and_eq_true] at h
    by_cases he : f = N
    · subst he
      rcases h with ⟨h, _⟩
      simp only [Bool.or_eq_true] at h
      rcases h with (h | h) | h
      · exact h
      · have : f < 2 := Nat.le_of_ble_eq_true h
        omega
      · rw [h0] at h; cases h
    · exact calleesOk_spec N h.2 f h2 (by omega) h0

theorem vcOp_noCall {B : Nat} {wr : Bool} {o : Oper} {tm : Tm} {L : Kn} {H : Heap} {K : Value → Heap → Prop} (h : vcOp P B wr o L H K) : callOf P tm o = none := by
  unfold callOf
  unfold vcOp at h
  split
  · rename_i c ho
    split
    · rename_i g hg
      simp only [ho, hg] at h
    · rfl
  · rfl

theorem bEq_spec {a b : Bool} : (some a == some b) = bEq a b := by cases a <;> cases b <;> rfl
theorem bEq_none {b : Bool} : ((none : Option Bool) == some b) = bEq (!b) b := by cases b <;> rfl
theorem guardK_spec {ops : List Oper} {tm : Tm} {L : Kn} {j : Nat} {want : Bool} {K : Bool → Prop} (ha : Agree tm L) (h : guardK ops L j want K) : ∃ b, (yieldedL ops tm j == some want) = bEq b want ∧ K b := by
  obtain ⟨o, h1, h2⟩ := nthK_spec _ _ _ h
  split at h2
  · rename_i d hd
    obtain ⟨v, h3, h4⟩ := getK_spec _ _ _ h2
    have h5 := ha _ _ h3
    split at h4
    · exact ⟨true, by simp only [yieldedL, h1, hd, h5, bEq_spec], h4⟩
    · exact ⟨false, by simp only [yieldedL, h1, hd, h5, bEq_spec], h4⟩
    · exact ⟨!want, by simp only [yieldedL, h1, hd, h5, bEq_none], h4⟩
    · exact h4.elim
  · exact h2.elim

/-- What a call yields, by what is known at its end. -/
def resK (P : Program) (L : Kn) (H : Heap) : List ResultVar → (List Value → Prop) → Prop
  | [], K => K []
  | x :: r, K => match x with
    | .tmp t => getK L t fun v => resK P L H r fun l => K (v :: l)
    | .cell a t => getK L a fun p => match p with
      | .pointer (some ad) => ∃ v, aload P t H (.pointer (some ad)) = some v ∧ resK P L H r fun l => K (v :: l)
      | _ => False
theorem resK_spec {tm : Tm} {L : Kn} {H : Heap} (ha : Agree tm L) : ∀ (rs : List ResultVar) (K : List Value → Prop), resK P L H rs K → ∃ l, ressOf P tm H rs = some l ∧ K l
  | [], K, h => ⟨[], rfl, h⟩
  | x :: r, K, h => by
    unfold resK at h
    cases x with
    | tmp t =>
      obtain ⟨v, h1, h2⟩ := getK_spec _ _ _ h
      obtain ⟨l, h3, h4⟩ := resK_spec ha r _ h2
      exact ⟨v :: l, by simp only [ressOf, resOf, ha _ _ h1, h3], h4⟩
    | cell a t =>
      obtain ⟨p, h1, h2⟩ := getK_spec _ _ _ h
      split at h2
      · obtain ⟨v, h3, h4⟩ := h2
        obtain ⟨l, h5, h6⟩ := resK_spec ha r _ h4
        exact ⟨v :: l, by simp only [ressOf, resOf, ha _ _ h1, h3, h5], h6⟩
      · exact h2.elim

def tupK (l : List Value) (K : Value → Prop) : Prop :=
  match l with
  | [v] => K v
  | l => K (.tuple l.toArray)

def argsK : List Value → Nat → Kn → (Kn → Prop) → Prop
  | [], _, L, K => K L
  | v :: r, i, L, K => setK 14 L i v fun L => argsK r (i + 1) L K
theorem argsK_spec : ∀ (l : List Value) (i : Nat) (tm : Tm) (L : Kn) (K : Kn → Prop), Agree tm L → argsK l i L K → ∃ L', Agree (putArgs l i tm) L' ∧ K L'
  | [], _, _, L, K, ha, h => ⟨L, ha, h⟩
  | v :: r, i, tm, L, K, ha, h => by
    obtain ⟨L', h1, h2, h3⟩ := setK_get h
    exact argsK_spec r (i + 1) _ L' K (ha.set h2 h3) h1

/-- What is known covers what is listed. -/
def covers (L : Kn) : List (Nat × Value) → Prop
  | [] => True
  | (i, v) :: r => getK L i (fun w => w = v) ∧ covers L r
theorem mkK_spec : ∀ (l : List (Nat × Value)) (L : Kn) (K : Kn → Prop), mkK l L K → ∃ L', K L' ∧ ∀ i v, L'.get i = some v → L.get i = some v ∨ (i, v) ∈ l
  | [], L, K, h => ⟨L, h, fun i v hv => .inl hv⟩
  | (i, v) :: r, L, K, h => by
    obtain ⟨L1, h1, h2, h3⟩ := setK_get h
    obtain ⟨L', h4, h5⟩ := mkK_spec r L1 K h1
    refine ⟨L', h4, fun j w hw => ?_⟩
    rcases h5 j w hw with h6 | h6
    · by_cases hij : i = j
      · subst hij; rw [h2] at h6; cases h6; exact .inr (by simp)
      · rw [h3 j hij] at h6; exact .inl h6
    · exact .inr (by simp [h6])
theorem covers_mem : ∀ (L : Kn) (l : List (Nat × Value)), covers L l → ∀ i v, (i, v) ∈ l → L.get i = some v
  | _, [], _, i, v, h => by simp at h
  | L, (j, w) :: r, hc, i, v, h => by
    obtain ⟨h1, h2⟩ := hc
    rcases List.mem_cons.mp h with h3 | h3
    · cases h3
      obtain ⟨u, h4, h5⟩ := getK_spec _ _ _ h1
      rw [h5] at h4; exact h4
    · exact covers_mem L r h2 i v h3
variable [Oracle P]
theorem vcStep_spec {N B Bc : Nat} (hN : calleesOk P N = true) {wr : Bool} {o : Oper} {tm : Tm} {L : Kn} {H : Heap} {Kc K : Value → Heap → Prop} (ha : Agree tm L) (hB : B ≤ H.n) (h : vcStep P N B Bc wr o L H Kc K) :
    (∃ f l, callOf P tm o = some (f, l) ∧ WF P f l H fun v H' lo => (Bc ≤ lo ∧ Bc ≤ H'.n) ∧ Kc v H') ∨ (callOf P tm o = none ∧ ∃ v H' lo, step1 P tm H o = some (v, H', lo) ∧ (B ≤ lo ∧ B ≤ H'.n) ∧ K v H') := by
  unfold vcStep at h
  split at h
  · rename_i c ho
    split at h
    · rename_i g hg
      obtain ⟨v, h1, h2⟩ := evK_spec ha h
      split at h2
      · rename_i f first cap
        rcases cond_iff h2 with ⟨h00, h2⟩ | ⟨h00, h2⟩
        · have h0 : assoc (Oracle.exts P) f = 0 := Nat.eq_of_beq_eq_true h00
          rcases cond_iff h2 with ⟨h3, h4⟩ | ⟨h3, h4⟩
          · simp only [Bool.and_eq_true, decide_eq_true_eq] at h3
            obtain ⟨h3, h52, h5⟩ := h3
            have h5 : f < N := Nat.le_of_ble_eq_true h5
            have h52 : 2 ≤ f := Nat.le_of_ble_eq_true h52
            obtain ⟨l, h6, h7⟩ := evsK_spec ha _ _ h4
            refine .inl ⟨.fn f, l ++ cap.toList, ?_, h7.run⟩
            have h8 := calleesOk_spec N hN f h52 h5 h0
            unfold calleeOk at h8
            simp only [callOf, ho, hg, calOf, calleeOf, h1, h3, if_true]
            split at h8
            · rename_i fn hfn
              simp only [Bool.and_eq_true, decide_eq_true_eq] at h8
              simp only [hfn]
              rw [if_pos h8]
              simp only [h6]
            · simp at h8
          · exact h4.elim
        · have h0 : assoc (Oracle.exts P) f ≠ 0 := fun e => by rw [e] at h00; cases h00
          obtain ⟨fn, hf1, hf2, hf3⟩ := exts_spec (Oracle.extsOk (P := P)) f h0
          rcases cond_iff h2 with ⟨h3, h4⟩ | ⟨h3, h4⟩
          · simp only [Bool.and_eq_true, decide_eq_true_eq] at h3
            obtain ⟨l, h6, v, h7, h8⟩ := evsK_spec ha _ _ h4
            have hb : ¬ fn.body.isSome = true := fun e => by cases hx : fn.body <;> simp [hx] at e hf2
            refine .inr ⟨?_, v, H, H.n, ?_, ⟨hB, hB⟩, h8⟩
            · simp only [callOf, ho, hg, calOf, calleeOf, rndOf, h1, h3.1, if_true, hf1]
              rw [if_neg (fun e => hb e.1)]
            · simp only [step1, ho, sCall, hg, extOf, h1, hf1]
              rw [if_pos h3, if_pos hf2, h6, hf3]
              simp only [h7, ret]
          · exact h4.elim
      · rename_i b first cap
        rcases cond_iff h2 with ⟨h3, h4⟩ | ⟨h3, h4⟩
        · simp only [Bool.and_eq_true, decide_eq_true_eq] at h3
          obtain ⟨l, h6, h7⟩ := evsK_spec ha _ _ h4
          refine .inl ⟨.rnd b, l, ?_, h7.run⟩
          simp only [callOf, ho, hg, calOf, calleeOf, rndOf, h1]
          rw [if_pos h3, h6]
        · exact h4.elim
      · exact h2.elim
    · exact h.elim
    · exact .inr ⟨vcOp_noCall h, vcOp_spec ha hB h⟩
  · exact .inr ⟨vcOp_noCall h, vcOp_spec ha hB h⟩

theorem vcOps_spec {N B : Nat} (hN : calleesOk P N = true) {wr : Bool} {ops : List Oper} : ∀ (l : List Oper) (L : Kn) (tm : Tm) (H : Heap) (lo : Nat) (K : Kn → Heap → Prop), Agree tm L → B ≤ lo → B ≤ H.n → vcOps P N B wr ops l L H K →
    WO P ops l ⟨tm, H, lo⟩ fun st => B ≤ st.lo ∧ B ≤ st.heap.n ∧ ∃ L', Agree st.tmps L' ∧ K L' st.heap
  | [], L, tm, H, lo, K, ha, hl, hB, h => WO.nil ⟨hl, hB, L, ha, h⟩
  | o :: rest, L, tm, H, lo, K, ha, hl, hB, h => by
    unfold vcOps at h
    have key : wantedL ops tm o = true → (vcStep P N B B wr o L H (fun v H' => putK L o.dst v fun L' => vcOps P N B wr ops rest L' H' K) (fun v H' => putK L o.dst v fun L' => vcOps P N B wr ops rest L' H' K)) →
        WO P ops (o :: rest) ⟨tm, H, lo⟩ fun st => B ≤ st.lo ∧ B ≤ st.heap.n ∧ ∃ L', Agree st.tmps L' ∧ K L' st.heap := by
      intro hw h
      rcases vcStep_spec hN ha hB h with ⟨f, l, h1, h2⟩ | ⟨h1, v, H', lo', h2, h0, h3⟩
      · refine WO.call hw h1 (h2.mono fun v H' lo' h3 => ?_)
        obtain ⟨L', h4, h5⟩ := putK_spec ha h3.2
        exact vcOps_spec hN rest L' _ _ _ K h4 (Nat.le_min.2 ⟨hl, h3.1.1⟩) h3.1.2 h5
      · refine WO.step hw h1 h2 ?_
        obtain ⟨L', h4, h5⟩ := putK_spec ha h3
        exact vcOps_spec hN rest L' _ _ _ K h4 (Nat.le_min.2 ⟨hl, h0.1⟩) h0.2 h5
    split at h
    · rename_i hg
      exact key (by simp only [wantedL, hg]) h
    · rename_i j want hg
      obtain ⟨b, h1, h2⟩ := guardK_spec ha h
      have hw : wantedL ops tm o = bEq b want := by simp only [wantedL, hg, h1]
      rcases cond_iff h2 with ⟨h3, h4⟩ | ⟨h3, h4⟩
      · exact key (by rw [hw, h3]) h4
      · obtain ⟨L', h5, h6⟩ := putK_spec ha h4
        exact WO.skip (by rw [hw, h3]) (vcOps_spec hN rest L' _ _ _ K h5 hl hB h6)

theorem vcHead_spec {N B : Nat} (hN : calleesOk P N = true) {wr : Bool} {ops : List Oper} : ∀ (l : List Oper) (L : Kn) (tm : Tm) (H : Heap) (lo : Nat) (K : Kn → Heap → Prop), Agree tm L → B ≤ lo → B ≤ H.n → vcHead P N B wr ops l L H K →
    WH P ops l ⟨tm, H, lo⟩ fun st => B ≤ st.lo ∧ B ≤ st.heap.n ∧ ∃ L', Agree st.tmps L' ∧ K L' st.heap
  | [], L, tm, H, lo, K, ha, hl, hB, h => WH.nil ⟨hl, hB, L, ha, h⟩
  | o :: rest, L, tm, H, lo, K, ha, hl, hB, h => by
    unfold vcHead at h
    have key : wantedL ops tm o = true → (vcStep P N B H.n wr o L H (fun v _ => plain v = true ∧ putK L o.dst v fun L' => vcHead P N B wr ops rest L' H K) (fun v _ => putK L o.dst v fun L' => vcHead P N B wr ops rest L' H K)) →
        WH P ops (o :: rest) ⟨tm, H, lo⟩ fun st => B ≤ st.lo ∧ B ≤ st.heap.n ∧ ∃ L', Agree st.tmps L' ∧ K L' st.heap := by
      intro hw h
      rcases vcStep_spec hN ha hB h with ⟨f, l, h1, h2⟩ | ⟨h1, v, H', lo', h2, h0, h3⟩
      · refine WH.call hw h1 (h2.mono fun v H' lo' h3 => ⟨⟨h3.2.1, h3.1.1⟩, ?_⟩)
        obtain ⟨L', h4, h5⟩ := putK_spec ha h3.2.2
        exact vcHead_spec hN rest L' _ _ _ K h4 hl hB h5
      · refine WH.step hw h1 h2 ?_
        obtain ⟨L', h4, h5⟩ := putK_spec ha h3
        exact vcHead_spec hN rest L' _ _ _ K h4 hl hB h5
    split at h
    · rename_i hg
      exact key (by simp only [wantedL, hg]) h
    · rename_i j want hg
      obtain ⟨b, h1, h2⟩ := guardK_spec ha h
      have hw : wantedL ops tm o = bEq b want := by simp only [wantedL, hg, h1]
      rcases cond_iff h2 with ⟨h3, h4⟩ | ⟨h3, h4⟩
      · exact key (by rw [hw, h3]) h4
      · obtain ⟨L', h5, h6⟩ := putK_spec ha h4
        exact WH.skip (by rw [hw, h3]) (vcHead_spec hN rest L' _ _ _ K h5 hl hB h6)

theorem vcG_spec {N B : Nat} (hN : calleesOk P N = true) {wr : Bool} {ops : List Oper} : ∀ (l : List Oper) (L : Kn) (tm : Tm) (H : Heap) (lo : Nat) (K : Kn → Heap → Prop), Agree tm L → B ≤ lo → B ≤ H.n → vcG P N B wr ops l L H K →
    WG P ops l ⟨tm, H, lo⟩ fun st => B ≤ st.lo ∧ B ≤ st.heap.n ∧ ∃ L', Agree st.tmps L' ∧ K L' st.heap
  | [], L, tm, H, lo, K, ha, hl, hB, h => WG.nil ⟨hl, hB, L, ha, h⟩
  | o :: rest, L, tm, H, lo, K, ha, hl, hB, h => by
    unfold vcG at h
    have key : wantedL ops tm o = true → (vcStep P N H.n H.n wr o L H (fun v H' => putK L o.dst v fun L' => vcG P N B wr ops rest L' H' K) (fun v H' => putK L o.dst v fun L' => vcG P N B wr ops rest L' H' K)) →
        WG P ops (o :: rest) ⟨tm, H, lo⟩ fun st => B ≤ st.lo ∧ B ≤ st.heap.n ∧ ∃ L', Agree st.tmps L' ∧ K L' st.heap := by
      intro hw h
      rcases vcStep_spec hN ha (Nat.le_refl _) h with ⟨f, l, h1, h2⟩ | ⟨h1, v, H', lo', h2, h0, h3⟩
      · refine WG.call hw h1 (h2.mono fun v H' lo' h3 => ⟨h3.1.1, ?_⟩)
        obtain ⟨L', h4, h5⟩ := putK_spec ha h3.2
        exact vcG_spec hN rest L' _ _ _ K h4 (Nat.le_min.2 ⟨hl, hB⟩) (Nat.le_trans hB h3.1.2) h5
      · refine WG.step hw h1 h2 h0.1 ?_
        obtain ⟨L', h4, h5⟩ := putK_spec ha h3
        exact vcG_spec hN rest L' _ _ _ K h4 (Nat.le_min.2 ⟨hl, hB⟩) (Nat.le_trans hB h0.2) h5
    split at h
    · rename_i hg
      exact key (by simp only [wantedL, hg]) h
    · rename_i j want hg
      obtain ⟨b, h1, h2⟩ := guardK_spec ha h
      have hw : wantedL ops tm o = bEq b want := by simp only [wantedL, hg, h1]
      rcases cond_iff h2 with ⟨h3, h4⟩ | ⟨h3, h4⟩
      · exact key (by rw [hw, h3]) h4
      · obtain ⟨L', h5, h6⟩ := putK_spec ha h4
        exact WG.skip (by rw [hw, h3]) (vcG_spec hN rest L' _ _ _ K h5 hl hB h6)

theorem WO.mono {ops l : List Oper} {st : St} {Q Q' : St → Prop} (h : WO P ops l st Q) (hq : ∀ st', Q st' → Q' st') : WO P ops l st Q' := by
  obtain ⟨k, st', h1, h2⟩ := h; exact ⟨k, st', h1, hq _ h2⟩
theorem WH.mono {ops l : List Oper} {st : St} {Q Q' : St → Prop} (h : WH P ops l st Q) (hq : ∀ st', Q st' → Q' st') : WH P ops l st Q' := by
  obtain ⟨k, st', h1, h2⟩ := h; exact ⟨k, st', h1, hq _ h2⟩

theorem vc_spec {N B : Nat} (hN : calleesOk P N = true) {wr : Bool} : ∀ (c : Code) (L : Kn) (H : Heap) (Q : Exit → Kn → Heap → Prop), vc P N B wr c L H Q → WCv P B c L H Q := by
  intro c
  induction c with
  | skip => intro L H Q h; refine ⟨fun tm lo ha hl hB => ?_⟩; exact WC.skip ⟨hl, hB, L, ha, h⟩
  | label l => intro L H Q h; refine ⟨fun tm lo ha hl hB => ?_⟩; exact WC.label ⟨hl, hB, L, ha, h⟩
  | exit id => intro L H Q h; refine ⟨fun tm lo ha hl hB => ?_⟩; exact WC.exit ⟨hl, hB, L, ha, h⟩
  | ret => intro L H Q h; refine ⟨fun tm lo ha hl hB => ?_⟩; exact WC.ret ⟨hl, hB, L, ha, h⟩
  | region id ops draw =>
    intro L H Q h
    refine ⟨fun tm lo ha hl hB => ?_⟩
    unfold vc at h
    cases draw with
    | false => exact WC.region (vcOps_spec hN _ L tm H lo _ ha hl hB h)
    | true =>
      have h : bif wideSel ops.toList then False else _ := h
      rcases cond_iff h with ⟨_, h⟩ | ⟨hws, h⟩
      · exact h.elim
      refine WC.draw hws ((vcHead_spec hN _ L tm H lo _ ha hl hB h).mono ?_)
      rintro ⟨tm', H', lo'⟩ ⟨hl', hB', L', h1, h2⟩
      refine (vcOps_spec hN _ L' _ _ _ _ h1 hl' hB' h2).mono ?_
      rintro ⟨tm2, H2, lo2⟩ ⟨hl2, hB2, L2, h3, h4⟩
      exact vcHead_spec hN _ L2 _ _ _ _ h3 hl2 hB2 h4
  | seq a b iha ihb =>
    intro L H Q h
    refine ⟨fun tm lo ha hl hB => ?_⟩
    unfold vc at h
    refine WC.seq (((iha L H _ h).run tm lo ha hl hB).mono ?_)
    rintro e ⟨tm', H', lo'⟩ ⟨hl', hB', L', h1, h2⟩
    cases e with
    | normal => exact (ihb L' H' Q h2).run tm' lo' h1 hl' hB'
    | _ => exact ⟨hl', hB', L', h1, h2⟩
  | cond x a b iha ihb =>
    intro L H Q h
    refine ⟨fun tm lo ha hl hB => ?_⟩
    unfold vc at h
    obtain ⟨v, h1, h2⟩ := evK_spec ha h
    split at h2
    · exact WC.cond h1 ((iha L H Q h2).run tm lo ha hl hB)
    · exact WC.cond h1 ((ihb L H Q h2).run tm lo ha hl hB)
    · exact h2.elim
  | block id b ih =>
    intro L H Q h
    refine ⟨fun tm lo ha hl hB => ?_⟩
    unfold vc at h
    refine WC.block (((ih L H _ h).run tm lo ha hl hB).mono ?_)
    rintro e ⟨tm', H', lo'⟩ ⟨hl', hB', L', h1, h2⟩
    cases e with
    | exit j =>
      simp only [inBlk]
      rcases cond_iff h2 with ⟨h3, h4⟩ | ⟨h3, h4⟩
      · rw [if_pos (Nat.eq_of_beq_eq_true h3)]; exact ⟨hl', hB', L', h1, h4⟩
      · rw [if_neg (Nat.ne_of_beq_eq_false h3)]; exact ⟨hl', hB', L', h1, h4⟩
    | _ => exact ⟨hl', hB', L', h1, h2⟩
  | scope b ih =>
    intro L H Q h
    refine ⟨fun tm lo ha hl hB => ?_⟩
    unfold vc at h
    refine WC.scope (((ih L H _ h).run tm lo ha hl hB).mono ?_)
    rintro e ⟨tm', H', lo'⟩ ⟨hl', hB', L', h1, h2⟩
    cases e with
    | goto j => exact h2.elim
    | _ => exact ⟨hl', hB', L', h1, h2⟩
  | loop b ih => intro L H Q h; exact h
  | rangeFunc g ps x y _ _ => intro L H Q h; exact h
  | _ => intro L H Q h; exact h.elim

/-- What has to be shown of a call. -/
def vcF (P : Program) [Oracle P] (N B : Nat) (wr : Bool) (fn : Func) (c : Code) (args : List Value) (H : Heap) (Q : Value → Heap → Prop) : Prop :=
  argsK args 0 .leaf fun L => vc P N B wr c L H fun e L H => match e with
    | .normal => resK P L H fn.results.toList fun l => l.all notTuple = true ∧ tupK l fun v => Q v H
    | .ret => resK P L H fn.results.toList fun l => l.all notTuple = true ∧ tupK l fun v => Q v H
    | _ => False

theorem vcF_spec {N B : Nat} (hN : calleesOk P N = true) {wr : Bool} {f : FuncId} {args : List Value} {H : Heap} {Q : Value → Heap → Prop} {fn : Func} {c : Code} (hor : Oracle.val P f = none) (hf : P.funcs[f]? = some fn) (hb : fn.body = some c) (hok : codeOk fn.ntmps c = true) (hl : args.length ≤ fn.ntmps)
    (hB : B ≤ H.n) (h : vcF P N B wr fn c args H Q) : CallB P B f args H Q := by
  obtain ⟨L, h1, h2⟩ := argsK_spec args 0 .leaf .leaf _ (by intro i v hv; simp [Tr.get] at hv) h
  refine ⟨WF.enter hor hf hb hok hl (((vc_spec hN c L H _ h2).run _ H.n h1 hB hB).mono ?_)⟩
  rintro e ⟨tm, H', lo⟩ ⟨hl', hB', L', h3, h4⟩
  have key : ∀ (h : resK P L' H' fn.results.toList fun l => l.all notTuple = true ∧ tupK l fun v => Q v H'), ∃ vs, ressOf P tm H' fn.results.toList = some vs ∧ vs.all notTuple = true ∧ (B ≤ lo ∧ B ≤ H'.n) ∧ Q (tupled vs) H' := by
    intro h
    obtain ⟨l, h5, h6, h7⟩ := resK_spec h3 _ _ h
    refine ⟨l, h5, h6, ⟨hl', hB'⟩, ?_⟩
    unfold tupK at h7
    unfold tupled
    split at h7
    · exact h7
    · rename_i hne
      split
      · exact absurd rfl (hne _)
      · exact h7
  cases e with
  | normal => exact ⟨rfl, key h4⟩
  | ret => exact ⟨rfl, key h4⟩
  | _ => exact h4.elim

theorem CallB.mono {B : Nat} {f : FuncId} {l : List Value} {H : Heap} {Q Q' : Value → Heap → Prop} (h : CallB P B f l H Q) (hq : ∀ v H', Q v H' → Q' v H') : CallB P B f l H Q' :=
  ⟨h.run.mono fun v H' lo h' => ⟨h'.1, hq _ _ h'.2⟩⟩
theorem RoundB.mono {B : Nat} {b : Nat} {l : List Value} {H : Heap} {Q Q' : Value → Heap → Prop} (h : RoundB P B b l H Q) (hq : ∀ v H', Q v H' → Q' v H') : RoundB P B b l H Q' :=
  ⟨h.run.mono fun v H' _ hh => ⟨hh.1, hq _ _ hh.2⟩⟩
theorem CallB.known {B : Nat} {f : FuncId} {v : Value} {H : Heap} {Q : Value → Heap → Prop} (ho : Oracle.val P f = some v) (hb : Oracle.base P H) (hB : B ≤ H.n) (h : Q v H) : CallB P B f [] H Q :=
  ⟨WF.known ho hb ⟨⟨hB, hB⟩, h⟩⟩

/-- From here on only what is listed is known. -/
theorem WCv.forget {B : Nat} {c : Code} {L : Kn} {H : Heap} {Q : Exit → Kn → Heap → Prop} (l : List (Nat × Value)) (hc : covers L l) (h : mkK l .leaf fun L' => WCv P B c L' H Q) : WCv P B c L H Q := by
  refine ⟨fun tm lo ha hl hB => ?_⟩
  obtain ⟨L', h1, h2⟩ := mkK_spec l .leaf _ h
  refine h1.run tm lo (fun i v hv => ?_) hl hB
  rcases h2 i v hv with h3 | h3
  · simp [Tr.get] at h3
  · exact ha i v (covers_mem L l hc i v h3)
theorem WCv.mono {B : Nat} {c : Code} {L : Kn} {H : Heap} {Q Q' : Exit → Kn → Heap → Prop} (h : WCv P B c L H Q) (hq : ∀ e L H, Q e L H → Q' e L H) : WCv P B c L H Q' := by
  refine ⟨fun tm lo ha hl hB => ?_⟩
  exact (h.run tm lo ha hl hB).mono fun e st ⟨hl', hB', L', h1, h2⟩ => ⟨hl', hB', L', h1, hq _ _ _ h2⟩

/-- What goes on behind a round. -/
def roundK {α : Type} (S : α → List (Nat × Value)) (I : α → Heap → Prop) (μ : α → Nat) (a : α) (Q : Exit → Kn → Heap → Prop) : Exit → Kn → Heap → Prop
  | .normal, L, H => ∃ a', covers L (S a') ∧ μ a' < μ a ∧ I a' H
  | e, L, H => Q e L H

/-- A loop, by what is known at each round's head. -/
theorem WCv.loop {α : Type} {N B : Nat} (hN : calleesOk P N = true) (wr : Bool) {b : Code} {L : Kn} {H : Heap} {Q : Exit → Kn → Heap → Prop} (S : α → List (Nat × Value)) (I : α → Heap → Prop) (μ : α → Nat)
    (a0 : α) (hc : covers L (S a0)) (hI : I a0 H)
    (hr : ∀ a Hx, I a Hx → B ≤ Hx.n → mkK (S a) .leaf fun L' => vc P N B wr b L' Hx (roundK S I μ a Q)) : WCv P B (.loop b) L H Q := by
  have key : ∀ n a, μ a = n → ∀ Hx lo, I a Hx → B ≤ lo → B ≤ Hx.n → ∀ tm, (∀ i v, (i, v) ∈ S a → Tm.at tm i = v) → WC P (.loop b) ⟨tm, Hx, lo⟩ fun e st => B ≤ st.lo ∧ B ≤ st.heap.n ∧ ∃ L', Agree st.tmps L' ∧ Q e L' st.heap := by
    intro n
    induction n using Nat.strongRecOn with
    | _ n ih =>
      intro a hn Hx lo hI hl hB tm ht
      obtain ⟨L', h1, h2⟩ := mkK_spec (S a) .leaf _ (hr a Hx hI hB)
      have ha : Agree tm L' := fun i v hv => by
        rcases h2 i v hv with h3 | h3
        · simp [Tr.get] at h3
        · exact ht i v h3
      refine WC.round (((vc_spec hN b L' _ _ h1).run tm lo ha hl hB).mono ?_)
      rintro e ⟨tm', H', lo'⟩ ⟨hl', hB', L2, h3, h4⟩
      cases e with
      | normal =>
        obtain ⟨a', h5, h6, h7⟩ := h4
        exact ih _ (by rw [← hn]; exact h6) a' rfl H' lo' h7 hl' hB' tm' fun i v hv => h3 i v (covers_mem L2 _ h5 i v hv)
      | _ => exact ⟨hl', hB', L2, h3, h4⟩
  exact ⟨fun tm lo ha hl hB => key _ a0 rfl H lo hI hl hB tm fun i v hv => ha i v (covers_mem L _ hc i v hv)⟩
end
end Go.AI

/- Rows of values of one cell each, and what reads them. -/
namespace Go.AI

/-- A slice whose elements take one cell each, and are these. -/
def Row (H : Heap) (v : Value) (vs : List Value) : Prop :=
  (v = .slice none 0 0 ∧ vs = []) ∨ (v = anon ∧ vs = []) ∨
  ∃ b i c cs e k, v = .slice (some ⟨b, i, none⟩) vs.length c ∧ b < H.n ∧ H.get b = some (.cells cs e k) ∧ k ≠ 1 ∧ i + vs.length ≤ cs.length ∧ ∀ j w, vs[j]? = some w → cs[i + j]? = some w

def elemAt (v : Value) (j : Nat) : Value :=
  match v with
  | .slice (some ⟨b, i, _⟩) _ _ => .pointer (some ⟨b, i + j, none⟩)
  | _ => undef

section
variable {P : Program} {H : Heap} {v : Value} {vs : List Value}

theorem Row.alen (h : Row H v vs) {t e : TypeId} (ht : P.underlying t = some (.slice e)) : alen P H t v = some (.int .i64 vs.length) := by
  rcases h with ⟨rfl, rfl⟩ | ⟨rfl, rfl⟩ | ⟨b, i, c, cs, e', k, rfl, _, _, _, _, _⟩
  · simp [AI.alen, ht]
  · simp [AI.alen, ht, anon]
  · simp [AI.alen, ht]

theorem Row.addr (h : Row H v vs) {t e : TypeId} (ht : P.underlying t = some (.slice e)) (hs : sizeB P e = some 1) {kd : IntKind} {n : Int} (h0 : 0 ≤ n) (h1 : n < vs.length) : aindexAddr P t v (.int kd n) = some (elemAt v n.toNat) := by
  rcases h with ⟨rfl, rfl⟩ | ⟨rfl, rfl⟩ | ⟨b, i, c, cs, e', k, rfl, _, _, _, _, _⟩
  · simp at h1; omega
  · simp at h1; omega
  · simp [aindexAddr, asIdx, ht, hs, elemAt, h0, h1]

theorem Row.load (h : Row H v vs) {t : TypeId} (ht : isAggB P t = some false) {j : Nat} {w : Value} (hj : vs[j]? = some w) : aload P t H (elemAt v j) = some w := by
  rcases h with ⟨rfl, rfl⟩ | ⟨rfl, rfl⟩ | ⟨b, i, c, cs, e', k, rfl, _, hb, _, _, hc⟩
  · simp at hj
  · simp at hj
  · simp [aload, elemAt, hb, ht, hc j w hj]
end

/-- A slice of ints. -/
def Ints (H : Heap) (v : Value) (xs : List Int) : Prop := Row H v (xs.map (Value.int .i64))
end Go.AI

/- Operations on plain values, one by one. -/
namespace Go.AI
section
variable {P : Program} {tm : Tm} {H : Heap} {o : Oper}

theorem evT_of {x : Operand} {v : Value} (h : ev P tm x = some v) : evT tm x = v := by
  cases x with
  | tmp t => simpa [ev, evT] using h
  | const v => simp only [ev] at h; split at h <;> simp_all [evT]
  | global g => simp only [ev] at h; split at h <;> simp_all [evT]
  | func f => simpa [ev, evT] using h

theorem pureRun_bind {α β : Type} (m : Sem α) (f : α → Sem β) : pureRun P (m >>= f) = (pureRun P m).bind fun a => pureRun P (f a) := by
  show pureRun P (m.bind f) = _
  induction m with
  | pure a => rfl
  | program k ih => exact ih P
  | mark m k ih => exact ih
  | _ => rfl
theorem pureRun_pure {α : Type} (a : α) : pureRun P (pure a) = some a := rfl
theorem pureRun_underlying {t : TypeId} {d : TypeDesc} (h : P.underlying t = some d) : pureRun P (underlying t) = some d := by
  unfold underlying
  rw [pureRun_bind, show pureRun P program = some P from rfl]
  simp only [Option.bind_some, h]
  rfl

theorem apure_bin {op : BinOp} {t u : TypeId} {x y : Operand} {a b v : Value} (ho : o.op = .binOp op t x y u) (hx : ev P tm x = some a) (hy : ev P tm y = some b) (ha : plain a = true) (hb : plain b = true)
    (hg : pureRun P (eqGuard op t x y a b) = some ()) (h : pureRun P (binOp op t a b) = some v) (hv : plain v = true) : apure P tm o = some v := by
  unfold apure
  simp only [ho, Op.operands, execOp, evT_of hx, evT_of hy]
  rw [if_pos (by simp [hx, hy, ha, hb])]
  simp only [pureRun_bind, hg, h, Option.bind_some, pureRun_pure, hv, if_true]

theorem eqGuard_bool {op : BinOp} {t : TypeId} {x y : Operand} {a b : Bool} : pureRun P (eqGuard op t x y (.bool a) (.bool b)) = some () := by
  cases op <;> rfl
theorem eqGuard_int {op : BinOp} {t : TypeId} {x y : Operand} {k j : IntKind} {a b : Int} : pureRun P (eqGuard op t x y (.int k a) (.int j b)) = some () := by
  cases op <;> rfl
theorem eqGuard_str {op : BinOp} {t : TypeId} {x y : Operand} {a b : ByteArray} : pureRun P (eqGuard op t x y (.string a) (.string b)) = some () := by
  cases op <;> rfl
theorem equal_bool {t : TypeId} {a b : Bool} (ht : P.underlying t = some .bool) : pureRun P (Op.equal t (.bool a) (.bool b)) = some (a == b) := by
  unfold Op.equal
  rw [show Op.maxDepth = 9999 + 1 from rfl, Op.equalIn, pureRun_bind, pureRun_underlying ht]
  rfl
theorem step1_bin {op : BinOp} {t u : TypeId} {x y : Operand} {a b v : Value} (ho : o.op = .binOp op t x y u) (hx : ev P tm x = some a) (hy : ev P tm y = some b) (h : abin op a b = none) (hn : anil P t op a b = none) (hp : apure P tm o = some v) : step1 P tm H o = some (v, H, H.n) := by
  simp only [step1, ho, sBin, hx, hy, h, hn, hp, ret]
theorem step1_nil {op : BinOp} {t u : TypeId} {x y : Operand} {a b v : Value} (ho : o.op = .binOp op t x y u) (hx : ev P tm x = some a) (hy : ev P tm y = some b) (h : abin op a b = none) (hn : anil P t op a b = some v) : step1 P tm H o = some (v, H, H.n) := by
  simp only [step1, ho, sBin, hx, hy, h, hn]
theorem step1_boolEql {t u : TypeId} {x y : Operand} {a b : Bool} (ht : P.underlying t = some .bool) (ho : o.op = .binOp .eql t x y u) (hx : ev P tm x = some (.bool a)) (hy : ev P tm y = some (.bool b)) : step1 P tm H o = some (.bool (a == b), H, H.n) := by
  refine step1_bin ho hx hy rfl rfl (apure_bin ho hx hy rfl rfl eqGuard_bool ?_ rfl)
  rw [show binOp .eql t (.bool a) (.bool b) = (do pure (.bool (← Op.equal t (.bool a) (.bool b)))) from rfl, pureRun_bind, equal_bool ht]
  rfl
theorem step1_boolNeq {t u : TypeId} {x y : Operand} {a b : Bool} (ht : P.underlying t = some .bool) (ho : o.op = .binOp .neq t x y u) (hx : ev P tm x = some (.bool a)) (hy : ev P tm y = some (.bool b)) : step1 P tm H o = some (.bool (a != b), H, H.n) := by
  refine step1_bin ho hx hy rfl rfl (apure_bin ho hx hy rfl rfl eqGuard_bool ?_ rfl)
  rw [show binOp .neq t (.bool a) (.bool b) = (do pure (.bool (!(← Op.equal t (.bool a) (.bool b))))) from rfl, pureRun_bind, equal_bool ht]
  rfl
theorem step1_str {op : BinOp} {t u : TypeId} {x y : Operand} {a b : ByteArray} {v : Value} (ho : o.op = .binOp op t x y u) (hx : ev P tm x = some (.string a)) (hy : ev P tm y = some (.string b)) (h : pureRun P (Op.stringOp op a b) = some v) (hv : plain v = true) : step1 P tm H o = some (v, H, H.n) := by
  refine step1_bin ho hx hy rfl rfl (apure_bin ho hx hy rfl rfl eqGuard_str ?_ hv)
  rw [show binOp op t (.string a) (.string b) = Op.stringOp op a b by cases op <;> rfl]
  exact h
theorem step1_strEql {t u : TypeId} {x y : Operand} {a b : ByteArray} (ho : o.op = .binOp .eql t x y u) (hx : ev P tm x = some (.string a)) (hy : ev P tm y = some (.string b)) : step1 P tm H o = some (.bool (a.toList == b.toList), H, H.n) :=
  step1_str ho hx hy rfl rfl
theorem step1_strNeq {t u : TypeId} {x y : Operand} {a b : ByteArray} (ho : o.op = .binOp .neq t x y u) (hx : ev P tm x = some (.string a)) (hy : ev P tm y = some (.string b)) : step1 P tm H o = some (.bool (!(a.toList == b.toList)), H, H.n) :=
  step1_str ho hx hy rfl rfl
theorem step1_bits {op : BinOp} {t u : TypeId} {x y : Operand} {k : IntKind} {a b : Int} {v : Value} (hop : op = .xor ∨ op = .and ∨ op = .or ∨ op = .andNot) (ho : o.op = .binOp op t x y u) (hx : ev P tm x = some (.int k a)) (hy : ev P tm y = some (.int k b)) (h : pureRun P (Op.intBits op k a b) = some v) (hv : plain v = true) : step1 P tm H o = some (v, H, H.n) := by
  have h1 : abin op (.int k a) (.int k b) = none := by rcases hop with rfl | rfl | rfl | rfl <;> simp [abin]
  refine step1_bin ho hx hy h1 rfl (apure_bin ho hx hy rfl rfl eqGuard_int ?_ hv)
  rw [show binOp op t (.int k a) (.int k b) = Op.intBits op k a b by rcases hop with rfl | rfl | rfl | rfl <;> simp [binOp]]
  exact h
theorem step1_div {op : BinOp} {t u : TypeId} {x y : Operand} {k : IntKind} {a b : Int} {v : Value} (hop : op = .quo ∨ op = .rem) (ho : o.op = .binOp op t x y u) (hx : ev P tm x = some (.int k a)) (hy : ev P tm y = some (.int k b)) (h : pureRun P (Op.intDiv op k a b) = some v) (hv : plain v = true) : step1 P tm H o = some (v, H, H.n) := by
  have h1 : abin op (.int k a) (.int k b) = none := by rcases hop with rfl | rfl <;> simp [abin]
  refine step1_bin ho hx hy h1 rfl (apure_bin ho hx hy rfl rfl eqGuard_int ?_ hv)
  rw [show binOp op t (.int k a) (.int k b) = Op.intDiv op k a b by rcases hop with rfl | rfl <;> simp [binOp]]
  exact h
theorem step1_shr {t u : TypeId} {x y : Operand} {k j : IntKind} {a b : Int} (ho : o.op = .binOp .shr t x y u) (hx : ev P tm x = some (.int k a)) (hy : ev P tm y = some (.int j b)) (hb : 0 ≤ b) : step1 P tm H o = some (.int k (a.fdiv (2 ^ (min b.toNat k.bits))), H, H.n) := by
  refine step1_bin ho hx hy (by simp [abin]) rfl (apure_bin ho hx hy rfl rfl eqGuard_int ?_ rfl)
  rw [show binOp .shr t (.int k a) (.int j b) = Op.shift .shr k a j b from rfl, Op.shift, if_neg (by omega)]
  rfl
theorem step1_shl {t u : TypeId} {x y : Operand} {k j : IntKind} {a b : Int} (ho : o.op = .binOp .shl t x y u) (hx : ev P tm x = some (.int k a)) (hy : ev P tm y = some (.int j b)) (hb : 0 ≤ b) : step1 P tm H o = some (.int k (k.wrap (a * 2 ^ (min b.toNat k.bits))), H, H.n) := by
  refine step1_bin ho hx hy (by simp [abin]) rfl (apure_bin ho hx hy rfl rfl eqGuard_int ?_ rfl)
  rw [show binOp .shl t (.int k a) (.int j b) = Op.shift .shl k a j b from rfl, Op.shift, if_neg (by omega)]
  rfl
theorem step1_rem {t u : TypeId} {x y : Operand} {k : IntKind} {a b : Int} (ho : o.op = .binOp .rem t x y u) (hx : ev P tm x = some (.int k a)) (hy : ev P tm y = some (.int k b)) (hb : b ≠ 0) : step1 P tm H o = some (.int k (a.tmod b), H, H.n) :=
  step1_div (.inr rfl) ho hx hy (by rw [Op.intDiv, if_neg hb]; rfl) rfl
theorem step1_quo {t u : TypeId} {x y : Operand} {k : IntKind} {a b : Int} (ho : o.op = .binOp .quo t x y u) (hx : ev P tm x = some (.int k a)) (hy : ev P tm y = some (.int k b)) (hb : b ≠ 0) : step1 P tm H o = some (.int k (k.wrap (a.tdiv b)), H, H.n) :=
  step1_div (.inl rfl) ho hx hy (by rw [Op.intDiv, if_neg hb]; rfl) rfl
theorem step1_conv {s d : TypeId} {x : Operand} {j k : IntKind} {n : Int} {ds : TypeDesc} (hs : P.underlying s = some ds) (hd : P.underlying d = some (.int k)) (ho : o.op = .convert s d x) (hx : ev P tm x = some (.int j n)) : step1 P tm H o = some (.int k (k.wrap n), H, H.n) := by
  have h1 : pureRun P (convert s d (.int j n)) = some (.int k (k.wrap n)) := by
    unfold convert
    rw [pureRun_bind, pureRun_underlying hs, Option.bind_some, pureRun_bind, pureRun_underlying hd, Option.bind_some]
    rfl
  have h2 : apure P tm o = some (.int k (k.wrap n)) := by
    unfold apure
    simp only [ho, Op.operands, execOp, evT_of hx]
    rw [if_pos (by simp [hx, plain, flat, scalar])]
    simp only [pureRun_bind, h1, Option.bind_some, pureRun_pure]
    rfl
  simp only [step1, ho, sConvert, hx, h2, ret]
  rfl
theorem apure_builtin {b : Builtin} {x y : Operand} {ts : Array TypeId} {a c v : Value} (ho : o.op = .call ⟨.builtin b, #[x, y], ts⟩) (hx : ev P tm x = some a) (hy : ev P tm y = some c) (ha : plain a = true) (hc : plain c = true)
    (h : ∀ cs : Array Bool, pureRun P (builtin b ts o.type cs #[a, c]) = some (.value v)) (hv : plain v = true) : apure P tm o = some v := by
  unfold apure
  simp only [ho, Op.operands, execOp, resolve, pureRun_bind, pureRun_pure, Option.bind_some, invoke]
  rw [if_pos (by simp [Call.operands, hx, hy, ha, hc])]
  rw [show Array.map (evT tm) #[x, y] = #[a, c] by simp [evT_of hx, evT_of hy]]
  simp only [h, hv, if_true]
theorem step1_max {x y : Operand} {ts : Array TypeId} {k : IntKind} {a b : Int} (ho : o.op = .call ⟨.builtin .max, #[x, y], ts⟩) (hx : ev P tm x = some (.int k a)) (hy : ev P tm y = some (.int k b)) : step1 P tm H o = some (.int k (max a b), H, H.n) := by
  have : apure P tm o = some (.int k (if b > a then b else a)) := apure_builtin ho hx hy rfl rfl (fun _ => rfl) rfl
  simp only [step1, ho, sCall, sBuiltin, this, ret]
  congr 3
  split <;> omega
theorem step1_min {x y : Operand} {ts : Array TypeId} {k : IntKind} {a b : Int} (ho : o.op = .call ⟨.builtin .min, #[x, y], ts⟩) (hx : ev P tm x = some (.int k a)) (hy : ev P tm y = some (.int k b)) : step1 P tm H o = some (.int k (min a b), H, H.n) := by
  have : apure P tm o = some (.int k (if b < a then b else a)) := apure_builtin ho hx hy rfl rfl (fun _ => rfl) rfl
  simp only [step1, ho, sCall, sBuiltin, this, ret]
  congr 3
  split <;> omega
theorem ev_tmp {L : Kn} (ha : Agree tm L) {i : Nat} {v : Value} (h : L.get i = some v) : ev P tm (.tmp i) = some v := by
  simp only [ev, ha i v h]
end
end Go.AI
