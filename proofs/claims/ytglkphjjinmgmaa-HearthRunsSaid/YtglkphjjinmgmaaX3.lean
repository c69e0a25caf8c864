/- Several texts in one. -/
import Derived.Test.YtglkphjjinmgmaaX2
set_option linter.unusedVariables false
set_option linter.unusedSimpArgs false
namespace Go.AI
open Go.RowKit
def Fr (r : Option Nat) : Fence := { fn := fun _ => True, depth := none, alive := false, round := r }
section
variable {P : Program} {B : Nat}
theorem run_enterIn {w : World} {l₀ : Nat} {r₀ : Loop} (h : w.heap[l₀]? = some (.loop r₀)) (fn : FuncId) (tmps : Array Value) (ps : Array Tmp) (x y : Code) :
    (Instr.enterLoop fn tmps ps x y (some l₀)).run P w =
      .ok (w.heap.size, []) (w.alloc (.loop { state := .ready, pending := none, fn, tmps, params := ps, assign := x, body := y, defers := r₀.defers })) := by
  simp only [Instr.enterLoop, Sem.run_bind, run_getLoop h, Result.andThen, Sem.run_pure, run_newObj_alloc]
def CalIn (P : Program) (k : Nat) (ρ : Ren) : Cal -> Array Value -> World -> (Ending -> World -> Prop) -> Prop
  | .fn f, args, w, R => CallsIn Fence.wide k P f args w R
  | .rnd b, args, w, R => ∀ e, ρ b = some e -> ∃ fn tmps x y, (Instr.yield e.blk args).run P w = .ok (.round e.blk fn tmps x y) w ∧ RoundIn Fence.wide k P e.blk fn tmps x y w R
def isFn : Cal -> Bool
  | .fn _ => true
  | .rnd _ => false
def CallOK (P : Program) (B : Nat) (cf : CallF) : Prop :=
  ∀ c l H v H' lo, cf c l H = some (v, H', lo) -> ∀ ρ w (args : Array Value) (k : Nat), HR P B ρ H w -> L2 (VT ρ) l args.toList ->
    (isFn c = true ∨ lo < H.n) ∧ CalIn P k ρ c args w (fun e w' => ∃ ρ' v', e = .returned v' ∧ VT ρ' v v' ∧ HR P B ρ' H' w' ∧ Ext B ρ ρ' lo w w')
def Marks (mb : Nat) (ρ : Ren) (ds : List Deferred) (w : World) : Prop :=
  ∃ rs : List Nat, ds = rs.map (fun r => { target := .collected r, args := #[] }) ∧ rs.Nodup ∧ ∀ r ∈ rs, mb <= r ∧ w.heap[r]? = some (.deferred (some [])) ∧ ∀ b e, ρ b = some e -> e.blk ≠ r
theorem Marks.nil (mb : Nat) (ρ : Ren) (w : World) : Marks mb ρ [] w := ⟨[], rfl, .nil, fun r h => by cases h⟩
theorem Marks.ext {mb lo : Nat} {ρ ρ' : Ren} {ds : List Deferred} {w w' : World} (h : Marks mb ρ ds w) (he : Ext B ρ ρ' lo w w') : Marks mb ρ' ds w' := by
  obtain ⟨rs, h1, h2, h3⟩ := h
  refine ⟨rs, h1, h2, fun r hr => ?_⟩
  obtain ⟨h4, h5, h6⟩ := h3 r hr
  have hlt : r < w.heap.size := (Array.getElem?_eq_some_iff.1 h5).1
  refine ⟨h4, by rw [he.block r hlt fun b e _ hb _ => h6 b e hb]; exact h5, fun b e hb => ?_⟩
  cases hρ : ρ b with
  | some e' =>
    have := he.le _ _ hρ
    rw [hb] at this; cases this
    exact h6 b e hρ
  | none =>
    rcases he.fresh b e hρ hb with h7 | ⟨b0, e0, _, h8, _, h9⟩
    · omega
    · rw [<- h9]; exact h6 b0 e0 h8
structure RS (P : Program) (B : Nat) (ρ0 : Ren) (w0 : World) (mb n : Nat) (ρ : Ren) (st : St) (a : Act) (w : World) : Prop where
  hr : HR P B ρ st.heap w
  fr : FR ρ st.tmps a
  size : a.tmps.size = n
  ext : Ext B ρ0 ρ st.lo w0 w
  marks : Marks mb ρ a.defers w
theorem put_defers (a : Act) (d : Option Tmp) (v : Value) : (a.put d v).defers = a.defers := by
  unfold Act.put; cases d <;> rfl
theorem RS.below {ρ0 ρ : Ren} {w0 w w' : World} {mb n : Nat} {st : St} {a : Act} (h : RS P B ρ0 w0 mb n ρ st a w) (hb : Below w.heap.size w w') : RS P B ρ0 w0 mb n ρ st a w' :=
  ⟨h.hr.below hb, h.fr, h.size, (by have := h.ext.trans (Ext.of_below (B := B) (ρ := ρ) st.lo hb); simpa using this), h.marks.ext (Ext.of_below (B := B) (ρ := ρ) 0 hb)⟩
theorem vt_isbool {ρ : Ren} {v v' : Value} (h : VT ρ v v') (b : Bool) : v = .bool b ↔ v' = .bool b := by
  constructor
  · intro e; subst e; exact vt_bool h
  · intro e; subst e
    cases h with
    | one h => cases h with
      | cell h => cases h with
        | same _ => rfl
theorem yielded_eq {ρ : Ren} {tm : Tm} {a : Act} (hF : FR ρ tm a) (ops : Array Oper) (j : Nat) : yieldedL ops.toList tm j = yielded ops a.tmps j := by
  unfold yieldedL yielded
  rw [Array.getElem?_toList]
  cases ops[j]? with
  | none => rfl
  | some o =>
    simp only [Option.bind_some]
    cases o.dst with
    | none => rfl
    | some d =>
      simp only [Option.bind_some]
      have h := hF.at_ d
      have hg : a.tmps.getD d undef = (a.tmps[d]?).getD undef := by simp [Array.getD_eq_getD_getElem?]
      rw [hg] at h
      cases ht : a.tmps[d]? with
      | none =>
        rw [ht] at h
        simp only [Option.getD_none] at h
        split
        · rename_i b hb
          have := (vt_isbool h b).1 hb
          cases this
        · rfl
      | some u =>
        rw [ht] at h
        simp only [Option.getD_some] at h
        cases u with
        | bool b => rw [(vt_isbool h b).2 rfl]
        | _ =>
          split
          · rename_i b hb
            have := (vt_isbool h b).1 hb
            cases this
          · rfl
theorem wanted_eq {ρ : Ren} {tm : Tm} {a : Act} (hF : FR ρ tm a) (ops : Array Oper) (o : Oper) : wantedL ops.toList tm o = Region.wanted o (yielded ops a.tmps) := by
  unfold wantedL Region.wanted
  cases o.guard with
  | none => rfl
  | some g => obtain ⟨j, want⟩ := g; simp only [yielded_eq hF]
theorem FR.put {ρ : Ren} {tm : Tm} {a : Act} {v v' : Value} {o : Oper} (hF : FR ρ tm a) (hd : dstOk a.tmps.size o = true) (hv : VT ρ v v') : FR ρ (putL tm o.dst v) (a.put o.dst v') := by
  unfold putL Act.put
  cases hdst : o.dst with
  | none => exact hF
  | some d =>
    have hlt : d < a.tmps.size := by simpa [dstOk, hdst] using hd
    refine ⟨fun i => ?_, hF.none⟩
    simp only
    by_cases hdi : d = i
    · subst hdi
      rw [Tm.at_set_eq]
      simp [Array.getD_eq_getD_getElem?, hlt]
      exact hv
    · rw [Tm.at_set_ne _ _ hdi]
      have := hF.at_ i
      simpa [Array.getD_eq_getD_getElem?, Array.getElem?_setIfInBounds, hdi] using this
theorem put_size (a : Act) (d : Option Tmp) (v : Value) : (a.put d v).tmps.size = a.tmps.size := by
  unfold Act.put; cases d <;> simp
theorem calleeOf_sound {ρ : Ren} {H : Heap} {w : World} {tm : Tm} {a : Act} {g : Operand} {xs : Array Operand} {f : FuncId} {l : List Value} (hH : HR P B ρ H w) (hF : FR ρ tm a) (h : calleeOf P tm g xs = some (f, l)) :
    ∃ (first' cap' : Array Value) (l' : List Value) (first cap : Array Value), a.eval g = .func (.func f) first' cap' ∧ evs P tm xs.toList = some l' ∧ l = first.toList ++ (l' ++ cap.toList) ∧ L2 (VT ρ) first.toList first'.toList ∧ L2 (VT ρ) cap.toList cap'.toList ∧ (∀ (args : Array Value) (w : World), (callFunc f args).run P w = .ok (.enter f args) w) := by
  unfold calleeOf at h
  split at h
  · rename_i f' first cap hev
    split at h
    · rename_i fn hfn
      split at h
      · rename_i hb
        split at h <;> cases h
        rename_i l' hl
        obtain ⟨first', cap', e1, h1, h2⟩ := vt_fnB (ev_sound hH hF hev)
        have hbody : ¬ fn.body = none := fun hh => by rw [hh] at hb; simp at hb
        exact ⟨first', cap', l', first, cap, e1, hl, rfl, h1, h2, fun args w => by simp [callFunc, hfn, hbody, hb.2]⟩
      · cases h
    · cases h
  · cases h
theorem iterOf_sound {ρ : Ren} {H : Heap} {w : World} {tm : Tm} {a : Act} {g : Operand} {f : FuncId} {l : List Value} (hH : HR P B ρ H w) (hF : FR ρ tm a) (h : iterOf P tm g = some (f, l)) :
    ∃ (cap' : Array Value), a.eval g = .func (.func f) #[] cap' ∧ L2 (VT ρ) l cap'.toList ∧ (∀ (args : Array Value) (w : World), (callFunc f args).run P w = .ok (.enter f args) w) := by
  unfold iterOf at h
  split at h
  · rename_i f' first cap hev
    split at h
    · rename_i h0
      split at h
      · rename_i fn hfn
        split at h
        · rename_i hb
          cases h
          obtain ⟨cap', e1, h2⟩ := vt_fn (ev_sound hH hF hev) h0
          have hbody : ¬ fn.body = none := fun hh => by rw [hh] at hb; simp at hb
          exact ⟨cap', e1, h2, fun args w => by simp [callFunc, hfn, hbody, hb.2]⟩
        · cases h
      · cases h
    · cases h
  · cases h
theorem callOf_sound {ρ : Ren} {H : Heap} {w : World} {tm : Tm} {a : Act} {o : Oper} {c : Cal} {l : List Value} (hH : HR P B ρ H w) (hF : FR ρ tm a) (h : callOf P tm o = some (c, l)) :
    ∃ args : Array Value, L2 (VT ρ) l args.toList ∧ (match c with
      | .fn f => ∀ w1, (execOp a.eval o).run P w1 = .ok (.enter f args) w1
      | .rnd b => ∃ e, ρ b = some e ∧ ∀ w1, (execOp a.eval o).run P w1 = (Instr.yield e.blk args).run P w1) := by
  unfold callOf at h
  split at h
  · rename_i cl hop
    split at h
    · rename_i g hg
      unfold calOf at h
      split at h
      · rename_i f l0 hcal
        cases h
        obtain ⟨first', cap', l', first, cap, e1, hl, rfl, h1, h2, h3⟩ := calleeOf_sound hH hF hcal
        have h4 := evs_sound hH hF _ _ hl
        refine ⟨first' ++ cl.args.map a.eval ++ cap', by simpa using h1.append (h4.append h2), fun w1 => ?_⟩
        simp [execOp, hop, resolve, hg, e1, Deferred.ofValue, invoke, h3]
      · split at h
        · rename_i b l0 hr
          cases h
          unfold rndOf at hr
          split at hr
          · rename_i b' first cap hev
            split at hr
            · rename_i h0
              split at hr
              · rename_i vs hl
                cases hr
                obtain ⟨e, h1, h2⟩ := vt_yld (ev_sound hH hF hev)
                have h4 := evs_sound hH hF _ _ hl
                refine ⟨cl.args.map a.eval, by simpa using h4, e, h1, fun w1 => ?_⟩
                simp [execOp, hop, resolve, hg, h2, Deferred.ofValue, invoke]
              · cases hr
            · cases hr
          · cases hr
        · cases h
    · cases h
  · cases h
theorem noDefer_of {cf : CallF} {tm : Tm} {H : Heap} {o : Oper} {r : Res} (h : step P cf tm H o = some r) : noDefer o := by
  intro c hc
  unfold step callOf at h
  simp only [hc] at h
  simp [step1, nzOf, hc] at h
theorem step_sound {cf : CallF} (hcf : CallOK P B cf) {ρ0 ρ : Ren} {w0 w : World} {mb n : Nat} {st : St} {a : Act} {o : Oper} {v : Value} {H' : Heap} {lo : Nat} (hd : dstOk n o = true) (h : RS P B ρ0 w0 mb n ρ st a w) (hs : step P cf st.tmps st.heap o = some (v, H', lo))
    (r : Option Nat) (k : Nat) (next : Act -> World -> Prop) (Q : Exit -> Act -> World -> Prop)
    (hn : ∀ ρ' a' w', RS P B ρ0 w0 mb n ρ' ⟨putL st.tmps o.dst v, H', min st.lo lo⟩ a' w' -> next a' w') : o.wpIn (Fr r) k P a w next Q := by
  refine ⟨fun _ _ => trivial, ?_⟩
  rw [semAt_of (noDefer_of hs)]
  unfold step at hs
  split at hs
  · rename_i c l hcall
    obtain ⟨args, h1, h2⟩ := callOf_sound h.hr h.fr hcall
    have hc := (hcf c l st.heap v H' lo hs ρ w args (k - 1) h.hr h1).2
    have fin : ∀ ρ' v' w', VT ρ' v v' -> HR P B ρ' H' w' -> Ext B ρ ρ' lo w w' -> next (a.put o.dst v') w' := fun ρ' v' w' h3 h4 h5 =>
      hn ρ' _ w' ⟨h4, (h.fr.mono h5.le).put (by rw [h.size]; exact hd) h3, by rw [put_size]; exact h.size, h.ext.trans h5, by rw [put_defers]; exact h.marks.ext h5⟩
    cases c with
    | fn f =>
      rw [h2 w]
      exact ⟨fun hh => (by cases hh), (show CallsIn (Fr r) (k - 1) P f args w _ from hc).mono (by rintro e w' ⟨ρ', v', rfl, h3, h4, h5⟩; exact fin ρ' v' w' h3 h4 h5)⟩
    | rnd b =>
      obtain ⟨e, he, h3⟩ := h2
      obtain ⟨fn, tmps, x, y, h4, h5⟩ := hc e he
      rw [h3 w, h4]
      exact ⟨fun hh => (by cases hh), (show RoundIn (Fr r) (k - 1) P e.blk fn tmps x y w _ from h5).mono (by rintro e w' ⟨ρ', v', rfl, h3, h4, h5⟩; exact fin ρ' v' w' h3 h4 h5)⟩
  · obtain ⟨ρ', nx, v', w', h1, h2, h3, h4, h5⟩ := stepN_sound h.hr h.fr hs
    rw [h1]
    have := hn ρ' (a.put o.dst v') w' ⟨h4, (h.fr.mono h5.le).put (by rw [h.size]; exact hd) h3, by rw [put_size]; exact h.size, h.ext.trans h5, by rw [put_defers]; exact h.marks.ext h5⟩
    rcases h2 with rfl | ⟨rfl, rfl⟩
    · exact this
    · exact this
theorem step_sound2 {cf : CallF} (hcf : CallOK P B cf) {ρ0 ρ : Ren} {w0 w : World} {mb n : Nat} {st : St} {a : Act} {o : Oper} {v : Value} {H' : Heap} {lo : Nat} (hd : dstOk n o = true) (h : RS P B ρ0 w0 mb n ρ st a w) (hs : step P cf st.tmps st.heap o = some (v, H', lo))
    (r : Option Nat) (k : Nat) (next : Act -> World -> Prop) (Q : Exit -> Act -> World -> Prop)
    (hn : ∀ ρ' v' w', VT ρ' v v' -> Ext B ρ ρ' lo w w' -> RS P B ρ0 w0 mb n ρ' ⟨putL st.tmps o.dst v, H', min st.lo lo⟩ (a.put o.dst v') w' -> next (a.put o.dst v') w') : o.wpIn (Fr r) k P a w next Q := by
  refine ⟨fun _ _ => trivial, ?_⟩
  rw [semAt_of (noDefer_of hs)]
  unfold step at hs
  split at hs
  · rename_i c l hcall
    obtain ⟨args, h1, h2⟩ := callOf_sound h.hr h.fr hcall
    have hc := (hcf c l st.heap v H' lo hs ρ w args (k - 1) h.hr h1).2
    have fin : ∀ ρ' v' w', VT ρ' v v' -> HR P B ρ' H' w' -> Ext B ρ ρ' lo w w' -> next (a.put o.dst v') w' := fun ρ' v' w' h3 h4 h5 =>
      hn ρ' v' w' h3 h5 ⟨h4, (h.fr.mono h5.le).put (by rw [h.size]; exact hd) h3, by rw [put_size]; exact h.size, h.ext.trans h5, by rw [put_defers]; exact h.marks.ext h5⟩
    cases c with
    | fn f =>
      rw [h2 w]
      exact ⟨fun hh => (by cases hh), (show CallsIn (Fr r) (k - 1) P f args w _ from hc).mono (by rintro e w' ⟨ρ', v', rfl, h3, h4, h5⟩; exact fin ρ' v' w' h3 h4 h5)⟩
    | rnd b =>
      obtain ⟨e, he, h3⟩ := h2
      obtain ⟨fn, tmps, x, y, h4, h5⟩ := hc e he
      rw [h3 w, h4]
      exact ⟨fun hh => (by cases hh), (show RoundIn (Fr r) (k - 1) P e.blk fn tmps x y w _ from h5).mono (by rintro e w' ⟨ρ', v', rfl, h3, h4, h5⟩; exact fin ρ' v' w' h3 h4 h5)⟩
  · obtain ⟨ρ', nx, v', w', h1, h2, h3, h4, h5⟩ := stepN_sound h.hr h.fr hs
    rw [h1]
    have := hn ρ' v' w' h3 h5 ⟨h4, (h.fr.mono h5.le).put (by rw [h.size]; exact hd) h3, by rw [put_size]; exact h.size, h.ext.trans h5, by rw [put_defers]; exact h.marks.ext h5⟩
    rcases h2 with rfl | ⟨rfl, rfl⟩
    · exact this
    · exact this
theorem opsL_sound {cf : CallF} (hcf : CallOK P B cf) {ρ0 : Ren} {w0 : World} {mb n : Nat} (ops : Array Oper) (hd : ∀ (i : Nat) (o : Oper), ops[i]? = some o -> dstOk n o = true) (r : Option Nat) (kf : Nat) (Q : Exit -> Act -> World -> Prop) (st' : St)
    (hQ : ∀ ρ' a' w', RS P B ρ0 w0 mb n ρ' st' a' w' -> Q .normal a' w') : ∀ (l : List Oper) (k : Nat) (st : St) (ρ : Ren) (a : Act) (w : World), (∀ j, l[j]? = ops[k + j]?) -> RS P B ρ0 w0 mb n ρ st a w -> opsL P cf ops.toList l st = some st' ->
    wpOpsIn (Fr r) kf P ops Q (List.range' k l.length) a w
  | [], k, st, ρ, a, w, _, h, hs => by
    simp only [opsL, Option.some.injEq] at hs
    subst hs
    exact hQ ρ a w h
  | o :: l, k, st, ρ, a, w, hl, h, hs => by
    have h0 : ops[k]? = some o := by simpa using (hl 0).symm
    have hl' : ∀ j, l[j]? = ops[k + 1 + j]? := fun j => by have := hl (j + 1); simpa [Nat.add_assoc, Nat.add_comm 1 j] using this
    rw [List.length_cons, List.range'_succ, wpOpsIn_cons]
    unfold wpOpIn
    simp only [h0]
    simp only [opsL, wanted_eq h.fr ops o] at hs
    split at hs
    · rename_i hw
      rw [if_pos hw]
      split at hs
      · rename_i v H' lo hst
        exact step_sound hcf (hd k o h0) h hst r kf _ _ fun ρ' a' w' h' => opsL_sound hcf ops hd r kf Q st' hQ l (k + 1) _ ρ' a' w' hl' h' hs
      · cases hs
    · rename_i hw
      rw [if_neg hw]
      refine ⟨fun _ _ => trivial, opsL_sound hcf ops hd r kf Q st' hQ l (k + 1) { st with tmps := putL st.tmps o.dst undef } ρ _ w hl' ⟨h.hr, h.fr.put (by rw [h.size]; exact hd k o h0) (VT.undef _), by rw [put_size]; exact h.size, h.ext, by rw [put_defers]; exact h.marks⟩ hs⟩
theorem opsL_mid {cf : CallF} (hcf : CallOK P B cf) {ρ0 : Ren} {w0 : World} {mb n : Nat} (ops : Array Oper) (hd : ∀ (i : Nat) (o : Oper), ops[i]? = some o -> dstOk n o = true) (r : Option Nat) (kf : Nat) (Q : Exit -> Act -> World -> Prop) (R : Act -> World -> Prop) (st' : St)
    (hR : ∀ ρ' a' w', RS P B ρ0 w0 mb n ρ' st' a' w' -> R a' w') : ∀ (l : List Oper) (k : Nat) (st : St) (ρ : Ren) (a : Act) (w : World), (∀ j, j < l.length -> l[j]? = ops[k + j]?) -> RS P B ρ0 w0 mb n ρ st a w -> opsL P cf ops.toList l st = some st' ->
    wpMid (Fr r) kf P ops Q R (List.range' k l.length) a w
  | [], k, st, ρ, a, w, _, h, hs => by
    simp only [opsL, Option.some.injEq] at hs
    subst hs
    exact hR ρ a w h
  | o :: l, k, st, ρ, a, w, hl, h, hs => by
    have h0 : ops[k]? = some o := by simpa using (hl 0 (by simp)).symm
    have hl' : ∀ j, j < l.length -> l[j]? = ops[k + 1 + j]? := fun j hj => by have := hl (j + 1) (by simp; omega); simpa [Nat.add_assoc, Nat.add_comm 1 j] using this
    rw [List.length_cons, List.range'_succ]
    unfold wpMid wpOpIn
    simp only [h0]
    simp only [opsL, wanted_eq h.fr ops o] at hs
    split at hs
    · rename_i hw
      rw [if_pos hw]
      split at hs
      · rename_i v H' lo hst
        exact step_sound hcf (hd k o h0) h hst r kf _ _ fun ρ' a' w' h' => opsL_mid hcf ops hd r kf Q R st' hR l (k + 1) _ ρ' a' w' hl' h' hs
      · cases hs
    · rename_i hw
      rw [if_neg hw]
      refine ⟨fun _ _ => trivial, opsL_mid hcf ops hd r kf Q R st' hR l (k + 1) { st with tmps := putL st.tmps o.dst undef } ρ _ w hl' ⟨h.hr, h.fr.put (by rw [h.size]; exact hd k o h0) (VT.undef _), by rw [put_size]; exact h.size, h.ext, by rw [put_defers]; exact h.marks⟩ hs⟩
theorem headL_sound {cf : CallF} (hcf : CallOK P B cf) {ρ0 ρ : Ren} {w0 w : World} {mb n : Nat} (ops : Array Oper) (r : Option Nat) (kf : Nat) (K : Act -> Prop) (st' : St)
    (hK : ∀ a', RS P B ρ0 w0 mb n ρ st' a' w -> K a') : ∀ (l : List Oper) (st : St) (a : Act), (∀ o ∈ l, quietOp o = true ∧ dstOk n o = true) -> RS P B ρ0 w0 mb n ρ st a w -> headL P cf ops.toList l st = some st' ->
    wpQuietIn (Fr r) kf P ops (fun w' => Below w.heap.size w w') K l a
  | [], st, a, _, h, hs => by
    simp only [headL, Option.some.injEq] at hs
    subst hs
    exact hK a h
  | o :: l, st, a, hl, h, hs => by
    refine ⟨fun _ _ _ _ => trivial, ?_⟩
    simp only [headL, wanted_eq h.fr ops o] at hs
    have hq := hl o (by simp)
    have go : ∀ v v', VT ρ v v' -> headL P cf ops.toList l { st with tmps := putL st.tmps o.dst v } = some st' -> wpQuietIn (Fr r) kf P ops (fun w' => Below w.heap.size w w') K l (a.put o.dst v') := fun v v' hv hs' =>
      headL_sound hcf ops r kf K st' hK l { st with tmps := putL st.tmps o.dst v } _ (fun o' ho' => hl o' (by simp [ho'])) ⟨h.hr, h.fr.put (by rw [h.size]; exact hq.2) hv, by rw [put_size]; exact h.size, h.ext, by rw [put_defers]; exact h.marks⟩ hs'
    split at hs
    · rename_i hw
      rw [if_pos hw]
      split at hs
      · rename_i c args hcall
        split at hs
        · rename_i v H' lo hc
          split at hs
          · rename_i hp
            obtain ⟨args', h1, h2⟩ := callOf_sound h.hr h.fr hcall
            have hlt := (hcf c args st.heap v H' lo hc ρ w args' 0 h.hr h1).1
            cases c with
            | rnd b => rcases hlt with hlt | hlt
                       · cases hlt
                       · omega
            | fn f =>
            refine ⟨v, fun w1 hb => ?_, go v v (VT.of_plain hp.1) hs⟩
            unfold Oper.quietAtIn
            rw [h2 w1]
            refine ⟨rfl, fun hh => (by cases hh), ?_⟩
            have hH1 := h.hr.below hb
            have hcc := (hcf (.fn f) args st.heap v H' lo hc ρ w1 args' (kf - 1) hH1 h1).2
            refine (show CallsIn (Fr r) (kf - 1) P f args' w1 _ from hcc).mono ?_
            rintro e w2 ⟨ρ', v', rfl, h3, h4, h5⟩
            refine ⟨by rw [h3.plain hp.1], ?_⟩
            exact hb.trans ((h5.below hH1 hp.2).mono hb.size)
          · cases hs
        · cases hs
      · split at hs
        · rename_i v H' lo hst
          obtain ⟨⟨v', h1, h2⟩, _, _⟩ := step1_quiet h.hr h.fr hq.1 hst
          refine ⟨v', fun w1 hb => ?_, go v v' h1 hs⟩
          unfold Oper.quietAtIn
          rw [h2 w1 hb]
          exact ⟨rfl, rfl⟩
        · cases hs
    · rename_i hw
      rw [if_neg hw]
      exact go undef undef (VT.undef _) hs
theorem quietN_noCall {tm : Tm} {o : Oper} (h : quietN o = true) : callOf P tm o = none := by
  simp only [quietN, Bool.and_eq_true, Bool.not_eq_true'] at h
  replace h : quietOp o = true ∧ isCallB o = false := ⟨h.1, h.2.1⟩
  unfold callOf
  split
  · rename_i c hop
    split
    · rename_i g hg
      obtain ⟨h1, h2⟩ := h
      obtain ⟨cal, args, ats⟩ := c
      simp only at hg
      subst hg
      simp only [quietOp, hop] at h1
      simp only [isCallB, hop] at h2
      rw [h1] at h2; cases h2
    · rfl
  · rfl
theorem step_quiet1 {cf : CallF} {tm : Tm} {H : Heap} {o : Oper} (h : quietN o = true) : step P cf tm H o = step1 P tm H o := by
  refine step_eq1 (quietN_noCall h) (nz_no fun c g hop hg => ?_)
  simp only [quietN, Bool.and_eq_true, Bool.not_eq_true'] at h
  replace h : quietOp o = true ∧ isCallB o = false := ⟨h.1, h.2.1⟩
  obtain ⟨h1, h2⟩ := h
  obtain ⟨cal, args, ats⟩ := c
  simp only at hg
  subst hg
  simp only [quietOp, hop] at h1
  simp only [isCallB, hop] at h2
  rw [h1] at h2; cases h2
theorem nz_store {tm : Tm} {H : Heap} {o : Oper} (h : isStoreB o = true) : nzOf P tm H o = none := by
  refine nz_no fun c g hop hg => ?_
  simp [isStoreB, hop] at h
theorem wideC_in {md : Region.Mode} {ops : Array Oper} : ∀ (is : List Nat) (listed : Array Bool), wideC md ops is listed = true -> ∀ i ∈ is, ∃ o, ops[i]? = some o
  | [], _, _, i, hi => by cases hi
  | j :: is, listed, h, i, hi => by
    simp only [wideC, Bool.and_eq_true, Bool.or_eq_true, decide_eq_true_eq] at h
    rcases List.mem_cons.1 hi with rfl | hi
    · have : i ∈ Region.ready md ops listed := by
        rcases h.1 with h1 | h1
        · rw [h1]; simp
        · simpa using h1.1.2
      obtain ⟨_, o, ho, _⟩ := mem_ready.1 this
      exact ⟨o, ho⟩
    · exact wideC_in is _ h.2 i hi
theorem opsG_sound {cf : CallF} (hcf : CallOK P B cf) {ρ0 : Ren} {w0 : World} {mb n : Nat} (ops : Array Oper) (hd : ∀ (i : Nat) (o : Oper), ops[i]? = some o -> dstOk n o = true) (r : Option Nat) (kf : Nat) (Q : Exit -> Act -> World -> Prop) (st' : St)
    (hQ : ∀ ρ' a' w', RS P B ρ0 w0 mb n ρ' st' a' w' -> Q .normal a' w') : ∀ (is : List Nat) (st : St) (ρ : Ren) (a : Act) (w : World), (∀ i ∈ is, ∃ o, ops[i]? = some o) -> RS P B ρ0 w0 mb n ρ st a w -> opsG P cf ops.toList (pickOps ops.toList is) st = some st' ->
    wpG (Fr r) kf P ops (onlyN Q) is a w
  | [], st, ρ, a, w, _, h, hs => by
    simp only [pickOps, opsG, Option.some.injEq] at hs
    subst hs
    exact hQ ρ a w h
  | i :: is, st, ρ, a, w, hin, h, hs => by
    obtain ⟨o, ho⟩ := hin i (by simp)
    have hin' : ∀ i ∈ is, ∃ o, ops[i]? = some o := fun j hj => hin j (by simp [hj])
    have ho' : ops.toList[i]? = some o := by simpa using ho
    simp only [pickOps, ho', opsG, wanted_eq h.fr ops o] at hs
    unfold wpG
    simp only [ho]
    have hlow : ∀ {v : Value} {v' : Value}, VT ρ v v' -> RS P B ρ0 w0 mb n ρ ⟨putL st.tmps o.dst v, st.heap, min st.lo st.heap.n⟩ (a.put o.dst v') w := fun hv =>
      ⟨h.hr, h.fr.put (by rw [h.size]; exact hd i o ho) hv, by rw [put_size]; exact h.size, h.ext.lower (Nat.min_le_left _ _), by rw [put_defers]; exact h.marks⟩
    by_cases hq : quietN o = true
    · rw [if_pos hq]
      split at hs
      · rename_i hw
        rw [step_quiet1 hq] at hs
        split at hs
        · rename_i v H' lo hst
          have hq1 : quietOp o = true := by simp only [quietN, Bool.and_eq_true] at hq; exact hq.1
          obtain ⟨⟨v', h1, h2⟩, rfl, rfl⟩ := step1_quiet h.hr h.fr hq1 hst
          rw [if_pos (Nat.le_refl _)] at hs
          refine ⟨v', fun w' hb => ⟨fun _ _ _ _ => trivial, .inl ⟨hw, fun x hx => ?_⟩⟩, opsG_sound hcf ops hd r kf Q st' hQ is _ ρ _ w hin' (hlow h1) hs⟩
          subst hx
          unfold Oper.quietAtIn
          rw [h2 _ hb]
          exact ⟨rfl, rfl⟩
        · cases hs
      · rename_i hw
        exact ⟨undef, fun w' hb => ⟨fun _ _ _ _ => trivial, .inr ⟨by simpa using hw, rfl⟩⟩, opsG_sound hcf ops hd r kf Q st' hQ is { st with tmps := putL st.tmps o.dst undef } ρ _ w hin' ⟨h.hr, h.fr.put (by rw [h.size]; exact hd i o ho) (VT.undef _), by rw [put_size]; exact h.size, h.ext, by rw [put_defers]; exact h.marks⟩ hs⟩
    · rw [if_neg hq]
      unfold wpOpIn
      simp only [ho]
      split at hs
      · rename_i hw
        rw [if_pos hw]
        split at hs
        · rename_i v H' lo hst
          split at hs
          · rename_i hlo
            have hrel : RS P B ρ w mb n ρ ⟨st.tmps, st.heap, st.heap.n⟩ a w := ⟨h.hr, h.fr, h.size, Ext.refl _ _ _ _, h.marks⟩
            refine step_sound hcf (hd i o ho) hrel hst r kf _ _ fun ρ' a' w' h' => ?_
            have he : Ext B ρ ρ' st.heap.n w w' := by
              have := h'.ext
              simpa only [Nat.min_eq_left hlo] using this
            refine ⟨he.below h.hr (Nat.le_refl _), opsG_sound hcf ops hd r kf Q st' hQ is ⟨putL st.tmps o.dst v, H', min st.lo st.heap.n⟩ ρ' a' w' hin' ⟨h'.hr, h'.fr, h'.size, h.ext.trans he, h'.marks⟩ hs⟩
          · cases hs
        · cases hs
      · rename_i hw
        rw [if_neg hw]
        exact ⟨fun _ _ => trivial, Below.refl _ _, opsG_sound hcf ops hd r kf Q st' hQ is { st with tmps := putL st.tmps o.dst undef } ρ _ w hin' ⟨h.hr, h.fr.put (by rw [h.size]; exact hd i o ho) (VT.undef _), by rw [put_size]; exact h.size, h.ext, by rw [put_defers]; exact h.marks⟩ hs⟩
theorem opsGT_sound {cf : CallF} (hcf : CallOK P B cf) {ρ0 : Ren} {w0 : World} {mb n : Nat} (ops : Array Oper) (hd : ∀ (i : Nat) (o : Oper), ops[i]? = some o -> dstOk n o = true) (r : Option Nat) (kf : Nat) (Q : Exit -> Act -> World -> Prop) (K : Act -> World -> Prop) (st' : St)
    (hQ : ∀ ρ' a' w', RS P B ρ0 w0 mb n ρ' st' a' w' -> K a' w') : ∀ (is : List Nat) (st : St) (ρ : Ren) (a : Act) (w : World), (∀ i ∈ is, ∃ o, ops[i]? = some o) -> RS P B ρ0 w0 mb n ρ st a w -> opsG P cf ops.toList (pickOps ops.toList is) st = some st' ->
    wpGT (Fr r) kf P ops (onlyN Q) K is a w
  | [], st, ρ, a, w, _, h, hs => by
    simp only [pickOps, opsG, Option.some.injEq] at hs
    subst hs
    exact hQ ρ a w h
  | i :: is, st, ρ, a, w, hin, h, hs => by
    obtain ⟨o, ho⟩ := hin i (by simp)
    have hin' : ∀ i ∈ is, ∃ o, ops[i]? = some o := fun j hj => hin j (by simp [hj])
    have ho' : ops.toList[i]? = some o := by simpa using ho
    simp only [pickOps, ho', opsG, wanted_eq h.fr ops o] at hs
    unfold wpGT
    simp only [ho]
    have hlow : ∀ {v : Value} {v' : Value}, VT ρ v v' -> RS P B ρ0 w0 mb n ρ ⟨putL st.tmps o.dst v, st.heap, min st.lo st.heap.n⟩ (a.put o.dst v') w := fun hv =>
      ⟨h.hr, h.fr.put (by rw [h.size]; exact hd i o ho) hv, by rw [put_size]; exact h.size, h.ext.lower (Nat.min_le_left _ _), by rw [put_defers]; exact h.marks⟩
    by_cases hq : quietN o = true
    · rw [if_pos hq]
      split at hs
      · rename_i hw
        rw [step_quiet1 hq] at hs
        split at hs
        · rename_i v H' lo hst
          have hq1 : quietOp o = true := by simp only [quietN, Bool.and_eq_true] at hq; exact hq.1
          obtain ⟨⟨v', h1, h2⟩, rfl, rfl⟩ := step1_quiet h.hr h.fr hq1 hst
          rw [if_pos (Nat.le_refl _)] at hs
          refine ⟨v', fun w' hb => ⟨fun _ _ _ _ => trivial, .inl ⟨hw, fun x hx => ?_⟩⟩, opsGT_sound hcf ops hd r kf Q K st' hQ is _ ρ _ w hin' (hlow h1) hs⟩
          subst hx
          unfold Oper.quietAtIn
          rw [h2 _ hb]
          exact ⟨rfl, rfl⟩
        · cases hs
      · rename_i hw
        exact ⟨undef, fun w' hb => ⟨fun _ _ _ _ => trivial, .inr ⟨by simpa using hw, rfl⟩⟩, opsGT_sound hcf ops hd r kf Q K st' hQ is { st with tmps := putL st.tmps o.dst undef } ρ _ w hin' ⟨h.hr, h.fr.put (by rw [h.size]; exact hd i o ho) (VT.undef _), by rw [put_size]; exact h.size, h.ext, by rw [put_defers]; exact h.marks⟩ hs⟩
    · rw [if_neg hq]
      unfold wpOpIn
      simp only [ho]
      split at hs
      · rename_i hw
        rw [if_pos hw]
        split at hs
        · rename_i v H' lo hst
          split at hs
          · rename_i hlo
            have hrel : RS P B ρ w mb n ρ ⟨st.tmps, st.heap, st.heap.n⟩ a w := ⟨h.hr, h.fr, h.size, Ext.refl _ _ _ _, h.marks⟩
            refine step_sound hcf (hd i o ho) hrel hst r kf _ _ fun ρ' a' w' h' => ?_
            have he : Ext B ρ ρ' st.heap.n w w' := by
              have := h'.ext
              simpa only [Nat.min_eq_left hlo] using this
            refine ⟨he.below h.hr (Nat.le_refl _), opsGT_sound hcf ops hd r kf Q K st' hQ is ⟨putL st.tmps o.dst v, H', min st.lo st.heap.n⟩ ρ' a' w' hin' ⟨h'.hr, h'.fr, h'.size, h.ext.trans he, h'.marks⟩ hs⟩
          · cases hs
        · cases hs
      · rename_i hw
        rw [if_neg hw]
        exact ⟨fun _ _ => trivial, Below.refl _ _, opsGT_sound hcf ops hd r kf Q K st' hQ is { st with tmps := putL st.tmps o.dst undef } ρ _ w hin' ⟨h.hr, h.fr.put (by rw [h.size]; exact hd i o ho) (VT.undef _), by rw [put_size]; exact h.size, h.ext, by rw [put_defers]; exact h.marks⟩ hs⟩
def Strong (P : Program) (F : Fence) (kf : Nat) (ops : Array Oper) (M : List Nat) (ρ : Ren) (V E : List (Nat × Value)) (listed : Array Bool) (a : Act) (w : World) : Prop :=
  ∀ p ∈ E, liveB ops M listed p.1 = true -> ∃ o, ops[p.1]? = some o ∧ ((noMemB o = true ∧ ∀ w', YieldsQuiet F kf P ops (fun x => x = w') o p.2 a) ∨ (noMemB o = false ∧ Yields F kf P ops o p.2 a w ∧ ∃ v, assocV V p.1 = some v ∧ VT ρ v p.2))
theorem Strong.yl {F : Fence} {kf : Nat} {ops : Array Oper} {M : List Nat} {ρ : Ren} {V E : List (Nat × Value)} {listed : Array Bool} {a : Act} {w : World} (h : Strong P F kf ops M ρ V E listed a w) : YlE F kf P ops M E listed a w := fun p hp hl => by
  obtain ⟨o, ho, ⟨_, h1⟩ | ⟨_, h1, _⟩⟩ := h p hp hl
  · exact ⟨o, ho, h1 w⟩
  · exact ⟨o, ho, h1 w (Below.refl _ _)⟩
theorem assocV_ne {V : List (Nat × Value)} {i j : Nat} {v : Value} (h : j ≠ i) : assocV ((i, v) :: V) j = assocV V j := by
  have : Nat.beq i j = false := by
    cases hb : Nat.beq i j with
    | false => rfl
    | true => exact absurd (Nat.eq_of_beq_eq_true hb).symm h
  simp only [assocV, this, cond_false]
theorem Strong.step {F : Fence} {kf : Nat} {ops : Array Oper} {M : List Nat} {ρ ρ' : Ren} {V E : List (Nat × Value)} {listed listed' : Array Bool} {a : Act} {w w' : World} {i : Nat} {v u : Value} {d : Option Tmp} (hsel : ∀ (j : Nat) (o : Oper) cs b, ops[j]? = some o -> o.op ≠ .select cs b)
    (hs : ∀ j, listed.getD j false = true -> listed'.getD j false = true) (hl : ∀ p ∈ E, liveB ops M listed' p.1 = true -> noLook ops p.1 d = true) (hi : i ∉ E.map (·.1)) (hle : Ren.le ρ ρ') (hb : Below w.heap.size w w')
    (h : Strong P F kf ops M ρ V E listed a w) : Strong P F kf ops M ρ' ((i, v) :: V) E listed' (a.put d u) w' := fun p hp hlv => by
  obtain ⟨o, ho, h1⟩ := h p hp (live_less hs hlv)
  have hns := fun cs b => hsel p.1 o cs b ho
  have hlk := noLook_spec (hl p hp hlv) ho
  have hne : p.1 ≠ i := fun e => hi (e ▸ List.mem_map_of_mem hp)
  refine ⟨o, ho, ?_⟩
  rcases h1 with ⟨h1, h2⟩ | ⟨h1, h2, v0, h3, h4⟩
  · exact .inl ⟨h1, fun w2 => yq_put hns hlk (h2 w2)⟩
  · exact .inr ⟨h1, fun w2 hb2 => yq_put hns hlk (h2.later hb w2 hb2), v0, by rw [assocV_ne hne]; exact h3, h4.mono hle⟩
theorem sameFix1_spec {v v' : Value} (h : sameFix1 v v' = true) : v = v' ∧ ∀ ρ ρ' : Ren, Ren.le ρ ρ' -> ∀ u u', VT ρ v u -> VT ρ' v u' -> u' = u := by
  unfold sameFix1 at h
  split at h
  · rename_i k n k' n'
    simp only [Bool.and_eq_true, decide_eq_true_eq] at h
    obtain ⟨rfl, rfl⟩ := h
    exact ⟨rfl, fun ρ ρ' _ u u' h1 h2 => by rw [vt_int h1, vt_int h2]⟩
  · rename_i b i b' i'
    simp only [Bool.and_eq_true] at h
    have e1 := Nat.eq_of_beq_eq_true h.1
    have e2 := Nat.eq_of_beq_eq_true h.2
    subst e1; subst e2
    refine ⟨rfl, fun ρ ρ' hle u u' h1 h2 => ?_⟩
    obtain ⟨e, g1, rfl⟩ := vt_ptr h1
    obtain ⟨e', g2, rfl⟩ := vt_ptr h2
    have := hle _ _ g1
    rw [g2] at this; cases this
    rfl
  · rename_i b i n c b' i' n' c'
    simp only [Bool.and_eq_true] at h
    obtain ⟨h1, h2, h3, h4, h5⟩ := h
    have e1 := Nat.eq_of_beq_eq_true h1
    have e2 := Nat.eq_of_beq_eq_true h2
    have e3 := Nat.eq_of_beq_eq_true h3
    have e4 := Nat.eq_of_beq_eq_true h4
    have e5 := Nat.eq_of_beq_eq_true h5
    subst e1; subst e2; subst e3; subst e4; subst e5
    refine ⟨rfl, fun ρ ρ' hle u u' h1 h2 => ?_⟩
    obtain ⟨e, c1, g1, _, g3, rfl⟩ := vt_sl h1
    obtain ⟨e', c2, g4, _, g6, rfl⟩ := vt_sl h2
    have := hle _ _ g1
    rw [g4] at this; cases this
    rw [(g3 rfl).2.2, (g6 rfl).2.2]
  · exact ⟨rfl, fun ρ ρ' _ u u' h1 h2 => by rw [h1.plain rfl, h2.plain rfl]⟩
  · rename_i a b
    obtain rfl := eq_of_beq h
    exact ⟨rfl, fun ρ ρ' _ u u' h1 h2 => by rw [h1.plain rfl, h2.plain rfl]⟩
  · rename_i a b
    have e : a = b := ByteArray.ext (Array.toList_inj.1 (eq_of_beq h))
    subst e
    exact ⟨rfl, fun ρ ρ' _ u u' h1 h2 => by rw [h1.plain rfl, h2.plain rfl]⟩
  · cases h
theorem sameFixL_spec : ∀ {l m : List Value}, sameFixL l m = true -> l = m ∧ ∀ ρ ρ' : Ren, Ren.le ρ ρ' -> ∀ us us', L2 (VC ρ) l us -> L2 (VC ρ') l us' -> us' = us
  | [], [], _ => ⟨rfl, fun ρ ρ' _ us us' h1 h2 => by cases h1; cases h2; rfl⟩
  | x :: l, y :: m, h => by
    simp only [sameFixL, Bool.and_eq_true] at h
    obtain ⟨rfl, h2⟩ := sameFix1_spec h.1
    obtain ⟨rfl, h3⟩ := sameFixL_spec h.2
    refine ⟨rfl, fun ρ ρ' hle us us' g1 g2 => ?_⟩
    cases g1 with
    | cons a1 b1 => cases g2 with
      | cons a2 b2 => rw [h2 ρ ρ' hle _ _ (.one (.cell a1)) (.one (.cell a2)), h3 ρ ρ' hle _ _ b1 b2]
  | [], _ :: _, h => by cases h
  | _ :: _, [], h => by cases h
theorem sameFix_spec {v v' : Value} (h : sameFix v v' = true) : v = v' ∧ ∀ ρ ρ' : Ren, Ren.le ρ ρ' -> ∀ u u', VT ρ v u -> VT ρ' v u' -> u' = u := by
  unfold sameFix at h
  split at h
  · rename_i a b
    obtain ⟨e, h2⟩ := sameFixL_spec h
    have : a = b := Array.toList_inj.1 e
    subst this
    refine ⟨rfl, fun ρ ρ' hle u u' g1 g2 => ?_⟩
    obtain ⟨cs1, rfl, k1⟩ := vt_agg g1
    obtain ⟨cs2, rfl, k2⟩ := vt_agg g2
    have := h2 ρ ρ' hle _ _ k1 k2
    rw [Array.toList_inj.1 this]
  · exact sameFix1_spec h
theorem quietG_spec {o : Oper} (h : quietG o = true) : quietOp o = true ∧ o.guard = none := by
  simp only [quietG, quietN, Bool.and_eq_true, Option.isNone_iff_eq_none] at h
  exact ⟨h.1.1, h.2⟩
theorem recheck_spec {ops : List Oper} {V : List (Nat × Value)} {tm : Tm} {H : Heap} : ∀ {es : List Nat}, recheck P ops V tm H es = true -> ∀ e ∈ es, ∃ o v v' H' lo, ops[e]? = some o ∧ assocV V e = some v ∧ quietG o = true ∧ step1 P tm H o = some (v', H', lo) ∧ sameFix v v' = true
  | [], _, e, he => by cases he
  | x :: es, h, e, he => by
    simp only [recheck, Bool.and_eq_true] at h
    rcases List.mem_cons.1 he with rfl | he
    · have h1 := h.1
      split at h1
      · rename_i o v ho hv
        simp only [Bool.and_eq_true] at h1
        obtain ⟨h2, h3⟩ := h1
        split at h3
        · rename_i v' H' lo hst
          exact ⟨o, v, v', H', lo, ho, hv, h2, hst, h3⟩
        · cases h3
      · cases h1
    · exact recheck_spec h.2 e he
theorem recheckS_spec {ops : List Oper} {tm : Tm} {H : Heap} {lo : Nat} : ∀ {es : List Nat}, recheckS P ops tm H lo es = true -> ∀ e ∈ es, ∃ o t x b i v, ops[e]? = some o ∧ isLoadN o = true ∧ o.op = .load t x ∧ ev P tm x = some (.pointer (some ⟨b, i, none⟩)) ∧ b ≠ lo ∧ aload P t H (.pointer (some ⟨b, i, none⟩)) = some v
  | [], _, e, he => by cases he
  | y :: es, h, e, he => by
    simp only [recheckS, Bool.and_eq_true] at h
    rcases List.mem_cons.1 he with rfl | he
    · have h1 := h.1
      split at h1
      · rename_i o ho
        simp only [Bool.and_eq_true] at h1
        obtain ⟨h2, h3⟩ := h1
        split at h3
        · rename_i t x hop
          split at h3
          · rename_i b i hev
            simp only [Bool.and_eq_true, Bool.not_eq_true'] at h3
            obtain ⟨v, hv⟩ := Option.isSome_iff_exists.1 h3.2
            refine ⟨o, t, x, b, i, v, ho, h2, hop, hev, fun e => ?_, hv⟩
            have := h3.1
            rw [e] at this
            simp at this
          · cases h3
        · cases h3
      · cases h1
    · exact recheckS_spec h.2 e he
theorem recheckL_spec {ops : List Oper} {V : List (Nat × Value)} {tm0 : Tm} {H0 : Heap} {lo : Nat} {tm : Tm} {H : Heap} : ∀ {es : List Nat}, recheckL P ops V tm0 H0 lo tm H es = true -> ∀ e ∈ es, recheck P ops V tm H [e] = true ∨ ∃ o t x b i v, ops[e]? = some o ∧ isLoadN o = true ∧ o.op = .load t x ∧ ev P tm0 x = some (.pointer (some ⟨b, i, none⟩)) ∧ b < lo ∧ aload P t H0 (.pointer (some ⟨b, i, none⟩)) = some v
  | [], _, e, he => by cases he
  | y :: es, h, e, he => by
    simp only [recheckL, Bool.and_eq_true, Bool.or_eq_true] at h
    rcases List.mem_cons.1 he with rfl | he
    · rcases h.1 with h1 | h1
      · exact .inl h1
      · right
        split at h1
        · rename_i o ho
          simp only [Bool.and_eq_true] at h1
          obtain ⟨h2, h3⟩ := h1
          split at h3
          · rename_i t x hop
            split at h3
            · rename_i b i hev
              simp only [Bool.and_eq_true] at h3
              obtain ⟨v, hv⟩ := Option.isSome_iff_exists.1 h3.2
              exact ⟨o, t, x, b, i, v, ho, h2, hop, hev, Nat.lt_of_lt_of_le (Nat.lt_succ_self _) (Nat.le_of_ble_eq_true h3.1), hv⟩
            · cases h3
          · cases h3
        · cases h1
    · exact recheckL_spec h.2 e he
theorem recheckL_of {ops : List Oper} {V : List (Nat × Value)} {tm0 : Tm} {H0 : Heap} {lo : Nat} {tm : Tm} {H : Heap} : ∀ {es : List Nat}, recheck P ops V tm H es = true -> recheckL P ops V tm0 H0 lo tm H es = true
  | [], _ => rfl
  | y :: es, h => by
    simp only [recheck, Bool.and_eq_true] at h
    simp only [recheckL, recheck, Bool.and_eq_true, Bool.or_eq_true, Bool.and_true]
    exact ⟨.inl h.1, recheckL_of h.2⟩
theorem load_stays {ρ ρ' : Ren} {H : Heap} {w w' : World} {lo b : Nat} {e : Ent} {cs : List Value} {el : TypeId} {k : Nat} (hH : HR P B ρ H w) (he : Ext B ρ ρ' lo w w') (hg : H.get b = some (.cells cs el k)) (hρ : ρ b = some e) (hb : b < lo) : w'.heap[e.blk]? = w.heap[e.blk]? := by
  refine he.block e.blk (hH.top b e hρ) fun c x hc hx hB hh => ?_
  cases k with
  | zero => have := (hH.obj _ _ _ hg hρ).1; omega
  | succ k => have := hH.sep c b _ x e hg hx hρ rfl hh; omega
theorem store_one {tm : Tm} {H : Heap} {ρ : Ren} {w : World} {a : Act} (hH : HR P B ρ H w) (hF : FR ρ tm a) {o : Oper} {v : Value} {H' : Heap} {lo : Nat} (hst : isStoreB o = true) (h : step1 P tm H o = some (v, H', lo)) :
    v = undef ∧ noDefer o ∧ ∃ w' e cs el k, (execOp a.eval o).run P w = .ok .skip w' ∧ HR P B ρ H' w' ∧ Ext B ρ ρ lo w w' ∧ ρ lo = some e ∧ H.get lo = some (.cells cs el (k + 1)) ∧ ∀ j, e.blk ≠ j -> w'.heap[j]? = w.heap[j]? := by
  unfold isStoreB at hst
  split at hst
  · rename_i t x y hop
    unfold step1 at h
    simp only [hop] at h
    unfold sStore at h
    split at h
    · rename_i u z hu hz
      split at h
      · rename_i H2 l2 hs
        cases h
        obtain ⟨w', e, cs, el, k, h1, h2, h3, h4, h5, h6⟩ := y_storeX hH (ev_sound hH hF hu) (ev_sound hH hF hz) hs
        refine ⟨rfl, (by intro c hc; rw [hop] at hc; cases hc), w', e, cs, el, k, ?_, h2, h3, h4, h5, h6⟩
        simp [execOp, hop, h1]
      · cases h
    · cases h
  · cases hst
theorem isLoadN_quiet {o : Oper} (h : isLoadN o = true) : quietOp o = true ∧ o.guard = none := by
  unfold isLoadN at h
  split at h
  · rename_i t x hop hg
    exact ⟨by simp [quietOp, hop], hg⟩
  · cases h
theorem opsR_sound {cf : CallF} (hcf : CallOK P B cf) {ρ0 : Ren} {w0 : World} {mb n : Nat} (ops : Array Oper) (hd : ∀ (i : Nat) (o : Oper), ops[i]? = some o -> dstOk n o = true) (hsel : ∀ (j : Nat) (o : Oper) cs b, ops[j]? = some o -> o.op ≠ .select cs b) {md : Region.Mode} {M : List Nat} (r : Option Nat) (kf : Nat) (Q : Exit -> Act -> World -> Prop) (st' : St)
    (hQ : ∀ ρ' a' w', RS P B ρ0 w0 mb n ρ' st' a' w' -> Q .normal a' w') : ∀ (is : List Nat) (pl : List (Nat × List Nat)) (E V : List (Nat × Value)) (listed : Array Bool) (st : St) (ρ : Ren) (a : Act) (w : World),
    planR md ops M none is (E.map (·.1)) listed = some pl -> RS P B ρ0 w0 mb n ρ st a w -> Strong P (Fr r) kf ops M ρ V E listed a w -> opsR P cf ops.toList pl V st = some st' ->
    wpR (Fr r) kf P md ops (onlyN Q) M is E listed a w
  | [], pl, E, V, listed, st, ρ, a, w, hp, h, _, hs => by
    unfold planR at hp
    cases hdd : decide (Region.ready md ops listed = []) with
    | false => rw [hdd] at hp; cases hp
    | true =>
      rw [hdd] at hp
      cases hp
      simp only [opsR, Option.some.injEq] at hs
      subst hs
      exact hQ ρ a w h
  | i :: is, pl, E, V, listed, st, ρ, a, w, hp, h, hS, hs => by
    obtain ⟨o, es, pl', ho, rfl, hni, hcase⟩ := planR_cons hp
    have ho' : ops.toList[i]? = some o := by simpa using ho
    have mem_fst : ∀ p ∈ E, liveB ops M (listed.setIfInBounds i true) p.1 = true -> p.1 ∈ (E.map (·.1)).filter (liveB ops M (listed.setIfInBounds i true)) := fun p hp hl => List.mem_filter.2 ⟨List.mem_map_of_mem hp, hl⟩
    have hlk : ∀ p ∈ E, liveB ops M (listed.setIfInBounds i true) p.1 = true -> noLook ops p.1 o.dst = true := fun p hp hl => by
      rcases hcase with ⟨_, h1, _⟩ | ⟨_, _, h1, _⟩
      · exact h1 _ (List.mem_cons_of_mem _ (mem_fst p hp hl))
      · exact h1 _ (mem_fst p hp hl)
    have hlist : ∀ j, listed.getD j false = true -> (listed.setIfInBounds i true).getD j false = true := fun j hj => getD_set_true hj
    have hns := fun cs b => hsel i o cs b ho
    simp only [opsR, ho', wanted_eq h.fr ops o] at hs
    unfold wpR
    simp only [ho]
    have hlow : ∀ {v : Value} {v' : Value}, VT ρ v v' -> RS P B ρ0 w0 mb n ρ ⟨putL st.tmps o.dst v, st.heap, min st.lo st.heap.n⟩ (a.put o.dst v') w := fun hv =>
      ⟨h.hr, h.fr.put (by rw [h.size]; exact hd i o ho) hv, by rw [put_size]; exact h.size, h.ext.lower (Nat.min_le_left _ _), by rw [put_defers]; exact h.marks⟩
    by_cases hq : quietN o = true
    · rw [if_pos hq]
      -- what is known behind a quiet operation
      have fin : ∀ (v v' : Value) (st2 : St), VT ρ v v' -> YieldsQuiet (Fr r) kf P ops (fun x => x = w) o v' a -> (noMemB o = true -> ∀ w', YieldsQuiet (Fr r) kf P ops (fun x => x = w') o v' a) -> Yields (Fr r) kf P ops o v' a w ->
          RS P B ρ0 w0 mb n ρ st2 (a.put o.dst v') w -> opsR P cf ops.toList pl' ((i, v) :: V) st2 = some st' ->
          ∃ v', YieldsQuiet (Fr r) kf P ops (fun x => x = w) o v' a ∧ wpR (Fr r) kf P md ops (onlyN Q) M is (bif floats md ops listed i then (i, v') :: E else E) (listed.setIfInBounds i true) (a.put o.dst v') w := by
        intro v v' st2 hv hy hfree hyl hR2 hs2
        refine ⟨v', hy, ?_⟩
        have hS2 : Strong P (Fr r) kf ops M ρ ((i, v) :: V) E (listed.setIfInBounds i true) (a.put o.dst v') w := hS.step hsel hlist hlk hni (fun _ _ h => h) (Below.refl _ _)
        rcases hcase with ⟨hf, h1, hp'⟩ | ⟨hf, _, _, hp', _⟩
        · rw [hf, cond_true]
          have hself := noLook_spec (h1 i (by simp)) ho
          refine opsR_sound hcf ops hd hsel r kf Q st' hQ is pl' ((i, v') :: E) _ _ st2 ρ _ w hp' hR2 (fun p hp hl => ?_) hs2
          rcases List.mem_cons.1 hp with rfl | hp
          · refine ⟨o, ho, ?_⟩
            cases hnm : noMemB o with
            | true => exact .inl ⟨rfl, fun w2 => yq_put hns hself (hfree hnm w2)⟩
            | false => exact .inr ⟨rfl, fun w2 hb2 => yq_put hns hself (hyl w2 hb2), v, by simp [assocV], hv⟩
          · exact hS2 p hp hl
        · rw [hf, cond_false]
          exact opsR_sound hcf ops hd hsel r kf Q st' hQ is pl' E _ _ st2 ρ _ w hp' hR2 hS2 hs2
      split at hs
      · rename_i hw
        rw [step_quiet1 hq] at hs
        split at hs
        · rename_i v H' lo hst
          have hq1 : quietOp o = true := by simp only [quietN, Bool.and_eq_true] at hq; exact hq.1
          obtain ⟨⟨v', h1, h2⟩, rfl, rfl⟩ := step1_quiet h.hr h.fr hq1 hst
          rw [if_pos (Nat.le_refl _)] at hs
          have hyl : Yields (Fr r) kf P ops o v' a w := fun w' hb => ⟨fun _ _ _ _ => trivial, .inl ⟨hw, fun x hx => by
            subst hx
            unfold Oper.quietAtIn
            rw [h2 _ hb]
            exact ⟨rfl, rfl⟩⟩⟩
          refine fin v v' _ h1 (hyl w (Below.refl _ _)) (fun hnm w' => ?_) hyl (hlow h1) hs
          obtain ⟨v2, h3, h4⟩ := noMem_free h.hr h.fr hnm hst
          have e1 := h2 w (Below.refl _ _)
          rw [h4 w] at e1
          have : v2 = v' := by simpa using e1
          subst this
          exact ⟨fun _ _ _ _ => trivial, .inl ⟨hw, fun x hx => by
            subst hx
            unfold Oper.quietAtIn
            rw [h4 x]
            exact ⟨rfl, rfl⟩⟩⟩
        · cases hs
      · rename_i hw
        have hyl : Yields (Fr r) kf P ops o undef a w := fun w' hb => ⟨fun _ _ _ _ => trivial, .inr ⟨by simpa using hw, rfl⟩⟩
        exact fin undef undef { st with tmps := putL st.tmps o.dst undef } (VT.undef _) (hyl w (Below.refl _ _)) (fun _ w' => ⟨fun _ _ _ _ => trivial, .inr ⟨by simpa using hw, rfl⟩⟩) hyl ⟨h.hr, h.fr.put (by rw [h.size]; exact hd i o ho) (VT.undef _), by rw [put_size]; exact h.size, h.ext, by rw [put_defers]; exact h.marks⟩ hs
    · rw [if_neg hq]
      have hqi : quietI ops i = false := by simpa [quietI, ho] using hq
      obtain ⟨hp', hes⟩ : planR md ops M none is (E.map (·.1)) (listed.setIfInBounds i true) = some pl' ∧ es = ((E.map (·.1)).filter (liveB ops M (listed.setIfInBounds i true))).filter fun e => !noMemI ops e := by
        rcases hcase with ⟨hf, _, _⟩ | ⟨_, _, _, h1, h2⟩
        · have := (floats_quiet hf).1
          rw [hqi] at this; cases this
        · exact ⟨h1, h2 hqi⟩
      unfold wpOpIn
      simp only [ho]
      split at hs
      · rename_i hw
        rw [if_pos hw]
        split at hs
        · rename_i v H' lo hst
          have hrel : RS P B ρ w mb n ρ ⟨st.tmps, st.heap, st.heap.n⟩ a w := ⟨h.hr, h.fr, h.size, Ext.refl _ _ _ _, h.marks⟩
          split at hs
          · rename_i hlo
            refine step_sound2 hcf (hd i o ho) hrel hst r kf _ _ fun ρ' v' w' hv he0 h' => ?_
            have he : Ext B ρ ρ' st.heap.n w w' := by
              have := h'.ext
              simpa only [Nat.min_eq_left hlo] using this
            have hS2 : Strong P (Fr r) kf ops M ρ' ((i, v) :: V) E (listed.setIfInBounds i true) (a.put o.dst v') w' := hS.step hsel hlist hlk hni he.le (he.below h.hr (Nat.le_refl _))
            exact ⟨hS2.yl, opsR_sound hcf ops hd hsel r kf Q st' hQ is pl' E _ _ ⟨putL st.tmps o.dst v, H', min st.lo st.heap.n⟩ ρ' _ w' hp' ⟨h'.hr, h'.fr, h'.size, h.ext.trans he, h'.marks⟩ hS2 hs⟩
          · split at hs
            · rename_i hrc0
              rcases Bool.or_eq_true_iff.1 hrc0 with hrc | hrs
              · refine step_sound2 hcf (hd i o ho) h hst r kf _ _ fun ρ' v' w' hv he h' => ?_
                have hS2 : Strong P (Fr r) kf ops M ρ' ((i, v) :: V) E (listed.setIfInBounds i true) (a.put o.dst v') w' := fun p hp hlv => by
                  obtain ⟨op, hop, h1⟩ := hS p hp (live_less hlist hlv)
                  have hnp := fun cs b => hsel p.1 op cs b hop
                  have hlkp := noLook_spec (hlk p hp hlv) hop
                  have hne : p.1 ≠ i := fun e => hni (e ▸ List.mem_map_of_mem hp)
                  refine ⟨op, hop, ?_⟩
                  rcases h1 with ⟨h1, h2⟩ | ⟨h1, h2, v0, h3, h4⟩
                  · exact .inl ⟨h1, fun w2 => yq_put hnp hlkp (h2 w2)⟩
                  · have hmem : p.1 ∈ es := by
                      rw [hes]
                      exact List.mem_filter.2 ⟨mem_fst p hp hlv, by simp [noMemI, hop, h1]⟩
                    rcases recheckL_spec hrc p.1 hmem with hrc1 | ⟨o2, t2, x2, b2, i2, v2, g1, g2, g3, g4, g5, g6⟩
                    rotate_left
                    · have : o2 = op := Option.some.inj (g1.symm.trans (by simpa using hop))
                      subst this
                      obtain ⟨e2, u2, f1, ⟨cs2, el2, k2, f2⟩, f3, f4⟩ := q_loadB h.hr (ev_sound h.hr h.fr g4) g6
                      obtain ⟨hq2, hg2⟩ := isLoadN_quiet g2
                      have hw2 : Region.wanted o2 (yielded ops a.tmps) = true := by simp [Region.wanted, hg2]
                      have hv2 : u2 = p.2 := by
                        have := h2 w (Below.refl _ _)
                        obtain ⟨_, ⟨_, h5⟩ | ⟨h5, _⟩⟩ := this
                        · have h6 := h5 w rfl
                          unfold Oper.quietAtIn at h6
                          have h7 : (execOp a.eval o2).run P w = .ok (.value u2) w := by simp [execOp, g3, f4 w rfl]
                          rw [h7] at h6
                          exact h6.2
                        · rw [hw2] at h5; cases h5
                      have hsame : w'.heap[e2.blk]? = w.heap[e2.blk]? := load_stays h.hr he f2 f1 g5
                      have hlt := h.hr.top b2 e2 f1
                      refine .inr ⟨h1, fun w2 hb2 => yq_put hnp hlkp ⟨fun _ _ _ _ => trivial, .inl ⟨hw2, fun x hx => ?_⟩⟩, v0, by rw [assocV_ne hne]; exact h3, h4.mono he.le⟩
                      subst hx
                      unfold Oper.quietAtIn
                      have h7 : (execOp a.eval o2).run P x = .ok (.value u2) x := by
                        simp [execOp, g3, f4 x (by rw [hb2.block e2.blk (by have := he.size; omega)]; exact hsame)]
                      rw [h7, hv2]
                      exact ⟨rfl, rfl⟩
                    obtain ⟨o2, v2, v3, H3, lo3, g1, g2, g3, g4, g5⟩ := recheck_spec hrc1 p.1 (by simp)
                    have : o2 = op := Option.some.inj (g1.symm.trans (by simpa using hop))
                    subst this
                    rw [h3] at g2
                    cases g2
                    obtain ⟨rfl, hfix⟩ := sameFix_spec g5
                    obtain ⟨hq2, hg2⟩ := quietG_spec g3
                    obtain ⟨⟨u, f1, f2⟩, _, _⟩ := step1_quiet h'.hr h'.fr hq2 g4
                    rw [hfix ρ ρ' he.le _ _ h4 f1] at f2
                    refine .inr ⟨h1, fun w2 hb2 => ⟨fun _ _ _ _ => trivial, .inl ⟨by simp [Region.wanted, hg2], fun x hx => ?_⟩⟩, _, by rw [assocV_ne hne]; exact h3, h4.mono he.le⟩
                    subst hx
                    unfold Oper.quietAtIn
                    rw [f2 _ hb2]
                    exact ⟨rfl, rfl⟩
                exact ⟨hS2.yl, opsR_sound hcf ops hd hsel r kf Q st' hQ is pl' E _ _ ⟨putL st.tmps o.dst v, H', min st.lo lo⟩ ρ' _ w' hp' h' hS2 hs⟩
              · simp only [Bool.and_eq_true] at hrs
                obtain ⟨hsb, hrs⟩ := hrs
                have hnc : callOf P st.tmps o = none := by
                  unfold isStoreB at hsb
                  split at hsb
                  · rename_i t x y hop
                    simp [callOf, hop]
                  · cases hsb
                rw [step_eq1 hnc (nz_store hsb)] at hst
                obtain ⟨rfl, hnd, w', e, cs, el, k, hrun, hR', he, hρ, hgl, hoth⟩ := store_one h.hr h.fr hsb hst
                refine ⟨fun _ _ => trivial, ?_⟩
                rw [semAt_of hnd, hrun]
                have h' : RS P B ρ0 w0 mb n ρ ⟨putL st.tmps o.dst undef, H', min st.lo lo⟩ (a.put o.dst undef) w' :=
                  ⟨hR', h.fr.put (by rw [h.size]; exact hd i o ho) (VT.undef _), by rw [put_size]; exact h.size, h.ext.trans he, by rw [put_defers]; exact h.marks.ext he⟩
                have hS2 : Strong P (Fr r) kf ops M ρ ((i, undef) :: V) E (listed.setIfInBounds i true) (a.put o.dst undef) w' := fun p hp hlv => by
                  obtain ⟨op, hop, h1⟩ := hS p hp (live_less hlist hlv)
                  have hnp := fun cs b => hsel p.1 op cs b hop
                  have hlkp := noLook_spec (hlk p hp hlv) hop
                  have hne : p.1 ≠ i := fun e => hni (e ▸ List.mem_map_of_mem hp)
                  refine ⟨op, hop, ?_⟩
                  rcases h1 with ⟨h1, h2⟩ | ⟨h1, h2, v0, h3, h4⟩
                  · exact .inl ⟨h1, fun w2 => yq_put hnp hlkp (h2 w2)⟩
                  · have hmem : p.1 ∈ es := by
                      rw [hes]
                      exact List.mem_filter.2 ⟨mem_fst p hp hlv, by simp [noMemI, hop, h1]⟩
                    obtain ⟨o2, t2, x2, b2, i2, v2, g1, g2, g3, g4, g5, g6⟩ := recheckS_spec hrs p.1 hmem
                    have : o2 = op := Option.some.inj (g1.symm.trans (by simpa using hop))
                    subst this
                    obtain ⟨e2, u2, f1, ⟨cs2, el2, k2, f2⟩, f3, f4⟩ := q_loadB h.hr (ev_sound h.hr h.fr g4) g6
                    obtain ⟨hq2, hg2⟩ := isLoadN_quiet g2
                    have hw2 : Region.wanted o2 (yielded ops a.tmps) = true := by simp [Region.wanted, hg2]
                    have hv2 : u2 = p.2 := by
                      have := h2 w (Below.refl _ _)
                      obtain ⟨_, ⟨_, h5⟩ | ⟨h5, _⟩⟩ := this
                      · have h6 := h5 w rfl
                        unfold Oper.quietAtIn at h6
                        have h7 : (execOp a.eval o2).run P w = .ok (.value u2) w := by simp [execOp, g3, f4 w rfl]
                        rw [h7] at h6
                        exact h6.2
                      · rw [hw2] at h5; cases h5
                    have hblk : e.blk ≠ e2.blk := by
                      cases k2 with
                      | zero =>
                        have := (h.hr.obj _ _ _ f2 f1).1
                        have := (h.hr.obj _ _ _ hgl hρ).1
                        omega
                      | succ k2 => exact fun hh => h.hr.inj lo b2 _ _ e e2 hgl f2 hρ f1 rfl rfl (Ne.symm g5) hh
                    have hsame : w'.heap[e2.blk]? = w.heap[e2.blk]? := hoth _ hblk
                    have hlt := h.hr.top b2 e2 f1
                    refine .inr ⟨h1, fun w2 hb2 => yq_put hnp hlkp ⟨fun _ _ _ _ => trivial, .inl ⟨hw2, fun x hx => ?_⟩⟩, v0, by rw [assocV_ne hne]; exact h3, h4⟩
                    subst hx
                    unfold Oper.quietAtIn
                    have h7 : (execOp a.eval o2).run P x = .ok (.value u2) x := by
                      simp [execOp, g3, f4 x (by rw [hb2.block e2.blk (by have := he.size; omega)]; exact hsame)]
                    rw [h7, hv2]
                    exact ⟨rfl, rfl⟩
                exact ⟨hS2.yl, opsR_sound hcf ops hd hsel r kf Q st' hQ is pl' E _ _ ⟨putL st.tmps o.dst undef, H', min st.lo lo⟩ ρ _ w' hp' h' hS2 hs⟩
            · cases hs
        · cases hs
      · rename_i hw
        rw [if_neg hw]
        have hS2 : Strong P (Fr r) kf ops M ρ ((i, undef) :: V) E (listed.setIfInBounds i true) (a.put o.dst undef) w := hS.step hsel hlist hlk hni (fun _ _ h => h) (Below.refl _ _)
        exact ⟨fun _ _ => trivial, hS2.yl, opsR_sound hcf ops hd hsel r kf Q st' hQ is pl' E _ _ { st with tmps := putL st.tmps o.dst undef } ρ _ w hp' ⟨h.hr, h.fr.put (by rw [h.size]; exact hd i o ho) (VT.undef _), by rw [put_size]; exact h.size, h.ext, by rw [put_defers]; exact h.marks⟩ hS2 hs⟩
theorem wideCT_in {md : Region.Mode} {ops : Array Oper} {s : Nat} : ∀ (is : List Nat) (listed : Array Bool), wideCT md ops s is listed = true -> ∀ i ∈ is, ∃ o, ops[i]? = some o
  | [], _, _, i, hi => by cases hi
  | j :: is, listed, h, i, hi => by
    simp only [wideCT, Bool.and_eq_true, Bool.or_eq_true, decide_eq_true_eq] at h
    rcases List.mem_cons.1 hi with rfl | hi
    · have : i ∈ Region.ready md ops listed := by
        rcases h.1.2 with h1 | h1
        · rw [h1]; simp
        · simpa using h1.1.2
      obtain ⟨_, o, ho, _⟩ := mem_ready.1 this
      exact ⟨o, ho⟩
    · exact wideCT_in is _ h.2 i hi
theorem apC_in {md : Region.Mode} {ops : Array Oper} {m : Nat} : ∀ (is : List Nat) (listed : Array Bool), apC md ops m is listed = true -> ∀ i ∈ is, ∃ o, ops[i]? = some o
  | [], _, _, i, hi => by cases hi
  | j :: is, listed, h, i, hi => by
    simp only [apC, Bool.and_eq_true, Bool.or_eq_true, decide_eq_true_eq] at h
    rcases List.mem_cons.1 hi with rfl | hi
    · have : i ∈ Region.ready md ops listed := by
        rcases h.1.2 with h1 | h1
        · rw [h1]; simp
        · simpa using h1.1.2
      obtain ⟨_, o, ho, _⟩ := mem_ready.1 this
      exact ⟨o, ho⟩
    · exact apC_in is _ h.2 i hi
theorem opsL_list {cf : CallF} (hcf : CallOK P B cf) {ρ0 : Ren} {w0 : World} {mb n : Nat} (ops : Array Oper) (hd : ∀ (i : Nat) (o : Oper), ops[i]? = some o -> dstOk n o = true) (r : Option Nat) (kf : Nat) (Q : Exit -> Act -> World -> Prop) (R : Act -> World -> Prop) (st' : St)
    (hR : ∀ ρ' a' w', RS P B ρ0 w0 mb n ρ' st' a' w' -> R a' w') : ∀ (is : List Nat) (st : St) (ρ : Ren) (a : Act) (w : World), (∀ i ∈ is, ∃ o, ops[i]? = some o) -> RS P B ρ0 w0 mb n ρ st a w -> opsL P cf ops.toList (pickOps ops.toList is) st = some st' ->
    wpMid (Fr r) kf P ops Q R is a w
  | [], st, ρ, a, w, _, h, hs => by
    simp only [pickOps, opsL, Option.some.injEq] at hs
    subst hs
    exact hR ρ a w h
  | i :: is, st, ρ, a, w, hin, h, hs => by
    obtain ⟨o, h0⟩ := hin i (by simp)
    have hin' : ∀ i ∈ is, ∃ o, ops[i]? = some o := fun j hj => hin j (by simp [hj])
    have ho' : ops.toList[i]? = some o := by simpa using h0
    unfold wpMid wpOpIn
    simp only [h0]
    simp only [pickOps, ho', opsL, wanted_eq h.fr ops o] at hs
    split at hs
    · rename_i hw
      rw [if_pos hw]
      split at hs
      · rename_i v H' lo hst
        exact step_sound hcf (hd i o h0) h hst r kf _ _ fun ρ' a' w' h' => opsL_list hcf ops hd r kf Q R st' hR is _ ρ' a' w' hin' h' hs
      · cases hs
    · rename_i hw
      rw [if_neg hw]
      refine ⟨fun _ _ => trivial, opsL_list hcf ops hd r kf Q R st' hR is { st with tmps := putL st.tmps o.dst undef } ρ _ w hin' ⟨h.hr, h.fr.put (by rw [h.size]; exact hd i o h0) (VT.undef _), by rw [put_size]; exact h.size, h.ext, by rw [put_defers]; exact h.marks⟩ hs⟩
end
end Go.AI
namespace Go.AI
open Go.RowKit
section
variable {P : Program} {B : Nat}
def Pend (P : Program) (B : Nat) (z : List Value) (t : TypeId) (w0 : World) (ρ : Ren) (w : World) (e : Ent) : Prop :=
  w0.heap.size <= e.blk ∧ e.blk < w.heap.size ∧ OR P B ρ w e (.cells z t 1) ∧ ∀ b x, ρ b = some x -> x.blk ≠ e.blk
theorem Pend.step {z : List Value} {t : TypeId} {w0 w w' : World} {ρ ρ' : Ren} {lo : Nat} {e : Ent} (h : Pend P B z t w0 ρ w e) (he : Ext B ρ ρ' lo w w') : Pend P B z t w0 ρ' w' e := by
  obtain ⟨h1, h2, h3, h4⟩ := h
  refine ⟨h1, Nat.lt_of_lt_of_le h2 he.size, h3.mono he.le (he.block e.blk h2 fun b x _ hx _ => h4 b x hx), fun b x hx => ?_⟩
  cases hb : ρ b with
  | some y =>
    have := he.le _ _ hb
    rw [hx] at this; cases this
    exact h4 b x hb
  | none =>
    rcases he.fresh b x hb hx with h6 | ⟨b0, x0, _, h7, _, h8⟩
    · omega
    · rw [<- h8]; exact h4 b0 x0 h7
theorem alloc_now {ρ : Ren} {H : Heap} {w : World} {a : Act} {o : Oper} {t : TypeId} {i : TypeInfo} {z : Value} (hH : HR P B ρ H w) (hop : o.op = .alloc t) (hi : P.info? t = some i) (hz : i.zero = some z) (hs : z.cells.toList.all scalar = true) :
    ∃ e w', (execOp a.eval o).run P w = .ok (.value (.pointer (some ⟨e.blk, 0, none⟩))) w' ∧ Below w.heap.size w w' ∧ e.blk = w.heap.size ∧ e.blk < w'.heap.size ∧ ∀ ρ', OR P B ρ' w' e (.cells z.cells.toList t 1) := by
  refine ⟨⟨w.heap.size, 0, 0⟩, w.alloc (.cells z.cells t), ?_, (Below.refl _ w).alloc (Nat.le_refl _) _, rfl, by simp, fun ρ' => ⟨hH.old, rfl, z.cells, heap_alloc_new w _, ⟨z.cells.toList, [], by simp, L2.refl_of fun x hx => .same (List.all_eq_true.1 hs x hx)⟩, fun h => by cases h⟩⟩
  simp [execOp, hop, Instr.alloc, run_zero hi hz, newVar, newRow]
theorem Pend.done {z : List Value} {t : TypeId} {w0 w : World} {ρ0 ρ : Ren} {H : Heap} {lo : Nat} {e : Ent} (hH : HR P B ρ H w) (he : Ext B ρ0 ρ lo w0 w) (hp : Pend P B z t w0 ρ w e) :
    HR P B (Ren.add ρ H.n e) (H.new (.cells z t 1)) w ∧ Ext B ρ0 (Ren.add ρ H.n e) lo w0 w ∧ (∃ cur, w.heap[e.blk]? = some (.cells cur t (0, 0))) ∧ VT (Ren.add ρ H.n e) (.pointer (some ⟨H.n, 0, none⟩)) (.pointer (some ⟨e.blk, 0, none⟩)) := by
  obtain ⟨h1, h2, h3, h4⟩ := hp
  have hle := hH.le_add e
  have hor : OR P B (Ren.add ρ H.n e) w e (.cells z t 1) := h3.mono hle rfl
  obtain ⟨g1, g2, cur, g3, _⟩ := h3
  have get_old : ∀ b o', (H.new (.cells z t 1)).get b = some o' -> b ≠ H.n -> H.get b = some o' := fun b o' hg hne => by rw [Heap.get_new_ne _ _ hne] at hg; exact hg
  refine ⟨⟨?_, ?_, ?_, ?_, ?_, ?_, ?_, hH.old⟩, ⟨fun b x hb => hle _ _ (he.le b x hb), he.os, he.tape, he.output, he.size, he.block, ?_, he.loops⟩, ⟨cur, g3⟩, ?_⟩
  · intro b hlt
    by_cases hbn : b = H.n
    · exact ⟨e, by rw [hbn, Ren.add_eq]⟩
    · obtain ⟨x, hx⟩ := hH.dom b (by simp at hlt; omega)
      exact ⟨x, hle _ _ hx⟩
  · intro b x hx
    by_cases hbn : b = H.n
    · simp [hbn]
    · rw [Ren.add_ne _ _ hbn] at hx; have := hH.lt b x hx; simp; omega
  · intro b o' hg
    by_cases hbn : b = H.n
    · simp [hbn]
    · have := hH.objs b o' (get_old b o' hg hbn); simp; omega
  · intro b o' x hg hx
    by_cases hbn : b = H.n
    · subst hbn
      rw [Heap.get_new_eq] at hg; cases hg
      rw [Ren.add_eq] at hx; cases hx
      exact hor
    · rw [Ren.add_ne _ _ hbn] at hx
      exact (hH.obj b o' x (get_old b o' hg hbn) hx).mono hle rfl
  · intro b b' o2 x x' hg' hx hx' hw' hh
    by_cases hbn : b = H.n
    · by_cases hbn' : b' = H.n
      · omega
      · subst hbn
        rw [Ren.add_eq] at hx; cases hx
        rw [Ren.add_ne _ _ hbn'] at hx'
        exact absurd hh.symm (h4 b' x' hx')
    · rw [Ren.add_ne _ _ hbn] at hx
      by_cases hbn' : b' = H.n
      · have := hH.lt b x hx; omega
      · rw [Ren.add_ne _ _ hbn'] at hx'
        exact hH.sep b b' o2 x x' (get_old b' o2 hg' hbn') hx hx' hw' hh
  · intro b x hx
    by_cases hbn : b = H.n
    · subst hbn; rw [Ren.add_eq] at hx; cases hx; exact h2
    · rw [Ren.add_ne _ _ hbn] at hx
      exact hH.top b x hx
  · intro g hg
    obtain ⟨c, hc⟩ := hH.glob g hg
    exact ⟨c, hle _ _ hc⟩
  · intro b x hn hx
    by_cases hbn : b = H.n
    · subst hbn; rw [Ren.add_eq] at hx; cases hx; exact .inl h1
    · rw [Ren.add_ne _ _ hbn] at hx; exact he.fresh b x hn hx
  · have : VT (Ren.add ρ H.n e) (.pointer (some ⟨H.n, 0, none⟩)) (.pointer (some ⟨e.blk, e.base + 0, none⟩)) := .one (.cell (.ptr (i := 0) (Ren.add_eq ρ H.n e)))
    rw [g2] at this
    exact this
structure Behind (P : Program) (B : Nat) (F : Fence) (kf : Nat) (cf : CallF) (ρ0 : Ren) (w0 : World) (mb n : Nat) (ops : Array Oper) (M : List Nat) (pl' : List (Nat × List Nat)) (st' : St) (E : List (Nat × Value)) (listed : Array Bool) (i : Nat) (o : Oper) (ρ : Ren) (w : World) (V : List (Nat × Value)) (st : St) (v v' : Value) (st2 : St) (ρ2 : Ren) (a' : Act) (w' : World) : Prop where
  rs : RS P B ρ0 w0 mb n ρ2 st2 a' w'
  strong : Strong P F kf ops M ρ2 ((i, v) :: V) E listed a' w'
  ext : ∃ lo, Ext B ρ ρ2 lo w w'
  run : opsR P cf ops.toList pl' ((i, v) :: V) st2 = some st'
  tmps : st2.tmps = putL st.tmps o.dst v
theorem stepR_nq {cf : CallF} (hcf : CallOK P B cf) {ρ0 : Ren} {w0 : World} {mb n : Nat} (ops : Array Oper) (hd : ∀ (i : Nat) (o : Oper), ops[i]? = some o -> dstOk n o = true) (hsel : ∀ (j : Nat) (o : Oper) cs b, ops[j]? = some o -> o.op ≠ .select cs b) {M : List Nat} (r : Option Nat) (kf : Nat) (Q : Exit -> Act -> World -> Prop) {st' : St}
    {i : Nat} {es : List Nat} {pl' : List (Nat × List Nat)} {E V : List (Nat × Value)} {listed : Array Bool} {st : St} {ρ : Ren} {a : Act} {w : World} {o : Oper} (ho : ops[i]? = some o) (hni : i ∉ E.map (·.1))
    (hlk : ∀ p ∈ E, liveB ops M (listed.setIfInBounds i true) p.1 = true -> noLook ops p.1 o.dst = true) (hes : es = ((E.map (·.1)).filter (liveB ops M (listed.setIfInBounds i true))).filter fun e => !noMemI ops e)
    (h : RS P B ρ0 w0 mb n ρ st a w) (hS : Strong P (Fr r) kf ops M ρ V E listed a w) (hs : opsR P cf ops.toList ((i, es) :: pl') V st = some st') :
    wpOpIn (Fr r) kf P ops Q i (fun a' w' => ∃ v v' st2 ρ2, a' = a.put o.dst v' ∧ Behind P B (Fr r) kf cf ρ0 w0 mb n ops M pl' st' E (listed.setIfInBounds i true) i o ρ w V st v v' st2 ρ2 a' w') a w := by
  have ho' : ops.toList[i]? = some o := by simpa using ho
  have mem_fst : ∀ p ∈ E, liveB ops M (listed.setIfInBounds i true) p.1 = true -> p.1 ∈ (E.map (·.1)).filter (liveB ops M (listed.setIfInBounds i true)) := fun p hp hl => List.mem_filter.2 ⟨List.mem_map_of_mem hp, hl⟩
  have hlist : ∀ j, listed.getD j false = true -> (listed.setIfInBounds i true).getD j false = true := fun j hj => getD_set_true hj
  simp only [opsR, ho', wanted_eq h.fr ops o] at hs
  unfold wpOpIn
  simp only [ho]
  split at hs
  · rename_i hw
    rw [if_pos hw]
    split at hs
    · rename_i v H' lo hst
      have hrel : RS P B ρ w mb n ρ ⟨st.tmps, st.heap, st.heap.n⟩ a w := ⟨h.hr, h.fr, h.size, Ext.refl _ _ _ _, h.marks⟩
      split at hs
      · rename_i hlo
        refine step_sound2 hcf (hd i o ho) hrel hst r kf _ _ fun ρ' v' w' hv he0 h' => ?_
        have he : Ext B ρ ρ' st.heap.n w w' := by
          have := h'.ext
          simpa only [Nat.min_eq_left hlo] using this
        exact ⟨v, v', ⟨putL st.tmps o.dst v, H', min st.lo st.heap.n⟩, ρ', rfl, ⟨h'.hr, h'.fr, h'.size, h.ext.trans he, h'.marks⟩, hS.step hsel hlist hlk hni he.le (he.below h.hr (Nat.le_refl _)), ⟨_, he⟩, hs, rfl⟩
      · split at hs
        · rename_i hrc0
          rcases Bool.or_eq_true_iff.1 hrc0 with hrc | hrs
          · refine step_sound2 hcf (hd i o ho) h hst r kf _ _ fun ρ' v' w' hv he h' => ?_
            refine ⟨v, v', ⟨putL st.tmps o.dst v, H', min st.lo lo⟩, ρ', rfl, h', fun p hp hlv => ?_, ⟨_, he⟩, hs, rfl⟩
            obtain ⟨op, hop, h1⟩ := hS p hp (live_less hlist hlv)
            have hnp := fun cs b => hsel p.1 op cs b hop
            have hlkp := noLook_spec (hlk p hp hlv) hop
            have hne : p.1 ≠ i := fun e => hni (e ▸ List.mem_map_of_mem hp)
            refine ⟨op, hop, ?_⟩
            rcases h1 with ⟨h1, h2⟩ | ⟨h1, h2, v0, h3, h4⟩
            · exact .inl ⟨h1, fun w2 => yq_put hnp hlkp (h2 w2)⟩
            · have hmem : p.1 ∈ es := by
                rw [hes]
                exact List.mem_filter.2 ⟨mem_fst p hp hlv, by simp [noMemI, hop, h1]⟩
              rcases recheckL_spec hrc p.1 hmem with hrc1 | ⟨o2, t2, x2, b2, i2, v2, g1, g2, g3, g4, g5, g6⟩
              rotate_left
              · have : o2 = op := Option.some.inj (g1.symm.trans (by simpa using hop))
                subst this
                obtain ⟨e2, u2, f1, ⟨cs2, el2, k2, f2⟩, f3, f4⟩ := q_loadB h.hr (ev_sound h.hr h.fr g4) g6
                obtain ⟨hq2, hg2⟩ := isLoadN_quiet g2
                have hw2 : Region.wanted o2 (yielded ops a.tmps) = true := by simp [Region.wanted, hg2]
                have hv2 : u2 = p.2 := by
                  have := h2 w (Below.refl _ _)
                  obtain ⟨_, ⟨_, h5⟩ | ⟨h5, _⟩⟩ := this
                  · have h6 := h5 w rfl
                    unfold Oper.quietAtIn at h6
                    have h7 : (execOp a.eval o2).run P w = .ok (.value u2) w := by simp [execOp, g3, f4 w rfl]
                    rw [h7] at h6
                    exact h6.2
                  · rw [hw2] at h5; cases h5
                have hsame : w'.heap[e2.blk]? = w.heap[e2.blk]? := load_stays h.hr he f2 f1 g5
                have hlt := h.hr.top b2 e2 f1
                refine .inr ⟨h1, fun w2 hb2 => yq_put hnp hlkp ⟨fun _ _ _ _ => trivial, .inl ⟨hw2, fun x hx => ?_⟩⟩, v0, by rw [assocV_ne hne]; exact h3, h4.mono he.le⟩
                subst hx
                unfold Oper.quietAtIn
                have h7 : (execOp a.eval o2).run P x = .ok (.value u2) x := by
                  simp [execOp, g3, f4 x (by rw [hb2.block e2.blk (by have := he.size; omega)]; exact hsame)]
                rw [h7, hv2]
                exact ⟨rfl, rfl⟩
              obtain ⟨o2, v2, v3, H3, lo3, g1, g2, g3, g4, g5⟩ := recheck_spec hrc1 p.1 (by simp)
              have : o2 = op := Option.some.inj (g1.symm.trans (by simpa using hop))
              subst this
              rw [h3] at g2
              cases g2
              obtain ⟨rfl, hfix⟩ := sameFix_spec g5
              obtain ⟨hq2, hg2⟩ := quietG_spec g3
              obtain ⟨⟨u, f1, f2⟩, _, _⟩ := step1_quiet h'.hr h'.fr hq2 g4
              rw [hfix ρ ρ' he.le _ _ h4 f1] at f2
              refine .inr ⟨h1, fun w2 hb2 => ⟨fun _ _ _ _ => trivial, .inl ⟨by simp [Region.wanted, hg2], fun x hx => ?_⟩⟩, _, by rw [assocV_ne hne]; exact h3, h4.mono he.le⟩
              subst hx
              unfold Oper.quietAtIn
              rw [f2 _ hb2]
              exact ⟨rfl, rfl⟩
          · simp only [Bool.and_eq_true] at hrs
            obtain ⟨hsb, hrs⟩ := hrs
            have hnc : callOf P st.tmps o = none := by
              unfold isStoreB at hsb
              split at hsb
              · rename_i t x y hop
                simp [callOf, hop]
              · cases hsb
            rw [step_eq1 hnc (nz_store hsb)] at hst
            obtain ⟨rfl, hnd, w', e, cs, el, k, hrun, hR', he, hρ, hgl, hoth⟩ := store_one h.hr h.fr hsb hst
            refine ⟨fun _ _ => trivial, ?_⟩
            rw [semAt_of hnd, hrun]
            have h' : RS P B ρ0 w0 mb n ρ ⟨putL st.tmps o.dst undef, H', min st.lo lo⟩ (a.put o.dst undef) w' :=
              ⟨hR', h.fr.put (by rw [h.size]; exact hd i o ho) (VT.undef _), by rw [put_size]; exact h.size, h.ext.trans he, by rw [put_defers]; exact h.marks.ext he⟩
            refine ⟨undef, undef, ⟨putL st.tmps o.dst undef, H', min st.lo lo⟩, ρ, rfl, h', fun p hp hlv => ?_, ⟨_, he⟩, hs, rfl⟩
            obtain ⟨op, hop, h1⟩ := hS p hp (live_less hlist hlv)
            have hnp := fun cs b => hsel p.1 op cs b hop
            have hlkp := noLook_spec (hlk p hp hlv) hop
            have hne : p.1 ≠ i := fun e => hni (e ▸ List.mem_map_of_mem hp)
            refine ⟨op, hop, ?_⟩
            rcases h1 with ⟨h1, h2⟩ | ⟨h1, h2, v0, h3, h4⟩
            · exact .inl ⟨h1, fun w2 => yq_put hnp hlkp (h2 w2)⟩
            · have hmem : p.1 ∈ es := by
                rw [hes]
                exact List.mem_filter.2 ⟨mem_fst p hp hlv, by simp [noMemI, hop, h1]⟩
              obtain ⟨o2, t2, x2, b2, i2, v2, g1, g2, g3, g4, g5, g6⟩ := recheckS_spec hrs p.1 hmem
              have : o2 = op := Option.some.inj (g1.symm.trans (by simpa using hop))
              subst this
              obtain ⟨e2, u2, f1, ⟨cs2, el2, k2, f2⟩, f3, f4⟩ := q_loadB h.hr (ev_sound h.hr h.fr g4) g6
              obtain ⟨hq2, hg2⟩ := isLoadN_quiet g2
              have hw2 : Region.wanted o2 (yielded ops a.tmps) = true := by simp [Region.wanted, hg2]
              have hv2 : u2 = p.2 := by
                have := h2 w (Below.refl _ _)
                obtain ⟨_, ⟨_, h5⟩ | ⟨h5, _⟩⟩ := this
                · have h6 := h5 w rfl
                  unfold Oper.quietAtIn at h6
                  have h7 : (execOp a.eval o2).run P w = .ok (.value u2) w := by simp [execOp, g3, f4 w rfl]
                  rw [h7] at h6
                  exact h6.2
                · rw [hw2] at h5; cases h5
              have hblk : e.blk ≠ e2.blk := by
                cases k2 with
                | zero =>
                  have := (h.hr.obj _ _ _ f2 f1).1
                  have := (h.hr.obj _ _ _ hgl hρ).1
                  omega
                | succ k2 => exact fun hh => h.hr.inj lo b2 _ _ e e2 hgl f2 hρ f1 rfl rfl (Ne.symm g5) hh
              have hsame : w'.heap[e2.blk]? = w.heap[e2.blk]? := hoth _ hblk
              have hlt := h.hr.top b2 e2 f1
              refine .inr ⟨h1, fun w2 hb2 => yq_put hnp hlkp ⟨fun _ _ _ _ => trivial, .inl ⟨hw2, fun x hx => ?_⟩⟩, v0, by rw [assocV_ne hne]; exact h3, h4⟩
              subst hx
              unfold Oper.quietAtIn
              have h7 : (execOp a.eval o2).run P x = .ok (.value u2) x := by
                simp [execOp, g3, f4 x (by rw [hb2.block e2.blk (by have := he.size; omega)]; exact hsame)]
              rw [h7, hv2]
              exact ⟨rfl, rfl⟩
        · cases hs
    · cases hs
  · rename_i hw
    rw [if_neg hw]
    refine ⟨fun _ _ => trivial, undef, undef, { st with tmps := putL st.tmps o.dst undef }, ρ, rfl, ⟨h.hr, h.fr.put (by rw [h.size]; exact hd i o ho) (VT.undef _), by rw [put_size]; exact h.size, h.ext, by rw [put_defers]; exact h.marks⟩, hS.step hsel hlist hlk hni (fun _ _ h => h) (Below.refl _ _), ⟨0, Ext.refl _ _ _ _⟩, hs, rfl⟩
theorem stepR_q {cf : CallF} {ρ0 : Ren} {w0 : World} {mb n : Nat} (ops : Array Oper) (hd : ∀ (i : Nat) (o : Oper), ops[i]? = some o -> dstOk n o = true) (hsel : ∀ (j : Nat) (o : Oper) cs b, ops[j]? = some o -> o.op ≠ .select cs b) {M : List Nat} (r : Option Nat) (kf : Nat) {st' : St}
    {i : Nat} {es : List Nat} {pl' : List (Nat × List Nat)} {E V : List (Nat × Value)} {listed : Array Bool} {st : St} {ρ : Ren} {a : Act} {w : World} {o : Oper} (ho : ops[i]? = some o) (hq : quietN o = true) (hni : i ∉ E.map (·.1))
    (hlk : ∀ p ∈ E, liveB ops M (listed.setIfInBounds i true) p.1 = true -> noLook ops p.1 o.dst = true)
    (h : RS P B ρ0 w0 mb n ρ st a w) (hS : Strong P (Fr r) kf ops M ρ V E listed a w) (hs : opsR P cf ops.toList ((i, es) :: pl') V st = some st') :
    ∃ v v' st2, YieldsQuiet (Fr r) kf P ops (fun x => x = w) o v' a ∧ Behind P B (Fr r) kf cf ρ0 w0 mb n ops M pl' st' E (listed.setIfInBounds i true) i o ρ w V st v v' st2 ρ (a.put o.dst v') w ∧
      (noLook ops i o.dst = true -> Strong P (Fr r) kf ops M ρ ((i, v) :: V) ((i, v') :: E) (listed.setIfInBounds i true) (a.put o.dst v') w) := by
  have ho' : ops.toList[i]? = some o := by simpa using ho
  have hlist : ∀ j, listed.getD j false = true -> (listed.setIfInBounds i true).getD j false = true := fun j hj => getD_set_true hj
  have hns := fun cs b => hsel i o cs b ho
  simp only [opsR, ho', wanted_eq h.fr ops o] at hs
  have fin : ∀ (v v' : Value) (st2 : St), VT ρ v v' -> YieldsQuiet (Fr r) kf P ops (fun x => x = w) o v' a -> (noMemB o = true -> ∀ w', YieldsQuiet (Fr r) kf P ops (fun x => x = w') o v' a) -> Yields (Fr r) kf P ops o v' a w ->
      RS P B ρ0 w0 mb n ρ st2 (a.put o.dst v') w -> opsR P cf ops.toList pl' ((i, v) :: V) st2 = some st' -> st2.tmps = putL st.tmps o.dst v ->
      ∃ v v' st2, YieldsQuiet (Fr r) kf P ops (fun x => x = w) o v' a ∧ Behind P B (Fr r) kf cf ρ0 w0 mb n ops M pl' st' E (listed.setIfInBounds i true) i o ρ w V st v v' st2 ρ (a.put o.dst v') w ∧
        (noLook ops i o.dst = true -> Strong P (Fr r) kf ops M ρ ((i, v) :: V) ((i, v') :: E) (listed.setIfInBounds i true) (a.put o.dst v') w) := by
    intro v v' st2 hv hy hfree hyl hR2 hs2 ht
    have hS2 : Strong P (Fr r) kf ops M ρ ((i, v) :: V) E (listed.setIfInBounds i true) (a.put o.dst v') w := hS.step hsel hlist hlk hni (fun _ _ h => h) (Below.refl _ _)
    refine ⟨v, v', st2, hy, ⟨hR2, hS2, ⟨0, Ext.refl _ _ _ _⟩, hs2, ht⟩, fun hnl p hp hl => ?_⟩
    have hself := noLook_spec hnl ho
    rcases List.mem_cons.1 hp with rfl | hp
    · refine ⟨o, ho, ?_⟩
      cases hnm : noMemB o with
      | true => exact .inl ⟨rfl, fun w2 => yq_put hns hself (hfree hnm w2)⟩
      | false => exact .inr ⟨rfl, fun w2 hb2 => yq_put hns hself (hyl w2 hb2), v, by simp [assocV], hv⟩
    · exact hS2 p hp hl
  split at hs
  · rename_i hw
    rw [step_quiet1 hq] at hs
    split at hs
    · rename_i v H' lo hst
      have hq1 : quietOp o = true := by simp only [quietN, Bool.and_eq_true] at hq; exact hq.1
      obtain ⟨⟨v', h1, h2⟩, rfl, rfl⟩ := step1_quiet h.hr h.fr hq1 hst
      rw [if_pos (Nat.le_refl _)] at hs
      have hyl : Yields (Fr r) kf P ops o v' a w := fun w' hb => ⟨fun _ _ _ _ => trivial, .inl ⟨hw, fun x hx => by
        subst hx
        unfold Oper.quietAtIn
        rw [h2 _ hb]
        exact ⟨rfl, rfl⟩⟩⟩
      refine fin v v' ⟨putL st.tmps o.dst v, st.heap, min st.lo st.heap.n⟩ h1 (hyl w (Below.refl _ _)) (fun hnm w' => ?_) hyl ⟨h.hr, h.fr.put (by rw [h.size]; exact hd i o ho) h1, by rw [put_size]; exact h.size, h.ext.lower (Nat.min_le_left _ _), by rw [put_defers]; exact h.marks⟩ hs rfl
      obtain ⟨v2, h3, h4⟩ := noMem_free h.hr h.fr hnm hst
      have e1 := h2 w (Below.refl _ _)
      rw [h4 w] at e1
      have : v2 = v' := by simpa using e1
      subst this
      exact ⟨fun _ _ _ _ => trivial, .inl ⟨hw, fun x hx => by
        subst hx
        unfold Oper.quietAtIn
        rw [h4 x]
        exact ⟨rfl, rfl⟩⟩⟩
    · cases hs
  · rename_i hw
    have hyl : Yields (Fr r) kf P ops o undef a w := fun w' hb => ⟨fun _ _ _ _ => trivial, .inr ⟨by simpa using hw, rfl⟩⟩
    exact fin undef undef { st with tmps := putL st.tmps o.dst undef } (VT.undef _) (hyl w (Below.refl _ _)) (fun _ w' => ⟨fun _ _ _ _ => trivial, .inr ⟨by simpa using hw, rfl⟩⟩) hyl ⟨h.hr, h.fr.put (by rw [h.size]; exact hd i o ho) (VT.undef _), by rw [put_size]; exact h.size, h.ext, by rw [put_defers]; exact h.marks⟩ hs rfl
theorem set_comm' {listed : Array Bool} {i j : Nat} (h : i ≠ j) : (listed.setIfInBounds i true).setIfInBounds j true = (listed.setIfInBounds j true).setIfInBounds i true := Array.setIfInBounds_comm _ _ h
theorem opsF_sound {cf : CallF} (hcf : CallOK P B cf) {ρ0 : Ren} {w0 : World} {mb n : Nat} (ops : Array Oper) (hd : ∀ (i : Nat) (o : Oper), ops[i]? = some o -> dstOk n o = true) (hnd : ∀ (i : Nat) (o : Oper), ops[i]? = some o -> noDefer o) (hsel : ∀ (j : Nat) (o : Oper) cs b, ops[j]? = some o -> o.op ≠ .select cs b) {md : Region.Mode} {M : List Nat} (hM : needOk md ops M = true)
    {a0 : Nat} {o0 : Oper} {t0 : TypeId} {i0 : TypeInfo} {z0 : Value} (ho0 : ops[a0]? = some o0) (hop0 : o0.op = .alloc t0) (hg0 : o0.guard = none) (haf : ∀ e ∈ o0.after, Region.binds md e = false) (hq0 : quietI ops a0 = false)
    (hal : ∀ j o, ops[j]? = some o -> j ≠ a0 -> (∀ d, o.dst = some d -> o0.dst ≠ some d) ∧ (noLook ops j o0.dst = true ∨ needs M j a0 = true)) (hi0 : P.info? t0 = some i0) (hz0 : i0.zero = some z0) (hs0 : z0.cells.toList.all scalar = true)
    (r : Option Nat) (kf : Nat) (Q : Exit -> Act -> World -> Prop) (st' : St) (hQ : ∀ ρ' a' w', RS P B ρ0 w0 mb n ρ' st' a' w' -> Q .normal a' w') : ∀ (is : List Nat),
    (∀ (pl : List (Nat × List Nat)) (E V : List (Nat × Value)) (listed : Array Bool) (st : St) (ρ : Ren) (a : Act) (w : World) (e : Ent), planR md ops M (some a0) is (E.map (·.1)) listed = some pl -> HeadInv md ops ops.size listed -> (∀ p ∈ E, listed.getD p.1 false = true) -> RS P B ρ0 w0 mb n ρ st a w -> Strong P (Fr r) kf ops M ρ V E listed a w ->
      listed.getD a0 true = false -> Pend P B z0.cells.toList t0 w0 ρ w e -> opsR P cf ops.toList pl V st = some st' -> is ≠ [] ∧ wpAnyE (Fr r) kf P md ops (onlyN Q) M E (is.length - 1) (listed.setIfInBounds a0 true) (a.put o0.dst (.pointer (some ⟨e.blk, 0, none⟩))) w) ∧
    (∀ (pl : List (Nat × List Nat)) (E V : List (Nat × Value)) (listed : Array Bool) (st : St) (ρ : Ren) (a : Act) (w : World), planR md ops M (some a0) is (E.map (·.1)) listed = some pl -> HeadInv md ops ops.size listed -> (∀ p ∈ E, listed.getD p.1 false = true) -> RS P B ρ0 w0 mb n ρ st a w -> Strong P (Fr r) kf ops M ρ V E listed a w ->
      opsR P cf ops.toList pl V st = some st' -> wpAnyE (Fr r) kf P md ops (onlyN Q) M E is.length listed a w) := by
  have ha0 : a0 < ops.size := (Array.getElem?_eq_some_iff.1 ho0).1
  have hready0 : ∀ listed : Array Bool, listed.getD a0 true = false -> a0 ∈ Region.ready md ops listed := fun listed hu => mem_ready.2 ⟨hu, o0, ho0, fun e he hb => by rw [haf e he] at hb; cases hb⟩
  intro is
  induction is with
  | nil =>
    constructor
    · intro pl E V listed st ρ a w e hp _ _ _ _ hu _ _
      exfalso
      unfold planR at hp
      cases hdd : decide (Region.ready md ops listed = []) with
      | false => rw [hdd] at hp; cases hp
      | true =>
        have := hready0 listed hu
        rw [of_decide_eq_true hdd] at this
        cases this
    · intro pl E V listed st ρ a w hp _ _ h _ hs
      unfold planR at hp
      cases hdd : decide (Region.ready md ops listed = []) with
      | false => rw [hdd] at hp; cases hp
      | true =>
        rw [hdd] at hp
        cases hp
        simp only [opsR, Option.some.injEq] at hs
        subst hs
        exact ⟨of_decide_eq_true hdd, hQ ρ a w h⟩
  | cons i is ih =>
    obtain ⟨ihT, ihF⟩ := ih
    have hT : ∀ (pl : List (Nat × List Nat)) (E V : List (Nat × Value)) (listed : Array Bool) (st : St) (ρ : Ren) (a : Act) (w : World) (e : Ent), planR md ops M (some a0) (i :: is) (E.map (·.1)) listed = some pl -> HeadInv md ops ops.size listed -> (∀ p ∈ E, listed.getD p.1 false = true) -> RS P B ρ0 w0 mb n ρ st a w -> Strong P (Fr r) kf ops M ρ V E listed a w ->
        listed.getD a0 true = false -> Pend P B z0.cells.toList t0 w0 ρ w e -> opsR P cf ops.toList pl V st = some st' -> (i :: is) ≠ [] ∧ wpAnyE (Fr r) kf P md ops (onlyN Q) M E ((i :: is).length - 1) (listed.setIfInBounds a0 true) (a.put o0.dst (.pointer (some ⟨e.blk, 0, none⟩))) w := by
      intro pl E V listed st ρ a w e hp inv hE h hS hu hpd hs
      have hnl : ∀ p ∈ E, noLook ops p.1 o0.dst = true := fun p hp => by
        have hpl := hE p hp
        have hpj : p.1 ≠ a0 := fun e => by rw [e, getD_both hu] at hpl; cases hpl
        have hsz : p.1 < ops.size := by
          rw [<- inv.size]
          rcases Nat.lt_or_ge p.1 listed.size with h1 | h1
          · exact h1
          · simp [Array.getElem?_eq_none h1] at hpl
        rcases (hal p.1 _ (Array.getElem?_eq_getElem hsz) hpj).2 with h2 | h2
        · exact h2
        · have := need_listed hM inv ha0 p.1 (fun o ho d hd hb => inv.closed p.1 o ho hpl d hd hb) h2
          rw [getD_both hu] at this; cases this
      refine ⟨by simp, ?_⟩
      rw [List.length_cons, Nat.add_sub_cancel]
      obtain ⟨o, es, pl', ho, rfl, hni, hcase⟩ := planR_cons hp
      have his : i < ops.size := (Array.getElem?_eq_some_iff.1 ho).1
      have hns := fun cs b => hsel i o cs b ho
      have mem_fst : ∀ p ∈ E, liveB ops M (listed.setIfInBounds i true) p.1 = true -> p.1 ∈ (E.map (·.1)).filter (liveB ops M (listed.setIfInBounds i true)) := fun p hp hl => List.mem_filter.2 ⟨List.mem_map_of_mem hp, hl⟩
      have inv0 := inv.set (hready0 listed hu) ha0
      by_cases hia : i = a0
      · -- the allocation is told
        subst hia
        have : o = o0 := Option.some.inj (ho.symm.trans ho0)
        subst this
        rcases hcase with ⟨hf, _, _⟩ | ⟨_, _, hlk, hp', _⟩
        · have := (floats_quiet hf).1
          rw [hq0] at this; cases this
        · have ho' : ops.toList[i]? = some o := by simpa using ho
          simp only [opsR, ho'] at hs
          rw [if_pos (show wantedL ops.toList st.tmps o = true by simp only [wantedL, hg0])] at hs
          have hst1 : step P cf st.tmps st.heap o = some (.pointer (some ⟨st.heap.n, 0, none⟩), st.heap.new (.cells z0.cells.toList t0 1), st.heap.n) := by
            have hnc : callOf P st.tmps o = none := by simp [callOf, hop0]
            rw [step_eq1 hnc (nz_no fun c g hc hg => by rw [hop0] at hc; cases hc)]
            simp only [step1, hop0, sAlloc, hi0, Option.bind_some, hz0, hs0, if_true]
            rfl
          rw [hst1] at hs
          simp only at hs
          rw [if_pos (Nat.le_refl _)] at hs
          obtain ⟨g1, g2, ⟨cur, g3⟩, g4⟩ := hpd.done h.hr h.ext
          have hle := h.hr.le_add e
          have hR2 : RS P B ρ0 w0 mb n (Ren.add ρ st.heap.n e) ⟨putL st.tmps o.dst (.pointer (some ⟨st.heap.n, 0, none⟩)), st.heap.new (.cells z0.cells.toList t0 1), min st.lo st.heap.n⟩ (a.put o.dst (.pointer (some ⟨e.blk, 0, none⟩))) w := by
            refine ⟨g1, (h.fr.mono hle).put (by rw [h.size]; exact hd i o ho) g4, by rw [put_size]; exact h.size, g2.lower (Nat.min_le_left _ _), ?_⟩
            rw [put_defers]
            obtain ⟨rs, m1, m2, m3⟩ := h.marks
            refine ⟨rs, m1, m2, fun q hq => ?_⟩
            obtain ⟨m4, m5, m6⟩ := m3 q hq
            refine ⟨m4, m5, fun b x hx => ?_⟩
            by_cases hbn : b = st.heap.n
            · subst hbn
              rw [Ren.add_eq] at hx; cases hx
              intro hh
              rw [hh, m5] at g3
              cases g3
            · rw [Ren.add_ne _ _ hbn] at hx; exact m6 b x hx
          have hS2 : Strong P (Fr r) kf ops M (Ren.add ρ st.heap.n e) ((i, .pointer (some ⟨st.heap.n, 0, none⟩)) :: V) E (listed.setIfInBounds i true) (a.put o.dst (.pointer (some ⟨e.blk, 0, none⟩))) w := fun p hp hl => by
            obtain ⟨op, hop, h1⟩ := hS p hp (live_less (fun j hj => getD_set_true hj) hl)
            have hne : p.1 ≠ i := fun e => hni (e ▸ List.mem_map_of_mem hp)
            have hnp := fun cs b => hsel p.1 op cs b hop
            have hlkp := noLook_spec (hnl p hp) hop
            refine ⟨op, hop, ?_⟩
            rcases h1 with ⟨h1, h2⟩ | ⟨h1, h2, v0, h3, h4⟩
            · exact .inl ⟨h1, fun w2 => yq_put hnp hlkp (h2 w2)⟩
            · exact .inr ⟨h1, fun w2 hb2 => yq_put hnp hlkp (h2 w2 hb2), v0, by rw [assocV_ne hne]; exact h3, h4.mono hle⟩
          exact ihF pl' E _ _ _ _ _ w hp' inv0 (fun p hp => getD_set_true (hE p hp)) hR2 hS2 hs
      -- another operation
      obtain ⟨hdst, hnli0⟩ := hal i o ho hia
      have hnlr : i ∈ Region.ready md ops listed -> noLook ops i o0.dst = true := fun hir => by
        rcases hnli0 with h2 | h2
        · exact h2
        · obtain ⟨_, oq, q2, q3⟩ := mem_ready.1 hir
          have := need_listed hM inv ha0 i (fun o' ho' d hd hb => by
            have : o' = oq := Option.some.inj (ho'.symm.trans q2)
            subst this
            exact q3 d hd hb) h2
          rw [getD_both hu] at this; cases this
      have hlx : lxF (some a0) i listed = listed.setIfInBounds a0 true := by
        have h1 : Nat.beq a0 i = false := by
          cases hb : Nat.beq a0 i with
          | false => rfl
          | true => exact absurd (Nat.eq_of_beq_eq_true hb).symm hia
        simp only [lxF, h1, getD_both hu, Bool.or_false, cond_false]
      have hun2 : (listed.setIfInBounds i true).getD a0 true = false := by rw [getD_set_ne true hia]; exact hu
      rcases hcase with ⟨hf, hlk, hp'⟩ | ⟨hf, hr, hlk, hp', hes⟩
      · obtain ⟨hq, hir, hfree⟩ := floats_quiet hf
        have hqo : quietN o = true := by simpa [quietI, ho] using hq
        have hlk1 : ∀ p ∈ E, liveB ops M (listed.setIfInBounds i true) p.1 = true -> noLook ops p.1 o.dst = true := fun p hp hl => hlk p.1 (List.mem_cons_of_mem _ (mem_fst p hp hl))
        obtain ⟨v, v', st2, hy, hb, hst2⟩ := stepR_q (n := n) (cf := cf) ops hd hsel r kf ho hqo hni hlk1 h hS hs
        have inv2 := inv.set hir his
        obtain ⟨hne, hK⟩ := ihT pl' ((i, v') :: E) _ _ st2 ρ _ w e hp' inv2 (fun p hp => by
          rcases List.mem_cons.1 hp with rfl | hp
          · have hsz := inv.size
            simp [Array.getD_eq_getD_getElem?, hsz, his]
          · exact getD_set_true (hE p hp)) hb.rs (hst2 (hlk i (by simp))) hun2 hpd hb.run
        obtain ⟨f, hf2⟩ : ∃ f, is.length = f + 1 := ⟨is.length - 1, by have := List.length_pos_iff.2 hne; omega⟩
        rw [hf2]
        rw [hf2, Nat.add_sub_cancel, set_comm' hia, Act.put_comm a v' _ hdst] at hK
        have hY : YlE (Fr r) kf P ops M ((i, v') :: E) (listed.setIfInBounds a0 true) (a.put o0.dst (.pointer (some ⟨e.blk, 0, none⟩))) w := fun p hp hl => by
          rcases List.mem_cons.1 hp with rfl | hp
          · exact ⟨o, ho, yq_put hns (noLook_spec (hnlr hir) ho) hy⟩
          · obtain ⟨op, hop, hy2⟩ := hS.yl p hp (live_less (fun j hj => getD_set_true hj) hl)
            exact ⟨op, hop, yq_put (fun cs b => hsel p.1 op cs b hop) (noLook_spec (hnl p hp) hop) hy2⟩
        refine wpAnyE_first ho hnd hsel hM hq f _ _ w inv0 (fun p hp hl => ?_) (fun j oj hj hji hun hno => Region.free_spec ho hfree j oj hj hji ?_ hno) (ready_mono hir hia) hY hK
        · have hl2 := live_quiet hq (live_less (fun j hj => getD_set_true hj) hl)
          rcases List.mem_cons.1 hp with rfl | hp
          · exact hlk i (by simp)
          · exact hlk1 p hp hl2
        · by_cases hja : a0 = j
          · subst hja; exact hu
          · rw [getD_set_ne true hja] at hun; exact hun
      · rw [hlx] at hr
        obtain ⟨hr, hir⟩ := hr
        have hlk1 : ∀ p ∈ E, liveB ops M (listed.setIfInBounds i true) p.1 = true -> noLook ops p.1 o.dst = true := fun p hp hl => hlk p.1 (mem_fst p hp hl)
        have inv2 := inv.set hir his
        obtain ⟨f, hf2⟩ : ∃ f, is.length = f + 1 := by
          cases is with
          | nil =>
            exfalso
            unfold planR at hp'
            cases hdd : decide (Region.ready md ops (listed.setIfInBounds i true) = []) with
            | false => rw [hdd] at hp'; cases hp'
            | true =>
              have := hready0 _ hun2
              rw [of_decide_eq_true hdd] at this
              cases this
          | cons x l => exact ⟨l.length, rfl⟩
        rw [hf2]
        have next : ∀ (v v' : Value) (st2 : St) (ρ2 : Ren) (w' : World), Behind P B (Fr r) kf cf ρ0 w0 mb n ops M pl' st' E (listed.setIfInBounds i true) i o ρ w V st v v' st2 ρ2 (a.put o.dst v') w' ->
            YlE (Fr r) kf P ops M E ((listed.setIfInBounds a0 true).setIfInBounds i true) ((a.put o.dst v').put o0.dst (.pointer (some ⟨e.blk, 0, none⟩))) w' ∧ wpAnyE (Fr r) kf P md ops (onlyN Q) M E f ((listed.setIfInBounds a0 true).setIfInBounds i true) ((a.put o.dst v').put o0.dst (.pointer (some ⟨e.blk, 0, none⟩))) w' := fun v v' st2 ρ2 w' hb => by
          obtain ⟨lo, he⟩ := hb.ext
          obtain ⟨_, hK⟩ := ihT pl' E _ _ st2 ρ2 _ w' e hp' inv2 (fun p hp => getD_set_true (hE p hp)) hb.rs hb.strong hun2 (hpd.step he) hb.run
          rw [hf2, Nat.add_sub_cancel, set_comm' hia] at hK
          refine ⟨?_, hK⟩
          rw [<- set_comm' hia]
          exact hb.strong.yl.put hsel (fun j hj => getD_set_true hj) fun p hp _ => hnl p hp
        refine ⟨fun h0 => (by rw [h0] at hr; cases hr), fun j hj => ?_⟩
        rw [hr] at hj
        have : j = i := by simpa using hj
        subst this
        by_cases hqo : quietN o = true
        · obtain ⟨v, v', st2, hy, hb, _⟩ := stepR_q (n := n) (cf := cf) ops hd hsel r kf ho hqo hni hlk1 h hS hs
          have hN := next v v' st2 ρ w hb
          rw [Act.put_comm a v' _ hdst] at hN
          exact YieldsQuiet.wpOpIn (C := fun _ => True) (hnd j o ho) ho (yq_put hns (noLook_spec (hnlr hir) ho) hy) hN
        · have hqi : quietI ops j = false := by simpa [quietI, ho] using hqo
          exact wpOpIn_putL ho (hnd j o ho) (noLook_spec (hnlr hir) ho) (fun d h1 h2 => hdst d h2 h1) hns
            (wpOpIn_mono (fun a' w' ⟨v, v', st2, ρ2, ha', hb⟩ => by subst ha'; exact next v v' st2 ρ2 w' hb) (stepR_nq hcf ops hd hsel r kf (onlyN Q) ho hni hlk1 (hes hqi) h hS hs))
    refine ⟨hT, ?_⟩
    intro pl E V listed st ρ a w hp inv hE h hS hs
    have hp0 := hp
    have hs1 := hs
    rw [List.length_cons]
    obtain ⟨o, es, pl', ho, rfl, hni, hcase⟩ := planR_cons hp
    have his : i < ops.size := (Array.getElem?_eq_some_iff.1 ho).1
    have hns := fun cs b => hsel i o cs b ho
    have mem_fst : ∀ p ∈ E, liveB ops M (listed.setIfInBounds i true) p.1 = true -> p.1 ∈ (E.map (·.1)).filter (liveB ops M (listed.setIfInBounds i true)) := fun p hp hl => List.mem_filter.2 ⟨List.mem_map_of_mem hp, hl⟩
    have hset : (listed.setIfInBounds i true).getD i true = true := by
      have hsz := inv.size
      simp [Array.getD_eq_getD_getElem?, hsz, his]
    have hset2 : (listed.setIfInBounds i true).getD i false = true := by
      have hsz := inv.size
      simp [Array.getD_eq_getD_getElem?, hsz, his]
    rcases hcase with ⟨hf, hlk, hp'⟩ | ⟨hf, ⟨hr, hir⟩, hlk, hp', hes⟩
    · obtain ⟨hq, hir, hfree⟩ := floats_quiet hf
      have hqo : quietN o = true := by simpa [quietI, ho] using hq
      have hlk1 : ∀ p ∈ E, liveB ops M (listed.setIfInBounds i true) p.1 = true -> noLook ops p.1 o.dst = true := fun p hp hl => hlk p.1 (List.mem_cons_of_mem _ (mem_fst p hp hl))
      obtain ⟨v, v', st2, hy, hb, hst2⟩ := stepR_q (n := n) (cf := cf) ops hd hsel r kf ho hqo hni hlk1 h hS hs
      have hK := ihF pl' ((i, v') :: E) _ _ st2 ρ _ w hp' (inv.set hir his) (fun p hp => by
        rcases List.mem_cons.1 hp with rfl | hp
        · exact hset2
        · exact getD_set_true (hE p hp)) hb.rs (hst2 (hlk i (by simp))) hb.run
      refine wpAnyE_first ho hnd hsel hM hq _ listed a w inv (fun p hp hl => ?_) (Region.free_spec ho hfree) hir (fun p hp hl => ?_) hK
      · rcases List.mem_cons.1 hp with rfl | hp
        · exact hlk i (by simp)
        · exact hlk1 p hp (live_quiet hq hl)
      · rcases List.mem_cons.1 hp with rfl | hp
        · exact ⟨o, ho, hy⟩
        · exact hS.yl p hp hl
    · have hlk1 : ∀ p ∈ E, liveB ops M (listed.setIfInBounds i true) p.1 = true -> noLook ops p.1 o.dst = true := fun p hp hl => hlk p.1 (mem_fst p hp hl)
      have next : ∀ (v v' : Value) (st2 : St) (ρ2 : Ren) (w' : World), Behind P B (Fr r) kf cf ρ0 w0 mb n ops M pl' st' E (listed.setIfInBounds i true) i o ρ w V st v v' st2 ρ2 (a.put o.dst v') w' ->
          YlE (Fr r) kf P ops M E (listed.setIfInBounds i true) (a.put o.dst v') w' ∧ wpAnyE (Fr r) kf P md ops (onlyN Q) M E is.length (listed.setIfInBounds i true) (a.put o.dst v') w' := fun v v' st2 ρ2 w' hb =>
        ⟨hb.strong.yl, ihF pl' E _ _ st2 ρ2 _ w' hp' (inv.set hir his) (fun p hp => getD_set_true (hE p hp)) hb.rs hb.strong hb.run⟩
      have now : wpOpIn (Fr r) kf P ops (onlyN Q) i (fun a' w' => YlE (Fr r) kf P ops M E (listed.setIfInBounds i true) a' w' ∧ wpAnyE (Fr r) kf P md ops (onlyN Q) M E is.length (listed.setIfInBounds i true) a' w') a w := by
        by_cases hqo : quietN o = true
        · obtain ⟨v, v', st2, hy, hb, _⟩ := stepR_q (n := n) (cf := cf) ops hd hsel r kf ho hqo hni hlk1 h hS hs
          exact YieldsQuiet.wpOpIn (C := fun _ => True) (hnd i o ho) ho hy (next v v' st2 ρ w hb)
        · have hqi : quietI ops i = false := by simpa [quietI, ho] using hqo
          exact wpOpIn_mono (fun a' w' ⟨v, v', st2, ρ2, ha', hb⟩ => by subst ha'; exact next v v' st2 ρ2 w' hb) (stepR_nq hcf ops hd hsel r kf (onlyN Q) ho hni hlk1 (hes hqi) h hS hs)
      refine ⟨fun h0 => (by rw [h0] at hir; cases hir), fun j hj => ?_⟩
      by_cases hji : j = i
      · subst hji; exact now
      -- the allocation comes now
      have hju := (mem_ready.1 hj).1
      have hja : j = a0 := by
        simp only [lxF] at hr
        by_cases hb : (Nat.beq a0 i || listed.getD a0 false) = true
        · rw [hb] at hr
          simp only [cond_true] at hr
          rw [hr] at hj
          exact absurd (by simpa using hj) hji
        · have hb : (Nat.beq a0 i || listed.getD a0 false) = false := Bool.eq_false_iff.2 hb
          rw [hb] at hr
          simp only [cond_false] at hr
          by_cases hja : j = a0
          · exact hja
          · have := ready_mono hj hja
            rw [hr] at this
            exact absurd (by simpa using this) hji
      subst hja
      obtain ⟨e, w', hrun, hbel, he1, he2, hor⟩ := alloc_now h.hr hop0 hi0 hz0 hs0 (a := a)
      have hpd : Pend P B z0.cells.toList t0 w0 ρ w' e := ⟨by rw [he1]; exact h.ext.size, he2, hor ρ, fun b x hx => by have := h.hr.top b x hx; omega⟩
      have hS2 : Strong P (Fr r) kf ops M ρ V E listed a w' := fun p hp hl => by
        obtain ⟨op, hop, h1⟩ := hS p hp hl
        refine ⟨op, hop, ?_⟩
        rcases h1 with ⟨h1, h2⟩ | ⟨h1, h2, v0, h3, h4⟩
        · exact .inl ⟨h1, h2⟩
        · exact .inr ⟨h1, h2.later hbel, v0, h3, h4⟩
      have hnl : ∀ p ∈ E, noLook ops p.1 o0.dst = true := fun p hp => by
        have hpl := hE p hp
        have hpj : p.1 ≠ j := fun e => by rw [e, getD_both hju] at hpl; cases hpl
        have hsz : p.1 < ops.size := by
          rw [<- inv.size]
          rcases Nat.lt_or_ge p.1 listed.size with h1 | h1
          · exact h1
          · simp [Array.getElem?_eq_none h1] at hpl
        rcases (hal p.1 _ (Array.getElem?_eq_getElem hsz) hpj).2 with h2 | h2
        · exact h2
        · have := need_listed hM inv ha0 p.1 (fun o ho d hd hb => inv.closed p.1 o ho hpl d hd hb) h2
          rw [getD_both hju] at this; cases this
      obtain ⟨_, hK⟩ := hT _ E V listed st ρ a w' e hp0 inv hE (h.below hbel) hS2 hju hpd hs1
      rw [List.length_cons, Nat.add_sub_cancel] at hK
      unfold wpOpIn
      simp only [ho0]
      rw [if_pos (show Region.wanted o0 (yielded ops a.tmps) = true by simp [Region.wanted, hg0])]
      have hnd0 : noDefer o0 := hnd j o0 ho0
      refine ⟨fun _ _ => trivial, ?_⟩
      rw [semAt_of hnd0, hrun]
      exact ⟨hS2.yl.put hsel (fun j hj => getD_set_true hj) fun p hp _ => hnl p hp, hK⟩
theorem isAlF_spec {o : Oper} (h : isAlF o = true) : ∃ t, o.op = .alloc t ∧ o.guard = none ∧ ∀ e ∈ o.after, Region.binds .any e = false := by
  unfold isAlF at h
  split at h
  · rename_i t hop hg
    exact ⟨t, hop, hg, fun e he => by
      have := List.all_eq_true.1 h e (by simpa using he)
      simpa using this⟩
  · cases h
theorem alIdx_spec : ∀ {l : List Oper} {k a0 : Nat}, alIdx l k = some a0 -> ∃ o, k <= a0 ∧ l[a0 - k]? = some o ∧ isAlF o = true
  | [], _, _, h => by cases h
  | o :: r, k, a0, h => by
    unfold alIdx at h
    cases ha : isAlF o with
    | true =>
      rw [ha, cond_true] at h; cases h
      exact ⟨o, Nat.le_refl _, by simp, ha⟩
    | false =>
      rw [ha, cond_false] at h
      obtain ⟨o', h1, h2, h3⟩ := alIdx_spec h
      refine ⟨o', by omega, ?_, h3⟩
      rw [show a0 - k = (a0 - (k + 1)) + 1 by omega]
      exact h2
theorem bneD_spec {x y : Option Tmp} (h : bneD x y = true) : ∀ d, x = some d -> y ≠ some d := by
  intro d hx hy
  subst hx; subst hy
  simp [bneD] at h
theorem alX_sound {cf : CallF} (hcf : CallOK P B cf) {ρ0 ρ : Ren} {w0 w : World} {mb n : Nat} (ops : Array Oper) (hd : ∀ (i : Nat) (o : Oper), ops[i]? = some o -> dstOk n o = true) {st st' : St} {a : Act} (r : Option Nat) (kf : Nat) (Q : Exit -> Act -> World -> Prop) {id : Nat} (hm : P.follows .mixedOrders = true)
    (hQ : ∀ ρ' a' w', RS P B ρ0 w0 mb n ρ' st' a' w' -> Q .normal a' w') (h : RS P B ρ0 w0 mb n ρ st a { w with drawn := w.drawn + 1 }) (hs : alX P cf ops.toList st = some st') : (Code.region id ops true).wpIn (Fr r) kf P Q a w := by
  unfold alX at hs
  rw [show ops.toList.toArray = ops from Array.toArray_toList ..] at hs
  split at hs
  · rename_i a0 pl hpl
    split at hs
    · rename_i o0 ho0
      split at hs
      · rename_i res hst
        have ho0' : ops[a0]? = some o0 := by simpa using ho0
        unfold planA at hpl
        cases hai : alIdx ops.toList 0 with
        | none => rw [hai] at hpl; cases hpl
        | some a1 =>
          rw [hai] at hpl
          simp only at hpl
          cases hM : (needOk .any ops (needM .any ops.toList []) && (alOk ops (needM .any ops.toList []) a1 && (ops.toList.all notDefer && (Region.noSelect ops && Nat.beq (wideI ops.toList).length ops.size)))) with
          | false => rw [hM] at hpl; cases hpl
          | true =>
            rw [hM, cond_true] at hpl
            split at hpl
            · rename_i pl' hp
              cases hpl
              simp only [Bool.and_eq_true] at hM
              obtain ⟨hM1, hM2, hM3, hM4, hM5⟩ := hM
              obtain ⟨oa, _, hoa, hal⟩ := alIdx_spec hai
              have : oa = o0 := by rw [Nat.sub_zero, ho0] at hoa; exact (Option.some.inj hoa).symm
              subst this
              obtain ⟨t0, hop0, hg0, haf⟩ := isAlF_spec hal
              have hnd : ∀ (i : Nat) (o : Oper), ops[i]? = some o -> noDefer o := fun i o ho c hc => by
                have : ops.toList[i]? = some o := by simpa using ho
                have := List.all_eq_true.1 hM3 o (List.mem_of_getElem? this)
                simp [notDefer, hc] at this
              have hq0 : quietI ops a0 = false := by simp [quietI, ho0', quietN, quietOp, hop0]
              have halk : ∀ j o, ops[j]? = some o -> j ≠ a0 -> (∀ d, o.dst = some d -> oa.dst ≠ some d) ∧ (noLook ops j oa.dst = true ∨ needs (needM .any ops.toList []) j a0 = true) := fun j o ho hja => by
                have hj := (Array.getElem?_eq_some_iff.1 ho).1
                have h1 := List.all_eq_true.1 hM2 j (List.mem_range.2 hj)
                have h2 : Nat.beq j a0 = false := by
                  cases hb : Nat.beq j a0 with
                  | false => rfl
                  | true => exact absurd (Nat.eq_of_beq_eq_true hb) hja
                simp only [h2, Bool.false_or, Bool.and_eq_true, Bool.or_eq_true, dstOf, ho, ho0'] at h1
                exact ⟨bneD_spec h1.1, h1.2⟩
              obtain ⟨i0, z0, hi0, hz0, hs0⟩ : ∃ i0 z0, P.info? t0 = some i0 ∧ i0.zero = some z0 ∧ z0.cells.toList.all scalar = true := by
                simp only [step1, hop0, sAlloc] at hst
                split at hst
                · rename_i z hz
                  split at hst
                  · rename_i hsc
                    cases hi : P.info? t0 with
                    | none => rw [hi] at hz; cases hz
                    | some i => rw [hi] at hz; exact ⟨i, z, rfl, hz, hsc⟩
                  · cases hst
                · cases hst
              have inv0 : HeadInv .any ops ops.size (Array.replicate ops.size false) :=
                ⟨by simp, fun j oj _ hl => (by rw [getD_replicate_false] at hl; cases hl), fun t ht ht2 => by omega⟩
              have hK := (opsF_sound hcf ops hd hnd (Region.noSelect_spec hM4) hM1 ho0' hop0 hg0 haf hq0 halk hi0 hz0 hs0 r kf Q st' hQ (wideI ops.toList)).2 pl [] [] _ st ρ a _ hp inv0 (fun p hp => by cases hp) h (fun p hp => by cases hp) hs
              have hK2 := wpAnyE_any _ _ _ _ hK
              rw [Nat.eq_of_beq_eq_true hM5] at hK2
              exact wpIn_mono (wpIn_region_any (Q := onlyN Q) hm hK2) onlyN_mono
            · cases hpl
      · cases hs
    · cases hs
  · cases hs
end
end Go.AI
namespace Go.AI
open Go.RowKit
section
variable {P : Program} {B : Nat}
theorem ev_put {P : Program} {tm : Tm} {x : Operand} {d : Option Tmp} {v : Value} (h : ∀ t, x = .tmp t -> d ≠ some t) : ev P (putL tm d v) x = ev P tm x := by
  cases x with
  | tmp t =>
    cases d with
    | none => rfl
    | some d =>
      have hne : d ≠ t := fun e => h t rfl (by rw [e])
      simp only [ev, putL, Tm.at, Tr.get_set_ne tm v hne]
  | _ => cases d <;> rfl
theorem evParts_put {P : Program} {tm : Tm} {d : Option Tmp} {v : Value} : ∀ {parts : List (Nat × Operand)}, (∀ p ∈ parts, ∀ t, p.2 = .tmp t -> d ≠ some t) -> evParts P (putL tm d v) parts = evParts P tm parts
  | [], _ => rfl
  | (i, x) :: r, h => by
    rw [evParts, evParts, ev_put (fun t ht => h (i, x) (by simp) t ht), evParts_put fun p hp => h p (by simp [hp])]
theorem sameOp_eq {l c : Operand} (h : sameOp l c = true) : l = c := by
  unfold sameOp at h
  split at h
  · rw [Nat.eq_of_beq_eq_true h]
  · rw [of_decide_eq_true h]
  · cases h
def mkMs (P : Program) (t : TypeId) (v : Value) : Option (List Value × TypeId × Nat × Nat) :=
  match P.underlying t, v with
  | some (.slice elem), .int .i64 n => match P.info? elem with
    | some info => match info.zero with
      | some z =>
        if 0 <= n ∧ n <= n ∧ n <= 9223372036854775807 ∧ info.bytes * n <= 281474976710656 ∧ 0 < info.size ∧ z.cells.size = info.size ∧ z.cells.toList.all scalar = true then
          some (zeros z.cells (n.toNat * info.size), elem, 2, n.toNat)
        else none
      | none => none
    | none => none
  | _, _ => none
def mkA (P : Program) (tm : Tm) (o : Oper) : Option (List Value × TypeId × Nat × Nat) :=
  match o.op with
  | .alloc t => match (P.info? t).bind (·.zero) with
    | some z => if z.cells.toList.all scalar = true then some (z.cells.toList, t, 1, 0) else none
    | none => none
  | .buildSlice t len parts => match evParts P tm parts.toList with
    | some l => match P.underlying t with
      | some (.slice elem) => match P.info? elem with
        | some info => match info.zero with
          | some z => if 0 < info.size ∧ z.cells.size = info.size ∧ z.cells.toList.all scalar = true ∧ len * info.size <= 16777216 then
              match fillL (fun i => some (i * info.size, info.size)) (zeros z.cells (len * info.size)) l with
              | some cs => some (cs, elem, 2, len)
              | none => none
            else none
          | none => none
        | none => none
      | _ => none
    | none => none
  | .makeSlice t l _ => match ev P tm l with
    | some v => mkMs P t v
    | none => none
  | _ => none
def mkV (k len n : Nat) : Value := if k = 1 then .pointer (some ⟨n, 0, none⟩) else .slice (some ⟨n, 0, none⟩) len 0
theorem isMk_guard {o : Oper} (h : isMk o = true) : o.guard = none ∧ ((∃ t, o.op = .alloc t) ∨ (∃ t len parts, o.op = .buildSlice t len parts) ∨ ∃ t l, o.op = .makeSlice t l l) := by
  unfold isMk at h
  split at h
  · rename_i t hop hg; exact ⟨hg, .inl ⟨t, hop⟩⟩
  · rename_i t len parts hop hg; exact ⟨hg, .inr (.inl ⟨t, len, parts, hop⟩)⟩
  · rename_i t l c hop hg
    obtain rfl := sameOp_eq h
    exact ⟨hg, .inr (.inr ⟨t, l, hop⟩)⟩
  · cases h
theorem isMk_call {o : Oper} (h : isMk o = true) (P : Program) (tm : Tm) : callOf P tm o = none := by
  obtain ⟨_, ⟨t, ho⟩ | ⟨t, len, parts, ho⟩ | ⟨t, l, ho⟩⟩ := isMk_guard h <;> simp [callOf, ho]
theorem isMk_nz {o : Oper} (h : isMk o = true) {P : Program} {tm : Tm} {H : Heap} : nzOf P tm H o = none := by
  refine nz_no fun c g hc hg => ?_
  obtain ⟨_, ⟨t, ho⟩ | ⟨t, len, parts, ho⟩ | ⟨t, l, ho⟩⟩ := isMk_guard h <;> rw [ho] at hc <;> cases hc
theorem isMk_quiet {o : Oper} (h : isMk o = true) : quietN o = false := by
  obtain ⟨_, ⟨t, ho⟩ | ⟨t, len, parts, ho⟩ | ⟨t, l, ho⟩⟩ := isMk_guard h <;> simp [quietN, quietOp, ho]
theorem amake_mk {P : Program} {H : Heap} {t : TypeId} {v : Value} : amakeSlice P H t v v = match mkMs P t v with
    | some (cs, t, k, len) => some (mkV k len H.n, anew H cs t k, H.n)
    | none => none := by
  unfold amakeSlice mkMs
  cases hu : P.underlying t with
  | none => rfl
  | some td =>
    cases td <;> try rfl
    rename_i elem
    cases v <;> try rfl
    rename_i k n
    cases k <;> try rfl
    simp only
    cases hi : P.info? elem with
    | none => rfl
    | some info =>
      simp only
      cases hz : info.zero with
      | none => rfl
      | some z =>
        simp only
        by_cases hc : 0 <= n ∧ n <= n ∧ n <= 9223372036854775807 ∧ info.bytes * n <= 281474976710656 ∧ 0 < info.size ∧ z.cells.size = info.size ∧ z.cells.toList.all scalar = true
        · simp only [if_pos hc]; rfl
        · simp only [if_neg hc]
theorem step1_mk {o : Oper} (h : isMk o = true) {P : Program} {tm : Tm} {H : Heap} : step1 P tm H o = match mkA P tm o with
    | some (cs, t, k, len) => some (mkV k len H.n, anew H cs t k, H.n)
    | none => none := by
  obtain ⟨_, ⟨t, ho⟩ | ⟨t, len, parts, ho⟩ | ⟨t, l, ho⟩⟩ := isMk_guard h
  · simp only [step1, mkA, ho, sAlloc]
    split
    · rename_i z hz
      rw [hz]
      simp only
      split <;> rfl
    · rename_i hz
      rw [hz]
  · simp only [step1, mkA, ho, sBuildSlice]
    cases evParts P tm parts.toList with
    | none => rfl
    | some l =>
      simp only [abuildSlice]
      cases hu : P.underlying t with
      | none => rfl
      | some td =>
        cases td <;> try rfl
        rename_i elem
        simp only
        cases hi : P.info? elem with
        | none => rfl
        | some info =>
          simp only
          cases hz : info.zero with
          | none => rfl
          | some z =>
            simp only
            by_cases hc : 0 < info.size ∧ z.cells.size = info.size ∧ z.cells.toList.all scalar = true ∧ len * info.size <= 16777216
            · simp only [if_pos hc]
              cases fillL (fun i => some (i * info.size, info.size)) (zeros z.cells (len * info.size)) l <;> rfl
            · simp only [if_neg hc]
  · simp only [step1, mkA, ho, sMakeSlice]
    cases ev P tm l with
    | none => rfl
    | some v => exact amake_mk
theorem mkMs_kind {P : Program} {t t' : TypeId} {v : Value} {cs : List Value} {k len : Nat} (h : mkMs P t v = some (cs, t', k, len)) : k = 2 := by
  unfold mkMs at h
  repeat' split at h
  all_goals first | (cases h; rfl) | cases h
theorem mkA_kind {o : Oper} {P : Program} {tm : Tm} {cs : List Value} {t : TypeId} {k len : Nat} (h : mkA P tm o = some (cs, t, k, len)) : k = 1 ∨ k = 2 := by
  unfold mkA at h
  split at h
  · split at h
    · split at h
      · cases h; exact .inl rfl
      · cases h
    · cases h
  · split at h
    · split at h
      · split at h
        · split at h
          · split at h
            · split at h
              · cases h; exact .inr rfl
              · cases h
            · cases h
          · cases h
        · cases h
      · cases h
    · cases h
  · split at h
    · exact .inr (mkMs_kind h)
    · cases h
  · cases h
theorem mkA_put {o : Oper} {ops : Array Oper} {P : Program} {tm : Tm} {d : Option Tmp} {v : Value} (h : ∀ t, d = some t -> t ∉ o.looksAt ops) : mkA P (putL tm d v) o = mkA P tm o := by
  unfold mkA
  split
  · rfl
  · rename_i t len parts ho
    rw [evParts_put]
    intro p hp t ht hd
    refine h t hd ?_
    unfold Oper.looksAt
    refine List.mem_append_left _ (List.mem_filterMap.2 ⟨.tmp t, ?_, rfl⟩)
    rw [ho]
    simp only [Op.operands]
    rw [<- ht]
    simp only [Array.toList_map, List.mem_map]
    exact ⟨p, hp, rfl⟩
  · rename_i t l c ho
    rw [ev_put]
    intro t ht hd
    refine h t hd ?_
    unfold Oper.looksAt
    refine List.mem_append_left _ (List.mem_filterMap.2 ⟨.tmp t, ?_, rfl⟩)
    rw [ho]
    simp [Op.operands, ht]
  · rfl
def mkC (k len b : Nat) : Value := if k = 1 then .pointer (some ⟨b, 0, none⟩) else .slice (some ⟨b, 0, none⟩) len len
def PendM (P : Program) (B : Nat) (cs : List Value) (t : TypeId) (k len : Nat) (w0 : World) (ρ : Ren) (w : World) (e : Ent) : Prop :=
  w0.heap.size <= e.blk ∧ e.blk < w.heap.size ∧ OR P B ρ w e (.cells cs t k) ∧ (∀ b x, ρ b = some x -> x.blk ≠ e.blk) ∧ (k = 2 -> e.cap = len) ∧ e.base = 0
theorem PendM.step {cs : List Value} {t : TypeId} {k len : Nat} {w0 w w' : World} {ρ ρ' : Ren} {lo : Nat} {e : Ent} (h : PendM P B cs t k len w0 ρ w e) (he : Ext B ρ ρ' lo w w') (hk : k = 1 ∨ k = 2) : PendM P B cs t k len w0 ρ' w' e := by
  obtain ⟨h1, h2, h3, h4, h5⟩ := h
  refine ⟨h1, Nat.lt_of_lt_of_le h2 he.size, h3.mono he.le (he.block e.blk h2 fun b x _ hx _ => h4 b x hx), fun b x hx => ?_, h5⟩
  cases hb : ρ b with
  | some y =>
    have := he.le _ _ hb
    rw [hx] at this; cases this
    exact h4 b x hb
  | none =>
    rcases he.fresh b x hb hx with h6 | ⟨b0, x0, _, h7, _, h8⟩
    · omega
    · rw [<- h8]; exact h4 b0 x0 h7
theorem run_buildSlice {w : World} {t elem : TypeId} {len : Nat} {info : TypeInfo} {z : Value} {parts : Array (Nat × Operand)} {a : Act} {r' : Array Value} (hu : P.underlying t = some (.slice elem)) (hi : P.info? elem = some info) (hz : info.zero = some z) (h3 : len * info.size <= 16777216)
    (h5 : Instr.fill (fun i => some (i * info.size, info.size)) (madeCells z.cells (len * info.size)) (parts.toList.map fun (i, x) => (i, a.eval x)) = some r') :
    (Instr.buildSlice t len (parts.map fun (i, x) => (i, a.eval x))).run P w = .ok (.slice (some ⟨w.heap.size, 0, none⟩) len len) (w.alloc (.cells r' elem)) := by
  have hsz' : sizeB P elem = some info.size := by simp [sizeB, hi]
  unfold Instr.buildSlice
  rw [Sem.run_bind, run_underlying hu, Result.andThen_ok]
  simp only [Sem.run_bind, run_sz hsz', Result.andThen_ok]
  have hn : ¬ len * info.size > 2 ^ 24 := by omega
  rw [if_neg hn]
  by_cases h9 : len * info.size = 0
  · have hmk : (Array.range (len * info.size)).map (fun x => (#[] : Array Value)[x % (#[] : Array Value).size]!) = madeCells z.cells (len * info.size) := by simp [madeCells, h9]
    rw [if_pos h9, Sem.run_bind, Sem.run_pure, Result.andThen_ok, hmk, Array.toList_map, h5]
    simp [newRow]
  · rw [if_neg h9, Sem.run_bind, run_zero hi hz, Result.andThen_ok, Sem.run_bind, Sem.run_pure, Result.andThen_ok]
    have hmk : (Array.range (len * info.size)).map (fun x => z.cells[x % z.cells.size]!) = madeCells z.cells (len * info.size) := rfl
    rw [hmk, Array.toList_map, h5]
    simp [newRow]
theorem mk_now {ρ : Ren} {H : Heap} {w : World} {a : Act} {tm : Tm} {o : Oper} {cs : List Value} {t : TypeId} {k len : Nat} (hmk : isMk o = true) (hH : HR P B ρ H w) (hF : FR ρ tm a) (h : mkA P tm o = some (cs, t, k, len)) :
    ∃ e w', (execOp a.eval o).run P w = .ok (.value (mkC k len e.blk)) w' ∧ Below w.heap.size w w' ∧ e.blk = w.heap.size ∧ e.blk < w'.heap.size ∧ OR P B ρ w' e (.cells cs t k) ∧ (k = 2 -> e.cap = len) ∧ e.base = 0 := by
  unfold mkA at h
  split at h
  · rename_i t' hop
    split at h
    · rename_i z hz
      split at h
      · rename_i hs
        cases h
        cases hi : P.info? t with
        | none => rw [hi] at hz; cases hz
        | some i =>
          rw [hi] at hz
          have hz : i.zero = some z := hz
          refine ⟨⟨w.heap.size, 0, 0⟩, w.alloc (.cells z.cells t), ?_, (Below.refl _ w).alloc (Nat.le_refl _) _, rfl, by simp, ⟨hH.old, rfl, z.cells, heap_alloc_new w _, ⟨z.cells.toList, [], by simp, L2.refl_of fun x hx => .same (List.all_eq_true.1 hs x hx)⟩, (fun h => by cases h)⟩, (fun h => by cases h), rfl⟩
          simp [execOp, hop, Instr.alloc, run_zero hi hz, newVar, newRow, mkC]
      · cases h
    · cases h
  · rename_i t' len' parts hop
    split at h
    · rename_i l hl
      have hp := evParts_sound hH hF _ _ hl
      split at h
      · rename_i elem hu
        split at h
        · rename_i info hi
          split at h
          · rename_i z hz
            split at h
            · rename_i hc
              obtain ⟨h0, h1, h2, h3⟩ := hc
              split at h
              · rename_i cs' hf
                cases h
                have hzs : 0 < z.cells.size := by omega
                have hz2 : L2 (VC ρ) (zeros z.cells (len * info.size)) (madeCells z.cells (len * info.size)).toList := by
                  have := zeros_ok (ρ := ρ) z.cells (len * info.size) h2 hzs
                  have h5 : (madeCells z.cells (len * info.size)).toList = zeros z.cells (len * info.size) := by simp [madeCells, zeros]
                  rw [h5]; exact this
                obtain ⟨r', h5, h6⟩ := fill_sim (fun i => some (i * info.size, info.size)) (fun i => some (i * info.size, info.size)) (fun _ _ h => h) _ _ _ _ _ hp hz2 hf
                have hsz : r'.size = len * info.size := by
                  have e1 := h6.length
                  have e2 := fillL_length _ _ _ _ hf
                  simp [zeros] at e1 e2; omega
                refine ⟨⟨w.heap.size, 0, len⟩, w.alloc (.cells r' t), ?_, (Below.refl _ w).alloc (Nat.le_refl _) _, rfl, by simp, ⟨hH.old, rfl, r', heap_alloc_new w _, ⟨r'.toList, [], by simp, h6⟩, fun _ => ⟨info.size, h0, by simp [sizeB, hi], hsz, ?_⟩⟩, fun _ => rfl, rfl⟩
                · have hex : execOp a.eval o = nv (Instr.buildSlice t' len (parts.map fun (i, x) => (i, a.eval x))) := by simp only [execOp, hop]; rfl
                  rw [hex]
                  simp [nv, run_buildSlice hu hi hz h3 h5, mkC]
                · have : len <= len * info.size := Nat.le_mul_of_pos_right _ h0
                  simp [maxLen]; omega
              · cases h
            · cases h
          · cases h
        · cases h
      · cases h
    · cases h
  · rename_i t' l c hop
    split at h
    · rename_i v hl
      have hv := ev_sound hH hF hl
      unfold mkMs at h
      split at h
      · rename_i elem n hu
        split at h
        · rename_i info hi
          split at h
          · rename_i z hz
            split at h
            · rename_i hc
              cases h
              obtain ⟨h0, h1, h2, h3, h4, h5, h6⟩ := hc
              have hzs : 0 < z.cells.size := by omega
              have e1 := vt_int hv
              have hz2 : L2 (VC ρ) (zeros z.cells (n.toNat * info.size)) (madeCells z.cells (n.toNat * info.size)).toList := by
                have h7 := zeros_ok (ρ := ρ) z.cells (n.toNat * info.size) h6 hzs
                have h8 : (madeCells z.cells (n.toNat * info.size)).toList = zeros z.cells (n.toNat * info.size) := by simp [madeCells, zeros]
                rw [h8]; exact h7
              have hlc : l = c := by
                have h9 := hmk
                unfold isMk at h9
                rw [hop] at h9
                split at h9 <;> first | cases h9 | skip
                all_goals first | exact sameOp_eq h9 | (rename_i hq _; cases hq; done) | (rename_i hq _; cases hq; exact sameOp_eq h9)
              subst hlc
              have hm := run_make w t' t info z hu hi hz .i64 .i64 n n h0 h1 h3 h2
              refine ⟨⟨w.heap.size, 0, n.toNat⟩, w.alloc (.cells (madeCells z.cells (n.toNat * info.size)) t), ?_, (Below.refl _ w).alloc (Nat.le_refl _) _, rfl, by simp, ⟨hH.old, rfl, _, heap_alloc_new w _, ⟨(madeCells z.cells (n.toNat * info.size)).toList, [], by simp, hz2⟩, fun _ => ⟨info.size, h4, by simp [sizeB, hi], size_madeCells _ _, by simp [maxLen]; omega⟩⟩, fun _ => rfl, rfl⟩
              have hex : execOp a.eval o = nv (Instr.makeSlice t' (a.eval l) (a.eval l)) := by simp only [execOp, hop]; rfl
              rw [hex, e1]
              simp [nv, hm, mkC]
            · cases h
          · cases h
        · cases h
      · cases h
    · cases h
  · cases h
theorem PendM.done {cs : List Value} {t : TypeId} {k len : Nat} {w0 w : World} {ρ0 ρ : Ren} {H : Heap} {lo : Nat} {e : Ent} (hk : k = 1 ∨ k = 2) (hH : HR P B ρ H w) (he : Ext B ρ0 ρ lo w0 w) (hp : PendM P B cs t k len w0 ρ w e) :
    HR P B (Ren.add ρ H.n e) (anew H cs t k) w ∧ Ext B ρ0 (Ren.add ρ H.n e) lo w0 w ∧ (∃ cur, w.heap[e.blk]? = some (.cells cur t (0, 0))) ∧ VT (Ren.add ρ H.n e) (mkV k len H.n) (mkC k len e.blk) := by
  obtain ⟨h1, h2, h3, h4, h5, h6⟩ := hp
  have hle := hH.le_add e
  have hor : OR P B (Ren.add ρ H.n e) w e (.cells cs t k) := h3.mono hle rfl
  have g3 : ∃ cur, w.heap[e.blk]? = some (.cells cur t (0, 0)) := by
    rcases hk with rfl | rfl
    · obtain ⟨_, _, cur, g3, _⟩ := h3; exact ⟨cur, g3⟩
    · obtain ⟨_, _, cur, g3, _⟩ := h3; exact ⟨cur, g3⟩
  have hBe : writable (.cells cs t k) = true -> B <= e.blk := fun _ => by
    rcases hk with rfl | rfl
    · exact h3.1
    · exact h3.1
  have get_old : ∀ b o', (anew H cs t k).get b = some o' -> b ≠ H.n -> H.get b = some o' := fun b o' hg hne => by unfold anew at hg; rw [Heap.get_new_ne _ _ hne] at hg; exact hg
  have get_new : (anew H cs t k).get H.n = some (.cells cs t k) := by unfold anew; exact Heap.get_new_eq _ _
  have nn : (anew H cs t k).n = H.n + 1 := rfl
  refine ⟨⟨?_, ?_, ?_, ?_, ?_, ?_, ?_, hH.old⟩, ⟨fun b x hb => hle _ _ (he.le b x hb), he.os, he.tape, he.output, he.size, he.block, ?_, he.loops⟩, g3, ?_⟩
  · intro b hlt
    by_cases hbn : b = H.n
    · exact ⟨e, by rw [hbn, Ren.add_eq]⟩
    · obtain ⟨x, hx⟩ := hH.dom b (by omega)
      exact ⟨x, hle _ _ hx⟩
  · intro b x hx
    by_cases hbn : b = H.n
    · omega
    · rw [Ren.add_ne _ _ hbn] at hx; have := hH.lt b x hx; omega
  · intro b o' hg
    by_cases hbn : b = H.n
    · omega
    · have := hH.objs b o' (get_old b o' hg hbn); omega
  · intro b o' x hg hx
    by_cases hbn : b = H.n
    · subst hbn
      rw [get_new] at hg; cases hg
      rw [Ren.add_eq] at hx; cases hx
      exact hor
    · rw [Ren.add_ne _ _ hbn] at hx
      exact (hH.obj b o' x (get_old b o' hg hbn) hx).mono hle rfl
  · intro b b' o2 x x' hg' hx hx' hw' hh
    by_cases hbn : b = H.n
    · by_cases hbn' : b' = H.n
      · omega
      · subst hbn
        rw [Ren.add_eq] at hx; cases hx
        rw [Ren.add_ne _ _ hbn'] at hx'
        exact absurd hh.symm (h4 b' x' hx')
    · rw [Ren.add_ne _ _ hbn] at hx
      by_cases hbn' : b' = H.n
      · have := hH.lt b x hx; omega
      · rw [Ren.add_ne _ _ hbn'] at hx'
        exact hH.sep b b' o2 x x' (get_old b' o2 hg' hbn') hx hx' hw' hh
  · intro b x hx
    by_cases hbn : b = H.n
    · subst hbn; rw [Ren.add_eq] at hx; cases hx; exact h2
    · rw [Ren.add_ne _ _ hbn] at hx
      exact hH.top b x hx
  · intro g hg
    obtain ⟨c, hc⟩ := hH.glob g hg
    exact ⟨c, hle _ _ hc⟩
  · intro b x hn hx
    by_cases hbn : b = H.n
    · subst hbn; rw [Ren.add_eq] at hx; cases hx; exact .inl h1
    · rw [Ren.add_ne _ _ hbn] at hx; exact he.fresh b x hn hx
  · rcases hk with rfl | rfl
    · have : VT (Ren.add ρ H.n e) (.pointer (some ⟨H.n, 0, none⟩)) (.pointer (some ⟨e.blk, e.base + 0, none⟩)) := .one (.cell (.ptr (i := 0) (Ren.add_eq ρ H.n e)))
      rw [h6] at this
      exact this
    · have : VT (Ren.add ρ H.n e) (.slice (some ⟨H.n, 0, none⟩) len 0) (.slice (some ⟨e.blk, e.base + 0, none⟩) len len) := .one (.cell (.sl (i := 0) (Ren.add_eq ρ H.n e) (Nat.le_refl _) fun _ => ⟨rfl, h6, (h5 rfl).symm⟩))
      rw [h6] at this
      exact this
theorem planQ_cons {md : Region.Mode} {ops : Array Oper} {M : List Nat} {A : List Nat} {i : Nat} {is E : List Nat} {listed : Array Bool} {pl : List (Nat × List Nat)} (h : planQ md ops M A (i :: is) E listed = some pl) :
    ∃ o es pl', ops[i]? = some o ∧ pl = (i, es) :: pl' ∧ i ∉ E ∧
      ((floats md ops listed i = true ∧ (∀ e ∈ i :: E.filter (liveB ops M (listed.setIfInBounds i true)), noLook ops e o.dst = true) ∧ planQ md ops M A is (i :: E) (listed.setIfInBounds i true) = some pl') ∨
       (floats md ops listed i = false ∧ (Region.ready md ops (lxM A i listed) = [i] ∧ i ∈ Region.ready md ops listed) ∧ (∀ e ∈ E.filter (liveB ops M (listed.setIfInBounds i true)), noLook ops e o.dst = true) ∧ planQ md ops M A is E (listed.setIfInBounds i true) = some pl' ∧
        (quietI ops i = false -> es = (E.filter (liveB ops M (listed.setIfInBounds i true))).filter fun e => !noMemI ops e))) := by
  unfold planQ at h
  cases ho : ops[i]? with
  | none => rw [ho] at h; cases h
  | some o =>
    rw [ho] at h
    simp only at h
    cases hc : E.contains i with
    | true => rw [hc] at h; cases h
    | false =>
      rw [hc, cond_false] at h
      have hni : i ∉ E := by simpa using hc
      cases hf : floats md ops listed i with
      | true =>
        rw [hf, cond_true] at h
        cases ha : (i :: E.filter (liveB ops M (listed.setIfInBounds i true))).all (fun e => noLook ops e o.dst) with
        | false => rw [ha] at h; cases h
        | true =>
          rw [ha, cond_true] at h
          split at h
          · rename_i pl' hp
            cases h
            exact ⟨o, [], pl', rfl, rfl, hni, .inl ⟨rfl, List.all_eq_true.1 ha, hp⟩⟩
          · cases h
      | false =>
        rw [hf, cond_false] at h
        cases ha : (decide (Region.ready md ops (lxM A i listed) = [i]) && ((Region.ready md ops listed).contains i && (E.filter (liveB ops M (listed.setIfInBounds i true))).all (fun e => noLook ops e o.dst))) with
        | false => rw [ha] at h; cases h
        | true =>
          rw [ha, cond_true] at h
          simp only [Bool.and_eq_true, decide_eq_true_eq] at ha
          split at h
          · rename_i pl' hp
            cases h
            exact ⟨o, _, pl', rfl, rfl, hni, .inr ⟨rfl, ⟨ha.1, by simpa using ha.2.1⟩, List.all_eq_true.1 ha.2.2, hp, fun hq => by rw [hq]; rfl⟩⟩
          · cases h
structure PE where
  j : Nat
  e : Ent
  cs : List Value
  t : TypeId
  k : Nat
  len : Nat
def putsD (ops : Array Oper) : Act -> List PE -> Act
  | a, [] => a
  | a, p :: D => putsD ops (a.put (dstOf ops p.j) (mkC p.k p.len p.e.blk)) D
def setD : Array Bool -> List PE -> Array Bool
  | l, [] => l
  | l, p :: D => setD (l.setIfInBounds p.j true) D
theorem set_comm2 {l : Array Bool} {i j : Nat} : (l.setIfInBounds i true).setIfInBounds j true = (l.setIfInBounds j true).setIfInBounds i true := by
  by_cases h : i = j
  · rw [h]
  · exact Array.setIfInBounds_comm _ _ h
theorem setD_set : ∀ (D : List PE) (l : Array Bool) (i : Nat), setD (l.setIfInBounds i true) D = (setD l D).setIfInBounds i true
  | [], _, _ => rfl
  | p :: D, l, i => by rw [setD, setD, <- setD_set D, set_comm2]
theorem setD_mid : ∀ (D1 D2 : List PE) (l : Array Bool) (p : PE), setD l (D1 ++ p :: D2) = setD (l.setIfInBounds p.j true) (D1 ++ D2)
  | [], _, _, _ => rfl
  | q :: D1, D2, l, p => by rw [List.cons_append, setD, setD_mid D1, List.cons_append, setD, set_comm2]
theorem setD_true : ∀ (D : List PE) (l : Array Bool) (x : Nat), l.getD x false = true -> (setD l D).getD x false = true
  | [], _, _, h => h
  | p :: D, l, x, h => setD_true D _ x (getD_set_true h)
theorem setD_un : ∀ (D : List PE) (l : Array Bool) (x : Nat), (setD l D).getD x true = false -> l.getD x true = false ∧ ∀ p ∈ D, p.j ≠ x
  | [], _, _, h => ⟨h, fun p hp => by cases hp⟩
  | p :: D, l, x, h => by
    obtain ⟨h1, h2⟩ := setD_un D _ x h
    by_cases e : p.j = x
    · exfalso
      subst e
      by_cases hb : p.j < l.size
      · simp [hb] at h1
      · have : l.size <= p.j := by omega
        simp [Array.getElem?_eq_none this] at h1
    · rw [getD_set_ne true e] at h1
      exact ⟨h1, fun q hq => by
        rcases List.mem_cons.1 hq with rfl | hq
        · exact e
        · exact h2 q hq⟩
theorem setD_got : ∀ (D : List PE) (l : Array Bool) (x : Nat), (setD l D).getD x false = true -> l.getD x false = true ∨ ∃ p ∈ D, p.j = x
  | [], _, _, h => .inl h
  | p :: D, l, x, h => by
    rcases setD_got D _ x h with h1 | ⟨q, hq, h1⟩
    · by_cases e : p.j = x
      · exact .inr ⟨p, by simp, e⟩
      · rw [getD_set_ne false e] at h1; exact .inl h1
    · exact .inr ⟨q, by simp [hq], h1⟩
theorem lxM_true : ∀ (A : List Nat) (i : Nat) (l : Array Bool) (x : Nat), l.getD x false = true -> (lxM A i l).getD x false = true
  | [], _, _, _, h => h
  | y :: A, i, l, x, h => by
    rw [lxM]
    refine lxM_true A i _ x ?_
    cases Nat.beq y i with
    | true => exact h
    | false => exact getD_set_true h
theorem lxM_in : ∀ (A : List Nat) (i : Nat) (l : Array Bool) (x : Nat), x ∈ A -> x ≠ i -> x < l.size -> (lxM A i l).getD x false = true
  | [], _, _, _, h, _, _ => by cases h
  | y :: A, i, l, x, h, hx, hs => by
    rw [lxM]
    rcases List.mem_cons.1 h with rfl | h
    · refine lxM_true A i _ x ?_
      have : Nat.beq x i = false := by
        cases hb : Nat.beq x i with
        | false => rfl
        | true => exact absurd (Nat.eq_of_beq_eq_true hb) hx
      rw [this, cond_false]
      simp [hs]
    · refine lxM_in A i _ x h hx ?_
      cases Nat.beq y i with
      | true => exact hs
      | false => simpa using hs
theorem lxM_out : ∀ (A : List Nat) (i : Nat) (l : Array Bool) (x : Nat), x ∉ A -> (lxM A i l).getD x true = l.getD x true
  | [], _, _, _, _ => rfl
  | y :: A, i, l, x, h => by
    rw [lxM, lxM_out A i _ x (fun hh => h (by simp [hh]))]
    cases Nat.beq y i with
    | true => rfl
    | false => exact getD_set_ne true (fun e => h (by simp [e]))
theorem putsD_put (ops : Array Oper) : ∀ (D : List PE) (a : Act) (d : Option Tmp) (v : Value), (∀ p ∈ D, ∀ x, d = some x -> dstOf ops p.j ≠ some x) -> putsD ops (a.put d v) D = (putsD ops a D).put d v
  | [], _, _, _, _ => rfl
  | p :: D, a, d, v, h => by
    rw [putsD, putsD, <- putsD_put ops D _ d v fun q hq => h q (by simp [hq]), Act.put_comm a v _ (h p (by simp))]
theorem putsD_mid (ops : Array Oper) : ∀ (D1 D2 : List PE) (a : Act) (p : PE), (∀ q ∈ D1, ∀ x, dstOf ops p.j = some x -> dstOf ops q.j ≠ some x) -> putsD ops a (D1 ++ p :: D2) = putsD ops (a.put (dstOf ops p.j) (mkC p.k p.len p.e.blk)) (D1 ++ D2)
  | [], _, _, _, _ => rfl
  | q :: D1, D2, a, p, h => by
    rw [List.cons_append, putsD, putsD_mid ops D1 D2 _ p fun r hr => h r (by simp [hr]), List.cons_append, putsD, Act.put_comm a _ _ (h q (by simp))]
theorem ready_setD {md : Region.Mode} {ops : Array Oper} : ∀ (D : List PE) (l : Array Bool) (x : Nat), x ∈ Region.ready md ops l -> (∀ p ∈ D, p.j ≠ x) -> x ∈ Region.ready md ops (setD l D)
  | [], _, _, h, _ => h
  | p :: D, l, x, h, hd => ready_setD D _ x (ready_mono h (Ne.symm (hd p (by simp)))) fun q hq => hd q (by simp [hq])
theorem headInv_setD {md : Region.Mode} {ops : Array Oper} : ∀ (D : List PE) (l : Array Bool), HeadInv md ops ops.size l -> (∀ p ∈ D, p.j ∈ Region.ready md ops l ∧ p.j < ops.size) -> D.Pairwise (fun p q => p.j ≠ q.j) -> HeadInv md ops ops.size (setD l D)
  | [], _, h, _, _ => h
  | p :: D, l, h, hd, hp => by
    rw [setD]
    cases hp with
    | cons hp1 hp2 =>
      exact headInv_setD D _ (h.set (hd p (by simp)).1 (hd p (by simp)).2) (fun q hq => ⟨ready_mono (hd q (by simp [hq])).1 (Ne.symm (hp1 q hq)), (hd q (by simp [hq])).2⟩) hp2
theorem wpOpIn_puts {F : Fence} {kf : Nat} {P : Program} {ops : Array Oper} {Q : Exit -> Act -> World -> Prop} {j : Nat} {oj : Oper} (hj : ops[j]? = some oj) (hnd : noDefer oj) (hsj : ∀ cs b, oj.op ≠ .select cs b) {w : World} {K : Act -> World -> Prop} : ∀ (D : List PE) (a : Act),
    (∀ p ∈ D, (∀ x, dstOf ops p.j = some x -> x ∉ oj.looksAt ops) ∧ ∀ x, dstOf ops p.j = some x -> oj.dst ≠ some x) ->
    wpOpIn F kf P ops (onlyN Q) j (fun a' w' => K (putsD ops a' D) w') a w -> wpOpIn F kf P ops (onlyN Q) j K (putsD ops a D) w
  | [], _, _, h => h
  | p :: D, a, hd, h => by
    rw [putsD]
    refine wpOpIn_puts hj hnd hsj D _ (fun q hq => hd q (by simp [hq])) ?_
    exact wpOpIn_putL hj hnd (hd p (by simp)).1 (hd p (by simp)).2 hsj h
theorem execOp_puts {ops : Array Oper} {o : Oper} (hs : ∀ cs b, o.op ≠ .select cs b) : ∀ (D : List PE) (a : Act), (∀ p ∈ D, ∀ x, dstOf ops p.j = some x -> x ∉ o.looksAt ops) -> execOp (putsD ops a D).eval o = execOp a.eval o
  | [], _, _ => rfl
  | p :: D, a, h => by rw [putsD, execOp_puts hs D _ fun q hq => h q (by simp [hq]), execOp_put (ops := ops) o hs a _ _ (h p (by simp))]
theorem yl_puts {F : Fence} {kf : Nat} {P : Program} {ops : Array Oper} {M : List Nat} {E : List (Nat × Value)} {w : World} (hsel : ∀ (j : Nat) (o : Oper) cs b, ops[j]? = some o -> o.op ≠ .select cs b) {listed listed' : Array Bool} (hs : ∀ j, listed.getD j false = true -> listed'.getD j false = true) : ∀ (D : List PE) (a : Act),
    (∀ p ∈ E, ∀ d ∈ D, noLook ops p.1 (dstOf ops d.j) = true) -> YlE F kf P ops M E listed a w -> YlE F kf P ops M E listed' (putsD ops a D) w
  | [], a, _, h => fun p hp hl => h p hp (live_less hs hl)
  | d :: D, a, hd, h => by
    rw [putsD]
    exact yl_puts hsel hs D _ (fun p hp q hq => hd p hp q (by simp [hq])) (h.put hsel (fun _ h => h) fun p hp _ => hd p hp d (by simp))
structure Static (md : Region.Mode) (ops : Array Oper) (M : List Nat) (A : List Nat) : Prop where
  edge : ∀ x ∈ A, ∀ o, ops[x]? = some o -> ∀ e ∈ o.after, Region.binds md e = true -> e.on ∉ A
  has : ∀ x ∈ A, ∃ o, ops[x]? = some o ∧ isMk o = true
  ne : ∀ x ∈ A, ∀ j, j < ops.size -> j ≠ x -> ∀ d, dstOf ops j = some d -> dstOf ops x ≠ some d
  out : ∀ x ∈ A, ∀ j, j < ops.size -> j ≠ x -> noLook ops j (dstOf ops x) = true ∨ needs M j x = true
  inn : ∀ x ∈ A, ∀ j, j < ops.size -> j ≠ x -> noLook ops x (dstOf ops j) = true ∨ needs M x j = true
  apart : ∀ x ∈ A, ∀ y ∈ A, y ≠ x -> y < ops.size -> needs M y x = false
theorem alOkM_spec {md : Region.Mode} {ops : Array Oper} {M : List Nat} {A : List Nat} (h : alOkM md ops M A = true) (hA : ∀ x ∈ A, ∃ o, ops[x]? = some o ∧ isMk o = true) : Static md ops M A := by
  rw [alOkM, Bool.and_eq_true] at h
  obtain ⟨h0, h⟩ := h
  have h1 : ∀ x ∈ A, ∀ j, j < ops.size -> j ≠ x -> bneD (dstOf ops j) (dstOf ops x) = true ∧ (noLook ops j (dstOf ops x) = true ∨ needs M j x = true) ∧ (noLook ops x (dstOf ops j) = true ∨ needs M x j = true) ∧ (j ∈ A -> needs M j x = false) := fun x hx j hj hne => by
    have h2 := List.all_eq_true.1 (List.all_eq_true.1 h x hx) j (List.mem_range.2 hj)
    have h3 : Nat.beq j x = false := by
      cases hb : Nat.beq j x with
      | false => rfl
      | true => exact absurd (Nat.eq_of_beq_eq_true hb) hne
    simp only [h3, Bool.false_or, Bool.and_eq_true, Bool.or_eq_true] at h2
    refine ⟨h2.1, h2.2.1, h2.2.2.1, fun hja => ?_⟩
    have h4 := h2.2.2.2
    have h5 : A.contains j = true := by simpa using hja
    rw [h5, Bool.true_and] at h4
    simpa using h4
  exact ⟨fun x hx o ho e he hb hin => by
    have h2 := List.all_eq_true.1 h0 x hx
    rw [ho] at h2
    have h3 := List.all_eq_true.1 h2 e (by simpa using he)
    rw [hb] at h3
    simp at h3
    exact h3 hin, hA, fun x hx j hj hne => bneD_spec (h1 x hx j hj hne).1, fun x hx j hj hne => (h1 x hx j hj hne).2.1, fun x hx j hj hne => (h1 x hx j hj hne).2.2.1, fun x hx y hy hne hys => (h1 x hx y hys hne).2.2.2 hy⟩
theorem futM {cf : CallF} {md : Region.Mode} {ops : Array Oper} {M : List Nat} {A : List Nat} (hM : needOk md ops M = true) (hS : Static md ops M A) {j : Nat} (hjA : j ∈ A) {oj : Oper} (hoj : ops[j]? = some oj) : ∀ (is : List Nat) (pl : List (Nat × List Nat)) (E : List Nat) (V : List (Nat × Value)) (listed : Array Bool) (st st' : St),
    planQ md ops M A is E listed = some pl -> HeadInv md ops ops.size listed -> j ∈ Region.ready md ops listed -> opsR P cf ops.toList pl V st = some st' -> ∃ r, mkA P st.tmps oj = some r := by
  have hjs : j < ops.size := (Array.getElem?_eq_some_iff.1 hoj).1
  have hmk : isMk oj = true := by
    obtain ⟨o, h1, h2⟩ := hS.has j hjA
    rw [hoj] at h1; cases h1; exact h2
  intro is
  induction is with
  | nil =>
    intro pl E V listed st st' hp _ hr _
    exfalso
    unfold planQ at hp
    cases hdd : decide (Region.ready md ops listed = []) with
    | false => rw [hdd] at hp; cases hp
    | true => rw [of_decide_eq_true hdd] at hr; cases hr
  | cons i is ih =>
    intro pl E V listed st st' hp inv hr hs
    obtain ⟨o, es, pl', ho, rfl, hni, hcase⟩ := planQ_cons hp
    have his : i < ops.size := (Array.getElem?_eq_some_iff.1 ho).1
    have ho' : ops.toList[i]? = some o := by simpa using ho
    have hir : i ∈ Region.ready md ops listed := by
      rcases hcase with ⟨hf, _, _⟩ | ⟨_, ⟨_, hir⟩, _, _, _⟩
      · exact (floats_quiet hf).2.1
      · exact hir
    have hp' : ∃ E', planQ md ops M A is E' (listed.setIfInBounds i true) = some pl' := by
      rcases hcase with ⟨_, _, hp'⟩ | ⟨_, _, _, hp', _⟩
      · exact ⟨_, hp'⟩
      · exact ⟨_, hp'⟩
    obtain ⟨E', hp'⟩ := hp'
    simp only [opsR, ho'] at hs
    by_cases hij : i = j
    · subst hij
      have : o = oj := Option.some.inj (ho.symm.trans hoj)
      subst this
      rw [if_pos (show wantedL ops.toList st.tmps o = true by simp only [wantedL, (isMk_guard hmk).1])] at hs
      rw [step_eq1 (isMk_call hmk _ _) (isMk_nz hmk)] at hs
      simp only [step1_mk hmk] at hs
      cases hm : mkA P st.tmps o with
      | some r => exact ⟨r, rfl⟩
      | none => rw [hm] at hs; cases hs
    · have hnl : noLook ops j o.dst = true := by
        have hd : dstOf ops i = o.dst := by simp [dstOf, ho]
        rcases hS.inn j hjA i his hij with h | h
        · rwa [hd] at h
        · exfalso
          have h1 := (mem_ready.1 hir).1
          obtain ⟨_, oq, q2, q3⟩ := mem_ready.1 hr
          have := need_listed hM inv his j (fun o' ho' d hd hb => by
            have : o' = oq := Option.some.inj (ho'.symm.trans q2)
            subst this
            exact q3 d hd hb) h
          rw [getD_both h1] at this; cases this
      have hput : ∀ v, mkA P (putL st.tmps o.dst v) oj = mkA P st.tmps oj := fun v => mkA_put (noLook_spec hnl hoj)
      have hr2 := ready_mono hr (Ne.symm hij)
      have inv2 := inv.set hir his
      split at hs
      · split at hs
        · rename_i v H lo hst
          split at hs
          · obtain ⟨r, h⟩ := ih pl' E' _ _ _ _ hp' inv2 hr2 hs
            exact ⟨r, by rw [<- hput v]; exact h⟩
          · split at hs
            · obtain ⟨r, h⟩ := ih pl' E' _ _ _ _ hp' inv2 hr2 hs
              exact ⟨r, by rw [<- hput v]; exact h⟩
            · cases hs
        · cases hs
      · obtain ⟨r, h⟩ := ih pl' E' _ _ _ _ hp' inv2 hr2 hs
        exact ⟨r, by rw [<- hput undef]; exact h⟩
def DInv (P : Program) (B : Nat) (md : Region.Mode) (ops : Array Oper) (A : List Nat) (w0 : World) (ρ : Ren) (tm : Tm) (w : World) (listed : Array Bool) (D : List PE) : Prop :=
  (∀ p ∈ D, p.j ∈ A ∧ p.j ∈ Region.ready md ops listed ∧ (∃ o, ops[p.j]? = some o ∧ mkA P tm o = some (p.cs, p.t, p.k, p.len)) ∧ PendM P B p.cs p.t p.k p.len w0 ρ w p.e) ∧ D.Pairwise (fun p q => p.j ≠ q.j ∧ p.e.blk ≠ q.e.blk)
theorem DInv.next {P : Program} {B : Nat} {md : Region.Mode} {ops : Array Oper} {A : List Nat} {w0 : World} {ρ ρ' : Ren} {tm : Tm} {w w' : World} {listed : Array Bool} {D : List PE} {M : List Nat} {lo i : Nat} {o : Oper} {v : Value}
    (hM : needOk md ops M = true) (hS : Static md ops M A) (inv : HeadInv md ops ops.size listed) (ho : ops[i]? = some o) (hir : i ∈ Region.ready md ops listed) (hiD : ∀ p ∈ D, p.j ≠ i) (he : Ext B ρ ρ' lo w w')
    (h : DInv P B md ops A w0 ρ tm w listed D) : DInv P B md ops A w0 ρ' (putL tm o.dst v) w' (listed.setIfInBounds i true) D := by
  refine ⟨fun p hp => ?_, h.2⟩
  obtain ⟨h1, h2, ⟨oj, h3, h4⟩, h5⟩ := h.1 p hp
  have his : i < ops.size := (Array.getElem?_eq_some_iff.1 ho).1
  refine ⟨h1, ready_mono h2 (hiD p hp), ⟨oj, h3, ?_⟩, h5.step he (mkA_kind h4)⟩
  rw [mkA_put (ops := ops) ?_]
  · exact h4
  · have hd : dstOf ops i = o.dst := by simp [dstOf, ho]
    rcases hS.inn p.j h1 i his (Ne.symm (hiD p hp)) with h6 | h6
    · rw [hd] at h6; exact noLook_spec h6 h3
    · exfalso
      have h7 := (mem_ready.1 hir).1
      obtain ⟨_, oq, q2, q3⟩ := mem_ready.1 h2
      have := need_listed hM inv his p.j (fun o' ho' d hd hb => by
        have : o' = oq := Option.some.inj (ho'.symm.trans q2)
        subst this
        exact q3 d hd hb) h6
      rw [getD_both h7] at this; cases this
theorem lenM {md : Region.Mode} {ops : Array Oper} {M : List Nat} {A : List Nat} : ∀ (is : List Nat) (pl : List (Nat × List Nat)) (E : List Nat) (listed : Array Bool) (L : List Nat), planQ md ops M A is E listed = some pl -> L.Nodup -> (∀ x ∈ L, x ∈ Region.ready md ops listed) -> L.length <= is.length
  | [], pl, E, listed, L, hp, _, h => by
    unfold planQ at hp
    cases hdd : decide (Region.ready md ops listed = []) with
    | false => rw [hdd] at hp; cases hp
    | true =>
      have he := of_decide_eq_true hdd
      cases L with
      | nil => simp
      | cons x L => have := h x (by simp); rw [he] at this; cases this
  | i :: is, pl, E, listed, L, hp, hn, h => by
    obtain ⟨o, es, pl', ho, rfl, hni, hcase⟩ := planQ_cons hp
    have hp' : ∃ E', planQ md ops M A is E' (listed.setIfInBounds i true) = some pl' := by
      rcases hcase with ⟨_, _, hp'⟩ | ⟨_, _, _, hp', _⟩
      · exact ⟨_, hp'⟩
      · exact ⟨_, hp'⟩
    obtain ⟨E', hp'⟩ := hp'
    have h1 := lenM is pl' E' _ (L.erase i) hp' (hn.erase i) fun x hx => by
      have hx' := (hn.mem_erase_iff).1 hx
      exact ready_mono (h x hx'.2) hx'.1
    have h2 := List.length_erase (a := i) (l := L)
    rw [List.length_cons]
    split at h2 <;> omega
theorem filter_less {A : List Nat} {f g : Nat -> Bool} (h : ∀ x ∈ A, g x = true -> f x = true) {y : Nat} (hy : y ∈ A) (hf : f y = true) (hg : g y = false) : (A.filter g).length < (A.filter f).length := by
  induction A with
  | nil => cases hy
  | cons a A ih =>
    have hle : (A.filter g).length <= (A.filter f).length := by
      clear ih hy
      induction A with
      | nil => exact Nat.le_refl _
      | cons b A ih2 =>
        have h2 := ih2 fun x hx => h x (by
          rcases List.mem_cons.1 hx with rfl | hx
          · simp
          · simp [hx])
        have hb := h b (by simp)
        rw [List.filter_cons, List.filter_cons]
        cases hgb : g b with
        | true => rw [hb hgb]; simpa using h2
        | false =>
          cases hfb : f b with
          | true => simp; omega
          | false => simpa using h2
    rw [List.filter_cons, List.filter_cons]
    rcases List.mem_cons.1 hy with rfl | hy
    · rw [hf, hg]; simp; omega
    · have h3 := ih (fun x hx => h x (by simp [hx])) hy
      cases hga : g a with
      | true => rw [h a (by simp) hga]; simpa using h3
      | false =>
        cases hfa : f a with
        | true => simp; omega
        | false => simpa using h3
theorem opsM_sound {cf : CallF} (hcf : CallOK P B cf) {ρ0 : Ren} {w0 : World} {mb n : Nat} (ops : Array Oper) (hd : ∀ (i : Nat) (o : Oper), ops[i]? = some o -> dstOk n o = true) (hnd : ∀ (i : Nat) (o : Oper), ops[i]? = some o -> noDefer o) (hsel : ∀ (j : Nat) (o : Oper) cs b, ops[j]? = some o -> o.op ≠ .select cs b) {md : Region.Mode} {M : List Nat} (hM : needOk md ops M = true)
    {A : List Nat} (hS : Static md ops M A) (r : Option Nat) (kf : Nat) (Q : Exit -> Act -> World -> Prop) (st' : St) (hQ : ∀ ρ' a' w', RS P B ρ0 w0 mb n ρ' st' a' w' -> Q .normal a' w') : ∀ (is : List Nat) (m : Nat)
    (pl : List (Nat × List Nat)) (E V : List (Nat × Value)) (listed : Array Bool) (D : List PE) (st : St) (ρ : Ren) (a : Act) (w : World), (A.filter fun x => !((D.map (·.j)).contains x)).length = m -> planQ md ops M A is (E.map (·.1)) listed = some pl -> HeadInv md ops ops.size listed -> (∀ p ∈ E, listed.getD p.1 false = true) -> RS P B ρ0 w0 mb n ρ st a w -> Strong P (Fr r) kf ops M ρ V E listed a w ->
      DInv P B md ops A w0 ρ st.tmps w listed D -> opsR P cf ops.toList pl V st = some st' -> D.length <= is.length ∧ wpAnyE (Fr r) kf P md ops (onlyN Q) M E (is.length - D.length) (setD listed D) (putsD ops a D) w := by
  intro is
  induction is with
  | nil =>
    intro m pl E V listed D st ρ a w _ hp _ _ h _ hD hs
    unfold planQ at hp
    cases hdd : decide (Region.ready md ops listed = []) with
    | false => rw [hdd] at hp; cases hp
    | true =>
      rw [hdd] at hp
      cases hp
      have he := of_decide_eq_true hdd
      cases D with
      | cons p D =>
        have := (hD.1 p (by simp)).2.1
        rw [he] at this; cases this
      | nil =>
        simp only [opsR, Option.some.injEq] at hs
        subst hs
        exact ⟨Nat.le_refl _, he, hQ ρ a w h⟩
  | cons i is ih =>
    intro m
    induction m using Nat.strongRecOn with
    | _ m ihm =>
    intro pl E V listed D st ρ a w hm hp inv hE h hSt hD hs
    have hp0 := hp
    have hs0 := hs
    obtain ⟨o, es, pl', ho, rfl, hni, hcase⟩ := planQ_cons hp
    have his : i < ops.size := (Array.getElem?_eq_some_iff.1 ho).1
    have hns := fun cs b => hsel i o cs b ho
    have hdi : dstOf ops i = o.dst := by simp [dstOf, ho]
    have mem_fst : ∀ p ∈ E, liveB ops M (listed.setIfInBounds i true) p.1 = true -> p.1 ∈ (E.map (·.1)).filter (liveB ops M (listed.setIfInBounds i true)) := fun p hp hl => List.mem_filter.2 ⟨List.mem_map_of_mem hp, hl⟩
    have hir : i ∈ Region.ready md ops listed := by
      rcases hcase with ⟨hf, _, _⟩ | ⟨_, ⟨_, hir⟩, _, _, _⟩
      · exact (floats_quiet hf).2.1
      · exact hir
    have hiu := (mem_ready.1 hir).1
    have hDs : ∀ p ∈ D, p.j < ops.size := fun p hp => by
      obtain ⟨o', ho', _⟩ := (hD.1 p hp).2.2.1
      exact (Array.getElem?_eq_some_iff.1 ho').1
    have invD : HeadInv md ops ops.size (setD listed D) := headInv_setD D listed inv (fun p hp => ⟨(hD.1 p hp).2.1, hDs p hp⟩) (hD.2.imp fun h => h.1)
    -- what is listed does not look at what is not told
    have hnlE : ∀ p ∈ E, ∀ d ∈ D, noLook ops p.1 (dstOf ops d.j) = true := fun p hp d hdD => by
      have hpl := hE p hp
      have hdu := (mem_ready.1 (hD.1 d hdD).2.1).1
      have hpj : p.1 ≠ d.j := fun e => by rw [e, getD_both hdu] at hpl; cases hpl
      have hsz : p.1 < ops.size := by
        rw [<- inv.size]
        rcases Nat.lt_or_ge p.1 listed.size with h1 | h1
        · exact h1
        · simp [Array.getElem?_eq_none h1] at hpl
      rcases hS.out d.j (hD.1 d hdD).1 p.1 hsz hpj with h2 | h2
      · exact h2
      · have := need_listed hM inv (hDs d hdD) p.1 (fun o ho d hd hb => inv.closed p.1 o ho hpl d hd hb) h2
        rw [getD_both hdu] at this; cases this
    -- nor what is ready
    have hnlr : ∀ x, x ∈ Region.ready md ops listed -> x < ops.size -> ∀ d ∈ D, d.j ≠ x -> noLook ops x (dstOf ops d.j) = true := fun x hx hxs d hdD hne => by
      have hdu := (mem_ready.1 (hD.1 d hdD).2.1).1
      rcases hS.out d.j (hD.1 d hdD).1 x hxs (Ne.symm hne) with h2 | h2
      · exact h2
      · obtain ⟨_, oq, q2, q3⟩ := mem_ready.1 hx
        have := need_listed hM inv (hDs d hdD) x (fun o' ho' d hd hb => by
          have : o' = oq := Option.some.inj (ho'.symm.trans q2)
          subst this
          exact q3 d hd hb) h2
        rw [getD_both hdu] at this; cases this
    have hset2 : (listed.setIfInBounds i true).getD i false = true := by
      have hsz := inv.size
      simp [Array.getD_eq_getD_getElem?, hsz, his]
    rcases hcase with ⟨hf, hlk, hp'⟩ | ⟨hf, ⟨hr, _⟩, hlk, hp', hes⟩
    · -- it may come at any time
      obtain ⟨hq, _, hfree⟩ := floats_quiet hf
      have hqo : quietN o = true := by simpa [quietI, ho] using hq
      have hiD : ∀ p ∈ D, p.j ≠ i := fun p hp e => by
        obtain ⟨o', ho', hmk⟩ := hS.has p.j (hD.1 p hp).1
        rw [e, ho] at ho'; cases ho'
        rw [isMk_quiet hmk] at hqo; cases hqo
      have hlk1 : ∀ p ∈ E, liveB ops M (listed.setIfInBounds i true) p.1 = true -> noLook ops p.1 o.dst = true := fun p hp hl => hlk p.1 (List.mem_cons_of_mem _ (mem_fst p hp hl))
      obtain ⟨v, v', st2, hy, hb, hst2⟩ := stepR_q (n := n) (cf := cf) ops hd hsel r kf ho hqo hni hlk1 h hSt hs
      have hD2 : DInv P B md ops A w0 ρ st2.tmps w (listed.setIfInBounds i true) D := by
        rw [hb.tmps]; exact hD.next hM hS inv ho hir hiD (Ext.refl B ρ 0 w)
      obtain ⟨hlen, hK⟩ := ih m pl' ((i, v') :: E) _ _ D st2 ρ _ w hm hp' (inv.set hir his) (fun p hp => by
        rcases List.mem_cons.1 hp with rfl | hp
        · exact hset2
        · exact getD_set_true (hE p hp)) hb.rs (hst2 (hlk i (by simp))) hD2 hb.run
      refine ⟨Nat.le_succ_of_le hlen, ?_⟩
      rw [List.length_cons, show is.length + 1 - D.length = (is.length - D.length) + 1 by omega]
      rw [setD_set, putsD_put ops D a o.dst v' (fun p hp x hx => hS.ne p.j (hD.1 p hp).1 i his (Ne.symm (hiD p hp)) x (by rw [hdi]; exact hx))] at hK
      refine wpAnyE_first ho hnd hsel hM hq _ (setD listed D) (putsD ops a D) w invD (fun p hp hl => ?_) (fun j oj hj hji hun hno => Region.free_spec ho hfree j oj hj hji (setD_un D listed j hun).1 hno) (ready_setD D listed i hir hiD) ?_ hK
      · have hl2 := live_quiet hq (live_less (fun j hj => setD_true D listed j hj) hl)
        rcases List.mem_cons.1 hp with rfl | hp
        · exact hlk i (by simp)
        · exact hlk1 p hp hl2
      · refine yl_puts (listed := listed) hsel (fun j hj => setD_true D listed j hj) D a (fun p hp d hdD => ?_) fun p hp hl => ?_
        · rcases List.mem_cons.1 hp with rfl | hp
          · exact hnlr i hir his d hdD (hiD d hdD)
          · exact hnlE p hp d hdD
        · rcases List.mem_cons.1 hp with rfl | hp
          · exact ⟨o, ho, hy⟩
          · exact hSt.yl p hp hl
    · have hlk1 : ∀ p ∈ E, liveB ops M (listed.setIfInBounds i true) p.1 = true -> noLook ops p.1 o.dst = true := fun p hp hl => hlk p.1 (mem_fst p hp hl)
      by_cases hin : ∃ p ∈ D, p.j = i
      · -- it is made already, and told now
        obtain ⟨p, hpD, rfl⟩ := hin
        obtain ⟨D1, D2, rfl⟩ := List.append_of_mem hpD
        obtain ⟨hpA, _, ⟨oj, hoj, hmA⟩, hpd⟩ := hD.1 p hpD
        have : oj = o := Option.some.inj (hoj.symm.trans ho)
        subst this
        have hmk : isMk oj = true := by
          obtain ⟨o', h1, h2⟩ := hS.has p.j hpA
          rw [hoj] at h1; cases h1; exact h2
        have hk := mkA_kind hmA
        have hmid := List.pairwise_append.1 hD.2
        have hcons := List.pairwise_cons.1 hmid.2.1
        have hne : ∀ q ∈ D1 ++ D2, q.j ≠ p.j ∧ q.e.blk ≠ p.e.blk := fun q hq => by
          rcases List.mem_append.1 hq with hq | hq
          · exact hmid.2.2 q hq p (by simp)
          · have := hcons.1 q hq; exact ⟨Ne.symm this.1, Ne.symm this.2⟩
        have hDm : ∀ q ∈ D1 ++ D2, q ∈ D1 ++ p :: D2 := fun q hq => by
          rcases List.mem_append.1 hq with hq | hq
          · exact List.mem_append_left _ hq
          · exact List.mem_append_right _ (by simp [hq])
        have ho' : ops.toList[p.j]? = some oj := by simpa using ho
        simp only [opsR, ho'] at hs
        rw [if_pos (show wantedL ops.toList st.tmps oj = true by simp only [wantedL, (isMk_guard hmk).1])] at hs
        rw [step_eq1 (isMk_call hmk _ _) (isMk_nz hmk)] at hs
        simp only [step1_mk hmk, hmA] at hs
        rw [if_pos (Nat.le_refl _)] at hs
        obtain ⟨g1, g2, ⟨cur, g3⟩, g4⟩ := hpd.done hk h.hr h.ext
        have hle := h.hr.le_add p.e
        have hR2 : RS P B ρ0 w0 mb n (Ren.add ρ st.heap.n p.e) ⟨putL st.tmps oj.dst (mkV p.k p.len st.heap.n), anew st.heap p.cs p.t p.k, min st.lo st.heap.n⟩ (a.put oj.dst (mkC p.k p.len p.e.blk)) w := by
          refine ⟨g1, (h.fr.mono hle).put (by rw [h.size]; exact hd p.j oj ho) g4, by rw [put_size]; exact h.size, g2.lower (Nat.min_le_left _ _), ?_⟩
          rw [put_defers]
          obtain ⟨rs, m1, m2, m3⟩ := h.marks
          refine ⟨rs, m1, m2, fun q hq => ?_⟩
          obtain ⟨m4, m5, m6⟩ := m3 q hq
          refine ⟨m4, m5, fun b x hx => ?_⟩
          by_cases hbn : b = st.heap.n
          · subst hbn
            rw [Ren.add_eq] at hx; cases hx
            intro hh
            rw [hh, m5] at g3
            cases g3
          · rw [Ren.add_ne _ _ hbn] at hx; exact m6 b x hx
        have hS2 : Strong P (Fr r) kf ops M (Ren.add ρ st.heap.n p.e) ((p.j, mkV p.k p.len st.heap.n) :: V) E (listed.setIfInBounds p.j true) (a.put oj.dst (mkC p.k p.len p.e.blk)) w :=
          hSt.step hsel (fun j hj => getD_set_true hj) hlk1 hni hle (Below.refl _ _)
        have hD2 : DInv P B md ops A w0 (Ren.add ρ st.heap.n p.e) (putL st.tmps oj.dst (mkV p.k p.len st.heap.n)) w (listed.setIfInBounds p.j true) (D1 ++ D2) := by
          refine ⟨fun q hq => ?_, ?_⟩
          · obtain ⟨q1, q2, ⟨oq, q3, q4⟩, q5⟩ := hD.1 q (hDm q hq)
            have hqp := hne q hq
            refine ⟨q1, ready_mono q2 hqp.1, ⟨oq, q3, ?_⟩, ?_⟩
            · rw [mkA_put (ops := ops) ?_]
              · exact q4
              · rcases hS.inn q.j q1 p.j his (Ne.symm hqp.1) with h6 | h6
                · rw [hdi] at h6; exact noLook_spec h6 q3
                · rw [hS.apart p.j hpA q.j q1 hqp.1 (hDs q (hDm q hq))] at h6; cases h6
            · obtain ⟨e1, e2, e3, e4, e5⟩ := q5
              refine ⟨e1, e2, e3.mono hle rfl, fun b x hx => ?_, e5⟩
              by_cases hbn : b = st.heap.n
              · subst hbn; rw [Ren.add_eq] at hx; cases hx; exact Ne.symm hqp.2
              · rw [Ren.add_ne _ _ hbn] at hx; exact e4 b x hx
          · exact List.pairwise_append.2 ⟨hmid.1, hcons.2, fun x hx y hy => hmid.2.2 x hx y (by simp [hy])⟩
        obtain ⟨hlen, hK⟩ := ih _ pl' E _ _ (D1 ++ D2) _ _ _ w rfl hp' (inv.set hir his) (fun q hq => getD_set_true (hE q hq)) hR2 hS2 hD2 hs
        have hl1 : (D1 ++ p :: D2).length = (D1 ++ D2).length + 1 := by simp; omega
        refine ⟨by rw [hl1, List.length_cons]; omega, ?_⟩
        rw [hl1, List.length_cons, Nat.add_sub_add_right, setD_mid, putsD_mid ops D1 D2 a p (fun q hq x hx => ?_), hdi]
        · exact hK
        · exact hS.ne q.j (hD.1 q (hDm q (List.mem_append_left _ hq))).1 p.j his (Ne.symm (hne q (List.mem_append_left _ hq)).1) x hx
      · have hiD : ∀ p ∈ D, p.j ≠ i := fun p hp e => hin ⟨p, hp, e⟩
        have hirD := ready_setD D listed i hir hiD
        have hlenD : D.length <= is.length := by
          have := lenM is _ _ (listed.setIfInBounds i true) (D.map (·.j)) hp' (List.pairwise_map.2 (hD.2.imp fun h => h.1)) (fun x hx => by
            obtain ⟨p, hp, rfl⟩ := List.mem_map.1 hx
            exact ready_mono (hD.1 p hp).2.1 (hiD p hp))
          simpa using this
        have next : ∀ (v v' : Value) (st2 : St) (ρ2 : Ren) (w' : World), Behind P B (Fr r) kf cf ρ0 w0 mb n ops M pl' st' E (listed.setIfInBounds i true) i o ρ w V st v v' st2 ρ2 (a.put o.dst v') w' ->
            D.length <= is.length ∧ (YlE (Fr r) kf P ops M E (setD (listed.setIfInBounds i true) D) (putsD ops (a.put o.dst v') D) w' ∧ wpAnyE (Fr r) kf P md ops (onlyN Q) M E (is.length - D.length) (setD (listed.setIfInBounds i true) D) (putsD ops (a.put o.dst v') D) w') := fun v v' st2 ρ2 w' hb => by
          obtain ⟨lo, he⟩ := hb.ext
          have hD2 : DInv P B md ops A w0 ρ2 st2.tmps w' (listed.setIfInBounds i true) D := by
            rw [hb.tmps]; exact hD.next hM hS inv ho hir hiD he
          obtain ⟨hlen, hK⟩ := ih m pl' E _ _ D st2 ρ2 _ w' hm hp' (inv.set hir his) (fun p hp => getD_set_true (hE p hp)) hb.rs hb.strong hD2 hb.run
          exact ⟨hlen, yl_puts hsel (fun j hj => setD_true D _ j hj) D _ hnlE hb.strong.yl, hK⟩
        have hcond : ∀ p ∈ D, (∀ x, dstOf ops p.j = some x -> x ∉ o.looksAt ops) ∧ ∀ x, dstOf ops p.j = some x -> o.dst ≠ some x := fun p hp =>
          ⟨noLook_spec (hnlr i hir his p hp (hiD p hp)) ho, fun x hx hxo => hS.ne p.j (hD.1 p hp).1 i his (Ne.symm (hiD p hp)) x (by rw [hdi]; exact hxo) hx⟩
        have now : D.length <= is.length ∧ wpOpIn (Fr r) kf P ops (onlyN Q) i (fun a' w' => YlE (Fr r) kf P ops M E ((setD listed D).setIfInBounds i true) a' w' ∧ wpAnyE (Fr r) kf P md ops (onlyN Q) M E (is.length - D.length) ((setD listed D).setIfInBounds i true) a' w') (putsD ops a D) w := by
          rw [<- setD_set]
          by_cases hqo : quietN o = true
          · obtain ⟨v, v', st2, hy, hb, _⟩ := stepR_q (n := n) (cf := cf) ops hd hsel r kf ho hqo hni hlk1 h hSt hs
            have hN := next v v' st2 ρ w hb
            exact ⟨hN.1, wpOpIn_puts ho (hnd i o ho) hns D a hcond (YieldsQuiet.wpOpIn (C := fun _ => True) (hnd i o ho) ho hy hN.2)⟩
          · have hqi : quietI ops i = false := by simpa [quietI, ho] using hqo
            have hst := stepR_nq hcf ops hd hsel r kf (onlyN Q) ho hni hlk1 (hes hqi) h hSt hs
            refine ⟨?_, wpOpIn_puts ho (hnd i o ho) hns D a hcond (wpOpIn_mono (fun a' w' ⟨v, v', st2, ρ2, ha', hb⟩ => by subst ha'; exact (next v v' st2 ρ2 w' hb).2) hst)⟩
            exact hlenD
        refine ⟨Nat.le_succ_of_le now.1, ?_⟩
        rw [List.length_cons, show is.length + 1 - D.length = (is.length - D.length) + 1 by have := now.1; omega]
        refine ⟨fun h0 => (by rw [h0] at hirD; cases hirD), fun j hj => ?_⟩
        by_cases hji : j = i
        · subst hji; exact now.2
        obtain ⟨hju, hjD⟩ := setD_un D listed j (mem_ready.1 hj).1
        by_cases hjA : j ∈ A
        · -- it is made now, and told later
          obtain ⟨oj, hoj, hmk⟩ := hS.has j hjA
          have hjs : j < ops.size := (Array.getElem?_eq_some_iff.1 hoj).1
          have hjr : j ∈ Region.ready md ops listed := by
            refine mem_ready.2 ⟨hju, oj, hoj, fun e he hb => ?_⟩
            obtain ⟨_, oq, q2, q3⟩ := mem_ready.1 hj
            have : oq = oj := Option.some.inj (q2.symm.trans hoj)
            subst this
            rcases setD_got D listed e.on (q3 e he hb) with h1 | ⟨p, hp, h1⟩
            · exact h1
            · exact absurd (h1 ▸ (hD.1 p hp).1) (hS.edge j hjA oq hoj e he hb)
          obtain ⟨⟨cs, t, k, len⟩, hmA⟩ := futM hM hS hjA hoj (i :: is) _ _ _ _ _ _ hp0 inv hjr hs0
          obtain ⟨e, w', hrun, hbel, he1, he2, hor, he3, he4⟩ := mk_now hmk h.hr h.fr hmA
          have hpd : PendM P B cs t k len w0 ρ w' e := ⟨by rw [he1]; exact h.ext.size, he2, hor, fun b x hx => by have := h.hr.top b x hx; omega, he3, he4⟩
          have hext := Ext.of_below (B := B) (ρ := ρ) 0 hbel
          have hD2 : DInv P B md ops A w0 ρ st.tmps w' listed (⟨j, e, cs, t, k, len⟩ :: D) := by
            refine ⟨fun q hq => ?_, List.pairwise_cons.2 ⟨fun q hq => ⟨Ne.symm (hjD q hq), ?_⟩, hD.2⟩⟩
            · rcases List.mem_cons.1 hq with rfl | hq
              · exact ⟨hjA, hjr, ⟨oj, hoj, hmA⟩, hpd⟩
              · obtain ⟨q1, q2, ⟨oq, q3, q4⟩, q5⟩ := hD.1 q hq
                exact ⟨q1, q2, ⟨oq, q3, q4⟩, q5.step hext (mkA_kind q4)⟩
            · have := (hD.1 q hq).2.2.2.2.1
              show e.blk ≠ q.e.blk
              omega
          have hS2 : Strong P (Fr r) kf ops M ρ V E listed a w' := fun p hp hl => by
            obtain ⟨op, hop, h1⟩ := hSt p hp hl
            refine ⟨op, hop, ?_⟩
            rcases h1 with ⟨h1, h2⟩ | ⟨h1, h2, v0, h3, h4⟩
            · exact .inl ⟨h1, h2⟩
            · exact .inr ⟨h1, h2.later hbel, v0, h3, h4⟩
          have hless : (A.filter fun x => !(((⟨j, e, cs, t, k, len⟩ :: D : List PE).map (·.j)).contains x)).length < m := by
            rw [<- hm]
            refine filter_less (y := j) (fun x hx hg => ?_) hjA ?_ ?_
            · simp only [List.map_cons, List.contains_cons, Bool.not_or, Bool.and_eq_true] at hg
              exact hg.2
            · simp only [Bool.not_eq_true', List.contains_eq_mem, decide_eq_false_iff_not, List.mem_map, not_exists, not_and]
              exact fun q hq => hjD q hq
            · simp
          obtain ⟨hlen, hK⟩ := ihm _ hless _ E V listed (⟨j, e, cs, t, k, len⟩ :: D) st ρ a w' rfl hp0 inv hE (h.below hbel) hS2 hD2 hs0
          have hdj : dstOf ops j = oj.dst := by simp [dstOf, hoj]
          unfold wpOpIn
          simp only [hoj]
          rw [if_pos (show Region.wanted oj (yielded ops (putsD ops a D).tmps) = true by simp [Region.wanted, (isMk_guard hmk).1])]
          have hlk3 : ∀ p ∈ D, ∀ x, dstOf ops p.j = some x -> x ∉ oj.looksAt ops := fun p hp => noLook_spec (hnlr j hjr hjs p hp (hjD p hp)) hoj
          refine ⟨fun f hf => ?_, ?_⟩
          · trivial
          rw [semAt_of (hnd j oj hoj), execOp_puts (fun cs b => hsel j oj cs b hoj) D a hlk3, hrun]
          have hput : putsD ops a (⟨j, e, cs, t, k, len⟩ :: D) = (putsD ops a D).put oj.dst (mkC k len e.blk) := by
            rw [putsD, hdj]
            exact putsD_put ops D a oj.dst _ fun p hp x hx => hS.ne p.j (hD.1 p hp).1 j hjs (Ne.symm (hjD p hp)) x (by rw [hdj]; exact hx)
          have hset : setD listed (⟨j, e, cs, t, k, len⟩ :: D) = (setD listed D).setIfInBounds j true := by rw [setD, setD_set]
          rw [hput, hset, List.length_cons, List.length_cons, Nat.add_sub_add_right] at hK
          refine ⟨?_, hK⟩
          rw [<- hput, <- hset]
          exact yl_puts hsel (fun x hx => setD_true _ _ x hx) _ a (fun p hp d hdD => by
            rcases List.mem_cons.1 hdD with rfl | hdD
            · have hpl := hE p hp
              have hpj : p.1 ≠ j := fun e => by rw [e, getD_both hju] at hpl; cases hpl
              have hsz : p.1 < ops.size := by
                rw [<- inv.size]
                rcases Nat.lt_or_ge p.1 listed.size with h1 | h1
                · exact h1
                · simp [Array.getElem?_eq_none h1] at hpl
              rcases hS.out j hjA p.1 hsz hpj with h2 | h2
              · exact h2
              · have := need_listed hM inv hjs p.1 (fun o ho d hd hb => inv.closed p.1 o ho hpl d hd hb) h2
                rw [getD_both hju] at this; cases this
            · exact hnlE p hp d hdD) hS2.yl
        · exfalso
          have : j ∈ Region.ready md ops (lxM A i listed) := by
            obtain ⟨_, oj, hoj, hall⟩ := mem_ready.1 hj
            refine mem_ready.2 ⟨by rw [lxM_out A i listed j hjA]; exact hju, oj, hoj, fun e he hb => ?_⟩
            rcases setD_got D listed e.on (hall e he hb) with h1 | ⟨p, hp, h1⟩
            · exact lxM_true A i listed _ h1
            · rw [<- h1]
              exact lxM_in A i listed p.j (hD.1 p hp).1 (hiD p hp) (by rw [inv.size]; exact hDs p hp)
          rw [hr] at this
          exact hji (by simpa using this)
theorem mkSet_has {ops : Array Oper} : ∀ x ∈ mkSet ops.toList, ∃ o, ops[x]? = some o ∧ isMk o = true := fun x hx => by
  have h := (List.mem_filter.1 (List.mem_filter.1 hx).1).2
  cases ho : ops.toList[x]? with
  | none => rw [ho] at h; cases h
  | some o => rw [ho] at h; exact ⟨o, by simpa using ho, h⟩
theorem mX_sound {cf : CallF} (hcf : CallOK P B cf) {ρ0 ρ : Ren} {w0 w : World} {mb n : Nat} (ops : Array Oper) (hd : ∀ (i : Nat) (o : Oper), ops[i]? = some o -> dstOk n o = true) {st st' : St} {a : Act} (r : Option Nat) (kf : Nat) (Q : Exit -> Act -> World -> Prop) {id : Nat} (hm : P.follows .mixedOrders = true)
    (hQ : ∀ ρ' a' w', RS P B ρ0 w0 mb n ρ' st' a' w' -> Q .normal a' w') (h : RS P B ρ0 w0 mb n ρ st a { w with drawn := w.drawn + 1 }) (hs : mX P cf ops.toList st = some st') : (Code.region id ops true).wpIn (Fr r) kf P Q a w := by
  unfold mX at hs
  rw [show ops.toList.toArray = ops from Array.toArray_toList ..] at hs
  split at hs
  · rename_i pl hp
    unfold planM at hp
    generalize hM : needM .any ops.toList [] = M at hp
    generalize hi : greedy ops M (mkSet ops.toList) ops.size [] (Array.replicate ops.size false) = is at hp
    cases hc : (needOk .any ops M && (alOkM .any ops M (mkSet ops.toList) && (ops.toList.all notDefer && (Region.noSelect ops && Nat.beq is.length ops.size)))) with
    | false => rw [hc] at hp; cases hp
    | true =>
      rw [hc, cond_true] at hp
      simp only [Bool.and_eq_true] at hc
      obtain ⟨c1, c2, c3, c4, c5⟩ := hc
      have hnd : ∀ (i : Nat) (o : Oper), ops[i]? = some o -> noDefer o := fun i o ho c hc => by
        have : ops.toList[i]? = some o := by simpa using ho
        have := List.all_eq_true.1 c3 o (List.mem_of_getElem? this)
        simp [notDefer, hc] at this
      have inv0 : HeadInv .any ops ops.size (Array.replicate ops.size false) :=
        ⟨by simp, fun j oj _ hl => (by rw [getD_replicate_false] at hl; cases hl), fun t ht ht2 => by omega⟩
      have hK := (opsM_sound hcf ops hd hnd (Region.noSelect_spec c4) c1 (alOkM_spec c2 mkSet_has) r kf Q st' hQ is _ pl [] [] _ [] st ρ a _ rfl hp inv0 (fun p hp => by cases hp) h (fun p hp => by cases hp) ⟨(fun p hp => by cases hp), List.Pairwise.nil⟩ hs).2
      have hK2 := wpAnyE_any _ _ _ _ hK
      rw [List.length_nil, Nat.sub_zero, Nat.eq_of_beq_eq_true c5] at hK2
      exact wpIn_mono (wpIn_region_any (Q := onlyN Q) hm hK2) onlyN_mono
  · cases hs
end
end Go.AI
namespace Go.AI
open Go.RowKit
section
variable {P : Program} {B : Nat}
theorem take_takeWhile {α : Type} (p : α -> Bool) : ∀ (l : List α) (x : α), x ∈ l.take (l.takeWhile p).length -> p x = true
  | [], x, h => by simp at h
  | y :: l, x, h => by
    by_cases hp : p y = true
    · rw [List.takeWhile_cons_of_pos hp] at h
      simp only [List.length_cons, List.take_succ_cons, List.mem_cons] at h
      rcases h with rfl | h
      · exact hp
      · exact take_takeWhile p l x h
    · rw [List.takeWhile_cons_of_neg hp] at h
      simp at h
theorem stepR_scope {b : Frame} {a : Act} {k : List Item} {cs : List Frame} {w : World} {c : Code} : Go.step P (lone (b.atR a (.code (.scope c) :: k)) cs w) = .next (lone (b.atR a (.code c :: .inScope c :: k)) cs w) :=
  step_lone_go (by simp [stepG, stepG.exec, Frame.atR])
theorem stepR_inScope {b : Frame} {a : Act} {k : List Item} {cs : List Frame} {w : World} {c : Code} : Go.step P (lone (b.atR a (.inScope c :: k)) cs w) = .next (lone (b.atR a k) cs w) :=
  step_lone_go (by simp [stepG, stepG.exec, Frame.atR])
theorem wpIn_scope {F : Fence} {n : Nat} {Q : Exit -> Act -> World -> Prop} {a : Act} {w : World} {c : Code} (h : c.wpIn F n P (Exit.noGoto Q) a w) : (Code.scope c).wpIn F n P Q a w := by
  intro b k cs hro hb hr
  have h0 : (lone (b.atR a (.code (.scope c) :: k)) cs w).fenced P F := fenced_calm hb hr rfl
  obtain ⟨e, a₁, w₁, hq, harr⟩ := h b (.inScope c :: k) cs hro hb hr
  cases e with
  | normal => exact ⟨.normal, a₁, w₁, hq, .head h0 stepR_scope (StepsIn.trans harr (.one (fenced_calm hb hr rfl) stepR_inScope))⟩
  | exit id =>
    have hx : exitTo id (.inScope c :: k) = exitTo id k := by simp [exitTo]
    exact ⟨.exit id, a₁, w₁, hq, fun k' hk => .head h0 stepR_scope (harr.1 k' (by rw [hx]; exact hk)),
      fun hr' hk => let ⟨k₁, h1, h2⟩ := harr.2 hr' (by rw [hx]; exact hk); ⟨k₁, h1, .head h0 stepR_scope h2⟩⟩
  | goto l => exact hq.elim
  | ret => exact ⟨_, a₁, w₁, hq, .of_steps (.one h0 stepR_scope) harr⟩
  | panic ch => exact ⟨_, a₁, w₁, hq, .of_steps (.one h0 stepR_scope) harr⟩
  | outgrown => exact ⟨_, a₁, w₁, hq, .of_steps (.one h0 stepR_scope) harr⟩
theorem loopEnd_spec {l : Nat} {tm : Tm} {lo : Nat} {H : Heap} {e : Exit} {st' : St} (h : loopEnd l tm lo H = some (e, st')) :
    ∃ s pend tm' ps a b, H.get l = some (.loop s pend tm' ps a b) ∧ s ≠ .busy ∧ jumpOf pend = some e ∧ st' = ⟨tm, H.set l (.loop .exhausted pend tm' ps a b), lo⟩ := by
  unfold loopEnd at h
  split at h
  · rename_i s pend tm' ps a b hg
    split at h
    · rename_i hs
      split at h
      · rename_i e' hj
        cases h
        exact ⟨s, pend, tm', ps, a, b, hg, fun hh => by subst hh; simp [notBusy] at hs, hj, rfl⟩
      · cases h
    · cases h
  · cases h
theorem HR.putLoop {ρ : Ren} {H : Heap} {w : World} (h : HR P B ρ H w) {b : Nat} {s s' : LoopState} {pend pend' : Option Code} {tm : Tm} {ps : Array Tmp} {x y : Code} {e : Ent} (hg : H.get b = some (.loop s pend tm ps x y)) (hρ : ρ b = some e) :
    ∃ r : Loop, w.heap[e.blk]? = some (.loop r) ∧ (r.state = s ∧ r.pending = pend ∧ r.params = ps ∧ r.assign = x ∧ r.body = y) ∧
      HR P B ρ (H.set b (.loop s' pend' tm ps x y)) (w.putObj e.blk (.loop { r with state := s', pending := pend' })) ∧ Ext B ρ ρ b w (w.putObj e.blk (.loop { r with state := s', pending := pend' })) := by
  obtain ⟨hB, r, hr, ⟨h1, h2, h3, h4, h5⟩, h6, h7, h8, h9⟩ := h.obj b _ e hg hρ
  have hlt := (Array.getElem?_eq_some_iff.1 hr).1
  refine ⟨r, hr, ⟨h1, h2, h3, h4, h5⟩, h.write hg hρ rfl hB rfl rfl rfl World.putObj_size (fun k hk => World.putObj_heap_other hk) ⟨hB, _, World.putObj_heap_same hlt, ⟨rfl, rfl, h3, h4, h5⟩, h6, h7, h8, h9⟩ (fun _ => ⟨_, World.putObj_heap_same hlt⟩)⟩
theorem exec_sound {cf : CallF} (hcf : CallOK P B cf) (hm : P.follows .mixedOrders = true) {mb n : Nat} {ρ0 : Ren} {w0 : World} (r : Option Nat) (hlr : ∀ l0, r = some l0 -> ∃ lp : Loop, w0.heap[l0]? = some (Obj.loop lp)) (hmb : mb <= w0.heap.size) (m : Nat) : ∀ (k : Nat) (c : Code) (st : St) (e : Exit) (st' : St), exec P cf k c st = some (e, st') -> codeOk n c = true ->
    ∀ (ρ : Ren) (a : Act) (w : World), RS P B ρ0 w0 mb n ρ st a w -> ∀ (Q : Exit -> Act -> World -> Prop), (∀ ρ' a' w', RS P B ρ0 w0 mb n ρ' st' a' w' -> Q e a' w') -> c.wpIn (Fr r) m P Q a w := by
  intro k
  induction k using Nat.strongRecOn with
  | _ k0 ih0 =>
    cases k0 with
    | zero => intro c st e st' h; simp [exec] at h
    | succ k =>
    have ih := ih0 k (Nat.lt_succ_self k)
    intro c st e st' h hok ρ a w hR Q hQ
    cases c with
    | skip => simp only [exec, Option.some.injEq, Prod.mk.injEq] at h; obtain ⟨rfl, rfl⟩ := h; exact wpIn_skip (hQ _ _ _ hR)
    | label l => simp only [exec, Option.some.injEq, Prod.mk.injEq] at h; obtain ⟨rfl, rfl⟩ := h; exact wpIn_label (hQ _ _ _ hR)
    | exit id => simp only [exec, Option.some.injEq, Prod.mk.injEq] at h; obtain ⟨rfl, rfl⟩ := h; exact wpIn_exit (hQ _ _ _ hR)
    | ret => simp only [exec, Option.some.injEq, Prod.mk.injEq] at h; obtain ⟨rfl, rfl⟩ := h; exact wpIn_ret (hQ _ _ _ hR)
    | region id ops draw =>
      simp only [codeOk, Bool.and_eq_true] at hok
      have hd : ∀ (i : Nat) (o : Oper), ops[i]? = some o -> dstOk n o = true := fun i o ho => List.all_eq_true.1 hok.1 o (by
        have : ops.toList[i]? = some o := by simpa using ho
        exact List.mem_of_getElem? this)
      cases draw with
      | false =>
        simp only [exec, Bool.false_eq_true, if_false] at h
        split at h
        · rename_i st1 hs
          cases h
          refine wpIn_region ?_
          have := opsL_sound hcf ops hd r m Q st' hQ ops.toList 0 st ρ a w (fun j => by simp) hR hs
          simpa [List.range_eq_range'] using this
        · cases h
      | true =>
        simp only [exec, if_true, drawX] at h
        by_cases hms : mSelP P ops.toList = true
        · rw [hms, cond_true] at h
          split at h
          · rename_i st1 hs
            cases h
            have hC : Below w.heap.size w { w with drawn := w.drawn + 1 } := (Below.refl _ w).drew
            exact mX_sound hcf ops hd r m Q hm hQ (hR.below hC) hs
          · cases h
        replace hms : mSelP P ops.toList = false := by simpa using hms
        rw [mSelP_not hms, cond_false] at hok
        rw [hms, cond_false] at h
        cases hws : wideSel ops.toList with
        | true =>
        by_cases htl : tlSel ops.toList = true
        · have hB : tlB .any ops = true := by
            have := hok.2
            rw [hws, htl] at this
            simpa using this
          rw [hws, cond_true, htl, cond_true] at h
          have hB' := hB
          simp only [tlB, Bool.and_eq_true, decide_eq_true_eq] at hB'
          have hnd : ∀ (i : Nat) (o : Oper), ops[i]? = some o -> noDefer o := fun i o ho c hc => by
            have : ops.toList[i]? = some o := by simpa using ho
            have := List.all_eq_true.1 hB'.1.1.1.1.1 o (List.mem_of_getElem? this)
            simp [notDefer, hc] at this
          have hC : Below w.heap.size w { w with drawn := w.drawn + 1 } := (Below.refl _ w).drew
          have hsz := hB'.1.1.1.2
          split at h
          · rename_i st1 hs
            cases h
            unfold tlL at hs
            split at hs
            · rename_i st2 hs2
              refine region_tl hnd hm hB (opsGT_sound hcf ops hd r m Q _ st2 (fun ρ' a' w' h' => ?_) _ st ρ a _ (wideCT_in _ _ hB'.2) (hR.below hC) hs2)
              have hlast : ∃ o, ops.toList.drop (ops.toList.length - 1) = [o] ∧ ops[ops.size - 1]? = some o := by
                have hlt : ops.toList.length - 1 < ops.toList.length := by simp; omega
                refine ⟨ops.toList[ops.toList.length - 1], ?_, ?_⟩
                · rw [List.drop_eq_getElem_cons hlt]
                  congr 1
                  apply List.drop_eq_nil_of_le
                  omega
                · rw [Array.getElem?_eq_getElem (by omega)]
                  simp
              obtain ⟨o, ho1, ho2⟩ := hlast
              rw [ho1] at hs
              have := opsL_mid hcf ops hd r m (onlyN Q) (fun a' w' => Q .normal a' w') _ hQ [o] (ops.size - 1) st2 ρ' a' w' (fun j hj => by
                have : j = 0 := by simpa using hj
                subst this
                simpa using ho2.symm) h' hs
              simp only [List.length_singleton, List.range'_succ, List.range'_zero, wpMid] at this
              exact this
            · cases hs
          · cases h
        replace htl : tlSel ops.toList = false := by simpa using htl
        by_cases hap : apSel ops.toList = true
        · have hB : apB .any ops = true := by
            have := hok.2
            rw [hws, htl, hap] at this
            simpa using this
          rw [hws, cond_true, htl, cond_false, hap, cond_true] at h
          have hB' := hB
          simp only [apB, Bool.and_eq_true, decide_eq_true_eq] at hB'
          have hnd : ∀ (i : Nat) (o : Oper), ops[i]? = some o -> noDefer o := fun i o ho c hc => by
            have : ops.toList[i]? = some o := by simpa using ho
            have := List.all_eq_true.1 hB'.1.1.1.1 o (List.mem_of_getElem? this)
            simp [notDefer, hc] at this
          have hC : Below w.heap.size w { w with drawn := w.drawn + 1 } := (Below.refl _ w).drew
          have hsz := hB'.1.1.2
          split at h
          · rename_i st1 hs
            cases h
            unfold apL at hs
            split at hs
            · rename_i st3 hs3
              refine region_ap hnd hm hB (opsGT_sound hcf ops hd r m Q _ st3 (fun ρ' a' w' h' => ?_) _ st ρ a _ (apC_in _ _ hB'.2) (hR.below hC) hs3)
              have := opsL_list hcf ops hd r m (onlyN Q) (fun a' w' => Q .normal a' w') _ hQ [ops.size - 3, ops.size - 3 + 1, ops.size - 3 + 2] st3 ρ' a' w' (fun i hi => by
                have : i = ops.size - 3 ∨ i = ops.size - 3 + 1 ∨ i = ops.size - 3 + 2 := by simpa using hi
                exact ⟨_, Array.getElem?_eq_getElem (show i < ops.size by omega)⟩) h' (by simpa using hs)
              simpa only [wpMid] using this
            · cases hs
          · cases h
        replace hap : apSel ops.toList = false := by simpa using hap
        by_cases hals : alSel ops.toList = true
        · rw [hws, cond_true, htl, cond_false, hap, cond_false, hals, cond_true] at h
          split at h
          · rename_i st1 hs
            cases h
            have hC : Below w.heap.size w { w with drawn := w.drawn + 1 } := (Below.refl _ w).drew
            exact alX_sound hcf ops hd r m Q hm hQ (hR.below hC) hs
          · cases h
        replace hals : alSel ops.toList = false := by simpa using hals
        have hwide : wideB .any ops = true := by
          have := hok.2
          rw [hws, htl, hap, hals] at this
          simpa using this
        rw [hws, cond_true, htl, cond_false, hap, cond_false, hals, cond_false] at h
        split at h
        · rename_i st1 hs
          cases h
          have hwb := hwide
          simp only [wideB, Bool.and_eq_true] at hwb
          have hnd : ∀ (i : Nat) (o : Oper), ops[i]? = some o -> noDefer o := fun i o ho c hc => by
            have : ops.toList[i]? = some o := by simpa using ho
            have := List.all_eq_true.1 hwb.1.1.1 o (List.mem_of_getElem? this)
            simp [notDefer, hc] at this
          have hC : Below w.heap.size w { w with drawn := w.drawn + 1 } := (Below.refl _ w).drew
          unfold wideX at hs
          rw [show ops.toList.toArray = ops from Array.toArray_toList ..] at hs
          split at hs
          · rename_i pl hpl
            have hpl2 := hpl
            unfold planOf at hpl2
            cases hM : needOk .any ops (needM .any ops.toList []) with
            | false => rw [hM] at hpl2; cases hpl2
            | true =>
              rw [hM, cond_true] at hpl2
              exact region_wideR hnd hm hwide hpl (opsR_sound hcf ops hd (Region.noSelect_spec hwb.1.1.2) r m Q _ hQ _ pl [] [] _ st ρ a _ hpl2 (hR.below hC) (fun p hp => by cases hp) hs)
          · exact region_wide hnd hm hwide (opsG_sound hcf ops hd r m Q _ hQ _ st ρ a _ (wideC_in _ _ hwb.2) (hR.below hC) hs)
        · cases h
        | false =>
        have hdraw : drawOk ops = true := by
          have := hok.2
          rw [hws] at this
          simpa using this
        rw [hws, cond_false] at h
        simp only [drawOk, Bool.and_eq_true] at hdraw
        have hnd : ∀ (i : Nat) (o : Oper), ops[i]? = some o -> noDefer o := fun i o ho c hc => by
          have : ops.toList[i]? = some o := by simpa using ho
          have := List.all_eq_true.1 hdraw.1 o (List.mem_of_getElem? this)
          simp [notDefer, hc] at this
        have hC : Below w.heap.size w { w with drawn := w.drawn + 1 } := (Below.refl _ w).drew
        have hb := hdraw.2
        split at h
        · rename_i st1 hs
          cases h
          unfold drawL at hs
          cases hmid : midOk ops.toList (callLen ops.toList) with
          | true =>
            rw [hmid, cond_true] at hb
            have eM : splitM ops.toList = callLen ops.toList := by unfold splitM; rw [hmid]; rfl
            have eQ : splitQ ops.toList = 1 := by unfold splitQ; rw [hmid]; rfl
            rw [eM, eQ] at hs
            have hhead : ∀ o ∈ ops.toList.take (callLen ops.toList), quietOp o = true ∧ dstOk n o = true := fun o ho => by
              have := take_takeWhile _ ops.toList o ho
              simp only [Bool.and_eq_true] at this
              exact ⟨this.1, List.all_eq_true.1 hok.1 o (List.mem_of_mem_take ho)⟩
            simp only [midOk, Bool.and_eq_true] at hmid
            have hrest : ∀ o ∈ ops.toList.drop (callLen ops.toList + 1), quietOp o = true ∧ dstOk n o = true := fun o ho => by
              have := List.all_eq_true.1 hmid.2 o ho
              simp only [Bool.and_eq_true] at this
              exact ⟨this.1, List.all_eq_true.1 hok.1 o (List.mem_of_mem_drop ho)⟩
            have hsz : callLen ops.toList + 1 <= ops.size := by
              simp only [midB, Bool.and_eq_true, decide_eq_true_eq] at hb
              exact hb.1.1.1.2
            split at hs
            · rename_i st2 hh
              split at hs
              · rename_i st3 hh3
                refine region_mid hnd (callLen ops.toList) 0 hm hb hC (headL_sound hcf ops r m _ _ (fun a' h' w' hw' => ?_) _ st a hhead hR hh)
                have hlen : ((ops.toList.drop (callLen ops.toList)).take 1).length = 1 := by simp; omega
                have := opsL_mid hcf ops hd r m Q (restR (Fr r) m P ops Q (callLen ops.toList + (0 + 1))) st3 (fun ρ' a2 w2 h2 =>
                  ⟨fun w3 => Below w2.heap.size w2 w3, Below.refl _ _, headL_sound hcf ops r m _ _ (fun a3 h3 w3 hw3 => hQ ρ' a3 w3 (h3.below hw3)) _ st3 a2 hrest h2 hs⟩)
                  ((ops.toList.drop (callLen ops.toList)).take 1) (callLen ops.toList) st2 ρ a' w' (fun j hj => by
                    rw [hlen] at hj
                    have : j = 0 := by omega
                    subst this
                    simp [List.getElem?_take, List.getElem?_drop]) (h'.below hw') hh3
                rw [hlen] at this
                exact this
              · cases hs
            · cases hs
          | false =>
            rw [hmid, cond_false] at hb
            have eM : splitM ops.toList = headLen ops.toList := by unfold splitM; rw [hmid]; rfl
            have eQ : splitQ ops.toList = ops.toList.length - headLen ops.toList := by unfold splitQ; rw [hmid]; rfl
            have hle : headLen ops.toList <= ops.toList.length := by
              unfold headLen
              exact (List.takeWhile_sublist _).length_le
            rw [eM, eQ, show headLen ops.toList + (ops.toList.length - headLen ops.toList) = ops.toList.length by omega, List.drop_length, show (ops.toList.drop (headLen ops.toList)).take (ops.toList.length - headLen ops.toList) = ops.toList.drop (headLen ops.toList) from List.take_of_length_le (by simp)] at hs
            have hhead : ∀ o ∈ ops.toList.take (headLen ops.toList), quietOp o = true ∧ dstOk n o = true := fun o ho =>
              ⟨take_takeWhile quietOp ops.toList o ho, List.all_eq_true.1 hok.1 o (List.mem_of_mem_take ho)⟩
            split at hs
            · rename_i st2 hh
              split at hs
              · rename_i st3 hh3
                simp only [headL, Option.some.injEq] at hs
                subst hs
                split at hb
                · rename_i hlen
                  have hlen' : headLen ops.toList = ops.toList.length := by simpa using hlen
                  rw [hlen'] at hh hh3 hhead
                  rw [List.drop_length] at hh3
                  rw [List.take_length] at hh hhead
                  simp only [opsL, Option.some.injEq] at hh3
                  subst hh3
                  exact region_quiet hnd hm hb hC (headL_sound hcf ops r m _ _ (fun a' h' w' hw' => hQ ρ a' w' (h'.below hw')) ops.toList st a hhead hR hh)
                · rw [Bool.or_eq_true] at hb
                  rcases hb with hb | hb
                  · refine region_tail hnd (headLen ops.toList) hm hb hC (headL_sound hcf ops r m _ _ (fun a' h' w' hw' => ?_) _ st a hhead hR hh)
                    have := opsL_sound hcf ops hd r m Q _ hQ (ops.toList.drop (headLen ops.toList)) (headLen ops.toList) st2 ρ a' w' (fun j => by simp [List.getElem?_drop]) (h'.below hw') hh3
                    simpa using this
                  · refine region_late hnd (lateLen ops.toList) (headLen ops.toList) hm hb hC (headL_sound hcf ops r m _ _ (fun a' h' w' hw' => ?_) _ st a hhead hR hh)
                    have := opsL_sound hcf ops hd r m (onlyN Q) _ (fun ρ' a' w' h => (hQ ρ' a' w' h : onlyN Q .normal a' w')) (ops.toList.drop (headLen ops.toList)) (headLen ops.toList) st2 ρ a' w' (fun j => by simp [List.getElem?_drop]) (h'.below hw') hh3
                    simpa using this
              · cases hs
            · cases hs
        · cases h
    | seq x y =>
      simp only [codeOk, Bool.and_eq_true] at hok
      simp only [exec] at h
      refine wpIn_seq ?_
      split at h
      · rename_i st1 hx
        exact ih x st _ st1 hx hok.1 ρ a w hR _ fun ρ' a' w' h' => ih y st1 e st' h hok.2 ρ' a' w' h' Q hQ
      · rename_i hne
        refine ih x st e st' h hok.1 ρ a w hR _ fun ρ' a' w' h' => ?_
        have := hQ ρ' a' w' h'
        cases e with
        | normal => exact absurd h (hne st')
        | _ => exact this
    | cond x y z =>
      simp only [codeOk, Bool.and_eq_true] at hok
      simp only [exec] at h
      split at h
      · rename_i hx
        exact wpIn_cond_true (vt_bool (ev_sound hR.hr hR.fr hx)) (ih y st e st' h hok.1 ρ a w hR Q hQ)
      · rename_i hx
        exact wpIn_cond_false (vt_bool (ev_sound hR.hr hR.fr hx)) (ih z st e st' h hok.2 ρ a w hR Q hQ)
      · cases h
    | scope b =>
      simp only [codeOk] at hok
      simp only [exec] at h
      refine wpIn_scope ?_
      split at h
      · cases h
      · rename_i hne
        refine ih b st e st' h hok ρ a w hR _ fun ρ' a' w' h' => ?_
        have := hQ ρ' a' w' h'
        cases e with
        | goto l => exact absurd h (hne l st')
        | _ => exact this
    | block id b =>
      simp only [codeOk] at hok
      simp only [exec] at h
      refine wpIn_block ?_
      split at h
      · rename_i j st1 hx
        refine ih b st _ st1 hx hok ρ a w hR _ fun ρ' a' w' h' => ?_
        split at h
        · rename_i hj
          cases h
          subst hj
          simpa [Exit.inBlock] using hQ ρ' a' w' h'
        · rename_i hj
          cases h
          simpa [Exit.inBlock, hj] using hQ ρ' a' w' h'
      · rename_i hne
        refine ih b st e st' h hok ρ a w hR _ fun ρ' a' w' h' => ?_
        have := hQ ρ' a' w' h'
        cases e with
        | exit j => exact absurd h (hne j st')
        | _ => exact this
    | loop b =>
      simp only [codeOk] at hok
      refine wpIn_loop_rounds (k + 1) ?_
      have key : ∀ (j : Nat), j <= k -> ∀ (st : St) (ρ : Ren) (a : Act) (w : World), exec P cf (j + 1) (.loop b) st = some (e, st') -> RS P B ρ0 w0 mb n ρ st a w -> Code.roundsIn (Fr r) m P b Q (j + 1) a w := by
        intro j
        induction j with
        | zero =>
          intro _ st ρ a w h hR
          simp [exec] at h
        | succ j ihj =>
          intro hj st ρ a w h hR
          rw [exec] at h
          rw [roundsIn_succ]
          split at h
          · rename_i st1 hx
            exact ih0 (j + 1) (by omega) b st _ st1 hx hok ρ a w hR _ fun ρ' a' w' h' => ihj (by omega) st1 ρ' a' w' h h'
          · rename_i hne
            refine ih0 (j + 1) (by omega) b st e st' h hok ρ a w hR _ fun ρ' a' w' h' => ?_
            have := hQ ρ' a' w' h'
            cases e with
            | normal => exact absurd h (hne st')
            | _ => exact this
      exact key k (Nat.le_refl _) st ρ a w h hR
    | rangeFunc g ps x y =>
      simp only [codeOk, Bool.and_eq_true] at hok
      simp only [exec] at h
      split at h
      · rename_i f cap hcal
        split at h
        · rename_i v H2 lo hcall
          obtain ⟨s, pend, tm', ps', x', y', hget, hnb, hj, rfl⟩ := loopEnd_spec h
          obtain ⟨cap', hev, hc2, henter⟩ := iterOf_sound hR.hr hR.fr hcal
          refine wpIn_rangeFunc fun fn _ => ?_
          have hold : B <= w.heap.size := hR.hr.old
          obtain ⟨l, mark, w1, dfs, hen, hb1, hl1, hl2, hrec, hmk⟩ : ∃ l mark w1 dfs, (Instr.enterLoop fn a.tmps ps x y (Fr r).round).run P w = .ok (l, mark) w1 ∧ Below w.heap.size w w1 ∧ w.heap.size <= l ∧ l < w1.heap.size ∧
              w1.heap[l]? = some (.loop { state := .ready, pending := none, fn, tmps := a.tmps, params := ps, assign := x, body := y, defers := dfs }) ∧ Marks mb (Ren.add ρ st.heap.n ⟨l, 0, 0⟩) (mark ++ a.defers) w1 := by
            cases r with
            | none =>
              refine ⟨_, _, _, w.heap.size, run_enterLoop_outer fn a.tmps ps x y, (((Below.refl _ w).alloc (Nat.le_refl _) _).alloc (by simp) _), by omega, by simp, ?_, ?_⟩
              · have := World.alloc_heap_new (w.alloc (.deferred (some []))) (.loop { state := .ready, pending := none, fn, tmps := a.tmps, params := ps, assign := x, body := y, defers := w.heap.size })
                simpa using this
              · obtain ⟨rs, h1, h2, h3⟩ := hR.marks
                refine ⟨w.heap.size :: rs, by simp [h1], List.nodup_cons.2 ⟨fun hin => ?_, h2⟩, fun r hr => ?_⟩
                · have := (Array.getElem?_eq_some_iff.1 (h3 _ hin).2.1).1
                  omega
                · have hbb : Below w.heap.size w ((w.alloc (.deferred (some []))).alloc (.loop { state := .ready, pending := none, fn, tmps := a.tmps, params := ps, assign := x, body := y, defers := w.heap.size })) := (((Below.refl _ w).alloc (Nat.le_refl _) _).alloc (by simp) _)
                  rcases List.mem_cons.1 hr with rfl | hr
                  · refine ⟨Nat.le_trans hmb hR.ext.size, ?_, fun b e hb => ?_⟩
                    · have h5 : Below (w.heap.size + 1) (w.alloc (.deferred (some []))) ((w.alloc (.deferred (some []))).alloc (.loop { state := .ready, pending := none, fn, tmps := a.tmps, params := ps, assign := x, body := y, defers := w.heap.size })) := (Below.refl _ _).alloc (by simp) _
                      rw [h5.block _ (by omega)]
                      exact World.alloc_heap_new w _
                    · by_cases hbn : b = st.heap.n
                      · subst hbn; rw [Ren.add_eq] at hb; cases hb; simp
                      · rw [Ren.add_ne _ _ hbn] at hb; exact Nat.ne_of_lt (hR.hr.top b e hb)
                  · obtain ⟨h6, h7, h8⟩ := h3 r hr
                    have hlt := (Array.getElem?_eq_some_iff.1 h7).1
                    refine ⟨h6, by rw [hbb.block _ hlt]; exact h7, fun b e hb => ?_⟩
                    by_cases hbn : b = st.heap.n
                    · subst hbn; rw [Ren.add_eq] at hb; cases hb; simp; omega
                    · rw [Ren.add_ne _ _ hbn] at hb; exact h8 b e hb
            | some l0 =>
              obtain ⟨lp0, hlp0⟩ := hlr l0 rfl
              obtain ⟨lp, hlp⟩ := hR.ext.loops l0 lp0 hlp0
              have hbb : Below w.heap.size w (w.alloc (.loop { state := .ready, pending := none, fn, tmps := a.tmps, params := ps, assign := x, body := y, defers := lp.defers })) := (Below.refl _ w).alloc (Nat.le_refl _) _
              refine ⟨_, _, _, lp.defers, run_enterIn hlp fn a.tmps ps x y, hbb, Nat.le_refl _, by simp, World.alloc_heap_new w _, ?_⟩
              obtain ⟨rs, h1, h2, h3⟩ := hR.marks
              refine ⟨rs, by simp [h1], h2, fun r hr => ?_⟩
              obtain ⟨h6, h7, h8⟩ := h3 r hr
              have hlt := (Array.getElem?_eq_some_iff.1 h7).1
              refine ⟨h6, by rw [hbb.block _ hlt]; exact h7, fun b e hb => ?_⟩
              by_cases hbn : b = st.heap.n
              · subst hbn; rw [Ren.add_eq] at hb; cases hb; simp; omega
              · rw [Ren.add_ne _ _ hbn] at hb; exact h8 b e hb
          have hle := hR.hr.le_add ⟨l, 0, 0⟩
          have hps : ∀ p ∈ ps.toList, p < a.tmps.size := fun p hp => by
            have := List.all_eq_true.1 hok.1.1 p hp
            rw [hR.size]; simpa using this
          obtain ⟨hH1, hE1⟩ := hR.hr.alloc hb1 ⟨l, 0, 0⟩ (.loop .ready none st.tmps ps x y) st.heap.n hl1 hl2 ⟨Nat.le_trans hold hl1, _, hrec, ⟨rfl, rfl, rfl, rfl, rfl⟩, hps, by rw [hR.size]; exact hok.1.2, by rw [hR.size]; exact hok.2, fun i => (hR.fr.at_ i).mono hle⟩
          refine ⟨l, mark, w1, { target := .fn (.func f) cap', args := #[.func (.yield l) #[] #[]] }, w1, f, #[.func (.yield l) #[] #[]] ++ cap', w1, hen, ?_, fun _ _ => trivial, ?_, fun hh => (by cases hh), ?_⟩
          · simp only [resolve, hev]
            simp [go_sem]
          · simp [invoke, go_sem, henter]
          · have hc := (hcf (.fn f) _ _ _ _ _ hcall (Ren.add ρ st.heap.n ⟨l, 0, 0⟩) w1 (#[.func (.yield l) #[] #[]] ++ cap') (m - 1) hH1 (by
              simpa using L2.cons (R := VT (Ren.add ρ st.heap.n ⟨l, 0, 0⟩)) (VT.one (.cell (.yld (e := ⟨l, 0, 0⟩) (Ren.add_eq ρ st.heap.n ⟨l, 0, 0⟩)))) (hc2.mono fun _ _ => VT.mono hle))).2
            refine (show CallsIn (Fr r) (m - 1) P f _ w1 _ from hc).mono ?_
            rintro e1 w3 ⟨ρ', v', rfl, h3, h4, h5⟩
            obtain ⟨rr, hrr, ⟨g1, g2, g3, g4, g5⟩, hH4, hE4⟩ := h4.putLoop (s' := .exhausted) (pend' := pend) hget (h5.le _ _ (Ren.add_eq ρ st.heap.n ⟨l, 0, 0⟩))
            have hend := run_endLoop (P := P) hrr (by rw [g1]; exact hnb)
            rw [show ({ rr with state := .exhausted } : Loop) = { rr with state := .exhausted, pending := pend } by rw [<- g2]] at hend
            refine ⟨rr.pending, _, hend, ?_⟩
            have hR4 : RS P B ρ0 w0 mb n ρ' ⟨st.tmps, H2.set st.heap.n (.loop .exhausted pend tm' ps' x' y'), min (min st.lo st.heap.n) lo⟩ { a with defers := mark ++ a.defers } _ :=
              ⟨hH4, ⟨fun i => ((hR.fr.at_ i).mono hle).mono h5.le, trivial⟩, hR.size, (((hR.ext.trans hE1).trans h5).trans hE4).lower (by dsimp only; omega), (hmk.ext h5).ext hE4⟩
            rw [g2]
            cases pend with
            | none => simp only [jumpOf, Option.some.injEq] at hj; subst hj; exact hQ _ _ _ hR4
            | some c =>
              cases c with
              | ret => simp only [jumpOf, Option.some.injEq] at hj; subst hj; exact wpIn_ret (hQ _ _ _ hR4)
              | exit id => simp only [jumpOf, Option.some.injEq] at hj; subst hj; exact wpIn_exit (hQ _ _ _ hR4)
              | _ => simp [jumpOf] at hj
        · cases h
      · cases h
    | _ => simp [exec] at h
theorem FR.putPs {ρ : Ren} : ∀ (ps : List Tmp) (l : List Value) (args : List Value) (tm : Tm) (tmps : Array Value), L2 (VT ρ) l args -> (∀ p ∈ ps, p < tmps.size) -> (∀ i, VT ρ (Tm.at tm i) (tmps.getD i undef)) ->
    (∀ i, VT ρ (Tm.at (AI.putPs (ps.zip l) tm) i) (((ps.zip args).foldl (fun tmps (t, a) => tmps.setIfInBounds t a) tmps).getD i undef)) ∧ ((ps.zip args).foldl (fun tmps (t, a) => tmps.setIfInBounds t a) tmps).size = tmps.size
  | [], _, _, tm, tmps, _, _, h => ⟨by simpa [AI.putPs] using h, rfl⟩
  | p :: ps, [], _, tm, tmps, .nil, _, h => ⟨by simpa [AI.putPs] using h, rfl⟩
  | p :: ps, x :: l, y :: args, tm, tmps, .cons h1 h2, hp, h => by
    have hlt : p < tmps.size := hp p (by simp)
    have := FR.putPs ps l args (Tr.set tm p x) (tmps.setIfInBounds p y) h2 (fun q hq => by simpa using hp q (by simp [hq])) (fun i => by
      by_cases hpi : p = i
      · subst hpi
        rw [Tm.at_set_eq]
        simp [Array.getD_eq_getD_getElem?, hlt]
        exact h1
      · rw [Tm.at_set_ne _ _ hpi]
        have := h i
        simpa [Array.getD_eq_getD_getElem?, Array.getElem?_setIfInBounds, hpi] using this)
    refine ⟨by simpa [AI.putPs] using this.1, by simpa using this.2⟩
theorem round_sound {cf : CallF} (hcf : CallOK P B cf) (hm : P.follows .mixedOrders = true) {n b : Nat} {l : List Value} {H H' : Heap} {v : Value} {lo : Nat} (h : round P cf n b l H = some (v, H', lo)) {ρ : Ren} {w : World} {args : Array Value} (k : Nat) (hH : HR P B ρ H w) (hl : L2 (VT ρ) l args.toList) :
    lo < H.n ∧ CalIn P k ρ (.rnd b) args w (fun e w' => ∃ ρ' v', e = .returned v' ∧ VT ρ' v v' ∧ HR P B ρ' H' w' ∧ Ext B ρ ρ' lo w w') := by
  unfold round at h
  split at h
  · rename_i pend tm ps x y hget
    have hbn : b < H.n := hH.objs b _ hget
    split at h
    · rename_i hlen
      split at h
      · rename_i st1 hx1
        split at h
        · rename_i pend1 tm1 ps1 x1 y1 hget1
          split at h
          · rename_i e2 st2 hx2
            split at h
            · rename_i s2 pend2 tm2 ps2 x2 y2 j hget2 hj
              cases h
              refine ⟨by omega, fun e he => ?_⟩
              obtain ⟨hB, r, hr, ⟨h1, h2, h3, h4, h5⟩, h6, h7, h8, h9⟩ := hH.obj b _ e hget he
              have hsz : args.size = r.params.size := by
                have := hl.length
                rw [h3, <- hlen]; simpa using this.symm
              refine ⟨r.fn, _, r.assign, r.body, run_yield hr hsz, roundIn_of_wpIn trivial ?_⟩
              rw [h3, h4, h5]
              obtain ⟨f1, f2⟩ := FR.putPs ps.toList l args.toList tm r.tmps hl h6 h9
              have hfold : (ps.zip args).foldl (fun tmps (t, a) => tmps.setIfInBounds t a) r.tmps = (ps.toList.zip args.toList).foldl (fun tmps (t, a) => tmps.setIfInBounds t a) r.tmps := by
                rw [<- Array.foldl_toList, Array.toList_zip]
              rw [hfold]
              have hR : RS P B ρ w 0 r.tmps.size ρ ⟨putPs (ps.toList.zip l) tm, H, H.n⟩ { tmps := (ps.toList.zip args.toList).foldl (fun tmps (t, a) => tmps.setIfInBounds t a) r.tmps, defers := [] } w :=
                ⟨hH, ⟨f1, trivial⟩, f2, Ext.refl _ _ _ _, Marks.nil _ _ _⟩
              refine (exec_sound hcf hm (some e.blk) (fun l0 hl0 => by cases hl0; exact ⟨r, hr⟩) (Nat.zero_le _) k n x _ .normal st1 hx1 h7 ρ _ w hR _ fun ρ1 a1 w1 hR1 => ?_ : Code.wpIn (Fr (some e.blk)) k P x _ _ w)
              have he1 : ρ1 b = some e := hR1.ext.le _ _ he
              obtain ⟨r1, hr1, ⟨g1, g2, g3, g4, g5⟩, hH2, hE2⟩ := hR1.hr.putLoop (s' := .busy) (pend' := pend1) hget1 he1
              have hbr := run_beginRound (P := P) hr1 g1
              rw [show ({ r1 with state := .busy } : Loop) = { r1 with state := .busy, pending := pend1 } by rw [<- g2]] at hbr
              refine ⟨_, hbr, ?_⟩
              have hR2 : RS P B ρ w 0 r.tmps.size ρ1 ⟨st1.tmps, st1.heap.set b (.loop .busy pend1 tm1 ps1 x1 y1), min st1.lo b⟩ a1 (w1.putObj e.blk (.loop { r1 with state := .busy, pending := pend1 })) :=
                ⟨hH2, hR1.fr, hR1.size, hR1.ext.trans hE2, hR1.marks.ext hE2⟩
              refine (exec_sound hcf hm (some e.blk) (fun l0 hl0 => by cases hl0; exact ⟨r, hr⟩) (Nat.zero_le _) k n y _ e2 st2 hx2 h8 ρ1 _ _ hR2 _ fun ρ2 a2 w2 hR3 => ?_ : Code.wpIn (Fr (some e.blk)) k P y _ _ _)
              have he2 : ρ2 b = some e := hR3.ext.le _ _ he
              obtain ⟨r2, hr2, ⟨i1, i2, i3, i4, i5⟩, hH4, hE4⟩ := hR3.hr.putLoop (s' := bif j.isNone then .ready else .done) (pend' := j) hget2 he2
              have hfin : ∃ v w', (Instr.endRound e.blk j).run P w2 = .ok v w' ∧ ∃ ρ' v', (Ending.returned v : Ending) = .returned v' ∧ VT ρ' (.bool j.isNone) v' ∧ HR P B ρ' (st2.heap.set b (.loop (bif j.isNone then .ready else .done) j tm2 ps2 x2 y2)) w' ∧ Ext B ρ ρ' (min st2.lo b) w w' := by
                have hend := run_endRound (P := P) j hr2
                refine ⟨_, _, hend, ρ2, _, rfl, VT.of_plain rfl, ?_, ?_⟩
                · cases j <;> exact hH4
                · have := hR3.ext.trans hE4
                  cases j <;> exact this
              cases e2 with
              | normal => simp only [pendOf, Option.some.injEq] at hj; subst hj; exact hfin
              | ret => simp only [pendOf, Option.some.injEq] at hj; subst hj; exact hfin
              | exit id => simp only [pendOf, Option.some.injEq] at hj; subst hj; exact hfin
              | _ => simp [pendOf] at hj
            · cases h
          · cases h
        · cases h
      · cases h
    · cases h
  · cases h
theorem HR.aside {ρ : Ren} {H : Heap} {w : World} {r : Nat} {o : Obj} (h : HR P B ρ H w) (hn : ∀ b e, ρ b = some e -> e.blk ≠ r) : HR P B ρ H (w.putObj r o) :=
  ⟨h.dom, h.lt, h.objs, fun b o' e ho he => (h.obj b o' e ho he).mono (Ren.le_refl _) (World.putObj_heap_other (hn b e he)), h.sep, fun b e he => by rw [World.putObj_size]; exact h.top b e he, h.glob, by rw [World.putObj_size]; exact h.old⟩
theorem Ext.aside {ρ ρ' : Ren} {lo : Nat} {w w' : World} {r : Nat} {o : Obj} (h : Ext B ρ ρ' lo w w') (hr : w.heap.size <= r) : Ext B ρ ρ' lo w (w'.putObj r o) :=
  ⟨h.le, h.os, h.tape, h.output, by rw [World.putObj_size]; exact h.size, fun k hk hc => by rw [World.putObj_heap_other (by omega)]; exact h.block k hk hc, h.fresh, fun k lp hlp => by
    have hlt := (Array.getElem?_eq_some_iff.1 hlp).1
    rw [World.putObj_heap_other (by omega)]; exact h.loops k lp hlp⟩
theorem marks_leave {F : Fence} {k : Nat} {fn : Func} {tmps : Array Value} {R : Ending -> World -> Prop} {ρ0 ρ : Ren} {H : Heap} {lo : Nat} {w0 : World} (hR : ∀ w, HR P B ρ H w -> Ext B ρ0 ρ lo w0 w -> LeavesIn F k P fn tmps R [] .returning w) :
    ∀ (rs : List Nat) (w : World), HR P B ρ H w -> Ext B ρ0 ρ lo w0 w -> rs.Nodup -> (∀ r ∈ rs, w0.heap.size <= r ∧ w.heap[r]? = some (.deferred (some [])) ∧ ∀ b e, ρ b = some e -> e.blk ≠ r) ->
      LeavesInM F k P fn tmps R (rs.map (fun r => { target := .collected r, args := #[] })) .returning w
  | [], w, hH, hE, _, _ => hR w hH hE
  | r :: rs, w, hH, hE, hnd, h => by
    obtain ⟨h1, h2, h3⟩ := h r (by simp)
    have hnd' := List.nodup_cons.1 hnd
    refine ⟨(by intro hh; cases hh), .inl ⟨r, _, rfl, run_takeDeferred h2, marks_leave hR rs _ (hH.aside h3) (hE.aside h1) hnd'.2 fun q hq => ?_⟩⟩
    obtain ⟨h4, h5, h6⟩ := h q (by simp [hq])
    refine ⟨h4, ?_, h6⟩
    rw [World.putObj_heap_other (by rintro rfl; exact hnd'.1 hq)]; exact h5
theorem putArgs_at : ∀ (l : List Value) (k : Nat) (t : Tm) (i : Nat), Tm.at (putArgs l k t) i = if k <= i ∧ i < k + l.length then l.getD (i - k) undef else Tm.at t i
  | [], k, t, i => by simp [putArgs]; intro h1 h2; omega
  | v :: l, k, t, i => by
    rw [putArgs, putArgs_at l (k + 1) (Tr.set t k v) i]
    by_cases h0 : i = k
    · subst h0
      rw [if_neg (by omega), Tm.at_set_eq, if_pos (by simp)]
      simp
    · rw [Tm.at_set_ne _ _ (Ne.symm h0)]
      by_cases h1 : k <= i ∧ i < k + (v :: l).length
      · rw [if_pos h1, if_pos (by simp at h1; omega)]
        rw [show i - k = (i - (k + 1)) + 1 by omega]
        simp
      · rw [if_neg h1, if_neg (by simp at h1; omega)]
theorem leaf_at (i : Nat) : Tm.at .leaf i = undef := rfl
theorem FR.start {ρ : Ren} {l : List Value} {args : Array Value} (h : L2 (VT ρ) l args.toList) (n : Nat) : FR ρ (putArgs l 0 .leaf) { tmps := args ++ Array.replicate n undef, defers := [] } := by
  refine ⟨fun i => ?_, trivial⟩
  have hlen := h.length
  rw [putArgs_at, leaf_at]
  by_cases hi : i < l.length
  · rw [if_pos (by omega)]
    have h1 : l[i]? = some (l.getD i undef) := by simp [hi]
    obtain ⟨y, hy, hr⟩ := h.get h1
    have hia : i < args.size := by simp at hlen; omega
    have hy' : args[i]? = some y := by simpa using hy
    simpa [Array.getD_eq_getD_getElem?, Array.getElem?_append_left hia, hy'] using hr
  · rw [if_neg (by omega)]
    have hia : args.size <= i := by simp at hlen; omega
    have : ((args ++ Array.replicate n undef).getD i undef) = undef := by
      rw [Array.getD_eq_getD_getElem?, Array.getElem?_append_right hia, Array.getElem?_replicate]
      split <;> rfl
    rw [this]; exact VT.undef _
def rv (a : Act) : ResultVar -> Sem Value
  | .tmp t => pure (a.tmps.getD t undef)
  | .cell c t => do loadVar t (<- asAddr (a.tmps.getD c undef))
theorem res_sound {ρ : Ren} {H : Heap} {w : World} {tm : Tm} {a : Act} (hH : HR P B ρ H w) (hF : FR ρ tm a) {x : ResultVar} {v : Value} (h : resOf P tm H x = some v) :
    ∃ v', VT ρ v v' ∧ (rv a x).run P w = .ok v' w := by
  cases x with
  | tmp t =>
    simp only [resOf, Option.some.injEq] at h
    subst h
    exact ⟨_, hF.at_ t, rfl⟩
  | cell c t =>
    simp only [resOf] at h
    split at h
    · rename_i ad hc
      have h1 := hF.at_ c
      rw [hc] at h1
      obtain ⟨v', h2, h3⟩ := q_load hH h1 h
      have h4 := h3 w (Below.refl _ _)
      have : ∃ ad', a.tmps.getD c undef = .pointer (some ad') := by
        cases h1 with
        | one h1 => cases h1 with
          | cell h1 =>
            generalize a.tmps.getD c undef = u at h1
            cases h1 with
            | same hs => simp [scalar] at hs
            | ptr _ => exact ⟨_, rfl⟩
      obtain ⟨ad', had⟩ := this
      refine ⟨v', h2, ?_⟩
      rw [had] at h4
      simpa [rv, had, asAddr, Instr.loadAt, Instr.sureAddr] using h4
    · cases h
theorem ress_sound {ρ : Ren} {H : Heap} {w : World} {tm : Tm} {a : Act} (hH : HR P B ρ H w) (hF : FR ρ tm a) : ∀ (xs : List ResultVar) (l : List Value), ressOf P tm H xs = some l ->
    ∃ l', L2 (VT ρ) l l' ∧ (xs.mapM (m := Sem) (rv a)).run P w = .ok l' w
  | [], l, h => by simp only [ressOf, Option.some.injEq] at h; subst h; exact ⟨[], .nil, rfl⟩
  | x :: xs, l, h => by
    simp only [ressOf] at h
    split at h
    · rename_i v r hv hr
      cases h
      obtain ⟨v', h1, h2⟩ := res_sound hH hF hv
      obtain ⟨l', h3, h4⟩ := ress_sound hH hF xs r hr
      refine ⟨v' :: l', .cons h1 h3, ?_⟩
      rw [List.mapM_cons, Sem.run_bind, h2, Result.andThen_ok, Sem.run_bind, h4, Result.andThen_ok]
      rfl
    · cases h
theorem results_eq (fn : Func) (a : Act) : results fn a.tmps = (do
    let vs <- fn.results.mapM (rv a)
    pure (if h : vs.size = 1 then vs[0] else .tuple vs) : Sem Value) := by
  unfold results
  congr 1
theorem results_sound {ρ : Ren} {H : Heap} {w : World} {tm : Tm} {a : Act} (hH : HR P B ρ H w) (hF : FR ρ tm a) {fn : Func} {l : List Value} (h : ressOf P tm H fn.results.toList = some l) (hn : l.all notTuple = true) :
    ∃ v', VT ρ (tupled l) v' ∧ (results fn a.tmps).run P w = .ok v' w := by
  obtain ⟨l', h1, h2⟩ := ress_sound hH hF _ _ h
  refine ⟨if h : l'.toArray.size = 1 then l'.toArray[0] else .tuple l'.toArray, ?_, ?_⟩
  · have hlen := h1.length
    unfold tupled
    split
    · cases h1 with
      | cons hv ht => cases ht; exact hv
    · rename_i hne
      have hl1 : ¬ l'.toArray.size = 1 := by
        intro hh
        simp at hh
        rw [hh] at hlen
        obtain ⟨x, hx⟩ := List.length_eq_one_iff.1 hlen
        exact hne x hx
      rw [dif_neg hl1]
      exact .tup (L2.of_get (by simpa using hlen) fun i x y hx hy => by
        have hx' : l[i]? = some x := by simpa using hx
        exact (h1.both hx' (by simpa using hy)).to_R (List.all_eq_true.1 hn x (List.mem_of_getElem? hx')))
  · rw [results_eq, Sem.run_bind, Array.mapM_eq_mapM_toList, Sem.run_map, h2]
    rfl
def OracleOK (P : Program) [Oracle P] (B : Nat) : Prop :=
  ∀ f v, Oracle.val P f = some v -> ∀ H, Oracle.base P H -> ∀ ρ w (args : Array Value) (k : Nat), HR P B ρ H w -> L2 (VT ρ) [] args.toList ->
    CallsIn Fence.wide k P f args w (fun e w' => ∃ ρ' v', e = .returned v' ∧ VT ρ' v v' ∧ HR P B ρ' H w' ∧ Ext B ρ ρ' H.n w w')
def WildOK (P : Program) [Oracle P] (B : Nat) : Prop :=
  ∀ f l H v H' lo, Oracle.wild P f = true -> Oracle.wildF P f l H = some (v, H', lo) -> ∀ ρ w (args : Array Value) (k : Nat), HR P B ρ H w -> L2 (VT ρ) l args.toList ->
    CallsIn Fence.wide k P f args w (fun e w' => ∃ ρ' v', e = .returned v' ∧ VT ρ' v v' ∧ HR P B ρ' H' w' ∧ Ext B ρ ρ' lo w w')
theorem wild_none [Oracle P] (h : ∀ f, Oracle.wild P f = false) : WildOK P B := fun f l H v H' lo hw => by rw [h f] at hw; cases hw
theorem oracle_ok [Oracle P] (hO : OracleOK P B) (hW : WildOK P B) {f : FuncId} {l : List Value} {H : Heap} {v : Value} {H' : Heap} {lo : Nat} (h : oracle P f l H = some (v, H', lo)) {ρ : Ren} {w : World} {args : Array Value} (k : Nat) (hH : HR P B ρ H w) (hl : L2 (VT ρ) l args.toList) :
    CallsIn Fence.wide k P f args w (fun e w' => ∃ ρ' v', e = .returned v' ∧ VT ρ' v v' ∧ HR P B ρ' H' w' ∧ Ext B ρ ρ' lo w w') := by
  unfold oracle at h
  split at h
  · cases hw : Oracle.wild P f with
    | true => rw [hw, cond_true] at h; exact hW f l H v H' lo hw h ρ w args k hH hl
    | false => rw [hw] at h; cases h
  · rename_i u hu
    split at h
    · split at h
      · rename_i hb
        cases h
        exact hO f v hu H hb ρ w args k hH hl
      · cases h
    · cases h
theorem call_sound [Oracle P] (hO : OracleOK P B) (hm : P.follows .mixedOrders = true) (hW : WildOK P B := by exact wild_none fun _ => rfl) : ∀ k, CallOK P B (call P k) := by
  intro k
  induction k with
  | zero => intro c l H v H' lo h; cases c <;> simp [call] at h
  | succ k ih =>
    intro c l H v H' lo h ρ w args kf hH hl
    cases c with
    | rnd b =>
      simp only [call] at h
      obtain ⟨h1, h2⟩ := round_sound ih hm h kf hH hl
      exact ⟨.inr h1, h2⟩
    | fn f =>
    refine ⟨.inl rfl, ?_⟩
    simp only [call] at h
    split at h
    · rename_i r ho
      cases h
      exact oracle_ok hO hW ho kf hH hl
    split at h
    · rename_i fn hfn
      split at h
      · rename_i c hc
        split at h
        · rename_i hok
          split at h
          · rename_i e st hx
            split at h
            · rename_i hend
              split at h
              · rename_i vs hvs
                split at h
                · rename_i hnt
                  cases h
                  refine callsIn_of_wp_marks hfn hc trivial ?_
                  have hsz : args.size = l.length := by simpa using hl.length.symm
                  have hR : RS P B ρ w w.heap.size fn.ntmps ρ ⟨putArgs l 0 .leaf, H, H.n⟩ { tmps := args ++ Array.replicate (fn.ntmps - args.size) undef, defers := [] } w :=
                    ⟨hH, FR.start hl _, by simp; have := hok.2; omega, Ext.refl _ _ _ _, Marks.nil _ _ _⟩
                  refine exec_sound ih hm none (fun l0 hl0 => by cases hl0) (Nat.le_refl _) kf k c _ e st hx hok.1 ρ _ w hR _ (fun ρ' a' w' h' => ?_)
                  obtain ⟨rs, h1, h2, h3⟩ := h'.marks
                  have hlv : LeavesInM Fence.wide kf P fn a'.tmps (fun e w' => ∃ ρ' v', e = .returned v' ∧ VT ρ' (tupled vs) v' ∧ HR P B ρ' st.heap w' ∧ Ext B ρ ρ' st.lo w w') a'.defers .returning w' := by
                    rw [h1]
                    refine marks_leave (fun w2 hH2 hE2 => ?_) rs w' h'.hr h'.ext h2 h3
                    obtain ⟨v', h4, h5⟩ := results_sound hH2 h'.fr hvs hnt
                    exact ⟨v', h5, ρ', v', rfl, h4, hH2, hE2⟩
                  cases e with
                  | normal => exact hlv
                  | ret => exact hlv
                  | _ => simp [ended] at hend
                · cases h
              · cases h
            · cases h
          · cases h
        · cases h
      · cases h
    · cases h
end
end Go.AI
