/- The abstract machine and the model: code, and calls. -/
import Derived.Test.YthjieekbbhhjgaaDoorEs
namespace Go.AI
open Go.RowKit

/-- The fence that lets everything in; within a round, or without. -/
def Fr (r : Option Nat) : Fence := { fn := fun _ => True, depth := none, alive := false, round := r }
theorem Fr_room (r : Option Nat) (k : Nat) : (Fr r).room k := fun d hd => by cases hd
theorem Fr_none : Fr none = Fence.wide := rfl

section
variable {P : Program} {B : Nat}

/-- What a call of the abstract machine says of the model's. -/
def CallOK (P : Program) (B : Nat) (cf : CallF) : Prop :=
  ∀ f l H v H' lo, cf f l H = some (v, H', lo) → ∀ ρ w (args : Array Value) (k : Nat), HR P B ρ H w → L2 (VT ρ) l args.toList →
    CallsIn Fence.wide k P f args w (fun e w' => ∃ ρ' v', e = .returned v' ∧ VT ρ' v v' ∧ HR P B ρ' H' w' ∧ Ext B ρ ρ' lo w w')

structure RS (P : Program) (B : Nat) (ρ0 : Ren) (w0 : World) (n : Nat) (ρ : Ren) (st : St) (a : Act) (w : World) : Prop where
  hr : HR P B ρ st.heap w
  fr : FR ρ st.tmps a
  size : a.tmps.size = n
  ext : Ext B ρ0 ρ st.lo w0 w

theorem RS.below {ρ0 ρ : Ren} {w0 w w' : World} {n : Nat} {st : St} {a : Act} (h : RS P B ρ0 w0 n ρ st a w) (hb : Below w.heap.size w w') : RS P B ρ0 w0 n ρ st a w' :=
  ⟨h.hr.below hb, h.fr, h.size, by have := h.ext.trans (Ext.of_below (B := B) (ρ := ρ) st.lo hb); simpa using this⟩

theorem vt_isbool {ρ : Ren} {v v' : Value} (h : VT ρ v v') (b : Bool) : v = .bool b ↔ v' = .bool b := by
  constructor
  · intro e; subst e; exact vt_bool h
  · intro e; subst e
    cases h with
    | one h => cases h with
      | cell h => cases h with
        | same _ => rfl

theorem yielded_eq {ρ : Ren} {tm : Tm} {a : Act} (hF : FR ρ tm a) (ops : Array Oper) (j : Nat) : yieldedL ops.toList tm j = yielded ops a.tmps j := by
  unfold yieldedL yielded
  rw [Array.getElem?_toList]
  cases ops[j]? with
  | none => rfl
  | some o =>
    simp only [Option.bind_some]
    cases o.dst with
    | none => rfl
    | some d =>
      simp only [Option.bind_some]
      have h := hF.at_ d
      have hg : a.tmps.getD d undef = (a.tmps[d]?).getD undef := by simp [Array.getD_eq_getD_getElem?]
      rw [hg] at h
      cases ht : a.tmps[d]? with
      | none =>
        rw [ht] at h
        simp only [Option.getD_none] at h
        split
        · rename_i b hb
          have := (vt_isbool h b).1 hb
          cases this
        · rfl
      | some u =>
        rw [ht] at h
        simp only [Option.getD_some] at h
        cases u with
        | bool b => rw [(vt_isbool h b).2 rfl]
        | _ =>
          split
          · rename_i b hb
            have := (vt_isbool h b).1 hb
            cases this
          · rfl

theorem wanted_eq {ρ : Ren} {tm : Tm} {a : Act} (hF : FR ρ tm a) (ops : Array Oper) (o : Oper) : wantedL ops.toList tm o = Region.wanted o (yielded ops a.tmps) := by
  unfold wantedL Region.wanted
  cases o.guard with
  | none => rfl
  | some g => obtain ⟨j, want⟩ := g; simp only [yielded_eq hF]

theorem FR.put {ρ : Ren} {tm : Tm} {a : Act} {v v' : Value} {o : Oper} (hF : FR ρ tm a) (hd : dstOk a.tmps.size o = true) (hv : VT ρ v v') : FR ρ (putL tm o.dst v) (a.put o.dst v') := by
  unfold putL Act.put
  cases hdst : o.dst with
  | none => exact hF
  | some d =>
    have hlt : d < a.tmps.size := by simpa [dstOk, hdst] using hd
    refine ⟨fun i => ?_, hF.none⟩
    simp only
    by_cases hdi : d = i
    · subst hdi
      rw [Tm.at_set_eq]
      simp [Array.getD_eq_getD_getElem?, hlt]
      exact hv
    · rw [Tm.at_set_ne _ _ hdi]
      have := hF.at_ i
      simpa [Array.getD_eq_getD_getElem?, Array.getElem?_setIfInBounds, hdi] using this
theorem put_size (a : Act) (d : Option Tmp) (v : Value) : (a.put d v).tmps.size = a.tmps.size := by
  unfold Act.put; cases d <;> simp

theorem vt_fn {ρ : Ren} {f : FuncId} {first cap : Array Value} {v' : Value} (h : VT ρ (.func (.func f) first cap) v') (h0 : first.size = 0) : ∃ cap', v' = .func (.func f) #[] cap' ∧ L2 (VT ρ) cap.toList cap'.toList := by
  have hf : first = #[] := Array.size_eq_zero_iff.1 h0
  subst hf
  cases h with
  | one h => cases h with
    | cell h => cases h with
      | same hs =>
        have hc : cap = #[] := Array.size_eq_zero_iff.1 (by simpa [scalar] using hs)
        subst hc
        exact ⟨#[], rfl, .nil⟩
      | fn hs h => exact ⟨_, rfl, L2.of_get (by simpa using hs) fun i x y hx hy => .one (.cell (h i x y hx hy))⟩

/-- A call that is seen as one. -/
theorem callOf_sound {ρ : Ren} {H : Heap} {w : World} {tm : Tm} {a : Act} {o : Oper} {f : FuncId} {l : List Value} (hH : HR P B ρ H w) (hF : FR ρ tm a) (h : callOf P tm o = some (f, l)) :
    ∃ args : Array Value, L2 (VT ρ) l args.toList ∧ ∀ w1, (execOp a.eval o).run P w1 = .ok (.enter f args) w1 := by
  unfold callOf at h
  split at h
  · rename_i c hop
    split at h
    · rename_i g hg
      unfold calleeOf at h
      split at h
      · rename_i f' first cap hev
        split at h
        · rename_i h0
          split at h
          · rename_i fn hfn
            split at h
            · rename_i hb
              split at h <;> cases h
              rename_i l' hl
              obtain ⟨cap', e1, h2⟩ := vt_fn (ev_sound hH hF hev) h0
              have h3 := evs_sound hH hF _ _ hl
              refine ⟨c.args.map a.eval ++ cap', by simpa using h3.append h2, fun w1 => ?_⟩
              have hbody : ¬ fn.body = none := fun hh => by rw [hh] at hb; simp at hb
              simp [execOp, hop, resolve, hg, e1, Deferred.ofValue, invoke, callFunc, hfn, hbody, hb.2]
            · cases h
          · cases h
        · cases h
      · cases h
    · cases h
  · cases h

theorem noDefer_of {cf : CallF} {tm : Tm} {H : Heap} {o : Oper} {r : Res} (h : step P cf tm H o = some r) : noDefer o := by
  intro c hc
  unfold step callOf at h
  simp only [hc] at h
  simp [step1, hc] at h

/-- One operation. -/
theorem step_sound {cf : CallF} (hcf : CallOK P B cf) {ρ0 ρ : Ren} {w0 w : World} {n : Nat} {st : St} {a : Act} {o : Oper} {v : Value} {H' : Heap} {lo : Nat} (hd : dstOk n o = true) (h : RS P B ρ0 w0 n ρ st a w) (hs : step P cf st.tmps st.heap o = some (v, H', lo))
    (r : Option Nat) (k : Nat) (next : Act → World → Prop) (Q : Exit → Act → World → Prop)
    (hn : ∀ ρ' a' w', RS P B ρ0 w0 n ρ' ⟨putL st.tmps o.dst v, H', min st.lo lo⟩ a' w' → next a' w') : o.wpIn (Fr r) k P a w next Q := by
  refine ⟨fun _ _ => trivial, ?_⟩
  rw [semAt_of (noDefer_of hs)]
  unfold step at hs
  split at hs
  · rename_i f l hcall
    obtain ⟨args, h1, h2⟩ := callOf_sound h.hr h.fr hcall
    rw [h2 w]
    refine ⟨fun hh => (by cases hh), ?_⟩
    have hc := hcf f l st.heap v H' lo hs ρ w args (k - 1) h.hr h1
    refine (show CallsIn (Fr r) (k - 1) P f args w _ from hc).mono ?_
    rintro e w' ⟨ρ', v', rfl, h3, h4, h5⟩
    exact hn ρ' _ w' ⟨h4, (h.fr.mono h5.le).put (by rw [h.size]; exact hd) h3, by rw [put_size]; exact h.size, h.ext.trans h5⟩
  · obtain ⟨ρ', nx, v', w', h1, h2, h3, h4, h5⟩ := step1_sound h.hr h.fr hs
    rw [h1]
    have := hn ρ' (a.put o.dst v') w' ⟨h4, (h.fr.mono h5.le).put (by rw [h.size]; exact hd) h3, by rw [put_size]; exact h.size, h.ext.trans h5⟩
    rcases h2 with rfl | ⟨rfl, rfl⟩
    · exact this
    · exact this

/-- Operations in the text's order. -/
theorem opsL_sound {cf : CallF} (hcf : CallOK P B cf) {ρ0 : Ren} {w0 : World} {n : Nat} (ops : Array Oper) (hd : ∀ (i : Nat) (o : Oper), ops[i]? = some o → dstOk n o = true) (r : Option Nat) (kf : Nat) (Q : Exit → Act → World → Prop) (st' : St)
    (hQ : ∀ ρ' a' w', RS P B ρ0 w0 n ρ' st' a' w' → Q .normal a' w') : ∀ (l : List Oper) (k : Nat) (st : St) (ρ : Ren) (a : Act) (w : World), (∀ j, l[j]? = ops[k + j]?) → RS P B ρ0 w0 n ρ st a w → opsL P cf ops.toList l st = some st' →
    wpOpsIn (Fr r) kf P ops Q (List.range' k l.length) a w
  | [], k, st, ρ, a, w, _, h, hs => by
    simp only [opsL, Option.some.injEq] at hs
    subst hs
    exact hQ ρ a w h
  | o :: l, k, st, ρ, a, w, hl, h, hs => by
    have h0 : ops[k]? = some o := by simpa using (hl 0).symm
    have hl' : ∀ j, l[j]? = ops[k + 1 + j]? := fun j => by have := hl (j + 1); simpa [Nat.add_assoc, Nat.add_comm 1 j] using this
    rw [List.length_cons, List.range'_succ, wpOpsIn_cons]
    unfold wpOpIn
    simp only [h0]
    simp only [opsL, wanted_eq h.fr ops o] at hs
    split at hs
    · rename_i hw
      rw [if_pos hw]
      split at hs
      · rename_i v H' lo hst
        exact step_sound hcf (hd k o h0) h hst r kf _ _ fun ρ' a' w' h' => opsL_sound hcf ops hd r kf Q st' hQ l (k + 1) _ ρ' a' w' hl' h' hs
      · cases hs
    · rename_i hw
      rw [if_neg hw]
      refine ⟨fun _ _ => trivial, opsL_sound hcf ops hd r kf Q st' hQ l (k + 1) { st with tmps := putL st.tmps o.dst undef } ρ _ w hl' ⟨h.hr, h.fr.put (by rw [h.size]; exact hd k o h0) (VT.undef _), by rw [put_size]; exact h.size, h.ext⟩ hs⟩

/-- Operations in the text's order, and what comes behind. -/
theorem opsL_mid {cf : CallF} (hcf : CallOK P B cf) {ρ0 : Ren} {w0 : World} {n : Nat} (ops : Array Oper) (hd : ∀ (i : Nat) (o : Oper), ops[i]? = some o → dstOk n o = true) (r : Option Nat) (kf : Nat) (Q : Exit → Act → World → Prop) (R : Act → World → Prop) (st' : St)
    (hR : ∀ ρ' a' w', RS P B ρ0 w0 n ρ' st' a' w' → R a' w') : ∀ (l : List Oper) (k : Nat) (st : St) (ρ : Ren) (a : Act) (w : World), (∀ j, j < l.length → l[j]? = ops[k + j]?) → RS P B ρ0 w0 n ρ st a w → opsL P cf ops.toList l st = some st' →
    wpMid (Fr r) kf P ops Q R (List.range' k l.length) a w
  | [], k, st, ρ, a, w, _, h, hs => by
    simp only [opsL, Option.some.injEq] at hs
    subst hs
    exact hR ρ a w h
  | o :: l, k, st, ρ, a, w, hl, h, hs => by
    have h0 : ops[k]? = some o := by simpa using (hl 0 (by simp)).symm
    have hl' : ∀ j, j < l.length → l[j]? = ops[k + 1 + j]? := fun j hj => by have := hl (j + 1) (by simp; omega); simpa [Nat.add_assoc, Nat.add_comm 1 j] using this
    rw [List.length_cons, List.range'_succ]
    unfold wpMid wpOpIn
    simp only [h0]
    simp only [opsL, wanted_eq h.fr ops o] at hs
    split at hs
    · rename_i hw
      rw [if_pos hw]
      split at hs
      · rename_i v H' lo hst
        exact step_sound hcf (hd k o h0) h hst r kf _ _ fun ρ' a' w' h' => opsL_mid hcf ops hd r kf Q R st' hR l (k + 1) _ ρ' a' w' hl' h' hs
      · cases hs
    · rename_i hw
      rw [if_neg hw]
      refine ⟨fun _ _ => trivial, opsL_mid hcf ops hd r kf Q R st' hR l (k + 1) { st with tmps := putL st.tmps o.dst undef } ρ _ w hl' ⟨h.hr, h.fr.put (by rw [h.size]; exact hd k o h0) (VT.undef _), by rw [put_size]; exact h.size, h.ext⟩ hs⟩

/-- The head of a region that draws its order. -/
theorem headL_sound {cf : CallF} (hcf : CallOK P B cf) {ρ0 ρ : Ren} {w0 w : World} {n : Nat} (ops : Array Oper) (r : Option Nat) (kf : Nat) (K : Act → Prop) (st' : St)
    (hK : ∀ a', RS P B ρ0 w0 n ρ st' a' w → K a') : ∀ (l : List Oper) (st : St) (a : Act), (∀ o ∈ l, quietOp o = true ∧ dstOk n o = true) → RS P B ρ0 w0 n ρ st a w → headL P cf ops.toList l st = some st' →
    wpQuietIn (Fr r) kf P ops (fun w' => Below w.heap.size w w') K l a
  | [], st, a, _, h, hs => by
    simp only [headL, Option.some.injEq] at hs
    subst hs
    exact hK a h
  | o :: l, st, a, hl, h, hs => by
    refine ⟨fun _ _ _ _ => trivial, ?_⟩
    simp only [headL, wanted_eq h.fr ops o] at hs
    have hq := hl o (by simp)
    have go : ∀ v v', VT ρ v v' → headL P cf ops.toList l { st with tmps := putL st.tmps o.dst v } = some st' → wpQuietIn (Fr r) kf P ops (fun w' => Below w.heap.size w w') K l (a.put o.dst v') := fun v v' hv hs' =>
      headL_sound hcf ops r kf K st' hK l { st with tmps := putL st.tmps o.dst v } _ (fun o' ho' => hl o' (by simp [ho'])) ⟨h.hr, h.fr.put (by rw [h.size]; exact hq.2) hv, by rw [put_size]; exact h.size, h.ext⟩ hs'
    split at hs
    · rename_i hw
      rw [if_pos hw]
      split at hs
      · rename_i f args hcall
        split at hs
        · rename_i v H' lo hc
          split at hs
          · rename_i hp
            obtain ⟨args', h1, h2⟩ := callOf_sound h.hr h.fr hcall
            refine ⟨v, fun w1 hb => ?_, go v v (VT.of_plain hp.1) hs⟩
            unfold Oper.quietAtIn
            rw [h2 w1]
            refine ⟨rfl, fun hh => (by cases hh), ?_⟩
            have hH1 := h.hr.below hb
            have hcc := hcf f args st.heap v H' lo hc ρ w1 args' (kf - 1) hH1 h1
            refine (show CallsIn (Fr r) (kf - 1) P f args' w1 _ from hcc).mono ?_
            rintro e w2 ⟨ρ', v', rfl, h3, h4, h5⟩
            refine ⟨by rw [h3.plain hp.1], ?_⟩
            exact hb.trans ((h5.below hH1 hp.2).mono hb.size)
          · cases hs
        · cases hs
      · split at hs
        · rename_i v H' lo hst
          obtain ⟨⟨v', h1, h2⟩, _, _⟩ := step1_quiet h.hr h.fr hq.1 hst
          refine ⟨v', fun w1 hb => ?_, go v v' h1 hs⟩
          unfold Oper.quietAtIn
          rw [h2 w1 hb]
          exact ⟨rfl, rfl⟩
        · cases hs
    · rename_i hw
      rw [if_neg hw]
      exact go undef undef (VT.undef _) hs

end
end Go.AI
