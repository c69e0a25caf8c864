/- The abstract machine: more fuel gives no other answer; rules by which code is walked. -/
import Derived.Test.YthjieekbbhhjgaaDoorEe
namespace Go.AI
section
variable {P : Program}

def Sub (cf cf' : CallF) : Prop := ∀ f l H r, cf f l H = some r → cf' f l H = some r

theorem step_mono {cf cf' : CallF} (h : Sub cf cf') {tm : Tm} {H : Heap} {o : Oper} {r : Res} (hs : step P cf tm H o = some r) : step P cf' tm H o = some r := by
  unfold step at hs ⊢
  split at hs
  · exact h _ _ _ _ hs
  · exact hs
theorem opsL_mono {cf cf' : CallF} (h : Sub cf cf') (ops : List Oper) : ∀ (l : List Oper) (st : St) (r : St), opsL P cf ops l st = some r → opsL P cf' ops l st = some r
  | [], _, _, hs => hs
  | o :: l, st, r, hs => by
    simp only [opsL] at hs ⊢
    split at hs
    · rename_i hw
      rw [if_pos hw]
      split at hs
      · rename_i v H lo h1
        rw [step_mono h h1]
        exact opsL_mono h ops l _ r hs
      · cases hs
    · rename_i hw
      rw [if_neg hw]
      exact opsL_mono h ops l _ r hs
theorem headL_mono {cf cf' : CallF} (h : Sub cf cf') (ops : List Oper) : ∀ (l : List Oper) (st : St) (r : St), headL P cf ops l st = some r → headL P cf' ops l st = some r
  | [], _, _, hs => hs
  | o :: l, st, r, hs => by
    simp only [headL] at hs ⊢
    split at hs
    · rename_i hw
      rw [if_pos hw]
      split at hs
      · rename_i f args hc
        split at hs
        · rename_i v H lo h1
          rw [h _ _ _ _ h1]
          split at hs
          · rename_i hp
            simp only
            rw [if_pos hp]
            exact headL_mono h ops l _ r hs
          · cases hs
        · cases hs
      · split at hs
        · rename_i v H lo h1
          exact headL_mono h ops l _ r hs
        · cases hs
    · rename_i hw
      rw [if_neg hw]
      exact headL_mono h ops l _ r hs

theorem drawL_mono {cf cf' : CallF} (h : Sub cf cf') (ops : List Oper) (st r : St) (hs : drawL P cf ops st = some r) : drawL P cf' ops st = some r := by
  unfold drawL at hs ⊢
  split at hs
  · rename_i st1 h1
    rw [headL_mono h _ _ _ _ h1]
    simp only
    split at hs
    · rename_i st2 h2
      rw [opsL_mono h _ _ _ _ h2]
      simp only
      exact headL_mono h _ _ _ _ hs
    · cases hs
  · cases hs
theorem exec_mono {cf cf' : CallF} (h : Sub cf cf') : ∀ (k : Nat) (c : Code) (st : St) (r : Exit × St), exec P cf k c st = some r → ∀ k', k ≤ k' → exec P cf' k' c st = some r := by
  intro k
  induction k with
  | zero => intro c st r hs; simp [exec] at hs
  | succ k ih =>
    intro c st r hs k' hk
    obtain ⟨k', rfl⟩ : ∃ j, k' = j + 1 := ⟨k' - 1, by omega⟩
    have hk' : k ≤ k' := by omega
    cases c with
    | region id ops draw =>
      simp only [exec] at hs ⊢
      cases draw with
      | false =>
        simp only [Bool.false_eq_true, if_false] at hs ⊢
        split at hs
        · rename_i st1 h1
          rw [opsL_mono h _ _ _ _ h1]; exact hs
        · cases hs
      | true =>
        simp only [if_true] at hs ⊢
        split at hs
        · rename_i st1 h1
          rw [drawL_mono h _ _ _ h1]; exact hs
        · cases hs
    | seq x y =>
      simp only [exec] at hs ⊢
      split at hs
      · rename_i st1 h1
        rw [ih x st _ h1 k' hk']
        exact ih y st1 r hs k' hk'
      · rename_i hne
        rw [ih x st _ hs k' hk']
        obtain ⟨e, st1⟩ := r
        cases e with
        | normal => exact absurd hs (hne st1)
        | _ => rfl
    | cond x y z =>
      simp only [exec] at hs ⊢
      split at hs
      · exact ih y st r hs k' hk'
      · exact ih z st r hs k' hk'
      · cases hs
    | block id b =>
      simp only [exec] at hs ⊢
      split at hs
      · rename_i j st1 h1
        rw [ih b st _ h1 k' hk']
        exact hs
      · rename_i hne
        rw [ih b st _ hs k' hk']
        obtain ⟨e, st1⟩ := r
        cases e with
        | exit j => exact absurd hs (hne j st1)
        | _ => rfl
    | loop b =>
      simp only [exec] at hs ⊢
      split at hs
      · rename_i st1 h1
        rw [ih b st _ h1 k' hk']
        exact ih (.loop b) st1 r hs k' hk'
      · rename_i hne
        rw [ih b st _ hs k' hk']
        obtain ⟨e, st1⟩ := r
        cases e with
        | normal => exact absurd hs (hne st1)
        | _ => rfl
    | scope b =>
      simp only [exec] at hs ⊢
      split at hs
      · cases hs
      · rename_i hne
        rw [ih b st _ hs k' hk']
        obtain ⟨e, st1⟩ := r
        cases e with
        | goto l => exact absurd hs (hne l st1)
        | _ => rfl
    | skip => exact hs
    | label l => exact hs
    | exit id => exact hs
    | ret => exact hs
    | _ => simp [exec] at hs

variable [Oracle P]
theorem call_succ : ∀ k, Sub (call P k) (call P (k + 1)) := by
  intro k
  induction k with
  | zero => intro f l H r h; simp [call] at h
  | succ k ih =>
    intro f l H r h
    rw [call] at h ⊢
    split at h
    · exact h
    split at h
    · rename_i fn hfn
      split at h
      · rename_i c hc
        split at h
        · rename_i hok
          try rw [if_pos hok]
          split at h
          · rename_i e st hx
            rw [exec_mono ih k _ _ _ hx (k + 1) (Nat.le_succ k)]
            exact h
          · cases h
        · cases h
      · cases h
    · cases h
theorem call_le {k k' : Nat} (h : k ≤ k') : Sub (call P k) (call P k') := by
  induction h with
  | refl => exact fun _ _ _ _ h => h
  | step _ ih => exact fun f l H r h => call_succ _ f l H r (ih f l H r h)

/-! ### Rules -/
structure WF (P : Program) [Oracle P] (f : FuncId) (l : List Value) (H : Heap) (Q : Value → Heap → Nat → Prop) : Prop where
  out : ∃ k v H' lo, call P k f l H = some (v, H', lo) ∧ Q v H' lo
def WC (P : Program) [Oracle P] (c : Code) (st : St) (Q : Exit → St → Prop) : Prop := ∃ k e st', exec P (call P k) k c st = some (e, st') ∧ Q e st'
def WO (P : Program) [Oracle P] (ops l : List Oper) (st : St) (Q : St → Prop) : Prop := ∃ k st', opsL P (call P k) ops l st = some st' ∧ Q st'
def WH (P : Program) [Oracle P] (ops l : List Oper) (st : St) (Q : St → Prop) : Prop := ∃ k st', headL P (call P k) ops l st = some st' ∧ Q st'

theorem WF.mono {f : FuncId} {l : List Value} {H : Heap} {Q Q' : Value → Heap → Nat → Prop} (h : WF P f l H Q) (hq : ∀ v H' lo, Q v H' lo → Q' v H' lo) : WF P f l H Q' := by
  obtain ⟨k, v, H', lo, h1, h2⟩ := h; exact ⟨k, v, H', lo, h1, hq _ _ _ h2⟩
theorem WC.mono {c : Code} {st : St} {Q Q' : Exit → St → Prop} (h : WC P c st Q) (hq : ∀ e st', Q e st' → Q' e st') : WC P c st Q' := by
  obtain ⟨k, e, st', h1, h2⟩ := h; exact ⟨k, e, st', h1, hq _ _ h2⟩
theorem WC.exec {c : Code} {st : St} {k : Nat} {e : Exit} {st' : St} (h : exec P (call P k) k c st = some (e, st')) {k' : Nat} (hk : k ≤ k') : exec P (call P k') k' c st = some (e, st') :=
  exec_mono (call_le hk) k c st _ h k' hk

/-- What follows an exit. -/
def andThen (K : St → Prop) (Q : Exit → St → Prop) : Exit → St → Prop
  | .normal, st => K st
  | e, st => Q e st
def inBlk (id : Nat) (Q : Exit → St → Prop) : Exit → St → Prop
  | .exit j, st => if j = id then Q .normal st else Q (.exit j) st
  | e, st => Q e st

theorem WC.skip {st : St} {Q : Exit → St → Prop} (h : Q .normal st) : WC P .skip st Q := ⟨1, _, _, rfl, h⟩
theorem WC.label {l : Nat} {st : St} {Q : Exit → St → Prop} (h : Q .normal st) : WC P (.label l) st Q := ⟨1, _, _, rfl, h⟩
theorem WC.exit {id : Nat} {st : St} {Q : Exit → St → Prop} (h : Q (.exit id) st) : WC P (.exit id) st Q := ⟨1, _, _, rfl, h⟩
theorem WC.ret {st : St} {Q : Exit → St → Prop} (h : Q .ret st) : WC P .ret st Q := ⟨1, _, _, rfl, h⟩
theorem WC.seq {x y : Code} {st : St} {Q : Exit → St → Prop} (h : WC P x st (andThen (fun st' => WC P y st' Q) Q)) : WC P (.seq x y) st Q := by
  obtain ⟨k, e, st', h1, h2⟩ := h
  cases e with
  | normal =>
    obtain ⟨k', e', st'', h3, h4⟩ := h2
    refine ⟨max k k' + 1, e', st'', ?_, h4⟩
    have h5 := exec_mono (call_le (show k ≤ max k k' + 1 by omega)) k _ _ _ h1 (max k k') (by omega)
    have h6 := exec_mono (call_le (show k' ≤ max k k' + 1 by omega)) k' _ _ _ h3 (max k k') (by omega)
    simp only [AI.exec, h5, h6]
  | _ =>
    refine ⟨k + 1, _, st', ?_, h2⟩
    have h5 := exec_mono (call_le (show k ≤ k + 1 by omega)) k _ _ _ h1 k (Nat.le_refl _)
    simp only [AI.exec, h5]
theorem WC.cond {x : Operand} {y z : Code} {st : St} {Q : Exit → St → Prop} {b : Bool} (hx : ev P st.tmps x = some (.bool b)) (h : WC P (if b then y else z) st Q) : WC P (.cond x y z) st Q := by
  obtain ⟨k, e, st', h1, h2⟩ := h
  refine ⟨k + 1, e, st', ?_, h2⟩
  have h5 := exec_mono (call_le (show k ≤ k + 1 by omega)) k _ _ _ h1 k (Nat.le_refl _)
  cases b <;> simp at h5 <;> simp only [AI.exec, hx, h5]
theorem WC.block {id : Nat} {b : Code} {st : St} {Q : Exit → St → Prop} (h : WC P b st (inBlk id Q)) : WC P (.block id b) st Q := by
  obtain ⟨k, e, st', h1, h2⟩ := h
  have h5 := exec_mono (call_le (show k ≤ k + 1 by omega)) k _ _ _ h1 k (Nat.le_refl _)
  cases e with
  | exit j =>
    simp only [inBlk] at h2
    split at h2
    · rename_i hj
      exact ⟨k + 1, .normal, st', by simp only [AI.exec, h5, hj, if_true], h2⟩
    · rename_i hj
      exact ⟨k + 1, .exit j, st', by simp only [AI.exec, h5, hj, if_false], h2⟩
  | _ => exact ⟨k + 1, _, st', by simp only [AI.exec, h5], h2⟩
/-- What follows a scope: no jump. -/
def inScp (Q : Exit → St → Prop) : Exit → St → Prop
  | .goto _, _ => False
  | e, st => Q e st
theorem WC.scope {b : Code} {st : St} {Q : Exit → St → Prop} (h : WC P b st (inScp Q)) : WC P (.scope b) st Q := by
  obtain ⟨k, e, st', h1, h2⟩ := h
  have h5 := exec_mono (call_le (show k ≤ k + 1 by omega)) k _ _ _ h1 k (Nat.le_refl _)
  cases e with
  | goto j => exact h2.elim
  | _ => exact ⟨k + 1, _, st', by simp only [AI.exec, h5], h2⟩
theorem WC.round {b : Code} {st : St} {Q : Exit → St → Prop} (h : WC P b st (andThen (fun st' => WC P (.loop b) st' Q) Q)) : WC P (.loop b) st Q := by
  obtain ⟨k, e, st', h1, h2⟩ := h
  cases e with
  | normal =>
    obtain ⟨k', e', st'', h3, h4⟩ := h2
    refine ⟨max k k' + 1, e', st'', ?_, h4⟩
    have h5 := exec_mono (call_le (show k ≤ max k k' + 1 by omega)) k _ _ _ h1 (max k k') (by omega)
    have h6 := exec_mono (call_le (show k' ≤ max k k' + 1 by omega)) k' _ _ _ h3 (max k k') (by omega)
    simp only [AI.exec, h5, h6]
  | _ =>
    refine ⟨k + 1, _, st', ?_, h2⟩
    have h5 := exec_mono (call_le (show k ≤ k + 1 by omega)) k _ _ _ h1 k (Nat.le_refl _)
    simp only [AI.exec, h5]
/-- A loop, by what holds at each round's head and by what each round lowers. -/
theorem WC.loop {b : Code} {Q : Exit → St → Prop} (I : St → Prop) (μ : St → Nat) (hr : ∀ st, I st → WC P b st (andThen (fun st' => I st' ∧ μ st' < μ st) Q)) : ∀ st, I st → WC P (.loop b) st Q := by
  have key : ∀ n st, μ st = n → I st → WC P (.loop b) st Q := by
    intro n
    induction n using Nat.strongRecOn with
    | _ n ih =>
      intro st hn hI
      refine WC.round ((hr st hI).mono fun e st' h => ?_)
      cases e with
      | normal => exact ih _ (by rw [← hn]; exact h.2) st' rfl h.1
      | _ => exact h
  exact fun st h => key _ st rfl h

theorem WO.nil {ops : List Oper} {st : St} {Q : St → Prop} (h : Q st) : WO P ops [] st Q := ⟨0, st, rfl, h⟩
theorem WO.skip {ops l : List Oper} {o : Oper} {st : St} {Q : St → Prop} (hw : wantedL ops st.tmps o = false) (h : WO P ops l { st with tmps := putL st.tmps o.dst undef } Q) : WO P ops (o :: l) st Q := by
  obtain ⟨k, st', h1, h2⟩ := h
  exact ⟨k, st', by simp only [opsL, hw, Bool.false_eq_true, if_false]; exact h1, h2⟩
theorem WO.step {ops l : List Oper} {o : Oper} {st : St} {Q : St → Prop} {v : Value} {H : Heap} {lo : Nat} (hw : wantedL ops st.tmps o = true) (hc : callOf P st.tmps o = none) (hs : step1 P st.tmps st.heap o = some (v, H, lo))
    (h : WO P ops l ⟨putL st.tmps o.dst v, H, min st.lo lo⟩ Q) : WO P ops (o :: l) st Q := by
  obtain ⟨k, st', h1, h2⟩ := h
  exact ⟨k, st', by simp only [opsL, hw, if_true, AI.step, hc, hs]; exact h1, h2⟩
theorem WO.call {ops l : List Oper} {o : Oper} {st : St} {Q : St → Prop} {f : FuncId} {args : List Value} (hw : wantedL ops st.tmps o = true) (hc : callOf P st.tmps o = some (f, args))
    (h : WF P f args st.heap (fun v H lo => WO P ops l ⟨putL st.tmps o.dst v, H, min st.lo lo⟩ Q)) : WO P ops (o :: l) st Q := by
  obtain ⟨k, v, H, lo, h1, k', st', h2, h3⟩ := h
  refine ⟨max k k', st', ?_, h3⟩
  have h4 := call_le (show k ≤ max k k' by omega) _ _ _ _ h1
  have h5 := opsL_mono (call_le (show k' ≤ max k k' by omega)) _ _ _ _ h2
  simp only [opsL, hw, if_true, AI.step, hc, h4]
  exact h5
theorem WH.nil {ops : List Oper} {st : St} {Q : St → Prop} (h : Q st) : WH P ops [] st Q := ⟨0, st, rfl, h⟩
theorem WH.skip {ops l : List Oper} {o : Oper} {st : St} {Q : St → Prop} (hw : wantedL ops st.tmps o = false) (h : WH P ops l { st with tmps := putL st.tmps o.dst undef } Q) : WH P ops (o :: l) st Q := by
  obtain ⟨k, st', h1, h2⟩ := h
  exact ⟨k, st', by simp only [headL, hw, Bool.false_eq_true, if_false]; exact h1, h2⟩
theorem WH.step {ops l : List Oper} {o : Oper} {st : St} {Q : St → Prop} {v : Value} {H : Heap} {lo : Nat} (hw : wantedL ops st.tmps o = true) (hc : callOf P st.tmps o = none) (hs : step1 P st.tmps st.heap o = some (v, H, lo))
    (h : WH P ops l { st with tmps := putL st.tmps o.dst v } Q) : WH P ops (o :: l) st Q := by
  obtain ⟨k, st', h1, h2⟩ := h
  exact ⟨k, st', by simp only [headL, hw, if_true, hc, hs]; exact h1, h2⟩
theorem WH.call {ops l : List Oper} {o : Oper} {st : St} {Q : St → Prop} {f : FuncId} {args : List Value} (hw : wantedL ops st.tmps o = true) (hc : callOf P st.tmps o = some (f, args))
    (h : WF P f args st.heap (fun v _ lo => (plain v = true ∧ st.heap.n ≤ lo) ∧ WH P ops l { st with tmps := putL st.tmps o.dst v } Q)) : WH P ops (o :: l) st Q := by
  obtain ⟨k, v, H, lo, h1, hp, k', st', h2, h3⟩ := h
  refine ⟨max k k', st', ?_, h3⟩
  have h4 := call_le (show k ≤ max k k' by omega) _ _ _ _ h1
  have h5 := headL_mono (call_le (show k' ≤ max k k' by omega)) _ _ _ _ h2
  simp only [headL, hw, if_true, hc, h4]
  rw [if_pos hp]
  exact h5
theorem WC.region {id : Nat} {ops : Array Oper} {st : St} {Q : Exit → St → Prop} (h : WO P ops.toList ops.toList st (Q .normal)) : WC P (.region id ops false) st Q := by
  obtain ⟨k, st', h1, h2⟩ := h
  refine ⟨k + 1, .normal, st', ?_, h2⟩
  have := opsL_mono (call_le (show k ≤ k + 1 by omega)) _ _ _ _ h1
  simp only [AI.exec, Bool.false_eq_true, if_false, this]
theorem WC.draw {id : Nat} {ops : Array Oper} {st : St} {Q : Exit → St → Prop} (h : WH P ops.toList (ops.toList.take (splitM ops.toList)) st (fun st1 => WO P ops.toList ((ops.toList.drop (splitM ops.toList)).take (splitQ ops.toList)) st1 (fun st2 => WH P ops.toList (ops.toList.drop (splitM ops.toList + splitQ ops.toList)) st2 (Q .normal)))) : WC P (.region id ops true) st Q := by
  obtain ⟨k, st1, h1, k', st2, h2, k'', st3, h3, h4⟩ := h
  refine ⟨max k (max k' k'') + 1, .normal, st3, ?_, h4⟩
  have e1 := headL_mono (call_le (show k ≤ max k (max k' k'') + 1 by omega)) _ _ _ _ h1
  have e2 := opsL_mono (call_le (show k' ≤ max k (max k' k'') + 1 by omega)) _ _ _ _ h2
  have e3 := headL_mono (call_le (show k'' ≤ max k (max k' k'') + 1 by omega)) _ _ _ _ h3
  simp only [AI.exec, if_true, drawL, e1, e2, e3]

/-- A call, by its body. -/
theorem WF.enter {f : FuncId} {l : List Value} {H : Heap} {Q : Value → Heap → Nat → Prop} {fn : Func} {c : Code} (hor : Oracle.val P f = none) (hf : P.funcs[f]? = some fn) (hb : fn.body = some c) (hok : codeOk fn.ntmps c = true) (hl : l.length ≤ fn.ntmps)
    (h : WC P c ⟨putArgs l 0 .leaf, H, H.n⟩ (fun e st => ended e = true ∧ ∃ vs, ressOf P st.tmps st.heap fn.results.toList = some vs ∧ vs.all notTuple = true ∧ Q (tupled vs) st.heap st.lo)) : WF P f l H Q := by
  obtain ⟨k, e, st, h1, h2, vs, h3, h4, h5⟩ := h
  refine ⟨k + 1, tupled vs, st.heap, st.lo, ?_, h5⟩
  rw [call]
  have hor' : oracle P f l H = none := by unfold oracle; rw [hor]
  simp only [hor', hf, hb]
  rw [if_pos ⟨hok, hl⟩]
  simp only [h1, h2, if_true, h3, h4]
theorem WF.known {f : FuncId} {v : Value} {H : Heap} {Q : Value → Heap → Nat → Prop} (ho : Oracle.val P f = some v) (hb : Oracle.base P H) (h : Q v H H.n) : WF P f [] H Q :=
  ⟨1, v, H, H.n, by rw [call]; unfold oracle; simp only [ho, hb, if_true], h⟩
end
end Go.AI
