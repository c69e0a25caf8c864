/- The abstract machine: the rules as equations, to be used from left to right. -/
import Derived.Test.YthjieekbbhhjgaaDoorEf
namespace Go.AI
section
variable {P : Program} [Oracle P]

theorem wc_skip {st : St} {Q : Exit → St → Prop} : WC P .skip st Q ↔ Q .normal st := by
  refine ⟨?_, WC.skip⟩
  rintro ⟨k, e, st', h1, h2⟩
  cases k with
  | zero => simp [exec] at h1
  | succ k => simp only [exec, Option.some.injEq, Prod.mk.injEq] at h1; obtain ⟨rfl, rfl⟩ := h1; exact h2
theorem wc_exit {id : Nat} {st : St} {Q : Exit → St → Prop} : WC P (.exit id) st Q ↔ Q (.exit id) st := by
  refine ⟨?_, WC.exit⟩
  rintro ⟨k, e, st', h1, h2⟩
  cases k with
  | zero => simp [exec] at h1
  | succ k => simp only [exec, Option.some.injEq, Prod.mk.injEq] at h1; obtain ⟨rfl, rfl⟩ := h1; exact h2
theorem wc_ret {st : St} {Q : Exit → St → Prop} : WC P .ret st Q ↔ Q .ret st := by
  refine ⟨?_, WC.ret⟩
  rintro ⟨k, e, st', h1, h2⟩
  cases k with
  | zero => simp [exec] at h1
  | succ k => simp only [exec, Option.some.injEq, Prod.mk.injEq] at h1; obtain ⟨rfl, rfl⟩ := h1; exact h2
theorem wc_seq {x y : Code} {st : St} {Q : Exit → St → Prop} : WC P (.seq x y) st Q ↔ WC P x st (andThen (fun st' => WC P y st' Q) Q) := by
  refine ⟨?_, WC.seq⟩
  rintro ⟨k, e, st', h1, h2⟩
  cases k with
  | zero => simp [exec] at h1
  | succ k =>
    simp only [exec] at h1
    split at h1
    · rename_i st1 hx
      exact ⟨k + 1, .normal, st1, exec_mono (fun _ _ _ _ h => h) k x st _ hx (k + 1) (by omega), k + 1, e, st', exec_mono (fun _ _ _ _ h => h) k y st1 _ h1 (k + 1) (by omega), h2⟩
    · rename_i hne
      refine ⟨k + 1, e, st', exec_mono (fun _ _ _ _ h => h) k x st _ h1 (k + 1) (by omega), ?_⟩
      cases e with
      | normal => exact absurd h1 (hne st')
      | _ => exact h2
theorem wc_cond {x : Operand} {y z : Code} {st : St} {Q : Exit → St → Prop} {b : Bool} (hx : ev P st.tmps x = some (.bool b)) : WC P (.cond x y z) st Q ↔ WC P (if b then y else z) st Q := by
  refine ⟨?_, WC.cond hx⟩
  rintro ⟨k, e, st', h1, h2⟩
  cases k with
  | zero => simp [exec] at h1
  | succ k =>
    simp only [exec, hx] at h1
    cases b <;> exact ⟨k + 1, e, st', exec_mono (fun _ _ _ _ h => h) k _ st _ h1 (k + 1) (by omega), h2⟩
theorem wc_block {id : Nat} {b : Code} {st : St} {Q : Exit → St → Prop} : WC P (.block id b) st Q ↔ WC P b st (inBlk id Q) := by
  refine ⟨?_, WC.block⟩
  rintro ⟨k, e, st', h1, h2⟩
  cases k with
  | zero => simp [exec] at h1
  | succ k =>
    simp only [exec] at h1
    split at h1
    · rename_i j st1 hx
      refine ⟨k + 1, .exit j, st1, exec_mono (fun _ _ _ _ h => h) k b st _ hx (k + 1) (by omega), ?_⟩
      split at h1
      · rename_i hj; cases h1; simp only [inBlk, hj, if_true]; exact h2
      · rename_i hj; cases h1; simp only [inBlk, hj, if_false]; exact h2
    · rename_i hne
      refine ⟨k + 1, e, st', exec_mono (fun _ _ _ _ h => h) k b st _ h1 (k + 1) (by omega), ?_⟩
      cases e with
      | exit j => exact absurd h1 (hne j st')
      | _ => exact h2
theorem wc_region {id : Nat} {ops : Array Oper} {st : St} {Q : Exit → St → Prop} : WC P (.region id ops false) st Q ↔ WO P ops.toList ops.toList st (Q .normal) := by
  refine ⟨?_, WC.region⟩
  rintro ⟨k, e, st', h1, h2⟩
  cases k with
  | zero => simp [exec] at h1
  | succ k =>
    simp only [exec, Bool.false_eq_true, if_false] at h1
    split at h1 <;> cases h1
    rename_i hx
    exact ⟨k + 1, st', hx, h2⟩
theorem wc_draw {id : Nat} {ops : Array Oper} {st : St} {Q : Exit → St → Prop} : WC P (.region id ops true) st Q ↔ WH P ops.toList (ops.toList.take (splitM ops.toList)) st (fun st1 => WO P ops.toList ((ops.toList.drop (splitM ops.toList)).take (splitQ ops.toList)) st1 (fun st2 => WH P ops.toList (ops.toList.drop (splitM ops.toList + splitQ ops.toList)) st2 (Q .normal))) := by
  refine ⟨?_, WC.draw⟩
  rintro ⟨k, e, st', h1, h2⟩
  cases k with
  | zero => simp [exec] at h1
  | succ k =>
    simp only [exec, if_true] at h1
    split at h1 <;> cases h1
    rename_i hx
    unfold drawL at hx
    split at hx
    · rename_i st1 hh
      split at hx
      · rename_i st2 hh2
        exact ⟨k + 1, st1, hh, k + 1, st2, hh2, k + 1, st', hx, h2⟩
      · cases hx
    · cases hx

theorem wo_nil {ops : List Oper} {st : St} {Q : St → Prop} : WO P ops [] st Q ↔ Q st := by
  refine ⟨?_, WO.nil⟩
  rintro ⟨k, st', h1, h2⟩
  simp only [opsL, Option.some.injEq] at h1; subst h1; exact h2
/-- One operation, as it is seen. -/
def oneOp (P : Program) [Oracle P] (ops : List Oper) (o : Oper) (st : St) (K : St → Prop) : Prop :=
  if wantedL ops st.tmps o = true then
    match callOf P st.tmps o with
    | some (f, args) => WF P f args st.heap (fun v H lo => K ⟨putL st.tmps o.dst v, H, min st.lo lo⟩)
    | none => match step1 P st.tmps st.heap o with
      | some (v, H, lo) => K ⟨putL st.tmps o.dst v, H, min st.lo lo⟩
      | none => False
  else K { st with tmps := putL st.tmps o.dst undef }
theorem wo_cons {ops l : List Oper} {o : Oper} {st : St} {Q : St → Prop} : WO P ops (o :: l) st Q ↔ oneOp P ops o st (fun st' => WO P ops l st' Q) := by
  unfold oneOp
  by_cases hw : wantedL ops st.tmps o = true
  · rw [if_pos hw]
    cases hc : callOf P st.tmps o with
    | some fa =>
      obtain ⟨f, args⟩ := fa
      refine ⟨?_, WO.call hw hc⟩
      rintro ⟨k, st', h1, h2⟩
      simp only [opsL, hw, if_true, AI.step, hc] at h1
      split at h1
      · rename_i v H lo hf
        exact ⟨k, v, H, lo, hf, k, st', h1, h2⟩
      · cases h1
    | none =>
      cases hs : step1 P st.tmps st.heap o with
      | some r =>
        obtain ⟨v, H, lo⟩ := r
        refine ⟨?_, WO.step hw hc hs⟩
        rintro ⟨k, st', h1, h2⟩
        simp only [opsL, hw, if_true, AI.step, hc, hs] at h1
        exact ⟨k, st', h1, h2⟩
      | none =>
        refine ⟨?_, False.elim⟩
        rintro ⟨k, st', h1, h2⟩
        simp [opsL, hw, AI.step, hc, hs] at h1
  · rw [if_neg hw]
    refine ⟨?_, WO.skip (by simpa using hw)⟩
    rintro ⟨k, st', h1, h2⟩
    simp only [opsL] at h1
    rw [if_neg hw] at h1
    exact ⟨k, st', h1, h2⟩

theorem wh_nil {ops : List Oper} {st : St} {Q : St → Prop} : WH P ops [] st Q ↔ Q st := by
  refine ⟨?_, WH.nil⟩
  rintro ⟨k, st', h1, h2⟩
  simp only [headL, Option.some.injEq] at h1; subst h1; exact h2
def oneHead (P : Program) [Oracle P] (ops : List Oper) (o : Oper) (st : St) (K : St → Prop) : Prop :=
  if wantedL ops st.tmps o = true then
    match callOf P st.tmps o with
    | some (f, args) => WF P f args st.heap (fun v _ lo => (plain v = true ∧ st.heap.n ≤ lo) ∧ K { st with tmps := putL st.tmps o.dst v })
    | none => match step1 P st.tmps st.heap o with
      | some (v, _, _) => K { st with tmps := putL st.tmps o.dst v }
      | none => False
  else K { st with tmps := putL st.tmps o.dst undef }
theorem wh_cons {ops l : List Oper} {o : Oper} {st : St} {Q : St → Prop} : WH P ops (o :: l) st Q ↔ oneHead P ops o st (fun st' => WH P ops l st' Q) := by
  unfold oneHead
  by_cases hw : wantedL ops st.tmps o = true
  · rw [if_pos hw]
    cases hc : callOf P st.tmps o with
    | some fa =>
      obtain ⟨f, args⟩ := fa
      refine ⟨?_, WH.call hw hc⟩
      rintro ⟨k, st', h1, h2⟩
      simp only [headL, hw, if_true, hc] at h1
      split at h1
      · rename_i v H lo hf
        split at h1
        · rename_i hp
          exact ⟨k, v, H, lo, hf, hp, k, st', h1, h2⟩
        · cases h1
      · cases h1
    | none =>
      cases hs : step1 P st.tmps st.heap o with
      | some r =>
        obtain ⟨v, H, lo⟩ := r
        refine ⟨?_, WH.step hw hc hs⟩
        rintro ⟨k, st', h1, h2⟩
        simp only [headL, hw, if_true, hc, hs] at h1
        exact ⟨k, st', h1, h2⟩
      | none =>
        refine ⟨?_, False.elim⟩
        rintro ⟨k, st', h1, h2⟩
        simp [headL, hw, hc, hs] at h1
  · rw [if_neg hw]
    refine ⟨?_, WH.skip (by simpa using hw)⟩
    rintro ⟨k, st', h1, h2⟩
    simp only [headL] at h1
    rw [if_neg hw] at h1
    exact ⟨k, st', h1, h2⟩

@[simp] theorem andThen_normal {K : St → Prop} {Q : Exit → St → Prop} {st : St} : andThen K Q .normal st ↔ K st := Iff.rfl
@[simp] theorem andThen_ret {K : St → Prop} {Q : Exit → St → Prop} {st : St} : andThen K Q .ret st ↔ Q .ret st := Iff.rfl
@[simp] theorem andThen_exit {K : St → Prop} {Q : Exit → St → Prop} {st : St} {j : Nat} : andThen K Q (.exit j) st ↔ Q (.exit j) st := Iff.rfl
@[simp] theorem inBlk_normal {id : Nat} {Q : Exit → St → Prop} {st : St} : inBlk id Q .normal st ↔ Q .normal st := Iff.rfl
@[simp] theorem inBlk_ret {id : Nat} {Q : Exit → St → Prop} {st : St} : inBlk id Q .ret st ↔ Q .ret st := Iff.rfl
@[simp] theorem inBlk_exit {id : Nat} {Q : Exit → St → Prop} {st : St} {j : Nat} : inBlk id Q (.exit j) st ↔ if j = id then Q .normal st else Q (.exit j) st := Iff.rfl

end
end Go.AI
