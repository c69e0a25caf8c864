/- Several texts in one. -/
import Derived.Test.YtglkphjjinmgmaaX3
set_option linter.unusedVariables false
set_option linter.unusedSimpArgs false
namespace Go.AI
section
variable {P:Program}
def Sub (cf cf':CallF):Prop:=∀ f l H r,cf f l H = some r->cf' f l H = some r
theorem step_mono {cf cf':CallF} (h:Sub cf cf') {tm:Tm} {H:Heap} {o:Oper} {r:Res} (hs:step P cf tm H o = some r):step P cf' tm H o = some r:=by
  unfold step at hs ⊢
  split at hs
  · exact h _ _ _ _ hs
  · exact hs
theorem opsL_mono {cf cf':CallF} (h:Sub cf cf') (ops:List Oper):∀ (l:List Oper) (st:St) (r:St),opsL P cf ops l st = some r->opsL P cf' ops l st = some r
  | [],_,_,hs=>hs
  | o :: l,st,r,hs=>by
    simp only [opsL] at hs ⊢
    split at hs
    · rename_i hw
      rw [if_pos hw]
      split at hs
      · rename_i v H lo h1
        rw [step_mono h h1]
        exact opsL_mono h ops l _ r hs
      · cases hs
    · rename_i hw
      rw [if_neg hw]
      exact opsL_mono h ops l _ r hs
theorem headL_mono {cf cf':CallF} (h:Sub cf cf') (ops:List Oper):∀ (l:List Oper) (st:St) (r:St),headL P cf ops l st = some r->headL P cf' ops l st = some r
  | [],_,_,hs=>hs
  | o :: l,st,r,hs=>by
    simp only [headL] at hs ⊢
    split at hs
    · rename_i hw
      rw [if_pos hw]
      split at hs
      · rename_i f args hc
        split at hs
        · rename_i v H lo h1
          rw [h _ _ _ _ h1]
          split at hs
          · rename_i hp
            simp only
            rw [if_pos hp]
            exact headL_mono h ops l _ r hs
          · cases hs
        · cases hs
      · split at hs
        · rename_i v H lo h1
          exact headL_mono h ops l _ r hs
        · cases hs
    · rename_i hw
      rw [if_neg hw]
      exact headL_mono h ops l _ r hs
theorem drawL_mono {cf cf':CallF} (h:Sub cf cf') (ops:List Oper) (st r:St) (hs:drawL P cf ops st = some r):drawL P cf' ops st = some r:=by
  unfold drawL at hs ⊢
  split at hs
  · rename_i st1 h1
    rw [headL_mono h _ _ _ _ h1]
    simp only
    split at hs
    · rename_i st2 h2
      rw [opsL_mono h _ _ _ _ h2]
      simp only
      exact headL_mono h _ _ _ _ hs
    · cases hs
  · cases hs
theorem opsG_mono {cf cf':CallF} (h:Sub cf cf') (ops:List Oper):∀ (l:List Oper) (st:St) (r:St),opsG P cf ops l st = some r->opsG P cf' ops l st = some r
  | [],_,_,hs=>hs
  | o :: l,st,r,hs=>by
    simp only [opsG] at hs ⊢
    split at hs
    · rename_i hw
      rw [if_pos hw]
      split at hs
      · rename_i v H lo h1
        rw [step_mono h h1]
        split at hs
        · rename_i hlo
          simp only
          rw [if_pos hlo]
          exact opsG_mono h ops l _ r hs
        · cases hs
      · cases hs
    · rename_i hw
      rw [if_neg hw]
      exact opsG_mono h ops l _ r hs
theorem opsR_mono {cf cf':CallF} (h:Sub cf cf') (ops:List Oper):∀ (l:List (Nat × List Nat)) (V:List (Nat × Value)) (st:St) (r:St),opsR P cf ops l V st = some r->opsR P cf' ops l V st = some r
  | [],_,_,_,hs=>hs
  | (i,es) :: l,V,st,r,hs=>by
    simp only [opsR] at hs ⊢
    cases ho:ops[i]? with
    | none=>rw [ho] at hs; cases hs
    | some o =>
      rw [ho] at hs
      simp only at hs ⊢
      split at hs
      · rename_i hw
        rw [if_pos hw]
        split at hs
        · rename_i v H lo h1
          rw [step_mono h h1]
          simp only
          split at hs
          · rename_i hlo
            rw [if_pos hlo]
            exact opsR_mono h ops l _ _ r hs
          · rename_i hlo
            rw [if_neg hlo]
            split at hs
            · rename_i hrc
              rw [if_pos hrc]
              exact opsR_mono h ops l _ _ r hs
            · cases hs
        · cases hs
      · rename_i hw
        rw [if_neg hw]
        exact opsR_mono h ops l _ _ r hs
theorem opsR_of_G {cf:CallF} {md:Region.Mode} {ar:Array Oper} {M:List Nat} {q:Option Nat} (ops:List Oper) (har:ar = ops.toArray):∀ (is E:List Nat) (listed:Array Bool) (pl:List (Nat × List Nat)) (V:List (Nat × Value)) (st:St) (r:St),planR md ar M q is E listed = some pl->opsG P cf ops (pickOps ops is) st = some r->opsR P cf ops pl V st = some r
  | [],E,listed,pl,V,st,r,hp,hs=>by
    unfold planR at hp
    cases hdd:decide (Region.ready md ar listed = []) with
    | false=>rw [hdd] at hp; cases hp
    | true=>rw [hdd] at hp; cases hp; exact hs
  | i :: is,E,listed,pl,V,st,r,hp,hs=>by
    obtain ⟨o,es,pl',ho,rfl,_,hcase⟩:=planR_cons hp
    have ho':ops[i]? = some o:=by rw [har] at ho; simpa using ho
    simp only [pickOps,ho',opsG] at hs
    simp only [opsR,ho']
    obtain ⟨E',hp'⟩:∃ E',planR md ar M q is E' (listed.setIfInBounds i true) = some pl':=by
      rcases hcase with ⟨_,_,h1⟩ | ⟨_,_,_,h1,_⟩
      · exact ⟨_,h1⟩
      · exact ⟨_,h1⟩
    split at hs
    · rename_i hw
      rw [if_pos hw]
      split at hs
      · rename_i v H lo h1
        split at hs
        · rename_i hlo
          rw [if_pos hlo]
          exact opsR_of_G ops har is E' _ pl' _ _ r hp' hs
        · cases hs
      · cases hs
    · rename_i hw
      rw [if_neg hw]
      exact opsR_of_G ops har is E' _ pl' _ _ r hp' hs
theorem wideX_mono {cf cf':CallF} (h:Sub cf cf') (ops:List Oper) (st r:St) (hs:wideX P cf ops st = some r):wideX P cf' ops st = some r:=by
  unfold wideX at hs ⊢
  split at hs
  · rename_i pl hp; exact opsR_mono h _ _ _ _ _ hs
  · exact opsG_mono h _ _ _ _ hs
theorem wideX_of_G {cf:CallF} (ops:List Oper) (st r:St) (hs:opsG P cf ops (pickOps ops (wideI ops)) st = some r):wideX P cf ops st = some r:=by
  unfold wideX
  split
  · rename_i pl hp
    unfold planOf at hp
    cases hM:needOk .any ops.toArray (needM .any ops.toArray.toList []) with
    | false=>rw [hM] at hp; cases hp
    | true =>
      rw [hM,cond_true] at hp
      exact opsR_of_G ops rfl _ _ _ _ _ _ _ hp (by simpa using hs)
  · exact hs
theorem alX_mono {cf cf':CallF} (h:Sub cf cf') (ops:List Oper) (st r:St) (hs:alX P cf ops st = some r):alX P cf' ops st = some r:=by
  unfold alX at hs ⊢
  split at hs
  · split at hs
    · split at hs
      · exact opsR_mono h _ _ _ _ _ hs
      · cases hs
    · cases hs
  · cases hs
theorem drawX_mono {cf cf':CallF} (h:Sub cf cf') (ops:List Oper) (st r:St) (hs:drawX P cf ops st = some r):drawX P cf' ops st = some r:=by
  unfold drawX at hs ⊢
  cases hms:mSelP P ops with
  | true =>
    rw [hms,cond_true] at hs
    rw [cond_true]
    unfold mX at hs ⊢
    split at hs
    · exact opsR_mono h _ _ _ _ _ hs
    · cases hs
  | false =>
  rw [hms,cond_false] at hs
  rw [cond_false]
  cases hw:wideSel ops with
  | true =>
    rw [hw,cond_true] at hs
    rw [cond_true]
    cases ht:tlSel ops with
    | true =>
      rw [ht,cond_true] at hs
      rw [cond_true]
      unfold tlL at hs ⊢
      split at hs
      · rename_i st1 h1
        rw [opsG_mono h _ _ _ _ h1]
        exact opsL_mono h _ _ _ _ hs
      · cases hs
    | false =>
      rw [ht,cond_false] at hs
      rw [cond_false]
      cases ha:apSel ops with
      | true =>
        rw [ha,cond_true] at hs
        rw [cond_true]
        unfold apL at hs ⊢
        split at hs
        · rename_i st1 h1
          rw [opsG_mono h _ _ _ _ h1]
          exact opsL_mono h _ _ _ _ hs
        · cases hs
      | false =>
        rw [ha,cond_false] at hs
        rw [cond_false]
        cases hal:alSel ops with
        | true=>rw [hal,cond_true] at hs; rw [cond_true]; exact alX_mono h _ _ _ hs
        | false=>rw [hal,cond_false] at hs; rw [cond_false]; exact wideX_mono h _ _ _ hs
  | false=>rw [hw] at hs; exact drawL_mono h _ _ _ hs
theorem exec_mono {cf cf':CallF} (h:Sub cf cf'):∀ (k:Nat) (c:Code) (st:St) (r:Exit × St),exec P cf k c st = some r->∀ k',k<=k'->exec P cf' k' c st = some r:=by
  intro k
  induction k with
  | zero=>intro c st r hs; simp [exec] at hs
  | succ k ih =>
    intro c st r hs k' hk
    obtain ⟨k',rfl⟩:∃ j,k' = j + 1:=⟨k' - 1,by omega⟩
    have hk':k<=k':=by omega
    cases c with
    | region id ops draw =>
      simp only [exec] at hs ⊢
      cases draw with
      | false =>
        simp only [Bool.false_eq_true,if_false] at hs ⊢
        split at hs
        · rename_i st1 h1
          rw [opsL_mono h _ _ _ _ h1]; exact hs
        · cases hs
      | true =>
        simp only [if_true] at hs ⊢
        split at hs
        · rename_i st1 h1
          rw [drawX_mono h _ _ _ h1]; exact hs
        · cases hs
    | seq x y =>
      simp only [exec] at hs ⊢
      split at hs
      · rename_i st1 h1
        rw [ih x st _ h1 k' hk']
        exact ih y st1 r hs k' hk'
      · rename_i hne
        rw [ih x st _ hs k' hk']
        obtain ⟨e,st1⟩:=r
        cases e with
        | normal=>exact absurd hs (hne st1)
        | _=>rfl
    | cond x y z =>
      simp only [exec] at hs ⊢
      split at hs
      · exact ih y st r hs k' hk'
      · exact ih z st r hs k' hk'
      · cases hs
    | block id b =>
      simp only [exec] at hs ⊢
      split at hs
      · rename_i j st1 h1
        rw [ih b st _ h1 k' hk']
        exact hs
      · rename_i hne
        rw [ih b st _ hs k' hk']
        obtain ⟨e,st1⟩:=r
        cases e with
        | exit j=>exact absurd hs (hne j st1)
        | _=>rfl
    | loop b =>
      simp only [exec] at hs ⊢
      split at hs
      · rename_i st1 h1
        rw [ih b st _ h1 k' hk']
        exact ih (.loop b) st1 r hs k' hk'
      · rename_i hne
        rw [ih b st _ hs k' hk']
        obtain ⟨e,st1⟩:=r
        cases e with
        | normal=>exact absurd hs (hne st1)
        | _=>rfl
    | scope b =>
      simp only [exec] at hs ⊢
      split at hs
      · cases hs
      · rename_i hne
        rw [ih b st _ hs k' hk']
        obtain ⟨e,st1⟩:=r
        cases e with
        | goto l=>exact absurd hs (hne l st1)
        | _=>rfl
    | rangeFunc g ps x y =>
      simp only [exec] at hs ⊢
      split at hs
      · rename_i f cap hc
        split at hs
        · rename_i v H lo h1
          rw [h _ _ _ _ h1]
          exact hs
        · cases hs
      · cases hs
    | skip=>exact hs
    | label l=>exact hs
    | exit id=>exact hs
    | ret=>exact hs
    | _=>simp [exec] at hs
theorem round_mono {cf cf':CallF} (h:Sub cf cf') {k k':Nat} (hk:k<=k') {b:Nat} {l:List Value} {H:Heap} {r:Res} (hs:round P cf k b l H = some r):round P cf' k' b l H = some r:=by
  unfold round at hs ⊢
  split at hs
  · rename_i pend tm ps x y hg
    split at hs
    · rename_i hl
      rw [if_pos hl]
      split at hs
      · rename_i st1 h1
        rw [exec_mono h _ _ _ _ h1 k' hk]
        simp only
        split at hs
        · rename_i pend1 tm1 ps1 x1 y1 hg1
          split at hs
          · rename_i e2 st2 h2
            simp only [exec_mono h _ _ _ _ h2 k' hk]
            exact hs
          · cases hs
        · cases hs
      · cases hs
    · cases hs
  · cases hs
variable [Oracle P]
theorem call_succ:∀ k,Sub (call P k) (call P (k + 1)):=by
  intro k
  induction k with
  | zero=>intro f l H r h; cases f<;>simp [call] at h
  | succ k ih =>
    intro f l H r h
    cases f with
    | rnd b =>
      rw [call] at h ⊢
      exact round_mono ih (Nat.le_succ k) h
    | fn f =>
    rw [call] at h ⊢
    split at h
    · exact h
    split at h
    · rename_i fn hfn
      split at h
      · rename_i c hc
        split at h
        · rename_i hok
          try rw [if_pos hok]
          split at h
          · rename_i e st hx
            rw [exec_mono ih k _ _ _ hx (k + 1) (Nat.le_succ k)]
            exact h
          · cases h
        · cases h
      · cases h
    · cases h
theorem call_le {k k':Nat} (h:k<=k'):Sub (call P k) (call P k'):=by
  induction h with
  | refl=>exact fun _ _ _ _ h=>h
  | step _ ih=>exact fun f l H r h=>call_succ _ f l H r (ih f l H r h)
/-! ### Rules -/
structure WF (P:Program) [Oracle P] (f:Cal) (l:List Value) (H:Heap) (Q:Value->Heap->Nat->Prop):Prop where
  out:∃ k v H' lo,call P k f l H = some (v,H',lo)∧Q v H' lo
def WC (P:Program) [Oracle P] (c:Code) (st:St) (Q:Exit->St->Prop):Prop:=∃ k e st',exec P (call P k) k c st = some (e,st')∧Q e st'
def WO (P:Program) [Oracle P] (ops l:List Oper) (st:St) (Q:St->Prop):Prop:=∃ k st',opsL P (call P k) ops l st = some st'∧Q st'
def WG (P:Program) [Oracle P] (ops l:List Oper) (st:St) (Q:St->Prop):Prop:=∃ k st',opsG P (call P k) ops l st = some st'∧Q st'
def WR (P:Program) [Oracle P] (ops:List Oper) (l:List (Nat × List Nat)) (V:List (Nat × Value)) (st:St) (Q:St->Prop):Prop:=∃ k st',opsR P (call P k) ops l V st = some st'∧Q st'
def WH (P:Program) [Oracle P] (ops l:List Oper) (st:St) (Q:St->Prop):Prop:=∃ k st',headL P (call P k) ops l st = some st'∧Q st'
theorem WF.mono {f:Cal} {l:List Value} {H:Heap} {Q Q':Value->Heap->Nat->Prop} (h:WF P f l H Q) (hq:∀ v H' lo,Q v H' lo->Q' v H' lo):WF P f l H Q':=by
  obtain ⟨k,v,H',lo,h1,h2⟩:=h; exact ⟨k,v,H',lo,h1,hq _ _ _ h2⟩
theorem WC.mono {c:Code} {st:St} {Q Q':Exit->St->Prop} (h:WC P c st Q) (hq:∀ e st',Q e st'->Q' e st'):WC P c st Q':=by
  obtain ⟨k,e,st',h1,h2⟩:=h; exact ⟨k,e,st',h1,hq _ _ h2⟩
theorem WC.exec {c:Code} {st:St} {k:Nat} {e:Exit} {st':St} (h:exec P (call P k) k c st = some (e,st')) {k':Nat} (hk:k<=k'):exec P (call P k') k' c st = some (e,st') :=
  exec_mono (call_le hk) k c st _ h k' hk
def andThen (K:St->Prop) (Q:Exit->St->Prop):Exit->St->Prop
  | .normal,st=>K st
  | e,st=>Q e st
def inBlk (id:Nat) (Q:Exit->St->Prop):Exit->St->Prop
  | .exit j,st=>if j = id then Q .normal st else Q (.exit j) st
  | e,st=>Q e st
theorem WC.skip {st:St} {Q:Exit->St->Prop} (h:Q .normal st):WC P .skip st Q:=⟨1,_,_,rfl,h⟩
theorem WC.label {l:Nat} {st:St} {Q:Exit->St->Prop} (h:Q .normal st):WC P (.label l) st Q:=⟨1,_,_,rfl,h⟩
theorem WC.exit {id:Nat} {st:St} {Q:Exit->St->Prop} (h:Q (.exit id) st):WC P (.exit id) st Q:=⟨1,_,_,rfl,h⟩
theorem WC.ret {st:St} {Q:Exit->St->Prop} (h:Q .ret st):WC P .ret st Q:=⟨1,_,_,rfl,h⟩
theorem WC.seq {x y:Code} {st:St} {Q:Exit->St->Prop} (h:WC P x st (andThen (fun st'=>WC P y st' Q) Q)):WC P (.seq x y) st Q:=by
  obtain ⟨k,e,st',h1,h2⟩:=h
  cases e with
  | normal =>
    obtain ⟨k',e',st'',h3,h4⟩:=h2
    refine ⟨max k k' + 1,e',st'',?_,h4⟩
    have h5:=exec_mono (call_le (show k<=max k k' + 1 by omega)) k _ _ _ h1 (max k k') (by omega)
    have h6:=exec_mono (call_le (show k'<=max k k' + 1 by omega)) k' _ _ _ h3 (max k k') (by omega)
    simp only [AI.exec,h5,h6]
  | _ =>
    refine ⟨k + 1,_,st',?_,h2⟩
    have h5:=exec_mono (call_le (show k<=k + 1 by omega)) k _ _ _ h1 k (Nat.le_refl _)
    simp only [AI.exec,h5]
theorem WC.cond {x:Operand} {y z:Code} {st:St} {Q:Exit->St->Prop} {b:Bool} (hx:ev P st.tmps x = some (.bool b)) (h:WC P (if b then y else z) st Q):WC P (.cond x y z) st Q:=by
  obtain ⟨k,e,st',h1,h2⟩:=h
  refine ⟨k + 1,e,st',?_,h2⟩
  have h5:=exec_mono (call_le (show k<=k + 1 by omega)) k _ _ _ h1 k (Nat.le_refl _)
  cases b<;>simp at h5<;>simp only [AI.exec,hx,h5]
theorem WC.block {id:Nat} {b:Code} {st:St} {Q:Exit->St->Prop} (h:WC P b st (inBlk id Q)):WC P (.block id b) st Q:=by
  obtain ⟨k,e,st',h1,h2⟩:=h
  have h5:=exec_mono (call_le (show k<=k + 1 by omega)) k _ _ _ h1 k (Nat.le_refl _)
  cases e with
  | exit j =>
    simp only [inBlk] at h2
    split at h2
    · rename_i hj
      exact ⟨k + 1,.normal,st',by simp only [AI.exec,h5,hj,if_true],h2⟩
    · rename_i hj
      exact ⟨k + 1,.exit j,st',by simp only [AI.exec,h5,hj,if_false],h2⟩
  | _=>exact ⟨k + 1,_,st',by simp only [AI.exec,h5],h2⟩
def inScp (Q:Exit->St->Prop):Exit->St->Prop
  | .goto _,_=>False
  | e,st=>Q e st
theorem WC.scope {b:Code} {st:St} {Q:Exit->St->Prop} (h:WC P b st (inScp Q)):WC P (.scope b) st Q:=by
  obtain ⟨k,e,st',h1,h2⟩:=h
  have h5:=exec_mono (call_le (show k<=k + 1 by omega)) k _ _ _ h1 k (Nat.le_refl _)
  cases e with
  | goto j=>exact h2.elim
  | _=>exact ⟨k + 1,_,st',by simp only [AI.exec,h5],h2⟩
theorem WC.round {b:Code} {st:St} {Q:Exit->St->Prop} (h:WC P b st (andThen (fun st'=>WC P (.loop b) st' Q) Q)):WC P (.loop b) st Q:=by
  obtain ⟨k,e,st',h1,h2⟩:=h
  cases e with
  | normal =>
    obtain ⟨k',e',st'',h3,h4⟩:=h2
    refine ⟨max k k' + 1,e',st'',?_,h4⟩
    have h5:=exec_mono (call_le (show k<=max k k' + 1 by omega)) k _ _ _ h1 (max k k') (by omega)
    have h6:=exec_mono (call_le (show k'<=max k k' + 1 by omega)) k' _ _ _ h3 (max k k') (by omega)
    simp only [AI.exec,h5,h6]
  | _ =>
    refine ⟨k + 1,_,st',?_,h2⟩
    have h5:=exec_mono (call_le (show k<=k + 1 by omega)) k _ _ _ h1 k (Nat.le_refl _)
    simp only [AI.exec,h5]
theorem WO.nil {ops:List Oper} {st:St} {Q:St->Prop} (h:Q st):WO P ops [] st Q:=⟨0,st,rfl,h⟩
theorem WO.skip {ops l:List Oper} {o:Oper} {st:St} {Q:St->Prop} (hw:wantedL ops st.tmps o = false) (h:WO P ops l { st with tmps:=putL st.tmps o.dst undef } Q):WO P ops (o :: l) st Q:=by
  obtain ⟨k,st',h1,h2⟩:=h
  exact ⟨k,st',by simp only [opsL,hw,Bool.false_eq_true,if_false]; exact h1,h2⟩
theorem WO.step {ops l:List Oper} {o:Oper} {st:St} {Q:St->Prop} {v:Value} {H:Heap} {lo:Nat} (hw:wantedL ops st.tmps o = true) (hc:callOf P st.tmps o = none) (hs:step1 P st.tmps st.heap o = some (v,H,lo))
    (h:WO P ops l ⟨putL st.tmps o.dst v,H,min st.lo lo⟩ Q):WO P ops (o :: l) st Q:=by
  obtain ⟨k,st',h1,h2⟩:=h
  exact ⟨k,st',by simp only [opsL,hw,if_true,AI.step,hc,hs]; exact h1,h2⟩
theorem WO.call {ops l:List Oper} {o:Oper} {st:St} {Q:St->Prop} {f:Cal} {args:List Value} (hw:wantedL ops st.tmps o = true) (hc:callOf P st.tmps o = some (f,args))
    (h:WF P f args st.heap (fun v H lo=>WO P ops l ⟨putL st.tmps o.dst v,H,min st.lo lo⟩ Q)):WO P ops (o :: l) st Q:=by
  obtain ⟨k,v,H,lo,h1,k',st',h2,h3⟩:=h
  refine ⟨max k k',st',?_,h3⟩
  have h4:=call_le (show k<=max k k' by omega) _ _ _ _ h1
  have h5:=opsL_mono (call_le (show k'<=max k k' by omega)) _ _ _ _ h2
  simp only [opsL,hw,if_true,AI.step,hc,h4]
  exact h5
theorem WG.nil {ops:List Oper} {st:St} {Q:St->Prop} (h:Q st):WG P ops [] st Q:=⟨0,st,rfl,h⟩
theorem WG.skip {ops l:List Oper} {o:Oper} {st:St} {Q:St->Prop} (hw:wantedL ops st.tmps o = false) (h:WG P ops l { st with tmps:=putL st.tmps o.dst undef } Q):WG P ops (o :: l) st Q:=by
  obtain ⟨k,st',h1,h2⟩:=h
  exact ⟨k,st',by simp only [opsG,hw,Bool.false_eq_true,if_false]; exact h1,h2⟩
theorem WG.step {ops l:List Oper} {o:Oper} {st:St} {Q:St->Prop} {v:Value} {H:Heap} {lo:Nat} (hw:wantedL ops st.tmps o = true) (hc:callOf P st.tmps o = none) (hs:step1 P st.tmps st.heap o = some (v,H,lo)) (hlo:st.heap.n<=lo)
    (h:WG P ops l ⟨putL st.tmps o.dst v,H,min st.lo st.heap.n⟩ Q):WG P ops (o :: l) st Q:=by
  obtain ⟨k,st',h1,h2⟩:=h
  exact ⟨k,st',by simp only [opsG,hw,if_true,AI.step,hc,hs]; rw [if_pos hlo]; exact h1,h2⟩
theorem WG.call {ops l:List Oper} {o:Oper} {st:St} {Q:St->Prop} {f:Cal} {args:List Value} (hw:wantedL ops st.tmps o = true) (hc:callOf P st.tmps o = some (f,args))
    (h:WF P f args st.heap (fun v H lo=>st.heap.n<=lo∧WG P ops l ⟨putL st.tmps o.dst v,H,min st.lo st.heap.n⟩ Q)):WG P ops (o :: l) st Q:=by
  obtain ⟨k,v,H,lo,h1,hlo,k',st',h2,h3⟩:=h
  refine ⟨max k k',st',?_,h3⟩
  have h4:=call_le (show k<=max k k' by omega) _ _ _ _ h1
  have h5:=opsG_mono (call_le (show k'<=max k k' by omega)) _ _ _ _ h2
  simp only [opsG,hw,if_true,AI.step,hc,h4]
  rw [if_pos hlo]
  exact h5
theorem WR.nil {ops:List Oper} {V:List (Nat × Value)} {st:St} {Q:St->Prop} (h:Q st):WR P ops [] V st Q:=⟨0,st,rfl,h⟩
theorem WR.skip {ops:List Oper} {l:List (Nat × List Nat)} {V:List (Nat × Value)} {i:Nat} {es:List Nat} {o:Oper} {st:St} {Q:St->Prop} (ho:ops[i]? = some o) (hw:wantedL ops st.tmps o = false) (h:WR P ops l ((i,undef) :: V) { st with tmps:=putL st.tmps o.dst undef } Q):WR P ops ((i,es) :: l) V st Q:=by
  obtain ⟨k,st',h1,h2⟩:=h
  exact ⟨k,st',by simp only [opsR,ho,hw,Bool.false_eq_true,if_false]; exact h1,h2⟩
theorem WR.step {ops:List Oper} {l:List (Nat × List Nat)} {V:List (Nat × Value)} {i:Nat} {es:List Nat} {o:Oper} {st:St} {Q:St->Prop} {v:Value} {H:Heap} {lo:Nat} (ho:ops[i]? = some o) (hw:wantedL ops st.tmps o = true) (hc:callOf P st.tmps o = none) (hs:step1 P st.tmps st.heap o = some (v,H,lo)) (hlo:st.heap.n<=lo ∨ (recheckL P ops V st.tmps st.heap lo (putL st.tmps o.dst v) H es || (isStoreB o && recheckS P ops st.tmps st.heap lo es)) = true)
    (h:∀ lo',min st.lo (min lo st.heap.n)<=lo'->WR P ops l ((i,v) :: V) ⟨putL st.tmps o.dst v,H,lo'⟩ Q):WR P ops ((i,es) :: l) V st Q:=by
  by_cases hl:st.heap.n<=lo
  · obtain ⟨k,st',h1,h2⟩:=h (min st.lo st.heap.n) (by omega)
    exact ⟨k,st',by simp only [opsR,ho,hw,if_true,AI.step,hc,hs]; rw [if_pos hl]; exact h1,h2⟩
  · obtain ⟨k,st',h1,h2⟩:=h (min st.lo lo) (by omega)
    have hrc:=hlo.resolve_left hl
    exact ⟨k,st',by simp only [opsR,ho,hw,if_true,AI.step,hc,hs]; rw [if_neg hl,if_pos hrc]; exact h1,h2⟩
theorem WR.call {ops:List Oper} {l:List (Nat × List Nat)} {V:List (Nat × Value)} {i:Nat} {es:List Nat} {o:Oper} {st:St} {Q:St->Prop} {f:Cal} {args:List Value} (ho:ops[i]? = some o) (hw:wantedL ops st.tmps o = true) (hc:callOf P st.tmps o = some (f,args))
    (h:WF P f args st.heap (fun v H lo=>(st.heap.n<=lo ∨ (recheckL P ops V st.tmps st.heap lo (putL st.tmps o.dst v) H es || (isStoreB o && recheckS P ops st.tmps st.heap lo es)) = true)∧∀ lo',min st.lo (min lo st.heap.n)<=lo'->WR P ops l ((i,v) :: V) ⟨putL st.tmps o.dst v,H,lo'⟩ Q)):WR P ops ((i,es) :: l) V st Q:=by
  obtain ⟨k,v,H,lo,h1,hlo,h⟩:=h
  by_cases hl:st.heap.n<=lo
  · obtain ⟨k',st',h2,h3⟩:=h (min st.lo st.heap.n) (by omega)
    refine ⟨max k k',st',?_,h3⟩
    have h4:=call_le (show k<=max k k' by omega) _ _ _ _ h1
    have h5:=opsR_mono (call_le (show k'<=max k k' by omega)) _ _ _ _ _ h2
    simp only [opsR,ho,hw,if_true,AI.step,hc,h4]
    rw [if_pos hl]
    exact h5
  · obtain ⟨k',st',h2,h3⟩:=h (min st.lo lo) (by omega)
    have hrc:=hlo.resolve_left hl
    refine ⟨max k k',st',?_,h3⟩
    have h4:=call_le (show k<=max k k' by omega) _ _ _ _ h1
    have h5:=opsR_mono (call_le (show k'<=max k k' by omega)) _ _ _ _ _ h2
    simp only [opsR,ho,hw,if_true,AI.step,hc,h4]
    rw [if_neg hl,if_pos hrc]
    exact h5
theorem WH.nil {ops:List Oper} {st:St} {Q:St->Prop} (h:Q st):WH P ops [] st Q:=⟨0,st,rfl,h⟩
theorem WH.skip {ops l:List Oper} {o:Oper} {st:St} {Q:St->Prop} (hw:wantedL ops st.tmps o = false) (h:WH P ops l { st with tmps:=putL st.tmps o.dst undef } Q):WH P ops (o :: l) st Q:=by
  obtain ⟨k,st',h1,h2⟩:=h
  exact ⟨k,st',by simp only [headL,hw,Bool.false_eq_true,if_false]; exact h1,h2⟩
theorem WH.step {ops l:List Oper} {o:Oper} {st:St} {Q:St->Prop} {v:Value} {H:Heap} {lo:Nat} (hw:wantedL ops st.tmps o = true) (hc:callOf P st.tmps o = none) (hs:step1 P st.tmps st.heap o = some (v,H,lo))
    (h:WH P ops l { st with tmps:=putL st.tmps o.dst v } Q):WH P ops (o :: l) st Q:=by
  obtain ⟨k,st',h1,h2⟩:=h
  exact ⟨k,st',by simp only [headL,hw,if_true,hc,hs]; exact h1,h2⟩
theorem WH.call {ops l:List Oper} {o:Oper} {st:St} {Q:St->Prop} {f:Cal} {args:List Value} (hw:wantedL ops st.tmps o = true) (hc:callOf P st.tmps o = some (f,args))
    (h:WF P f args st.heap (fun v _ lo=>(plain v = true∧st.heap.n<=lo)∧WH P ops l { st with tmps:=putL st.tmps o.dst v } Q)):WH P ops (o :: l) st Q:=by
  obtain ⟨k,v,H,lo,h1,hp,k',st',h2,h3⟩:=h
  refine ⟨max k k',st',?_,h3⟩
  have h4:=call_le (show k<=max k k' by omega) _ _ _ _ h1
  have h5:=headL_mono (call_le (show k'<=max k k' by omega)) _ _ _ _ h2
  simp only [headL,hw,if_true,hc,h4]
  rw [if_pos hp]
  exact h5
theorem WC.region {id:Nat} {ops:Array Oper} {st:St} {Q:Exit->St->Prop} (h:WO P ops.toList ops.toList st (Q .normal)):WC P (.region id ops false) st Q:=by
  obtain ⟨k,st',h1,h2⟩:=h
  refine ⟨k + 1,.normal,st',?_,h2⟩
  have:=opsL_mono (call_le (show k<=k + 1 by omega)) _ _ _ _ h1
  simp only [AI.exec,Bool.false_eq_true,if_false,this]
theorem WC.wide {id:Nat} {ops:Array Oper} {st:St} {Q:Exit->St->Prop} (hs:wideSel ops.toList = true) (ht:tlSel ops.toList = false) (hx:apSel ops.toList = false) (hal:alSel ops.toList = false) (h:WG P ops.toList (pickOps ops.toList (wideI ops.toList)) st (Q .normal)) (hms:mSelP P ops.toList = false):WC P (.region id ops true) st Q:=by
  obtain ⟨k,st',h1,h2⟩:=h
  refine ⟨k + 1,.normal,st',?_,h2⟩
  have:=opsG_mono (call_le (show k<=k + 1 by omega)) _ _ _ _ h1
  simp only [AI.exec,if_true,drawX,hms,hs,ht,hx,hal,cond_true,cond_false,wideX_of_G _ _ _ this]
theorem WC.wideR {id:Nat} {ops:Array Oper} {st:St} {Q:Exit->St->Prop} {pl:List (Nat × List Nat)} (hs:wideSel ops.toList = true) (ht:tlSel ops.toList = false) (hx:apSel ops.toList = false) (hal:alSel ops.toList = false) (hp:planOf ops = some pl) (h:WR P ops.toList pl [] st (Q .normal)) (hms:mSelP P ops.toList = false):WC P (.region id ops true) st Q:=by
  obtain ⟨k,st',h1,h2⟩:=h
  refine ⟨k + 1,.normal,st',?_,h2⟩
  have:=opsR_mono (call_le (show k<=k + 1 by omega)) _ _ _ _ _ h1
  have e:wideX P (call P (k + 1)) ops.toList st = some st':=by
    unfold wideX
    rw [show ops.toList.toArray = ops from Array.toArray_toList ..,hp]
    exact this
  simp only [AI.exec,if_true,drawX,hms,hs,ht,hx,hal,cond_true,cond_false,e]
theorem WC.mX {id:Nat} {ops:Array Oper} {st:St} {Q:Exit->St->Prop} {pl:List (Nat × List Nat)} (hms:mSelP P ops.toList = true) (hp:planM ops = some pl) (h:WR P ops.toList pl [] st (Q .normal)):WC P (.region id ops true) st Q:=by
  obtain ⟨k,st',h1,h2⟩:=h
  refine ⟨k + 1,.normal,st',?_,h2⟩
  have:=opsR_mono (call_le (show k<=k + 1 by omega)) _ _ _ _ _ h1
  have e:AI.mX P (call P (k + 1)) ops.toList st = some st':=by
    unfold AI.mX
    rw [show ops.toList.toArray = ops from Array.toArray_toList ..,hp]
    exact this
  simp only [AI.exec,if_true,drawX,hms,cond_true,e]
theorem WC.al {id:Nat} {ops:Array Oper} {st:St} {Q:Exit->St->Prop} {a0:Nat} {pl:List (Nat × List Nat)} (ht:tlSel ops.toList = false) (hx:apSel ops.toList = false) (hal:alSel ops.toList = true) (hp:planA ops = some (a0,pl)) (hz:∃ o r,ops.toList[a0]? = some o∧step1 P st.tmps st.heap o = some r) (h:WR P ops.toList pl [] st (Q .normal)) (hms:mSelP P ops.toList = false):WC P (.region id ops true) st Q:=by
  obtain ⟨k,st',h1,h2⟩:=h
  obtain ⟨o,r,h3,h4⟩:=hz
  refine ⟨k + 1,.normal,st',?_,h2⟩
  have:=opsR_mono (call_le (show k<=k + 1 by omega)) _ _ _ _ _ h1
  have hs:wideSel ops.toList = true:=by unfold wideSel; simp [hal]
  have e:alX P (call P (k + 1)) ops.toList st = some st':=by
    unfold alX
    rw [show ops.toList.toArray = ops from Array.toArray_toList ..,hp]
    simp only [h3,h4]
    exact this
  simp only [AI.exec,if_true,drawX,hms,hs,ht,hx,hal,cond_true,cond_false,e]
theorem WC.ap {id:Nat} {ops:Array Oper} {st:St} {Q:Exit->St->Prop} (ht:tlSel ops.toList = false) (hx:apSel ops.toList = true) (h:WG P ops.toList (pickOps ops.toList (apI ops.toList)) st (fun st1=>WO P ops.toList (pickOps ops.toList [ops.toList.length - 3,ops.toList.length - 3 + 1,ops.toList.length - 3 + 2]) st1 (Q .normal))) (hms:mSelP P ops.toList = false):WC P (.region id ops true) st Q:=by
  obtain ⟨k1,st1,h1,k2,st2,h2,h3⟩:=h
  refine ⟨max k1 k2 + 1,.normal,st2,?_,h3⟩
  have e1:=opsG_mono (call_le (show k1<=max k1 k2 + 1 by omega)) _ _ _ _ h1
  have e2:=opsL_mono (call_le (show k2<=max k1 k2 + 1 by omega)) _ _ _ _ h2
  have hs:wideSel ops.toList = true:=by unfold wideSel; simp [hx]
  simp only [AI.exec,if_true,drawX,hms,hs,ht,hx,cond_true,cond_false,apL,e1,e2]
theorem WC.draw {id:Nat} {ops:Array Oper} {st:St} {Q:Exit->St->Prop} (hs:wideSel ops.toList = false) (h:WH P ops.toList (ops.toList.take (splitM ops.toList)) st (fun st1=>WO P ops.toList ((ops.toList.drop (splitM ops.toList)).take (splitQ ops.toList)) st1 (fun st2=>WH P ops.toList (ops.toList.drop (splitM ops.toList + splitQ ops.toList)) st2 (Q .normal)))) (hms:mSelP P ops.toList = false):WC P (.region id ops true) st Q:=by
  obtain ⟨k,st1,h1,k',st2,h2,k'',st3,h3,h4⟩:=h
  refine ⟨max k (max k' k'') + 1,.normal,st3,?_,h4⟩
  have e1:=headL_mono (call_le (show k<=max k (max k' k'') + 1 by omega)) _ _ _ _ h1
  have e2:=opsL_mono (call_le (show k'<=max k (max k' k'') + 1 by omega)) _ _ _ _ h2
  have e3:=headL_mono (call_le (show k''<=max k (max k' k'') + 1 by omega)) _ _ _ _ h3
  simp only [AI.exec,if_true,drawX,hms,hs,cond_false,drawL,e1,e2,e3]
theorem WF.enter {f:FuncId} {l:List Value} {H:Heap} {Q:Value->Heap->Nat->Prop} {fn:Func} {c:Code} (hor:Oracle.val P f = none) (hf:P.funcs[f]? = some fn) (hb:fn.body = some c) (hok:codeOk fn.ntmps c = true) (hl:l.length<=fn.ntmps)
    (h:WC P c ⟨putArgs l 0 .leaf,H,H.n⟩ (fun e st=>ended e = true∧∃ vs,ressOf P st.tmps st.heap fn.results.toList = some vs∧vs.all notTuple = true∧Q (tupled vs) st.heap st.lo)) (hwi:Oracle.wild P f = false:=by rfl):WF P (.fn f) l H Q:=by
  obtain ⟨k,e,st,h1,h2,vs,h3,h4,h5⟩:=h
  refine ⟨k + 1,tupled vs,st.heap,st.lo,?_,h5⟩
  rw [call]
  have hor':oracle P f l H = none:=by unfold oracle; simp only [hor,hwi,cond_false]
  simp only [hor',hf,hb]
  rw [if_pos ⟨hok,hl⟩]
  simp only [h1,h2,if_true,h3,h4]
theorem WF.round {b:Nat} {l:List Value} {H:Heap} {Q:Value->Heap->Nat->Prop} {pend:Option Code} {tm:Tm} {ps:Array Tmp} {x y:Code} (hg:H.get b = some (.loop .ready pend tm ps x y)) (hl:l.length = ps.size)
    (h:WC P x ⟨putPs (ps.toList.zip l) tm,H,H.n⟩ (fun e st=>e = .normal∧∃ pend1 tm1 ps1 x1 y1,st.heap.get b = some (.loop .ready pend1 tm1 ps1 x1 y1) ∧
      WC P y ⟨st.tmps,st.heap.set b (.loop .busy pend1 tm1 ps1 x1 y1),min st.lo b⟩ (fun e2 st2=>∃ s2 pend2 tm2 ps2 x2 y2 j,st2.heap.get b = some (.loop s2 pend2 tm2 ps2 x2 y2)∧pendOf e2 = some j ∧
        Q (.bool j.isNone) (st2.heap.set b (.loop (bif j.isNone then .ready else .done) j tm2 ps2 x2 y2)) (min st2.lo b)))):WF P (.rnd b) l H Q:=by
  obtain ⟨k,e,st,h1,rfl,pend1,tm1,ps1,x1,y1,h2,k',e2,st2,h3,s2,pend2,tm2,ps2,x2,y2,j,h4,h5,h6⟩:=h
  refine ⟨max k k' + 1,_,_,_,?_,h6⟩
  rw [call]
  have g1:=WC.exec h1 (Nat.le_max_left k k')
  have g2:=WC.exec h3 (Nat.le_max_right k k')
  unfold AI.round
  simp only [hg]
  rw [if_pos hl]
  simp only [g1,h2,g2,h4,h5]
theorem WC.rangeFunc {g:Operand} {ps:Array Tmp} {x y:Code} {st:St} {Q:Exit->St->Prop} {f:FuncId} {cap:List Value} (hc:iterOf P st.tmps g = some (f,cap))
    (h:WF P (.fn f) (.func (.yield st.heap.n) #[] #[] :: cap) (st.heap.new (.loop .ready none st.tmps ps x y)) (fun _ H lo=>∃ s pend tm ps' x' y' e,H.get st.heap.n = some (.loop s pend tm ps' x' y')∧notBusy s = true∧jumpOf pend = some e ∧
      Q e ⟨st.tmps,H.set st.heap.n (.loop .exhausted pend tm ps' x' y'),min (min st.lo st.heap.n) lo⟩)):WC P (.rangeFunc g ps x y) st Q:=by
  obtain ⟨k,v,H,lo,h1,s,pend,tm,ps',x',y',e,h2,h3,h4,h5⟩:=h
  refine ⟨k + 1,e,_,?_,h5⟩
  have g1:=call_le (show k<=k + 1 by omega) _ _ _ _ h1
  simp only [AI.exec,hc,g1,loopEnd,h2,h3,h4,if_true]
end
end Go.AI
namespace Go.AI
section
variable {P:Program} [Oracle P]
@[simp] theorem andThen_normal {K:St->Prop} {Q:Exit->St->Prop} {st:St}:andThen K Q .normal st ↔ K st:=Iff.rfl
@[simp] theorem andThen_ret {K:St->Prop} {Q:Exit->St->Prop} {st:St}:andThen K Q .ret st ↔ Q .ret st:=Iff.rfl
@[simp] theorem andThen_exit {K:St->Prop} {Q:Exit->St->Prop} {st:St} {j:Nat}:andThen K Q (.exit j) st ↔ Q (.exit j) st:=Iff.rfl
@[simp] theorem inBlk_normal {id:Nat} {Q:Exit->St->Prop} {st:St}:inBlk id Q .normal st ↔ Q .normal st:=Iff.rfl
@[simp] theorem inBlk_ret {id:Nat} {Q:Exit->St->Prop} {st:St}:inBlk id Q .ret st ↔ Q .ret st:=Iff.rfl
@[simp] theorem inBlk_exit {id:Nat} {Q:Exit->St->Prop} {st:St} {j:Nat}:inBlk id Q (.exit j) st ↔ if j = id then Q .normal st else Q (.exit j) st:=Iff.rfl
end
end Go.AI
namespace Go.AI
section
variable (P:Program)
abbrev Kn:=Tr Value
def Agree (tm:Tm) (L:Kn):Prop:=∀ i v,L.get i = some v->Tm.at tm i = v
def getK:Kn->Nat->(Value->Prop)->Prop
  | .leaf,_,_=>False
  | .node l v r,i,K=>bif Nat.beq i 0 then (match v with | some v=>K v | none=>False) else
      bif Nat.beq (i % 2) 1 then getK l (i / 2) K else getK r (i / 2 - 1) K
def setK:Nat->Kn->Nat->Value->(Kn->Prop)->Prop
  | 0,_,_,_,_=>False
  | f + 1,.leaf,i,v,K=>bif Nat.beq i 0 then K (.node .leaf (some v) .leaf) else
      bif Nat.beq (i % 2) 1 then setK f .leaf (i / 2) v fun l=>K (.node l none .leaf) else setK f .leaf (i / 2 - 1) v fun r=>K (.node .leaf none r)
  | f + 1,.node l u r,i,v,K=>bif Nat.beq i 0 then K (.node l (some v) r) else
      bif Nat.beq (i % 2) 1 then setK f l (i / 2) v fun l=>K (.node l u r) else setK f r (i / 2 - 1) v fun r=>K (.node l u r)
def putK (L:Kn) (d:Option Tmp) (v:Value) (K:Kn->Prop):Prop :=
  match d with
  | some d=>setK 14 L d v K
  | none=>K L
def mkK:List (Nat × Value)->Kn->(Kn->Prop)->Prop
  | [],L,K=>K L
  | (i,v) :: r,L,K=>setK 14 L i v fun L=>mkK r L K
def nthK {α:Type}:List α->Nat->(α->Prop)->Prop
  | [],_,_=>False
  | x :: l,i,K=>bif Nat.beq i 0 then K x else nthK l (i - 1) K
def evK (L:Kn) (x:Operand) (K:Value->Prop):Prop :=
  match x with
  | .tmp t=>getK L t K
  | .const v=>bif plain v then K v else False
  | .global g=>bif Nat.blt g P.globals.size then K (.pointer (some ⟨g,0,none⟩)) else False
  | .func f=>K (.func (.func f) #[] #[])
def evsK (L:Kn):List Operand->(List Value->Prop)->Prop
  | [],K=>K []
  | x :: r,K=>evK P L x fun v=>evsK L r fun l=>K (v :: l)
def evPartsK (L:Kn):List (Nat × Operand)->(List (Nat × Value)->Prop)->Prop
  | [],K=>K []
  | (i,x) :: r,K=>evK P L x fun v=>evPartsK L r fun l=>K ((i,v) :: l)
def evO (L:Kn) (x:Option Operand) (K:Option (Option Value)->Prop):Prop :=
  match x with
  | none=>K none
  | some x=>evK P L x fun v=>K (some (some v))
def other (o:Oper) (L:Kn) (H:Heap) (K:Value->Heap->Prop):Prop :=
  ∃ v,(∀ tm,Agree tm L->step1 P tm H o = some (v,H,H.n))∧K v H
def inI64 (n:Int):Prop:=-9223372036854775808<=n∧n < 9223372036854775808
def sayInt (wr:Bool) (k:IntKind) (n:Int) (K:Value->Prop):Prop :=
  match wr,k with
  | false,.i64=>inI64 n∧K (.int .i64 n)
  | _,k=>∀ r,r = k.wrap n->K (.int k r)
def ask (p:Prop) (K:Value->Prop):Prop:=(p->K (.bool true))∧(¬ p->K (.bool false))
def binK (wr:Bool) (op:BinOp) (a b:Value) (K:Value->Prop) (other:Prop):Prop :=
  match a,b with
  | .int k x,.int j y=>bif decide (k = j) then
      (match op with
      | .add=>sayInt wr k (x + y) K
      | .sub=>sayInt wr k (x - y) K
      | .mul=>sayInt wr k (x * y) K
      | .eql=>ask (x = y) K
      | .neq=>ask (¬ x = y) K
      | .lss=>ask (x < y) K
      | .leq=>ask (x<=y) K
      | .gtr=>ask (y < x) K
      | .geq=>ask (y<=x) K
      | _=>other)
    else other
  | _,_=>other
def vcOp (B:Nat) (wr:Bool) (o:Oper) (L:Kn) (H:Heap) (K:Value->Heap->Prop):Prop :=
  match o.op with
  | .move x=>evK P L x fun v=>K v H
  | .assign x=>evK P L x fun v=>K v H
  | .pick c a b=>evK P L c fun v=>match v with
    | .bool true=>evK P L a fun v=>K v H
    | .bool false=>evK P L b fun v=>K v H
    | _=>False
  | .alloc t=>∃ v H',sAlloc P H t = some (v,H',H.n)∧K v H'
  | .box t x=>evK P L x fun v=>notTuple v = true∧K (.pointer (some ⟨H.n,0,none⟩)) (anew H v.cells.toList t 1)
  | .load t x=>evK P L x fun p=>∃ r,aload P t H p = some r∧K r H
  | .store t x y=>evK P L x fun a=>evK P L y fun v=>∃ H' b,astore P t H v a = some (H',b)∧B<=b∧K undef H'
  | .nilCheck x=>evK P L x fun v=>∃ r,nilOk v = some r∧K r H
  | .makeFunc fn first cap=>match fn with
    | .func f=>evsK P L first.toList fun l1=>l1.all cellLike = true∧evsK P L cap.toList fun l=>l.all cellLike = true∧K (.func (.func f) l1.toArray l.toArray) H
    | _=>False
  | .makeMap _ r=>match r with
    | none=>K (.map (some H.n)) (H.new (.map []))
    | some _=>False
  | .makeSlice t l c=>evK P L l fun l=>evK P L c fun c=>∃ v H',amakeSlice P H t l c = some (v,H',H.n)∧K v H'
  | .slice t x lo hi mx=>match mx with
    | some _=>False
    | none=>evK P L x fun v=>evO P L lo fun lo=>evO P L hi fun hi=>∃ r,aslice P t v lo hi = some r∧K r H
  | .fieldAddr s x f=>evK P L x fun v=>∃ r,afieldAddr P s v f = some r∧K r H
  | .indexAddr t x i=>evK P L x fun v=>evK P L i fun i=>∃ r,aindexAddr P t v i = some r∧K r H
  | .field t x f=>evK P L x fun v=>∃ r,afield P t v f = some r∧K r H
  | .index t x i=>evK P L x fun v=>evK P L i fun i=>∃ r,aindex P t v i = some r∧K r H
  | .extract x i=>evK P L x fun v=>match v with
    | .tuple vs=>nthK vs.toList i fun r=>K r H
    | _=>False
  | .build t parts=>evPartsK P L parts.toList fun l=>∃ r,abuild P t l = some r∧K r H
  | .buildSlice t len parts=>evPartsK P L parts.toList fun l=>∃ v H',abuildSlice P H t len l = some (v,H',H.n)∧K v H'
  | .lookup t x k ok=>evK P L x fun x=>evK P L k fun k=>∃ r,alookup P H t x k ok = some r∧K r H
  | .mapUpdate t m k x=>evK P L m fun m=>evK P L k fun k=>evK P L x fun x=>∃ H' b,amapUpdate P H t m k x = some (H',b)∧B<=b∧K undef H'
  | .insert t m k x=>evK P L m fun m=>evK P L k fun k=>evK P L x fun x=>∃ H' b,amapUpdate P H t m k x = some (H',b)∧B<=b∧K undef H'
  | .binOp op _ x y _=>evK P L x fun a=>evK P L y fun b=>binK wr op a b (fun v=>K v H) (other P o L H K)
  | .unOp op _ x=>match op with
    | .not=>evK P L x fun v=>match v with
      | .bool true=>K (.bool false) H
      | .bool false=>K (.bool true) H
      | _=>other P o L H K
    | _=>other P o L H K
  | .call c=>match c.callee with
    | .builtin .len=>match c.args.toList,c.argTypes.toList with
      | [x],[t]=>evK P L x fun v=>∃ r,alen P H t v = some r∧K r H
      | _,_=>False
    | .builtin .append=>match c.args.toList with
      | [x,y]=>evK P L x fun x=>evK P L y fun y=>∃ v H' b,aappend P H c.argTypes x y = some (v,H',b)∧B<=b∧K v H'
      | _=>False
    | .builtin .copy=>match c.args.toList with
      | [x,y]=>evK P L x fun x=>evK P L y fun y=>∃ v H' b,acopy P H c.argTypes.toList x y = some (v,H',b)∧B<=b∧K v H'
      | _=>False
    | .builtin _=>other P o L H K
    | _=>False
  | .range t x=>evK P L x fun v=>∃ r H',arange P H t v = some (r,H',H.n)∧B<=H'.n∧K r H'
  | .entry x=>evK P L x fun v=>∃ r,aentry H v = some r∧K r H
  | .mapEntry t m k=>evK P L m fun m=>evK P L k fun k=>∃ r H' b,amapEntry P H t m k = some (r,H',b)∧B<=b∧B<=H'.n∧K r H'
  | .entryStore _ m s x=>evK P L m fun m=>evK P L s fun s=>evK P L x fun x=>∃ H' b,aentryStore H m s x = some (H',b)∧B<=b∧B<=H'.n∧K undef H'
  | _=>other P o L H K
variable [Oracle P]
structure CallB (B:Nat) (f:FuncId) (l:List Value) (H:Heap) (Q:Value->Heap->Prop):Prop where
  run:WF P (.fn f) l H fun v H' lo=>(B<=lo∧B<=H'.n)∧Q v H'
structure RoundB (B:Nat) (b:Nat) (l:List Value) (H:Heap) (Q:Value->Heap->Prop):Prop where
  run:WF P (.rnd b) l H fun v H' lo=>(B<=lo∧B<=H'.n)∧Q v H'
def vcStep (N B Bc:Nat) (wr:Bool) (o:Oper) (L:Kn) (H:Heap) (Kc K:Value->Heap->Prop):Prop :=
  match o.op with
  | .call c=>match c.callee with
    | .value g=>evK P L g fun v=>match v with
      | .func (.func f) first cap=>bif Nat.beq (assoc (Oracle.exts P) f) 0 then
          bif Nat.ble 2 f && Nat.blt f N then evsK P L c.args.toList fun l=>CallB P Bc f (first.toList ++ (l ++ cap.toList)) H Kc else False
        else bif decide (first.size = 0) && decide (cap.size = 0) then evsK P L c.args.toList fun l=>∃ v,extVal (assoc (Oracle.exts P) f) l = some v∧K v H else False
      | .func (.yield b) first cap=>bif decide (first.size = 0) && decide (cap.size = 0) then evsK P L c.args.toList fun l=>RoundB P Bc b l H Kc else False
      | _=>False
    | .invoke _ _=>False
    | .builtin _=>vcOp P B wr o L H K
  | _=>vcOp P B wr o L H K
def guardK (ops:List Oper) (L:Kn) (j:Nat) (want:Bool) (K:Bool->Prop):Prop :=
  nthK ops j fun o=>match o.dst with
    | some d=>getK L d fun v=>match v with
      | .bool true=>K true
      | .bool false=>K false
      | .tuple _=>K !want
      | _=>False
    | none=>False
def bEq:Bool->Bool->Bool
  | true,b=>b
  | false,b=>!b
def vcOps (N B:Nat) (wr:Bool) (ops:List Oper):List Oper->Kn->Heap->(Kn->Heap->Prop)->Prop
  | [],L,H,K=>K L H
  | o :: rest,L,H,K =>
    match o.guard with
    | none=>vcStep P N B B wr o L H (fun v H'=>putK L o.dst v fun L'=>vcOps N B wr ops rest L' H' K) (fun v H'=>putK L o.dst v fun L'=>vcOps N B wr ops rest L' H' K)
    | some (j,want)=>guardK ops L j want fun b=>bif bEq b want then
        vcStep P N B B wr o L H (fun v H'=>putK L o.dst v fun L'=>vcOps N B wr ops rest L' H' K) (fun v H'=>putK L o.dst v fun L'=>vcOps N B wr ops rest L' H' K)
      else putK L o.dst undef fun L'=>vcOps N B wr ops rest L' H K
def vcHead (N B:Nat) (wr:Bool) (ops:List Oper):List Oper->Kn->Heap->(Kn->Heap->Prop)->Prop
  | [],L,H,K=>K L H
  | o :: rest,L,H,K =>
    match o.guard with
    | none=>vcStep P N B H.n wr o L H (fun v _=>plain v = true∧putK L o.dst v fun L'=>vcHead N B wr ops rest L' H K) (fun v _=>putK L o.dst v fun L'=>vcHead N B wr ops rest L' H K)
    | some (j,want)=>guardK ops L j want fun b=>bif bEq b want then
        vcStep P N B H.n wr o L H (fun v _=>plain v = true∧putK L o.dst v fun L'=>vcHead N B wr ops rest L' H K) (fun v _=>putK L o.dst v fun L'=>vcHead N B wr ops rest L' H K)
      else putK L o.dst undef fun L'=>vcHead N B wr ops rest L' H K
def vcG (N B:Nat) (wr:Bool) (ops:List Oper):List Oper->Kn->Heap->(Kn->Heap->Prop)->Prop
  | [],L,H,K=>K L H
  | o :: rest,L,H,K =>
    match o.guard with
    | none=>vcStep P N H.n H.n wr o L H (fun v H'=>putK L o.dst v fun L'=>vcG N B wr ops rest L' H' K) (fun v H'=>putK L o.dst v fun L'=>vcG N B wr ops rest L' H' K)
    | some (j,want)=>guardK ops L j want fun b=>bif bEq b want then
        vcStep P N H.n H.n wr o L H (fun v H'=>putK L o.dst v fun L'=>vcG N B wr ops rest L' H' K) (fun v H'=>putK L o.dst v fun L'=>vcG N B wr ops rest L' H' K)
      else putK L o.dst undef fun L'=>vcG N B wr ops rest L' H K
def lookK:List (Nat × Value)->Nat->(Value->Prop)->Prop
  | [],_,_=>False
  | (j,v) :: r,e,K=>bif Nat.beq j e then K v else lookK r e K
def againK (ops:List Oper) (V:List (Nat × Value)) (L:Kn) (H:Heap):List Nat->Prop->Prop
  | [],K=>K
  | e :: es,K=>nthK ops e fun o=>bif quietG o then (lookK V e fun v=>vcOp P 0 false o L H fun r _=>r = v∧(sameFix v v = true∧againK ops V L H es K)) else False
def againL (ops:List Oper) (V:List (Nat × Value)) (L0:Kn) (H0:Heap) (Bc:Nat) (L:Kn) (H:Heap):List Nat->Prop->Prop
  | [],K=>K
  | e :: es,K=>againK P ops V L H [e] (againL ops V L0 H0 Bc L H es K) ∨ nthK ops e fun o=>match o.op,o.guard with
    | .load t x,none=>evK P L0 x fun p=>match p with
      | .pointer (some ⟨b2,i,none⟩)=>b2 < Bc∧∃ r,aload P t H0 (.pointer (some ⟨b2,i,none⟩)) = some r∧againL ops V L0 H0 Bc L H es K
      | _=>False
    | _,_=>False
def isNewB (o:Oper):Bool :=
  match o.op with
  | .alloc _ | .box .. | .buildSlice .. | .makeSlice ..=>true
  | _=>false
def againS (ops:List Oper) (L:Kn) (H:Heap) (b:Nat):List Nat->Prop->Prop
  | [],K=>K
  | e :: es,K=>nthK ops e fun o=>match o.op,o.guard with
    | .load t x,none=>evK P L x fun p=>match p with
      | .pointer (some ⟨b2,i,none⟩)=>b2 ≠ b∧∃ r,aload P t H (.pointer (some ⟨b2,i,none⟩)) = some r∧againS ops L H b es K
      | _=>False
    | _,_=>False
def blockK (L:Kn) (o:Oper) (K:Nat->Prop):Prop :=
  match o.op with
  | .store _ x _=>evK P L x fun p=>match p with
    | .pointer (some ⟨b,_,none⟩)=>K b
    | _=>False
  | _=>False
def loadsB (ops:List Oper) (es:List Nat):Bool:=es.all fun e=>match ops[e]? with | some o=>isLoadN o | none=>false
def vcR (N B:Nat) (wr:Bool) (ops:List Oper):List (Nat × List Nat)->List (Nat × Value)->Kn->Heap->(Kn->Heap->Prop)->Prop
  | [],_,L,H,K=>K L H
  | (i,es) :: rest,V,L,H,K=>(nthK ops i fun o =>
    match o.guard with
    | none=>bif isStoreB o && (!es.isEmpty && loadsB ops es) then blockK P L o fun b=>againS P ops L H b es
        (vcStep P N B B wr o L H (fun _ _=>False) (fun v H'=>putK L o.dst v fun L'=>vcR N B wr ops rest ((i,v) :: V) L' H' K))
      else bif isNewB o then vcStep P N B B wr o L H (fun _ _=>False) (fun v H'=>putK L o.dst v fun L'=>vcR N B wr ops rest ((i,v) :: V) L' H' K)
      else vcStep P N B B wr o L H (fun v H'=>putK L o.dst v fun L'=>againK P ops V L' H' es (vcR N B wr ops rest ((i,v) :: V) L' H' K)) (fun v H'=>putK L o.dst v fun L'=>againK P ops V L' H' es (vcR N B wr ops rest ((i,v) :: V) L' H' K))
    | some (j,want)=>guardK ops L j want fun b=>bif bEq b want then
        vcStep P N B B wr o L H (fun v H'=>putK L o.dst v fun L'=>againK P ops V L' H' es (vcR N B wr ops rest ((i,v) :: V) L' H' K)) (fun v H'=>putK L o.dst v fun L'=>againK P ops V L' H' es (vcR N B wr ops rest ((i,v) :: V) L' H' K))
      else putK L o.dst undef fun L'=>vcR N B wr ops rest ((i,undef) :: V) L' H K)
    ∨ (nthK ops i fun o =>
    match o.guard with
    | none=>vcStep P N B H.n wr o L H (fun v H'=>putK L o.dst v fun L'=>vcR N B wr ops rest ((i,v) :: V) L' H' K) (fun _ _=>False)
    | some (j,want)=>guardK ops L j want fun b=>bif bEq b want then
        vcStep P N B H.n wr o L H (fun v H'=>putK L o.dst v fun L'=>vcR N B wr ops rest ((i,v) :: V) L' H' K) (fun _ _=>False)
      else putK L o.dst undef fun L'=>vcR N B wr ops rest ((i,undef) :: V) L' H K)
    ∨ (∃ Bc,B<=Bc∧nthK ops i fun o =>
    match o.guard with
    | none=>vcStep P N B Bc wr o L H (fun v H'=>putK L o.dst v fun L'=>againL P ops V L H Bc L' H' es (vcR N B wr ops rest ((i,v) :: V) L' H' K)) (fun _ _=>False)
    | some _=>False)
    ∨ (∃ Bc,B<=Bc∧Bc<=H.n∧nthK ops i fun o =>
    match o.guard with
    | none=>vcStep P N Bc Bc wr o L H (fun _ _=>False) (fun v H'=>putK L o.dst v fun L'=>againL P ops V L H Bc L' H' es (vcR N B wr ops rest ((i,v) :: V) L' H' K))
    | some _=>False)
structure WCv (B:Nat) (c:Code) (L:Kn) (H:Heap) (Q:Exit->Kn->Heap->Prop):Prop where
  run:∀ tm lo,Agree tm L->B<=lo->B<=H.n->WC P c ⟨tm,H,lo⟩ fun e st=>B<=st.lo∧B<=st.heap.n∧∃ L',Agree st.tmps L'∧Q e L' st.heap
def vc (N B:Nat) (wr:Bool):Code->Kn->Heap->(Exit->Kn->Heap->Prop)->Prop
  | .skip,L,H,Q=>Q .normal L H
  | .label _,L,H,Q=>Q .normal L H
  | .exit id,L,H,Q=>Q (.exit id) L H
  | .ret,L,H,Q=>Q .ret L H
  | .region _ ops draw,L,H,Q=>match draw with
    | false=>vcOps P N B wr ops.toList ops.toList L H (Q .normal)
    | true=>bif wideSel ops.toList then False else bif mSelP P ops.toList then False else vcHead P N B wr ops.toList (ops.toList.take (splitM ops.toList)) L H fun L H=>vcOps P N B wr ops.toList ((ops.toList.drop (splitM ops.toList)).take (splitQ ops.toList)) L H fun L H=>vcHead P N B wr ops.toList (ops.toList.drop (splitM ops.toList + splitQ ops.toList)) L H (Q .normal)
  | .seq a b,L,H,Q=>vc N B wr a L H fun e L H=>match e with
    | .normal=>vc N B wr b L H Q
    | e=>Q e L H
  | .cond x a b,L,H,Q=>evK P L x fun v=>match v with
    | .bool true=>vc N B wr a L H Q
    | .bool false=>vc N B wr b L H Q
    | _=>False
  | .block id b,L,H,Q=>vc N B wr b L H fun e L H=>match e with
    | .exit j=>bif Nat.beq j id then Q .normal L H else Q (.exit j) L H
    | e=>Q e L H
  | .scope b,L,H,Q=>vc N B wr b L H fun e L H=>match e with
    | .goto _=>False
    | e=>Q e L H
  | .loop b,L,H,Q=>WCv P B (.loop b) L H Q
  | .rangeFunc g ps x y,L,H,Q=>WCv P B (.rangeFunc g ps x y) L H Q
  | _,_,_,_=>False
end
end Go.AI
namespace Go.AI
section
variable {P:Program}
theorem cond_iff {b:Bool} {p q:Prop} (h:bif b then p else q):(b = true∧p) ∨ (b = false∧q):=by
  cases b
  · exact .inr ⟨rfl,h⟩
  · exact .inl ⟨rfl,h⟩
theorem getK_spec:∀ (L:Kn) (i:Nat) (K:Value->Prop),getK L i K->∃ v,L.get i = some v∧K v
  | .leaf,_,_,h=>h.elim
  | .node l u r,i,K,h=>by
    unfold getK at h
    unfold Tr.get
    rcases cond_iff h with ⟨h1,h2⟩ | ⟨h1,h2⟩
    · rw [h1]
      cases u with
      | some v=>exact ⟨v,rfl,h2⟩
      | none=>exact h2.elim
    · rw [h1]
      rcases cond_iff h2 with ⟨h3,h4⟩ | ⟨h3,h4⟩
      · rw [h3]; exact getK_spec l _ K h4
      · rw [h3]; exact getK_spec r _ K h4
theorem half_lt {f i:Nat} (h:i + 1 < 2 ^ (f + 1)) (h0:Nat.beq i 0 = false):(Nat.beq (i % 2) 1 = true->i / 2 + 1 < 2 ^ f)∧(Nat.beq (i % 2) 1 = false->i / 2 - 1 + 1 < 2 ^ f):=by
  have hp:2 ^ (f + 1) = 2 * 2 ^ f:=by rw [Nat.pow_succ]; omega
  have h0':i ≠ 0:=by intro h; subst h; simp [Nat.beq] at h0
  constructor
  · intro h1
    have:i % 2 = 1:=Nat.eq_of_beq_eq_true h1
    omega
  · intro h1
    have:i % 2 ≠ 1:=Nat.ne_of_beq_eq_false h1
    omega
theorem setK_spec (v:Value):∀ (f:Nat) (L:Kn) (i:Nat) (K:Kn->Prop),setK f L i v K->i + 1 < 2 ^ f->K (Tr.setF v f L i)
  | 0,_,_,_,h,_=>h.elim
  | f + 1,.leaf,i,K,h,hi=>by
    unfold setK at h
    unfold Tr.setF
    rcases cond_iff h with ⟨h1,h2⟩ | ⟨h1,h2⟩
    · rw [h1]; exact h2
    · rw [h1]
      have hh:=half_lt hi h1
      rcases cond_iff h2 with ⟨h3,h4⟩ | ⟨h3,h4⟩
      · rw [h3]; exact setK_spec v f .leaf _ _ h4 (hh.1 h3)
      · rw [h3]; exact setK_spec v f .leaf _ _ h4 (hh.2 h3)
  | f + 1,.node l u r,i,K,h,hi=>by
    unfold setK at h
    unfold Tr.setF
    rcases cond_iff h with ⟨h1,h2⟩ | ⟨h1,h2⟩
    · rw [h1]; exact h2
    · rw [h1]
      have hh:=half_lt hi h1
      rcases cond_iff h2 with ⟨h3,h4⟩ | ⟨h3,h4⟩
      · rw [h3]; exact setK_spec v f l _ _ h4 (hh.1 h3)
      · rw [h3]; exact setK_spec v f r _ _ h4 (hh.2 h3)
theorem setK_big (v:Value):∀ (f:Nat) (L:Kn) (i:Nat) (K:Kn->Prop),setK f L i v K->i + 1 < 2 ^ f
  | 0,_,_,_,h=>h.elim
  | f + 1,L,i,K,h=>by
    have hp:2 ^ (f + 1) = 2 * 2 ^ f:=by rw [Nat.pow_succ]; omega
    have h2p:0 < 2 ^ f:=Nat.pos_of_ne_zero (by simp)
    have key:Nat.beq i 0 = true ∨ (Nat.beq i 0 = false∧((∃ L' K',Nat.beq (i % 2) 1 = true∧setK f L' (i / 2) v K') ∨ ∃ L' K',Nat.beq (i % 2) 1 = false∧setK f L' (i / 2 - 1) v K')):=by
      cases L with
      | leaf =>
        unfold setK at h
        rcases cond_iff h with ⟨h1,h2⟩ | ⟨h1,h2⟩
        · exact .inl h1
        · rcases cond_iff h2 with ⟨h3,h4⟩ | ⟨h3,h4⟩
          · exact .inr ⟨h1,.inl ⟨_,_,h3,h4⟩⟩
          · exact .inr ⟨h1,.inr ⟨_,_,h3,h4⟩⟩
      | node l u r =>
        unfold setK at h
        rcases cond_iff h with ⟨h1,h2⟩ | ⟨h1,h2⟩
        · exact .inl h1
        · rcases cond_iff h2 with ⟨h3,h4⟩ | ⟨h3,h4⟩
          · exact .inr ⟨h1,.inl ⟨_,_,h3,h4⟩⟩
          · exact .inr ⟨h1,.inr ⟨_,_,h3,h4⟩⟩
    rcases key with h1 | ⟨h0,⟨L',K',h1,h2⟩ | ⟨L',K',h1,h2⟩⟩
    · have:i = 0:=Nat.eq_of_beq_eq_true h1
      omega
    · have h3:=setK_big v f L' _ K' h2
      have:i % 2 = 1:=Nat.eq_of_beq_eq_true h1
      omega
    · have h3:=setK_big v f L' _ K' h2
      have h5:i % 2 ≠ 1:=Nat.ne_of_beq_eq_false h1
      have h6:i ≠ 0:=by intro h; subst h; simp [Nat.beq] at h0
      omega
theorem Agree.set {tm:Tm} {L L':Kn} (h:Agree tm L) {d:Nat} {v:Value} (h1:L'.get d = some v) (h2:∀ j,d ≠ j->L'.get j = L.get j):Agree (Tr.set tm d v) L':=by
  intro i w hw
  by_cases hd:d = i
  · subst hd; rw [h1] at hw; cases hw; exact Tm.at_set_eq _ _ _
  · rw [h2 i hd] at hw
    rw [Tm.at_set_ne _ _ hd]; exact h i w hw
theorem setK_get {f:Nat} {L:Kn} {i:Nat} {v:Value} {K:Kn->Prop} (h:setK f L i v K):∃ L',K L'∧L'.get i = some v∧∀ j,i ≠ j->L'.get j = L.get j:=by
  have hb:=setK_big v f L i K h
  exact ⟨_,setK_spec v f L i K h hb,setF_eq v f L i hb,fun j hj=>setF_ne v f L i j hj⟩
theorem putK_spec {tm:Tm} {L:Kn} {d:Option Tmp} {v:Value} {K:Kn->Prop} (ha:Agree tm L) (h:putK L d v K):∃ L',Agree (putL tm d v) L'∧K L':=by
  cases d with
  | none=>exact ⟨L,ha,h⟩
  | some d =>
    obtain ⟨L',h1,h2,h3⟩:=setK_get h
    exact ⟨L',ha.set h2 h3,h1⟩
theorem evK_spec {tm:Tm} {L:Kn} {x:Operand} {K:Value->Prop} (ha:Agree tm L) (h:evK P L x K):∃ v,ev P tm x = some v∧K v:=by
  cases x with
  | tmp t =>
    obtain ⟨v,h1,h2⟩:=getK_spec L t K h
    exact ⟨v,by simp only [ev,ha t v h1],h2⟩
  | const v =>
    rcases cond_iff h with ⟨h1,h2⟩ | ⟨h1,h2⟩
    · exact ⟨v,by simp only [ev,h1,if_true],h2⟩
    · exact h2.elim
  | global g =>
    rcases cond_iff h with ⟨h1,h2⟩ | ⟨h1,h2⟩
    · refine ⟨_,?_,h2⟩
      have:g < P.globals.size:=Nat.le_of_ble_eq_true h1
      simp only [ev,this,if_true]
    · exact h2.elim
  | func f=>exact ⟨_,rfl,h⟩
theorem evsK_spec {tm:Tm} {L:Kn} (ha:Agree tm L):∀ (xs:List Operand) (K:List Value->Prop),evsK P L xs K->∃ l,evs P tm xs = some l∧K l
  | [],K,h=>⟨[],rfl,h⟩
  | x :: r,K,h=>by
    obtain ⟨v,h1,h2⟩:=evK_spec ha h
    obtain ⟨l,h3,h4⟩:=evsK_spec ha r _ h2
    exact ⟨v :: l,by simp only [evs,h1,h3],h4⟩
theorem evPartsK_spec {tm:Tm} {L:Kn} (ha:Agree tm L):∀ (xs:List (Nat × Operand)) (K:List (Nat × Value)->Prop),evPartsK P L xs K->∃ l,evParts P tm xs = some l∧K l
  | [],K,h=>⟨[],rfl,h⟩
  | (i,x) :: r,K,h=>by
    obtain ⟨v,h1,h2⟩:=evK_spec ha h
    obtain ⟨l,h3,h4⟩:=evPartsK_spec ha r _ h2
    exact ⟨(i,v) :: l,by simp only [evParts,h1,h3],h4⟩
theorem evO_spec {tm:Tm} {L:Kn} (ha:Agree tm L) {x:Option Operand} {K:Option (Option Value)->Prop} (h:evO P L x K):K (optEv P tm x):=by
  cases x with
  | none=>exact h
  | some x =>
    obtain ⟨v,h1,h2⟩:=evK_spec ha h
    simp only [optEv,h1]; exact h2
theorem nthK_spec {α:Type}:∀ (l:List α) (i:Nat) (K:α->Prop),nthK l i K->∃ x,l[i]? = some x∧K x
  | [],_,_,h=>h.elim
  | x :: l,i,K,h=>by
    rcases cond_iff h with ⟨h1,h2⟩ | ⟨h1,h2⟩
    · have:i = 0:=Nat.eq_of_beq_eq_true h1
      subst this; exact ⟨x,rfl,h2⟩
    · obtain ⟨y,h3,h4⟩:=nthK_spec l _ K h2
      have:i ≠ 0:=Nat.ne_of_beq_eq_false h1
      obtain ⟨j,rfl⟩:∃ j,i = j + 1:=⟨i - 1,by omega⟩
      exact ⟨y,by simpa using h3,h4⟩
theorem wrap_i64 {n:Int} (h:inI64 n):IntKind.wrap .i64 n = n:=by
  obtain ⟨h1,h2⟩:=h
  unfold IntKind.wrap
  simp [IntKind.signed,IntKind.bits]
  split<;>omega
theorem sayInt_spec {wr:Bool} {k:IntKind} {n:Int} {K:Value->Prop} (h:sayInt wr k n K):K (.int k (k.wrap n)):=by
  unfold sayInt at h
  split at h
  · rw [wrap_i64 h.1]; exact h.2
  · exact h _ rfl
theorem ask_spec {p:Prop} [Decidable p] {K:Value->Prop} (h:ask p K):K (.bool (decide p)):=by
  by_cases hp:p
  · simpa [hp] using h.1 hp
  · simpa [hp] using h.2 hp
theorem binK_spec {wr:Bool} {op:BinOp} {a b:Value} {K:Value->Prop} {oth:Prop} (h:binK wr op a b K oth):(∃ v,abin op a b = some v∧K v) ∨ oth:=by
  unfold binK at h
  split at h
  · rename_i k x j y
    rcases cond_iff h with ⟨h1,h2⟩ | ⟨h1,h2⟩
    · have hk:k = j:=by simpa using h1
      subst hk
      cases op<;>simp only [] at h2
      case add=>exact .inl ⟨_,by simp [abin],sayInt_spec h2⟩
      case sub=>exact .inl ⟨_,by simp [abin],sayInt_spec h2⟩
      case mul=>exact .inl ⟨_,by simp [abin],sayInt_spec h2⟩
      case eql=>refine .inl ⟨.bool (x == y),by simp only [abin,if_true],?_⟩; have:=ask_spec h2; rw [show (x == y) = decide (x = y) from rfl]; exact this
      case neq=>refine .inl ⟨.bool (x != y),by simp only [abin,if_true],?_⟩; have:=ask_spec h2; rw [show (x != y) = decide (¬ x = y) by simp [bne,decide_not]; rfl]; exact this
      case lss=>exact .inl ⟨_,by simp only [abin,if_true],ask_spec h2⟩
      case leq=>exact .inl ⟨_,by simp only [abin,if_true],ask_spec h2⟩
      case gtr=>exact .inl ⟨_,by simp only [abin,if_true],ask_spec h2⟩
      case geq=>exact .inl ⟨_,by simp only [abin,if_true],ask_spec h2⟩
      all_goals exact .inr h2
    · exact .inr h2
  · exact .inr h
theorem apure_not {tm:Tm} {o:Oper} {t:TypeId} {x:Operand} {b:Bool} (ho:o.op = .unOp .not t x) (hx:ev P tm x = some (.bool b)):apure P tm o = some (.bool !b):=by
  unfold apure
  have hv:evT tm x = .bool b:=by
    cases x with
    | tmp t=>simpa [ev,evT] using hx
    | const v=>simp only [ev] at hx; split at hx<;>simp_all [evT]
    | global g=>simp only [ev] at hx; split at hx<;>simp_all
    | func f=>simp [ev] at hx
  simp [ho,Op.operands,hx,plain,flat,scalar,execOp,hv,Op.unary]
  rfl
theorem other_spec {B:Nat} {o:Oper} {tm:Tm} {L:Kn} {H:Heap} {K:Value->Heap->Prop} (ha:Agree tm L) (hB:B<=H.n) (h:other P o L H K):∃ v H' lo,step1 P tm H o = some (v,H',lo)∧(B<=lo∧B<=H'.n)∧K v H':=by
  obtain ⟨v,h1,h2⟩:=h
  exact ⟨v,H,H.n,h1 tm ha,⟨hB,hB⟩,h2⟩
theorem store_n {t:TypeId} {H H':Heap} {v a:Value} {lo:Nat} (h:astore P t H v a = some (H',lo)):H'.n = H.n:=by
  unfold astore at h
  split at h
  · split at h
    · split at h
      · cases h; rfl
      · cases h
    · cases h
  · cases h
theorem update_n {t:TypeId} {H H':Heap} {m k x:Value} {lo:Nat} (h:amapUpdate P H t m k x = some (H',lo)):H'.n = H.n:=by
  unfold amapUpdate at h
  split at h
  · split at h
    · split at h
      · split at h
        · cases h; rfl
        · cases h; rfl
        · split at h
          · split at h<;>cases h
            rfl
          · cases h; rfl
          · cases h
      · cases h
    · cases h
  · cases h
theorem alloc_n {t:TypeId} {H H':Heap} {v:Value} {lo:Nat} (h:sAlloc P H t = some (v,H',lo)):H.n<=H'.n:=by
  unfold sAlloc at h
  split at h
  · split at h
    · cases h; exact Nat.le_succ _
    · cases h
  · cases h
theorem make_n {t:TypeId} {H H':Heap} {l c v:Value} {lo:Nat} (h:amakeSlice P H t l c = some (v,H',lo)):H.n<=H'.n:=by
  unfold amakeSlice at h
  split at h
  · split at h
    · split at h
      · split at h
        · cases h; exact Nat.le_succ _
        · cases h
      · cases h
    · cases h
  · cases h
theorem build_n {t:TypeId} {n:Nat} {H H':Heap} {l:List (Nat × Value)} {v:Value} {lo:Nat} (h:abuildSlice P H t n l = some (v,H',lo)):H.n<=H'.n:=by
  unfold abuildSlice at h
  split at h
  · split at h
    · split at h
      · split at h
        · split at h
          · cases h; exact Nat.le_succ _
          · cases h
        · cases h
      · cases h
    · cases h
  · cases h
theorem appendS_n {t u:TypeId} {H H':Heap} {x y v:Value} {lo:Nat} (h:aappendS P H t u x y = some (v,H',lo)):H.n<=H'.n:=by
  unfold aappendS at h
  repeat' split at h
  all_goals first | (cases h; exact Nat.le_refl _) | (cases h; exact Nat.le_succ _) | cases h
theorem append_n {ts:Array TypeId} {H H':Heap} {x y v:Value} {lo:Nat} (h:aappend P H ts x y = some (v,H',lo)):H.n<=H'.n:=by
  unfold aappend at h
  split at h
  · split at h
    · exact appendS_n h
    · split at h
      · split at h
        · split at h
          · split at h
            · cases h
            · split at h
              · split at h
                · split at h
                  · cases h; exact Nat.le_refl _
                  · split at h
                    · cases h; exact Nat.le_succ _
                    · cases h
                · split at h
                  · cases h; exact Nat.le_refl _
                  · split at h
                    · cases h
                    · split at h
                      · split at h
                        · cases h; exact Nat.le_succ _
                        · split at h
                          · cases h; exact Nat.le_succ _
                          · cases h
                      · cases h
                · cases h
              · cases h
          · cases h
        · cases h
      · cases h
  · cases h
theorem copy_n {ts:List TypeId} {H H':Heap} {x y v:Value} {lo:Nat} (h:acopy P H ts x y = some (v,H',lo)):H'.n = H.n:=by
  unfold acopy at h
  split at h
  · split at h
    · split at h
      · split at h
        · split at h
          · split at h
            · split at h<;>cases h
              rfl
            · cases h
          · cases h
        · cases h
      · cases h
    · cases h
  · cases h
theorem vcOp_spec {B:Nat} {wr:Bool} {o:Oper} {tm:Tm} {L:Kn} {H:Heap} {K:Value->Heap->Prop} (ha:Agree tm L) (hB:B<=H.n) (h:vcOp P B wr o L H K):∃ v H' lo,step1 P tm H o = some (v,H',lo)∧(B<=lo∧B<=H'.n)∧K v H':=by
  have hBB:B<=H.n∧B<=H.n:=⟨hB,hB⟩
  unfold vcOp at h
  split at h
  case h_1 x ho =>
    obtain ⟨v,h1,h2⟩:=evK_spec ha h
    exact ⟨v,H,H.n,by simp only [step1,ho,h1,ret],hBB,h2⟩
  case h_2 x ho =>
    obtain ⟨v,h1,h2⟩:=evK_spec ha h
    exact ⟨v,H,H.n,by simp only [step1,ho,h1,ret],hBB,h2⟩
  case h_3 c a b ho =>
    obtain ⟨v,h1,h2⟩:=evK_spec ha h
    split at h2
    · obtain ⟨v,h3,h4⟩:=evK_spec ha h2
      exact ⟨v,H,H.n,by simp only [step1,ho,sPick,h1,h3,ret],hBB,h4⟩
    · obtain ⟨v,h3,h4⟩:=evK_spec ha h2
      exact ⟨v,H,H.n,by simp only [step1,ho,sPick,h1,h3,ret],hBB,h4⟩
    · exact h2.elim
  case h_4 t ho =>
    obtain ⟨v,H',h1,h2⟩:=h
    exact ⟨v,H',H.n,by simp only [step1,ho,h1],⟨hB,Nat.le_trans hB (alloc_n h1)⟩,h2⟩
  case h_5 t x ho =>
    obtain ⟨v,h1,h2,h3⟩:=evK_spec ha h
    exact ⟨_,_,_,by simp only [step1,ho,sBox,h1,h2,if_true],⟨hB,Nat.le_succ_of_le hB⟩,h3⟩
  case h_6 t x ho =>
    obtain ⟨v,h1,r,h2,h3⟩:=evK_spec ha h
    exact ⟨r,H,H.n,by simp only [step1,ho,sLoad,h1,h2,ret],hBB,h3⟩
  case h_7 t x y ho =>
    obtain ⟨v,h1,h2⟩:=evK_spec ha h
    obtain ⟨w,h3,H',lo,h4,h5,h6⟩:=evK_spec ha h2
    exact ⟨undef,H',lo,by simp only [step1,ho,sStore,h1,h3,h4],⟨h5,by rw [store_n h4]; exact hB⟩,h6⟩
  case h_8 x ho =>
    obtain ⟨v,h1,r,h2,h3⟩:=evK_spec ha h
    exact ⟨r,H,H.n,by simp only [step1,ho,sNil,h1,h2,ret],hBB,h3⟩
  case h_9 fn first cap ho =>
    split at h
    · rename_i f
      obtain ⟨l1,h1,h2,h3⟩:=evsK_spec ha _ _ h
      obtain ⟨l,h4,h5,h6⟩:=evsK_spec ha _ _ h3
      exact ⟨_,H,H.n,by simp only [step1,ho,sFunc,h1,h4]; rw [if_pos ⟨h2,h5⟩],hBB,h6⟩
    · exact h.elim
  case h_10 t r ho =>
    split at h
    · exact ⟨_,_,_,by simp only [step1,ho,sMakeMap],⟨hB,Nat.le_succ_of_le hB⟩,h⟩
    · exact h.elim
  case h_11 t l c ho =>
    obtain ⟨v,h1,h2⟩:=evK_spec ha h
    obtain ⟨w,h3,u,H',h4,h5⟩:=evK_spec ha h2
    exact ⟨u,H',H.n,by simp only [step1,ho,sMakeSlice,h1,h3,h4],⟨hB,Nat.le_trans hB (make_n h4)⟩,h5⟩
  case h_12 t x lo hi mx ho =>
    split at h
    · exact h.elim
    · obtain ⟨v,h1,h2⟩:=evK_spec ha h
      obtain ⟨r,h4,h5⟩:=evO_spec ha (evO_spec ha h2)
      exact ⟨r,H,H.n,by simp only [step1,ho,sSlice,h1,h4,ret],hBB,h5⟩
  case h_13 s x f ho =>
    obtain ⟨v,h1,r,h2,h3⟩:=evK_spec ha h
    exact ⟨r,H,H.n,by simp only [step1,ho,sFieldAddr,h1,h2,ret],hBB,h3⟩
  case h_14 t x i ho =>
    obtain ⟨v,h1,h2⟩:=evK_spec ha h
    obtain ⟨w,h3,r,h4,h5⟩:=evK_spec ha h2
    exact ⟨r,H,H.n,by simp only [step1,ho,sIndexAddr,h1,h3,h4,ret],hBB,h5⟩
  case h_15 t x f ho =>
    obtain ⟨v,h1,r,h2,h3⟩:=evK_spec ha h
    exact ⟨r,H,H.n,by simp only [step1,ho,sField,h1,h2,ret],hBB,h3⟩
  case h_16 t x i ho =>
    obtain ⟨v,h1,h2⟩:=evK_spec ha h
    obtain ⟨w,h3,r,h4,h5⟩:=evK_spec ha h2
    exact ⟨r,H,H.n,by simp only [step1,ho,sIndex,h1,h3,h4,ret],hBB,h5⟩
  case h_17 x i ho =>
    obtain ⟨v,h1,h2⟩:=evK_spec ha h
    split at h2
    · obtain ⟨r,h3,h4⟩:=nthK_spec _ _ _ h2
      exact ⟨r,H,H.n,by simp only [step1,ho,sExtract,h1,h3,ret],hBB,h4⟩
    · exact h2.elim
  case h_18 t parts ho =>
    obtain ⟨l,h1,r,h2,h3⟩:=evPartsK_spec ha _ _ h
    exact ⟨r,H,H.n,by simp only [step1,ho,sBuild,h1,h2,ret],hBB,h3⟩
  case h_19 t len parts ho =>
    obtain ⟨l,h1,u,H',h2,h3⟩:=evPartsK_spec ha _ _ h
    exact ⟨u,H',H.n,by simp only [step1,ho,sBuildSlice,h1,h2],⟨hB,Nat.le_trans hB (build_n h2)⟩,h3⟩
  case h_20 t x k ok ho =>
    obtain ⟨v,h1,h2⟩:=evK_spec ha h
    obtain ⟨w,h3,r,h4,h5⟩:=evK_spec ha h2
    exact ⟨r,H,H.n,by simp only [step1,ho,sLookup,h1,h3,h4,ret],hBB,h5⟩
  case h_21 t m k x ho =>
    obtain ⟨v,h1,h2⟩:=evK_spec ha h
    obtain ⟨w,h3,h4⟩:=evK_spec ha h2
    obtain ⟨u,h5,H',lo,h6,h7,h8⟩:=evK_spec ha h4
    exact ⟨undef,H',lo,by simp only [step1,ho,sMapUpdate,h1,h3,h5,h6],⟨h7,by rw [update_n h6]; exact hB⟩,h8⟩
  case h_22 t m k x ho =>
    obtain ⟨v,h1,h2⟩:=evK_spec ha h
    obtain ⟨w,h3,h4⟩:=evK_spec ha h2
    obtain ⟨u,h5,H',lo,h6,h7,h8⟩:=evK_spec ha h4
    exact ⟨undef,H',lo,by simp only [step1,ho,sMapUpdate,h1,h3,h5,h6],⟨h7,by rw [update_n h6]; exact hB⟩,h8⟩
  case h_23 op xt x y z ho =>
    obtain ⟨v,h1,h2⟩:=evK_spec ha h
    obtain ⟨w,h3,h4⟩:=evK_spec ha h2
    rcases binK_spec h4 with ⟨r,h5,h6⟩ | h5
    · exact ⟨r,H,H.n,by simp only [step1,ho,sBin,h1,h3,h5],hBB,h6⟩
    · exact other_spec ha hB h5
  case h_24 op t x ho =>
    split at h
    · obtain ⟨v,h1,h2⟩:=evK_spec ha h
      split at h2
      · exact ⟨_,H,H.n,by simp only [step1,ho,apure_not ho h1,ret,Bool.not_true,Bool.not_false],hBB,h2⟩
      · exact ⟨_,H,H.n,by simp only [step1,ho,apure_not ho h1,ret,Bool.not_true,Bool.not_false],hBB,h2⟩
      · exact other_spec ha hB h2
    · exact other_spec ha hB h
  case h_25 c ho =>
    split at h
    · rename_i hcal
      split at h
      · rename_i x t hx ht
        obtain ⟨v,h1,r,h2,h3⟩:=evK_spec ha h
        exact ⟨r,H,H.n,by simp only [step1,ho,sCall,hcal,sBuiltin,sLen,hx,ht,h1,h2,ret],hBB,h3⟩
      · exact h.elim
    · rename_i hcal
      split at h
      · rename_i x y hx
        obtain ⟨v,h1,h2⟩:=evK_spec ha h
        obtain ⟨w,h3,u,H',lo,h4,h5,h6⟩:=evK_spec ha h2
        exact ⟨u,H',lo,by simp only [step1,ho,sCall,hcal,sBuiltin,sAppend,hx,h1,h3,h4],⟨h5,Nat.le_trans hB (append_n h4)⟩,h6⟩
      · exact h.elim
    · rename_i hcal
      split at h
      · rename_i x y hx
        obtain ⟨v,h1,h2⟩:=evK_spec ha h
        obtain ⟨w,h3,u,H',lo,h4,h5,h6⟩:=evK_spec ha h2
        exact ⟨u,H',lo,by simp only [step1,ho,sCall,hcal,sBuiltin,sCopy,hx,h1,h3,h4],⟨h5,by rw [copy_n h4]; exact hB⟩,h6⟩
      · exact h.elim
    · exact other_spec ha hB h
    · exact h.elim
  case h_26 t x ho =>
    obtain ⟨v,h1,r,H',h2,h3,h4⟩:=evK_spec ha h
    exact ⟨r,H',H.n,by simp only [step1,ho,sRange,h1,h2],⟨hB,h3⟩,h4⟩
  case h_27 x ho =>
    obtain ⟨v,h1,r,h2,h3⟩:=evK_spec ha h
    exact ⟨r,H,H.n,by simp only [step1,ho,sEntry,h1,h2,ret],hBB,h3⟩
  case h_28 t m k ho =>
    obtain ⟨v,h1,h2⟩:=evK_spec ha h
    obtain ⟨w,h3,r,H',lo,h4,h5,h6,h7⟩:=evK_spec ha h2
    exact ⟨r,H',lo,by simp only [step1,ho,sMapEntry,h1,h3,h4],⟨h5,h6⟩,h7⟩
  case h_29 t m s x ho =>
    obtain ⟨v,h1,h2⟩:=evK_spec ha h
    obtain ⟨w,h3,h4⟩:=evK_spec ha h2
    obtain ⟨u,h5,H',lo,h6,h7,h8,h9⟩:=evK_spec ha h4
    exact ⟨undef,H',lo,by simp only [step1,ho,sEntryStore,h1,h3,h5,h6],⟨h7,h8⟩,h9⟩
  case h_30=>exact other_spec ha hB h
def calleeOk (P:Program) (f:Nat):Bool :=
  match P.funcs[f]? with
  | some fn=>fn.body.isSome && decide (fn.name ≠ "runtime.NumGoroutine")
  | none=>false
def calleesOk (P:Program) [Oracle P]:Nat->Bool
  | 0=>true
  | n + 1=>(calleeOk P n || Nat.blt n 2 || !Nat.beq (assoc (Oracle.exts P) n) 0) && calleesOk P n
theorem calleesOk_spec [Oracle P]:∀ (N:Nat),calleesOk P N = true->∀ f,2<=f->f < N->assoc (Oracle.exts P) f = 0->calleeOk P f = true
  | 0,_,f,_,hf,_=>absurd hf (Nat.not_lt_zero f)
  | N + 1,h,f,h2,hf,h0=>by
    simp only [calleesOk,Bool.and_eq_true] at h
    by_cases he:f = N
    · subst he
      rcases h with ⟨h,_⟩
      simp only [Bool.or_eq_true] at h
      rcases h with (h | h) | h
      · exact h
      · have:f < 2:=Nat.le_of_ble_eq_true h
        omega
      · rw [h0] at h; cases h
    · exact calleesOk_spec N h.2 f h2 (by omega) h0
theorem vcOp_noCall {B:Nat} {wr:Bool} {o:Oper} {tm:Tm} {L:Kn} {H:Heap} {K:Value->Heap->Prop} (h:vcOp P B wr o L H K):callOf P tm o = none:=by
  unfold callOf
  unfold vcOp at h
  split
  · rename_i c ho
    split
    · rename_i g hg
      simp only [ho,hg] at h
    · rfl
  · rfl
theorem bEq_spec {a b:Bool}:(some a == some b) = bEq a b:=by cases a<;>cases b<;>rfl
theorem bEq_none {b:Bool}:((none:Option Bool) == some b) = bEq (!b) b:=by cases b<;>rfl
theorem guardK_spec {ops:List Oper} {tm:Tm} {L:Kn} {j:Nat} {want:Bool} {K:Bool->Prop} (ha:Agree tm L) (h:guardK ops L j want K):∃ b,(yieldedL ops tm j == some want) = bEq b want∧K b:=by
  obtain ⟨o,h1,h2⟩:=nthK_spec _ _ _ h
  split at h2
  · rename_i d hd
    obtain ⟨v,h3,h4⟩:=getK_spec _ _ _ h2
    have h5:=ha _ _ h3
    split at h4
    · exact ⟨true,by simp only [yieldedL,h1,hd,h5,bEq_spec],h4⟩
    · exact ⟨false,by simp only [yieldedL,h1,hd,h5,bEq_spec],h4⟩
    · exact ⟨!want,by simp only [yieldedL,h1,hd,h5,bEq_none],h4⟩
    · exact h4.elim
  · exact h2.elim
def resK (P:Program) (L:Kn) (H:Heap):List ResultVar->(List Value->Prop)->Prop
  | [],K=>K []
  | x :: r,K=>match x with
    | .tmp t=>getK L t fun v=>resK P L H r fun l=>K (v :: l)
    | .cell a t=>getK L a fun p=>match p with
      | .pointer (some ad)=>∃ v,aload P t H (.pointer (some ad)) = some v∧resK P L H r fun l=>K (v :: l)
      | _=>False
theorem resK_spec {tm:Tm} {L:Kn} {H:Heap} (ha:Agree tm L):∀ (rs:List ResultVar) (K:List Value->Prop),resK P L H rs K->∃ l,ressOf P tm H rs = some l∧K l
  | [],K,h=>⟨[],rfl,h⟩
  | x :: r,K,h=>by
    unfold resK at h
    cases x with
    | tmp t =>
      obtain ⟨v,h1,h2⟩:=getK_spec _ _ _ h
      obtain ⟨l,h3,h4⟩:=resK_spec ha r _ h2
      exact ⟨v :: l,by simp only [ressOf,resOf,ha _ _ h1,h3],h4⟩
    | cell a t =>
      obtain ⟨p,h1,h2⟩:=getK_spec _ _ _ h
      split at h2
      · obtain ⟨v,h3,h4⟩:=h2
        obtain ⟨l,h5,h6⟩:=resK_spec ha r _ h4
        exact ⟨v :: l,by simp only [ressOf,resOf,ha _ _ h1,h3,h5],h6⟩
      · exact h2.elim
def tupK (l:List Value) (K:Value->Prop):Prop :=
  match l with
  | [v]=>K v
  | l=>K (.tuple l.toArray)
def argsK:List Value->Nat->Kn->(Kn->Prop)->Prop
  | [],_,L,K=>K L
  | v :: r,i,L,K=>setK 14 L i v fun L=>argsK r (i + 1) L K
theorem argsK_spec:∀ (l:List Value) (i:Nat) (tm:Tm) (L:Kn) (K:Kn->Prop),Agree tm L->argsK l i L K->∃ L',Agree (putArgs l i tm) L'∧K L'
  | [],_,_,L,K,ha,h=>⟨L,ha,h⟩
  | v :: r,i,tm,L,K,ha,h=>by
    obtain ⟨L',h1,h2,h3⟩:=setK_get h
    exact argsK_spec r (i + 1) _ L' K (ha.set h2 h3) h1
def covers (L:Kn):List (Nat × Value)->Prop
  | []=>True
  | (i,v) :: r=>getK L i (fun w=>w = v)∧covers L r
theorem mkK_spec:∀ (l:List (Nat × Value)) (L:Kn) (K:Kn->Prop),mkK l L K->∃ L',K L'∧∀ i v,L'.get i = some v->L.get i = some v ∨ (i,v) ∈ l
  | [],L,K,h=>⟨L,h,fun i v hv=>.inl hv⟩
  | (i,v) :: r,L,K,h=>by
    obtain ⟨L1,h1,h2,h3⟩:=setK_get h
    obtain ⟨L',h4,h5⟩:=mkK_spec r L1 K h1
    refine ⟨L',h4,fun j w hw=>?_⟩
    rcases h5 j w hw with h6 | h6
    · by_cases hij:i = j
      · subst hij; rw [h2] at h6; cases h6; exact .inr (by simp)
      · rw [h3 j hij] at h6; exact .inl h6
    · exact .inr (by simp [h6])
theorem covers_mem:∀ (L:Kn) (l:List (Nat × Value)),covers L l->∀ i v,(i,v) ∈ l->L.get i = some v
  | _,[],_,i,v,h=>by simp at h
  | L,(j,w) :: r,hc,i,v,h=>by
    obtain ⟨h1,h2⟩:=hc
    rcases List.mem_cons.mp h with h3 | h3
    · cases h3
      obtain ⟨u,h4,h5⟩:=getK_spec _ _ _ h1
      rw [h5] at h4; exact h4
    · exact covers_mem L r h2 i v h3
theorem lookK_spec:∀ {V:List (Nat × Value)} {e:Nat} {K:Value->Prop},lookK V e K->∃ v,assocV V e = some v∧K v
  | [],_,_,h=>h.elim
  | (j,v) :: r,e,K,h=>by
    unfold lookK at h
    unfold assocV
    rcases cond_iff h with ⟨h1,h2⟩ | ⟨h1,h2⟩
    · exact ⟨v,by rw [h1,cond_true],h2⟩
    · obtain ⟨u,hu,hK⟩:=lookK_spec h2
      exact ⟨u,by rw [h1,cond_false]; exact hu,hK⟩
theorem againK_spec {ops:List Oper} {V:List (Nat × Value)} {tm:Tm} {L:Kn} {H:Heap} (ha:Agree tm L):∀ {es:List Nat} {K:Prop},againK P ops V L H es K->recheck P ops V tm H es = true∧K
  | [],_,h=>⟨rfl,h⟩
  | e :: es,K,h=>by
    unfold againK at h
    obtain ⟨o,ho,h⟩:=nthK_spec _ _ _ h
    rcases cond_iff h with ⟨hq,h⟩ | ⟨_,h⟩
    · obtain ⟨v,hv,h⟩:=lookK_spec h
      obtain ⟨r,H',lo,hst,_,rfl,hf,h⟩:=vcOp_spec ha (Nat.zero_le _) h
      obtain ⟨h4,h5⟩:=againK_spec ha h
      refine ⟨?_,h5⟩
      simp only [recheck,ho,hv,hq,hst,hf,h4,Bool.and_self]
    · exact h.elim
theorem new_lo {tm:Tm} {H H':Heap} {o:Oper} {lo:Nat} {v:Value} (hn:isNewB o = true) (h:step1 P tm H o = some (v,H',lo)):lo = H.n:=by
  unfold isNewB at hn
  split at hn
  · rename_i t hop
    simp only [step1,hop,sAlloc] at h
    split at h
    · split at h<;>cases h; rfl
    · cases h
  · rename_i t x hop
    simp only [step1,hop,sBox] at h
    split at h
    · split at h<;>cases h; rfl
    · cases h
  · rename_i t n ps hop
    simp only [step1,hop,sBuildSlice] at h
    split at h
    · unfold abuildSlice at h
      repeat' split at h
      all_goals first | (cases h; rfl) | cases h
    · cases h
  · rename_i t l c hop
    simp only [step1,hop,sMakeSlice] at h
    split at h
    · unfold amakeSlice at h
      repeat' split at h
      all_goals first | (cases h; rfl) | cases h
    · cases h
  · cases hn
theorem againS_spec {ops:List Oper} {tm:Tm} {L:Kn} {H:Heap} {b:Nat} (ha:Agree tm L):∀ {es:List Nat} {K:Prop},againS P ops L H b es K->recheckS P ops tm H b es = true∧K
  | [],_,h=>⟨rfl,h⟩
  | e :: es,K,h=>by
    unfold againS at h
    obtain ⟨o,ho,h⟩:=nthK_spec _ _ _ h
    split at h
    · rename_i t x hop hg
      obtain ⟨p,hp,h⟩:=evK_spec ha h
      split at h
      · rename_i b2 i
        obtain ⟨h1,r,h2,h3⟩:=h
        obtain ⟨h4,h5⟩:=againS_spec ha h3
        refine ⟨?_,h5⟩
        simp only [recheckS,ho,hop,hp,Bool.and_eq_true]
        refine ⟨⟨by simp [isLoadN,hop,hg],?_,by rw [h2]; rfl⟩,h4⟩
        cases hb:Nat.beq b2 b with
        | false=>rfl
        | true=>exact absurd (Nat.eq_of_beq_eq_true hb) h1
      · exact h.elim
    · exact h.elim
theorem blockK_spec {tm:Tm} {L:Kn} {o:Oper} {K:Nat->Prop} (ha:Agree tm L) (h:blockK P L o K):∃ t x y b i,o.op = .store t x y∧ev P tm x = some (.pointer (some ⟨b,i,none⟩))∧K b:=by
  unfold blockK at h
  split at h
  · rename_i t x y hop
    obtain ⟨p,hp,h⟩:=evK_spec ha h
    split at h
    · rename_i b i
      exact ⟨t,x,y,b,i,hop,hp,h⟩
    · exact h.elim
  · exact h.elim
theorem store_block {tm:Tm} {H H':Heap} {o:Oper} {t:TypeId} {x y:Operand} {b i lo:Nat} {v:Value} (hop:o.op = .store t x y) (hx:ev P tm x = some (.pointer (some ⟨b,i,none⟩))) (h:step1 P tm H o = some (v,H',lo)):lo = b:=by
  unfold step1 at h
  simp only [hop] at h
  unfold sStore at h
  rw [hx] at h
  split at h
  · rename_i u z hu hz
    cases hu
    split at h
    · rename_i H2 l2 hs
      cases h
      simp only [astore] at hs
      split at hs
      · split at hs<;>cases hs
        rfl
      · cases hs
    · cases h
  · cases h
theorem againL_spec {ops:List Oper} {V:List (Nat × Value)} {tm0 tm:Tm} {L0 L:Kn} {H0 H:Heap} {Bc lo:Nat} (ha0:Agree tm0 L0) (ha:Agree tm L) (hlo:Bc<=lo):∀ {es:List Nat} {K:Prop},againL P ops V L0 H0 Bc L H es K->recheckL P ops V tm0 H0 lo tm H es = true∧K
  | [],_,h=>⟨rfl,h⟩
  | e :: es,K,h=>by
    unfold againL at h
    rcases h with h | h
    · obtain ⟨h1,h2⟩:=againK_spec ha h
      obtain ⟨h3,h4⟩:=againL_spec ha0 ha hlo h2
      exact ⟨by simp only [recheckL,h1,h3,Bool.true_or,Bool.and_self],h4⟩
    · obtain ⟨o,ho,h⟩:=nthK_spec _ _ _ h
      split at h
      · rename_i t x hop hg
        obtain ⟨p,hp,h⟩:=evK_spec ha0 h
        split at h
        · rename_i b2 i
          obtain ⟨h1,r,h2,h3⟩:=h
          obtain ⟨h4,h5⟩:=againL_spec ha0 ha hlo h3
          refine ⟨?_,h5⟩
          simp only [recheckL,ho,hop,hp,Bool.and_eq_true,Bool.or_eq_true]
          exact ⟨.inr ⟨by simp [isLoadN,hop,hg],Nat.ble_eq_true_of_le (show b2 + 1<=lo by omega),by rw [h2]; rfl⟩,h4⟩
        · exact h.elim
      · exact h.elim
variable [Oracle P]
theorem vcStep_spec {N B Bc:Nat} (hN:calleesOk P N = true) {wr:Bool} {o:Oper} {tm:Tm} {L:Kn} {H:Heap} {Kc K:Value->Heap->Prop} (ha:Agree tm L) (hB:B<=H.n) (h:vcStep P N B Bc wr o L H Kc K) :
    (∃ f l,callOf P tm o = some (f,l)∧WF P f l H fun v H' lo=>(Bc<=lo∧Bc<=H'.n)∧Kc v H') ∨ (callOf P tm o = none∧∃ v H' lo,step1 P tm H o = some (v,H',lo)∧(B<=lo∧B<=H'.n)∧K v H'):=by
  unfold vcStep at h
  split at h
  · rename_i c ho
    split at h
    · rename_i g hg
      obtain ⟨v,h1,h2⟩:=evK_spec ha h
      split at h2
      · rename_i f first cap
        rcases cond_iff h2 with ⟨h00,h2⟩ | ⟨h00,h2⟩
        · have h0:assoc (Oracle.exts P) f = 0:=Nat.eq_of_beq_eq_true h00
          rcases cond_iff h2 with ⟨h3,h4⟩ | ⟨h3,h4⟩
          · simp only [Bool.and_eq_true,decide_eq_true_eq] at h3
            obtain ⟨h52,h5⟩:=h3
            have h5:f < N:=Nat.le_of_ble_eq_true h5
            have h52:2<=f:=Nat.le_of_ble_eq_true h52
            obtain ⟨l,h6,h7⟩:=evsK_spec ha _ _ h4
            refine .inl ⟨.fn f,first.toList ++ (l ++ cap.toList),?_,h7.run⟩
            have h8:=calleesOk_spec N hN f h52 h5 h0
            unfold calleeOk at h8
            simp only [callOf,ho,hg,calOf,calleeOf,h1]
            split at h8
            · rename_i fn hfn
              simp only [Bool.and_eq_true,decide_eq_true_eq] at h8
              simp only [hfn]
              rw [if_pos h8]
              simp only [h6]
            · simp at h8
          · exact h4.elim
        · have h0:assoc (Oracle.exts P) f ≠ 0:=fun e=>by rw [e] at h00; cases h00
          obtain ⟨fn,hf1,hf2,hf3⟩:=exts_spec (Oracle.extsOk (P:=P)) f h0
          rcases cond_iff h2 with ⟨h3,h4⟩ | ⟨h3,h4⟩
          · simp only [Bool.and_eq_true,decide_eq_true_eq] at h3
            obtain ⟨l,h6,v,h7,h8⟩:=evsK_spec ha _ _ h4
            have hb:¬ fn.body.isSome = true:=fun e=>by cases hx:fn.body<;>simp [hx] at e hf2
            refine .inr ⟨?_,v,H,H.n,?_,⟨hB,hB⟩,h8⟩
            · simp only [callOf,ho,hg,calOf,calleeOf,rndOf,h1,hf1]
              rw [if_neg (fun e=>hb e.1)]
            · simp only [step1,ho,sCall,hg,extOf,h1,hf1]
              rw [if_pos h3,if_pos hf2,h6,hf3]
              simp only [h7,ret]
          · exact h4.elim
      · rename_i b first cap
        rcases cond_iff h2 with ⟨h3,h4⟩ | ⟨h3,h4⟩
        · simp only [Bool.and_eq_true,decide_eq_true_eq] at h3
          obtain ⟨l,h6,h7⟩:=evsK_spec ha _ _ h4
          refine .inl ⟨.rnd b,l,?_,h7.run⟩
          simp only [callOf,ho,hg,calOf,calleeOf,rndOf,h1]
          rw [if_pos h3,h6]
        · exact h4.elim
      · exact h2.elim
    · exact h.elim
    · exact .inr ⟨vcOp_noCall h,vcOp_spec ha hB h⟩
  · exact .inr ⟨vcOp_noCall h,vcOp_spec ha hB h⟩
theorem vcOps_spec {N B:Nat} (hN:calleesOk P N = true) {wr:Bool} {ops:List Oper}:∀ (l:List Oper) (L:Kn) (tm:Tm) (H:Heap) (lo:Nat) (K:Kn->Heap->Prop),Agree tm L->B<=lo->B<=H.n->vcOps P N B wr ops l L H K ->
    WO P ops l ⟨tm,H,lo⟩ fun st=>B<=st.lo∧B<=st.heap.n∧∃ L',Agree st.tmps L'∧K L' st.heap
  | [],L,tm,H,lo,K,ha,hl,hB,h=>WO.nil ⟨hl,hB,L,ha,h⟩
  | o :: rest,L,tm,H,lo,K,ha,hl,hB,h=>by
    unfold vcOps at h
    have key:wantedL ops tm o = true->(vcStep P N B B wr o L H (fun v H'=>putK L o.dst v fun L'=>vcOps P N B wr ops rest L' H' K) (fun v H'=>putK L o.dst v fun L'=>vcOps P N B wr ops rest L' H' K)) ->
        WO P ops (o :: rest) ⟨tm,H,lo⟩ fun st=>B<=st.lo∧B<=st.heap.n∧∃ L',Agree st.tmps L'∧K L' st.heap:=by
      intro hw h
      rcases vcStep_spec hN ha hB h with ⟨f,l,h1,h2⟩ | ⟨h1,v,H',lo',h2,h0,h3⟩
      · refine WO.call hw h1 (h2.mono fun v H' lo' h3=>?_)
        obtain ⟨L',h4,h5⟩:=putK_spec ha h3.2
        exact vcOps_spec hN rest L' _ _ _ K h4 (Nat.le_min.2 ⟨hl,h3.1.1⟩) h3.1.2 h5
      · refine WO.step hw h1 h2 ?_
        obtain ⟨L',h4,h5⟩:=putK_spec ha h3
        exact vcOps_spec hN rest L' _ _ _ K h4 (Nat.le_min.2 ⟨hl,h0.1⟩) h0.2 h5
    split at h
    · rename_i hg
      exact key (by simp only [wantedL,hg]) h
    · rename_i j want hg
      obtain ⟨b,h1,h2⟩:=guardK_spec ha h
      have hw:wantedL ops tm o = bEq b want:=by simp only [wantedL,hg,h1]
      rcases cond_iff h2 with ⟨h3,h4⟩ | ⟨h3,h4⟩
      · exact key (by rw [hw,h3]) h4
      · obtain ⟨L',h5,h6⟩:=putK_spec ha h4
        exact WO.skip (by rw [hw,h3]) (vcOps_spec hN rest L' _ _ _ K h5 hl hB h6)
theorem vcHead_spec {N B:Nat} (hN:calleesOk P N = true) {wr:Bool} {ops:List Oper}:∀ (l:List Oper) (L:Kn) (tm:Tm) (H:Heap) (lo:Nat) (K:Kn->Heap->Prop),Agree tm L->B<=lo->B<=H.n->vcHead P N B wr ops l L H K ->
    WH P ops l ⟨tm,H,lo⟩ fun st=>B<=st.lo∧B<=st.heap.n∧∃ L',Agree st.tmps L'∧K L' st.heap
  | [],L,tm,H,lo,K,ha,hl,hB,h=>WH.nil ⟨hl,hB,L,ha,h⟩
  | o :: rest,L,tm,H,lo,K,ha,hl,hB,h=>by
    unfold vcHead at h
    have key:wantedL ops tm o = true->(vcStep P N B H.n wr o L H (fun v _=>plain v = true∧putK L o.dst v fun L'=>vcHead P N B wr ops rest L' H K) (fun v _=>putK L o.dst v fun L'=>vcHead P N B wr ops rest L' H K)) ->
        WH P ops (o :: rest) ⟨tm,H,lo⟩ fun st=>B<=st.lo∧B<=st.heap.n∧∃ L',Agree st.tmps L'∧K L' st.heap:=by
      intro hw h
      rcases vcStep_spec hN ha hB h with ⟨f,l,h1,h2⟩ | ⟨h1,v,H',lo',h2,h0,h3⟩
      · refine WH.call hw h1 (h2.mono fun v H' lo' h3=>⟨⟨h3.2.1,h3.1.1⟩,?_⟩)
        obtain ⟨L',h4,h5⟩:=putK_spec ha h3.2.2
        exact vcHead_spec hN rest L' _ _ _ K h4 hl hB h5
      · refine WH.step hw h1 h2 ?_
        obtain ⟨L',h4,h5⟩:=putK_spec ha h3
        exact vcHead_spec hN rest L' _ _ _ K h4 hl hB h5
    split at h
    · rename_i hg
      exact key (by simp only [wantedL,hg]) h
    · rename_i j want hg
      obtain ⟨b,h1,h2⟩:=guardK_spec ha h
      have hw:wantedL ops tm o = bEq b want:=by simp only [wantedL,hg,h1]
      rcases cond_iff h2 with ⟨h3,h4⟩ | ⟨h3,h4⟩
      · exact key (by rw [hw,h3]) h4
      · obtain ⟨L',h5,h6⟩:=putK_spec ha h4
        exact WH.skip (by rw [hw,h3]) (vcHead_spec hN rest L' _ _ _ K h5 hl hB h6)
theorem vcG_spec {N B:Nat} (hN:calleesOk P N = true) {wr:Bool} {ops:List Oper}:∀ (l:List Oper) (L:Kn) (tm:Tm) (H:Heap) (lo:Nat) (K:Kn->Heap->Prop),Agree tm L->B<=lo->B<=H.n->vcG P N B wr ops l L H K ->
    WG P ops l ⟨tm,H,lo⟩ fun st=>B<=st.lo∧B<=st.heap.n∧∃ L',Agree st.tmps L'∧K L' st.heap
  | [],L,tm,H,lo,K,ha,hl,hB,h=>WG.nil ⟨hl,hB,L,ha,h⟩
  | o :: rest,L,tm,H,lo,K,ha,hl,hB,h=>by
    unfold vcG at h
    have key:wantedL ops tm o = true->(vcStep P N H.n H.n wr o L H (fun v H'=>putK L o.dst v fun L'=>vcG P N B wr ops rest L' H' K) (fun v H'=>putK L o.dst v fun L'=>vcG P N B wr ops rest L' H' K)) ->
        WG P ops (o :: rest) ⟨tm,H,lo⟩ fun st=>B<=st.lo∧B<=st.heap.n∧∃ L',Agree st.tmps L'∧K L' st.heap:=by
      intro hw h
      rcases vcStep_spec hN ha (Nat.le_refl _) h with ⟨f,l,h1,h2⟩ | ⟨h1,v,H',lo',h2,h0,h3⟩
      · refine WG.call hw h1 (h2.mono fun v H' lo' h3=>⟨h3.1.1,?_⟩)
        obtain ⟨L',h4,h5⟩:=putK_spec ha h3.2
        exact vcG_spec hN rest L' _ _ _ K h4 (Nat.le_min.2 ⟨hl,hB⟩) (Nat.le_trans hB h3.1.2) h5
      · refine WG.step hw h1 h2 h0.1 ?_
        obtain ⟨L',h4,h5⟩:=putK_spec ha h3
        exact vcG_spec hN rest L' _ _ _ K h4 (Nat.le_min.2 ⟨hl,hB⟩) (Nat.le_trans hB h0.2) h5
    split at h
    · rename_i hg
      exact key (by simp only [wantedL,hg]) h
    · rename_i j want hg
      obtain ⟨b,h1,h2⟩:=guardK_spec ha h
      have hw:wantedL ops tm o = bEq b want:=by simp only [wantedL,hg,h1]
      rcases cond_iff h2 with ⟨h3,h4⟩ | ⟨h3,h4⟩
      · exact key (by rw [hw,h3]) h4
      · obtain ⟨L',h5,h6⟩:=putK_spec ha h4
        exact WG.skip (by rw [hw,h3]) (vcG_spec hN rest L' _ _ _ K h5 hl hB h6)
theorem vcR_spec {N B:Nat} (hN:calleesOk P N = true) {wr:Bool} {ops:List Oper}:∀ (l:List (Nat × List Nat)) (V:List (Nat × Value)) (L:Kn) (tm:Tm) (H:Heap) (lo:Nat) (K:Kn->Heap->Prop),Agree tm L->B<=lo->B<=H.n->vcR P N B wr ops l V L H K ->
    WR P ops l V ⟨tm,H,lo⟩ fun st=>B<=st.lo∧B<=st.heap.n∧∃ L',Agree st.tmps L'∧K L' st.heap
  | [],V,L,tm,H,lo,K,ha,hl,hB,h=>WR.nil ⟨hl,hB,L,ha,h⟩
  | (i,es) :: rest,V,L,tm,H,lo,K,ha,hl,hB,h=>by
    unfold vcR at h
    rcases h with h | h | ⟨Bc,hBc,h⟩ | ⟨Bc,hBc,hBn,h⟩
    rotate_left
    rotate_left
    rotate_left
    · obtain ⟨o,ho,h⟩:=nthK_spec _ _ _ h
      split at h
      · rename_i hg
        have hw:wantedL ops tm o = true:=by simp only [wantedL,hg]
        rcases vcStep_spec hN ha hBn h with ⟨f,l,h1,h2⟩ | ⟨h1,v,H',lo',h2,h0,h3⟩
        · obtain ⟨_,_,_,_,_,h9⟩:=h2.out
          exact h9.2.elim
        · obtain ⟨L',h4,h5⟩:=putK_spec ha h3
          obtain ⟨h6,h7⟩:=againL_spec (lo:=lo') ha h4 h0.1 h5
          exact WR.step ho hw h1 h2 (.inr (by rw [h6]; rfl)) fun lo2 hlo2=>vcR_spec hN rest _ L' _ _ _ K h4 (Nat.le_trans (Nat.le_min.2 ⟨hl,Nat.le_min.2 ⟨Nat.le_trans hBc h0.1,hB⟩⟩) hlo2) (Nat.le_trans hBc h0.2) h7
      · exact h.elim
    rotate_left
    rotate_left
    · obtain ⟨o,ho,h⟩:=nthK_spec _ _ _ h
      split at h
      · rename_i hg
        have hw:wantedL ops tm o = true:=by simp only [wantedL,hg]
        rcases vcStep_spec hN ha hB h with ⟨f,l,h1,h2⟩ | ⟨_,_,_,_,_,_,h3⟩
        · refine WR.call ho hw h1 (h2.mono fun v H' lo' h3=>?_)
          obtain ⟨L',h4,h5⟩:=putK_spec ha h3.2
          obtain ⟨h6,h7⟩:=againL_spec (lo:=lo') ha h4 h3.1.1 h5
          exact ⟨.inr (by rw [h6]; rfl),fun lo2 hlo2=>vcR_spec hN rest _ L' _ _ _ K h4 (Nat.le_trans (Nat.le_min.2 ⟨hl,Nat.le_min.2 ⟨Nat.le_trans hBc h3.1.1,hB⟩⟩) hlo2) (Nat.le_trans hBc h3.1.2) h7⟩
        · exact h3.elim
      · exact h.elim
    rotate_left
    · obtain ⟨o,ho,h⟩:=nthK_spec _ _ _ h
      have key:wantedL ops tm o = true->(vcStep P N B H.n wr o L H (fun v H'=>putK L o.dst v fun L'=>vcR P N B wr ops rest ((i,v) :: V) L' H' K) (fun _ _=>False)) ->
          WR P ops ((i,es) :: rest) V ⟨tm,H,lo⟩ fun st=>B<=st.lo∧B<=st.heap.n∧∃ L',Agree st.tmps L'∧K L' st.heap:=by
        intro hw h
        rcases vcStep_spec hN ha hB h with ⟨f,l,h1,h2⟩ | ⟨_,_,_,_,_,_,h3⟩
        · refine WR.call ho hw h1 (h2.mono fun v H' lo' h3=>?_)
          obtain ⟨L',h4,h5⟩:=putK_spec ha h3.2
          have h6:H.n<=lo':=h3.1.1
          exact ⟨.inl h6,fun lo2 hlo2=>vcR_spec hN rest _ L' _ _ _ K h4 (Nat.le_trans (Nat.le_min.2 ⟨hl,Nat.le_min.2 ⟨Nat.le_trans hB h6,hB⟩⟩) hlo2) (Nat.le_trans hB h3.1.2) h5⟩
        · exact h3.elim
      split at h
      · rename_i hg
        exact key (by simp only [wantedL,hg]) h
      · rename_i j want hg
        obtain ⟨b,h1,h2⟩:=guardK_spec ha h
        have hw:wantedL ops tm o = bEq b want:=by simp only [wantedL,hg,h1]
        rcases cond_iff h2 with ⟨h3,h4⟩ | ⟨h3,h4⟩
        · exact key (by rw [hw,h3]) h4
        · obtain ⟨L',h5,h6⟩:=putK_spec ha h4
          exact WR.skip ho (by rw [hw,h3]) (vcR_spec hN rest _ L' _ _ _ K h5 hl hB h6)
    obtain ⟨o,ho,h⟩:=nthK_spec _ _ _ h
    have key:wantedL ops tm o = true->(vcStep P N B B wr o L H (fun v H'=>putK L o.dst v fun L'=>againK P ops V L' H' es (vcR P N B wr ops rest ((i,v) :: V) L' H' K)) (fun v H'=>putK L o.dst v fun L'=>againK P ops V L' H' es (vcR P N B wr ops rest ((i,v) :: V) L' H' K))) ->
        WR P ops ((i,es) :: rest) V ⟨tm,H,lo⟩ fun st=>B<=st.lo∧B<=st.heap.n∧∃ L',Agree st.tmps L'∧K L' st.heap:=by
      intro hw h
      rcases vcStep_spec hN ha hB h with ⟨f,l,h1,h2⟩ | ⟨h1,v,H',lo',h2,h0,h3⟩
      · refine WR.call ho hw h1 (h2.mono fun v H' lo' h3=>?_)
        obtain ⟨L',h4,h5⟩:=putK_spec ha h3.2
        obtain ⟨h6,h7⟩:=againK_spec h4 h5
        exact ⟨.inr (by rw [recheckL_of h6]; rfl),fun lo2 hlo2=>vcR_spec hN rest _ L' _ _ _ K h4 (Nat.le_trans (Nat.le_min.2 ⟨hl,Nat.le_min.2 ⟨h3.1.1,hB⟩⟩) hlo2) h3.1.2 h7⟩
      · obtain ⟨L',h4,h5⟩:=putK_spec ha h3
        obtain ⟨h6,h7⟩:=againK_spec h4 h5
        exact WR.step ho hw h1 h2 (.inr (by rw [recheckL_of h6]; rfl)) fun lo2 hlo2=>vcR_spec hN rest _ L' _ _ _ K h4 (Nat.le_trans (Nat.le_min.2 ⟨hl,Nat.le_min.2 ⟨h0.1,hB⟩⟩) hlo2) h0.2 h7
    split at h
    · rename_i hg
      rcases cond_iff h with ⟨h3,h4⟩ | ⟨h3,h4⟩
      · obtain ⟨t,x,y,b,i0,hop,hx,h5⟩:=blockK_spec ha h4
        obtain ⟨h6,h7⟩:=againS_spec ha h5
        simp only [Bool.and_eq_true] at h3
        have hw:wantedL ops tm o = true:=by simp only [wantedL,hg]
        rcases vcStep_spec hN ha hB h7 with ⟨f,l,h1,h2⟩ | ⟨h1,v,H',lo',h2,h0,h8⟩
        · obtain ⟨_,_,_,_,_,h9⟩:=h2.out
          exact h9.2.elim
        · obtain ⟨L',h9,h10⟩:=putK_spec ha h8
          have:=store_block hop hx h2
          subst this
          exact WR.step ho hw h1 h2 (.inr (by rw [h3.1,h6]; simp)) fun lo2 hlo2=>vcR_spec hN rest _ L' _ _ _ K h9 (Nat.le_trans (Nat.le_min.2 ⟨hl,Nat.le_min.2 ⟨h0.1,hB⟩⟩) hlo2) h0.2 h10
      · rcases cond_iff h4 with ⟨h5,h6⟩ | ⟨h5,h6⟩
        · have hw:wantedL ops tm o = true:=by simp only [wantedL,hg]
          rcases vcStep_spec hN ha hB h6 with ⟨f,l,h1,h2⟩ | ⟨h1,v,H',lo',h2,h0,h8⟩
          · obtain ⟨_,_,_,_,_,h9⟩:=h2.out
            exact h9.2.elim
          · obtain ⟨L',h9,h10⟩:=putK_spec ha h8
            have:=new_lo h5 h2
            subst this
            exact WR.step ho hw h1 h2 (.inl (Nat.le_refl _)) fun lo2 hlo2=>vcR_spec hN rest _ L' _ _ _ K h9 (Nat.le_trans (Nat.le_min.2 ⟨hl,Nat.le_min.2 ⟨h0.1,hB⟩⟩) hlo2) h0.2 h10
        · exact key (by simp only [wantedL,hg]) h6
    · rename_i j want hg
      obtain ⟨b,h1,h2⟩:=guardK_spec ha h
      have hw:wantedL ops tm o = bEq b want:=by simp only [wantedL,hg,h1]
      rcases cond_iff h2 with ⟨h3,h4⟩ | ⟨h3,h4⟩
      · exact key (by rw [hw,h3]) h4
      · obtain ⟨L',h5,h6⟩:=putK_spec ha h4
        exact WR.skip ho (by rw [hw,h3]) (vcR_spec hN rest _ L' _ _ _ K h5 hl hB h6)
theorem WO.mono {ops l:List Oper} {st:St} {Q Q':St->Prop} (h:WO P ops l st Q) (hq:∀ st',Q st'->Q' st'):WO P ops l st Q':=by
  obtain ⟨k,st',h1,h2⟩:=h; exact ⟨k,st',h1,hq _ h2⟩
theorem WH.mono {ops l:List Oper} {st:St} {Q Q':St->Prop} (h:WH P ops l st Q) (hq:∀ st',Q st'->Q' st'):WH P ops l st Q':=by
  obtain ⟨k,st',h1,h2⟩:=h; exact ⟨k,st',h1,hq _ h2⟩
theorem vc_spec {N B:Nat} (hN:calleesOk P N = true) {wr:Bool}:∀ (c:Code) (L:Kn) (H:Heap) (Q:Exit->Kn->Heap->Prop),vc P N B wr c L H Q->WCv P B c L H Q:=by
  intro c
  induction c with
  | skip=>intro L H Q h; refine ⟨fun tm lo ha hl hB=>?_⟩; exact WC.skip ⟨hl,hB,L,ha,h⟩
  | label l=>intro L H Q h; refine ⟨fun tm lo ha hl hB=>?_⟩; exact WC.label ⟨hl,hB,L,ha,h⟩
  | exit id=>intro L H Q h; refine ⟨fun tm lo ha hl hB=>?_⟩; exact WC.exit ⟨hl,hB,L,ha,h⟩
  | ret=>intro L H Q h; refine ⟨fun tm lo ha hl hB=>?_⟩; exact WC.ret ⟨hl,hB,L,ha,h⟩
  | region id ops draw =>
    intro L H Q h
    refine ⟨fun tm lo ha hl hB=>?_⟩
    unfold vc at h
    cases draw with
    | false=>exact WC.region (vcOps_spec hN _ L tm H lo _ ha hl hB h)
    | true =>
      have h:bif wideSel ops.toList then False else _:=h
      rcases cond_iff h with ⟨_,h⟩ | ⟨hws,h⟩
      · exact h.elim
      have h:bif mSelP P ops.toList then False else _:=h
      rcases cond_iff h with ⟨_,h⟩ | ⟨hms,h⟩
      · exact h.elim
      refine WC.draw hws ?_ hms
      refine ((vcHead_spec hN _ L tm H lo _ ha hl hB h).mono ?_)
      rintro ⟨tm',H',lo'⟩ ⟨hl',hB',L',h1,h2⟩
      refine (vcOps_spec hN _ L' _ _ _ _ h1 hl' hB' h2).mono ?_
      rintro ⟨tm2,H2,lo2⟩ ⟨hl2,hB2,L2,h3,h4⟩
      exact vcHead_spec hN _ L2 _ _ _ _ h3 hl2 hB2 h4
  | seq a b iha ihb =>
    intro L H Q h
    refine ⟨fun tm lo ha hl hB=>?_⟩
    unfold vc at h
    refine WC.seq (((iha L H _ h).run tm lo ha hl hB).mono ?_)
    rintro e ⟨tm',H',lo'⟩ ⟨hl',hB',L',h1,h2⟩
    cases e with
    | normal=>exact (ihb L' H' Q h2).run tm' lo' h1 hl' hB'
    | _=>exact ⟨hl',hB',L',h1,h2⟩
  | cond x a b iha ihb =>
    intro L H Q h
    refine ⟨fun tm lo ha hl hB=>?_⟩
    unfold vc at h
    obtain ⟨v,h1,h2⟩:=evK_spec ha h
    split at h2
    · exact WC.cond h1 ((iha L H Q h2).run tm lo ha hl hB)
    · exact WC.cond h1 ((ihb L H Q h2).run tm lo ha hl hB)
    · exact h2.elim
  | block id b ih =>
    intro L H Q h
    refine ⟨fun tm lo ha hl hB=>?_⟩
    unfold vc at h
    refine WC.block (((ih L H _ h).run tm lo ha hl hB).mono ?_)
    rintro e ⟨tm',H',lo'⟩ ⟨hl',hB',L',h1,h2⟩
    cases e with
    | exit j =>
      simp only [inBlk]
      rcases cond_iff h2 with ⟨h3,h4⟩ | ⟨h3,h4⟩
      · rw [if_pos (Nat.eq_of_beq_eq_true h3)]; exact ⟨hl',hB',L',h1,h4⟩
      · rw [if_neg (Nat.ne_of_beq_eq_false h3)]; exact ⟨hl',hB',L',h1,h4⟩
    | _=>exact ⟨hl',hB',L',h1,h2⟩
  | scope b ih =>
    intro L H Q h
    refine ⟨fun tm lo ha hl hB=>?_⟩
    unfold vc at h
    refine WC.scope (((ih L H _ h).run tm lo ha hl hB).mono ?_)
    rintro e ⟨tm',H',lo'⟩ ⟨hl',hB',L',h1,h2⟩
    cases e with
    | goto j=>exact h2.elim
    | _=>exact ⟨hl',hB',L',h1,h2⟩
  | loop b ih=>intro L H Q h; exact h
  | rangeFunc g ps x y _ _=>intro L H Q h; exact h
  | _=>intro L H Q h; exact h.elim
theorem CallB.mono {B:Nat} {f:FuncId} {l:List Value} {H:Heap} {Q Q':Value->Heap->Prop} (h:CallB P B f l H Q) (hq:∀ v H',Q v H'->Q' v H'):CallB P B f l H Q' :=
  ⟨h.run.mono fun v H' lo h'=>⟨h'.1,hq _ _ h'.2⟩⟩
theorem RoundB.mono {B:Nat} {b:Nat} {l:List Value} {H:Heap} {Q Q':Value->Heap->Prop} (h:RoundB P B b l H Q) (hq:∀ v H',Q v H'->Q' v H'):RoundB P B b l H Q' :=
  ⟨h.run.mono fun v H' _ hh=>⟨hh.1,hq _ _ hh.2⟩⟩
theorem WCv.forget {B:Nat} {c:Code} {L:Kn} {H:Heap} {Q:Exit->Kn->Heap->Prop} (l:List (Nat × Value)) (hc:covers L l) (h:mkK l .leaf fun L'=>WCv P B c L' H Q):WCv P B c L H Q:=by
  refine ⟨fun tm lo ha hl hB=>?_⟩
  obtain ⟨L',h1,h2⟩:=mkK_spec l .leaf _ h
  refine h1.run tm lo (fun i v hv=>?_) hl hB
  rcases h2 i v hv with h3 | h3
  · simp [Tr.get] at h3
  · exact ha i v (covers_mem L l hc i v h3)
def roundK {α:Type} (S:α->List (Nat × Value)) (I:α->Heap->Prop) (μ:α->Nat) (a:α) (Q:Exit->Kn->Heap->Prop):Exit->Kn->Heap->Prop
  | .normal,L,H=>∃ a',covers L (S a')∧μ a' < μ a∧I a' H
  | e,L,H=>Q e L H
end
end Go.AI
namespace Go.AI
def Row (H:Heap) (v:Value) (vs:List Value):Prop :=
  (v = .slice none 0 0∧vs = []) ∨ (v = anon∧vs = []) ∨
  ∃ b i c cs e k,v = .slice (some ⟨b,i,none⟩) vs.length c∧b < H.n∧H.get b = some (.cells cs e k)∧k ≠ 1∧i + vs.length<=cs.length∧∀ j w,vs[j]? = some w->cs[i + j]? = some w
def elemAt (v:Value) (j:Nat):Value :=
  match v with
  | .slice (some ⟨b,i,_⟩) _ _=>.pointer (some ⟨b,i + j,none⟩)
  | _=>undef
section
variable {P:Program} {H:Heap} {v:Value} {vs:List Value}
theorem Row.alen (h:Row H v vs) {t e:TypeId} (ht:P.underlying t = some (.slice e)):alen P H t v = some (.int .i64 vs.length):=by
  rcases h with ⟨rfl,rfl⟩ | ⟨rfl,rfl⟩ | ⟨b,i,c,cs,e',k,rfl,_,_,_,_,_⟩
  · simp [AI.alen,ht]
  · simp [AI.alen,ht,anon]
  · simp [AI.alen,ht]
theorem Row.addr (h:Row H v vs) {t e:TypeId} (ht:P.underlying t = some (.slice e)) (hs:sizeB P e = some 1) {kd:IntKind} {n:Int} (h0:0<=n) (h1:n < vs.length):aindexAddr P t v (.int kd n) = some (elemAt v n.toNat):=by
  rcases h with ⟨rfl,rfl⟩ | ⟨rfl,rfl⟩ | ⟨b,i,c,cs,e',k,rfl,_,_,_,_,_⟩
  · simp at h1; omega
  · simp at h1; omega
  · simp [aindexAddr,asIdx,ht,hs,elemAt,h0,h1]
theorem Row.load (h:Row H v vs) {t:TypeId} (ht:isAggB P t = some false) {j:Nat} {w:Value} (hj:vs[j]? = some w):aload P t H (elemAt v j) = some w:=by
  rcases h with ⟨rfl,rfl⟩ | ⟨rfl,rfl⟩ | ⟨b,i,c,cs,e',k,rfl,_,hb,_,_,hc⟩
  · simp at hj
  · simp at hj
  · simp [aload,elemAt,hb,ht,hc j w hj]
end
def Ints (H:Heap) (v:Value) (xs:List Int):Prop:=Row H v (xs.map (Value.int .i64))
end Go.AI
namespace Go.AI
section
variable {P:Program} {tm:Tm} {H:Heap} {o:Oper}
theorem evT_of {x:Operand} {v:Value} (h:ev P tm x = some v):evT tm x = v:=by
  cases x with
  | tmp t=>simpa [ev,evT] using h
  | const v=>simp only [ev] at h; split at h<;>simp_all [evT]
  | global g=>simp only [ev] at h; split at h<;>simp_all [evT]
  | func f=>simpa [ev,evT] using h
theorem pureRun_bind {α β:Type} (m:Sem α) (f:α->Sem β):pureRun P (m >>= f) = (pureRun P m).bind fun a=>pureRun P (f a):=by
  show pureRun P (m.bind f) = _
  induction m with
  | pure a=>rfl
  | program k ih=>exact ih P
  | mark m k ih=>exact ih
  | _=>rfl
theorem pureRun_pure {α:Type} (a:α):pureRun P (pure a) = some a:=rfl
theorem pureRun_underlying {t:TypeId} {d:TypeDesc} (h:P.underlying t = some d):pureRun P (underlying t) = some d:=by
  unfold underlying
  rw [pureRun_bind,show pureRun P program = some P from rfl]
  simp only [Option.bind_some,h]
  rfl
theorem apure_bin {op:BinOp} {t u:TypeId} {x y:Operand} {a b v:Value} (ho:o.op = .binOp op t x y u) (hx:ev P tm x = some a) (hy:ev P tm y = some b) (ha:plain a = true) (hb:plain b = true)
    (hg:pureRun P (eqGuard op t x y a b) = some ()) (h:pureRun P (binOp op t a b) = some v) (hv:plain v = true):apure P tm o = some v:=by
  unfold apure
  simp only [ho,Op.operands,execOp,evT_of hx,evT_of hy]
  rw [if_pos (by simp [hx,hy,ha,hb])]
  simp only [pureRun_bind,hg,h,Option.bind_some,pureRun_pure,hv,if_true]
theorem eqGuard_int {op:BinOp} {t:TypeId} {x y:Operand} {k j:IntKind} {a b:Int}:pureRun P (eqGuard op t x y (.int k a) (.int j b)) = some ():=by
  cases op<;>rfl
theorem step1_bin {op:BinOp} {t u:TypeId} {x y:Operand} {a b v:Value} (ho:o.op = .binOp op t x y u) (hx:ev P tm x = some a) (hy:ev P tm y = some b) (h:abin op a b = none) (hn:anil P t op a b = none) (hp:apure P tm o = some v):step1 P tm H o = some (v,H,H.n):=by
  simp only [step1,ho,sBin,hx,hy,h,hn,hp,ret]
theorem step1_bits {op:BinOp} {t u:TypeId} {x y:Operand} {k:IntKind} {a b:Int} {v:Value} (hop:op = .xor ∨ op = .and ∨ op = .or ∨ op = .andNot) (ho:o.op = .binOp op t x y u) (hx:ev P tm x = some (.int k a)) (hy:ev P tm y = some (.int k b)) (h:pureRun P (Op.intBits op k a b) = some v) (hv:plain v = true):step1 P tm H o = some (v,H,H.n):=by
  have h1:abin op (.int k a) (.int k b) = none:=by rcases hop with rfl | rfl | rfl | rfl<;>simp [abin]
  refine step1_bin ho hx hy h1 rfl (apure_bin ho hx hy rfl rfl eqGuard_int ?_ hv)
  rw [show binOp op t (.int k a) (.int k b) = Op.intBits op k a b by rcases hop with rfl | rfl | rfl | rfl<;>simp [binOp]]
  exact h
theorem step1_div {op:BinOp} {t u:TypeId} {x y:Operand} {k:IntKind} {a b:Int} {v:Value} (hop:op = .quo ∨ op = .rem) (ho:o.op = .binOp op t x y u) (hx:ev P tm x = some (.int k a)) (hy:ev P tm y = some (.int k b)) (h:pureRun P (Op.intDiv op k a b) = some v) (hv:plain v = true):step1 P tm H o = some (v,H,H.n):=by
  have h1:abin op (.int k a) (.int k b) = none:=by rcases hop with rfl | rfl<;>simp [abin]
  refine step1_bin ho hx hy h1 rfl (apure_bin ho hx hy rfl rfl eqGuard_int ?_ hv)
  rw [show binOp op t (.int k a) (.int k b) = Op.intDiv op k a b by rcases hop with rfl | rfl<;>simp [binOp]]
  exact h
theorem step1_shr {t u:TypeId} {x y:Operand} {k j:IntKind} {a b:Int} (ho:o.op = .binOp .shr t x y u) (hx:ev P tm x = some (.int k a)) (hy:ev P tm y = some (.int j b)) (hb:0<=b):step1 P tm H o = some (.int k (a.fdiv (2 ^ (min b.toNat k.bits))),H,H.n):=by
  refine step1_bin ho hx hy (by simp [abin]) rfl (apure_bin ho hx hy rfl rfl eqGuard_int ?_ rfl)
  rw [show binOp .shr t (.int k a) (.int j b) = Op.shift .shr k a j b from rfl,Op.shift,if_neg (by omega)]
  rfl
theorem step1_rem {t u:TypeId} {x y:Operand} {k:IntKind} {a b:Int} (ho:o.op = .binOp .rem t x y u) (hx:ev P tm x = some (.int k a)) (hy:ev P tm y = some (.int k b)) (hb:b ≠ 0):step1 P tm H o = some (.int k (a.tmod b),H,H.n) :=
  step1_div (.inr rfl) ho hx hy (by rw [Op.intDiv,if_neg hb]; rfl) rfl
theorem step1_quo {t u:TypeId} {x y:Operand} {k:IntKind} {a b:Int} (ho:o.op = .binOp .quo t x y u) (hx:ev P tm x = some (.int k a)) (hy:ev P tm y = some (.int k b)) (hb:b ≠ 0):step1 P tm H o = some (.int k (k.wrap (a.tdiv b)),H,H.n) :=
  step1_div (.inl rfl) ho hx hy (by rw [Op.intDiv,if_neg hb]; rfl) rfl
theorem step1_conv {s d:TypeId} {x:Operand} {j k:IntKind} {n:Int} {ds:TypeDesc} (hs:P.underlying s = some ds) (hd:P.underlying d = some (.int k)) (ho:o.op = .convert s d x) (hx:ev P tm x = some (.int j n)):step1 P tm H o = some (.int k (k.wrap n),H,H.n):=by
  have h1:pureRun P (convert s d (.int j n)) = some (.int k (k.wrap n)):=by
    unfold convert
    rw [pureRun_bind,pureRun_underlying hs,Option.bind_some,pureRun_bind,pureRun_underlying hd,Option.bind_some]
    rfl
  have h2:apure P tm o = some (.int k (k.wrap n)):=by
    unfold apure
    simp only [ho,Op.operands,execOp,evT_of hx]
    rw [if_pos (by simp [hx,plain,flat,scalar])]
    simp only [pureRun_bind,h1,Option.bind_some,pureRun_pure]
    rfl
  simp only [step1,ho,sConvert,hx,h2,ret]
  rfl
theorem apure_builtin {b:Builtin} {x y:Operand} {ts:Array TypeId} {a c v:Value} (ho:o.op = .call ⟨.builtin b,#[x,y],ts⟩) (hx:ev P tm x = some a) (hy:ev P tm y = some c) (ha:plain a = true) (hc:plain c = true)
    (h:∀ cs:Array Bool,pureRun P (builtin b ts o.type cs #[a,c]) = some (.value v)) (hv:plain v = true):apure P tm o = some v:=by
  unfold apure
  simp only [ho,Op.operands,execOp,resolve,pureRun_bind,pureRun_pure,Option.bind_some,invoke]
  rw [if_pos (by simp [Call.operands,hx,hy,ha,hc])]
  rw [show Array.map (evT tm) #[x,y] = #[a,c] by simp [evT_of hx,evT_of hy]]
  simp only [h,hv,if_true]
theorem step1_min {x y:Operand} {ts:Array TypeId} {k:IntKind} {a b:Int} (ho:o.op = .call ⟨.builtin .min,#[x,y],ts⟩) (hx:ev P tm x = some (.int k a)) (hy:ev P tm y = some (.int k b)):step1 P tm H o = some (.int k (min a b),H,H.n):=by
  have:apure P tm o = some (.int k (if b < a then b else a)):=apure_builtin ho hx hy rfl rfl (fun _=>rfl) rfl
  simp only [step1,ho,sCall,sBuiltin,this,ret]
  congr 3
  split<;>omega
theorem ev_tmp {L:Kn} (ha:Agree tm L) {i:Nat} {v:Value} (h:L.get i = some v):ev P tm (.tmp i) = some v:=by
  simp only [ev,ha i v h]
end
end Go.AI
