/- The abstract machine and the model: what the abstract machine computes, the model does. -/
import Derived.Test.YthjieekbbhhjgaaDoorEd
namespace Go.AI
open Go.RowKit
section
variable {P : Program} {B : Nat}

theorem take_takeWhile {α : Type} (p : α → Bool) : ∀ (l : List α) (x : α), x ∈ l.take (l.takeWhile p).length → p x = true
  | [], x, h => by simp at h
  | y :: l, x, h => by
    by_cases hp : p y = true
    · rw [List.takeWhile_cons_of_pos hp] at h
      simp only [List.length_cons, List.take_succ_cons, List.mem_cons] at h
      rcases h with rfl | h
      · exact hp
      · exact take_takeWhile p l x h
    · rw [List.takeWhile_cons_of_neg hp] at h
      simp at h

theorem stepR_scope {b : Frame} {a : Act} {k : List Item} {cs : List Frame} {w : World} {c : Code} : Go.step P (lone (b.atR a (.code (.scope c) :: k)) cs w) = .next (lone (b.atR a (.code c :: .inScope c :: k)) cs w) :=
  step_lone_go (by simp [stepG, stepG.exec, Frame.atR])
theorem stepR_inScope {b : Frame} {a : Act} {k : List Item} {cs : List Frame} {w : World} {c : Code} : Go.step P (lone (b.atR a (.inScope c :: k)) cs w) = .next (lone (b.atR a k) cs w) :=
  step_lone_go (by simp [stepG, stepG.exec, Frame.atR])
theorem wpIn_scope {F : Fence} {n : Nat} {Q : Exit → Act → World → Prop} {a : Act} {w : World} {c : Code} (h : c.wpIn F n P (Exit.noGoto Q) a w) : (Code.scope c).wpIn F n P Q a w := by
  intro b k cs hro hb hr
  have h0 : (lone (b.atR a (.code (.scope c) :: k)) cs w).fenced P F := fenced_calm hb hr rfl
  obtain ⟨e, a₁, w₁, hq, harr⟩ := h b (.inScope c :: k) cs hro hb hr
  cases e with
  | normal => exact ⟨.normal, a₁, w₁, hq, .head h0 stepR_scope (StepsIn.trans harr (.one (fenced_calm hb hr rfl) stepR_inScope))⟩
  | exit id =>
    have hx : exitTo id (.inScope c :: k) = exitTo id k := by simp [exitTo]
    exact ⟨.exit id, a₁, w₁, hq, fun k' hk => .head h0 stepR_scope (harr.1 k' (by rw [hx]; exact hk)),
      fun hr' hk => let ⟨k₁, h1, h2⟩ := harr.2 hr' (by rw [hx]; exact hk); ⟨k₁, h1, .head h0 stepR_scope h2⟩⟩
  | goto l => exact hq.elim
  | ret => exact ⟨_, a₁, w₁, hq, .of_steps (.one h0 stepR_scope) harr⟩
  | panic ch => exact ⟨_, a₁, w₁, hq, .of_steps (.one h0 stepR_scope) harr⟩
  | outgrown => exact ⟨_, a₁, w₁, hq, .of_steps (.one h0 stepR_scope) harr⟩


theorem exec_sound {cf : CallF} (hcf : CallOK P B cf) (hm : P.follows .mixedOrders = true) {n : Nat} {ρ0 : Ren} {w0 : World} (r : Option Nat) (m : Nat) : ∀ (k : Nat) (c : Code) (st : St) (e : Exit) (st' : St), exec P cf k c st = some (e, st') → codeOk n c = true →
    ∀ (ρ : Ren) (a : Act) (w : World), RS P B ρ0 w0 n ρ st a w → ∀ (Q : Exit → Act → World → Prop), (∀ ρ' a' w', RS P B ρ0 w0 n ρ' st' a' w' → Q e a' w') → c.wpIn (Fr r) m P Q a w := by
  intro k
  induction k using Nat.strongRecOn with
  | _ k0 ih0 =>
    cases k0 with
    | zero => intro c st e st' h; simp [exec] at h
    | succ k =>
    have ih := ih0 k (Nat.lt_succ_self k)
    intro c st e st' h hok ρ a w hR Q hQ
    cases c with
    | skip => simp only [exec, Option.some.injEq, Prod.mk.injEq] at h; obtain ⟨rfl, rfl⟩ := h; exact wpIn_skip (hQ _ _ _ hR)
    | label l => simp only [exec, Option.some.injEq, Prod.mk.injEq] at h; obtain ⟨rfl, rfl⟩ := h; exact wpIn_label (hQ _ _ _ hR)
    | exit id => simp only [exec, Option.some.injEq, Prod.mk.injEq] at h; obtain ⟨rfl, rfl⟩ := h; exact wpIn_exit (hQ _ _ _ hR)
    | ret => simp only [exec, Option.some.injEq, Prod.mk.injEq] at h; obtain ⟨rfl, rfl⟩ := h; exact wpIn_ret (hQ _ _ _ hR)
    | region id ops draw =>
      simp only [codeOk, Bool.and_eq_true] at hok
      have hd : ∀ (i : Nat) (o : Oper), ops[i]? = some o → dstOk n o = true := fun i o ho => List.all_eq_true.1 hok.1 o (by
        have : ops.toList[i]? = some o := by simpa using ho
        exact List.mem_of_getElem? this)
      cases draw with
      | false =>
        simp only [exec, Bool.false_eq_true, if_false] at h
        split at h
        · rename_i st1 hs
          cases h
          refine wpIn_region ?_
          have := opsL_sound hcf ops hd r m Q st' hQ ops.toList 0 st ρ a w (fun j => by simp) hR hs
          simpa [List.range_eq_range'] using this
        · cases h
      | true =>
        simp only [exec, if_true] at h
        have hdraw : drawOk ops = true := by simpa using hok.2
        simp only [drawOk, Bool.and_eq_true] at hdraw
        have hnd : ∀ (i : Nat) (o : Oper), ops[i]? = some o → noDefer o := fun i o ho c hc => by
          have : ops.toList[i]? = some o := by simpa using ho
          have := List.all_eq_true.1 hdraw.1 o (List.mem_of_getElem? this)
          simp [notDefer, hc] at this
        have hC : Below w.heap.size w { w with drawn := w.drawn + 1 } := (Below.refl _ w).drew
        have hb := hdraw.2
        split at h
        · rename_i st1 hs
          cases h
          unfold drawL at hs
          cases hmid : midOk ops.toList (callLen ops.toList) with
          | true =>
            rw [hmid, cond_true] at hb
            have eM : splitM ops.toList = callLen ops.toList := by unfold splitM; rw [hmid]; rfl
            have eQ : splitQ ops.toList = 1 := by unfold splitQ; rw [hmid]; rfl
            rw [eM, eQ] at hs
            have hhead : ∀ o ∈ ops.toList.take (callLen ops.toList), quietOp o = true ∧ dstOk n o = true := fun o ho => by
              have := take_takeWhile _ ops.toList o ho
              simp only [Bool.and_eq_true] at this
              exact ⟨this.1, List.all_eq_true.1 hok.1 o (List.mem_of_mem_take ho)⟩
            simp only [midOk, Bool.and_eq_true] at hmid
            have hrest : ∀ o ∈ ops.toList.drop (callLen ops.toList + 1), quietOp o = true ∧ dstOk n o = true := fun o ho => by
              have := List.all_eq_true.1 hmid.2 o ho
              simp only [Bool.and_eq_true] at this
              exact ⟨this.1, List.all_eq_true.1 hok.1 o (List.mem_of_mem_drop ho)⟩
            have hsz : callLen ops.toList + 1 ≤ ops.size := by
              simp only [midB, Bool.and_eq_true, decide_eq_true_eq] at hb
              exact hb.1.1.1.2
            split at hs
            · rename_i st2 hh
              split at hs
              · rename_i st3 hh3
                refine region_mid hnd (callLen ops.toList) 0 hm hb hC (headL_sound hcf ops r m _ _ (fun a' h' w' hw' => ?_) _ st a hhead hR hh)
                have hlen : ((ops.toList.drop (callLen ops.toList)).take 1).length = 1 := by simp; omega
                have := opsL_mid hcf ops hd r m Q (restR (Fr r) m P ops Q (callLen ops.toList + (0 + 1))) st3 (fun ρ' a2 w2 h2 =>
                  ⟨fun w3 => Below w2.heap.size w2 w3, Below.refl _ _, headL_sound hcf ops r m _ _ (fun a3 h3 w3 hw3 => hQ ρ' a3 w3 (h3.below hw3)) _ st3 a2 hrest h2 hs⟩)
                  ((ops.toList.drop (callLen ops.toList)).take 1) (callLen ops.toList) st2 ρ a' w' (fun j hj => by
                    rw [hlen] at hj
                    have : j = 0 := by omega
                    subst this
                    simp [List.getElem?_take, List.getElem?_drop]) (h'.below hw') hh3
                rw [hlen] at this
                exact this
              · cases hs
            · cases hs
          | false =>
            rw [hmid, cond_false] at hb
            have eM : splitM ops.toList = headLen ops.toList := by unfold splitM; rw [hmid]; rfl
            have eQ : splitQ ops.toList = ops.toList.length - headLen ops.toList := by unfold splitQ; rw [hmid]; rfl
            have hle : headLen ops.toList ≤ ops.toList.length := by
              unfold headLen
              exact (List.takeWhile_sublist _).length_le
            rw [eM, eQ, show headLen ops.toList + (ops.toList.length - headLen ops.toList) = ops.toList.length by omega, List.drop_length, show (ops.toList.drop (headLen ops.toList)).take (ops.toList.length - headLen ops.toList) = ops.toList.drop (headLen ops.toList) from List.take_of_length_le (by simp)] at hs
            have hhead : ∀ o ∈ ops.toList.take (headLen ops.toList), quietOp o = true ∧ dstOk n o = true := fun o ho =>
              ⟨take_takeWhile quietOp ops.toList o ho, List.all_eq_true.1 hok.1 o (List.mem_of_mem_take ho)⟩
            split at hs
            · rename_i st2 hh
              split at hs
              · rename_i st3 hh3
                simp only [headL, Option.some.injEq] at hs
                subst hs
                split at hb
                · rename_i hlen
                  have hlen' : headLen ops.toList = ops.toList.length := by simpa using hlen
                  rw [hlen'] at hh hh3 hhead
                  rw [List.drop_length] at hh3
                  rw [List.take_length] at hh hhead
                  simp only [opsL, Option.some.injEq] at hh3
                  subst hh3
                  exact region_quiet hnd hm hb hC (headL_sound hcf ops r m _ _ (fun a' h' w' hw' => hQ ρ a' w' (h'.below hw')) ops.toList st a hhead hR hh)
                · refine region_tail hnd (headLen ops.toList) hm hb hC (headL_sound hcf ops r m _ _ (fun a' h' w' hw' => ?_) _ st a hhead hR hh)
                  have := opsL_sound hcf ops hd r m Q _ hQ (ops.toList.drop (headLen ops.toList)) (headLen ops.toList) st2 ρ a' w' (fun j => by simp [List.getElem?_drop]) (h'.below hw') hh3
                  simpa using this
              · cases hs
            · cases hs
        · cases h
    | seq x y =>
      simp only [codeOk, Bool.and_eq_true] at hok
      simp only [exec] at h
      refine wpIn_seq ?_
      split at h
      · rename_i st1 hx
        exact ih x st _ st1 hx hok.1 ρ a w hR _ fun ρ' a' w' h' => ih y st1 e st' h hok.2 ρ' a' w' h' Q hQ
      · rename_i hne
        refine ih x st e st' h hok.1 ρ a w hR _ fun ρ' a' w' h' => ?_
        have := hQ ρ' a' w' h'
        cases e with
        | normal => exact absurd h (hne st')
        | _ => exact this
    | cond x y z =>
      simp only [codeOk, Bool.and_eq_true] at hok
      simp only [exec] at h
      split at h
      · rename_i hx
        exact wpIn_cond_true (vt_bool (ev_sound hR.hr hR.fr hx)) (ih y st e st' h hok.1 ρ a w hR Q hQ)
      · rename_i hx
        exact wpIn_cond_false (vt_bool (ev_sound hR.hr hR.fr hx)) (ih z st e st' h hok.2 ρ a w hR Q hQ)
      · cases h
    | scope b =>
      simp only [codeOk] at hok
      simp only [exec] at h
      refine wpIn_scope ?_
      split at h
      · cases h
      · rename_i hne
        refine ih b st e st' h hok ρ a w hR _ fun ρ' a' w' h' => ?_
        have := hQ ρ' a' w' h'
        cases e with
        | goto l => exact absurd h (hne l st')
        | _ => exact this
    | block id b =>
      simp only [codeOk] at hok
      simp only [exec] at h
      refine wpIn_block ?_
      split at h
      · rename_i j st1 hx
        refine ih b st _ st1 hx hok ρ a w hR _ fun ρ' a' w' h' => ?_
        split at h
        · rename_i hj
          cases h
          subst hj
          simpa [Exit.inBlock] using hQ ρ' a' w' h'
        · rename_i hj
          cases h
          simpa [Exit.inBlock, hj] using hQ ρ' a' w' h'
      · rename_i hne
        refine ih b st e st' h hok ρ a w hR _ fun ρ' a' w' h' => ?_
        have := hQ ρ' a' w' h'
        cases e with
        | exit j => exact absurd h (hne j st')
        | _ => exact this
    | loop b =>
      simp only [codeOk] at hok
      refine wpIn_loop_rounds (k + 1) ?_
      have key : ∀ (j : Nat), j ≤ k → ∀ (st : St) (ρ : Ren) (a : Act) (w : World), exec P cf (j + 1) (.loop b) st = some (e, st') → RS P B ρ0 w0 n ρ st a w → Code.roundsIn (Fr r) m P b Q (j + 1) a w := by
        intro j
        induction j with
        | zero =>
          intro _ st ρ a w h hR
          simp [exec] at h
        | succ j ihj =>
          intro hj st ρ a w h hR
          rw [exec] at h
          rw [roundsIn_succ]
          split at h
          · rename_i st1 hx
            exact ih0 (j + 1) (by omega) b st _ st1 hx hok ρ a w hR _ fun ρ' a' w' h' => ihj (by omega) st1 ρ' a' w' h h'
          · rename_i hne
            refine ih0 (j + 1) (by omega) b st e st' h hok ρ a w hR _ fun ρ' a' w' h' => ?_
            have := hQ ρ' a' w' h'
            cases e with
            | normal => exact absurd h (hne st')
            | _ => exact this
      exact key k (Nat.le_refl _) st ρ a w h hR
    | _ => simp [exec] at h

theorem putArgs_at : ∀ (l : List Value) (k : Nat) (t : Tm) (i : Nat), Tm.at (putArgs l k t) i = if k ≤ i ∧ i < k + l.length then l.getD (i - k) undef else Tm.at t i
  | [], k, t, i => by simp [putArgs]; intro h1 h2; omega
  | v :: l, k, t, i => by
    rw [putArgs, putArgs_at l (k + 1) (Tr.set t k v) i]
    by_cases h0 : i = k
    · subst h0
      rw [if_neg (by omega), Tm.at_set_eq, if_pos (by simp)]
      simp
    · rw [Tm.at_set_ne _ _ (Ne.symm h0)]
      by_cases h1 : k ≤ i ∧ i < k + (v :: l).length
      · rw [if_pos h1, if_pos (by simp at h1; omega)]
        rw [show i - k = (i - (k + 1)) + 1 by omega]
        simp
      · rw [if_neg h1, if_neg (by simp at h1; omega)]

theorem leaf_at (i : Nat) : Tm.at .leaf i = undef := rfl

theorem FR.start {ρ : Ren} {l : List Value} {args : Array Value} (h : L2 (VT ρ) l args.toList) (n : Nat) : FR ρ (putArgs l 0 .leaf) { tmps := args ++ Array.replicate n undef, defers := [] } := by
  refine ⟨fun i => ?_, rfl⟩
  have hlen := h.length
  rw [putArgs_at, leaf_at]
  by_cases hi : i < l.length
  · rw [if_pos (by omega)]
    have h1 : l[i]? = some (l.getD i undef) := by simp [hi]
    obtain ⟨y, hy, hr⟩ := h.get h1
    have hia : i < args.size := by simp at hlen; omega
    have hy' : args[i]? = some y := by simpa using hy
    simpa [Array.getD_eq_getD_getElem?, Array.getElem?_append_left hia, hy'] using hr
  · rw [if_neg (by omega)]
    have hia : args.size ≤ i := by simp at hlen; omega
    have : ((args ++ Array.replicate n undef).getD i undef) = undef := by
      rw [Array.getD_eq_getD_getElem?, Array.getElem?_append_right hia, Array.getElem?_replicate]
      split <;> rfl
    rw [this]; exact VT.undef _

def rv (a : Act) : ResultVar → Sem Value
  | .tmp t => pure (a.tmps.getD t undef)
  | .cell c t => do loadVar t (← asAddr (a.tmps.getD c undef))

theorem res_sound {ρ : Ren} {H : Heap} {w : World} {tm : Tm} {a : Act} (hH : HR P B ρ H w) (hF : FR ρ tm a) {x : ResultVar} {v : Value} (h : resOf P tm H x = some v) :
    ∃ v', VT ρ v v' ∧ (rv a x).run P w = .ok v' w := by
  cases x with
  | tmp t =>
    simp only [resOf, Option.some.injEq] at h
    subst h
    exact ⟨_, hF.at_ t, rfl⟩
  | cell c t =>
    simp only [resOf] at h
    split at h
    · rename_i ad hc
      have h1 := hF.at_ c
      rw [hc] at h1
      obtain ⟨v', h2, h3⟩ := q_load hH h1 h
      have h4 := h3 w (Below.refl _ _)
      have : ∃ ad', a.tmps.getD c undef = .pointer (some ad') := by
        cases h1 with
        | one h1 => cases h1 with
          | cell h1 =>
            generalize a.tmps.getD c undef = u at h1
            cases h1 with
            | same hs => simp [scalar] at hs
            | ptr _ => exact ⟨_, rfl⟩
      obtain ⟨ad', had⟩ := this
      refine ⟨v', h2, ?_⟩
      rw [had] at h4
      simpa [rv, had, asAddr, Instr.loadAt, Instr.sureAddr] using h4
    · cases h

theorem ress_sound {ρ : Ren} {H : Heap} {w : World} {tm : Tm} {a : Act} (hH : HR P B ρ H w) (hF : FR ρ tm a) : ∀ (xs : List ResultVar) (l : List Value), ressOf P tm H xs = some l →
    ∃ l', L2 (VT ρ) l l' ∧ (xs.mapM (m := Sem) (rv a)).run P w = .ok l' w
  | [], l, h => by simp only [ressOf, Option.some.injEq] at h; subst h; exact ⟨[], .nil, rfl⟩
  | x :: xs, l, h => by
    simp only [ressOf] at h
    split at h
    · rename_i v r hv hr
      cases h
      obtain ⟨v', h1, h2⟩ := res_sound hH hF hv
      obtain ⟨l', h3, h4⟩ := ress_sound hH hF xs r hr
      refine ⟨v' :: l', .cons h1 h3, ?_⟩
      rw [List.mapM_cons, Sem.run_bind, h2, Result.andThen_ok, Sem.run_bind, h4, Result.andThen_ok]
      rfl
    · cases h

theorem results_eq (fn : Func) (a : Act) : results fn a.tmps = (do
    let vs ← fn.results.mapM (rv a)
    pure (if h : vs.size = 1 then vs[0] else .tuple vs) : Sem Value) := by
  unfold results
  congr 1

theorem results_sound {ρ : Ren} {H : Heap} {w : World} {tm : Tm} {a : Act} (hH : HR P B ρ H w) (hF : FR ρ tm a) {fn : Func} {l : List Value} (h : ressOf P tm H fn.results.toList = some l) (hn : l.all notTuple = true) :
    ∃ v', VT ρ (tupled l) v' ∧ (results fn a.tmps).run P w = .ok v' w := by
  obtain ⟨l', h1, h2⟩ := ress_sound hH hF _ _ h
  refine ⟨if h : l'.toArray.size = 1 then l'.toArray[0] else .tuple l'.toArray, ?_, ?_⟩
  · have hlen := h1.length
    unfold tupled
    split
    · cases h1 with
      | cons hv ht => cases ht; exact hv
    · rename_i hne
      have hl1 : ¬ l'.toArray.size = 1 := by
        intro hh
        simp at hh
        rw [hh] at hlen
        obtain ⟨x, hx⟩ := List.length_eq_one_iff.1 hlen
        exact hne x hx
      rw [dif_neg hl1]
      exact .tup (L2.of_get (by simpa using hlen) fun i x y hx hy => by
        have hx' : l[i]? = some x := by simpa using hx
        exact (h1.both hx' (by simpa using hy)).to_R (List.all_eq_true.1 hn x (List.mem_of_getElem? hx')))
  · rw [results_eq, Sem.run_bind, Array.mapM_eq_mapM_toList, Sem.run_map, h2]
    rfl

/-- What is known beforehand is so. -/
def OracleOK (P : Program) [Oracle P] (B : Nat) : Prop :=
  ∀ f v, Oracle.val P f = some v → ∀ H, Oracle.base P H → ∀ ρ w (args : Array Value) (k : Nat), HR P B ρ H w → L2 (VT ρ) [] args.toList →
    CallsIn Fence.wide k P f args w (fun e w' => ∃ ρ' v', e = .returned v' ∧ VT ρ' v v' ∧ HR P B ρ' H w' ∧ Ext B ρ ρ' H.n w w')
theorem oracle_ok [Oracle P] (hO : OracleOK P B) : CallOK P B (oracle P) := by
  intro f l H v H' lo h ρ w args k hH hl
  unfold oracle at h
  split at h
  · cases h
  · rename_i u hu
    split at h
    · split at h
      · rename_i hb
        cases h
        exact hO f v hu H hb ρ w args k hH hl
      · cases h
    · cases h
theorem call_sound [Oracle P] (hO : OracleOK P B) (hm : P.follows .mixedOrders = true) : ∀ k, CallOK P B (call P k) := by
  intro k
  induction k with
  | zero => intro f l H v H' lo h; simp [call] at h
  | succ k ih =>
    intro f l H v H' lo h ρ w args kf hH hl
    simp only [call] at h
    split at h
    · rename_i r ho
      cases h
      exact oracle_ok hO f l H v H' lo ho ρ w args kf hH hl
    split at h
    · rename_i fn hfn
      split at h
      · rename_i c hc
        split at h
        · rename_i hok
          split at h
          · rename_i e st hx
            split at h
            · rename_i hend
              split at h
              · rename_i vs hvs
                split at h
                · rename_i hnt
                  cases h
                  refine callsIn_of_wp hfn hc trivial ?_
                  have hsz : args.size = l.length := by simpa using hl.length.symm
                  have hR : RS P B ρ w fn.ntmps ρ ⟨putArgs l 0 .leaf, H, H.n⟩ { tmps := args ++ Array.replicate (fn.ntmps - args.size) undef, defers := [] } w :=
                    ⟨hH, FR.start hl _, by simp; have := hok.2; omega, Ext.refl _ _ _ _⟩
                  have := exec_sound ih hm (r := none) (m := kf) k c _ e st hx hok.1 ρ _ w hR (bodyPost P fn (fun e w' => ∃ ρ' v', e = .returned v' ∧ VT ρ' (tupled vs) v' ∧ HR P B ρ' st.heap w' ∧ Ext B ρ ρ' st.lo w w')) (fun ρ' a' w' h' => by
                    obtain ⟨v', h1, h2⟩ := results_sound h'.hr h'.fr hvs hnt
                    cases e with
                    | normal => exact ⟨h'.fr.none, v', h2, ρ', v', rfl, h1, h'.hr, h'.ext⟩
                    | ret => exact ⟨h'.fr.none, v', h2, ρ', v', rfl, h1, h'.hr, h'.ext⟩
                    | _ => simp [ended] at hend)
                  exact this
                · cases h
              · cases h
            · cases h
          · cases h
        · cases h
      · cases h
    · cases h

end
end Go.AI
