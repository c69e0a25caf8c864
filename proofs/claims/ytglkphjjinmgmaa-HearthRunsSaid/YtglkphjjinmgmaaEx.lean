/- Code whose steps are not one alone: a walk through a map hands out its entries in any order. What holds behind it holds behind each; a function of which the answer is one alone all the same is put into the machine as such. -/
import Derived.Test.YtglkphjjinmgmaaX4
set_option linter.unusedVariables false
set_option linter.unusedSimpArgs false
namespace Go.AI
open Go.RowKit
section
variable {P : Program}
structure Sure (P : Program) [Oracle P] (Bw : Nat) : Prop where
  o : OracleOK P Bw
  m : P.follows .mixedOrders = true
  w : WildOK P Bw
def XC (P : Program) (Bw n : Nat) (c : Code) (st : St) (Q : Exit -> St -> Prop) : Prop :=
  ∀ (mb : Nat) (ρ0 : Ren) (w0 : World) (m : Nat), mb <= w0.heap.size -> ∀ (ρ : Ren) (a : Act) (w : World), RS P Bw ρ0 w0 mb n ρ st a w ->
    ∀ (Q' : Exit -> Act -> World -> Prop), (∀ e st' ρ' a' w', Q e st' -> RS P Bw ρ0 w0 mb n ρ' st' a' w' -> Q' e a' w') -> c.wpIn (Fr none) m P Q' a w
theorem XC.mono {Bw n : Nat} {c : Code} {st : St} {Q Q' : Exit -> St -> Prop} (h : XC P Bw n c st Q) (hq : ∀ e st, Q e st -> Q' e st) : XC P Bw n c st Q' :=
  fun mb ρ0 w0 m hmb ρ a w hR Q2 hQ2 => h mb ρ0 w0 m hmb ρ a w hR Q2 fun e st' ρ' a' w' h1 h2 => hQ2 e st' ρ' a' w' (hq _ _ h1) h2
theorem XC.of [Oracle P] {Bw n : Nat} (S : Sure P Bw) {c : Code} {st : St} {Q : Exit -> St -> Prop} (hok : codeOk n c = true) (h : WC P c st Q) : XC P Bw n c st Q := by
  obtain ⟨k, e, st', h1, h2⟩ := h
  intro mb ρ0 w0 m hmb ρ a w hR Q' hQ
  exact exec_sound (call_sound S.o S.m S.w k) S.m none (fun l0 hl0 => by cases hl0) hmb m k c st e st' h1 hok ρ a w hR Q' fun ρ' a' w' h => hQ e st' ρ' a' w' h2 h
theorem XC.seq {Bw n : Nat} {x y : Code} {st : St} {Q : Exit -> St -> Prop} (h : XC P Bw n x st (andThen (fun st' => XC P Bw n y st' Q) Q)) : XC P Bw n (.seq x y) st Q := by
  intro mb ρ0 w0 m hmb ρ a w hR Q' hQ
  refine wpIn_seq (h mb ρ0 w0 m hmb ρ a w hR _ fun e st' ρ' a' w' h1 h2 => ?_)
  cases e with
  | normal => exact h1 mb ρ0 w0 m hmb ρ' a' w' h2 Q' hQ
  | _ => exact hQ _ _ _ _ _ h1 h2
theorem XC.cond {Bw n : Nat} {x : Operand} {y z : Code} {st : St} {Q : Exit -> St -> Prop} {b : Bool} (hx : ev P st.tmps x = some (.bool b)) (h : XC P Bw n (if b then y else z) st Q) : XC P Bw n (.cond x y z) st Q := by
  intro mb ρ0 w0 m hmb ρ a w hR Q' hQ
  cases b with
  | true => exact wpIn_cond_true (vt_bool (ev_sound hR.hr hR.fr hx)) (h mb ρ0 w0 m hmb ρ a w hR Q' hQ)
  | false => exact wpIn_cond_false (vt_bool (ev_sound hR.hr hR.fr hx)) (h mb ρ0 w0 m hmb ρ a w hR Q' hQ)
theorem XC.block {Bw n id : Nat} {b : Code} {st : St} {Q : Exit -> St -> Prop} (h : XC P Bw n b st (inBlk id Q)) : XC P Bw n (.block id b) st Q := by
  intro mb ρ0 w0 m hmb ρ a w hR Q' hQ
  refine wpIn_block (h mb ρ0 w0 m hmb ρ a w hR _ fun e st' ρ' a' w' h1 h2 => ?_)
  cases e with
  | exit j =>
    simp only [inBlk] at h1
    by_cases hj : j = id
    · subst hj
      rw [if_pos rfl] at h1
      have := hQ _ _ _ _ _ h1 h2
      simpa [Exit.inBlock] using this
    · rw [if_neg hj] at h1
      have := hQ _ _ _ _ _ h1 h2
      simpa [Exit.inBlock, hj] using this
  | _ => exact hQ _ _ _ _ _ h1 h2
theorem XC.next {Bw n id : Nat} {o1 o2 : Oper} {x : Operand} {d1 d2 b r : Nat} {es : List (Value × Value)} {seen : List Nat} {tm : Tm} {H : Heap} {lo : Nat} {Q : Exit -> St -> Prop} (hok : codeOk n (.region id #[o1, o2] false) = true)
    (h1 : o1.op = .next x false) (g1 : o1.guard = none) (e1 : o1.dst = some d1) (h2 : o2.op = .extract (.tmp d1) 0) (g2 : o2.guard = none) (e2 : o2.dst = some d2)
    (hx : ev P tm x = some (.pointer (some ⟨b, 0, none⟩))) (hb : H.get b = some (.iter (some r) es.length seen es.length)) (hm : H.get r = some (.map es)) (hnt : ∀ kv ∈ es, notTuple kv.1 = true)
    (hend : (∀ i, i < es.length -> i ∈ seen) -> Q .normal ⟨Tr.set (Tr.set tm d1 (.tuple #[.bool false])) d2 (.bool false), H, min lo H.n⟩)
    (hgo : ∀ i kv, es[i]? = some kv -> ¬ i ∈ seen -> Q .normal ⟨Tr.set (Tr.set tm d1 (.tuple #[.bool true, kv.1, kv.2])) d2 (.bool true), H.set b (.iter (some r) es.length (seen ++ [i]) es.length), min lo b⟩) :
    XC P Bw n (.region id #[o1, o2] false) ⟨tm, H, lo⟩ Q := by
  intro mb ρ0 w0 m hmb ρ a w hR Q' hQ
  refine wpIn_region ?_
  simp only [codeOk, Bool.and_eq_true] at hok
  have hd1 : dstOk n o1 = true := List.all_eq_true.1 hok.1 o1 (by simp)
  have hd2 : dstOk n o2 = true := List.all_eq_true.1 hok.1 o2 (by simp)
  show wpOpsIn (Fr none) m P #[o1, o2] Q' [0, 1] a w
  rw [wpOpsIn_cons]
  unfold wpOpIn
  simp only [List.getElem?_toArray, List.getElem?_cons_zero]
  have hw1 : Region.wanted o1 (yielded #[o1, o2] a.tmps) = true := by simp [Region.wanted, g1]
  rw [if_pos hw1]
  refine ⟨fun _ _ => trivial, ?_⟩
  have nd1 : noDefer o1 := fun c hc => by rw [h1] at hc; cases hc
  have nd2 : noDefer o2 := fun c hc => by rw [h2] at hc; cases hc
  rw [semAt_of nd1]
  -- what stands behind the first operation
  have fin : ∀ (u u' : Value) (bb : Bool) (H' : Heap) (lo' : Nat) (ρ' : Ren) (w' : World), VT ρ' u u' -> (∃ rest, u = .tuple #[] ∨ u = .tuple (#[.bool bb] ++ rest)) -> (∃ rest, u' = .tuple (#[.bool bb] ++ rest)) -> HR P Bw ρ' H' w' -> Ext Bw ρ ρ' lo' w w' ->
      Q .normal ⟨Tr.set (Tr.set tm d1 u) d2 (.bool bb), H', min lo lo'⟩ -> wpOpsIn (Fr none) m P #[o1, o2] Q' [1] (a.put o1.dst u') w' := by
    intro u u' bb H' lo' ρ' w' hv _ hu' hH' hE' hq
    rw [wpOpsIn_cons]
    unfold wpOpIn
    simp only [List.getElem?_toArray, List.getElem?_cons_succ, List.getElem?_cons_zero]
    have hw2 : Region.wanted o2 (yielded #[o1, o2] (a.put o1.dst u').tmps) = true := by simp [Region.wanted, g2]
    rw [if_pos hw2]
    refine ⟨fun _ _ => trivial, ?_⟩
    rw [semAt_of nd2]
    obtain ⟨rest, rfl⟩ := hu'
    have hev : (a.put o1.dst (.tuple (#[.bool bb] ++ rest))).eval (.tmp d1) = .tuple (#[.bool bb] ++ rest) := by
      have hlt : d1 < a.tmps.size := by
        have := hd1
        simp only [dstOk, e1] at this
        rw [hR.size]
        simpa using this
      simp [Act.put, e1, Act.eval, hlt]
    have hrun : (execOp (a.put o1.dst (.tuple (#[.bool bb] ++ rest))).eval o2).run P w' = .ok (.value (.bool bb)) w' := by
      have h00 : (#[Value.bool bb] ++ rest)[0]? = some (.bool bb) := by simp [Array.getElem?_append]
      simp only [execOp, h2, hev]
      simp only [Instr.extract, Sem.run_bind, h00]
      rfl
    rw [hrun]
    refine hQ .normal _ ρ' _ w' hq ⟨hH', ?_, ?_, hR.ext.trans hE', ?_⟩
    · have f1 := (hR.fr.mono hE'.le).put (o := o1) (by rw [hR.size]; exact hd1) hv
      have f2 := f1.put (o := o2) (v := .bool bb) (v' := .bool bb) (by rw [put_size, hR.size]; exact hd2) (VT.of_plain rfl)
      rw [e1, e2] at f2
      rw [e1, e2]
      exact f2
    · rw [put_size, put_size]; exact hR.size
    · rw [put_defers, put_defers]; exact hR.marks.ext hE'
  -- the first operation
  obtain ⟨e, hρ, hxe⟩ := vt_ptr (ev_sound hR.hr hR.fr hx)
  obtain ⟨hB, hb0, hnl, m', sc, hh, hsc, hmm⟩ := hR.hr.obj _ _ _ hb hρ
  rcases hmm with ⟨h0, _⟩ | ⟨r', e', h0, hρm, rfl⟩
  · cases h0
  · cases h0
    obtain ⟨_, ents, clock, hhm, hl, hcl, hbn⟩ := hR.hr.obj _ _ _ hm hρm
    have hlen : es.length = ents.size := by simpa using hl.length
    have hev1 : a.eval x = .pointer (some ⟨e.blk, 0, none⟩) := by
      have := hxe
      rw [hb0, Nat.zero_add] at this
      exact this
    have hold : ∀ y ∈ ents.toList, y.born < es.length := fun y hy => by
      obtain ⟨j, hj⟩ := List.mem_iff_getElem?.1 hy
      have h3 : ents[j]? = some y := by simpa using hj
      have h4 := (Array.getElem?_eq_some_iff.1 h3).1
      rw [hbn j y h3]; omega
    have hexe : execOp a.eval o1 = nv (Instr.next (.pointer (some ⟨e.blk, 0, none⟩)) false o1.type) := by
      simp only [execOp, h1, hev1]; rfl
    rw [hexe]
    rcases run_next_at (P := P) w o1.type e.blk e'.blk es.length es.length sc ents clock hh hhm hold (Nat.le_refl _) with ⟨hz, hrun⟩ | ⟨me, hme, w1, hw1', hrun⟩
    · have hn : (nv (Instr.next (.pointer (some ⟨e.blk, 0, none⟩)) false o1.type)).run P w = .ok (.value (.tuple #[.bool false])) w := by simp [nv, hrun]
      rw [hn]
      refine fin (.tuple #[.bool false]) (.tuple #[.bool false]) false H H.n ρ w (VT.of_plain rfl) ⟨#[], .inr rfl⟩ ⟨#[], rfl⟩ hR.hr (Ext.refl _ _ _ _) ?_
      have hall : ∀ i, i < es.length -> i ∈ seen := fun i hi => by
        by_cases hin : i ∈ seen
        · exact hin
        · exfalso
          have : ents[i] ∈ (leftOf ents sc).toList := by
            unfold leftOf
            rw [Array.toList_filter]
            refine List.mem_filter.2 ⟨by simp, ?_⟩
            have hbi := hbn i ents[i] (by simp [<- hlen, hi])
            rw [hbi]
            simp only [Bool.not_eq_true', Array.contains_eq_mem, decide_eq_false_iff_not]
            intro h5
            exact hin (by rw [<- hsc]; simpa using h5)
          have h6 : (leftOf ents sc).toList.length = 0 := by simpa using hz
          rw [List.length_eq_zero_iff] at h6
          rw [h6] at this
          cases this
      exact hend hall
    · have hn : (nv (Instr.next (.pointer (some ⟨e.blk, 0, none⟩)) false o1.type)).run P w = .ok (.value (.tuple #[.bool true, me.key, me.val])) (ChangeMaps.setBlock w1 e.blk (.mapIter (some e'.blk) es.length (sc.push me.born) clock)) := by simp [nv, hrun]
      rw [hn]
      unfold leftOf at hme
      rw [Array.toList_filter] at hme
      obtain ⟨hme1, hme2⟩ := List.mem_filter.1 hme
      obtain ⟨i, hi⟩ := List.mem_iff_getElem?.1 hme1
      have hi' : ents[i]? = some me := by simpa using hi
      have hbi := hbn i me hi'
      have hlt : i < es.length := by have := (Array.getElem?_eq_some_iff.1 hi').1; omega
      have hnin : ¬ i ∈ seen := fun h5 => by
        rw [hbi] at hme2
        simp only [Bool.not_eq_true', Array.contains_eq_mem, decide_eq_false_iff_not] at hme2
        exact hme2 (by rw [<- hsc] at h5; simpa using h5)
      obtain ⟨kv, hkv⟩ : ∃ kv, es[i]? = some kv := ⟨es[i], by simp [hlt]⟩
      obtain ⟨me', hme', hm1, hm2, hm3⟩ := hl.get hkv
      have : me' = me := by
        have h6 : ents[i]? = some me' := by simpa using hme'
        rw [hi'] at h6; cases h6; rfl
      subst this
      have hdr : Below w.heap.size w w1 := by
        rcases hw1' with rfl | rfl
        · exact Below.refl _ _
        · exact (Below.refl _ w).drew
      have hsz : w1.heap.size = w.heap.size := by rcases hw1' with rfl | rfl <;> rfl
      have hheap : w1.heap = w.heap := by rcases hw1' with rfl | rfl <;> rfl
      have hos : w1.os = w.os ∧ w1.tape = w.tape ∧ w1.output = w.output := by rcases hw1' with rfl | rfl <;> exact ⟨rfl, rfl, rfl⟩
      obtain ⟨h3, h4⟩ := hR.hr.write (w' := ChangeMaps.setBlock w1 e.blk (.mapIter (some e'.blk) es.length (sc.push me'.born) clock)) (o' := .iter (some r) es.length (seen ++ [i]) es.length) hb hρ rfl hB hos.1 hos.2.1 hos.2.2 (by simp [ChangeMaps.setBlock, hsz]) (fun j hj => by simp [ChangeMaps.setBlock, Array.getElem?_setIfInBounds, Ne.symm hj, hheap])
        ⟨hB, hb0, Nat.le_refl _, some e'.blk, sc.push me'.born, by simp [ChangeMaps.setBlock, hheap, hR.hr.top _ _ hρ]; rw [hcl, <- hlen], by rw [Array.toList_push, hsc, hbi], .inr ⟨r, e', rfl, hρm, rfl⟩⟩
      exact fin (.tuple #[.bool true, kv.1, kv.2]) (.tuple #[.bool true, me'.key, me'.val]) true _ b ρ _ (.tup (.cons (.cell (.same rfl)) (.cons (by rw [hm2]; exact (VT.of_plain hm1).to_R (hnt kv (List.mem_of_getElem? hkv))) (.cons hm3 .nil)))) ⟨#[kv.1, kv.2], .inr rfl⟩ ⟨#[me'.key, me'.val], rfl⟩ h3 h4 (hgo i kv hkv hnin)
/-! ### With what is known of slots -/
/-- Code, from whatever slots agree with what is known. -/
structure XV (P : Program) (Bw n B : Nat) (c : Code) (L : Kn) (H : Heap) (Q : Exit -> Kn -> Heap -> Prop) : Prop where
  run : codeOk n c = true -> ∀ tm lo, Agree tm L -> B <= lo -> B <= H.n -> XC P Bw n c ⟨tm, H, lo⟩ fun e st => B <= st.lo ∧ B <= st.heap.n ∧ ∃ L', Agree st.tmps L' ∧ Q e L' st.heap
section
variable {Bw n B : Nat} {L : Kn} {H : Heap} {Q : Exit -> Kn -> Heap -> Prop} {a b : Code}
theorem XV.of [Oracle P] {N : Nat} {wr : Bool} {c : Code} (S : Sure P Bw) (h : CV P N B wr c L H Q) : XV P Bw n B c L H Q :=
  ⟨fun hok tm lo ha hl hB => XC.of S hok (h.run.run tm lo ha hl hB)⟩
theorem XV.seq (h : XV P Bw n B a L H (seqK (fun L H => XV P Bw n B b L H Q) Q)) : XV P Bw n B (.seq a b) L H Q := by
  refine ⟨fun hok tm lo ha hl hB => ?_⟩
  simp only [codeOk, Bool.and_eq_true] at hok
  refine XC.seq ((h.run hok.1 tm lo ha hl hB).mono ?_)
  rintro e ⟨tm', H', lo'⟩ ⟨hl', hB', L', h1, h2⟩
  cases e with
  | normal => exact h2.run hok.2 tm' lo' h1 hl' hB'
  | _ => exact ⟨hl', hB', L', h1, h2⟩
theorem XV.cond {x : Operand} (h : evK P L x (ifK (XV P Bw n B a L H Q) (XV P Bw n B b L H Q))) : XV P Bw n B (.cond x a b) L H Q := by
  refine ⟨fun hok tm lo ha hl hB => ?_⟩
  simp only [codeOk, Bool.and_eq_true] at hok
  obtain ⟨v, h1, h2⟩ := evK_spec ha h
  unfold ifK at h2
  split at h2
  · exact XC.cond h1 (h2.run hok.1 tm lo ha hl hB)
  · exact XC.cond h1 (h2.run hok.2 tm lo ha hl hB)
  · exact h2.elim
theorem XV.block {id : Nat} (h : XV P Bw n B b L H (blkK id Q)) : XV P Bw n B (.block id b) L H Q := by
  refine ⟨fun hok tm lo ha hl hB => ?_⟩
  simp only [codeOk] at hok
  refine XC.block ((h.run hok tm lo ha hl hB).mono ?_)
  rintro e ⟨tm', H', lo'⟩ ⟨hl', hB', L', h1, h2⟩
  cases e with
  | exit j =>
    simp only [inBlk]
    rcases cond_iff h2 with ⟨h3, h4⟩ | ⟨h3, h4⟩
    · rw [if_pos (Nat.eq_of_beq_eq_true h3)]; exact ⟨hl', hB', L', h1, h4⟩
    · rw [if_neg (Nat.ne_of_beq_eq_false h3)]; exact ⟨hl', hB', L', h1, h4⟩
  | _ => exact ⟨hl', hB', L', h1, h2⟩
theorem XV.rounds {α : Type} (S : α -> List (Nat × Value)) (I : α -> Heap -> Prop) (μ : α -> Nat)
    (a0 : α) (hc : covers L (S a0)) (hI : I a0 H)
    (hr : ∀ a Hx, I a Hx -> B <= Hx.n -> mkK (S a) .leaf fun L' => XV P Bw n B b L' Hx (roundK S I μ a Q)) : XV P Bw n B (.loop b) L H Q := by
  refine ⟨fun hok tm lo ha hl hB => ?_⟩
  simp only [codeOk] at hok
  -- the measure, of a state of which it is said
  let J : St -> Nat -> Prop := fun st m => ∃ a, μ a = m ∧ I a st.heap ∧ B <= st.lo ∧ B <= st.heap.n ∧ ∀ i v, (i, v) ∈ S a -> Tm.at st.tmps i = v
  have key : ∀ m st, J st m -> XC P Bw n (.loop b) st fun e st => B <= st.lo ∧ B <= st.heap.n ∧ ∃ L', Agree st.tmps L' ∧ Q e L' st.heap := by
    intro m st hJ mb ρ0 w0 mm hmb ρ act w hR Q' hQ
    refine wpIn_loop_rounds (m + 1) ?_
    have go : ∀ (j : Nat) (st : St) (m : Nat), J st m -> m < j -> ∀ (ρ : Ren) (act : Act) (w : World), RS P Bw ρ0 w0 mb n ρ st act w -> Code.roundsIn (Fr none) mm P b Q' j act w := by
      intro j
      induction j with
      | zero => intro st m _ h; omega
      | succ j ih =>
        rintro ⟨tm, Hx, lo⟩ m ⟨a, rfl, hI, hl, hB, ht⟩ hj ρ act w hR
        rw [roundsIn_succ]
        obtain ⟨L', h1, h2⟩ := mkK_spec (S a) .leaf _ (hr a Hx hI hB)
        have ha : Agree tm L' := fun i v hv => by
          rcases h2 i v hv with h3 | h3
          · simp [Tr.get] at h3
          · exact ht i v h3
        refine h1.run hok tm lo ha hl hB mb ρ0 w0 mm hmb ρ act w hR _ fun e st' ρ' act' w' hq h2 => ?_
        obtain ⟨hl', hB', L2, h3, h4⟩ := hq
        cases e with
        | normal =>
          obtain ⟨a', h5, h6, h7⟩ := h4
          exact ih st' (μ a') ⟨a', rfl, h7, hl', hB', fun i v hv => h3 i v (covers_mem L2 _ h5 i v hv)⟩ (by omega) ρ' act' w' h2
        | _ => exact hQ _ _ _ _ _ ⟨hl', hB', L2, h3, h4⟩ h2
    exact go _ st m hJ (Nat.lt_succ_self _) ρ act w hR
  exact key _ _ ⟨a0, rfl, hI, hl, hB, fun i v hv => ha i v (covers_mem L _ hc i v hv)⟩
theorem XV.next {id : Nat} {o1 o2 : Oper} {x : Operand} {d1 d2 : Nat} (h1 : o1.op = .next x false) (g1 : o1.guard = none) (e1 : o1.dst = some d1) (h2 : o2.op = .extract (.tmp d1) 0) (g2 : o2.guard = none) (e2 : o2.dst = some d2)
    (h : evK P L x fun p => ∃ b r es seen, p = .pointer (some ⟨b, 0, none⟩) ∧ B <= b ∧ H.get b = some (.iter (some r) es.length seen es.length) ∧ H.get r = some (.map es) ∧ (∀ kv ∈ es, notTuple kv.1 = true) ∧
      ((∀ i, i < es.length -> i ∈ seen) -> setK 14 L d1 (.tuple #[.bool false]) fun L => setK 14 L d2 (.bool false) fun L => Q .normal L H) ∧
      (∀ i kv, es[i]? = some kv -> ¬ i ∈ seen -> setK 14 L d1 (.tuple #[.bool true, kv.1, kv.2]) fun L => setK 14 L d2 (.bool true) fun L => Q .normal L (H.set b (.iter (some r) es.length (seen ++ [i]) es.length)))) :
    XV P Bw n B (.region id #[o1, o2] false) L H Q := by
  refine ⟨fun hok tm lo ha hl hB => ?_⟩
  obtain ⟨v, hv, b, r, es, seen, rfl, hBb, hb, hm, hnt, hend, hgo⟩ := evK_spec ha h
  have put2 : ∀ {v1 v2 : Value} {K : Kn -> Prop}, (setK 14 L d1 v1 fun L => setK 14 L d2 v2 K) -> ∃ L', Agree (Tr.set (Tr.set tm d1 v1) d2 v2) L' ∧ K L' := by
    intro v1 v2 K hk
    obtain ⟨L1, k1, k2, k3⟩ := setK_get hk
    have a1 := ha.set k2 k3
    obtain ⟨L2, k4, k5, k6⟩ := setK_get k1
    exact ⟨L2, a1.set k5 k6, k4⟩
  refine XC.next hok h1 g1 e1 h2 g2 e2 hv hb hm hnt (fun hall => ?_) (fun i kv hkv hni => ?_)
  · obtain ⟨L', k1, k2⟩ := put2 (hend hall)
    exact ⟨Nat.le_min.2 ⟨hl, hB⟩, hB, L', k1, k2⟩
  · obtain ⟨L', k1, k2⟩ := put2 (hgo i kv hkv hni)
    exact ⟨Nat.le_min.2 ⟨hl, hBb⟩, hB, L', k1, k2⟩
end
theorem vc_scalar {ρ ρ' : Ren} {x y : Value} (hs : scalar x = true) (h : VC ρ x y) : VC ρ' x y := by
  cases h with
  | same h => exact .same h
  | ptr h => simp [scalar] at hs
  | sl h hn h0 => simp [scalar] at hs
  | anon a' c' => exact .anon a' c'
  | map h => simp [scalar] at hs
  | fn hf h1 hc h2 =>
    simp only [scalar, Bool.and_eq_true, beq_iff_eq] at hs
    exact .fn hf (fun i x y hx _ => by have := Array.size_eq_zero_iff.1 hs.1; subst this; simp at hx) hc (fun i x y hx _ => by have := Array.size_eq_zero_iff.1 hs.2; subst this; simp at hx)
  | yld h => simp [scalar] at hs
theorem vt_row {ρ ρ' : Ren} {b b' len : Nat} {en : Ent} {v' : Value} (h : VT ρ (.slice (some ⟨b, 0, none⟩) len 0) v') (he : ρ b = some en) (h0 : en.base = 0) (hρ : ρ' b' = some ⟨en.blk, 0, en.cap⟩) : VT ρ' (.slice (some ⟨b', 0, none⟩) len 0) v' := by
  cases h with
  | one h =>
    cases h with
    | cell h =>
      generalize hv : Value.slice (some ⟨b, 0, none⟩) len 0 = v at h
      cases h with
      | same hs => subst hv; simp [scalar] at hs
      | sl h1 hn h2 =>
        cases hv
        rw [he] at h1
        cases h1
        obtain ⟨_, _, h3⟩ := h2 rfl
        have := VC.sl (i := 0) (n := len) (c := 0) (c' := en.cap) hρ (by rw [<- h3]; exact hn) (fun _ => ⟨rfl, rfl, rfl⟩)
        rw [h0, h3]
        exact .one (.cell this)
      | _ => cases hv
theorem wild_row [Oracle P] {Bw : Nat} (S : Sure P Bw) {f : FuncId} {fn : Func} {c : Code} {l : List Value} {H : Heap} {cs : List Value} {elem len : Nat} (hf : P.funcs[f]? = some fn) (hb : fn.body = some c) (hok : codeOk fn.ntmps c = true) (hl : l.length <= fn.ntmps) (hcs : cs.all scalar = true)
    (h : argsK l 0 .leaf fun L => XV P Bw fn.ntmps H.n c L H fun e L' Hx => (e = .normal ∨ e = .ret) ∧ resK P L' Hx fn.results.toList fun rs => ∃ b, rs = [.slice (some ⟨b, 0, none⟩) len 0] ∧ H.n <= b ∧ Hx.get b = some (.cells cs elem 2))
    {ρ : Ren} {w : World} {args : Array Value} (k : Nat) (hH : HR P Bw ρ H w) (ha : L2 (VT ρ) l args.toList) :
    CallsIn Fence.wide k P f args w (fun e w' => ∃ ρ' v', e = .returned v' ∧ VT ρ' (.slice (some ⟨H.n, 0, none⟩) len 0) v' ∧ HR P Bw ρ' (H.new (.cells cs elem 2)) w' ∧ Ext Bw ρ ρ' H.n w w') := by
  refine callsIn_of_wp_marks hf hb trivial ?_
  obtain ⟨L, h1, h2⟩ := argsK_spec l 0 .leaf .leaf _ (by intro i v hv; simp [Tr.get] at hv) h
  have hR : RS P Bw ρ w w.heap.size fn.ntmps ρ ⟨putArgs l 0 .leaf, H, H.n⟩ { tmps := args ++ Array.replicate (fn.ntmps - args.size) undef, defers := [] } w :=
    ⟨hH, FR.start ha _, by have := ha.length; simp at this ⊢; omega, Ext.refl _ _ _ _, Marks.nil _ _ _⟩
  refine h2.run hok _ H.n h1 (Nat.le_refl _) (Nat.le_refl _) w.heap.size ρ w k (Nat.le_refl _) ρ _ w hR _ fun e st' ρ' a' w' hq h' => ?_
  obtain ⟨hlo, hBn, L', hag, he, hres⟩ := hq
  obtain ⟨vs, hvs, b, rfl, hbn, hgb⟩ := resK_spec hag _ _ hres
  obtain ⟨rs, g1, g2, g3⟩ := h'.marks
  have hlv : LeavesInM Fence.wide k P fn a'.tmps (fun e w' => ∃ ρ' v', e = .returned v' ∧ VT ρ' (.slice (some ⟨H.n, 0, none⟩) len 0) v' ∧ HR P Bw ρ' (H.new (.cells cs elem 2)) w' ∧ Ext Bw ρ ρ' H.n w w') a'.defers .returning w' := by
    rw [g1]
    refine marks_leave (fun w2 hH2 hE2 => ?_) rs w' h'.hr h'.ext g2 g3
    obtain ⟨v', h4, h5⟩ := results_sound hH2 h'.fr hvs (by rfl)
    have hbel := hE2.below hH hlo
    obtain ⟨en, hen⟩ := hH2.dom b (hH2.objs b _ hgb)
    obtain ⟨o1, o2, cur, o3, ⟨ys, rest, o4, o5⟩, o6⟩ := hH2.obj b _ en hgb hen
    have hnb : ρ b = none := by
      cases hb0 : ρ b with
      | none => rfl
      | some e0 => have := hH.lt b e0 hb0; omega
    have hge : w.heap.size <= en.blk := by
      rcases hE2.fresh b en hnb hen with h7 | ⟨b0, e0, h8, h9, _⟩
      · exact h7
      · have := hH.lt b0 e0 h9; omega
    have hsc : L2 (VC (Ren.add ρ H.n ⟨en.blk, 0, en.cap⟩)) cs ys := by
      refine L2.of_get o5.length fun i x y hx hy => ?_
      have hxy := o5.both hx hy
      have hs := List.all_eq_true.1 hcs x (List.mem_of_getElem? hx)
      exact vc_scalar hs hxy
    obtain ⟨hH3, hE3⟩ := hH.alloc hbel ⟨en.blk, 0, en.cap⟩ (.cells cs elem 2) H.n hge (hH2.top b en hen) ⟨o1, rfl, cur, o3, ⟨ys, rest, o4, hsc⟩, o6⟩
    exact ⟨v', h5, Ren.add ρ H.n ⟨en.blk, 0, en.cap⟩, v', rfl, vt_row h4 hen o2 (Ren.add_eq _ _ _), hH3, hE3⟩
  rcases he with rfl | rfl
  · exact hlv
  · exact hlv
end
end Go.AI
