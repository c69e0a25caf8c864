/- Fields of structs; conditions, step by step: what is behind a step stays shut. -/
import Derived.Test.YthjieekbbhhjgaaDoorEm
namespace Go.AI
/-- Where a field lies, and how many cells it takes. -/
def fieldOff (P : Program) (s : TypeId) (f : Nat) : Option (Nat × Nat) :=
  match P.underlying s with
  | some (.struct fs) => match fs[f]? with
    | some fd => match sizeB P fd.type with
      | some n => some (fd.offset, n)
      | none => none
    | none => none
  | _ => none
theorem fieldOff_spec {P : Program} {s : TypeId} {f o n : Nat} (h : fieldOff P s f = some (o, n)) : ∃ fs fd, P.underlying s = some (.struct fs) ∧ fs[f]? = some fd ∧ sizeB P fd.type = some n ∧ fd.offset = o := by
  unfold fieldOff at h
  split at h
  · rename_i fs h1
    split at h
    · rename_i fd h2
      split at h
      · rename_i m h3
        cases h
        exact ⟨fs, fd, h1, h2, h3, rfl⟩
      · cases h
    · cases h
  · cases h
theorem field_addr {P : Program} {s : TypeId} {f o n : Nat} (h : fieldOff P s f = some (o, n)) (hn : n ≠ 0) {b i : Nat} : afieldAddr P s (.pointer (some ⟨b, i, none⟩)) f = some (.pointer (some ⟨b, i + o, none⟩)) := by
  obtain ⟨fs, fd, h1, h2, h3, rfl⟩ := fieldOff_spec h
  cases n with
  | zero => exact absurd rfl hn
  | succ n => simp only [afieldAddr, h1, h2, h3]
end Go.AI
namespace Go.AI
section
variable (P : Program) [Oracle P]
structure CV (N B : Nat) (wr : Bool) (c : Code) (L : Kn) (H : Heap) (Q : Exit → Kn → Heap → Prop) : Prop where
  run : WCv P B c L H Q
structure CO (N B : Nat) (wr : Bool) (ops l : List Oper) (L : Kn) (H : Heap) (K : Kn → Heap → Prop) : Prop where
  run : vcOps P N B wr ops l L H K
structure CH (N B : Nat) (wr : Bool) (ops l : List Oper) (L : Kn) (H : Heap) (K : Kn → Heap → Prop) : Prop where
  run : vcHead P N B wr ops l L H K
end
section
variable {P : Program} [Oracle P] {N B : Nat} {wr : Bool} {L : Kn} {H : Heap} {Q : Exit → Kn → Heap → Prop} {a b : Code} {ops rest : List Oper} {o : Oper} {K : Kn → Heap → Prop}
theorem CO_eq {l : List Oper} : CO P N B wr ops l L H K = vcOps P N B wr ops l L H K := propext ⟨CO.run, CO.mk⟩
theorem CH_eq {l : List Oper} : CH P N B wr ops l L H K = vcHead P N B wr ops l L H K := propext ⟨CH.run, CH.mk⟩

def seqK (k : Kn → Heap → Prop) (Q : Exit → Kn → Heap → Prop) : Exit → Kn → Heap → Prop
  | .normal, L, H => k L H
  | e, L, H => Q e L H
def blkK (id : Nat) (Q : Exit → Kn → Heap → Prop) : Exit → Kn → Heap → Prop
  | .exit j, L, H => bif Nat.beq j id then Q .normal L H else Q (.exit j) L H
  | e, L, H => Q e L H
def scoK (Q : Exit → Kn → Heap → Prop) : Exit → Kn → Heap → Prop
  | .goto _, _, _ => False
  | e, L, H => Q e L H
def ifK (p q : Prop) : Value → Prop
  | .bool true => p
  | .bool false => q
  | _ => False

theorem setK_mono (v : Value) : ∀ (f : Nat) (L : Kn) (i : Nat) (K K' : Kn → Prop), (∀ L, K L → K' L) → setK f L i v K → setK f L i v K'
  | 0, _, _, _, _, _, h => h
  | f + 1, .leaf, i, K, K', hk, h => by
    unfold setK at h ⊢
    rcases cond_iff h with ⟨h1, h2⟩ | ⟨h1, h2⟩
    · rw [h1]; exact hk _ h2
    · rw [h1]
      rcases cond_iff h2 with ⟨h3, h4⟩ | ⟨h3, h4⟩
      · rw [h3]; exact setK_mono v f _ _ _ _ (fun L h => hk _ h) h4
      · rw [h3]; exact setK_mono v f _ _ _ _ (fun L h => hk _ h) h4
  | f + 1, .node l u r, i, K, K', hk, h => by
    unfold setK at h ⊢
    rcases cond_iff h with ⟨h1, h2⟩ | ⟨h1, h2⟩
    · rw [h1]; exact hk _ h2
    · rw [h1]
      rcases cond_iff h2 with ⟨h3, h4⟩ | ⟨h3, h4⟩
      · rw [h3]; exact setK_mono v f _ _ _ _ (fun L h => hk _ h) h4
      · rw [h3]; exact setK_mono v f _ _ _ _ (fun L h => hk _ h) h4
theorem mkK_mono {K K' : Kn → Prop} : ∀ (l : List (Nat × Value)) (L : Kn), (∀ L, K L → K' L) → mkK l L K → mkK l L K'
  | [], L, hk, h => hk L h
  | (i, v) :: r, L, hk, h => setK_mono v 14 L i _ _ (fun L h => mkK_mono r L hk h) h
theorem CV.seq (h : CV P N B wr a L H (seqK (fun L H => CV P N B wr b L H Q) Q)) : CV P N B wr (.seq a b) L H Q := by
  refine ⟨⟨fun tm lo ha hl hB => ?_⟩⟩
  refine WC.seq ((h.run.run tm lo ha hl hB).mono ?_)
  rintro e ⟨tm', H', lo'⟩ ⟨hl', hB', L', h1, h2⟩
  cases e with
  | normal => exact h2.run.run tm' lo' h1 hl' hB'
  | _ => exact ⟨hl', hB', L', h1, h2⟩
/-- Behind a piece of code, only what is listed stays known. -/
theorem CV.mid {α : Type} (S : α → List (Nat × Value)) (I : α → Heap → Prop) (h1 : CV P N B wr a L H (seqK (fun L H => ∃ x, covers L (S x) ∧ I x H) Q))
    (h2 : ∀ x H, I x H → B ≤ H.n → mkK (S x) .leaf fun L' => CV P N B wr b L' H Q) : CV P N B wr (.seq a b) L H Q := by
  refine CV.seq ⟨⟨fun tm lo ha hl hB => ?_⟩⟩
  refine (h1.run.run tm lo ha hl hB).mono ?_
  rintro e ⟨tm', H', lo'⟩ ⟨hl', hB', L', h3, h4⟩
  cases e with
  | normal =>
    obtain ⟨x, h5, h6⟩ := h4
    exact ⟨hl', hB', L', h3, ⟨WCv.forget (S x) h5 ((mkK_mono _ _ (fun L h => h.run)) (h2 x H' h6 hB'))⟩⟩
  | _ => exact ⟨hl', hB', L', h3, h4⟩
theorem CV.skip (h : Q .normal L H) : CV P N B wr .skip L H Q := ⟨⟨fun tm lo ha hl hB => WC.skip ⟨hl, hB, L, ha, h⟩⟩⟩
theorem CV.label {l : Nat} (h : Q .normal L H) : CV P N B wr (.label l) L H Q := ⟨⟨fun tm lo ha hl hB => WC.label ⟨hl, hB, L, ha, h⟩⟩⟩
theorem CV.exit {id : Nat} (h : Q (.exit id) L H) : CV P N B wr (.exit id) L H Q := ⟨⟨fun tm lo ha hl hB => WC.exit ⟨hl, hB, L, ha, h⟩⟩⟩
theorem CV.ret (h : Q .ret L H) : CV P N B wr .ret L H Q := ⟨⟨fun tm lo ha hl hB => WC.ret ⟨hl, hB, L, ha, h⟩⟩⟩
theorem CV.cond {x : Operand} (h : evK P L x (ifK (CV P N B wr a L H Q) (CV P N B wr b L H Q))) : CV P N B wr (.cond x a b) L H Q := by
  refine ⟨⟨fun tm lo ha hl hB => ?_⟩⟩
  obtain ⟨v, h1, h2⟩ := evK_spec ha h
  unfold ifK at h2
  split at h2
  · exact WC.cond h1 (h2.run.run tm lo ha hl hB)
  · exact WC.cond h1 (h2.run.run tm lo ha hl hB)
  · exact h2.elim
theorem CV.block {id : Nat} (h : CV P N B wr b L H (blkK id Q)) : CV P N B wr (.block id b) L H Q := by
  refine ⟨⟨fun tm lo ha hl hB => ?_⟩⟩
  refine WC.block ((h.run.run tm lo ha hl hB).mono ?_)
  rintro e ⟨tm', H', lo'⟩ ⟨hl', hB', L', h1, h2⟩
  cases e with
  | exit j =>
    simp only [inBlk]
    rcases cond_iff h2 with ⟨h3, h4⟩ | ⟨h3, h4⟩
    · rw [if_pos (Nat.eq_of_beq_eq_true h3)]; exact ⟨hl', hB', L', h1, h4⟩
    · rw [if_neg (Nat.ne_of_beq_eq_false h3)]; exact ⟨hl', hB', L', h1, h4⟩
  | _ => exact ⟨hl', hB', L', h1, h2⟩
theorem CV.scope (h : CV P N B wr b L H (scoK Q)) : CV P N B wr (.scope b) L H Q := by
  refine ⟨⟨fun tm lo ha hl hB => ?_⟩⟩
  refine WC.scope ((h.run.run tm lo ha hl hB).mono ?_)
  rintro e ⟨tm', H', lo'⟩ ⟨hl', hB', L', h1, h2⟩
  cases e with
  | goto j => exact h2.elim
  | _ => exact ⟨hl', hB', L', h1, h2⟩
theorem CV.loopc (h : WCv P B (.loop b) L H Q) : CV P N B wr (.loop b) L H Q := ⟨h⟩
theorem CV.region (hN : calleesOk P N = true) {id : Nat} {os : Array Oper} (h : CO P N B wr os.toList os.toList L H (Q .normal)) : CV P N B wr (.region id os false) L H Q := ⟨vc_spec hN (wr := wr) _ L H Q (by unfold vc; exact h.run)⟩
theorem CV.draw (hN : calleesOk P N = true) {id : Nat} {os : Array Oper} (h : CH P N B wr os.toList (os.toList.take (splitM os.toList)) L H fun L H => CO P N B wr os.toList ((os.toList.drop (splitM os.toList)).take (splitQ os.toList)) L H fun L H => CH P N B wr os.toList (os.toList.drop (splitM os.toList + splitQ os.toList)) L H (Q .normal)) : CV P N B wr (.region id os true) L H Q := by
  refine ⟨vc_spec hN (wr := wr) _ L H Q ?_⟩
  unfold vc
  simp only [CH_eq, CO_eq] at h
  exact h
theorem CO.nil (h : K L H) : CO P N B wr ops [] L H K := ⟨by unfold vcOps; exact h⟩
theorem CH.nil (h : K L H) : CH P N B wr ops [] L H K := ⟨by unfold vcHead; exact h⟩
theorem CO.cons (hg : o.guard = none) (h : vcStep P N B B wr o L H (fun v H' => putK L o.dst v fun L' => CO P N B wr ops rest L' H' K) (fun v H' => putK L o.dst v fun L' => CO P N B wr ops rest L' H' K)) : CO P N B wr ops (o :: rest) L H K := by
  refine ⟨?_⟩
  unfold vcOps
  simp only [CO_eq] at h
  simp only [hg]
  exact h
theorem CH.cons (hg : o.guard = none) (h : vcStep P N B H.n wr o L H (fun v _ => plain v = true ∧ putK L o.dst v fun L' => CH P N B wr ops rest L' H K) (fun v _ => putK L o.dst v fun L' => CH P N B wr ops rest L' H K)) : CH P N B wr ops (o :: rest) L H K := by
  refine ⟨?_⟩
  unfold vcHead
  simp only [CH_eq] at h
  simp only [hg]
  exact h
theorem CO.consG {j : Nat} {want : Bool} (hg : o.guard = some (j, want)) (h : guardK ops L j fun b => bif bEq b want then
        vcStep P N B B wr o L H (fun v H' => putK L o.dst v fun L' => CO P N B wr ops rest L' H' K) (fun v H' => putK L o.dst v fun L' => CO P N B wr ops rest L' H' K)
      else putK L o.dst undef fun L' => CO P N B wr ops rest L' H K) : CO P N B wr ops (o :: rest) L H K := by
  refine ⟨?_⟩
  unfold vcOps
  simp only [CO_eq] at h
  simp only [hg]
  exact h
theorem CH.consG {j : Nat} {want : Bool} (hg : o.guard = some (j, want)) (h : guardK ops L j fun b => bif bEq b want then
        vcStep P N B H.n wr o L H (fun v _ => plain v = true ∧ putK L o.dst v fun L' => CH P N B wr ops rest L' H K) (fun v _ => putK L o.dst v fun L' => CH P N B wr ops rest L' H K)
      else putK L o.dst undef fun L' => CH P N B wr ops rest L' H K) : CH P N B wr ops (o :: rest) L H K := by
  refine ⟨?_⟩
  unfold vcHead
  simp only [CH_eq] at h
  simp only [hg]
  exact h

/-- What is left behind a function's code. -/
def endK (P : Program) (fn : Func) (Q : Value → Heap → Prop) : Exit → Kn → Heap → Prop
  | .normal, L, H => resK P L H fn.results.toList fun l => l.all notTuple = true ∧ tupK l fun v => Q v H
  | .ret, L, H => resK P L H fn.results.toList fun l => l.all notTuple = true ∧ tupK l fun v => Q v H
  | _, _, _ => False
theorem CV.enter {f : FuncId} {args : List Value} {H : Heap} {Q : Value → Heap → Prop} {fn : Func} {c : Code} (_hN : calleesOk P N = true) (wr : Bool) (hor : Oracle.val P f = none) (hf : P.funcs[f]? = some fn) (hb : fn.body = some c) (hok : codeOk fn.ntmps c = true) (hl : args.length ≤ fn.ntmps)
    (hB : B ≤ H.n) (h : argsK args 0 .leaf fun L => CV P N B wr c L H (endK P fn Q)) : CallB P B f args H Q := by
  obtain ⟨L, h1, h2⟩ := argsK_spec args 0 .leaf .leaf _ (by intro i v hv; simp [Tr.get] at hv) h
  refine ⟨WF.enter hor hf hb hok hl ((h2.run.run _ H.n h1 hB hB).mono ?_)⟩
  rintro e ⟨tm, H', lo⟩ ⟨hl', hB', L', h3, h4⟩
  have key : ∀ (h : resK P L' H' fn.results.toList fun l => l.all notTuple = true ∧ tupK l fun v => Q v H'), ∃ vs, ressOf P tm H' fn.results.toList = some vs ∧ vs.all notTuple = true ∧ (B ≤ lo ∧ B ≤ H'.n) ∧ Q (tupled vs) H' := by
    intro h
    obtain ⟨l, h5, h6, h7⟩ := resK_spec h3 _ _ h
    refine ⟨l, h5, h6, ⟨hl', hB'⟩, ?_⟩
    unfold tupK at h7
    unfold tupled
    split at h7
    · exact h7
    · rename_i hne
      split
      · exact absurd rfl (hne _)
      · exact h7
  cases e with
  | normal => exact ⟨rfl, key h4⟩
  | ret => exact ⟨rfl, key h4⟩
  | _ => exact h4.elim
theorem WCv.rounds {α : Type} (_hN : calleesOk P N = true) (wr : Bool) {b : Code} {L : Kn} {H : Heap} {Q : Exit → Kn → Heap → Prop} (S : α → List (Nat × Value)) (I : α → Heap → Prop) (μ : α → Nat)
    (a0 : α) (hc : covers L (S a0)) (hI : I a0 H)
    (hr : ∀ a Hx, I a Hx → B ≤ Hx.n → mkK (S a) .leaf fun L' => CV P N B wr b L' Hx (roundK S I μ a Q)) : WCv P B (.loop b) L H Q := by
  have key : ∀ n a, μ a = n → ∀ Hx lo, I a Hx → B ≤ lo → B ≤ Hx.n → ∀ tm, (∀ i v, (i, v) ∈ S a → Tm.at tm i = v) → WC P (.loop b) ⟨tm, Hx, lo⟩ fun e st => B ≤ st.lo ∧ B ≤ st.heap.n ∧ ∃ L', Agree st.tmps L' ∧ Q e L' st.heap := by
    intro n
    induction n using Nat.strongRecOn with
    | _ n ih =>
      intro a hn Hx lo hI hl hB tm ht
      obtain ⟨L', h1, h2⟩ := mkK_spec (S a) .leaf _ (hr a Hx hI hB)
      have ha : Agree tm L' := fun i v hv => by
        rcases h2 i v hv with h3 | h3
        · simp [Tr.get] at h3
        · exact ht i v h3
      refine WC.round ((h1.run.run tm lo ha hl hB).mono ?_)
      rintro e ⟨tm', H', lo'⟩ ⟨hl', hB', L2, h3, h4⟩
      cases e with
      | normal =>
        obtain ⟨a', h5, h6, h7⟩ := h4
        exact ih _ (by rw [← hn]; exact h6) a' rfl H' lo' h7 hl' hB' tm' fun i v hv => h3 i v (covers_mem L2 _ h5 i v hv)
      | _ => exact ⟨hl', hB', L2, h3, h4⟩
  exact ⟨fun tm lo ha hl hB => key _ a0 rfl H lo hI hl hB tm fun i v hv => ha i v (covers_mem L _ hc i v hv)⟩
end
end Go.AI
