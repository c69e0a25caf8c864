/- Conditions, step by step: what is behind a step stays shut. -/
import Derived.Test.YthjieekbbhhjgaaDoorEo
namespace Go.AI
section
variable (P : Program) [Oracle P]
structure CV (N B : Nat) (wr : Bool) (c : Code) (L : Kn) (H : Heap) (Q : Exit → Kn → Heap → Prop) : Prop where
  run : vc P N B wr c L H Q
structure CO (N B : Nat) (wr : Bool) (ops l : List Oper) (L : Kn) (H : Heap) (K : Kn → Heap → Prop) : Prop where
  run : vcOps P N B wr ops l L H K
structure CH (N B : Nat) (wr : Bool) (ops l : List Oper) (L : Kn) (H : Heap) (K : Kn → Heap → Prop) : Prop where
  run : vcHead P N B wr ops l L H K
end
section
variable {P : Program} [Oracle P] {N B : Nat} {wr : Bool} {L : Kn} {H : Heap} {Q : Exit → Kn → Heap → Prop} {a b : Code} {ops rest : List Oper} {o : Oper} {K : Kn → Heap → Prop}
theorem CV_eq {c : Code} : CV P N B wr c L H Q = vc P N B wr c L H Q := propext ⟨CV.run, CV.mk⟩
theorem CO_eq {l : List Oper} : CO P N B wr ops l L H K = vcOps P N B wr ops l L H K := propext ⟨CO.run, CO.mk⟩
theorem CH_eq {l : List Oper} : CH P N B wr ops l L H K = vcHead P N B wr ops l L H K := propext ⟨CH.run, CH.mk⟩

def seqK (k : Kn → Heap → Prop) (Q : Exit → Kn → Heap → Prop) : Exit → Kn → Heap → Prop
  | .normal, L, H => k L H
  | e, L, H => Q e L H
def blkK (id : Nat) (Q : Exit → Kn → Heap → Prop) : Exit → Kn → Heap → Prop
  | .exit j, L, H => bif Nat.beq j id then Q .normal L H else Q (.exit j) L H
  | e, L, H => Q e L H
def scoK (Q : Exit → Kn → Heap → Prop) : Exit → Kn → Heap → Prop
  | .goto _, _, _ => False
  | e, L, H => Q e L H
def ifK (p q : Prop) : Value → Prop
  | .bool true => p
  | .bool false => q
  | _ => False

theorem CV.seq (h : CV P N B wr a L H (seqK (fun L H => CV P N B wr b L H Q) Q)) : CV P N B wr (.seq a b) L H Q := by
  refine ⟨?_⟩
  rw [CV_eq] at h
  unfold vc
  have : (seqK (fun L H => CV P N B wr b L H Q) Q) = fun e L H => match e with
    | .normal => vc P N B wr b L H Q
    | e => Q e L H := by
    funext e L H
    cases e <;> simp [seqK, CV_eq]
  rw [this] at h
  exact h
theorem CV.skip (h : Q .normal L H) : CV P N B wr .skip L H Q := ⟨by unfold vc; exact h⟩
theorem CV.label {l : Nat} (h : Q .normal L H) : CV P N B wr (.label l) L H Q := ⟨by unfold vc; exact h⟩
theorem CV.exit {id : Nat} (h : Q (.exit id) L H) : CV P N B wr (.exit id) L H Q := ⟨by unfold vc; exact h⟩
theorem CV.ret (h : Q .ret L H) : CV P N B wr .ret L H Q := ⟨by unfold vc; exact h⟩
theorem CV.cond {x : Operand} (h : evK P L x (ifK (CV P N B wr a L H Q) (CV P N B wr b L H Q))) : CV P N B wr (.cond x a b) L H Q := by
  refine ⟨?_⟩
  unfold vc
  have : (ifK (CV P N B wr a L H Q) (CV P N B wr b L H Q)) = fun v => match v with
    | .bool true => vc P N B wr a L H Q
    | .bool false => vc P N B wr b L H Q
    | _ => False := by
    funext v
    unfold ifK
    split <;> simp [CV_eq]
  rw [this] at h
  exact h
theorem CV.block {id : Nat} (h : CV P N B wr b L H (blkK id Q)) : CV P N B wr (.block id b) L H Q := by
  refine ⟨?_⟩
  rw [CV_eq] at h
  unfold vc
  have : blkK id Q = fun e L H => match e with
    | .exit j => bif Nat.beq j id then Q .normal L H else Q (.exit j) L H
    | e => Q e L H := by
    funext e L H
    cases e <;> simp [blkK]
  rw [this] at h
  exact h
theorem CV.scope (h : CV P N B wr b L H (scoK Q)) : CV P N B wr (.scope b) L H Q := by
  refine ⟨?_⟩
  rw [CV_eq] at h
  unfold vc
  have : scoK Q = fun e L H => match e with
    | .goto _ => False
    | e => Q e L H := by
    funext e L H
    cases e <;> simp [scoK]
  rw [this] at h
  exact h
theorem CV.loopc (h : WCv P B (.loop b) L H Q) : CV P N B wr (.loop b) L H Q := ⟨by unfold vc; exact h⟩
theorem CV.region {id : Nat} {os : Array Oper} (h : CO P N B wr os.toList os.toList L H (Q .normal)) : CV P N B wr (.region id os false) L H Q := ⟨by unfold vc; exact h.run⟩
theorem CV.draw {id : Nat} {os : Array Oper} (h : CH P N B wr os.toList (os.toList.take (headLen os.toList)) L H fun L H => CO P N B wr os.toList (os.toList.drop (headLen os.toList)) L H (Q .normal)) : CV P N B wr (.region id os true) L H Q := by
  refine ⟨?_⟩
  unfold vc
  simp only [CH_eq, CO_eq] at h
  exact h
theorem CO.nil (h : K L H) : CO P N B wr ops [] L H K := ⟨by unfold vcOps; exact h⟩
theorem CH.nil (h : K L H) : CH P N B wr ops [] L H K := ⟨by unfold vcHead; exact h⟩
theorem CO.cons (hg : o.guard = none) (h : vcStep P N B B wr o L H (fun v H' => putK L o.dst v fun L' => CO P N B wr ops rest L' H' K) (fun v H' => putK L o.dst v fun L' => CO P N B wr ops rest L' H' K)) : CO P N B wr ops (o :: rest) L H K := by
  refine ⟨?_⟩
  unfold vcOps
  simp only [CO_eq] at h
  simp only [hg]
  exact h
theorem CH.cons (hg : o.guard = none) (h : vcStep P N B H.n wr o L H (fun v _ => plain v = true ∧ putK L o.dst v fun L' => CH P N B wr ops rest L' H K) (fun v _ => putK L o.dst v fun L' => CH P N B wr ops rest L' H K)) : CH P N B wr ops (o :: rest) L H K := by
  refine ⟨?_⟩
  unfold vcHead
  simp only [CH_eq] at h
  simp only [hg]
  exact h
theorem CO.consG {j : Nat} {want : Bool} (hg : o.guard = some (j, want)) (h : guardK ops L j fun b => bif bEq b want then
        vcStep P N B B wr o L H (fun v H' => putK L o.dst v fun L' => CO P N B wr ops rest L' H' K) (fun v H' => putK L o.dst v fun L' => CO P N B wr ops rest L' H' K)
      else putK L o.dst undef fun L' => CO P N B wr ops rest L' H K) : CO P N B wr ops (o :: rest) L H K := by
  refine ⟨?_⟩
  unfold vcOps
  simp only [CO_eq] at h
  simp only [hg]
  exact h
theorem CH.consG {j : Nat} {want : Bool} (hg : o.guard = some (j, want)) (h : guardK ops L j fun b => bif bEq b want then
        vcStep P N B H.n wr o L H (fun v _ => plain v = true ∧ putK L o.dst v fun L' => CH P N B wr ops rest L' H K) (fun v _ => putK L o.dst v fun L' => CH P N B wr ops rest L' H K)
      else putK L o.dst undef fun L' => CH P N B wr ops rest L' H K) : CH P N B wr ops (o :: rest) L H K := by
  refine ⟨?_⟩
  unfold vcHead
  simp only [CH_eq] at h
  simp only [hg]
  exact h

/-- What is left behind a function's code. -/
def endK (P : Program) (fn : Func) (Q : Value → Heap → Prop) : Exit → Kn → Heap → Prop
  | .normal, L, H => resK P L H fn.results.toList fun l => l.all notTuple = true ∧ tupK l fun v => Q v H
  | .ret, L, H => resK P L H fn.results.toList fun l => l.all notTuple = true ∧ tupK l fun v => Q v H
  | _, _, _ => False
theorem CV.enter {f : FuncId} {args : List Value} {H : Heap} {Q : Value → Heap → Prop} {fn : Func} {c : Code} (hN : calleesOk P N = true) (wr : Bool) (hor : Oracle.val P f = none) (hf : P.funcs[f]? = some fn) (hb : fn.body = some c) (hok : codeOk fn.ntmps c = true) (hl : args.length ≤ fn.ntmps)
    (hB : B ≤ H.n) (h : argsK args 0 .leaf fun L => CV P N B wr c L H (endK P fn Q)) : CallB P B f args H Q := by
  refine vcF_spec (wr := wr) hN hor hf hb hok hl hB ?_
  unfold vcF
  have : endK P fn Q = fun e L H => match e with
    | .normal => resK P L H fn.results.toList fun l => l.all notTuple = true ∧ tupK l fun v => Q v H
    | .ret => resK P L H fn.results.toList fun l => l.all notTuple = true ∧ tupK l fun v => Q v H
    | _ => False := by
    funext e L H
    cases e <;> rfl
  rw [this] at h
  simp only [CV_eq] at h
  exact h
theorem WCv.rounds {α : Type} (hN : calleesOk P N = true) (wr : Bool) {b : Code} {L : Kn} {H : Heap} {Q : Exit → Kn → Heap → Prop} (S : α → List (Nat × Value)) (I : α → Heap → Prop) (μ : α → Nat)
    (a0 : α) (hc : covers L (S a0)) (hI : I a0 H)
    (hr : ∀ a Hx, I a Hx → B ≤ Hx.n → mkK (S a) .leaf fun L' => CV P N B wr b L' Hx (roundK S I μ a Q)) : WCv P B (.loop b) L H Q :=
  WCv.loop hN wr S I μ a0 hc hI fun a Hx h1 h2 => by have := hr a Hx h1 h2; simp only [CV_eq] at this; exact this
end
end Go.AI
