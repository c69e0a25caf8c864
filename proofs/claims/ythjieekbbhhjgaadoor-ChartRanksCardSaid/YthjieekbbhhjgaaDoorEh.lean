/- The abstract machine: what has to be shown so that code answers as it should, found by evaluation. -/
import Derived.Test.YthjieekbbhhjgaaDoorEg
namespace Go.AI
section
variable (P : Program)

/-- What is known of the slots. -/
abbrev Kn := Tr Value

def Agree (tm : Tm) (L : Kn) : Prop := ∀ i v, L.get i = some v → Tm.at tm i = v

def getK : Kn → Nat → (Value → Prop) → Prop
  | .leaf, _, _ => False
  | .node l v r, i, K => bif Nat.beq i 0 then (match v with | some v => K v | none => False) else
      bif Nat.beq (i % 2) 1 then getK l (i / 2) K else getK r (i / 2 - 1) K

def setK : Nat → Kn → Nat → Value → (Kn → Prop) → Prop
  | 0, _, _, _, _ => False
  | f + 1, .leaf, i, v, K => bif Nat.beq i 0 then K (.node .leaf (some v) .leaf) else
      bif Nat.beq (i % 2) 1 then setK f .leaf (i / 2) v fun l => K (.node l none .leaf) else setK f .leaf (i / 2 - 1) v fun r => K (.node .leaf none r)
  | f + 1, .node l u r, i, v, K => bif Nat.beq i 0 then K (.node l (some v) r) else
      bif Nat.beq (i % 2) 1 then setK f l (i / 2) v fun l => K (.node l u r) else setK f r (i / 2 - 1) v fun r => K (.node l u r)

def putK (L : Kn) (d : Option Tmp) (v : Value) (K : Kn → Prop) : Prop :=
  match d with
  | some d => setK 14 L d v K
  | none => K L

def mkK : List (Nat × Value) → Kn → (Kn → Prop) → Prop
  | [], L, K => K L
  | (i, v) :: r, L, K => setK 14 L i v fun L => mkK r L K

def nthK {α : Type} : List α → Nat → (α → Prop) → Prop
  | [], _, _ => False
  | x :: l, i, K => bif Nat.beq i 0 then K x else nthK l (i - 1) K

def evK (L : Kn) (x : Operand) (K : Value → Prop) : Prop :=
  match x with
  | .tmp t => getK L t K
  | .const v => bif plain v then K v else False
  | .global g => bif Nat.blt g P.globals.size then K (.pointer (some ⟨g, 0, none⟩)) else False
  | .func f => K (.func (.func f) #[] #[])

def evsK (L : Kn) : List Operand → (List Value → Prop) → Prop
  | [], K => K []
  | x :: r, K => evK P L x fun v => evsK L r fun l => K (v :: l)

def evPartsK (L : Kn) : List (Nat × Operand) → (List (Nat × Value) → Prop) → Prop
  | [], K => K []
  | (i, x) :: r, K => evK P L x fun v => evPartsK L r fun l => K ((i, v) :: l)

def evO (L : Kn) (x : Option Operand) (K : Option (Option Value) → Prop) : Prop :=
  match x with
  | none => K none
  | some x => evK P L x fun v => K (some (some v))

/-- What is left to the reader. -/
def other (o : Oper) (L : Kn) (H : Heap) (K : Value → Heap → Prop) : Prop :=
  ∃ v, (∀ tm, Agree tm L → step1 P tm H o = some (v, H, H.n)) ∧ K v H

def inI64 (n : Int) : Prop := -9223372036854775808 ≤ n ∧ n < 9223372036854775808

def sayInt (wr : Bool) (k : IntKind) (n : Int) (K : Value → Prop) : Prop :=
  match wr, k with
  | false, .i64 => inI64 n ∧ K (.int .i64 n)
  | _, k => ∀ r, r = k.wrap n → K (.int k r)

def ask (p : Prop) (K : Value → Prop) : Prop := (p → K (.bool true)) ∧ (¬ p → K (.bool false))

def binK (wr : Bool) (op : BinOp) (a b : Value) (K : Value → Prop) (other : Prop) : Prop :=
  match a, b with
  | .int k x, .int j y => bif decide (k = j) then
      (match op with
      | .add => sayInt wr k (x + y) K
      | .sub => sayInt wr k (x - y) K
      | .mul => sayInt wr k (x * y) K
      | .eql => ask (x = y) K
      | .neq => ask (¬ x = y) K
      | .lss => ask (x < y) K
      | .leq => ask (x ≤ y) K
      | .gtr => ask (y < x) K
      | .geq => ask (y ≤ x) K
      | _ => other)
    else other
  | _, _ => other

def vcOp (B : Nat) (wr : Bool) (o : Oper) (L : Kn) (H : Heap) (K : Value → Heap → Prop) : Prop :=
  match o.op with
  | .move x => evK P L x fun v => K v H
  | .assign x => evK P L x fun v => K v H
  | .pick c a b => evK P L c fun v => match v with
    | .bool true => evK P L a fun v => K v H
    | .bool false => evK P L b fun v => K v H
    | _ => False
  | .alloc t => ∃ v H', sAlloc P H t = some (v, H', H.n) ∧ K v H'
  | .box t x => evK P L x fun v => notTuple v = true ∧ K (.pointer (some ⟨H.n, 0, none⟩)) (anew H v.cells.toList t 1)
  | .load t x => evK P L x fun p => ∃ r, aload P t H p = some r ∧ K r H
  | .store t x y => evK P L x fun a => evK P L y fun v => ∃ H' b, astore P t H v a = some (H', b) ∧ B ≤ b ∧ K undef H'
  | .nilCheck x => evK P L x fun v => ∃ r, nilOk v = some r ∧ K r H
  | .makeFunc fn first cap => match fn with
    | .func f => bif decide (first.size = 0) then evsK P L cap.toList fun l => l.all cellLike = true ∧ K (.func (.func f) #[] l.toArray) H else False
    | _ => False
  | .makeMap _ r => match r with
    | none => K (.map (some H.n)) (H.new (.map []))
    | some _ => False
  | .makeSlice t l c => evK P L l fun l => evK P L c fun c => ∃ v H', amakeSlice P H t l c = some (v, H', H.n) ∧ K v H'
  | .slice t x lo hi mx => match mx with
    | some _ => False
    | none => evK P L x fun v => evO P L lo fun lo => evO P L hi fun hi => ∃ r, aslice P t v lo hi = some r ∧ K r H
  | .fieldAddr s x f => evK P L x fun v => ∃ r, afieldAddr P s v f = some r ∧ K r H
  | .indexAddr t x i => evK P L x fun v => evK P L i fun i => ∃ r, aindexAddr P t v i = some r ∧ K r H
  | .field t x f => evK P L x fun v => ∃ r, afield P t v f = some r ∧ K r H
  | .index t x i => evK P L x fun v => evK P L i fun i => ∃ r, aindex P t v i = some r ∧ K r H
  | .extract x i => evK P L x fun v => match v with
    | .tuple vs => nthK vs.toList i fun r => K r H
    | _ => False
  | .build t parts => evPartsK P L parts.toList fun l => ∃ r, abuild P t l = some r ∧ K r H
  | .buildSlice t len parts => evPartsK P L parts.toList fun l => ∃ v H', abuildSlice P H t len l = some (v, H', H.n) ∧ K v H'
  | .lookup t x k ok => evK P L x fun x => evK P L k fun k => ∃ r, alookup P H t x k ok = some r ∧ K r H
  | .mapUpdate t m k x => evK P L m fun m => evK P L k fun k => evK P L x fun x => ∃ H' b, amapUpdate P H t m k x = some (H', b) ∧ B ≤ b ∧ K undef H'
  | .insert t m k x => evK P L m fun m => evK P L k fun k => evK P L x fun x => ∃ H' b, amapUpdate P H t m k x = some (H', b) ∧ B ≤ b ∧ K undef H'
  | .binOp op _ x y _ => evK P L x fun a => evK P L y fun b => binK wr op a b (fun v => K v H) (other P o L H K)
  | .unOp op _ x => match op with
    | .not => evK P L x fun v => match v with
      | .bool true => K (.bool false) H
      | .bool false => K (.bool true) H
      | _ => other P o L H K
    | _ => other P o L H K
  | .call c => match c.callee with
    | .builtin .len => match c.args.toList, c.argTypes.toList with
      | [x], [t] => evK P L x fun v => ∃ r, alen P H t v = some r ∧ K r H
      | _, _ => False
    | .builtin .append => match c.args.toList with
      | [x, y] => evK P L x fun x => evK P L y fun y => ∃ v H' b, aappend P H c.argTypes x y = some (v, H', b) ∧ B ≤ b ∧ K v H'
      | _ => False
    | .builtin _ => other P o L H K
    | _ => False
  | _ => other P o L H K

variable [Oracle P]

/-- A call that writes no block below B. -/
structure CallB (B : Nat) (f : FuncId) (l : List Value) (H : Heap) (Q : Value → Heap → Prop) : Prop where
  run : WF P f l H fun v H' lo => (B ≤ lo ∧ B ≤ H'.n) ∧ Q v H'

/-- An operation: a call of a function below N goes to Kc. -/
def vcStep (N B Bc : Nat) (wr : Bool) (o : Oper) (L : Kn) (H : Heap) (Kc K : Value → Heap → Prop) : Prop :=
  match o.op with
  | .call c => match c.callee with
    | .value g => evK P L g fun v => match v with
      | .func (.func f) first cap => bif decide (first.size = 0) && (Nat.ble 2 f && Nat.blt f N) then evsK P L c.args.toList fun l => CallB P Bc f (l ++ cap.toList) H Kc else False
      | _ => False
    | .invoke _ _ => False
    | .builtin _ => vcOp P B wr o L H K
  | _ => vcOp P B wr o L H K

def guardK (ops : List Oper) (L : Kn) (j : Nat) (K : Bool → Prop) : Prop :=
  nthK ops j fun o => match o.dst with
    | some d => getK L d fun v => match v with
      | .bool true => K true
      | .bool false => K false
      | _ => False
    | none => False

def bEq : Bool → Bool → Bool
  | true, b => b
  | false, b => !b

def vcOps (N B : Nat) (wr : Bool) (ops : List Oper) : List Oper → Kn → Heap → (Kn → Heap → Prop) → Prop
  | [], L, H, K => K L H
  | o :: rest, L, H, K =>
    match o.guard with
    | none => vcStep P N B B wr o L H (fun v H' => putK L o.dst v fun L' => vcOps N B wr ops rest L' H' K) (fun v H' => putK L o.dst v fun L' => vcOps N B wr ops rest L' H' K)
    | some (j, want) => guardK ops L j fun b => bif bEq b want then
        vcStep P N B B wr o L H (fun v H' => putK L o.dst v fun L' => vcOps N B wr ops rest L' H' K) (fun v H' => putK L o.dst v fun L' => vcOps N B wr ops rest L' H' K)
      else putK L o.dst undef fun L' => vcOps N B wr ops rest L' H K

def vcHead (N B : Nat) (wr : Bool) (ops : List Oper) : List Oper → Kn → Heap → (Kn → Heap → Prop) → Prop
  | [], L, H, K => K L H
  | o :: rest, L, H, K =>
    match o.guard with
    | none => vcStep P N B H.n wr o L H (fun v _ => plain v = true ∧ putK L o.dst v fun L' => vcHead N B wr ops rest L' H K) (fun v _ => putK L o.dst v fun L' => vcHead N B wr ops rest L' H K)
    | some (j, want) => guardK ops L j fun b => bif bEq b want then
        vcStep P N B H.n wr o L H (fun v _ => plain v = true ∧ putK L o.dst v fun L' => vcHead N B wr ops rest L' H K) (fun v _ => putK L o.dst v fun L' => vcHead N B wr ops rest L' H K)
      else putK L o.dst undef fun L' => vcHead N B wr ops rest L' H K

/-- Code, from whatever slots agree with what is known; it writes no block below B. -/
structure WCv (B : Nat) (c : Code) (L : Kn) (H : Heap) (Q : Exit → Kn → Heap → Prop) : Prop where
  run : ∀ tm lo, Agree tm L → B ≤ lo → B ≤ H.n → WC P c ⟨tm, H, lo⟩ fun e st => B ≤ st.lo ∧ B ≤ st.heap.n ∧ ∃ L', Agree st.tmps L' ∧ Q e L' st.heap

def vc (N B : Nat) (wr : Bool) : Code → Kn → Heap → (Exit → Kn → Heap → Prop) → Prop
  | .skip, L, H, Q => Q .normal L H
  | .label _, L, H, Q => Q .normal L H
  | .exit id, L, H, Q => Q (.exit id) L H
  | .ret, L, H, Q => Q .ret L H
  | .region _ ops draw, L, H, Q => match draw with
    | false => vcOps P N B wr ops.toList ops.toList L H (Q .normal)
    | true => vcHead P N B wr ops.toList (ops.toList.take (splitM ops.toList)) L H fun L H => vcOps P N B wr ops.toList ((ops.toList.drop (splitM ops.toList)).take (splitQ ops.toList)) L H fun L H => vcHead P N B wr ops.toList (ops.toList.drop (splitM ops.toList + splitQ ops.toList)) L H (Q .normal)
  | .seq a b, L, H, Q => vc N B wr a L H fun e L H => match e with
    | .normal => vc N B wr b L H Q
    | e => Q e L H
  | .cond x a b, L, H, Q => evK P L x fun v => match v with
    | .bool true => vc N B wr a L H Q
    | .bool false => vc N B wr b L H Q
    | _ => False
  | .block id b, L, H, Q => vc N B wr b L H fun e L H => match e with
    | .exit j => bif Nat.beq j id then Q .normal L H else Q (.exit j) L H
    | e => Q e L H
  | .scope b, L, H, Q => vc N B wr b L H fun e L H => match e with
    | .goto _ => False
    | e => Q e L H
  | .loop b, L, H, Q => WCv P B (.loop b) L H Q
  | _, _, _, _ => False
end
end Go.AI
