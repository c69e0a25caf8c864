/- Several texts in one. -/
import Derived.WalkKit
import Derived.RangeFuncIn
import Derived.Sort.QuietThIn
import Derived.StillTail
import Derived.Lib.Bytealg
import Derived.RangeFuncRecord
set_option linter.unusedVariables false
set_option linter.unusedSimpArgs false
/- An abstract machine for the model's code: the definitions. Nothing of a particular program is said here. -/
namespace Go.AI

/-- A tree of places: 0 at the root, the odd ones to the left, the even ones to the right. -/
inductive Tr (α : Type) where
  | leaf
  | node (l : Tr α) (v : Option α) (r : Tr α)

/-- What an abstract block holds: nothing any more; cells (kind 0: memory that is only read; 1: a variable; 2: a row that may grow); a map; the record of a range over a function: its state, the jump that is pending, the slots and the code of its rounds. -/
inductive AObj where
  | gone
  | cells (cs : List Value) (elem : TypeId) (kind : Nat)
  | map (es : List (Value × Value))
  | loop (st : LoopState) (pend : Option Code) (tm : Tr Value) (ps : Array Tmp) (assign body : Code)
  deriving Inhabited

def Tr.get {α : Type} : Tr α → Nat → Option α
  | .leaf, _ => none
  | .node l v r, i => bif Nat.beq i 0 then v else bif Nat.beq (i % 2) 1 then l.get (i / 2) else r.get (i / 2 - 1)

def Tr.setF {α : Type} (v : α) : Nat → Tr α → Nat → Tr α
  | 0, t, _ => t
  | f + 1, .leaf, i => bif Nat.beq i 0 then .node .leaf (some v) .leaf else
      bif Nat.beq (i % 2) 1 then .node (Tr.setF v f .leaf (i / 2)) none .leaf else .node .leaf none (Tr.setF v f .leaf (i / 2 - 1))
  | f + 1, .node l u r, i => bif Nat.beq i 0 then .node l (some v) r else
      bif Nat.beq (i % 2) 1 then .node (Tr.setF v f l (i / 2)) u r else .node l u (Tr.setF v f r (i / 2 - 1))

@[irreducible] def Tr.set {α : Type} (t : Tr α) (i : Nat) (v : α) : Tr α := Tr.setF v (Nat.log2 (i + 1) + 1) t i

structure Heap where
  n : Nat
  t : Tr AObj

def Heap.get (H : Heap) (b : Nat) : Option AObj := H.t.get b
def Heap.set (H : Heap) (b : Nat) (o : AObj) : Heap := ⟨H.n, H.t.set b o⟩
def Heap.new (H : Heap) (o : AObj) : Heap := ⟨H.n + 1, H.t.set H.n o⟩

abbrev Tm := Tr Value

def Tm.at (t : Tm) (i : Nat) : Value := (Tr.get t i).getD undef

structure St where
  tmps : Tm
  heap : Heap
  lo : Nat

/-- A value of one cell that names no memory. -/
def scalar : Value → Bool
  | .bool _ | .int _ _ | .string _ | .nilFunc | .nilIface => true
  | .pointer none => true
  | .slice none 0 0 => true
  | .map none => true
  | .func (.yield _) _ _ => false
  | .func _ a b => a.size == 0 && b.size == 0
  | _ => false

def flat : Value → Bool
  | .agg cs => cs.toList.all scalar
  | v => scalar v

def plain : Value → Bool
  | .tuple vs => vs.toList.all flat
  | v => flat v

def pureRun {α : Type} (P : Program) : Sem α → Option α
  | .pure a => some a
  | .program k => pureRun P (k P)
  | .mark _ k => pureRun P k
  | _ => none

def evT (tm : Tm) : Operand → Value
  | .tmp t => Tm.at tm t
  | .const v => v
  | .global g => .pointer (some ⟨g, 0, none⟩)
  | .func f => .func (.func f) #[] #[]

/-- What an operand is; a constant that names memory is none of ours. -/
def ev (P : Program) (tm : Tm) : Operand → Option Value
  | .tmp t => some (Tm.at tm t)
  | .const v => if plain v then some v else none
  | .global g => if g < P.globals.size then some (.pointer (some ⟨g, 0, none⟩)) else none
  | .func f => some (.func (.func f) #[] #[])

def isAggB (P : Program) (t : TypeId) : Option Bool :=
  match P.underlying t with
  | some (.struct _) | some (.array _ _) => some true
  | some _ => some false
  | none => none

def sizeB (P : Program) (t : TypeId) : Option Nat := (P.info? t).map (·.size)

def aload (P : Program) (t : TypeId) (H : Heap) : Value → Option Value
  | .pointer (some ⟨b, i, none⟩) =>
    match H.get b with
    | some (.cells cs _ _) =>
      match isAggB P t with
      | some true =>
        match sizeB P t with
        | some n => if i + n ≤ cs.length then some (.agg ((cs.drop i).take n).toArray) else none
        | none => none
      | some false => cs[i]?
      | none => none
    | _ => none
  | _ => none

def splice : List Value → Nat → List Value → List Value
  | cs, _, [] => cs
  | cs, i, v :: vs => splice (cs.set i v) (i + 1) vs

def oneC : Value → Bool
  | .agg _ | .tuple _ => false
  | _ => true

def notTuple : Value → Bool
  | .tuple _ => false
  | _ => true

def astore (P : Program) (t : TypeId) (H : Heap) (v : Value) : Value → Option (Heap × Nat)
  | .pointer (some ⟨b, i, none⟩) =>
    match H.get b with
    | some (.cells cs e (k + 1)) =>
      if sizeB P t = some v.cells.size ∧ i + v.cells.size ≤ cs.length ∧ notTuple v = true ∧ v.cells.toList.all oneC = true then
        some (H.set b (.cells (splice cs i v.cells.toList) e (k + 1)), b) else none
    | _ => none
  | _ => none

/-- A new block. -/
def anew (H : Heap) (cs : List Value) (e : TypeId) (k : Nat) : Heap := H.new (.cells cs e k)

def asIdx : Value → Option Int
  | .int _ n => some n
  | _ => none

def aindexAddr (P : Program) (t : TypeId) (x ix : Value) : Option Value :=
  match asIdx ix with
  | none => none
  | some k =>
    match P.underlying t, x with
    | some (.array len elem), .pointer (some ⟨b, i, none⟩) =>
      match sizeB P elem with
      | some s => if 0 ≤ k ∧ k < len then some (.pointer (some ⟨b, i + k.toNat * s, none⟩)) else none
      | none => none
    | some (.slice elem), .slice (some ⟨b, i, none⟩) n _ =>
      match sizeB P elem with
      | some s => if 0 ≤ k ∧ k < n then some (.pointer (some ⟨b, i + k.toNat * s, none⟩)) else none
      | none => none
    | _, _ => none

def afieldAddr (P : Program) (s : TypeId) (x : Value) (f : Nat) : Option Value :=
  match P.underlying s, x with
  | some (.struct fs), .pointer (some ⟨b, i, none⟩) =>
    match fs[f]? with
    | some fd => match sizeB P fd.type with
      | some 0 => none
      | some _ => some (.pointer (some ⟨b, i + fd.offset, none⟩))
      | none => none
    | none => none
  | _, _ => none

def apart' (P : Program) (t : TypeId) (cs : List Value) (off : Nat) : Option Value :=
  match isAggB P t with
  | some true => match sizeB P t with
    | some n => some (.agg ((cs.drop off).take n).toArray)
    | none => none
  | some false => cs[off]?
  | none => none

def afield (P : Program) (t : TypeId) (x : Value) (f : Nat) : Option Value :=
  match P.underlying t, x with
  | some (.struct fs), .agg cs => match fs[f]? with
    | some fd => apart' P fd.type cs.toList fd.offset
    | none => none
  | _, _ => none

def aindex (P : Program) (t : TypeId) (x ix : Value) : Option Value :=
  match asIdx ix with
  | none => none
  | some k =>
    match P.underlying t, x with
    | some (.array len elem), .agg cs =>
      match sizeB P elem with
      | some s => if 0 ≤ k ∧ k < len then apart' P elem cs.toList (k.toNat * s) else none
      | none => none
    | some .string, .string s => if 0 ≤ k then (match s[k.toNat]? with | some b => some (.int .u8 b.toNat) | none => none) else none
    | _, _ => none

/-- An empty slice of which nothing more is known. -/
def anon : Value := .slice (some ⟨0, 0, some 0⟩) 0 0

def bound : Option (Option Value) → Int → Option Int
  | none, d => some d
  | some (some (.int _ n)), _ => some n
  | _, _ => none

def aslice (P : Program) (t : TypeId) (x : Value) (lo hi : Option (Option Value)) : Option Value :=
  match P.underlying t, x with
  | some .string, .string s =>
    match bound lo 0, bound hi s.size with
    | some l, some h => if 0 ≤ l ∧ l ≤ h ∧ h ≤ s.size then some (.string (s.extract l.toNat h.toNat)) else none
    | _, _ => none
  | some (.slice elem), .slice (some ⟨b, i, none⟩) n c =>
    match sizeB P elem, bound lo 0, bound hi n with
    | some s, some l, some h =>
      if 0 ≤ l ∧ l ≤ h ∧ h ≤ n then
        if l = 0 then some (.slice (some ⟨b, i, none⟩) h.toNat c)
        else if l = h then some anon
        else some (.slice (some ⟨b, i + l.toNat * s, none⟩) (h - l).toNat (c + l.toNat))
      else none
    | _, _, _ => none
  | some (.slice elem), .slice none 0 0 =>
    match sizeB P elem, bound lo 0, bound hi 0 with
    | some _, some l, some h => if l = 0 ∧ h = 0 then some (.slice none 0 0) else none
    | _, _, _ => none
  | some (.slice elem), .slice (some ⟨_, _, some _⟩) 0 0 =>
    match sizeB P elem, bound lo 0, bound hi 0 with
    | some _, some l, some h => if l = 0 ∧ h = 0 then some anon else none
    | _, _, _ => none
  | some (.array n elem), .pointer (some ⟨b, i, none⟩) =>
    match sizeB P elem, bound lo 0, bound hi n with
    | some s, some l, some h =>
      if 0 ≤ l ∧ l < h ∧ h ≤ n then some (.slice (some ⟨b, i + l.toNat * s, none⟩) (h - l).toNat (l.toNat + 1)) else none
    | _, _, _ => none
  | _, _ => none

/-- The cells of what is appended, and how many elements they are. -/
def sourceOf (H : Heap) (s : Nat) : Value → Option (List Value × Nat)
  | .slice none 0 0 => some ([], 0)
  | .slice (some ⟨_, _, some _⟩) 0 0 => some ([], 0)
  | .slice (some ⟨b, i, none⟩) m _ =>
    match H.get b with
    | some (.cells cs _ _) => if i + m * s ≤ cs.length then some ((cs.drop i).take (m * s), m) else none
    | _ => none
  | _ => none

def aappend (P : Program) (H : Heap) (ts : Array TypeId) (x y : Value) : Option (Value × Heap × Nat) :=
  match ts.toList with
  | [t, u] =>
    if t ≠ u then none else
    match P.underlying t with
    | some (.slice elem) =>
      match P.info? elem with
      | some info =>
        match info.zero with
        | some z =>
          if info.size = 0 ∨ z.cells.size ≠ info.size then none else
          (match sourceOf H info.size y with
          | some (news, m) =>
            (match x with
            | .slice none 0 0 =>
              if m = 0 then some (x, H, H.n)
              else if m ≤ maxLen ∧ m * info.bytes ≤ 140737488355328 then some (.slice (some ⟨H.n, 0, none⟩) m 0, anew H news elem 2, H.n) else none
            | .slice (some ⟨b, i, none⟩) n c =>
              if m = 0 then some (x, H, H.n) else
              if c ≠ 0 ∨ i ≠ 0 then none else
              (match H.get b with
              | some (.cells cs e 2) =>
                if e = elem ∧ cs.length = n * info.size ∧ n + m ≤ maxLen ∧ (n + m) * info.bytes ≤ 140737488355328 then
                  some (.slice (some ⟨H.n, 0, none⟩) (n + m) 0, anew (H.set b .gone) (cs ++ news) elem 2, b)
                else none
              | _ => none)
            | _ => none)
          | none => none)
        | none => none
      | none => none
    | _ => none
  | _ => none

def alen (P : Program) (H : Heap) (t : TypeId) (x : Value) : Option Value :=
  match P.underlying t, x with
  | some .string, .string s => some (.int .i64 s.size)
  | some (.slice _), .slice _ n _ => some (.int .i64 n)
  | some (.array n _), _ => some (.int .i64 n)
  | some (.map _ _), .map none => some (.int .i64 0)
  | some (.map _ _), .map (some r) => match H.get r with
    | some (.map es) => some (.int .i64 es.length)
    | _ => none
  | some (.pointer a), _ => match P.underlying a with
    | some (.array n _) => some (.int .i64 n)
    | _ => none
  | _, _ => none

def zeros (z : Array Value) (n : Nat) : List Value := (List.range n).map fun i => z[i % z.size]!

def amakeSlice (P : Program) (H : Heap) (t : TypeId) (l c : Value) : Option (Value × Heap × Nat) :=
  match P.underlying t, l, c with
  | some (.slice elem), .int .i64 l, .int .i64 c =>
    match P.info? elem with
    | some info =>
      match info.zero with
      | some z =>
        if 0 ≤ l ∧ l ≤ c ∧ c ≤ 9223372036854775807 ∧ info.bytes * c ≤ 281474976710656 ∧ 0 < info.size ∧ z.cells.size = info.size ∧ z.cells.toList.all scalar = true then
          some (.slice (some ⟨H.n, 0, none⟩) l.toNat 0, anew H (zeros z.cells (l.toNat * info.size)) elem 2, H.n)
        else none
      | none => none
    | none => none
  | _, _, _ => none

def fillL (place : Nat → Option (Nat × Nat)) (cells : List Value) : List (Nat × Value) → Option (List Value)
  | [] => some cells
  | (i, v) :: rest =>
    match place i with
    | none => none
    | some (off, size) =>
      if v.cells.size ≠ size ∨ off + v.cells.size > cells.length ∨ notTuple v = false then none
      else fillL place (splice cells off v.cells.toList) rest

def evParts (P : Program) (tm : Tm) : List (Nat × Operand) → Option (List (Nat × Value))
  | [] => some []
  | (i, x) :: r => match ev P tm x, evParts P tm r with
    | some v, some l => some ((i, v) :: l)
    | _, _ => none

def placeOf (P : Program) (fs : Array Field) (i : Nat) : Option (Nat × Nat) :=
  match fs[i]? with
  | some f => match sizeB P f.type with
    | some n => some (f.offset, n)
    | none => none
  | none => none

def abuild (P : Program) (t : TypeId) (parts : List (Nat × Value)) : Option Value :=
  match P.info? t with
  | some info => match info.zero with
    | some z =>
      if z.cells.toList.all scalar = true then
      match P.underlying t with
      | some (.struct fs) =>
        if fs.toList.all (fun f => (sizeB P f.type).isSome) = true then (fillL (placeOf P fs) z.cells.toList parts).map fun cs => .agg cs.toArray else none
      | some (.array _ elem) =>
        match sizeB P elem with
        | some s => (fillL (fun i => some (i * s, s)) z.cells.toList parts).map fun cs => .agg cs.toArray
        | none => none
      | _ => none
      else none
    | none => none
  | none => none

def abuildSlice (P : Program) (H : Heap) (t : TypeId) (len : Nat) (parts : List (Nat × Value)) : Option (Value × Heap × Nat) :=
  match P.underlying t with
  | some (.slice elem) =>
    match P.info? elem with
    | some info => match info.zero with
      | some z =>
        if 0 < info.size ∧ z.cells.size = info.size ∧ z.cells.toList.all scalar = true ∧ len * info.size ≤ 16777216 then
          match fillL (fun i => some (i * info.size, info.size)) (zeros z.cells (len * info.size)) parts with
          | some cs => some (.slice (some ⟨H.n, 0, none⟩) len 0, anew H cs elem 2, H.n)
          | none => none
        else none
      | none => none
    | none => none
  | _ => none

def bytesOfCells : List Value → ByteArray → Option ByteArray
  | [], acc => some acc
  | .int .u8 n :: r, acc => bytesOfCells r (acc.push (UInt8.ofNat n.toNat))
  | _ :: _, _ => none

def isU8 (P : Program) (e : TypeId) : Bool :=
  match P.underlying e with
  | some (.int .u8) => true
  | _ => false

def aconvert (P : Program) (H : Heap) (src dst : TypeId) : Value → Option Value
  | .slice none 0 0 => match P.underlying src, P.underlying dst with
    | some (.slice e), some .string => if isU8 P e = true then some (.string .empty) else none
    | _, _ => none
  | .slice (some ⟨b, i, none⟩) n _ => match P.underlying src, P.underlying dst with
    | some (.slice e), some .string =>
      if isU8 P e = true then
        match H.get b with
        | some (.cells cs _ _) => if i + n ≤ cs.length then (bytesOfCells ((cs.drop i).take n) .empty).map .string else none
        | _ => none
      else none
    | _, _ => none
  | _ => none

end Go.AI

/- An abstract machine for the model's code: one operation, a region, code, a call. -/
namespace Go.AI

abbrev Res := Value × Heap × Nat

def findA (kind : TypeDesc) (k : Value) : List (Value × Value) → Nat → Option (Option (Nat × Value))
  | [], _ => some none
  | e :: es, i =>
    match Instr.sameNow kind k e.1 with
    | some true => some (some (i, e.2))
    | some false => findA kind k es (i + 1)
    | none => none

def amap (H : Heap) : Value → Option (List (Value × Value))
  | .map none => some []
  | .map (some r) => match H.get r with
    | some (.map es) => some es
    | _ => none
  | _ => none

def alookup (P : Program) (H : Heap) (t : TypeId) (x k : Value) (ok : Bool) : Option Value :=
  match P.underlying t, amap H x with
  | some (.map kt et), some es =>
    match P.underlying kt, (P.info? et).bind (·.zero) with
    | some kd, some z =>
      if plain k = true ∧ plain z = true ∧ notTuple z = true ∧ (pureRun P (Instr.checkKey es.isEmpty 10000 kt k)).isSome = true then
        match findA kd k es 0 with
        | some (some (_, v)) => some (if ok then .tuple #[v, .bool true] else v)
        | some none => some (if ok then .tuple #[z, .bool false] else z)
        | none => none
      else none
    | _, _ => none
  | _, _ => none

def amapUpdate (P : Program) (H : Heap) (t : TypeId) (x k v : Value) : Option (Heap × Nat) :=
  match P.underlying t, x with
  | some (.map kt _), .map (some r) =>
    match H.get r, P.underlying kt with
    | some (.map es), some kd =>
      if plain k = true ∧ notTuple v = true ∧ (pureRun P (Instr.checkKey false 10000 kt k)).isSome = true then
        match findA kd k es 0 with
        | some (some (i, _)) => some (H.set r (.map (es.set i (k, v))), r)
        | some none => some (H.set r (.map (es ++ [(k, v)])), r)
        | none => none
      else none
    | _, _ => none
  | _, _ => none

def evs (P : Program) (tm : Tm) : List Operand → Option (List Value)
  | [] => some []
  | x :: r => match ev P tm x, evs P tm r with
    | some v, some l => some (v :: l)
    | _, _ => none

def cellLike : Value → Bool
  | .agg _ | .tuple _ => false
  | _ => true

/-- An operation whose operands name no memory, and which touches none. -/
def apure (P : Program) (tm : Tm) (o : Oper) : Option Value :=
  if o.op.operands.toList.all (fun x => match ev P tm x with | some v => plain v | none => false) = true then
    match o.op with
    | .select _ _ => none
    | _ => match pureRun P (execOp (evT tm) o) with
      | some (.value v) => if plain v = true then some v else none
      | _ => none
  else none

def optEv (P : Program) (tm : Tm) : Option Operand → Option (Option Value)
  | none => none
  | some x => some (ev P tm x)

def nilOk : Value → Option Value
  | .pointer (some a) => some (.pointer (some a))
  | .func (.func f) x y => some (.func (.func f) x y)
  | .func (.yield l) x y => some (.func (.yield l) x y)
  | _ => none

/-- The commonest operations on two integers, outright. -/
def abin (op : BinOp) (x y : Value) : Option Value :=
  match x, y with
  | .int k a, .int j b => if k = j then
      match op with
      | .add => some (.int k (k.wrap (a + b)))
      | .sub => some (.int k (k.wrap (a - b)))
      | .mul => some (.int k (k.wrap (a * b)))
      | .eql => some (.bool (a == b))
      | .neq => some (.bool (a != b))
      | .lss => some (.bool (decide (a < b)))
      | .leq => some (.bool (decide (a ≤ b)))
      | .gtr => some (.bool (decide (a > b)))
      | .geq => some (.bool (decide (a ≥ b)))
      | _ => none
    else none
  | _, _ => none

/-- What is not nil, held against nil. -/
def anil (P : Program) (t : TypeId) (op : BinOp) (x y : Value) : Option Value :=
  match x, y with
  | .slice (some _) _ _, .slice none 0 0 => match P.underlying t, op with
    | some (.slice _), .eql => some (.bool false)
    | some (.slice _), .neq => some (.bool true)
    | _, _ => none
  | .pointer (some _), .pointer none => match P.underlying t, op with
    | some (.pointer _), .eql => some (.bool false)
    | some (.pointer _), .neq => some (.bool true)
    | _, _ => none
  | .map (some _), .map none => match P.underlying t, op with
    | some (.map _ _), .eql => some (.bool false)
    | some (.map _ _), .neq => some (.bool true)
    | _, _ => none
  | _, _ => none

def ret (H : Heap) : Option Value → Option Res
  | some v => some (v, H, H.n)
  | none => none

def sBin (P : Program) (tm : Tm) (H : Heap) (o : Oper) (op : BinOp) (t : TypeId) (x y : Operand) : Option Res :=
  match ev P tm x, ev P tm y with
  | some a, some b => match abin op a b with
    | some v => some (v, H, H.n)
    | none => match anil P t op a b with
      | some v => some (v, H, H.n)
      | none => ret H (apure P tm o)
  | _, _ => none

def sPick (P : Program) (tm : Tm) (H : Heap) (c a b : Operand) : Option Res :=
  match ev P tm c with
  | some (.bool true) => ret H (ev P tm a)
  | some (.bool false) => ret H (ev P tm b)
  | _ => none

def sAlloc (P : Program) (H : Heap) (t : TypeId) : Option Res :=
  match (P.info? t).bind (·.zero) with
  | some z => if z.cells.toList.all scalar = true then some (.pointer (some ⟨H.n, 0, none⟩), anew H z.cells.toList t 1, H.n) else none
  | none => none

def sBox (P : Program) (tm : Tm) (H : Heap) (t : TypeId) (x : Operand) : Option Res :=
  match ev P tm x with
  | some v => if notTuple v = true then some (.pointer (some ⟨H.n, 0, none⟩), anew H v.cells.toList t 1, H.n) else none
  | none => none

def sLoad (P : Program) (tm : Tm) (H : Heap) (t : TypeId) (x : Operand) : Option Res :=
  match ev P tm x with
  | some v => ret H (aload P t H v)
  | none => none

def sStore (P : Program) (tm : Tm) (H : Heap) (t : TypeId) (x y : Operand) : Option Res :=
  match ev P tm x, ev P tm y with
  | some a, some v => match astore P t H v a with
    | some (H', lo) => some (undef, H', lo)
    | none => none
  | _, _ => none

def sNil (P : Program) (tm : Tm) (H : Heap) (x : Operand) : Option Res :=
  match ev P tm x with
  | some v => ret H (nilOk v)
  | none => none

def sFunc (P : Program) (tm : Tm) (H : Heap) (fn : Fn) (first cap : Array Operand) : Option Res :=
  match fn with
  | .func f => if first.size = 0 then
      match evs P tm cap.toList with
      | some l => if l.all cellLike = true then some (.func (.func f) #[] l.toArray, H, H.n) else none
      | none => none
    else none
  | _ => none

def sMakeMap (H : Heap) : Option Operand → Option Res
  | none => some (.map (some H.n), H.new (.map []), H.n)
  | some _ => none

def sMakeSlice (P : Program) (tm : Tm) (H : Heap) (t : TypeId) (l c : Operand) : Option Res :=
  match ev P tm l, ev P tm c with
  | some l, some c => amakeSlice P H t l c
  | _, _ => none

def sSlice (P : Program) (tm : Tm) (H : Heap) (t : TypeId) (x : Operand) (lo hi : Option Operand) : Option Operand → Option Res
  | none => match ev P tm x with
    | some v => ret H (aslice P t v (optEv P tm lo) (optEv P tm hi))
    | none => none
  | some _ => none

def sFieldAddr (P : Program) (tm : Tm) (H : Heap) (s : TypeId) (x : Operand) (f : Nat) : Option Res :=
  match ev P tm x with
  | some v => ret H (afieldAddr P s v f)
  | none => none

def sIndexAddr (P : Program) (tm : Tm) (H : Heap) (t : TypeId) (x i : Operand) : Option Res :=
  match ev P tm x, ev P tm i with
  | some v, some i => ret H (aindexAddr P t v i)
  | _, _ => none

def sField (P : Program) (tm : Tm) (H : Heap) (t : TypeId) (x : Operand) (f : Nat) : Option Res :=
  match ev P tm x with
  | some v => ret H (afield P t v f)
  | none => none

def sIndex (P : Program) (tm : Tm) (H : Heap) (t : TypeId) (x i : Operand) : Option Res :=
  match ev P tm x, ev P tm i with
  | some v, some i => ret H (aindex P t v i)
  | _, _ => none

def sExtract (P : Program) (tm : Tm) (H : Heap) (x : Operand) (i : Nat) : Option Res :=
  match ev P tm x with
  | some (.tuple vs) => ret H vs.toList[i]?
  | _ => none

def sBuild (P : Program) (tm : Tm) (H : Heap) (t : TypeId) (parts : Array (Nat × Operand)) : Option Res :=
  match evParts P tm parts.toList with
  | some l => ret H (abuild P t l)
  | none => none

def sBuildSlice (P : Program) (tm : Tm) (H : Heap) (t : TypeId) (len : Nat) (parts : Array (Nat × Operand)) : Option Res :=
  match evParts P tm parts.toList with
  | some l => abuildSlice P H t len l
  | none => none

def sLookup (P : Program) (tm : Tm) (H : Heap) (t : TypeId) (x k : Operand) (ok : Bool) : Option Res :=
  match ev P tm x, ev P tm k with
  | some x, some k => ret H (alookup P H t x k ok)
  | _, _ => none

def sMapUpdate (P : Program) (tm : Tm) (H : Heap) (t : TypeId) (m k x : Operand) : Option Res :=
  match ev P tm m, ev P tm k, ev P tm x with
  | some m, some k, some x => match amapUpdate P H t m k x with
    | some (H', lo) => some (undef, H', lo)
    | none => none
  | _, _, _ => none

def sConvert (P : Program) (tm : Tm) (H : Heap) (o : Oper) (s d : TypeId) (x : Operand) : Option Res :=
  match ev P tm x with
  | some v => if plain v = true then ret H (apure P tm o) else ret H (aconvert P H s d v)
  | none => none

def sLen (P : Program) (tm : Tm) (H : Heap) (xs : Array Operand) (ts : Array TypeId) : Option Res :=
  match xs.toList, ts.toList with
  | [x], [t] => match ev P tm x with
    | some v => ret H (alen P H t v)
    | none => none
  | _, _ => none

def sAppend (P : Program) (tm : Tm) (H : Heap) (xs : Array Operand) (ts : Array TypeId) : Option Res :=
  match xs.toList with
  | [x, y] => match ev P tm x, ev P tm y with
    | some x, some y => aappend P H ts x y
    | _, _ => none
  | _ => none

def sBuiltin (P : Program) (tm : Tm) (H : Heap) (o : Oper) (b : Builtin) (xs : Array Operand) (ts : Array TypeId) : Option Res :=
  match b with
  | .len => sLen P tm H xs ts
  | .append => sAppend P tm H xs ts
  | _ => ret H (apure P tm o)

/-- Two functions that have no body: how often a byte comes in a string, and where it comes first. -/
def extKind (fn : Func) : Nat := if fn.origin = "" ∧ fn.name = "internal/bytealg.CountString" then 1 else if fn.origin = "" ∧ fn.name = "internal/bytealg.IndexByteString" then 2 else 0
def extVal : Nat → List Value → Option Value
  | 1, [.string s, .int .u8 c] => some (.int .i64 (Go.Lib.countByte s.data.toList c.toNat.toUInt8 : Nat))
  | 2, [.string s, .int .u8 c] => some (.int .i64 (Go.Lib.indexByte s.data.toList c.toNat.toUInt8))
  | _, _ => none
def extOf (P : Program) (tm : Tm) (g : Operand) (xs : Array Operand) : Option Value :=
  match ev P tm g with
  | some (.func (.func f) first cap) =>
    if first.size = 0 ∧ cap.size = 0 then
      match P.funcs[f]? with
      | some fn => if fn.body.isNone = true then
          match evs P tm xs.toList with
          | some l => extVal (extKind fn) l
          | none => none
        else none
      | none => none
    else none
  | _ => none
def sCall (P : Program) (tm : Tm) (H : Heap) (o : Oper) (c : Call) : Option Res :=
  match c.callee with
  | .builtin b => sBuiltin P tm H o b c.args c.argTypes
  | .value g => ret H (extOf P tm g c.args)
  | _ => ret H (apure P tm o)

/-- One operation that calls no function. -/
def step1 (P : Program) (tm : Tm) (H : Heap) (o : Oper) : Option Res :=
  match o.op with
  | .move x => ret H (ev P tm x)
  | .assign x => ret H (ev P tm x)
  | .pick c a b => sPick P tm H c a b
  | .alloc t => sAlloc P H t
  | .box t x => sBox P tm H t x
  | .load t x => sLoad P tm H t x
  | .store t x y => sStore P tm H t x y
  | .nilCheck x => sNil P tm H x
  | .makeFunc fn first cap => sFunc P tm H fn first cap
  | .makeMap _ r => sMakeMap H r
  | .makeSlice t l c => sMakeSlice P tm H t l c
  | .slice t x lo hi mx => sSlice P tm H t x lo hi mx
  | .fieldAddr s x f => sFieldAddr P tm H s x f
  | .indexAddr t x i => sIndexAddr P tm H t x i
  | .field t x f => sField P tm H t x f
  | .index t x i => sIndex P tm H t x i
  | .extract x i => sExtract P tm H x i
  | .build t parts => sBuild P tm H t parts
  | .buildSlice t len parts => sBuildSlice P tm H t len parts
  | .lookup t x k ok => sLookup P tm H t x k ok
  | .mapUpdate t m k x => sMapUpdate P tm H t m k x
  | .insert t m k x => sMapUpdate P tm H t m k x
  | .convert s d x => sConvert P tm H o s d x
  | .call c => sCall P tm H o c
  | .binOp op t x y _ => sBin P tm H o op t x y
  | .unOp _ _ _ => ret H (apure P tm o)
  | _ => none

/-- What can be called: a function, or the next round of a loop. -/
inductive Cal where
  | fn (f : FuncId)
  | rnd (l : Nat)

/-- The function that an operation calls, and its arguments. -/
def calleeOf (P : Program) (tm : Tm) (g : Operand) (xs : Array Operand) : Option (FuncId × List Value) :=
  match ev P tm g with
  | some (.func (.func f) first cap) =>
    if first.size = 0 then
      match P.funcs[f]? with
      | some fn =>
        if fn.body.isSome = true ∧ fn.name ≠ "runtime.NumGoroutine" then
          match evs P tm xs.toList with
          | some l => some (f, l ++ cap.toList)
          | none => none
        else none
      | none => none
    else none
  | _ => none

/-- The loop of which an operation asks for the next round, and what it hands over. -/
def rndOf (P : Program) (tm : Tm) (g : Operand) (xs : Array Operand) : Option (Nat × List Value) :=
  match ev P tm g with
  | some (.func (.yield l) first cap) =>
    if first.size = 0 ∧ cap.size = 0 then
      match evs P tm xs.toList with
      | some vs => some (l, vs)
      | none => none
    else none
  | _ => none
def calOf (P : Program) (tm : Tm) (g : Operand) (xs : Array Operand) : Option (Cal × List Value) :=
  match calleeOf P tm g xs with
  | some (f, l) => some (.fn f, l)
  | none => match rndOf P tm g xs with
    | some (b, l) => some (.rnd b, l)
    | none => none
def callOf (P : Program) (tm : Tm) (o : Oper) : Option (Cal × List Value) :=
  match o.op with
  | .call c => match c.callee with
    | .value g => calOf P tm g c.args
    | _ => none
  | _ => none

abbrev CallF := Cal → List Value → Heap → Option Res

def step (P : Program) (cf : CallF) (tm : Tm) (H : Heap) (o : Oper) : Option Res :=
  match callOf P tm o with
  | some (f, l) => cf f l H
  | none => step1 P tm H o

def yieldedL (ops : List Oper) (tm : Tm) (j : Nat) : Option Bool :=
  match ops[j]? with
  | some o => match o.dst with
    | some d => match Tm.at tm d with
      | .bool b => some b
      | _ => none
    | none => none
  | none => none

def wantedL (ops : List Oper) (tm : Tm) (o : Oper) : Bool :=
  match o.guard with
  | none => true
  | some (j, want) => yieldedL ops tm j == some want

def putL (tm : Tm) (d : Option Tmp) (v : Value) : Tm :=
  match d with
  | some d => Tr.set tm d v
  | none => tm

def opsL (P : Program) (cf : CallF) (ops : List Oper) : List Oper → St → Option St
  | [], st => some st
  | o :: rest, st =>
    if wantedL ops st.tmps o = true then
      match step P cf st.tmps st.heap o with
      | some (v, H, lo) => opsL P cf ops rest ⟨putL st.tmps o.dst v, H, min st.lo lo⟩
      | none => none
    else opsL P cf ops rest { st with tmps := putL st.tmps o.dst undef }

/-- An operation that writes nothing and makes no memory (a call: if it is seen to). -/
def quietOp (o : Oper) : Bool :=
  match o.op with
  | .move _ | .assign _ | .pick .. | .load .. | .nilCheck _ | .binOp .. | .unOp .. | .slice .. | .fieldAddr .. | .field .. | .indexAddr .. | .index .. | .lookup .. | .extract .. | .build .. | .convert .. => true
  | .call { callee := .builtin .append, .. } => false
  | .call { callee := .builtin .copy, .. } => false
  | .call { callee := .builtin .delete, .. } => false
  | .call { callee := .value _, .. } => !Nat.beq o.type 0
  | .call _ => true
  | _ => false

/-- The head of a region that draws its order: what it yields names no memory if it is called, and nothing is written. -/
def headL (P : Program) (cf : CallF) (ops : List Oper) : List Oper → St → Option St
  | [], st => some st
  | o :: rest, st =>
    if wantedL ops st.tmps o = true then
      match callOf P st.tmps o with
      | some (f, l) => match cf f l st.heap with
        | some (v, _, lo) => if plain v = true ∧ st.heap.n ≤ lo then headL P cf ops rest { st with tmps := putL st.tmps o.dst v } else none
        | none => none
      | none => match step1 P st.tmps st.heap o with
        | some (v, _, _) => headL P cf ops rest { st with tmps := putL st.tmps o.dst v }
        | none => none
    else headL P cf ops rest { st with tmps := putL st.tmps o.dst undef }

def headLen (ops : List Oper) : Nat := (ops.takeWhile quietOp).length

/-- p operations in a forced order from k on, then the rest in whatever order their edges allow. -/
def midF (md : Region.Mode) (ops : Array Oper) : Nat → Nat → Array Bool → Bool
  | 0, k, listed => Region.lexFrom md ops (ops.size - k) k listed
  | p + 1, k, listed => decide (Region.ready md ops listed = [k]) && midF md ops p (k + 1) (listed.setIfInBounds k true)
def midHead (md : Region.Mode) (ops : Array Oper) (p : Nat) : Nat → Nat → Array Bool → Bool
  | 0, k, listed => midF md ops p k listed
  | f + 1, k, listed => (Region.ready md ops listed).contains k && Region.free md ops listed k && midHead md ops p f (k + 1) (listed.setIfInBounds k true)
/-- Each operation behind n waits for one from n on. -/
def chainQ (md : Region.Mode) (ops : Array Oper) (n : Nat) : Bool :=
  (List.range ops.size).all fun t => decide (t ≤ n) || (List.range t).any fun s => decide (n ≤ s) && Region.waitsFor md ops t s
def midB (md : Region.Mode) (ops : Array Oper) (m p : Nat) : Bool :=
  Region.noSelect ops && decide (m + (p + 1) ≤ ops.size) && Region.sinkB md ops m && chainQ md ops m && midHead md ops (p + 1) m 0 (Array.replicate ops.size false)

def isMove (o : Oper) : Bool :=
  match o.op, o.guard with
  | .move _, none => true
  | _, _ => false
def lateLen (ops : List Oper) : Nat := (ops.takeWhile isMove).length
/-- Each operation from p on, before m, has one that waits for it, up to m. -/
def sinkP (md : Region.Mode) (ops : Array Oper) (p m : Nat) : Bool :=
  (List.range m).all fun i => decide (i < p) || (List.range (m + 1)).any fun j => decide (i < j) && Region.waitsFor md ops j i
def lateHead (md : Region.Mode) (ops : Array Oper) (m : Nat) : Nat → Nat → Array Bool → Bool
  | 0, k, listed => Region.lexHead md ops (ops.size - m) (m - k) k listed
  | f + 1, k, listed => (Region.ready md ops listed).contains k && Region.free md ops listed k && lateHead md ops m f (k + 1) (listed.setIfInBounds k true)
/-- A region that begins with copies of slots, which may be made at any time. -/
def lateB (md : Region.Mode) (ops : Array Oper) (p m : Nat) : Bool :=
  Region.noSelect ops && decide (m < ops.size) && decide (p ≤ m) && sinkP md ops p m && Region.chainB md ops m && (ops.toList.take p).all isMove && lateHead md ops m p 0 (Array.replicate ops.size false)

def isCallB (o : Oper) : Bool :=
  match o.op with
  | .call { callee := .value _, .. } => !Nat.beq o.type 0
  | _ => false
def isData : Ground → Bool
  | .data => true
  | _ => false
def dataOn (k : Nat) (o : Oper) : Bool := o.after.toList.any fun e => Nat.beq e.on k && isData e.ground
def dataFrom (c : Nat) (o : Oper) : Bool := o.after.toList.any fun e => Nat.ble c e.on && isData e.ground
def feedsB (ops : List Oper) (c : Nat) : Bool := (List.range c).all fun k => ((ops.take (c + 1)).drop (k + 1)).any (dataOn k)
def callLen (ops : List Oper) : Nat := (ops.takeWhile fun o => quietOp o && !isCallB o).length
/-- A region whose operations all lead to one call, and from there on: it goes in three parts. -/
def midOk (ops : List Oper) (c : Nat) : Bool :=
  Nat.blt 0 c && (match ops[c]? with | some o => isCallB o | none => false) && feedsB ops c && (ops.drop (c + 1)).all fun o => quietOp o && dataFrom c o
def splitM (ops : List Oper) : Nat := bif midOk ops (callLen ops) then callLen ops else headLen ops
def splitQ (ops : List Oper) : Nat := bif midOk ops (callLen ops) then 1 else ops.length - headLen ops

def notDefer (o : Oper) : Bool :=
  match o.op with
  | .defer _ => false
  | _ => true

def drawOk (ops : Array Oper) : Bool :=
  ops.toList.all notDefer && (bif midOk ops.toList (callLen ops.toList) then midB .any ops (callLen ops.toList) 0 else if headLen ops.toList = ops.size then Region.lexB .any ops else (Region.lexTailB .any ops (headLen ops.toList) || lateB .any ops (lateLen ops.toList) (headLen ops.toList)))

def dstOk (n : Nat) (o : Oper) : Bool :=
  match o.dst with
  | some d => decide (d < n)
  | none => true

def putArgs : List Value → Nat → Tm → Tm
  | [], _, t => t
  | v :: r, i, t => putArgs r (i + 1) (Tr.set t i v)

/-- A quiet operation that is no call. -/
def quietN (o : Oper) : Bool := quietOp o && !isCallB o
/-- Two calls or more. -/
def wideSel (ops : List Oper) : Bool := Nat.blt 1 (ops.filter isCallB).length
def lateFl : List Oper → List Bool → List Bool
  | [], acc => acc
  | o :: r, acc => lateFl r (acc ++ [!quietN o || o.after.toList.any fun e => (acc[e.on]?).getD false])
def flAt (fl : List Bool) (b : Bool) : List Nat := (List.range fl.length).filter fun i => (fl[i]?).getD (!b) == b
/-- What waits for no call comes first. -/
def wideI (ops : List Oper) : List Nat := flAt (lateFl ops []) false ++ flAt (lateFl ops []) true
def pickOps (ops : List Oper) : List Nat → List Oper
  | [] => []
  | i :: is => match ops[i]? with
    | some o => o :: pickOps ops is
    | none => []
def quietI (ops : Array Oper) (i : Nat) : Bool :=
  match ops[i]? with
  | some o => quietN o
  | none => false
def wideC (md : Region.Mode) (ops : Array Oper) : List Nat → Array Bool → Bool
  | [], listed => decide (Region.ready md ops listed = [])
  | i :: is, listed => (decide (Region.ready md ops listed = [i]) || (quietI ops i && (Region.ready md ops listed).contains i && Region.free md ops listed i)) && wideC md ops is (listed.setIfInBounds i true)
def wideB (md : Region.Mode) (ops : Array Oper) : Bool :=
  ops.toList.all notDefer && Region.noSelect ops && decide ((wideI ops.toList).length = ops.size) && wideC md ops (wideI ops.toList) (Array.replicate ops.size false)
/-- Operations of which none writes what was there before it. -/
def opsG (P : Program) (cf : CallF) (ops : List Oper) : List Oper → St → Option St
  | [], st => some st
  | o :: rest, st =>
    if wantedL ops st.tmps o = true then
      match step P cf st.tmps st.heap o with
      | some (v, H, lo) => if st.heap.n ≤ lo then opsG P cf ops rest ⟨putL st.tmps o.dst v, H, min st.lo st.heap.n⟩ else none
      | none => none
    else opsG P cf ops rest { st with tmps := putL st.tmps o.dst undef }

/-- A region that draws its order: a quiet head, a middle in the text's order, a quiet rest. -/
def drawL (P : Program) (cf : CallF) (ops : List Oper) (st : St) : Option St :=
  match headL P cf ops (ops.take (splitM ops)) st with
  | some st1 => match opsL P cf ops ((ops.drop (splitM ops)).take (splitQ ops)) st1 with
    | some st2 => headL P cf ops (ops.drop (splitM ops + splitQ ops)) st2
    | none => none
  | none => none

/-- The code's slots are among n, and each region that draws its order is of one of two forms. -/
def codeOk (n : Nat) : Code → Bool
  | .region _ ops draw => ops.toList.all (dstOk n) && (!draw || bif wideSel ops.toList then wideB .any ops else drawOk ops)
  | .seq a b => codeOk n a && codeOk n b
  | .cond _ a b => codeOk n a && codeOk n b
  | .block _ b => codeOk n b
  | .loop b => codeOk n b
  | .scope b => codeOk n b
  | .rangeFunc _ ps a b => ps.toList.all (fun p => decide (p < n)) && codeOk n a && codeOk n b
  | .skip | .exit _ | .label _ | .ret => true
  | _ => false

def drawX (P : Program) (cf : CallF) (ops : List Oper) (st : St) : Option St :=
  bif wideSel ops then opsG P cf ops (pickOps ops (wideI ops)) st else drawL P cf ops st

/-- The jump that a round has left behind. -/
def jumpOf : Option Code → Option Exit
  | none => some .normal
  | some .ret => some .ret
  | some (.exit id) => some (.exit id)
  | _ => none
def pendOf : Exit → Option (Option Code)
  | .normal => some none
  | .ret => some (some .ret)
  | .exit id => some (some (.exit id))
  | _ => none
def putPs : List (Tmp × Value) → Tm → Tm
  | [], t => t
  | (p, v) :: r, t => putPs r (Tr.set t p v)
def notBusy : LoopState → Bool
  | .busy => false
  | _ => true
/-- Behind the one call of a range over a function. -/
def loopEnd (l : Nat) (tm : Tm) (lo : Nat) (H : Heap) : Option (Exit × St) :=
  match H.get l with
  | some (.loop s pend tm' ps a b) => if notBusy s = true then
      match jumpOf pend with
      | some e => some (e, ⟨tm, H.set l (.loop .exhausted pend tm' ps a b), lo⟩)
      | none => none
    else none
  | _ => none

def exec (P : Program) (cf : CallF) : Nat → Code → St → Option (Exit × St)
  | 0, _, _ => none
  | n + 1, c, st =>
    match c with
    | .skip => some (.normal, st)
    | .label _ => some (.normal, st)
    | .exit id => some (.exit id, st)
    | .ret => some (.ret, st)
    | .region _ ops draw =>
      match (if draw then drawX P cf ops.toList st else opsL P cf ops.toList ops.toList st) with
      | some st' => some (.normal, st')
      | none => none
    | .seq a b => match exec P cf n a st with
      | some (.normal, st') => exec P cf n b st'
      | r => r
    | .cond x a b => match ev P st.tmps x with
      | some (.bool true) => exec P cf n a st
      | some (.bool false) => exec P cf n b st
      | _ => none
    | .block id b => match exec P cf n b st with
      | some (.exit j, st') => if j = id then some (.normal, st') else some (.exit j, st')
      | r => r
    | .loop b => match exec P cf n b st with
      | some (.normal, st') => exec P cf n (.loop b) st'
      | r => r
    | .scope b => match exec P cf n b st with
      | some (.goto _, _) => none
      | r => r
    | .rangeFunc g ps a b => match calleeOf P st.tmps g #[] with
      | some (f, cap) => match cf (.fn f) (.func (.yield st.heap.n) #[] #[] :: cap) (st.heap.new (.loop .ready none st.tmps ps a b)) with
        | some (_, H, lo) => loopEnd st.heap.n st.tmps (min (min st.lo st.heap.n) lo) H
        | none => none
      | none => none
    | _ => none

/-- A round of a loop: its assignments, its body, and what it notes. -/
def round (P : Program) (cf : CallF) (n : Nat) (l : Nat) (args : List Value) (H : Heap) : Option Res :=
  match H.get l with
  | some (.loop .ready pend tm ps a b) =>
    if args.length = ps.size then
      match exec P cf n a ⟨putPs (ps.toList.zip args) tm, H, H.n⟩ with
      | some (.normal, st) => match st.heap.get l with
        | some (.loop .ready pend' tm' ps' a' b') => match exec P cf n b ⟨st.tmps, st.heap.set l (.loop .busy pend' tm' ps' a' b'), min st.lo l⟩ with
          | some (e, st2) => match st2.heap.get l, pendOf e with
            | some (.loop _ _ tm2 ps2 a2 b2), some j => some (.bool j.isNone, st2.heap.set l (.loop (bif j.isNone then .ready else .done) j tm2 ps2 a2 b2), min st2.lo l)
            | _, _ => none
          | none => none
        | _ => none
      | _ => none
    else none
  | _ => none

def resOf (P : Program) (tm : Tm) (H : Heap) : ResultVar → Option Value
  | .tmp t => some (Tm.at tm t)
  | .cell a t => match Tm.at tm a with
    | .pointer (some ad) => aload P t H (.pointer (some ad))
    | _ => none

def ressOf (P : Program) (tm : Tm) (H : Heap) : List ResultVar → Option (List Value)
  | [] => some []
  | x :: r => match resOf P tm H x, ressOf P tm H r with
    | some v, some l => some (v :: l)
    | _, _ => none

def tupled : List Value → Value
  | [v] => v
  | l => .tuple l.toArray

def ended : Exit → Bool
  | .normal | .ret => true
  | _ => false

def extsB (P : Program) : List (Nat × Nat) → Bool
  | [] => true
  | (f, k) :: l => (match P.funcs[f]? with | some fn => fn.body.isNone && Nat.beq (extKind fn) k | none => false) && extsB P l
def assoc : List (Nat × Nat) → Nat → Nat
  | [], _ => 0
  | (f, k) :: l, g => bif Nat.beq f g then k else assoc l g
/-- Answers that are known beforehand: of functions without arguments, where the memory has what they read; and the kinds of functions that have no body. -/
class Oracle (P : Program) where
  val : FuncId → Option Value
  base : Heap → Prop
  exts : List (Nat × Nat)
  extsOk : extsB P exts = true
theorem exts_spec {P : Program} : ∀ {l : List (Nat × Nat)}, extsB P l = true → ∀ f, assoc l f ≠ 0 → ∃ fn, P.funcs[f]? = some fn ∧ fn.body.isNone = true ∧ extKind fn = assoc l f
  | [], _, f, h => absurd rfl h
  | (g, k) :: l, hb, f, h => by
    simp only [extsB, Bool.and_eq_true] at hb
    cases hg : Nat.beq g f with
    | true =>
      obtain rfl := Nat.eq_of_beq_eq_true hg
      have e : assoc ((g, k) :: l) g = k := by simp only [assoc, hg, cond_true]
      rw [e]
      have h1 := hb.1
      split at h1
      · rename_i fn hf
        simp only [Bool.and_eq_true] at h1
        exact ⟨fn, hf, h1.1, Nat.eq_of_beq_eq_true h1.2⟩
      · cases h1
    | false =>
      have e : assoc ((g, k) :: l) f = assoc l f := by simp only [assoc, hg, cond_false]
      rw [e] at h ⊢
      exact exts_spec hb.2 f h

open Classical in
noncomputable def oracle (P : Program) [Oracle P] (f : FuncId) (l : List Value) (H : Heap) : Option Res :=
  match Oracle.val P f with
  | none => none
  | some v => match l with
    | [] => if Oracle.base P H then some (v, H, H.n) else none
    | _ => none

noncomputable def call (P : Program) [Oracle P] : Nat → CallF
  | 0, _, _, _ => none
  | n + 1, .rnd b, args, H => round P (call P n) n b args H
  | n + 1, .fn f, args, H =>
    match oracle P f args H with
    | some r => some r
    | none =>
    match P.funcs[f]? with
    | some fn => match fn.body with
      | some c =>
        if codeOk fn.ntmps c = true ∧ args.length ≤ fn.ntmps then
          match exec P (call P n) n c ⟨putArgs args 0 .leaf, H, H.n⟩ with
          | some (e, st) => if ended e = true then
              match ressOf P st.tmps st.heap fn.results.toList with
              | some l => if l.all notTuple = true then some (tupled l, st.heap, st.lo) else none
              | none => none
            else none
          | none => none
        else none
      | none => none
    | none => none

/-- No answers beforehand. -/
@[instance_reducible] def Oracle.none (P : Program) : Oracle P := ⟨fun _ => .none, fun _ => False, [], rfl⟩

end Go.AI

/- The abstract machine and the model: what relates them. -/
namespace Go.AI

/-! ### Trees -/
theorem nbf {a b : Nat} (h : a ≠ b) : Nat.beq a b = false := by
  cases hb : Nat.beq a b with
  | false => rfl
  | true => exact absurd (Nat.eq_of_beq_eq_true hb) h
theorem nbt {a b : Nat} (h : a = b) : Nat.beq a b = true := by subst h; exact Nat.beq_refl _
section
variable {α : Type}
theorem setF_eq (v : α) : ∀ (f : Nat) (t : Tr α) (i : Nat), i + 1 < 2 ^ f → (Tr.setF v f t i).get i = some v
  | 0, _, i, h => by simp at h
  | f + 1, t, i, h => by
    have hp : 2 ^ (f + 1) = 2 * 2 ^ f := by rw [Nat.pow_succ]; omega
    have key : ∀ (l r : Tr α) (u : Option α), (bif Nat.beq i 0 then Tr.node l (some v) r else bif Nat.beq (i % 2) 1 then .node (Tr.setF v f l (i / 2)) u r else .node l u (Tr.setF v f r (i / 2 - 1))).get i = some v := by
      intro l r u
      by_cases h0 : i = 0
      · subst h0; simp [Tr.get]
      · have hb : Nat.beq i 0 = false := nbf h0
        by_cases h1 : i % 2 = 1
        · have hc : Nat.beq (i % 2) 1 = true := nbt h1
          simp only [hb, hc, cond_false, cond_true, Tr.get]
          exact setF_eq v f l _ (by omega)
        · have hc : Nat.beq (i % 2) 1 = false := nbf h1
          simp only [hb, hc, cond_false, Tr.get]
          exact setF_eq v f r _ (by omega)
    cases t with
    | leaf => simpa [Tr.setF] using key .leaf .leaf none
    | node l u r => simpa [Tr.setF] using key l r u
theorem setF_ne (v : α) : ∀ (f : Nat) (t : Tr α) (i j : Nat), i ≠ j → (Tr.setF v f t i).get j = t.get j
  | 0, _, _, _, _ => rfl
  | f + 1, t, i, j, h => by
    have key : ∀ (l r : Tr α) (u : Option α), (bif Nat.beq i 0 then Tr.node l (some v) r else bif Nat.beq (i % 2) 1 then .node (Tr.setF v f l (i / 2)) u r else .node l u (Tr.setF v f r (i / 2 - 1))).get j = (Tr.node l u r).get j := by
      intro l r u
      by_cases h0 : i = 0
      · subst h0
        have hb : Nat.beq j 0 = false := nbf (Ne.symm h)
        simp [Tr.get, hb]
      · have hb : Nat.beq i 0 = false := nbf h0
        by_cases h1 : i % 2 = 1
        · have hc : Nat.beq (i % 2) 1 = true := nbt h1
          simp only [hb, hc, cond_false, cond_true, Tr.get]
          by_cases j0 : j = 0
          · subst j0; simp
          · have jb : Nat.beq j 0 = false := nbf j0
            by_cases j1 : j % 2 = 1
            · have jc : Nat.beq (j % 2) 1 = true := nbt j1
              simp only [jb, jc, cond_false, cond_true]
              exact setF_ne v f l _ _ (by omega)
            · have jc : Nat.beq (j % 2) 1 = false := nbf j1
              simp only [jb, jc, cond_false]
        · have hc : Nat.beq (i % 2) 1 = false := nbf h1
          simp only [hb, hc, cond_false, Tr.get]
          by_cases j0 : j = 0
          · subst j0; simp
          · have jb : Nat.beq j 0 = false := nbf j0
            by_cases j1 : j % 2 = 1
            · have jc : Nat.beq (j % 2) 1 = true := nbt j1
              simp only [jb, jc, cond_false, cond_true]
            · have jc : Nat.beq (j % 2) 1 = false := nbf j1
              simp only [jb, jc, cond_false]
              exact setF_ne v f r _ _ (by omega)
    cases t with
    | leaf =>
      have := key .leaf .leaf none
      have e : (Tr.node Tr.leaf (none : Option α) Tr.leaf).get j = Tr.get .leaf j := by simp [Tr.get]
      rw [e] at this
      simpa [Tr.setF] using this
    | node l u r => simpa [Tr.setF] using key l r u
theorem Tr.get_set_eq (t : Tr α) (i : Nat) (v : α) : (t.set i v).get i = some v :=
  by unfold Tr.set; exact setF_eq v _ t i Nat.lt_log2_self
theorem Tr.get_set_ne (t : Tr α) {i j : Nat} (v : α) (h : i ≠ j) : (t.set i v).get j = t.get j := by
  unfold Tr.set; exact setF_ne v _ t i j h
end

theorem Heap.get_set_eq (H : Heap) (b : Nat) (o : AObj) : (H.set b o).get b = some o := Tr.get_set_eq _ _ _
theorem Heap.get_set_ne (H : Heap) {b c : Nat} (o : AObj) (h : b ≠ c) : (H.set b o).get c = H.get c := Tr.get_set_ne _ _ h
theorem Heap.get_new_eq (H : Heap) (o : AObj) : (H.new o).get H.n = some o := Tr.get_set_eq _ _ _
theorem Heap.get_new_ne (H : Heap) {c : Nat} (o : AObj) (h : c ≠ H.n) : (H.new o).get c = H.get c := Tr.get_set_ne _ _ (Ne.symm h)
@[simp] theorem Heap.n_set (H : Heap) (b : Nat) (o : AObj) : (H.set b o).n = H.n := rfl
@[simp] theorem Heap.n_new (H : Heap) (o : AObj) : (H.new o).n = H.n + 1 := rfl
theorem Tm.at_set_eq (t : Tm) (i : Nat) (v : Value) : Tm.at (Tr.set t i v) i = v := by simp [Tm.at, Tr.get_set_eq]
theorem Tm.at_set_ne (t : Tm) {i j : Nat} (v : Value) (h : i ≠ j) : Tm.at (Tr.set t i v) j = Tm.at t j := by simp [Tm.at, Tr.get_set_ne _ _ h]

/-! ### Lists, place by place -/
inductive L2 {α β : Type} (R : α → β → Prop) : List α → List β → Prop
  | nil : L2 R [] []
  | cons {x y xs ys} (h : R x y) (t : L2 R xs ys) : L2 R (x :: xs) (y :: ys)
section
variable {α β : Type} {R S : α → β → Prop}
theorem L2.length {xs : List α} {ys : List β} (h : L2 R xs ys) : xs.length = ys.length := by
  induction h with
  | nil => rfl
  | cons _ _ ih => simp [ih]
theorem L2.get {xs : List α} {ys : List β} (h : L2 R xs ys) : ∀ {i : Nat} {x : α}, xs[i]? = some x → ∃ y, ys[i]? = some y ∧ R x y := by
  induction h with
  | nil => intro i x hx; simp at hx
  | cons hr _ ih =>
    intro i x hx
    cases i with
    | zero => simp at hx; subst hx; exact ⟨_, rfl, hr⟩
    | succ i => simpa using ih (by simpa using hx)
theorem L2.of_get : ∀ {xs : List α} {ys : List β}, xs.length = ys.length → (∀ (i : Nat) (x : α) (y : β), xs[i]? = some x → ys[i]? = some y → R x y) → L2 R xs ys
  | [], [], _, _ => .nil
  | x :: xs, y :: ys, hl, h => .cons (h 0 x y rfl rfl) (of_get (by simpa using hl) fun i a b ha hb => h (i + 1) a b (by simpa using ha) (by simpa using hb))
  | [], _ :: _, hl, _ => by simp at hl
  | _ :: _, [], hl, _ => by simp at hl
theorem L2.both {xs : List α} {ys : List β} (h : L2 R xs ys) {i : Nat} {x : α} {y : β} (hx : xs[i]? = some x) (hy : ys[i]? = some y) : R x y := by
  obtain ⟨y', h1, h2⟩ := h.get hx
  rw [hy] at h1; cases h1; exact h2
theorem L2.mono {xs : List α} {ys : List β} (h : L2 R xs ys) (hs : ∀ x y, R x y → S x y) : L2 S xs ys := by
  induction h with
  | nil => exact .nil
  | cons hr _ ih => exact .cons (hs _ _ hr) ih
theorem L2.append {xs xs' : List α} {ys ys' : List β} (h : L2 R xs ys) (h' : L2 R xs' ys') : L2 R (xs ++ xs') (ys ++ ys') := by
  induction h with
  | nil => exact h'
  | cons hr _ ih => exact .cons hr ih
theorem L2.take {xs : List α} {ys : List β} (h : L2 R xs ys) : ∀ n, L2 R (xs.take n) (ys.take n) := by
  induction h with
  | nil => intro n; simp; exact .nil
  | cons hr _ ih => intro n; cases n with
    | zero => exact .nil
    | succ n => exact .cons hr (ih n)
theorem L2.drop {xs : List α} {ys : List β} (h : L2 R xs ys) : ∀ n, L2 R (xs.drop n) (ys.drop n) := by
  induction h with
  | nil => intro n; simp; exact .nil
  | cons hr t ih => intro n; cases n with
    | zero => exact .cons hr t
    | succ n => simpa using ih n
theorem L2.set {xs : List α} {ys : List β} (h : L2 R xs ys) {x : α} {y : β} (hr : R x y) : ∀ i, L2 R (xs.set i x) (ys.set i y) := by
  induction h with
  | nil => intro i; exact .nil
  | cons h0 t ih => intro i; cases i with
    | zero => exact .cons hr t
    | succ i => exact .cons h0 (ih i)
theorem L2.replicate {x : α} {y : β} (hr : R x y) : ∀ n, L2 R (List.replicate n x) (List.replicate n y)
  | 0 => .nil
  | n + 1 => .cons hr (replicate hr n)
theorem L2.flatten {R : α → β → Prop} {xss : List (List α)} {yss : List (List β)} (h : L2 (L2 R) xss yss) : L2 R xss.flatten yss.flatten := by
  induction h with
  | nil => exact .nil
  | cons h0 _ ih => simpa using h0.append ih
theorem L2.refl_of {R : α → α → Prop} : ∀ {xs : List α}, (∀ x ∈ xs, R x x) → L2 R xs xs
  | [], _ => .nil
  | x :: xs, h => .cons (h x (by simp)) (refl_of fun y hy => h y (by simp [hy]))
end
theorem L2.splice {R : Value → Value → Prop} : ∀ {vs vs' : List Value} {xs ys : List Value} (i : Nat), L2 R xs ys → L2 R vs vs' → L2 R (splice xs i vs) (splice ys i vs')
  | _, _, _, _, _, h, .nil => h
  | _, _, _, _, i, h, .cons hr t => L2.splice (i + 1) (h.set hr i) t
theorem splice_length : ∀ (vs cs : List Value) (i : Nat), (splice cs i vs).length = cs.length
  | [], _, _ => rfl
  | _ :: vs, cs, i => by rw [splice, splice_length vs]; simp

/-! ### Values -/
structure Ent where
  blk : Nat
  base : Nat
  cap : Nat

abbrev Ren := Nat → Option Ent

def Ren.le (ρ ρ' : Ren) : Prop := ∀ b e, ρ b = some e → ρ' b = some e
theorem Ren.le_refl (ρ : Ren) : Ren.le ρ ρ := fun _ _ h => h
theorem Ren.le_trans {a b c : Ren} (h : Ren.le a b) (h' : Ren.le b c) : Ren.le a c := fun x e hx => h' x e (h x e hx)

/-- One cell. -/
inductive VC (ρ : Ren) : Value → Value → Prop
  | same {v : Value} (h : scalar v = true) : VC ρ v v
  | ptr {b i : Nat} {e : Ent} (h : ρ b = some e) : VC ρ (.pointer (some ⟨b, i, none⟩)) (.pointer (some ⟨e.blk, e.base + i, none⟩))
  | sl {b i n c c' : Nat} {e : Ent} (h : ρ b = some e) (hn : n ≤ c') (h0 : c = 0 → i = 0 ∧ e.base = 0 ∧ c' = e.cap) : VC ρ (.slice (some ⟨b, i, none⟩) n c) (.slice (some ⟨e.blk, e.base + i, none⟩) n c')
  | anon {x y z : Nat} (a' : Addr) (c' : Nat) : VC ρ (.slice (some ⟨x, y, some z⟩) 0 0) (.slice (some a') 0 c')
  | map {b : Nat} {e : Ent} (h : ρ b = some e) : VC ρ (.map (some b)) (.map (some e.blk))
  | fn {f : FuncId} {cap cap' : Array Value} (hs : cap.size = cap'.size) (h : ∀ (i : Nat) (x y : Value), cap.toList[i]? = some x → cap'.toList[i]? = some y → VC ρ x y) : VC ρ (.func (.func f) #[] cap) (.func (.func f) #[] cap')
  | yld {l : Nat} {e : Ent} (h : ρ l = some e) : VC ρ (.func (.yield l) #[] #[]) (.func (.yield e.blk) #[] #[])
/-- One cell, or a row of them. -/
inductive VR (ρ : Ren) : Value → Value → Prop
  | cell {v v' : Value} (h : VC ρ v v') : VR ρ v v'
  | agg {cs cs' : Array Value} (h : L2 (VC ρ) cs.toList cs'.toList) : VR ρ (.agg cs) (.agg cs')
inductive VT (ρ : Ren) : Value → Value → Prop
  | one {v v' : Value} (h : VR ρ v v') : VT ρ v v'
  | tup {vs vs' : Array Value} (h : L2 (VR ρ) vs.toList vs'.toList) : VT ρ (.tuple vs) (.tuple vs')

theorem VC.mono {ρ ρ' : Ren} (hρ : Ren.le ρ ρ') {v v' : Value} (h : VC ρ v v') : VC ρ' v v' := by
  induction h with
  | same h => exact .same h
  | ptr h => exact .ptr (hρ _ _ h)
  | sl h hn h0 => exact .sl (hρ _ _ h) hn h0
  | anon a' c' => exact .anon a' c'
  | map h => exact .map (hρ _ _ h)
  | fn hs _ ih => exact .fn hs ih
  | yld h => exact .yld (hρ _ _ h)
theorem VR.mono {ρ ρ' : Ren} (hρ : Ren.le ρ ρ') {v v' : Value} (h : VR ρ v v') : VR ρ' v v' := by
  cases h with
  | cell h => exact .cell (h.mono hρ)
  | agg h => exact .agg (h.mono fun _ _ => VC.mono hρ)
theorem VT.mono {ρ ρ' : Ren} (hρ : Ren.le ρ ρ') {v v' : Value} (h : VT ρ v v') : VT ρ' v v' := by
  cases h with
  | one h => exact .one (h.mono hρ)
  | tup h => exact .tup (h.mono fun _ _ => VR.mono hρ)

theorem VC.scalar {ρ : Ren} {v v' : Value} (h : VC ρ v v') (hs : AI.scalar v = true) : v' = v := by
  cases h with
  | same _ => rfl
  | ptr _ => simp [AI.scalar] at hs
  | sl _ _ _ => simp [AI.scalar] at hs
  | anon _ _ => simp [AI.scalar] at hs
  | map _ => simp [AI.scalar] at hs
  | yld _ => simp [AI.scalar] at hs
  | fn h1 h2 =>
    rename_i f cap cap'
    simp only [AI.scalar, Bool.and_eq_true, beq_iff_eq] at hs
    have h0 : cap = #[] := Array.size_eq_zero_iff.1 hs.2
    have h3 : cap' = #[] := Array.size_eq_zero_iff.1 (by omega)
    rw [h0, h3]
theorem L2_eq {R : Value → Value → Prop} {xs ys : List Value} (h : L2 R xs ys) (he : ∀ x y, x ∈ xs → R x y → y = x) : ys = xs := by
  induction h with
  | nil => rfl
  | cons hr _ ih => rw [he _ _ (by simp) hr, ih fun x y hx => he x y (by simp [hx])]
theorem VR.flat {ρ : Ren} {v v' : Value} (h : VR ρ v v') (hs : AI.flat v = true) : v' = v := by
  cases h with
  | cell h => cases h with
    | same _ => rfl
    | ptr _ => simp [AI.flat, AI.scalar] at hs
    | sl _ _ _ => simp [AI.flat, AI.scalar] at hs
    | anon _ _ => simp [AI.flat, AI.scalar] at hs
    | map _ => simp [AI.flat, AI.scalar] at hs
    | yld _ => simp [AI.flat, AI.scalar] at hs
    | fn h1 h2 => exact (VC.fn h1 h2).scalar (by simpa [AI.flat] using hs)
  | agg h =>
    rename_i cs cs'
    simp only [AI.flat, List.all_eq_true] at hs
    have := L2_eq h fun x y hx hr => hr.scalar (hs x hx)
    rw [Array.toList_inj.1 this]
theorem VT.plain {ρ : Ren} {v v' : Value} (h : VT ρ v v') (hs : AI.plain v = true) : v' = v := by
  cases h with
  | one h => cases h with
    | agg h => exact (VR.agg h).flat (by simpa [AI.plain] using hs)
    | cell h => cases h with
      | same _ => rfl
      | ptr _ => simp [AI.plain, AI.flat, AI.scalar] at hs
      | sl _ _ _ => simp [AI.plain, AI.flat, AI.scalar] at hs
      | anon _ _ => simp [AI.plain, AI.flat, AI.scalar] at hs
      | map _ => simp [AI.plain, AI.flat, AI.scalar] at hs
      | yld _ => simp [AI.plain, AI.flat, AI.scalar] at hs
      | fn h1 h2 => exact (VC.fn h1 h2).scalar (by simpa [AI.plain, AI.flat] using hs)
  | tup h =>
    simp only [AI.plain, List.all_eq_true] at hs
    have := L2_eq h fun x y hx hr => hr.flat (hs x hx)
    rw [Array.toList_inj.1 this]
theorem VR.of_flat {ρ : Ren} {v : Value} (h : AI.flat v = true) : VR ρ v v := by
  cases v with
  | agg cs => exact .agg (L2.refl_of fun x hx => .same (by simp only [AI.flat, List.all_eq_true] at h; exact h x hx))
  | _ => exact .cell (.same (by simpa [AI.flat] using h))
theorem VT.of_plain {ρ : Ren} {v : Value} (h : AI.plain v = true) : VT ρ v v := by
  cases v with
  | tuple vs => exact .tup (L2.refl_of fun x hx => .of_flat (by simp only [AI.plain, List.all_eq_true] at h; exact h x hx))
  | _ => exact .one (.of_flat (by simpa [AI.plain] using h))
theorem VT.undef (ρ : Ren) : VT ρ undef undef := VT.of_plain (by decide)

theorem VT.to_R {ρ : Ren} {v v' : Value} (h : VT ρ v v') (hn : notTuple v = true) : VR ρ v v' := by
  cases h with
  | one h => exact h
  | tup h => simp [notTuple] at hn
theorem VR.cells {ρ : Ren} {v v' : Value} (h : VR ρ v v') : L2 (VC ρ) v.cells.toList v'.cells.toList := by
  cases h with
  | agg h => exact h
  | cell h => cases h with
    | same hs => cases v <;> first | (simp [AI.scalar] at hs; done) | exact .cons (.same hs) .nil
    | yld h => exact .cons (.yld h) .nil
    | ptr h => exact .cons (.ptr h) .nil
    | sl h hn h0 => exact .cons (.sl h hn h0) .nil
    | anon a' c' => exact .cons (.anon a' c') .nil
    | map h => exact .cons (.map h) .nil
    | fn h1 h2 => exact .cons (.fn h1 h2) .nil
theorem VC.oneC {ρ : Ren} {v v' : Value} (h : VC ρ v v') : oneC v = true ∧ Value.oneCell' v' = true := by
  cases h with
  | same hs => cases v <;> first | (simp [AI.scalar] at hs; done) | exact ⟨rfl, rfl⟩
  | _ => exact ⟨rfl, rfl⟩

end Go.AI

/- The abstract machine and the model: memory. -/
namespace Go.AI
open Go.RowKit

def writable : AObj → Bool
  | .gone => false
  | .cells _ _ k => decide (0 < k)
  | .map _ => true
  | .loop .. => true

def isLoop : AObj → Bool
  | .loop .. => true
  | _ => false

/-- What an abstract block says of the block of memory that it stands for. -/
def OR (P : Program) (B : Nat) (ρ : Ren) (w : World) (e : Ent) : AObj → Prop
  | .gone => True
  | .cells cs _ 0 => e.blk < B ∧ ∃ ys, L2 (VC ρ) cs ys ∧ ∀ (i : Nat) (v : Value), ys[i]? = some v → w.cell? ⟨e.blk, e.base + i, none⟩ = some v
  | .cells cs elem (k + 1) => B ≤ e.blk ∧ e.base = 0 ∧ ∃ cur : Array Value, w.heap[e.blk]? = some (.cells cur elem (0, 0)) ∧
      (∃ ys rest, cur.toList = ys ++ rest ∧ L2 (VC ρ) cs ys) ∧ (k = 1 → ∃ s, 0 < s ∧ sizeB P elem = some s ∧ cur.size = e.cap * s ∧ e.cap ≤ maxLen)
  | .map es => B ≤ e.blk ∧ ∃ (ents : Array MapEntry) (clock : Nat), w.heap[e.blk]? = some (.map ents clock) ∧
      L2 (fun kv me => plain kv.1 = true ∧ me.key = kv.1 ∧ VR ρ kv.2 me.val) es ents.toList
  | .loop s pend tm ps a b => B ≤ e.blk ∧ ∃ r : Loop, w.heap[e.blk]? = some (.loop r) ∧ (r.state = s ∧ r.pending = pend ∧ r.params = ps ∧ r.assign = a ∧ r.body = b) ∧
      (∀ p ∈ ps.toList, p < r.tmps.size) ∧ codeOk r.tmps.size a = true ∧ codeOk r.tmps.size b = true ∧ ∀ i, VT ρ (Tm.at tm i) (r.tmps.getD i undef)

structure HR (P : Program) (B : Nat) (ρ : Ren) (H : Heap) (w : World) : Prop where
  dom : ∀ b, b < H.n → ∃ e, ρ b = some e
  lt : ∀ b e, ρ b = some e → b < H.n
  objs : ∀ b o, H.get b = some o → b < H.n
  obj : ∀ b o e, H.get b = some o → ρ b = some e → OR P B ρ w e o
  inj : ∀ b b' o o' e e', H.get b = some o → H.get b' = some o' → ρ b = some e → ρ b' = some e' → writable o = true → writable o' = true → b ≠ b' → e.blk ≠ e'.blk
  top : ∀ b e, ρ b = some e → e.blk < w.heap.size
  glob : ∀ g, g < P.globals.size → ∃ c, ρ g = some ⟨g, 0, c⟩
  old : B ≤ w.heap.size

structure Ext (B : Nat) (ρ ρ' : Ren) (lo : Nat) (w w' : World) : Prop where
  le : Ren.le ρ ρ'
  os : w'.os = w.os
  tape : w'.tape = w.tape
  output : w'.output = w.output
  size : w.heap.size ≤ w'.heap.size
  block : ∀ k, k < w.heap.size → (∀ b e, lo ≤ b → ρ b = some e → B ≤ e.blk → e.blk ≠ k) → w'.heap[k]? = w.heap[k]?
  fresh : ∀ b e, ρ b = none → ρ' b = some e → w.heap.size ≤ e.blk ∨ ∃ b0 e0, lo ≤ b0 ∧ ρ b0 = some e0 ∧ B ≤ e0.blk ∧ e0.blk = e.blk
  loops : ∀ (k : Nat) (r : Loop), w.heap[k]? = some (Obj.loop r) → ∃ r' : Loop, w'.heap[k]? = some (Obj.loop r')

theorem Ext.refl (B : Nat) (ρ : Ren) (lo : Nat) (w : World) : Ext B ρ ρ lo w w :=
  ⟨Ren.le_refl _, rfl, rfl, rfl, Nat.le_refl _, fun _ _ _ => rfl, (fun b e h h' => by rw [h] at h'; cases h'), fun k r h => ⟨r, h⟩⟩
theorem loops_below {w w' : World} (h : Below w.heap.size w w') : ∀ (k : Nat) (r : Loop), w.heap[k]? = some (Obj.loop r) → ∃ r' : Loop, w'.heap[k]? = some (Obj.loop r') :=
  fun k r hr => ⟨r, by rw [h.block k (Array.getElem?_eq_some_iff.1 hr).1]; exact hr⟩

theorem Ext.trans {B : Nat} {ρ ρ1 ρ2 : Ren} {lo1 lo2 : Nat} {w w1 w2 : World} (h : Ext B ρ ρ1 lo1 w w1) (k : Ext B ρ1 ρ2 lo2 w1 w2) : Ext B ρ ρ2 (min lo1 lo2) w w2 := by
  refine ⟨Ren.le_trans h.le k.le, k.os.trans h.os, k.tape.trans h.tape, k.output.trans h.output, Nat.le_trans h.size k.size, fun i hi hc => ?_, fun b e hn hb => ?_, fun i r hr => ?_⟩
  · refine (k.block i (Nat.lt_of_lt_of_le hi h.size) fun b e hlo hb hB => ?_).trans (h.block i hi fun b e hlo hb hB => hc b e (by omega) hb hB)
    cases hρ : ρ b with
    | some e' =>
      have := h.le _ _ hρ
      rw [hb] at this; cases this
      exact hc b e (by omega) hρ hB
    | none =>
      rcases h.fresh b e hρ hb with h1 | ⟨b0, e0, h1, h2, h3, h4⟩
      · omega
      · rw [← h4]; exact hc b0 e0 (by omega) h2 h3
  · cases hρ : ρ1 b with
    | some e1 =>
      have := k.le _ _ hρ
      rw [hb] at this; cases this
      rcases h.fresh b e hn hρ with h1 | ⟨b0, e0, h1, h2, h3, h4⟩
      · exact .inl h1
      · exact .inr ⟨b0, e0, by omega, h2, h3, h4⟩
    | none =>
      rcases k.fresh b e hρ hb with h1 | ⟨b0, e0, h1, h2, h3, h4⟩
      · exact .inl (Nat.le_trans h.size h1)
      · cases h5 : ρ b0 with
        | some e5 =>
          have := h.le _ _ h5
          rw [h2] at this; cases this
          exact .inr ⟨b0, e0, by omega, h5, h3, h4⟩
        | none =>
          rcases h.fresh b0 e0 h5 h2 with h6 | ⟨b6, e6, h6, h7, h8, h9⟩
          · exact .inl (by omega)
          · exact .inr ⟨b6, e6, by omega, h7, h8, by omega⟩
  · obtain ⟨r', hr'⟩ := h.loops i r hr
    exact k.loops i r' hr'
theorem Ext.lower {B : Nat} {ρ ρ' : Ren} {lo lo' : Nat} {w w' : World} (h : Ext B ρ ρ' lo w w') (hl : lo' ≤ lo) : Ext B ρ ρ' lo' w w' :=
  ⟨h.le, h.os, h.tape, h.output, h.size, fun k hk hc => h.block k hk fun b e hb => hc b e (Nat.le_trans hl hb), fun b e hn hb => by
    rcases h.fresh b e hn hb with h1 | ⟨b0, e0, h1, h2⟩
    · exact .inl h1
    · exact .inr ⟨b0, e0, Nat.le_trans hl h1, h2⟩, h.loops⟩
theorem Ext.of_below {B : Nat} {ρ : Ren} (lo : Nat) {w w' : World} (h : Below w.heap.size w w') : Ext B ρ ρ lo w w' :=
  ⟨Ren.le_refl _, h.os, h.tape, h.output, h.size, fun k hk _ => h.block k hk, (fun b e hn hb => by rw [hn] at hb; cases hb), loops_below h⟩
/-- Where no old block has been written: nothing that was there has turned. -/
theorem Ext.below {P : Program} {B : Nat} {ρ ρ' : Ren} {H : Heap} {lo : Nat} {w w' : World} (hH : HR P B ρ H w) (h : Ext B ρ ρ' lo w w') (hlo : H.n ≤ lo) : Below w.heap.size w w' :=
  ⟨h.os, h.tape, h.output, h.size, fun k hk => h.block k hk fun b e hb he _ => by have := hH.lt b e he; omega⟩

theorem OR.mono {P : Program} {B : Nat} {ρ ρ' : Ren} {w w' : World} {e : Ent} {o : AObj} (hρ : Ren.le ρ ρ') (hb : w'.heap[e.blk]? = w.heap[e.blk]?) (h : OR P B ρ w e o) : OR P B ρ' w' e o := by
  match o, h with
  | .gone, _ => trivial
  | .cells cs elem 0, ⟨h1, ys, h2, h3⟩ => exact ⟨h1, ys, h2.mono fun _ _ => VC.mono hρ, fun i v hv => by rw [World.cell?_of_block (w := w) (by exact hb)]; exact h3 i v hv⟩
  | .cells cs elem (k + 1), ⟨h1, h2, cur, h3, ⟨ys, rest, h4, h5⟩, h6⟩ => exact ⟨h1, h2, cur, by rw [hb]; exact h3, ⟨ys, rest, h4, h5.mono fun _ _ => VC.mono hρ⟩, h6⟩
  | .map es, ⟨h1, ents, clock, h2, h3⟩ => exact ⟨h1, ents, clock, by rw [hb]; exact h2, h3.mono fun _ _ ⟨a, b, c⟩ => ⟨a, b, c.mono hρ⟩⟩
  | .loop _ _ _ _ _ _, ⟨h1, r, h2, h3, h4, h5, h6, h7⟩ => exact ⟨h1, r, by rw [hb]; exact h2, h3, h4, h5, h6, fun i => (h7 i).mono hρ⟩

theorem HR.below {P : Program} {B : Nat} {ρ : Ren} {H : Heap} {w w' : World} (h : HR P B ρ H w) (hb : Below w.heap.size w w') : HR P B ρ H w' :=
  ⟨h.dom, h.lt, h.objs, fun b o e ho he => (h.obj b o e ho he).mono (Ren.le_refl _) (hb.block _ (h.top b e he)), h.inj,
    fun b e he => Nat.lt_of_lt_of_le (h.top b e he) hb.size, h.glob, Nat.le_trans h.old hb.size⟩

def Ren.add (ρ : Ren) (n : Nat) (e : Ent) : Ren := fun b => if b = n then some e else ρ b
theorem Ren.add_eq (ρ : Ren) (n : Nat) (e : Ent) : Ren.add ρ n e n = some e := by simp [Ren.add]
theorem Ren.add_ne (ρ : Ren) {n b : Nat} (e : Ent) (h : b ≠ n) : Ren.add ρ n e b = ρ b := by simp [Ren.add, h]
theorem HR.next_none {P : Program} {B : Nat} {ρ : Ren} {H : Heap} {w : World} (h : HR P B ρ H w) : ρ H.n = none := by
  cases hρ : ρ H.n with
  | none => rfl
  | some e => exact absurd (h.lt _ _ hρ) (Nat.lt_irrefl _)
theorem HR.le_add {P : Program} {B : Nat} {ρ : Ren} {H : Heap} {w : World} (h : HR P B ρ H w) (e : Ent) : Ren.le ρ (Ren.add ρ H.n e) := fun b x hb => by
  rw [Ren.add_ne _ _ (Nat.ne_of_lt (h.lt b x hb))]; exact hb

/-- A new block. -/
theorem HR.alloc {P : Program} {B : Nat} {ρ : Ren} {H : Heap} {w w' : World} (h : HR P B ρ H w) (hb : Below w.heap.size w w') (e : Ent) (o : AObj) (lo : Nat)
    (h1 : w.heap.size ≤ e.blk) (h2 : e.blk < w'.heap.size) (ho : OR P B (Ren.add ρ H.n e) w' e o) :
    HR P B (Ren.add ρ H.n e) (H.new o) w' ∧ Ext B ρ (Ren.add ρ H.n e) lo w w' := by
  have hle := h.le_add e
  have hold : ∀ b x, ρ b = some x → x.blk < w.heap.size := h.top
  have get_old : ∀ b o', (H.new o).get b = some o' → b ≠ H.n → H.get b = some o' := fun b o' hg hne => by rw [Heap.get_new_ne _ _ hne] at hg; exact hg
  refine ⟨⟨?_, ?_, ?_, ?_, ?_, ?_, ?_, Nat.le_trans h.old hb.size⟩, ⟨hle, hb.os, hb.tape, hb.output, hb.size, fun k hk _ => hb.block k hk, ?_, loops_below hb⟩⟩
  · intro b hlt
    by_cases hbn : b = H.n
    · exact ⟨e, by rw [hbn, Ren.add_eq]⟩
    · obtain ⟨x, hx⟩ := h.dom b (by simp at hlt; omega)
      exact ⟨x, hle _ _ hx⟩
  · intro b x hx
    by_cases hbn : b = H.n
    · simp [hbn]
    · rw [Ren.add_ne _ _ hbn] at hx; have := h.lt b x hx; simp; omega
  · intro b o' hg
    by_cases hbn : b = H.n
    · simp [hbn]
    · have := h.objs b o' (get_old b o' hg hbn); simp; omega
  · intro b o' x hg hx
    by_cases hbn : b = H.n
    · subst hbn
      rw [Heap.get_new_eq] at hg; cases hg
      rw [Ren.add_eq] at hx; cases hx
      exact ho
    · rw [Ren.add_ne _ _ hbn] at hx
      exact (h.obj b o' x (get_old b o' hg hbn) hx).mono hle (hb.block _ (hold b x hx))
  · intro b b' o1 o2 x x' hg hg' hx hx' hw hw' hne
    by_cases hbn : b = H.n
    · subst hbn
      rw [Ren.add_eq] at hx; cases hx
      rw [Ren.add_ne _ _ (Ne.symm hne)] at hx'
      have := hold b' x' hx'; omega
    · rw [Ren.add_ne _ _ hbn] at hx
      by_cases hbn' : b' = H.n
      · subst hbn'
        rw [Ren.add_eq] at hx'; cases hx'
        have := hold b x hx; omega
      · rw [Ren.add_ne _ _ hbn'] at hx'
        exact h.inj b b' o1 o2 x x' (get_old b o1 hg hbn) (get_old b' o2 hg' hbn') hx hx' hw hw' hne
  · intro b x hx
    by_cases hbn : b = H.n
    · subst hbn; rw [Ren.add_eq] at hx; cases hx; exact h2
    · rw [Ren.add_ne _ _ hbn] at hx
      exact Nat.lt_of_lt_of_le (hold b x hx) hb.size
  · intro g hg
    obtain ⟨c, hc⟩ := h.glob g hg
    exact ⟨c, hle _ _ hc⟩
  · intro b x hn hx
    by_cases hbn : b = H.n
    · subst hbn; rw [Ren.add_eq] at hx; cases hx; exact .inl h1
    · rw [Ren.add_ne _ _ hbn, hn] at hx; cases hx

/-- A block that is written, in place. -/
theorem HR.write {P : Program} {B : Nat} {ρ : Ren} {H : Heap} {w w' : World} (h : HR P B ρ H w) {b : Nat} {o o' : AObj} {e : Ent} (hg : H.get b = some o) (hρ : ρ b = some e) (hw : writable o = true)
    (hB : B ≤ e.blk) (hos : w'.os = w.os) (htape : w'.tape = w.tape) (hout : w'.output = w.output) (hsz : w'.heap.size = w.heap.size) (hk : ∀ k, k ≠ e.blk → w'.heap[k]? = w.heap[k]?)
    (ho : OR P B ρ w' e o') (hlp : isLoop o = true → ∃ r' : Loop, w'.heap[e.blk]? = some (Obj.loop r') := by intro h; cases h) : HR P B ρ (H.set b o') w' ∧ Ext B ρ ρ b w w' := by
  have hloops : ∀ (k : Nat) (r : Loop), w.heap[k]? = some (Obj.loop r) → ∃ r' : Loop, w'.heap[k]? = some (Obj.loop r') := fun k r hr => by
    by_cases hkb : k = e.blk
    · subst hkb
      have h0 := h.obj b o e hg hρ
      match o, h0, hw, hlp with
      | .cells cs elem (j + 1), ⟨_, _, cur, h3, _⟩, _, _ => rw [h3] at hr; cases hr
      | .map es, ⟨_, ents, clock, h2, _⟩, _, _ => rw [h2] at hr; cases hr
      | .loop _ _ _ _ _ _, _, _, hlp => exact hlp rfl
    · rw [hk k hkb]; exact ⟨r, hr⟩
  refine ⟨⟨h.dom, h.lt, ?_, ?_, ?_, ?_, h.glob, by rw [hsz]; exact h.old⟩, ⟨Ren.le_refl _, hos, htape, hout, by omega, fun k hlt hc => hk k (fun hkk => hc b e (Nat.le_refl _) hρ hB hkk.symm), (fun b e hn hb => by rw [hn] at hb; cases hb), hloops⟩⟩
  · intro c o1 hg1
    by_cases hc : c = b
    · subst hc; exact h.objs _ _ hg
    · rw [Heap.get_set_ne _ _ (Ne.symm hc)] at hg1; exact h.objs c o1 hg1
  · intro c o1 x hg1 hx
    by_cases hc : c = b
    · subst hc; rw [Heap.get_set_eq] at hg1; cases hg1; rw [hρ] at hx; cases hx; exact ho
    · rw [Heap.get_set_ne _ _ (Ne.symm hc)] at hg1
      have h1 := h.obj c o1 x hg1 hx
      by_cases hwo : writable o1 = true
      · exact h1.mono (Ren.le_refl _) (hk _ (fun he => h.inj c b o1 o x e hg1 hg hx hρ hwo hw hc he))
      · match o1, h1, hwo with
        | .gone, _, _ => trivial
        | .cells cs elem 0, h1, _ => exact OR.mono (Ren.le_refl _) (hk _ (by have := h1.1; omega)) h1
        | .cells cs elem (k + 1), _, hwo => simp [writable] at hwo
        | .map es, _, hwo => simp [writable] at hwo
        | .loop _ _ _ _ _ _, _, hwo => simp [writable] at hwo
  · intro c c' o1 o2 x x' hg1 hg2 hx hx' hw1 hw2 hne
    have key : ∀ c o1, (H.set b o').get c = some o1 → writable o1 = true → ∃ o0, H.get c = some o0 ∧ writable o0 = true := fun c o1 hg1 hw1 => by
      by_cases hc : c = b
      · subst hc; exact ⟨o, hg, hw⟩
      · rw [Heap.get_set_ne _ _ (Ne.symm hc)] at hg1; exact ⟨o1, hg1, hw1⟩
    obtain ⟨p, hp, hpw⟩ := key c o1 hg1 hw1
    obtain ⟨q, hq, hqw⟩ := key c' o2 hg2 hw2
    exact h.inj c c' p q x x' hp hq hx hx' hpw hqw hne
  · intro c x hx; rw [hsz]; exact h.top c x hx

/-- A row that has grown in place: the old block is gone, a new one stands for its memory. -/
theorem HR.grow {P : Program} {B : Nat} {ρ : Ren} {H : Heap} {w w' : World} (h : HR P B ρ H w) {b : Nat} {o o' : AObj} {e : Ent} (hg : H.get b = some o) (hρ : ρ b = some e) (hw : writable o = true)
    (hB : B ≤ e.blk) (hos : w'.os = w.os) (htape : w'.tape = w.tape) (hout : w'.output = w.output) (hsz : w'.heap.size = w.heap.size) (hk : ∀ k, k ≠ e.blk → w'.heap[k]? = w.heap[k]?)
    (ho : OR P B (Ren.add ρ H.n e) w' e o') (hnl : isLoop o = false := by rfl) : HR P B (Ren.add ρ H.n e) ((H.set b .gone).new o') w' ∧ Ext B ρ (Ren.add ρ H.n e) b w w' := by
  have hle := h.le_add e
  obtain ⟨hH, hE⟩ := h.write (o' := .gone) hg hρ hw hB hos htape hout hsz hk trivial (fun h => by rw [hnl] at h; cases h)
  have hbn : b ≠ H.n := Nat.ne_of_lt (h.lt b e hρ)
  have get_old : ∀ c o1, ((H.set b .gone).new o').get c = some o1 → c ≠ H.n → (H.set b .gone).get c = some o1 := fun c o1 hg hne => by rw [Heap.get_new_ne _ _ (by simpa using hne)] at hg; exact hg
  have get_new : ∀ o1, ((H.set b .gone).new o').get H.n = some o1 → o1 = o' := fun o1 hg => by
    have := Heap.get_new_eq (H.set b .gone) o'
    simp only [Heap.n_set] at this; rw [this] at hg; cases hg; rfl
  refine ⟨⟨?_, ?_, ?_, ?_, ?_, ?_, ?_, hH.old⟩, ⟨hle, hos, htape, hout, by omega, hE.block, ?_, hE.loops⟩⟩
  · intro c hlt
    by_cases hc : c = H.n
    · exact ⟨e, by rw [hc, Ren.add_eq]⟩
    · obtain ⟨x, hx⟩ := h.dom c (by simp at hlt; omega)
      exact ⟨x, hle _ _ hx⟩
  · intro c x hx
    by_cases hc : c = H.n
    · simp [hc]
    · rw [Ren.add_ne _ _ hc] at hx; have := h.lt c x hx; simp; omega
  · intro c o1 hg1
    by_cases hc : c = H.n
    · simp [hc]
    · have := hH.objs c o1 (get_old c o1 hg1 hc); simp at this ⊢; omega
  · intro c o1 x hg1 hx
    by_cases hc : c = H.n
    · subst hc
      rw [get_new o1 hg1]
      rw [Ren.add_eq] at hx; cases hx
      exact ho
    · rw [Ren.add_ne _ _ hc] at hx
      exact (hH.obj c o1 x (get_old c o1 hg1 hc) hx).mono hle rfl
  · intro c c' o1 o2 x x' hg1 hg2 hx hx' hw1 hw2 hne
    have other : ∀ c o1 x, ((H.set b .gone).new o').get c = some o1 → c ≠ H.n → ρ c = some x → writable o1 = true → x.blk ≠ e.blk := fun c o1 x hg1 hc hx hw1 => by
      have hg2 := get_old c o1 hg1 hc
      by_cases hcb : c = b
      · subst hcb; rw [Heap.get_set_eq] at hg2; cases hg2; simp [writable] at hw1
      · rw [Heap.get_set_ne _ _ (Ne.symm hcb)] at hg2
        exact h.inj c b o1 o x e hg2 hg hx hρ hw1 hw hcb
    by_cases hc : c = H.n
    · subst hc
      rw [Ren.add_eq] at hx; cases hx
      rw [Ren.add_ne _ _ (Ne.symm hne)] at hx'
      exact Ne.symm (other c' o2 x' hg2 (Ne.symm hne) hx' hw2)
    · rw [Ren.add_ne _ _ hc] at hx
      by_cases hc' : c' = H.n
      · subst hc'
        rw [Ren.add_eq] at hx'; cases hx'
        exact other c o1 x hg1 hc hx hw1
      · rw [Ren.add_ne _ _ hc'] at hx'
        exact hH.inj c c' o1 o2 x x' (get_old c o1 hg1 hc) (get_old c' o2 hg2 hc') hx hx' hw1 hw2 hne
  · intro c x hx
    by_cases hc : c = H.n
    · subst hc; rw [Ren.add_eq] at hx; cases hx; rw [hsz]; exact h.top b e hρ
    · rw [Ren.add_ne _ _ hc] at hx; rw [hsz]; exact h.top c x hx
  · intro g hg
    obtain ⟨c, hc⟩ := h.glob g hg
    exact ⟨c, hle _ _ hc⟩
  · intro c x hn hx
    by_cases hc : c = H.n
    · subst hc; rw [Ren.add_eq] at hx; cases hx; exact .inr ⟨b, e, Nat.le_refl _, hρ, hB, rfl⟩
    · rw [Ren.add_ne _ _ hc, hn] at hx; cases hx

/-- What an abstract block's cells read as. -/
theorem OR.read {P : Program} {B : Nat} {ρ : Ren} {w : World} {e : Ent} {cs : List Value} {elem k : Nat} (h : OR P B ρ w e (.cells cs elem k)) :
    ∃ ys, L2 (VC ρ) cs ys ∧ ∀ (i : Nat) (v : Value), ys[i]? = some v → w.cell? ⟨e.blk, e.base + i, none⟩ = some v := by
  match k, h with
  | 0, ⟨_, ys, h1, h2⟩ => exact ⟨ys, h1, h2⟩
  | k + 1, ⟨_, hb, cur, h1, ⟨ys, rest, h2, h3⟩, _⟩ =>
    refine ⟨ys, h3, fun i v hv => ?_⟩
    have : cur[i]? = some v := by
      rw [← Array.getElem?_toList, h2, List.getElem?_append_left (List.getElem?_eq_some_iff.1 hv).1]; exact hv
    simp [World.cell?, h1, hb, this]

end Go.AI

/- The abstract machine and the model: operations that write nothing and make no memory. -/
namespace Go.AI
open Go.RowKit
section
variable {P : Program} {B : Nat} {ρ : Ren} {H : Heap} {w : World} {tm : Tm} {a : Act}

structure FR (ρ : Ren) (tm : Tm) (a : Act) : Prop where
  at_ : ∀ i, VT ρ (Tm.at tm i) (a.tmps.getD i undef)
  none : True

theorem FR.mono {ρ' : Ren} (h : FR ρ tm a) (hρ : Ren.le ρ ρ') : FR ρ' tm a := ⟨fun i => (h.at_ i).mono hρ, h.none⟩

theorem ev_sound (hH : HR P B ρ H w) (hF : FR ρ tm a) {x : Operand} {v : Value} (h : ev P tm x = some v) : VT ρ v (a.eval x) := by
  cases x with
  | tmp t => simp only [ev, Option.some.injEq] at h; subst h; exact hF.at_ t
  | const c => simp only [ev] at h; split at h <;> cases h; rename_i hp; exact VT.of_plain hp
  | global g =>
    simp only [ev] at h; split at h <;> cases h
    rename_i hg
    obtain ⟨c, hc⟩ := hH.glob g hg
    exact .one (.cell (.ptr (i := 0) hc))
  | func f => simp only [ev, Option.some.injEq] at h; subst h; exact VT.of_plain rfl

theorem run_sz {t n : Nat} (h : sizeB P t = some n) (w : World) : (sizeOf t).run P w = .ok n w := by
  unfold sizeB at h
  cases hi : P.info? t with
  | none => rw [hi] at h; cases h
  | some i => rw [hi] at h; simp at h; subst h; simp [sizeOf, typeInfo, hi]
theorem run_ag {t : Nat} {b : Bool} (h : isAggB P t = some b) (w : World) : (isAgg t).run P w = .ok b w := by
  unfold isAggB at h
  cases hd : P.underlying t with
  | none => rw [hd] at h; cases h
  | some d =>
    rw [hd] at h
    unfold isAgg
    rw [Sem.run_bind, run_underlying hd, Result.andThen_ok]
    cases d <;> simp at h <;> subst h <;> rfl

/-- A value that is yielded in every world that has grown out of w. -/
def QY (P : Program) (ρ : Ren) (w : World) (v : Value) (s : Sem Value) : Prop :=
  ∃ v', VT ρ v v' ∧ ∀ w1, Below w.heap.size w w1 → s.run P w1 = .ok v' w1

theorem QY.pure {v v' : Value} (h : VT ρ v v') : QY P ρ w v (Pure.pure v') := ⟨v', h, fun _ _ => rfl⟩

theorem addr_add (b i j : Nat) : (⟨b, i, none⟩ : Addr).add j = ⟨b, i + j, none⟩ := by
  unfold Addr.add; split
  · next h => subst h; rfl
  · rfl

/-- The cells of an abstract block, read in a later world. -/
theorem HR.cellsAt (hH : HR P B ρ H w) {b : Nat} {cs : List Value} {elem k : Nat} {e : Ent} (hg : H.get b = some (.cells cs elem k)) (hρ : ρ b = some e) :
    ∃ ys, L2 (VC ρ) cs ys ∧ ∀ w1, Below w.heap.size w w1 → ∀ (i : Nat) (v : Value), ys[i]? = some v → w1.cell? ⟨e.blk, e.base + i, none⟩ = some v := by
  obtain ⟨ys, h1, h2⟩ := (hH.obj b _ e hg hρ).read
  exact ⟨ys, h1, fun w1 hb i v hv => by rw [hb.cell (p := ⟨e.blk, e.base + i, none⟩) (hH.top b e hρ)]; exact h2 i v hv⟩

theorem HR.ptr (hH : HR P B ρ H w) {b : Nat} {o : AObj} (hg : H.get b = some o) : ∃ e, ρ b = some e := hH.dom b (hH.objs b o hg)

theorem vt_ptr {b i : Nat} {v' : Value} (h : VT ρ (.pointer (some ⟨b, i, none⟩)) v') : ∃ e, ρ b = some e ∧ v' = .pointer (some ⟨e.blk, e.base + i, none⟩) := by
  cases h with
  | one h => cases h with
    | cell h => cases h with
      | same hs => simp [scalar] at hs
      | ptr h => exact ⟨_, h, rfl⟩
theorem vt_sl {b i n c : Nat} {v' : Value} (h : VT ρ (.slice (some ⟨b, i, none⟩) n c) v') : ∃ e c', ρ b = some e ∧ n ≤ c' ∧ (c = 0 → i = 0 ∧ e.base = 0 ∧ c' = e.cap) ∧ v' = .slice (some ⟨e.blk, e.base + i, none⟩) n c' := by
  cases h with
  | one h => cases h with
    | cell h => cases h with
      | same hs => simp [scalar] at hs
      | sl h hn h0 => exact ⟨_, _, h, hn, h0, rfl⟩
theorem vt_anon {x y z : Nat} {v' : Value} (h : VT ρ (.slice (some ⟨x, y, some z⟩) 0 0) v') : ∃ a' c', v' = .slice (some a') 0 c' := by
  cases h with
  | one h => cases h with
    | cell h => cases h with
      | same hs => simp [scalar] at hs
      | anon a' c' => exact ⟨a', c', rfl⟩
theorem vt_int {k : IntKind} {n : Int} {v' : Value} (h : VT ρ (.int k n) v') : v' = .int k n := h.plain rfl
theorem vt_bool {b : Bool} {v' : Value} (h : VT ρ (.bool b) v') : v' = .bool b := h.plain rfl
theorem vt_str {s : ByteArray} {v' : Value} (h : VT ρ (.string s) v') : v' = .string s := h.plain rfl
theorem vt_nil {v' : Value} (h : VT ρ (.slice none 0 0) v') : v' = .slice none 0 0 := h.plain rfl
theorem vt_agg {cs : Array Value} {v' : Value} (h : VT ρ (.agg cs) v') : ∃ cs', v' = .agg cs' ∧ L2 (VC ρ) cs.toList cs'.toList := by
  cases h with
  | one h => cases h with
    | agg h => exact ⟨_, rfl, h⟩
    | cell h => cases h with
      | same hs => simp [scalar] at hs
theorem vt_tup {vs : Array Value} {v' : Value} (h : VT ρ (.tuple vs) v') : ∃ vs', v' = .tuple vs' ∧ L2 (VR ρ) vs.toList vs'.toList := by
  cases h with
  | tup h => exact ⟨_, rfl, h⟩
  | one h => cases h with
    | cell h => cases h with
      | same hs => simp [scalar] at hs

theorem q_load (hH : HR P B ρ H w) {t : TypeId} {x v x' : Value} (hx : VT ρ x x') (h : aload P t H x = some v) : QY P ρ w v (Instr.loadAt t x') := by
  unfold aload at h
  split at h
  · rename_i b i
    split at h
    · rename_i cs elem k hg
      obtain ⟨e, hρ, rfl⟩ := vt_ptr hx
      obtain ⟨ys, h2, hc⟩ := hH.cellsAt hg hρ
      split at h
      · rename_i hag
        split at h
        · rename_i n hn
          split at h <;> cases h
          rename_i hle
          have hl : ((ys.drop i).take n).length = n := by have := h2.length; simp; omega
          refine ⟨.agg ((ys.drop i).take n).toArray, .one (.agg (by simpa using (h2.drop i).take n)), fun w1 hb => ?_⟩
          have := run_loadCells_list (P := P) (w := w1) ⟨e.blk, e.base + i, none⟩ ((ys.drop i).take n) (fun j u hu => by
            rw [addr_add, Nat.add_assoc]
            refine hc w1 hb _ _ ?_
            rw [List.getElem?_take] at hu
            split at hu
            · simpa [List.getElem?_drop] using hu
            · cases hu)
          rw [hl] at this
          simp [Instr.loadAt, Instr.sureAddr, loadVar, run_ag hag, run_sz hn, this]
        · cases h
      · rename_i hag
        obtain ⟨y, hy, hr⟩ := h2.get h
        refine ⟨y, .one (.cell hr), fun w1 hb => ?_⟩
        simp [Instr.loadAt, Instr.sureAddr, loadVar, run_ag hag, run_load, hc w1 hb _ _ hy]
      · cases h
    · cases h
  · cases h

theorem q_nil {x v x' : Value} (hx : VT ρ x x') (h : nilOk x = some v) : VT ρ v x' ∧ (∃ a, x' = .pointer (some a)) ∨ VT ρ v x' ∧ (∃ f y z, x' = .func f y z ∧ ((∃ g, f = .func g) ∨ ∃ l, f = .yield l)) := by
  unfold nilOk at h
  split at h <;> cases h
  · rename_i ad
    left
    refine ⟨hx, ?_⟩
    cases hx with
    | one h => cases h with
      | cell h => cases h with
        | same hs => simp [scalar] at hs
        | ptr h => exact ⟨_, rfl⟩
  · right
    refine ⟨hx, ?_⟩
    cases hx with
    | one h => cases h with
      | cell h => cases h with
        | same hs => exact ⟨_, _, _, rfl, .inl ⟨_, rfl⟩⟩
        | fn h1 h2 => exact ⟨_, _, _, rfl, .inl ⟨_, rfl⟩⟩
  · right
    refine ⟨hx, ?_⟩
    cases hx with
    | one h => cases h with
      | cell h => cases h with
        | same hs => simp [scalar] at hs
        | yld h => exact ⟨_, _, _, rfl, .inr ⟨_, rfl⟩⟩

theorem q_fieldAddr {s : TypeId} {f : Nat} {x v x' : Value} (hx : VT ρ x x') (h : afieldAddr P s x f = some v) : QY P ρ w v (Instr.fieldAt s x' f) := by
  unfold afieldAddr at h
  split at h
  · rename_i fs b i hu
    split at h
    · rename_i fd hf
      split at h
      · cases h
      · rename_i n hne hn
        cases h
        obtain ⟨e, hρ, rfl⟩ := vt_ptr hx
        refine ⟨_, .one (.cell (.ptr (i := i + fd.offset) hρ)), fun w1 _ => ?_⟩
        have hne' : ¬ n = 0 := fun h0 => by subst h0; exact hne rfl
        simp [Instr.fieldAt, run_underlying hu, hf, Instr.sureAddr, fieldPlace, run_sz hn, hne', addr_add, Nat.add_assoc]
      · cases h
    · cases h
  · cases h

theorem asIdx_int {x : Value} {k : Int} (h : asIdx x = some k) : ∃ kd, x = .int kd k := by
  cases x <;> simp [asIdx] at h
  subst h; exact ⟨_, rfl⟩

theorem q_indexAddr {t : TypeId} {x ix v x' ix' : Value} (hx : VT ρ x x') (hi : VT ρ ix ix') (h : aindexAddr P t x ix = some v) : QY P ρ w v (Instr.indexAt t x' ix') := by
  unfold aindexAddr at h
  split at h
  · cases h
  · rename_i k hk
    obtain ⟨kd, rfl⟩ := asIdx_int hk
    rw [vt_int hi]
    split at h
    · rename_i len elem b i hu
      split at h
      · rename_i s hs
        split at h <;> cases h
        rename_i hb
        obtain ⟨e, hρ, rfl⟩ := vt_ptr hx
        refine ⟨_, .one (.cell (.ptr (i := i + k.toNat * s) hρ)), fun w1 _ => ?_⟩
        simp [Instr.indexAt, asIntOf, run_underlying hu, Instr.sureAddr, run_sz hs, hb, addr_add, Nat.add_assoc]
      · cases h
    · rename_i elem b i n c hu
      split at h
      · rename_i s hs
        split at h <;> cases h
        rename_i hb
        obtain ⟨e, c', hρ, hn, h0, rfl⟩ := vt_sl hx
        refine ⟨_, .one (.cell (.ptr (i := i + k.toNat * s) hρ)), fun w1 _ => ?_⟩
        simp [Instr.indexAt, asIntOf, run_underlying hu, run_sz hs, hb, addr_add, Nat.add_assoc]
      · cases h
    · cases h

theorem q_part {t : TypeId} {cs cs' : Array Value} {off : Nat} {v : Value} (hc : L2 (VC ρ) cs.toList cs'.toList) (h : apart' P t cs.toList off = some v) : QY P ρ w v (part t cs' off) := by
  unfold apart' at h
  split at h
  · rename_i hag
    split at h <;> cases h
    rename_i n hn
    refine ⟨.agg (cs'.extract off (off + n)), .one (.agg ?_), fun w1 _ => ?_⟩
    · have h1 := (hc.drop off).take n
      simpa [Array.toList_extract, List.extract_eq_take_drop] using h1
    · simp [part, run_ag hag, run_sz hn]
  · rename_i hag
    obtain ⟨y, hy, hr⟩ := hc.get h
    refine ⟨y, .one (.cell hr), fun w1 _ => ?_⟩
    have : cs'[off]? = some y := by simpa using hy
    simp [part, run_ag hag, this]
  · cases h

theorem q_field {t : TypeId} {f : Nat} {x v x' : Value} (hx : VT ρ x x') (h : afield P t x f = some v) : QY P ρ w v (Instr.field t x' f) := by
  unfold afield at h
  split at h
  · rename_i fs cs hu
    split at h
    · rename_i fd hf
      obtain ⟨cs', rfl, hc⟩ := vt_agg hx
      obtain ⟨v', h1, h2⟩ := q_part (w := w) hc h
      refine ⟨v', h1, fun w1 hb => ?_⟩
      simp [Instr.field, run_underlying hu, hf, asAgg, h2 w1 hb]
    · cases h
  · cases h

theorem q_index {t : TypeId} {x ix v x' ix' : Value} (hx : VT ρ x x') (hi : VT ρ ix ix') (h : aindex P t x ix = some v) : QY P ρ w v (Instr.index t x' ix') := by
  unfold aindex at h
  split at h
  · cases h
  · rename_i k hk
    obtain ⟨kd, rfl⟩ := asIdx_int hk
    rw [vt_int hi]
    split at h
    · rename_i len elem cs hu
      split at h
      · rename_i s hs
        split at h
        · rename_i hb
          obtain ⟨cs', rfl, hc⟩ := vt_agg hx
          obtain ⟨v', h1, h2⟩ := q_part (w := w) hc h
          refine ⟨v', h1, fun w1 hb' => ?_⟩
          simp [Instr.index, asIntOf, run_underlying hu, run_sz hs, hb, h2 w1 hb']
        · cases h
      · cases h
    · rename_i s hu
      split at h
      · rename_i h0
        split at h <;> cases h
        rename_i b hb
        rw [vt_str hx]
        refine ⟨_, VT.of_plain (v := .int .u8 b.toNat) rfl, fun w1 _ => ?_⟩
        simp [Instr.index, asIntOf, run_underlying hu, h0, hb]
      · cases h
    · cases h

end
end Go.AI

/- The abstract machine and the model: more operations that write nothing. -/
namespace Go.AI
open Go.RowKit
section
variable {P : Program} {B : Nat} {ρ : Ren} {H : Heap} {w : World} {tm : Tm} {a : Act}

theorem run_bound (hH : HR P B ρ H w) (hF : FR ρ tm a) {x : Option Operand} {d l : Int} {d' y : Nat} (h : bound (optEv P tm x) d = some l) (h0 : 0 ≤ l) (hy : l ≤ y) (hd : d = d') (code : BoundsCode) (w1 : World) :
    (match x.map a.eval with | some v => Instr.sliceBound v y code | none => pure d' : Sem Nat).run P w1 = .ok l.toNat w1 := by
  cases x with
  | none => simp [optEv, bound] at h; subst h; subst hd; simp
  | some o =>
    simp only [optEv] at h
    cases hv : ev P tm o with
    | none => rw [hv] at h; simp [bound] at h
    | some v =>
      rw [hv] at h
      have := ev_sound hH hF hv
      cases v <;> simp [bound] at h
      subst h
      rw [Option.map_some, vt_int this]
      simp [Instr.sliceBound, asIntOf, h0, hy]

theorem run_bounds (hH : HR P B ρ H w) (hF : FR ρ tm a) {lo hi : Option Operand} {n cap : Nat} {l h : Int} (hl : bound (optEv P tm lo) 0 = some l) (hh : bound (optEv P tm hi) n = some h) (h0 : 0 ≤ l) (h1 : l ≤ h) (h2 : h ≤ cap) (s : Bool) (w1 : World) :
    (Instr.sliceBounds s n cap (lo.map a.eval) (hi.map a.eval) none).run P w1 = .ok (l.toNat, h.toNat, cap) w1 := by
  have e1 := run_bound hH hF (d' := n) (y := cap) hh (by omega) h2 rfl (if s then .sliceAcap else .sliceAlen) w1
  have e2 := run_bound hH hF (d' := 0) (y := h.toNat) hl h0 (by omega) rfl .sliceB w1
  unfold Instr.sliceBounds
  cases hx : lo.map a.eval <;> cases hy : hi.map a.eval <;> rw [hx] at e2 <;> rw [hy] at e1 <;> simp at e1 e2 ⊢ <;> simp [e1, e2]

theorem q_slice (hH : HR P B ρ H w) (hF : FR ρ tm a) {t : TypeId} {x v x' : Value} {lo hi : Option Operand} (hx : VT ρ x x') (h : aslice P t x (optEv P tm lo) (optEv P tm hi) = some v) :
    QY P ρ w v (Instr.sliceAt t x' (lo.map a.eval) (hi.map a.eval) none) := by
  unfold aslice at h
  split at h
  · rename_i s hu
    split at h
    · rename_i l h' hl hh
      split at h <;> cases h
      rename_i hb
      rw [vt_str hx]
      refine ⟨_, VT.of_plain (v := .string (s.extract l.toNat h'.toNat)) rfl, fun w1 _ => ?_⟩
      have := run_bounds hH hF (cap := s.size) hl hh hb.1 hb.2.1 (by omega) false w1
      simp [Instr.sliceAt, Instr.slice, run_underlying hu, this]
    · cases h
  · rename_i elem b i n c hu
    split at h
    · rename_i s l h' hs hl hh
      split at h
      · rename_i hb
        obtain ⟨e, c', hρ, hn, h0, rfl⟩ := vt_sl hx
        have hbd := fun w1 => run_bounds hH hF (cap := c') hl hh hb.1 hb.2.1 (by omega) true w1
        have hrun : ∀ w1, (Instr.sliceAt t (.slice (some ⟨e.blk, e.base + i, none⟩) n c') (lo.map a.eval) (hi.map a.eval) none).run P w1 =
            .ok (.slice (if c' = l.toNat then some ⟨e.blk, e.base + i, none⟩ else some ⟨e.blk, e.base + i + l.toNat * s, none⟩) (h'.toNat - l.toNat) (c' - l.toNat)) w1 := fun w1 => by
          simp [Instr.sliceAt, Instr.slice, run_underlying hu, hbd w1, run_sz hs, addr_add]
        split at h
        · rename_i hl0
          cases h
          subst hl0
          refine ⟨_, .one (.cell (.sl (n := h'.toNat) (c' := c') hρ (by omega) h0)), fun w1 _ => ?_⟩
          rw [hrun w1]
          simp
        · rename_i hl0
          split at h
          · rename_i hlh
            cases h
            subst hlh
            by_cases hc : c' = l.toNat
            · exact ⟨_, .one (.cell (.anon ⟨e.blk, e.base + i, none⟩ (c' - l.toNat))), fun w1 _ => by rw [hrun w1, if_pos hc]; simp⟩
            · exact ⟨_, .one (.cell (.anon ⟨e.blk, e.base + i + l.toNat * s, none⟩ (c' - l.toNat))), fun w1 _ => by rw [hrun w1, if_neg hc]; simp⟩
          · rename_i hlh
            cases h
            have hc : ¬ c' = l.toNat := by omega
            refine ⟨_, .one (.cell (.sl (i := i + l.toNat * s) (n := (h' - l).toNat) (c' := c' - l.toNat) hρ (by omega) (fun hc0 => by omega))), fun w1 _ => ?_⟩
            rw [hrun w1, if_neg hc, Nat.add_assoc]
            congr 2
            omega
      · cases h
    · cases h
  · rename_i elem hu
    split at h
    · rename_i s l h' hs hl hh
      split at h <;> cases h
      rename_i hb
      obtain ⟨rfl, rfl⟩ := hb
      rw [vt_nil hx]
      refine ⟨_, VT.of_plain (v := .slice none 0 0) rfl, fun w1 _ => ?_⟩
      have := run_bounds hH hF (n := 0) (cap := 0) hl (by simpa using hh) (Int.le_refl _) (Int.le_refl _) (by simp) true w1
      simp [Instr.sliceAt, Instr.slice, run_underlying hu, this, run_sz hs]
    · cases h
  · rename_i elem x0 y0 z0 hu
    split at h
    · rename_i s l h' hs hl hh
      split at h <;> cases h
      rename_i hb
      obtain ⟨rfl, rfl⟩ := hb
      obtain ⟨a', c', rfl⟩ := vt_anon hx
      have := fun w1 => run_bounds hH hF (n := 0) (cap := c') hl (by simpa using hh) (Int.le_refl _) (Int.le_refl _) (by simp) true w1
      refine ⟨_, .one (.cell (.anon a' c')), fun w1 _ => ?_⟩
      simp [Instr.sliceAt, Instr.slice, run_underlying hu, this w1, run_sz hs, Addr.add]
    · cases h
  · rename_i n elem b i hu
    split at h
    · rename_i s l h' hs hl hh
      split at h <;> cases h
      rename_i hb
      obtain ⟨e, hρ, rfl⟩ := vt_ptr hx
      have hbd := fun w1 => run_bounds hH hF (n := n) (cap := n) hl hh hb.1 (by omega) (by omega) false w1
      have hc : ¬ n = l.toNat := by omega
      refine ⟨_, .one (.cell (.sl (i := i + l.toNat * s) (n := (h' - l).toNat) (c' := n - l.toNat) hρ (by omega) (fun hc0 => by omega))), fun w1 _ => ?_⟩
      simp [Instr.sliceAt, run_underlying hu, Instr.sureAddr, hbd w1, run_sz hs, addr_add, hc, Nat.add_assoc]
      omega
    · cases h
  · cases h

theorem q_extract {v x' : Value} {i : Nat} {vs : Array Value} (hx : VT ρ (.tuple vs) x') (h : vs.toList[i]? = some v) : QY P ρ w v (Instr.extract x' i) := by
  obtain ⟨vs', rfl, hl⟩ := vt_tup hx
  obtain ⟨y, hy, hr⟩ := hl.get h
  refine ⟨y, .one hr, fun w1 _ => ?_⟩
  have : vs'[i]? = some y := by simpa using hy
  simp [Instr.extract, this]

theorem vt_slice {ad : Option Addr} {n c : Nat} {v' : Value} (h : VT ρ (.slice ad n c) v') : ∃ ad' c', v' = .slice ad' n c' := by
  cases h with
  | one h => cases h with
    | cell h => cases h with
      | same hs => exact ⟨_, _, rfl⟩
      | sl h hn h0 => exact ⟨_, _, rfl⟩
      | anon a' c' => exact ⟨_, _, rfl⟩
theorem vt_map {b : Nat} {v' : Value} (h : VT ρ (.map (some b)) v') : ∃ e, ρ b = some e ∧ v' = .map (some e.blk) := by
  cases h with
  | one h => cases h with
    | cell h => cases h with
      | same hs => simp [scalar] at hs
      | map h => exact ⟨_, h, rfl⟩

theorem q_len (hH : HR P B ρ H w) {t : TypeId} {ts : Array TypeId} {ty : TypeId} {x v x' : Value} (hx : VT ρ x x') (h : alen P H t x = some v) (hts : ts.toList = [t]) : QY P ρ w v (Builtin.len_ ts ty #[x']) := by
  have ht : ts[0]? = some t := by rw [← Array.getElem?_toList, hts]; rfl
  unfold alen at h
  split at h
  · rename_i s hu
    cases h; rw [vt_str hx]
    exact ⟨_, VT.of_plain rfl, fun w1 _ => by simp [Builtin.len_, ht, run_underlying hu, goInt]⟩
  · rename_i e ad n c hu
    cases h
    obtain ⟨ad', c', rfl⟩ := vt_slice hx
    exact ⟨_, VT.of_plain rfl, fun w1 _ => by simp [Builtin.len_, ht, run_underlying hu, goInt]⟩
  · rename_i n e hu
    cases h
    exact ⟨_, VT.of_plain rfl, fun w1 _ => by simp [Builtin.len_, ht, run_underlying hu, goInt]⟩
  · rename_i k e hu
    cases h
    rw [hx.plain rfl]
    exact ⟨_, VT.of_plain rfl, fun w1 _ => by simp [Builtin.len_, ht, run_underlying hu, goInt]⟩
  · rename_i k e r hu
    split at h <;> cases h
    rename_i es hg
    obtain ⟨en, hρ, rfl⟩ := vt_map hx
    obtain ⟨_, ents, clock, hh, hl⟩ := hH.obj _ _ _ hg hρ
    refine ⟨_, VT.of_plain rfl, fun w1 hb => ?_⟩
    have hh1 : w1.heap[en.blk]? = some (.map ents clock) := by rw [hb.block _ (hH.top _ _ hρ)]; exact hh
    have hlen : es.length = ents.size := by simpa using hl.length
    simp [Builtin.len_, ht, run_underlying hu, goInt, getObj, Sem.run, hh1, hlen]
  · rename_i a' hu
    split at h <;> cases h
    rename_i n e hu2
    exact ⟨_, VT.of_plain rfl, fun w1 _ => by simp [Builtin.len_, ht, run_underlying hu, run_underlying hu2, goInt]⟩
  · cases h

/-! ### Operations without memory -/
theorem pureRun_run {α : Type} (P : Program) : ∀ (s : Sem α) (r : α), pureRun P s = some r → ∀ w, s.run P w = .ok r w := by
  intro s
  induction s with
  | pure a => intro r h w; simp only [pureRun, Option.some.injEq] at h; subst h; rfl
  | program k ih => intro r h w; simp only [pureRun] at h; simpa [Sem.run] using ih P r h w
  | mark m k ih => intro r h w; simp only [pureRun] at h; simpa [Sem.run] using ih r h w
  | _ => intro r h w; simp [pureRun] at h

theorem q_pure (hH : HR P B ρ H w) (hF : FR ρ tm a) {o : Oper} {v : Value} (h : apure P tm o = some v) : VT ρ v v ∧ ∀ w1, (execOp a.eval o).run P w1 = .ok (.value v) w1 := by
  unfold apure at h
  split at h
  · rename_i hall
    have hops : ∀ x ∈ o.op.operands, evT tm x = a.eval x := fun x hx => by
      have := List.all_eq_true.1 hall x (by simpa using hx)
      cases hv : ev P tm x with
      | none => rw [hv] at this; cases this
      | some u =>
        rw [hv] at this
        have h1 := (ev_sound hH hF hv).plain this
        rw [h1]
        cases x <;> simp [ev, evT] at hv ⊢
        · exact hv
        · exact hv.2
        · exact hv.2
        · exact hv
    split at h
    · cases h
    · rename_i hsel
      split at h
      · rename_i u hp
        split at h <;> cases h
        rename_i hpl
        have e := execOp_congr (ρ := evT tm) (ρ' := a.eval) o (fun cs b hc => hsel cs b hc) hops
        refine ⟨VT.of_plain hpl, fun w1 => ?_⟩
        rw [← e]; exact pureRun_run P _ _ hp w1
      · cases h
  · cases h

theorem abin_run {op : BinOp} {x y v : Value} {t : TypeId} {xo yo : Operand} (h : abin op x y = some v) (w1 : World) : plain v = true ∧
    ((do eqGuard op t xo yo x y; binOp op t x y : Sem Value)).run P w1 = .ok v w1 := by
  unfold abin at h
  split at h
  · rename_i k p j q
    split at h
    · rename_i hkj
      subst hkj
      cases op <;> simp at h <;> subst h <;> refine ⟨rfl, ?_⟩ <;> simp [eqGuard, binOp, Op.intArith, Op.intCmp]
    · cases h
  · cases h

end
end Go.AI
