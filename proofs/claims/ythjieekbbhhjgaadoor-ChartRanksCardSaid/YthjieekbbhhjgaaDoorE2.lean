/- An abstract machine for the model's code: one operation, a region, code, a call. -/
import Derived.Test.YthjieekbbhhjgaaDoorE1
namespace Go.AI

abbrev Res := Value × Heap × Nat

def findA (kind : TypeDesc) (k : Value) : List (Value × Value) → Nat → Option (Option (Nat × Value))
  | [], _ => some none
  | e :: es, i =>
    match Instr.sameNow kind k e.1 with
    | some true => some (some (i, e.2))
    | some false => findA kind k es (i + 1)
    | none => none

def amap (H : Heap) : Value → Option (List (Value × Value))
  | .map none => some []
  | .map (some r) => match H.get r with
    | some (.map es) => some es
    | _ => none
  | _ => none

def alookup (P : Program) (H : Heap) (t : TypeId) (x k : Value) (ok : Bool) : Option Value :=
  match P.underlying t, amap H x with
  | some (.map kt et), some es =>
    match P.underlying kt, (P.info? et).bind (·.zero) with
    | some kd, some z =>
      if plain k = true ∧ plain z = true ∧ notTuple z = true ∧ (pureRun P (Instr.checkKey es.isEmpty 10000 kt k)).isSome = true then
        match findA kd k es 0 with
        | some (some (_, v)) => some (if ok then .tuple #[v, .bool true] else v)
        | some none => some (if ok then .tuple #[z, .bool false] else z)
        | none => none
      else none
    | _, _ => none
  | _, _ => none

def amapUpdate (P : Program) (H : Heap) (t : TypeId) (x k v : Value) : Option (Heap × Nat) :=
  match P.underlying t, x with
  | some (.map kt _), .map (some r) =>
    match H.get r, P.underlying kt with
    | some (.map es), some kd =>
      if plain k = true ∧ notTuple v = true ∧ (pureRun P (Instr.checkKey false 10000 kt k)).isSome = true then
        match findA kd k es 0 with
        | some (some (i, _)) => some (H.set r (.map (es.set i (k, v))), r)
        | some none => some (H.set r (.map (es ++ [(k, v)])), r)
        | none => none
      else none
    | _, _ => none
  | _, _ => none

def evs (P : Program) (tm : Tm) : List Operand → Option (List Value)
  | [] => some []
  | x :: r => match ev P tm x, evs P tm r with
    | some v, some l => some (v :: l)
    | _, _ => none

def cellLike : Value → Bool
  | .agg _ | .tuple _ => false
  | _ => true

/-- An operation whose operands name no memory, and which touches none. -/
def apure (P : Program) (tm : Tm) (o : Oper) : Option Value :=
  if o.op.operands.toList.all (fun x => match ev P tm x with | some v => plain v | none => false) = true then
    match o.op with
    | .select _ _ => none
    | _ => match pureRun P (execOp (evT tm) o) with
      | some (.value v) => if plain v = true then some v else none
      | _ => none
  else none

def optEv (P : Program) (tm : Tm) : Option Operand → Option (Option Value)
  | none => none
  | some x => some (ev P tm x)

def nilOk : Value → Option Value
  | .pointer (some a) => some (.pointer (some a))
  | .func (.func f) x y => some (.func (.func f) x y)
  | _ => none

/-- The commonest operations on two integers, outright. -/
def abin (op : BinOp) (x y : Value) : Option Value :=
  match x, y with
  | .int k a, .int j b => if k = j then
      match op with
      | .add => some (.int k (k.wrap (a + b)))
      | .sub => some (.int k (k.wrap (a - b)))
      | .mul => some (.int k (k.wrap (a * b)))
      | .eql => some (.bool (a == b))
      | .neq => some (.bool (a != b))
      | .lss => some (.bool (decide (a < b)))
      | .leq => some (.bool (decide (a ≤ b)))
      | .gtr => some (.bool (decide (a > b)))
      | .geq => some (.bool (decide (a ≥ b)))
      | _ => none
    else none
  | _, _ => none

/-- What is not nil, held against nil. -/
def anil (P : Program) (t : TypeId) (op : BinOp) (x y : Value) : Option Value :=
  match x, y with
  | .slice (some _) _ _, .slice none 0 0 => match P.underlying t, op with
    | some (.slice _), .eql => some (.bool false)
    | some (.slice _), .neq => some (.bool true)
    | _, _ => none
  | .pointer (some _), .pointer none => match P.underlying t, op with
    | some (.pointer _), .eql => some (.bool false)
    | some (.pointer _), .neq => some (.bool true)
    | _, _ => none
  | .map (some _), .map none => match P.underlying t, op with
    | some (.map _ _), .eql => some (.bool false)
    | some (.map _ _), .neq => some (.bool true)
    | _, _ => none
  | _, _ => none

def ret (H : Heap) : Option Value → Option Res
  | some v => some (v, H, H.n)
  | none => none

def sBin (P : Program) (tm : Tm) (H : Heap) (o : Oper) (op : BinOp) (t : TypeId) (x y : Operand) : Option Res :=
  match ev P tm x, ev P tm y with
  | some a, some b => match abin op a b with
    | some v => some (v, H, H.n)
    | none => match anil P t op a b with
      | some v => some (v, H, H.n)
      | none => ret H (apure P tm o)
  | _, _ => none

def sPick (P : Program) (tm : Tm) (H : Heap) (c a b : Operand) : Option Res :=
  match ev P tm c with
  | some (.bool true) => ret H (ev P tm a)
  | some (.bool false) => ret H (ev P tm b)
  | _ => none

def sAlloc (P : Program) (H : Heap) (t : TypeId) : Option Res :=
  match (P.info? t).bind (·.zero) with
  | some z => if z.cells.toList.all scalar = true then some (.pointer (some ⟨H.n, 0, none⟩), anew H z.cells.toList t 1, H.n) else none
  | none => none

def sBox (P : Program) (tm : Tm) (H : Heap) (t : TypeId) (x : Operand) : Option Res :=
  match ev P tm x with
  | some v => if notTuple v = true then some (.pointer (some ⟨H.n, 0, none⟩), anew H v.cells.toList t 1, H.n) else none
  | none => none

def sLoad (P : Program) (tm : Tm) (H : Heap) (t : TypeId) (x : Operand) : Option Res :=
  match ev P tm x with
  | some v => ret H (aload P t H v)
  | none => none

def sStore (P : Program) (tm : Tm) (H : Heap) (t : TypeId) (x y : Operand) : Option Res :=
  match ev P tm x, ev P tm y with
  | some a, some v => match astore P t H v a with
    | some (H', lo) => some (undef, H', lo)
    | none => none
  | _, _ => none

def sNil (P : Program) (tm : Tm) (H : Heap) (x : Operand) : Option Res :=
  match ev P tm x with
  | some v => ret H (nilOk v)
  | none => none

def sFunc (P : Program) (tm : Tm) (H : Heap) (fn : Fn) (first cap : Array Operand) : Option Res :=
  match fn with
  | .func f => if first.size = 0 then
      match evs P tm cap.toList with
      | some l => if l.all cellLike = true then some (.func (.func f) #[] l.toArray, H, H.n) else none
      | none => none
    else none
  | _ => none

def sMakeMap (H : Heap) : Option Operand → Option Res
  | none => some (.map (some H.n), H.new (.map []), H.n)
  | some _ => none

def sMakeSlice (P : Program) (tm : Tm) (H : Heap) (t : TypeId) (l c : Operand) : Option Res :=
  match ev P tm l, ev P tm c with
  | some l, some c => amakeSlice P H t l c
  | _, _ => none

def sSlice (P : Program) (tm : Tm) (H : Heap) (t : TypeId) (x : Operand) (lo hi : Option Operand) : Option Operand → Option Res
  | none => match ev P tm x with
    | some v => ret H (aslice P t v (optEv P tm lo) (optEv P tm hi))
    | none => none
  | some _ => none

def sFieldAddr (P : Program) (tm : Tm) (H : Heap) (s : TypeId) (x : Operand) (f : Nat) : Option Res :=
  match ev P tm x with
  | some v => ret H (afieldAddr P s v f)
  | none => none

def sIndexAddr (P : Program) (tm : Tm) (H : Heap) (t : TypeId) (x i : Operand) : Option Res :=
  match ev P tm x, ev P tm i with
  | some v, some i => ret H (aindexAddr P t v i)
  | _, _ => none

def sField (P : Program) (tm : Tm) (H : Heap) (t : TypeId) (x : Operand) (f : Nat) : Option Res :=
  match ev P tm x with
  | some v => ret H (afield P t v f)
  | none => none

def sIndex (P : Program) (tm : Tm) (H : Heap) (t : TypeId) (x i : Operand) : Option Res :=
  match ev P tm x, ev P tm i with
  | some v, some i => ret H (aindex P t v i)
  | _, _ => none

def sExtract (P : Program) (tm : Tm) (H : Heap) (x : Operand) (i : Nat) : Option Res :=
  match ev P tm x with
  | some (.tuple vs) => ret H vs.toList[i]?
  | _ => none

def sBuild (P : Program) (tm : Tm) (H : Heap) (t : TypeId) (parts : Array (Nat × Operand)) : Option Res :=
  match evParts P tm parts.toList with
  | some l => ret H (abuild P t l)
  | none => none

def sBuildSlice (P : Program) (tm : Tm) (H : Heap) (t : TypeId) (len : Nat) (parts : Array (Nat × Operand)) : Option Res :=
  match evParts P tm parts.toList with
  | some l => abuildSlice P H t len l
  | none => none

def sLookup (P : Program) (tm : Tm) (H : Heap) (t : TypeId) (x k : Operand) (ok : Bool) : Option Res :=
  match ev P tm x, ev P tm k with
  | some x, some k => ret H (alookup P H t x k ok)
  | _, _ => none

def sMapUpdate (P : Program) (tm : Tm) (H : Heap) (t : TypeId) (m k x : Operand) : Option Res :=
  match ev P tm m, ev P tm k, ev P tm x with
  | some m, some k, some x => match amapUpdate P H t m k x with
    | some (H', lo) => some (undef, H', lo)
    | none => none
  | _, _, _ => none

def sConvert (P : Program) (tm : Tm) (H : Heap) (o : Oper) (s d : TypeId) (x : Operand) : Option Res :=
  match ev P tm x with
  | some v => if plain v = true then ret H (apure P tm o) else ret H (aconvert P H s d v)
  | none => none

def sLen (P : Program) (tm : Tm) (H : Heap) (xs : Array Operand) (ts : Array TypeId) : Option Res :=
  match xs.toList, ts.toList with
  | [x], [t] => match ev P tm x with
    | some v => ret H (alen P H t v)
    | none => none
  | _, _ => none

def sAppend (P : Program) (tm : Tm) (H : Heap) (xs : Array Operand) (ts : Array TypeId) : Option Res :=
  match xs.toList with
  | [x, y] => match ev P tm x, ev P tm y with
    | some x, some y => aappend P H ts x y
    | _, _ => none
  | _ => none

def sBuiltin (P : Program) (tm : Tm) (H : Heap) (o : Oper) (b : Builtin) (xs : Array Operand) (ts : Array TypeId) : Option Res :=
  match b with
  | .len => sLen P tm H xs ts
  | .append => sAppend P tm H xs ts
  | _ => ret H (apure P tm o)

def sCall (P : Program) (tm : Tm) (H : Heap) (o : Oper) (c : Call) : Option Res :=
  match c.callee with
  | .builtin b => sBuiltin P tm H o b c.args c.argTypes
  | _ => ret H (apure P tm o)

/-- One operation that calls no function. -/
def step1 (P : Program) (tm : Tm) (H : Heap) (o : Oper) : Option Res :=
  match o.op with
  | .move x => ret H (ev P tm x)
  | .assign x => ret H (ev P tm x)
  | .pick c a b => sPick P tm H c a b
  | .alloc t => sAlloc P H t
  | .box t x => sBox P tm H t x
  | .load t x => sLoad P tm H t x
  | .store t x y => sStore P tm H t x y
  | .nilCheck x => sNil P tm H x
  | .makeFunc fn first cap => sFunc P tm H fn first cap
  | .makeMap _ r => sMakeMap H r
  | .makeSlice t l c => sMakeSlice P tm H t l c
  | .slice t x lo hi mx => sSlice P tm H t x lo hi mx
  | .fieldAddr s x f => sFieldAddr P tm H s x f
  | .indexAddr t x i => sIndexAddr P tm H t x i
  | .field t x f => sField P tm H t x f
  | .index t x i => sIndex P tm H t x i
  | .extract x i => sExtract P tm H x i
  | .build t parts => sBuild P tm H t parts
  | .buildSlice t len parts => sBuildSlice P tm H t len parts
  | .lookup t x k ok => sLookup P tm H t x k ok
  | .mapUpdate t m k x => sMapUpdate P tm H t m k x
  | .insert t m k x => sMapUpdate P tm H t m k x
  | .convert s d x => sConvert P tm H o s d x
  | .call c => sCall P tm H o c
  | .binOp op t x y _ => sBin P tm H o op t x y
  | .unOp _ _ _ => ret H (apure P tm o)
  | _ => none

/-- The function that an operation calls, and its arguments. -/
def calleeOf (P : Program) (tm : Tm) (g : Operand) (xs : Array Operand) : Option (FuncId × List Value) :=
  match ev P tm g with
  | some (.func (.func f) first cap) =>
    if first.size = 0 then
      match P.funcs[f]? with
      | some fn =>
        if fn.body.isSome = true ∧ fn.name ≠ "runtime.NumGoroutine" then
          match evs P tm xs.toList with
          | some l => some (f, l ++ cap.toList)
          | none => none
        else none
      | none => none
    else none
  | _ => none

def callOf (P : Program) (tm : Tm) (o : Oper) : Option (FuncId × List Value) :=
  match o.op with
  | .call c => match c.callee with
    | .value g => calleeOf P tm g c.args
    | _ => none
  | _ => none

abbrev CallF := FuncId → List Value → Heap → Option Res

def step (P : Program) (cf : CallF) (tm : Tm) (H : Heap) (o : Oper) : Option Res :=
  match callOf P tm o with
  | some (f, l) => cf f l H
  | none => step1 P tm H o

def yieldedL (ops : List Oper) (tm : Tm) (j : Nat) : Option Bool :=
  match ops[j]? with
  | some o => match o.dst with
    | some d => match Tm.at tm d with
      | .bool b => some b
      | _ => none
    | none => none
  | none => none

def wantedL (ops : List Oper) (tm : Tm) (o : Oper) : Bool :=
  match o.guard with
  | none => true
  | some (j, want) => yieldedL ops tm j == some want

def putL (tm : Tm) (d : Option Tmp) (v : Value) : Tm :=
  match d with
  | some d => Tr.set tm d v
  | none => tm

def opsL (P : Program) (cf : CallF) (ops : List Oper) : List Oper → St → Option St
  | [], st => some st
  | o :: rest, st =>
    if wantedL ops st.tmps o = true then
      match step P cf st.tmps st.heap o with
      | some (v, H, lo) => opsL P cf ops rest ⟨putL st.tmps o.dst v, H, min st.lo lo⟩
      | none => none
    else opsL P cf ops rest { st with tmps := putL st.tmps o.dst undef }

/-- An operation that writes nothing and makes no memory (a call: if it is seen to). -/
def quietOp (o : Oper) : Bool :=
  match o.op with
  | .move _ | .assign _ | .pick .. | .load .. | .nilCheck _ | .binOp .. | .unOp .. | .slice .. | .fieldAddr .. | .field .. | .indexAddr .. | .index .. | .lookup .. | .extract .. | .build .. | .convert .. => true
  | .call { callee := .builtin .append, .. } => false
  | .call { callee := .builtin .copy, .. } => false
  | .call { callee := .builtin .delete, .. } => false
  | .call { callee := .value _, .. } => !Nat.beq o.type 0
  | .call _ => true
  | _ => false

/-- The head of a region that draws its order: what it yields names no memory if it is called, and nothing is written. -/
def headL (P : Program) (cf : CallF) (ops : List Oper) : List Oper → St → Option St
  | [], st => some st
  | o :: rest, st =>
    if wantedL ops st.tmps o = true then
      match callOf P st.tmps o with
      | some (f, l) => match cf f l st.heap with
        | some (v, _, lo) => if plain v = true ∧ st.heap.n ≤ lo then headL P cf ops rest { st with tmps := putL st.tmps o.dst v } else none
        | none => none
      | none => match step1 P st.tmps st.heap o with
        | some (v, _, _) => headL P cf ops rest { st with tmps := putL st.tmps o.dst v }
        | none => none
    else headL P cf ops rest { st with tmps := putL st.tmps o.dst undef }

def headLen (ops : List Oper) : Nat := (ops.takeWhile quietOp).length

/-- p operations in a forced order from k on, then the rest in whatever order their edges allow. -/
def midF (md : Region.Mode) (ops : Array Oper) : Nat → Nat → Array Bool → Bool
  | 0, k, listed => Region.lexFrom md ops (ops.size - k) k listed
  | p + 1, k, listed => decide (Region.ready md ops listed = [k]) && midF md ops p (k + 1) (listed.setIfInBounds k true)
def midHead (md : Region.Mode) (ops : Array Oper) (p : Nat) : Nat → Nat → Array Bool → Bool
  | 0, k, listed => midF md ops p k listed
  | f + 1, k, listed => (Region.ready md ops listed).contains k && Region.free md ops listed k && midHead md ops p f (k + 1) (listed.setIfInBounds k true)
/-- Each operation behind n waits for one from n on. -/
def chainQ (md : Region.Mode) (ops : Array Oper) (n : Nat) : Bool :=
  (List.range ops.size).all fun t => decide (t ≤ n) || (List.range t).any fun s => decide (n ≤ s) && Region.waitsFor md ops t s
def midB (md : Region.Mode) (ops : Array Oper) (m p : Nat) : Bool :=
  Region.noSelect ops && decide (m + (p + 1) ≤ ops.size) && Region.sinkB md ops m && chainQ md ops m && midHead md ops (p + 1) m 0 (Array.replicate ops.size false)

def isCallB (o : Oper) : Bool :=
  match o.op with
  | .call { callee := .value _, .. } => !Nat.beq o.type 0
  | _ => false
def isData : Ground → Bool
  | .data => true
  | _ => false
def dataOn (k : Nat) (o : Oper) : Bool := o.after.toList.any fun e => Nat.beq e.on k && isData e.ground
def dataFrom (c : Nat) (o : Oper) : Bool := o.after.toList.any fun e => Nat.ble c e.on && isData e.ground
def feedsB (ops : List Oper) (c : Nat) : Bool := (List.range c).all fun k => ((ops.take (c + 1)).drop (k + 1)).any (dataOn k)
def callLen (ops : List Oper) : Nat := (ops.takeWhile fun o => quietOp o && !isCallB o).length
/-- A region whose operations all lead to one call, and from there on: it goes in three parts. -/
def midOk (ops : List Oper) (c : Nat) : Bool :=
  Nat.blt 0 c && (match ops[c]? with | some o => isCallB o | none => false) && feedsB ops c && (ops.drop (c + 1)).all fun o => quietOp o && dataFrom c o
def splitM (ops : List Oper) : Nat := bif midOk ops (callLen ops) then callLen ops else headLen ops
def splitQ (ops : List Oper) : Nat := bif midOk ops (callLen ops) then 1 else ops.length - headLen ops

def notDefer (o : Oper) : Bool :=
  match o.op with
  | .defer _ => false
  | _ => true

def drawOk (ops : Array Oper) : Bool :=
  ops.toList.all notDefer && (bif midOk ops.toList (callLen ops.toList) then midB .any ops (callLen ops.toList) 0 else if headLen ops.toList = ops.size then Region.lexB .any ops else Region.lexTailB .any ops (headLen ops.toList))

def dstOk (n : Nat) (o : Oper) : Bool :=
  match o.dst with
  | some d => decide (d < n)
  | none => true

/-- The code's slots are among n, and each region that draws its order is of one of two forms. -/
def codeOk (n : Nat) : Code → Bool
  | .region _ ops draw => ops.toList.all (dstOk n) && (!draw || drawOk ops)
  | .seq a b => codeOk n a && codeOk n b
  | .cond _ a b => codeOk n a && codeOk n b
  | .block _ b => codeOk n b
  | .loop b => codeOk n b
  | .scope b => codeOk n b
  | .skip | .exit _ | .label _ | .ret => true
  | _ => false

def putArgs : List Value → Nat → Tm → Tm
  | [], _, t => t
  | v :: r, i, t => putArgs r (i + 1) (Tr.set t i v)

/-- A region that draws its order: a quiet head, a middle in the text's order, a quiet rest. -/
def drawL (P : Program) (cf : CallF) (ops : List Oper) (st : St) : Option St :=
  match headL P cf ops (ops.take (splitM ops)) st with
  | some st1 => match opsL P cf ops ((ops.drop (splitM ops)).take (splitQ ops)) st1 with
    | some st2 => headL P cf ops (ops.drop (splitM ops + splitQ ops)) st2
    | none => none
  | none => none

def exec (P : Program) (cf : CallF) : Nat → Code → St → Option (Exit × St)
  | 0, _, _ => none
  | n + 1, c, st =>
    match c with
    | .skip => some (.normal, st)
    | .label _ => some (.normal, st)
    | .exit id => some (.exit id, st)
    | .ret => some (.ret, st)
    | .region _ ops draw =>
      match (if draw then drawL P cf ops.toList st else opsL P cf ops.toList ops.toList st) with
      | some st' => some (.normal, st')
      | none => none
    | .seq a b => match exec P cf n a st with
      | some (.normal, st') => exec P cf n b st'
      | r => r
    | .cond x a b => match ev P st.tmps x with
      | some (.bool true) => exec P cf n a st
      | some (.bool false) => exec P cf n b st
      | _ => none
    | .block id b => match exec P cf n b st with
      | some (.exit j, st') => if j = id then some (.normal, st') else some (.exit j, st')
      | r => r
    | .loop b => match exec P cf n b st with
      | some (.normal, st') => exec P cf n (.loop b) st'
      | r => r
    | .scope b => match exec P cf n b st with
      | some (.goto _, _) => none
      | r => r
    | _ => none

def resOf (P : Program) (tm : Tm) (H : Heap) : ResultVar → Option Value
  | .tmp t => some (Tm.at tm t)
  | .cell a t => match Tm.at tm a with
    | .pointer (some ad) => aload P t H (.pointer (some ad))
    | _ => none

def ressOf (P : Program) (tm : Tm) (H : Heap) : List ResultVar → Option (List Value)
  | [] => some []
  | x :: r => match resOf P tm H x, ressOf P tm H r with
    | some v, some l => some (v :: l)
    | _, _ => none

def tupled : List Value → Value
  | [v] => v
  | l => .tuple l.toArray

def ended : Exit → Bool
  | .normal | .ret => true
  | _ => false

/-- Answers that are known beforehand: of functions without arguments, where the memory has what they read. -/
class Oracle (P : Program) where
  val : FuncId → Option Value
  base : Heap → Prop

open Classical in
noncomputable def oracle (P : Program) [Oracle P] (f : FuncId) (l : List Value) (H : Heap) : Option Res :=
  match Oracle.val P f with
  | none => none
  | some v => match l with
    | [] => if Oracle.base P H then some (v, H, H.n) else none
    | _ => none

noncomputable def call (P : Program) [Oracle P] : Nat → CallF
  | 0, _, _, _ => none
  | n + 1, f, args, H =>
    match oracle P f args H with
    | some r => some r
    | none =>
    match P.funcs[f]? with
    | some fn => match fn.body with
      | some c =>
        if codeOk fn.ntmps c = true ∧ args.length ≤ fn.ntmps then
          match exec P (call P n) n c ⟨putArgs args 0 .leaf, H, H.n⟩ with
          | some (e, st) => if ended e = true then
              match ressOf P st.tmps st.heap fn.results.toList with
              | some l => if l.all notTuple = true then some (tupled l, st.heap, st.lo) else none
              | none => none
            else none
          | none => none
        else none
      | none => none
    | none => none

/-- No answers beforehand. -/
@[instance_reducible] def Oracle.none (P : Program) : Oracle P := ⟨fun _ => .none, fun _ => False⟩

end Go.AI
