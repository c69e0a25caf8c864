/- An abstract machine for the model's code: the definitions. Nothing of a particular program is said here. -/
import Derived.WalkKit
import Derived.RangeFuncIn
import Derived.Sort.QuietThIn
import Derived.StillTail
namespace Go.AI

/-- What an abstract block holds: nothing any more; cells (kind 0: memory that is only read; 1: a variable; 2: a row that may grow); a map. -/
inductive AObj where
  | gone
  | cells (cs : List Value) (elem : TypeId) (kind : Nat)
  | map (es : List (Value × Value))
  deriving Inhabited

/-- A tree of places: 0 at the root, the odd ones to the left, the even ones to the right. -/
inductive Tr (α : Type) where
  | leaf
  | node (l : Tr α) (v : Option α) (r : Tr α)

def Tr.get {α : Type} : Tr α → Nat → Option α
  | .leaf, _ => none
  | .node l v r, i => bif Nat.beq i 0 then v else bif Nat.beq (i % 2) 1 then l.get (i / 2) else r.get (i / 2 - 1)

def Tr.setF {α : Type} (v : α) : Nat → Tr α → Nat → Tr α
  | 0, t, _ => t
  | f + 1, .leaf, i => bif Nat.beq i 0 then .node .leaf (some v) .leaf else
      bif Nat.beq (i % 2) 1 then .node (Tr.setF v f .leaf (i / 2)) none .leaf else .node .leaf none (Tr.setF v f .leaf (i / 2 - 1))
  | f + 1, .node l u r, i => bif Nat.beq i 0 then .node l (some v) r else
      bif Nat.beq (i % 2) 1 then .node (Tr.setF v f l (i / 2)) u r else .node l u (Tr.setF v f r (i / 2 - 1))

@[irreducible] def Tr.set {α : Type} (t : Tr α) (i : Nat) (v : α) : Tr α := Tr.setF v (Nat.log2 (i + 1) + 1) t i

structure Heap where
  n : Nat
  t : Tr AObj

def Heap.get (H : Heap) (b : Nat) : Option AObj := H.t.get b
def Heap.set (H : Heap) (b : Nat) (o : AObj) : Heap := ⟨H.n, H.t.set b o⟩
def Heap.new (H : Heap) (o : AObj) : Heap := ⟨H.n + 1, H.t.set H.n o⟩

abbrev Tm := Tr Value

def Tm.at (t : Tm) (i : Nat) : Value := (Tr.get t i).getD undef

structure St where
  tmps : Tm
  heap : Heap
  lo : Nat

/-- A value of one cell that names no memory. -/
def scalar : Value → Bool
  | .bool _ | .int _ _ | .string _ | .nilFunc | .nilIface => true
  | .pointer none => true
  | .slice none 0 0 => true
  | .map none => true
  | .func _ a b => a.size == 0 && b.size == 0
  | _ => false

def flat : Value → Bool
  | .agg cs => cs.toList.all scalar
  | v => scalar v

def plain : Value → Bool
  | .tuple vs => vs.toList.all flat
  | v => flat v

def pureRun {α : Type} (P : Program) : Sem α → Option α
  | .pure a => some a
  | .program k => pureRun P (k P)
  | .mark _ k => pureRun P k
  | _ => none

def evT (tm : Tm) : Operand → Value
  | .tmp t => Tm.at tm t
  | .const v => v
  | .global g => .pointer (some ⟨g, 0, none⟩)
  | .func f => .func (.func f) #[] #[]

/-- What an operand is; a constant that names memory is none of ours. -/
def ev (P : Program) (tm : Tm) : Operand → Option Value
  | .tmp t => some (Tm.at tm t)
  | .const v => if plain v then some v else none
  | .global g => if g < P.globals.size then some (.pointer (some ⟨g, 0, none⟩)) else none
  | .func f => some (.func (.func f) #[] #[])

def isAggB (P : Program) (t : TypeId) : Option Bool :=
  match P.underlying t with
  | some (.struct _) | some (.array _ _) => some true
  | some _ => some false
  | none => none

def sizeB (P : Program) (t : TypeId) : Option Nat := (P.info? t).map (·.size)

def aload (P : Program) (t : TypeId) (H : Heap) : Value → Option Value
  | .pointer (some ⟨b, i, none⟩) =>
    match H.get b with
    | some (.cells cs _ _) =>
      match isAggB P t with
      | some true =>
        match sizeB P t with
        | some n => if i + n ≤ cs.length then some (.agg ((cs.drop i).take n).toArray) else none
        | none => none
      | some false => cs[i]?
      | none => none
    | _ => none
  | _ => none

def splice : List Value → Nat → List Value → List Value
  | cs, _, [] => cs
  | cs, i, v :: vs => splice (cs.set i v) (i + 1) vs

def oneC : Value → Bool
  | .agg _ | .tuple _ => false
  | _ => true

def notTuple : Value → Bool
  | .tuple _ => false
  | _ => true

def astore (P : Program) (t : TypeId) (H : Heap) (v : Value) : Value → Option (Heap × Nat)
  | .pointer (some ⟨b, i, none⟩) =>
    match H.get b with
    | some (.cells cs e (k + 1)) =>
      if sizeB P t = some v.cells.size ∧ i + v.cells.size ≤ cs.length ∧ notTuple v = true ∧ v.cells.toList.all oneC = true then
        some (H.set b (.cells (splice cs i v.cells.toList) e (k + 1)), b) else none
    | _ => none
  | _ => none

/-- A new block. -/
def anew (H : Heap) (cs : List Value) (e : TypeId) (k : Nat) : Heap := H.new (.cells cs e k)

def asIdx : Value → Option Int
  | .int _ n => some n
  | _ => none

def aindexAddr (P : Program) (t : TypeId) (x ix : Value) : Option Value :=
  match asIdx ix with
  | none => none
  | some k =>
    match P.underlying t, x with
    | some (.array len elem), .pointer (some ⟨b, i, none⟩) =>
      match sizeB P elem with
      | some s => if 0 ≤ k ∧ k < len then some (.pointer (some ⟨b, i + k.toNat * s, none⟩)) else none
      | none => none
    | some (.slice elem), .slice (some ⟨b, i, none⟩) n _ =>
      match sizeB P elem with
      | some s => if 0 ≤ k ∧ k < n then some (.pointer (some ⟨b, i + k.toNat * s, none⟩)) else none
      | none => none
    | _, _ => none

def afieldAddr (P : Program) (s : TypeId) (x : Value) (f : Nat) : Option Value :=
  match P.underlying s, x with
  | some (.struct fs), .pointer (some ⟨b, i, none⟩) =>
    match fs[f]? with
    | some fd => match sizeB P fd.type with
      | some 0 => none
      | some _ => some (.pointer (some ⟨b, i + fd.offset, none⟩))
      | none => none
    | none => none
  | _, _ => none

def apart' (P : Program) (t : TypeId) (cs : List Value) (off : Nat) : Option Value :=
  match isAggB P t with
  | some true => match sizeB P t with
    | some n => some (.agg ((cs.drop off).take n).toArray)
    | none => none
  | some false => cs[off]?
  | none => none

def afield (P : Program) (t : TypeId) (x : Value) (f : Nat) : Option Value :=
  match P.underlying t, x with
  | some (.struct fs), .agg cs => match fs[f]? with
    | some fd => apart' P fd.type cs.toList fd.offset
    | none => none
  | _, _ => none

def aindex (P : Program) (t : TypeId) (x ix : Value) : Option Value :=
  match asIdx ix with
  | none => none
  | some k =>
    match P.underlying t, x with
    | some (.array len elem), .agg cs =>
      match sizeB P elem with
      | some s => if 0 ≤ k ∧ k < len then apart' P elem cs.toList (k.toNat * s) else none
      | none => none
    | some .string, .string s => if 0 ≤ k then (match s[k.toNat]? with | some b => some (.int .u8 b.toNat) | none => none) else none
    | _, _ => none

/-- An empty slice of which nothing more is known. -/
def anon : Value := .slice (some ⟨0, 0, some 0⟩) 0 0

def bound : Option (Option Value) → Int → Option Int
  | none, d => some d
  | some (some (.int _ n)), _ => some n
  | _, _ => none

def aslice (P : Program) (t : TypeId) (x : Value) (lo hi : Option (Option Value)) : Option Value :=
  match P.underlying t, x with
  | some .string, .string s =>
    match bound lo 0, bound hi s.size with
    | some l, some h => if 0 ≤ l ∧ l ≤ h ∧ h ≤ s.size then some (.string (s.extract l.toNat h.toNat)) else none
    | _, _ => none
  | some (.slice elem), .slice (some ⟨b, i, none⟩) n c =>
    match sizeB P elem, bound lo 0, bound hi n with
    | some s, some l, some h =>
      if 0 ≤ l ∧ l ≤ h ∧ h ≤ n then
        if l = 0 then some (.slice (some ⟨b, i, none⟩) h.toNat c)
        else if l = h then some anon
        else some (.slice (some ⟨b, i + l.toNat * s, none⟩) (h - l).toNat (c + l.toNat))
      else none
    | _, _, _ => none
  | some (.slice elem), .slice none 0 0 =>
    match sizeB P elem, bound lo 0, bound hi 0 with
    | some _, some l, some h => if l = 0 ∧ h = 0 then some (.slice none 0 0) else none
    | _, _, _ => none
  | some (.slice elem), .slice (some ⟨_, _, some _⟩) 0 0 =>
    match sizeB P elem, bound lo 0, bound hi 0 with
    | some _, some l, some h => if l = 0 ∧ h = 0 then some anon else none
    | _, _, _ => none
  | some (.array n elem), .pointer (some ⟨b, i, none⟩) =>
    match sizeB P elem, bound lo 0, bound hi n with
    | some s, some l, some h =>
      if 0 ≤ l ∧ l < h ∧ h ≤ n then some (.slice (some ⟨b, i + l.toNat * s, none⟩) (h - l).toNat (l.toNat + 1)) else none
    | _, _, _ => none
  | _, _ => none

/-- The cells of what is appended, and how many elements they are. -/
def sourceOf (H : Heap) (s : Nat) : Value → Option (List Value × Nat)
  | .slice none 0 0 => some ([], 0)
  | .slice (some ⟨_, _, some _⟩) 0 0 => some ([], 0)
  | .slice (some ⟨b, i, none⟩) m _ =>
    match H.get b with
    | some (.cells cs _ _) => if i + m * s ≤ cs.length then some ((cs.drop i).take (m * s), m) else none
    | _ => none
  | _ => none

def aappend (P : Program) (H : Heap) (ts : Array TypeId) (x y : Value) : Option (Value × Heap × Nat) :=
  match ts.toList with
  | [t, u] =>
    if t ≠ u then none else
    match P.underlying t with
    | some (.slice elem) =>
      match P.info? elem with
      | some info =>
        match info.zero with
        | some z =>
          if info.size = 0 ∨ z.cells.size ≠ info.size then none else
          (match sourceOf H info.size y with
          | some (news, m) =>
            (match x with
            | .slice none 0 0 =>
              if m = 0 then some (x, H, H.n)
              else if m ≤ maxLen ∧ m * info.bytes ≤ 140737488355328 then some (.slice (some ⟨H.n, 0, none⟩) m 0, anew H news elem 2, H.n) else none
            | .slice (some ⟨b, i, none⟩) n c =>
              if m = 0 then some (x, H, H.n) else
              if c ≠ 0 ∨ i ≠ 0 then none else
              (match H.get b with
              | some (.cells cs e 2) =>
                if e = elem ∧ cs.length = n * info.size ∧ n + m ≤ maxLen ∧ (n + m) * info.bytes ≤ 140737488355328 then
                  some (.slice (some ⟨H.n, 0, none⟩) (n + m) 0, anew (H.set b .gone) (cs ++ news) elem 2, b)
                else none
              | _ => none)
            | _ => none)
          | none => none)
        | none => none
      | none => none
    | _ => none
  | _ => none

def alen (P : Program) (H : Heap) (t : TypeId) (x : Value) : Option Value :=
  match P.underlying t, x with
  | some .string, .string s => some (.int .i64 s.size)
  | some (.slice _), .slice _ n _ => some (.int .i64 n)
  | some (.array n _), _ => some (.int .i64 n)
  | some (.map _ _), .map none => some (.int .i64 0)
  | some (.map _ _), .map (some r) => match H.get r with
    | some (.map es) => some (.int .i64 es.length)
    | _ => none
  | some (.pointer a), _ => match P.underlying a with
    | some (.array n _) => some (.int .i64 n)
    | _ => none
  | _, _ => none

def zeros (z : Array Value) (n : Nat) : List Value := (List.range n).map fun i => z[i % z.size]!

def amakeSlice (P : Program) (H : Heap) (t : TypeId) (l c : Value) : Option (Value × Heap × Nat) :=
  match P.underlying t, l, c with
  | some (.slice elem), .int .i64 l, .int .i64 c =>
    match P.info? elem with
    | some info =>
      match info.zero with
      | some z =>
        if 0 ≤ l ∧ l ≤ c ∧ c ≤ 9223372036854775807 ∧ info.bytes * c ≤ 281474976710656 ∧ 0 < info.size ∧ z.cells.size = info.size ∧ z.cells.toList.all scalar = true then
          some (.slice (some ⟨H.n, 0, none⟩) l.toNat 0, anew H (zeros z.cells (l.toNat * info.size)) elem 2, H.n)
        else none
      | none => none
    | none => none
  | _, _, _ => none

def fillL (place : Nat → Option (Nat × Nat)) (cells : List Value) : List (Nat × Value) → Option (List Value)
  | [] => some cells
  | (i, v) :: rest =>
    match place i with
    | none => none
    | some (off, size) =>
      if v.cells.size ≠ size ∨ off + v.cells.size > cells.length ∨ notTuple v = false then none
      else fillL place (splice cells off v.cells.toList) rest

def evParts (P : Program) (tm : Tm) : List (Nat × Operand) → Option (List (Nat × Value))
  | [] => some []
  | (i, x) :: r => match ev P tm x, evParts P tm r with
    | some v, some l => some ((i, v) :: l)
    | _, _ => none

def placeOf (P : Program) (fs : Array Field) (i : Nat) : Option (Nat × Nat) :=
  match fs[i]? with
  | some f => match sizeB P f.type with
    | some n => some (f.offset, n)
    | none => none
  | none => none

def abuild (P : Program) (t : TypeId) (parts : List (Nat × Value)) : Option Value :=
  match P.info? t with
  | some info => match info.zero with
    | some z =>
      if z.cells.toList.all scalar = true then
      match P.underlying t with
      | some (.struct fs) =>
        if fs.toList.all (fun f => (sizeB P f.type).isSome) = true then (fillL (placeOf P fs) z.cells.toList parts).map fun cs => .agg cs.toArray else none
      | some (.array _ elem) =>
        match sizeB P elem with
        | some s => (fillL (fun i => some (i * s, s)) z.cells.toList parts).map fun cs => .agg cs.toArray
        | none => none
      | _ => none
      else none
    | none => none
  | none => none

def abuildSlice (P : Program) (H : Heap) (t : TypeId) (len : Nat) (parts : List (Nat × Value)) : Option (Value × Heap × Nat) :=
  match P.underlying t with
  | some (.slice elem) =>
    match P.info? elem with
    | some info => match info.zero with
      | some z =>
        if 0 < info.size ∧ z.cells.size = info.size ∧ z.cells.toList.all scalar = true ∧ len * info.size ≤ 16777216 then
          match fillL (fun i => some (i * info.size, info.size)) (zeros z.cells (len * info.size)) parts with
          | some cs => some (.slice (some ⟨H.n, 0, none⟩) len 0, anew H cs elem 2, H.n)
          | none => none
        else none
      | none => none
    | none => none
  | _ => none

def bytesOfCells : List Value → ByteArray → Option ByteArray
  | [], acc => some acc
  | .int .u8 n :: r, acc => bytesOfCells r (acc.push (UInt8.ofNat n.toNat))
  | _ :: _, _ => none

def isU8 (P : Program) (e : TypeId) : Bool :=
  match P.underlying e with
  | some (.int .u8) => true
  | _ => false

def aconvert (P : Program) (H : Heap) (src dst : TypeId) : Value → Option Value
  | .slice none 0 0 => match P.underlying src, P.underlying dst with
    | some (.slice e), some .string => if isU8 P e = true then some (.string .empty) else none
    | _, _ => none
  | .slice (some ⟨b, i, none⟩) n _ => match P.underlying src, P.underlying dst with
    | some (.slice e), some .string =>
      if isU8 P e = true then
        match H.get b with
        | some (.cells cs _ _) => if i + n ≤ cs.length then (bytesOfCells ((cs.drop i).take n) .empty).map .string else none
        | _ => none
      else none
    | _, _ => none
  | _ => none

end Go.AI
