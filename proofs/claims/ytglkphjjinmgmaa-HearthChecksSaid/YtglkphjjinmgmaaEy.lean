/- Closed calls, one after the other: what was found before is known. -/
import Derived.Test.YtglkphjjinmgmaaX4
set_option linter.unusedVariables false
set_option linter.unusedSimpArgs false
namespace Go.AI
/-- Answers that are known beforehand, of functions without arguments, in a program without variables. -/
@[instance_reducible] def Oracle.of (P : Program) (l : List (Nat × Value)) : Oracle P := ⟨fun f => assocV l f, fun _ => True, [], rfl, fun _ => instDecidableTrue, fun _ => false, fun _ _ _ => Option.none⟩
theorem of_nil {P : Program} {B : Nat} : @OracleOK P (Oracle.of P []) B := fun f v hv => by cases hv
def eqV1 : Value → Value → Bool
  | .bool a, .bool b => a == b
  | .int k a, .int j b => decide (k = j) && decide (a = b)
  | _, _ => false
def eqVs : List Value → List Value → Bool
  | [], [] => true
  | a :: x, b :: y => eqV1 a b && eqVs x y
  | _, _ => false
/-! ### The same in a program with variables. -/
def sameB : AObj → Option AObj → Bool
  | .gone, some .gone => true
  | .cells cs e 0, some (.cells cs' e' 0) => eqVs cs cs' && Nat.beq e e'
  | _, _ => false
def baseB : List AObj → Heap → Nat → Bool
  | [], _, _ => true
  | o :: l, H, i => sameB o (H.get i) && baseB l H (i + 1)
@[instance_reducible] def Oracle.ofG (P : Program) (gl : List AObj) (l : List (Nat × Value)) : Oracle P := ⟨fun f => assocV l f, fun H => baseB gl H 0 = true, [], rfl, fun H => instDecidableEqBool (baseB gl H 0) true, fun _ => false, fun _ _ _ => Option.none⟩
/-! ### Calls with arguments whose answers are known. -/
def eqW1 : Value → Value → Bool
  | .bool a, .bool b => a == b
  | .int k a, .int j b => decide (k = j) && decide (a = b)
  | .string a, .string b => a.data.toList == b.data.toList
  | .pointer none, .pointer none => true
  | .pointer (some ⟨b, i, none⟩), .pointer (some ⟨b', i', none⟩) => Nat.beq b b' && Nat.beq i i'
  | .slice none n c, .slice none n' c' => Nat.beq n n' && Nat.beq c c'
  | .slice (some ⟨b, i, none⟩) n c, .slice (some ⟨b', i', none⟩) n' c' => (Nat.beq b b' && Nat.beq i i') && (Nat.beq n n' && Nat.beq c c')
  | .map none, .map none => true
  | _, _ => false
def eqWs : List Value → List Value → Bool
  | [], [] => true
  | a :: x, b :: y => eqW1 a b && eqWs x y
  | _, _ => false
def eqW : Value → Value → Bool
  | .agg a, .agg b => eqWs a.toList b.toList
  | a, b => eqW1 a b
def eqRM : Option Res → Value → Nat → Bool
  | some (.tuple u, _, lo), .tuple v, n => eqWs u.toList v.toList && Nat.ble n lo
  | some (u, _, lo), v, n => eqW u v && Nat.ble n lo
  | none, _, _ => false
/-- A call, what stands in the memory that it sees, and its answer. -/
structure Memo where
  f : Nat
  args : List Value
  n : Nat
  pat : List (Nat × AObj)
  v : Value
def putAll : List (Nat × AObj) → Tr AObj → Tr AObj
  | [], t => t
  | (b, o) :: l, t => putAll l (t.set b o)
def Memo.heap (m : Memo) : Heap := ⟨m.n, putAll m.pat .leaf⟩
/-- What a memo says of memory is less than what is known. -/
theorem HR.less {P : Program} {B : Nat} {ρ : Ren} {H H' : Heap} {w : World} (h : HR P B ρ H w) (hn : H'.n = H.n) (hg : ∀ b o, H'.get b = some o → H.get b = some o) : HR P B ρ H' w :=
  ⟨fun b hb => h.dom b (by omega), fun b e hb => by have := h.lt b e hb; omega, fun b o hb => by have := h.objs b o (hg b o hb); omega, fun b o e ho he => h.obj b o e (hg b o ho) he,
    fun b b' o' e e' hg' he he' hw' hh => h.sep b b' o' e e' (hg b' o' hg') he he' hw' hh, h.top, h.glob, h.old⟩
/-- A list of memos, each with a run. -/
inductive MemoOK (P : Program) (gl : List AObj) (l : List (Nat × Value)) : List Memo → Prop
  | nil : MemoOK P gl l []
  | cons {m : Memo} {ms : List Memo} {k : Nat} (hp : plain m.v = true) (h : eqRM (@call P (Oracle.ofG P gl l) k (.fn m.f) m.args m.heap) m.v m.n = true) (t : MemoOK P gl l ms) : MemoOK P gl l (m :: ms)
end Go.AI

