
/- What is fixed of the program (package store); an oracle of which it is only known that it answers for two functions at most. -/
import Derived.Test.YtijimplcjaeneaaE0
import Derived.Test.YtijimplcjaeneaaChecked
set_option linter.unusedVariables false
set_option linter.unusedSimpArgs false
namespace Go.Proofs.Ytijimplcjaeneaa
open  Go.AI
/-- An oracle that answers for awake and for Holders alone. -/
class Orc where
  v : FuncId → Option Value
  w : FuncId → Bool
  wf : FuncId → List Value → Heap → Option Res
  hv : ∀ {f : Nat}, Nat.beq f 16 = false → Nat.beq f 31 = false → v f = none
  hw : ∀ {f : Nat}, Nat.beq f 16 = false → Nat.beq f 31 = false → w f = false
instance orcO [Orc] : Oracle Try.prog := ⟨Orc.v, fun _ => True, [], rfl, fun _ => instDecidableTrue, Orc.w, Orc.wf⟩
end Go.Proofs.Ytijimplcjaeneaa
namespace Go.Proofs.Ytijimplcjaeneaa
open Go.AI
theorem mixed : Try.prog.follows .mixedOrders = true := by kernel_rfl
theorem nglobs : Try.prog.globals.size = 0 := by kernel_rfl

def globs : List AObj := []
def Base (_ : Heap) : Prop := True
theorem base_any (H : Heap) : Base H := trivial
theorem base_keep {H H' : Heap} (_ : Base H) (_ : Keep H H') : Base H' := trivial

theorem sz3 : sizeB Try.prog 3 = some 1 := by kernel_rfl
theorem ag3 : isAggB Try.prog 3 = some false := by kernel_rfl
theorem one3 : oneBB Try.prog 3 = some (.int .i64 0, 8) := by kernel_rfl
theorem callees [Orc] : calleesOk Try.prog 155 = true := calleesOk_nil rfl (by kernel_rfl)
theorem un3 : Try.prog.underlying 3 = some (.int .i64) := by kernel_rfl
theorem un4 : Try.prog.underlying 4 = some .bool := by kernel_rfl
theorem un22 : Try.prog.underlying 29 = some (.slice 3) := by kernel_rfl
theorem ok37 : codeOk Try.f37.ntmps (Try.f37.body.getD .skip) = true := by kernel_rfl

theorem ints_at {H : Heap} {v : Value} {xs : List Int} (h : Ints H v xs) {i : Int} (h0 : 0 ≤ i) (h1 : i < xs.length) : (xs.map (Value.int .i64))[i.toNat]? = some (.int .i64 xs[i.toNat]!) := by
  have : i.toNat < xs.length := by omega
  simp [List.getElem?_map, List.getElem?_eq_getElem this, getElem!_pos, this]
theorem drop_cons {xs : List Int} {n : Nat} (h : n < xs.length) : xs.drop n = xs[n]! :: xs.drop (n + 1) := by
  rw [List.drop_eq_getElem_cons h, getElem!_pos xs n h]
theorem ints_len {H : Heap} {v : Value} {xs : List Int} (h : Ints H v xs) : alen Try.prog H 29 v = some (.int .i64 xs.length) := by
  have := Row.alen h un22; simpa using this
theorem ints_addr {H : Heap} {v : Value} {xs : List Int} (h : Ints H v xs) {i : Int} (h0 : 0 ≤ i) (h1 : i < xs.length) : aindexAddr Try.prog 29 v (.int .i64 i) = some (elemAt v i.toNat) :=
  Row.addr h un22 sz3 h0 (by simpa using h1)
theorem ints_load {H : Heap} {v : Value} {xs : List Int} (h : Ints H v xs) {i : Int} (h0 : 0 ≤ i) (h1 : i < xs.length) : aload Try.prog 3 H (elemAt v i.toNat) = some (.int .i64 xs[i.toNat]!) :=
  Row.load h ag3 (ints_at h h0 h1)
end Go.Proofs.Ytijimplcjaeneaa
