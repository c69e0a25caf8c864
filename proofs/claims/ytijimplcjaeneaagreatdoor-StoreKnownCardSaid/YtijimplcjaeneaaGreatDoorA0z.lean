
/- What is fixed of the program (package store); an oracle of which it is only known that it answers for two functions at most. -/
import Derived.Test.YtijimplcjaeneaaGreatDoorE0
import Derived.Test.YtijimplcjaeneaaGreatDoorChecked
set_option linter.unusedVariables false
set_option linter.unusedSimpArgs false
namespace Go.Proofs.YtijimplcjaeneaaGreatDoor
open  Go.AI
/-- An oracle that answers for awake and for Holders alone. -/
class Orc where
  v : FuncId → Option Value
  w : FuncId → Bool
  wf : FuncId → List Value → Heap → Option Res
  hv : ∀ {f : Nat}, Nat.beq f 7 = false → Nat.beq f 20 = false → v f = none
  hw : ∀ {f : Nat}, Nat.beq f 7 = false → Nat.beq f 20 = false → w f = false
instance orcO [Orc] : Oracle Tryz.prog := ⟨Orc.v, fun _ => True, [(102, 3), (124, 4)], by kernel_rfl, fun _ => instDecidableTrue, Orc.w, Orc.wf⟩
end Go.Proofs.YtijimplcjaeneaaGreatDoor
namespace Go.Proofs.YtijimplcjaeneaaGreatDoor
open Go.AI
theorem mixed : Tryz.prog.follows .mixedOrders = true := by kernel_rfl
abbrev gl : List AObj := [.gone, .gone, .gone, .gone, .gone, .gone]
theorem nglobs : gl.length = Tryz.prog.globals.size := by kernel_rfl
theorem glCalm : gl.all calm = true := by kernel_rfl

theorem sz3 : sizeB Tryz.prog 3 = some 1 := by kernel_rfl
theorem ag3 : isAggB Tryz.prog 3 = some false := by kernel_rfl
theorem one3 : oneBB Tryz.prog 3 = some (.int .i64 0, 8) := by kernel_rfl
theorem callees [Orc] : calleesOk Tryz.prog 149 = true := by kernel_rfl
theorem un3 : Tryz.prog.underlying 3 = some (.int .i64) := by kernel_rfl
theorem un22 : Tryz.prog.underlying 27 = some (.slice 3) := by kernel_rfl
theorem ints_at {H : Heap} {v : Value} {xs : List Int} (h : Ints H v xs) {i : Int} (h0 : 0 ≤ i) (h1 : i < xs.length) : (xs.map (Value.int .i64))[i.toNat]? = some (.int .i64 xs[i.toNat]!) := by
  have : i.toNat < xs.length := by omega
  simp [List.getElem?_map, List.getElem?_eq_getElem this, getElem!_pos, this]
theorem ints_len {H : Heap} {v : Value} {xs : List Int} (h : Ints H v xs) : alen Tryz.prog H 27 v = some (.int .i64 xs.length) := by
  have := Row.alen h un22; simpa using this
theorem ints_addr {H : Heap} {v : Value} {xs : List Int} (h : Ints H v xs) {i : Int} (h0 : 0 ≤ i) (h1 : i < xs.length) : aindexAddr Tryz.prog 27 v (.int .i64 i) = some (elemAt v i.toNat) :=
  Row.addr h un22 sz3 h0 (by simpa using h1)
theorem ints_load {H : Heap} {v : Value} {xs : List Int} (h : Ints H v xs) {i : Int} (h0 : 0 ≤ i) (h1 : i < xs.length) : aload Tryz.prog 3 H (elemAt v i.toNat) = some (.int .i64 xs[i.toNat]!) :=
  Row.load h ag3 (ints_at h h0 h1)
end Go.Proofs.YtijimplcjaeneaaGreatDoor

