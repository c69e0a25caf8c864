
/- What is fixed of the program (package hearth). -/
import Derived.Test.YtglkphjjinmgmaaDoorEy
import Derived.Test.YtglkphjjinmgmaaDoorEx
import Derived.Test.YtglkphjjinmgmaaDoorChecked
set_option linter.unusedVariables false
set_option linter.unusedSimpArgs false
namespace Go.Proofs.YtglkphjjinmgmaaDoor
open Go.AI
theorem mixed : Tryd.prog.follows .mixedOrders = true := by kernel_rfl
abbrev gl : List AObj := [.gone, .gone, .gone, .gone, .gone, .gone]
theorem nglobs : gl.length = Tryd.prog.globals.size := by kernel_rfl
theorem glCalm : gl.all calm = true := by kernel_rfl
instance : Oracle Tryd.prog := ⟨fun _ => none, fun _ => True, [(77, 3), (85, 4)], by kernel_rfl, fun _ => instDecidableTrue, fun _ => false, fun _ _ _ => none⟩
theorem sure1 (B : Nat) : Sure Tryd.prog B := ⟨(fun f v hv => by cases hv), mixed, wild_none fun _ => rfl⟩
theorem sz3 : sizeB Tryd.prog 3 = some 1 := by kernel_rfl
theorem ag3 : isAggB Tryd.prog 3 = some false := by kernel_rfl
theorem one3 : oneBB Tryd.prog 3 = some (.int .i64 0, 8) := by kernel_rfl
theorem callees1 : calleesOk Tryd.prog 104 = true := by kernel_rfl
theorem un3 : Tryd.prog.underlying 3 = some (.int .i64) := by kernel_rfl
theorem un22 : Tryd.prog.underlying 37 = some (.slice 3) := by kernel_rfl
theorem ints_at {H : Heap} {v : Value} {xs : List Int} (h : Ints H v xs) {i : Int} (h0 : 0 ≤ i) (h1 : i < xs.length) : (xs.map (Value.int .i64))[i.toNat]? = some (.int .i64 xs[i.toNat]!) := by
  have : i.toNat < xs.length := by omega
  simp [List.getElem?_map, List.getElem?_eq_getElem this, getElem!_pos, this]
theorem ints_len {H : Heap} {v : Value} {xs : List Int} (h : Ints H v xs) : alen Tryd.prog H 37 v = some (.int .i64 xs.length) := by
  have := Row.alen h un22; simpa using this
theorem ints_addr {H : Heap} {v : Value} {xs : List Int} (h : Ints H v xs) {i : Int} (h0 : 0 ≤ i) (h1 : i < xs.length) : aindexAddr Tryd.prog 37 v (.int .i64 i) = some (elemAt v i.toNat) :=
  Row.addr h un22 sz3 h0 (by simpa using h1)
theorem ints_load {H : Heap} {v : Value} {xs : List Int} (h : Ints H v xs) {i : Int} (h0 : 0 ≤ i) (h1 : i < xs.length) : aload Tryd.prog 3 H (elemAt v i.toNat) = some (.int .i64 xs[i.toNat]!) :=
  Row.load h ag3 (ints_at h h0 h1)
end Go.Proofs.YtglkphjjinmgmaaDoor

