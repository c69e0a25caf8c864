
/- What is fixed of the program (package hearth). -/
import Derived.Test.YtglkphjjinmgmaaEy
import Derived.Test.YtglkphjjinmgmaaEx
import Derived.Test.YtglkphjjinmgmaaChecked
set_option linter.unusedVariables false
set_option linter.unusedSimpArgs false
namespace Go.Proofs.Ytglkphjjinmgmaa
open Go.AI
theorem mixed : Try.prog.follows .mixedOrders = true := by kernel_rfl
theorem nglobs : Try.prog.globals.size = 0 := by kernel_rfl
instance : Oracle Try.prog := Oracle.of Try.prog []
theorem sure1 (B : Nat) : Sure Try.prog B := ⟨of_nil, mixed, wild_none fun _ => rfl⟩
theorem sz3 : sizeB Try.prog 3 = some 1 := by kernel_rfl
theorem ag3 : isAggB Try.prog 3 = some false := by kernel_rfl
theorem one3 : oneBB Try.prog 3 = some (.int .i64 0, 8) := by kernel_rfl
theorem callees1 : calleesOk Try.prog 107 = true := by kernel_rfl
theorem un3 : Try.prog.underlying 3 = some (.int .i64) := by kernel_rfl
theorem un22 : Try.prog.underlying 33 = some (.slice 3) := by kernel_rfl
theorem ints_at {H : Heap} {v : Value} {xs : List Int} (h : Ints H v xs) {i : Int} (h0 : 0 ≤ i) (h1 : i < xs.length) : (xs.map (Value.int .i64))[i.toNat]? = some (.int .i64 xs[i.toNat]!) := by
  have : i.toNat < xs.length := by omega
  simp [List.getElem?_map, List.getElem?_eq_getElem this, getElem!_pos, this]
theorem ints_len {H : Heap} {v : Value} {xs : List Int} (h : Ints H v xs) : alen Try.prog H 33 v = some (.int .i64 xs.length) := by
  have := Row.alen h un22; simpa using this
theorem ints_addr {H : Heap} {v : Value} {xs : List Int} (h : Ints H v xs) {i : Int} (h0 : 0 ≤ i) (h1 : i < xs.length) : aindexAddr Try.prog 33 v (.int .i64 i) = some (elemAt v i.toNat) :=
  Row.addr h un22 sz3 h0 (by simpa using h1)
theorem ints_load {H : Heap} {v : Value} {xs : List Int} (h : Ints H v xs) {i : Int} (h0 : 0 ≤ i) (h1 : i < xs.length) : aload Try.prog 3 H (elemAt v i.toNat) = some (.int .i64 xs[i.toNat]!) :=
  Row.load h ag3 (ints_at h h0 h1)
end Go.Proofs.Ytglkphjjinmgmaa

