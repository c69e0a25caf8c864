/- What is fixed of the program. -/
import Derived.Test.YteocbhefhobehaaDoorX4
import Derived.Test.YteocbhefhobehaaDoorChecked
set_option linter.unusedVariables false
set_option linter.unusedSimpArgs false
namespace Go.Proofs.YteocbhefhobehaaDoor
open Go.AI

def globs : List AObj := [.cells ([32,45,124,111,124,120].map fun n => Value.int .u8 n) 0 0, .gone, .gone, .gone]
def Base (H : Heap) : Prop := 4 ≤ H.n ∧ ∀ b o, globs[b]? = some o → H.get b = some o
/-- The two tables that are made anew at each call: how many ways there are to go on, and how many partitions there are. -/
def endT : List Int := [1,1,1,1,1,1,1,1,1,1,1,2,3,4,5,6,7,8,9,0,2,5,10,17,26,37,50,65,0,0,5,15,37,77,141,235,365,0,0,0,15,52,151,372,799,1540,0,0,0,0,52,203,674,1915,4736,0,0,0,0,0,203,877,3263,10481,0,0,0,0,0,0,877,4140,17007,0,0,0,0,0,0,0,4140,21147,0,0,0,0,0,0,0,0,21147,0,0,0,0,0,0,0,0,0]
def partT : List Int := [1,0,0,0,0,0,0,0,0,0,0,1,0,0,0,0,0,0,0,0,0,1,1,0,0,0,0,0,0,0,0,1,3,1,0,0,0,0,0,0,0,1,7,6,1,0,0,0,0,0,0,1,15,25,10,1,0,0,0,0,0,1,31,90,65,15,1,0,0,0,0,1,63,301,350,140,21,1,0,0,0,1,127,966,1701,1050,266,28,1,0,0,1,255,3025,7770,6951,2646,462,36,1]
def tabV (l : List Int) : Value := .agg (l.map (Value.int .i64)).toArray
instance : Oracle Tryd.prog := ⟨fun f => bif Nat.beq f 19 then some (.bool true) else bif Nat.beq f 68 then some (.bool true) else bif Nat.beq f 69 then some (.bool true) else bif Nat.beq f 70 then some (.bool true) else bif Nat.beq f 71 then some (.bool true) else bif Nat.beq f 82 then some (tabV endT) else bif Nat.beq f 84 then some (tabV partT) else none, Base, [(135, 1), (142, 2)], by kernel_rfl⟩
theorem base_keep {H H' : Heap} (h : Base H) (k : Keep H H') : Base H' :=
  ⟨Nat.le_trans h.1 k.1, fun b o hb => by
    have h1 : b < 4 := (List.getElem?_eq_some_iff.1 hb).1
    rw [k.2 b (Nat.lt_of_lt_of_le h1 h.1)]; exact h.2 b o hb⟩

theorem sz3 : sizeB Tryd.prog 3 = some 1 := by kernel_rfl
theorem ag3 : isAggB Tryd.prog 3 = some false := by kernel_rfl
theorem one3 : oneBB Tryd.prog 3 = some (.int .i64 0, 8) := by kernel_rfl
theorem callees : calleesOk Tryd.prog 139 = true := by kernel_rfl
theorem un3 : Tryd.prog.underlying 3 = some (.int .i64) := by kernel_rfl
theorem un4 : Tryd.prog.underlying 4 = some .bool := by kernel_rfl
theorem un22 : Tryd.prog.underlying 22 = some (.slice 3) := by kernel_rfl
theorem un102 : Tryd.prog.underlying 102 = some (.map 3 3) := by kernel_rfl
theorem ok11 : codeOk Tryd.f11.ntmps (Tryd.f11.body.getD .skip) = true := by kernel_rfl
theorem ok26 : codeOk Tryd.f26.ntmps (Tryd.f26.body.getD .skip) = true := by kernel_rfl
theorem ok28 : codeOk Tryd.f28.ntmps (Tryd.f28.body.getD .skip) = true := by kernel_rfl
theorem ok30 : codeOk Tryd.f30.ntmps (Tryd.f30.body.getD .skip) = true := by kernel_rfl
theorem ok75 : codeOk Tryd.f75.ntmps (Tryd.f75.body.getD .skip) = true := by kernel_rfl
theorem ok80 : codeOk Tryd.f80.ntmps (Tryd.f80.body.getD .skip) = true := by kernel_rfl

theorem ints_at {H : Heap} {v : Value} {xs : List Int} (h : Ints H v xs) {i : Int} (h0 : 0 ≤ i) (h1 : i < xs.length) : (xs.map (Value.int .i64))[i.toNat]? = some (.int .i64 xs[i.toNat]!) := by
  have : i.toNat < xs.length := by omega
  simp [List.getElem?_map, List.getElem?_eq_getElem this, getElem!_pos, this]
theorem drop_cons {xs : List Int} {n : Nat} (h : n < xs.length) : xs.drop n = xs[n]! :: xs.drop (n + 1) := by
  rw [List.drop_eq_getElem_cons h, getElem!_pos xs n h]
theorem ints_len {H : Heap} {v : Value} {xs : List Int} (h : Ints H v xs) : alen Tryd.prog H 22 v = some (.int .i64 xs.length) := by
  have := Row.alen h un22; simpa using this
theorem ints_addr {H : Heap} {v : Value} {xs : List Int} (h : Ints H v xs) {i : Int} (h0 : 0 ≤ i) (h1 : i < xs.length) : aindexAddr Tryd.prog 22 v (.int .i64 i) = some (elemAt v i.toNat) :=
  Row.addr h un22 sz3 h0 (by simpa using h1)
theorem ints_load {H : Heap} {v : Value} {xs : List Int} (h : Ints H v xs) {i : Int} (h0 : 0 ≤ i) (h1 : i < xs.length) : aload Tryd.prog 3 H (elemAt v i.toNat) = some (.int .i64 xs[i.toNat]!) :=
  Row.load h ag3 (ints_at h h0 h1)
end Go.Proofs.YteocbhefhobehaaDoor
