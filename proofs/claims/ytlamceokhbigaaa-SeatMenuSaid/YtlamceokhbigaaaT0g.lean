
/- Strings as lists of bytes. -/
import Derived.Test.YtlamceokhbigaaaQ1bg
import Derived.Lib.Bytealg
set_option linter.unusedVariables false
set_option linter.unusedSimpArgs false
namespace Go.AI
/-- The bytes of a list of numbers. -/
def strOf (l : List Int) : ByteArray := ⟨(l.map fun x => UInt8.ofNat x.toNat).toArray⟩
theorem strOf_size (l : List Int) : (strOf l).size = l.length := by simp [strOf, ByteArray.size]
section
variable {P : Program} {H : Heap} {t : TypeId} {l : List Int}
theorem str_len (ht : P.underlying t = some .string) : alen P H t (.string (strOf l)) = some (.int .i64 l.length) := by
  simp [alen, ht, strOf_size]
theorem str_index (ht : P.underlying t = some .string) (hb : ∀ x ∈ l, 0 ≤ x ∧ x < 256) {i : Int} {k : IntKind} (h0 : 0 ≤ i) (h1 : i < l.length) : aindex P t (.string (strOf l)) (.int k i) = some (.int .u8 l[i.toNat]!) := by
  have hlt : i.toNat < l.length := by omega
  have hm := hb l[i.toNat] (List.getElem_mem hlt)
  have e : (strOf l)[i.toNat]? = some (UInt8.ofNat (l[i.toNat]).toNat) := by
    rw [getElem?_pos _ _ (by rw [strOf_size]; exact hlt)]
    simp [strOf, ByteArray.getElem_eq_getElem_data]
  simp only [aindex, asIdx, ht, e]
  rw [if_pos h0, getElem!_pos l _ hlt]
  congr 2
  simp only [UInt8.toNat_ofNat']
  omega
end
end Go.AI
namespace Go.Proofs.Ytlamceokhbigaaa
open Go.AI
abbrev VS (l : List Int) : Value := .string (strOf l)
def Bytes (l : List Int) : Prop := ∀ x ∈ l, 0 ≤ x ∧ x < 256
theorem strOf_data (l : List Int) : (strOf l).data.toList = l.map fun x => UInt8.ofNat x.toNat := by simp [strOf]
theorem u8_back {x : Int} (h : 0 ≤ x ∧ x < 256) : ((UInt8.ofNat x.toNat).toNat : Int) = x := by
  simp; omega
theorem map_back : ∀ {l : List Int}, Bytes l → (l.map fun x => UInt8.ofNat x.toNat).map (fun u => (u.toNat : Int)) = l
  | [], _ => rfl
  | x :: l, h => by
    have h1 := u8_back (h x (List.mem_cons_self ..))
    simp only [List.map_cons, h1]
    rw [map_back fun y hy => h y (List.mem_cons_of_mem _ hy)]
theorem str_beq {a b : List Int} (ha : Bytes a) (hb : Bytes b) : ((strOf a).toList == (strOf b).toList) = decide (a = b) := by
  by_cases h : a = b
  · subst h; simp
  · rw [decide_eq_false h, beq_eq_false_iff_ne]
    intro e
    rw [Go.Lib.toList_data, Go.Lib.toList_data, strOf_data, strOf_data] at e
    exact h (by rw [← map_back ha, ← map_back hb, e])
theorem eqS_f {P : Program} {tm : Tm} {H : Heap} {o : Oper} {t u : TypeId} {x y : Operand} {a b : List Int} (ho : o.op = .binOp .eql t x y u) (hx : ev P tm x = some (VS a)) (hy : ev P tm y = some (VS b)) (ha : Bytes a) (hb : Bytes b) (h : a ≠ b) : step1 P tm H o = some (.bool false, H, H.n) := by
  rw [step1_strEql ho hx hy, str_beq ha hb, decide_eq_false h]
theorem un9 : Try.prog.underlying 9 = some .string := by kernel_rfl
end Go.Proofs.Ytlamceokhbigaaa

