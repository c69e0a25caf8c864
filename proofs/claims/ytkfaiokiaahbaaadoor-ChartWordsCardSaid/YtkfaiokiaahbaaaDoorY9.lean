/- Several texts in one. -/
import Derived.Test.YtkfaiokiaahbaaaDoorY8
set_option linter.unusedVariables false
set_option linter.unusedSimpArgs false
/- Texts: equal just if their bytes are; where a line ends, and how many lines there are. -/
namespace Go.Proofs.YtkfaiokiaahbaaaDoor
open Go.AI
def Bytes (l : List Int) : Prop := ∀ x ∈ l, 0 ≤ x ∧ x < 256
theorem strOf_data (l : List Int) : (strOf l).data.toList = l.map fun x => UInt8.ofNat x.toNat := by simp [strOf]
theorem u8_back {x : Int} (h : 0 ≤ x ∧ x < 256) : ((UInt8.ofNat x.toNat).toNat : Int) = x := by
  simp; omega
theorem map_back : ∀ {l : List Int}, Bytes l → (l.map fun x => UInt8.ofNat x.toNat).map (fun u => (u.toNat : Int)) = l
  | [], _ => rfl
  | x :: l, h => by
    have h1 := u8_back (h x (List.mem_cons_self ..))
    simp only [List.map_cons, h1]
    rw [map_back fun y hy => h y (List.mem_cons_of_mem _ hy)]
theorem str_beq {a b : List Int} (ha : Bytes a) (hb : Bytes b) : ((strOf a).toList == (strOf b).toList) = decide (a = b) := by
  by_cases h : a = b
  · subst h; simp
  · rw [decide_eq_false h, beq_eq_false_iff_ne]
    intro e
    rw [Go.Lib.toList_data, Go.Lib.toList_data, strOf_data, strOf_data] at e
    exact h (by rw [← map_back ha, ← map_back hb, e])
theorem bytes_all (s : ByteArray) : ∃ l, Bytes l ∧ s = strOf l := by
  refine ⟨s.data.toList.map fun u => (u.toNat : Int), ?_, ?_⟩
  · intro x hx
    obtain ⟨u, _, rfl⟩ := List.mem_map.1 hx
    have := u.toNat_lt
    omega
  · rw [strOf, List.map_map]
    have : ((fun x : Int => UInt8.ofNat x.toNat) ∘ fun u : UInt8 => (u.toNat : Int)) = id := by
      funext u; simp
    rw [this, List.map_id]
theorem Bytes.take {l : List Int} (h : Bytes l) (n : Nat) : Bytes (l.take n) := fun x hx => h x (List.mem_of_mem_take hx)
theorem Bytes.drop {l : List Int} (h : Bytes l) (n : Nat) : Bytes (l.drop n) := fun x hx => h x (List.mem_of_mem_drop hx)
theorem Bytes.append {a b : List Int} (h : Bytes a) (h2 : Bytes b) : Bytes (a ++ b) := fun x hx => (List.mem_append.1 hx).elim (h x) (h2 x)
theorem eqS_t {P : Program} {tm : Tm} {H : Heap} {o : Oper} {t u : TypeId} {x y : Operand} {a b : List Int} (ho : o.op = .binOp .eql t x y u) (hx : ev P tm x = some (VS a)) (hy : ev P tm y = some (VS b)) (h : a = b) : step1 P tm H o = some (.bool true, H, H.n) := by
  subst h; rw [step1_strEql ho hx hy]; simp
theorem eqS_f {P : Program} {tm : Tm} {H : Heap} {o : Oper} {t u : TypeId} {x y : Operand} {a b : List Int} (ho : o.op = .binOp .eql t x y u) (hx : ev P tm x = some (VS a)) (hy : ev P tm y = some (VS b)) (ha : Bytes a) (hb : Bytes b) (h : a ≠ b) : step1 P tm H o = some (.bool false, H, H.n) := by
  rw [step1_strEql ho hx hy, str_beq ha hb, decide_eq_false h]
theorem neS_f {P : Program} {tm : Tm} {H : Heap} {o : Oper} {t u : TypeId} {x y : Operand} {a b : List Int} (ho : o.op = .binOp .neq t x y u) (hx : ev P tm x = some (VS a)) (hy : ev P tm y = some (VS b)) (h : a = b) : step1 P tm H o = some (.bool false, H, H.n) := by
  subst h; rw [step1_strNeq ho hx hy]; simp
theorem neS_t {P : Program} {tm : Tm} {H : Heap} {o : Oper} {t u : TypeId} {x y : Operand} {a b : List Int} (ho : o.op = .binOp .neq t x y u) (hx : ev P tm x = some (VS a)) (hy : ev P tm y = some (VS b)) (ha : Bytes a) (hb : Bytes b) (h : a ≠ b) : step1 P tm H o = some (.bool true, H, H.n) := by
  rw [step1_strNeq ho hx hy, str_beq ha hb, decide_eq_false h]; rfl
end Go.Proofs.YtkfaiokiaahbaaaDoor

