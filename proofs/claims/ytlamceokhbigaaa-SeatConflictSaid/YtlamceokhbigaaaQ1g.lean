
/- Picked out of A1.tpl A2.tpl A7.tpl B1.tpl B2.tpl B3.tpl K0s.tpl D1.tpl Sa.tpl S1.tpl S3.tpl S4.tpl S5.tpl S6.tpl Ua.tpl Sd.tpl Sf.tpl. -/
import Derived.Test.YtlamceokhbigaaaA0g
import Derived.Test.YtlamceokhbigaaaX4
import Derived.Test.YtlamceokhbigaaaEu
set_option linter.unusedVariables false
set_option linter.unusedSimpArgs false
namespace Go.Proofs.Ytlamceokhbigaaa
open Go.AI

end Go.Proofs.Ytlamceokhbigaaa

namespace Go.Proofs.Ytlamceokhbigaaa
open Go.AI

abbrev VI : Int → Value := Value.int .i64

end Go.Proofs.Ytlamceokhbigaaa

namespace Go.Proofs.Ytlamceokhbigaaa
open Go.AI

end Go.Proofs.Ytlamceokhbigaaa

namespace Go.Proofs.Ytlamceokhbigaaa
open Go.AI
/-- A box: a variable of one word. -/
def Box (b : Nat) (H : Heap) : Prop := b < H.n ∧ ∃ w, H.get b = some (.cells [.int .u64 w] 93 1)
theorem Box.keepX {b : Nat} {H : Heap} {r : Int} (h : Box b H) : Box b (H.set b (.cells [.int .u64 r] 93 1)) := ⟨h.1, r, Heap.get_set_eq _ _ _⟩
theorem Box.keep {b : Nat} {H H' : Heap} (h : Box b H) (k : Keep H H') : Box b H' := ⟨Nat.lt_of_lt_of_le h.1 k.1, by obtain ⟨w, hw⟩ := h.2; exact ⟨w, by rw [k.2 b h.1]; exact hw⟩⟩
theorem KeepX.set {b : Nat} (H : Heap) (o : AObj) : KeepX b H (H.set b o) := ⟨Nat.le_refl _, fun c _ hc => Heap.get_set_ne _ _ (fun h => hc h.symm)⟩
end Go.Proofs.Ytlamceokhbigaaa

namespace Go.Proofs.Ytlamceokhbigaaa
open Go.AI

end Go.Proofs.Ytlamceokhbigaaa

namespace Go.Proofs.Ytlamceokhbigaaa
open Go.AI
theorem Box.keepBut {b : Nat} {x : Value} {H H' : Heap} (h : Box b H) (k : KeepBut x H H') (hx : blkOf x ≠ some b) : Box b H' :=
  ⟨Nat.lt_of_lt_of_le h.1 k.le, by obtain ⟨w, hw⟩ := h.2; exact ⟨w, by rw [k.get b h.1 hx]; exact hw⟩⟩
theorem own_box {e : TypeId} {H H' : Heap} {b : Nat} {v : Value} {vs : List Value} {B : Nat} (h : Own e H v vs B) (k : KeepX b H H') (hb : Box b H) : Own e H' v vs B := by
  obtain ⟨w, hw⟩ := hb.2; exact h.keepX k hw
end Go.Proofs.Ytlamceokhbigaaa

namespace Go.Proofs.Ytlamceokhbigaaa
open Go.AI
end Go.Proofs.Ytlamceokhbigaaa
namespace Go.AI
open Go.Proofs.Ytlamceokhbigaaa
theorem slot_int {k : IntKind} {a b : Int} (h : a = b) : Value.int k a = Value.int k b := by rw [h]
theorem Own.box {b : Nat} {e : TypeId} {H H' : Heap} {v : Value} {vs : List Value} {B : Nat} (h : Own e H v vs B) (k : KeepX b H H') (hb : Box b H) : Own e H' v vs B := own_box h k hb
end Go.AI

namespace Go.AI
def zeroCells (P : Program) (t : TypeId) : Option (List Value) :=
  match (P.info? t).bind (·.zero) with
  | some z => bif z.cells.toList.all scalar then some z.cells.toList else none
  | none => none
end Go.AI
namespace Go.Proofs.Ytlamceokhbigaaa
open Go.AI
end Go.Proofs.Ytlamceokhbigaaa

namespace Go.Proofs.Ytlamceokhbigaaa
open Go.AI
/-- All its numbers differ. -/
def Dist (l : List Int) : Prop := ∀ a b, a < l.length → b < l.length → l[a]! = l[b]! → a = b
/-- The numbers below n in some order. -/
def OrderL (l : List Int) : Prop := Dist l ∧ ∀ a, a < l.length → 0 ≤ l[a]! ∧ l[a]! < l.length
theorem OrderL.push {l : List Int} (h : OrderL l) : OrderL (l ++ [(l.length : Int)]) := by
  have g1 : ∀ a, a < l.length → (l ++ [(l.length : Int)])[a]! = l[a]! := fun a ha => by
    rw [getElem!_pos _ a (by simp; omega), List.getElem_append_left ha, getElem!_pos l a ha]
  have g2 : (l ++ [(l.length : Int)])[l.length]! = l.length := by
    rw [getElem!_pos _ _ (by simp)]; simp
  refine ⟨fun a b ha hb e => ?_, fun a ha => ?_⟩
  · rw [List.length_append, List.length_singleton] at ha hb
    by_cases h1 : a < l.length <;> by_cases h2 : b < l.length
    · rw [g1 a h1, g1 b h2] at e; exact h.1 a b h1 h2 e
    · have hb' : b = l.length := by omega
      subst hb'
      rw [g1 a h1, g2] at e
      have := h.2 a h1; omega
    · have ha' : a = l.length := by omega
      subst ha'
      rw [g1 b h2, g2] at e
      have := h.2 b h2; omega
    · omega
  · rw [List.length_append, List.length_singleton] at ha ⊢
    by_cases h1 : a < l.length
    · rw [g1 a h1]; have := h.2 a h1; omega
    · have ha' : a = l.length := by omega
      subst ha'
      rw [g2]; omega
end Go.Proofs.Ytlamceokhbigaaa

namespace Go.Proofs.Ytlamceokhbigaaa
open Go.AI
/-- One cell of a variable. -/
theorem cell_load {H : Heap} {b i : Nat} {cs : List Value} {e t : TypeId} {k : Nat} {x : Value} (ha : isAggB Try.prog t = some false) (hg : H.get b = some (.cells cs e k)) (hx : cs[i]? = some x) : aload Try.prog t H (.pointer (some ⟨b, i, none⟩)) = some x := by
  simp [aload, hg, ha, hx]
def ptsOk (a c w n l : Int) : Prop := (0 ≤ a ∧ a ≤ 1000) ∧ (0 ≤ c ∧ c ≤ 1000) ∧ (0 ≤ w ∧ w ≤ 1000) ∧ (0 ≤ n ∧ n ≤ 1000) ∧ 0 ≤ l ∧ l ≤ 1000
instance (a c w n l : Int) : Decidable (ptsOk a c w n l) := by unfold ptsOk; infer_instance
end Go.Proofs.Ytlamceokhbigaaa

namespace Go.AI
end Go.AI
namespace Go.Proofs.Ytlamceokhbigaaa
open Go.AI
end Go.Proofs.Ytlamceokhbigaaa

namespace Go.Proofs.Ytlamceokhbigaaa
open Go.AI
end Go.Proofs.Ytlamceokhbigaaa

namespace Go.Proofs.Ytlamceokhbigaaa
open Go.AI
end Go.Proofs.Ytlamceokhbigaaa

namespace Go.Proofs.Ytlamceokhbigaaa
open Go.AI
end Go.Proofs.Ytlamceokhbigaaa

namespace Go.AI
section
variable {P : Program} {H : Heap} {t e : TypeId} {z : Value} {by' : Nat}
end
end Go.AI
namespace Go.Proofs.Ytlamceokhbigaaa
open Go.AI
end Go.Proofs.Ytlamceokhbigaaa

namespace Go.Proofs.Ytlamceokhbigaaa
open Go.AI
variable {ts ws us : List Int}
end Go.Proofs.Ytlamceokhbigaaa

namespace Go.Proofs.Ytlamceokhbigaaa
open Go.AI
end Go.Proofs.Ytlamceokhbigaaa


