
/- What stays when memory is added, by one name for all that stays. -/
import Derived.Test.YtcpklnekpdhlmaaB6s
set_option linter.unusedVariables false
set_option linter.unusedSimpArgs false
namespace Go.Proofs.Ytcpklnekpdhlmaa
open Go.AI
theorem Base.keep {H H' : Heap} (h : Base H) (k : Keep H H') : Base H' := base_keep h k
theorem Base.keepX {b : Nat} {H H' : Heap} (_ : Base H) (_ : KeepX b H H') (_ : 0 ≤ b) : Base H' := base_any _
end Go.Proofs.Ytcpklnekpdhlmaa
namespace Go.AI
open Go.Proofs.Ytcpklnekpdhlmaa
theorem slot_int {k : IntKind} {a b : Int} (h : a = b) : Value.int k a = Value.int k b := by rw [h]
theorem Ints.keep {H H' : Heap} {v : Value} {xs : List Int} (h : Ints H v xs) (k : Keep H H') : Ints H' v xs := Row.keep h k
theorem Ints.box {b : Nat} {H H' : Heap} {v : Value} {xs : List Int} (h : Ints H v xs) (k : KeepX b H H') (hb : Box b H) : Ints H' v xs := row_box h k hb
theorem Row.box {b : Nat} {H H' : Heap} {v : Value} {xs : List Value} (h : Row H v xs) (k : KeepX b H H') (hb : Box b H) : Row H' v xs := row_box h k hb
theorem Own.box {b : Nat} {e : TypeId} {H H' : Heap} {v : Value} {vs : List Value} {B : Nat} (h : Own e H v vs B) (k : KeepX b H H') (hb : Box b H) : Own e H' v vs B := own_box h k hb
theorem Own.low {e : TypeId} {H : Heap} {v : Value} {vs : List Value} {B B' : Nat} (h : Own e H v vs B) (hB : B' ≤ B) : Own e H v vs B' := by
  rcases h with h | ⟨b, h1, h2, h3, h4⟩
  · exact .inl h
  · exact .inr ⟨b, h1, Nat.le_trans hB h2, h3, h4⟩
theorem Own.ints {H : Heap} {v : Value} {xs : List Int} {B : Nat} (h : Own 3 H v (xs.map VI) B) : Ints H v xs := h.row
end Go.AI
