
/- The best order is the first one; a table of rows of one's own. -/
import Derived.Test.YtlamceokhbigaaaTsg
set_option linter.unusedVariables false
set_option linter.unusedSimpArgs false
namespace Go.Proofs.Ytlamceokhbigaaa
open Go.AI
/-- A table of rows of one's own. -/
def rowF (f : Int → Int → Int) (n a : Nat) : List Int := (List.range n).map fun (y : Nat) => f (a : Int) (y : Int)
theorem rowF_len {f : Int → Int → Int} {n a : Nat} : (rowF f n a).length = n := by simp [rowF]
theorem rowF_set {f : Int → Int → Int} {n x y : Nat} (hy : y < n) : (rowF f n x).set y (f (x : Int) (y : Int) + 1) = rowF (upd f (x : Int) (y : Int)) n x := by
  apply List.ext_getElem (by rw [List.length_set, rowF_len, rowF_len])
  intro k hk1 hk2
  rw [List.getElem_set]
  simp only [rowF, List.getElem_map, List.getElem_range]
  unfold upd
  by_cases c : y = k
  · subst c
    rw [if_pos rfl, if_pos ⟨rfl, rfl⟩]
  · rw [if_neg c, if_neg (fun h => c (by have := h.2; omega))]
theorem rowF_other {f : Int → Int → Int} {n x a : Nat} {y : Int} (h : a ≠ x) : rowF (upd f (x : Int) y) n a = rowF f n a := by
  unfold rowF
  apply List.map_congr_left
  intro k _
  unfold upd
  rw [if_neg (fun hh => h (by have := hh.1; omega))]
structure TB (H : Heap) (v : Value) (vs : List Value) (f : Int → Int → Int) (n B : Nat) : Prop where
  own : Own 26 H v vs B
  len : vs.length = n
  at' : ∀ a, a < n → Own 3 H vs[a]! ((rowF f n a).map VI) B
  ap : ∀ a b, a < n → b < n → a ≠ b → ∀ c, blkOf vs[a]! = some c → blkOf vs[b]! ≠ some c
theorem TB.keep {H H' : Heap} {v : Value} {vs : List Value} {f : Int → Int → Int} {n B : Nat} (h : TB H v vs f n B) (k : Keep H H') : TB H' v vs f n B := ⟨Own.keep h.own k, h.len, fun a ha => Own.keep (h.at' a ha) k, h.ap⟩
theorem TB.put {H H' : Heap} {v : Value} {vs : List Value} {f : Int → Int → Int} {n B x y : Nat} (h : TB H v vs f n B) (hx : x < n) (hy : y < n) (ho : Own 3 H' vs[x]! (((rowF f n x).set y (f (x : Int) (y : Int) + 1)).map VI) B) (k : KeepBut vs[x]! H H') : TB H' v vs (upd f (x : Int) (y : Int)) n B := by
  refine ⟨Own.keepBut h.own k (fun c h1 h2 => own_apart (h.at' x hx) h.own c h2 h1), h.len, fun a ha => ?_, h.ap⟩
  by_cases e : a = x
  · subst e
    rw [← rowF_set hy]
    exact ho
  · rw [rowF_other e]
    exact Own.keepBut (h.at' a ha) k (h.ap a x ha hx e)
end Go.Proofs.Ytlamceokhbigaaa

