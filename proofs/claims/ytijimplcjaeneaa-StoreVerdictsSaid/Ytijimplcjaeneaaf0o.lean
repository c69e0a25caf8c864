
/- Seasons: cells, the check. -/
import Derived.Test.Ytijimplcjaeneaac6o
set_option linter.unusedVariables false
set_option linter.unusedSimpArgs false
namespace Go.Proofs.Ytijimplcjaeneaa
open Go.AI
theorem agN : isAggB Try.prog 29 = some false := by kernel_rfl
theorem szN : sizeB Try.prog 29 = some 1 := by kernel_rfl
theorem unG : Try.prog.underlying 39 = some (.slice 29) := by kernel_rfl
/-- Rows of rows of numbers. -/
structure Gri (H : Heap) (v : Value) (vs : List Value) (gs : List (List Int)) : Prop where
  row : Row H v vs
  len : vs.length = gs.length
  ints : ∀ i, i < gs.length → Ints H vs[i]! gs[i]!
theorem Gri.keep {H H' : Heap} {v : Value} {vs : List Value} {gs : List (List Int)} (h : Gri H v vs gs) (k : Keep H H') : Gri H' v vs gs := ⟨h.row.keep k, h.len, fun i hi => (h.ints i hi).keep k⟩
theorem Gri.keepM {H H' : Heap} {v : Value} {vs : List Value} {gs : List (List Int)} {r : Nat} {es : List (Value × Value)} (h : Gri H v vs gs) (k : KeepX r H H') (hr : H.get r = some (.map es)) : Gri H' v vs gs := ⟨h.row.keepM k hr, h.len, fun i hi => Row.keepM (h.ints i hi) k hr⟩
theorem Gri.alen {H : Heap} {v : Value} {vs : List Value} {gs : List (List Int)} (h : Gri H v vs gs) : alen Try.prog H 39 v = some (.int .i64 gs.length) := by rw [← h.len]; exact h.row.alen unG
theorem Gri.addr {H : Heap} {v : Value} {vs : List Value} {gs : List (List Int)} (h : Gri H v vs gs) {i : Nat} (hi : i < gs.length) : aindexAddr Try.prog 39 v (VI i) = some (elemAt v i) := h.row.addr unG szN (by omega) (by rw [h.len]; omega)
theorem Gri.load {H : Heap} {v : Value} {vs : List Value} {gs : List (List Int)} (h : Gri H v vs gs) {i : Nat} (hi : i < gs.length) : aload Try.prog 29 H (elemAt v i) = some vs[i]! :=
  h.row.load agN (by rw [getElem!_pos vs i (by rw [h.len]; exact hi)]; exact List.getElem?_eq_getElem _)
/-- The first error of the guests of a gathering. -/
def guE (pre : List Int) : List Int → Int
  | [] => 0
  | g :: t => bif inB g 0 11 then (if g ∈ pre then 9 else guE (pre ++ [g]) t) else 2
def guestsE (gs : List Int) : Int := if gs.length = 0 then 6 else guE [] gs
def soE : List Int → Int
  | [] => 0
  | s :: t => bif inB s 1 6 then soE t else 2
def gsE : List (List Int) → Int
  | [] => 0
  | g :: t => if guestsE g = 0 then gsE t else guestsE g
def seaE (st : List Int) (gs : List (List Int)) : Int := if st.length = 0 then 6 else if 4 < st.length then 8 else if soE st = 0 then (if 9 < gs.length then 8 else gsE gs) else 2
/-- How many combinations there are. -/
def combos : List Int → Int
  | [] => 1
  | s :: t => s * combos t
end Go.Proofs.Ytijimplcjaeneaa

