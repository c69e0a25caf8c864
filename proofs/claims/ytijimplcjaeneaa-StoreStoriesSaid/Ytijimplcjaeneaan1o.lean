
/- The reference's holders. -/
import Derived.Test.Ytijimplcjaeneaan0o
import Derived.Test.Ytijimplcjaeneaal4o
import Derived.Test.Ytijimplcjaeneaam1o
set_option linter.unusedVariables false
set_option linter.unusedSimpArgs false
namespace Go.Proofs.Ytijimplcjaeneaa
open Go.AI
abbrev bT : TypeId := 4
theorem unBs : Try.prog.underlying 88 = some (.slice bT) := by kernel_rfl
theorem szBo : sizeB Try.prog bT = some 1 := by kernel_rfl
theorem agBo : isAggB Try.prog bT = some false := by kernel_rfl
theorem oneBo : oneBB Try.prog bT = some (.bool false, 1) := by kernel_rfl
theorem mk21 {H : Heap} : amakeSlice Try.prog H 88 (.int .i64 21) (.int .i64 21) = some (.slice (some ⟨H.n, 0, none⟩) 21 0, H.new (.cells (List.replicate 21 (.bool false)) bT 2), H.n) := make_row unBs oneBo (by omega) 21 (by omega)
abbrev TV (M : List Int) : List Value := (tabM M).map Value.bool
theorem TV_len {M : List Int} : (TV M).length = 21 := by rw [List.length_map, tabM_len]
theorem tab_put {K : Heap → Prop} {B B0 : Nat} {H : Heap} {tv : Value} {M : List Int} {x : Int} (h : Own bT H tv (TV M) B0) (hB : B ≤ B0) (h0 : -1 ≤ x) (h1 : x ≤ 19)
    (hk : ∀ H', Own bT H' tv (TV (x :: M)) B0 → KeepBut tv H H' → K H') : ∃ H' b, astore Try.prog bT H (.bool true) (elemAt tv (x + 1).toNat) = some (H', b) ∧ B ≤ b ∧ K H' :=
  store_ask szBo h hB (by rw [TV_len]; omega) rfl fun H' h' => hk H' (by rw [TV, ← tabM_set h0 h1, List.map_set]; exact h')
theorem tab_addr {H : Heap} {tv : Value} {M : List Int} {B0 : Nat} (h : Own bT H tv (TV M) B0) {n : Int} (h0 : 0 ≤ n) (h1 : n < 21) : aindexAddr Try.prog 88 tv (.int .i64 n) = some (elemAt tv n.toNat) := h.row.addr unBs szBo h0 (by rw [TV_len]; exact h1)
theorem tab_load {H : Heap} {tv : Value} {M : List Int} (h : Row H tv (TV M)) {i : Nat} (hi : i < 21) : aload Try.prog bT H (elemAt tv i) = some (.bool (tabM M)[i]!) :=
  h.load agBo (by rw [List.getElem?_map, List.getElem?_eq_getElem (by rw [tabM_len]; exact hi), getElem!_pos _ i (by rw [tabM_len]; exact hi)]; rfl)
end Go.Proofs.Ytijimplcjaeneaa

