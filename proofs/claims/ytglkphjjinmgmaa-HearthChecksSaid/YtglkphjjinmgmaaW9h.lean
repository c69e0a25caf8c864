
/- HearthCalm. -/
import Derived.Test.YtglkphjjinmgmaaW8h
import Derived.Test.YtglkphjjinmgmaaWrh
set_option linter.unusedVariables false
set_option linter.unusedSimpArgs false
namespace Go.Proofs.Ytglkphjjinmgmaa
open Go.AI
theorem sp_f {H : Heap} {v : Value} {l : List (Int × Int)} (h : RowS 2 H v (l.map Hl)) {f o n j : Nat} (hf : fieldOff Try.prog 27 f = some (o, n)) (hn : n ≠ 0) (hj : j < l.length) : afieldAddr Try.prog 27 (elemS v 2 j) f = some (fieldOf (elemS v 2 j) o) := h.faddr hf hn (by rw [List.length_map]; exact hj)
theorem sp_a {H : Heap} {v : Value} {l : List (Int × Int)} (h : RowS 2 H v (l.map Hl)) {j : Nat} (hj : j < l.length) : aload Try.prog 3 H (fieldOf (elemS v 2 j) 0) = some (VJ (l[j]!).1) := h.fload ag3 (j := j) (o := 0) (r := Hl l[j]!) (hl_at hj) rfl
theorem sp_b {H : Heap} {v : Value} {l : List (Int × Int)} (h : RowS 2 H v (l.map Hl)) {j : Nat} (hj : j < l.length) : aload Try.prog 3 H (fieldOf (elemS v 2 j) 1) = some (VJ (l[j]!).2) := h.fload ag3 (j := j) (o := 1) (r := Hl l[j]!) (hl_at hj) rfl
end Go.Proofs.Ytglkphjjinmgmaa

