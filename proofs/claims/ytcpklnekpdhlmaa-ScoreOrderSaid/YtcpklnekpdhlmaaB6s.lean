
/- Three partitions. -/
import Derived.Test.YtcpklnekpdhlmaaB5s
set_option linter.unusedVariables false
set_option linter.unusedSimpArgs false
namespace Go.Proofs.Ytcpklnekpdhlmaa
open Go.AI
theorem row_nt {H : Heap} {v : Value} {vs : List Value} (h : Row H v vs) : notTuple v = true := by
  rcases h with ⟨rfl, _⟩ | ⟨rfl, _⟩ | ⟨_, _, _, _, _, _, rfl, _⟩ <;> rfl
theorem ints_nt {H : Heap} {v : Value} {xs : List Int} (h : Ints H v xs) : notTuple v = true := row_nt h

/-- Three partitions of as many packets. -/
structure P3 (H : Heap) (u v w : Value) (n : Nat) (ps qs rs : List Int) : Prop where
  hu : Ints H u ps
  hv : Ints H v qs
  hw : Ints H w rs
  cp : check ps = 0
  cq : check qs = 0
  cr : check rs = 0
  lp : ps.length = n
  lq : qs.length = n
  lr : rs.length = n
  n1 : 1 ≤ n
  n8 : n ≤ 8

end Go.Proofs.Ytcpklnekpdhlmaa
