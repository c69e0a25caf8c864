
/- The reference's Days. -/
import Derived.Test.Ytijimplcjaeneaam2o
set_option linter.unusedVariables false
set_option linter.unusedSimpArgs false
namespace Go.Proofs.Ytijimplcjaeneaa
open Go.AI
theorem putE_made {st : DSt} {e : Ev} (h : e.k = -1) : putE st e = ((min st.1.1 e.lo, max st.1.2 e.hi), st.2) := by unfold putE; rw [if_pos h]
theorem putE_link {st : DSt} {e : Ev} {z : Nat} (h : e.k = (z : Int)) : putE st e = (st.1, st.2.set z (min (st.2[z]!).1 e.lo, max (st.2[z]!).2 e.hi)) := by
  unfold putE; rw [if_neg (by omega), h, Int.toNat_natCast]
theorem own_keepFS {e : TypeId} {s : Nat} {H H' : Heap} {v : Value} {rs : List (List Value)} {B : Nat} (h : OwnS e s H v rs B) (hn : H.n ≤ H'.n) (hk : ∀ c, blkOf v = some c → H'.get c = H.get c) : OwnS e s H' v rs B := by
  refine ⟨h.1, ?_⟩
  rcases h.2 with h | ⟨b', rfl, h2, h3, h4⟩
  · exact .inl h
  · exact .inr ⟨b', rfl, h2, Nat.lt_of_lt_of_le h3 hn, by rw [hk b' rfl]; exact h4⟩
end Go.Proofs.Ytijimplcjaeneaa

