/- Closed calls of package hearth: choices of coals, and plans. -/
import Derived.Test.YtglkphjjinmgmaaDoorHa
import Derived.Test.YtglkphjjinmgmaaDoorHb
import Derived.Test.YtglkphjjinmgmaaDoorHc
set_option linter.unusedVariables false
set_option linter.unusedSimpArgs false
namespace Go.Proofs.YtglkphjjinmgmaaDoor
open Go.AI
theorem okG_consP {B : Nat} {l : List (Nat × Value)} (hO : @OracleOK Tryd.prog (orG l) B) {ms : List Memo} {rs : List MemoR} (h1 : MemoIn Tryd.prog (orG l) ms) (h2 : MemoRIn Tryd.prog (orG l) rs) {f k : Nat} {v : Value} (hp : plain v = true)
    (h : eqRG (@call Tryd.prog ((orG l).plus ms rs) k (.fn f) [] (baseHeap gl)) v gl.length = true) : @OracleOK Tryd.prog (orG ((f, v) :: l)) B := by
  intro g u hv H hb ρ w args kf hR ha
  have hv' : assocV ((f, v) :: l) g = some u := hv
  have hH : ∀ b o, gl[b]? = some o → H.get b = some o := fun b o hbo => by
    have := baseB_spec (show baseB gl H 0 = true from hb) b o hbo
    rwa [Nat.zero_add] at this
  simp only [assocV] at hv'
  cases hg : Nat.beq f g with
  | true =>
    rw [hg, cond_true] at hv'
    obtain rfl := Nat.eq_of_beq_eq_true hg
    obtain rfl := Option.some.inj hv'
    obtain ⟨H', lo, e1, e2⟩ := eqRG_spec h
    exact found_inG mixed glCalm nglobs (plus_ok hO) (plus_wild mixed hO wildG h1 h2) hp ⟨H', lo, e1, by rw [base_n]; exact e2⟩ hH kf hR ha
  | false =>
    rw [hg, cond_false] at hv'
    exact hO g u hv' H hb ρ w args kf hR ha
theorem run2 : eqRG (@call Tryd.prog ((orG kn1).plus [lay2] [lay1, lay3]) 3000 (.fn 17) [] (baseHeap gl)) (.bool true) gl.length = true := by kernel_rfl
theorem ok2 (B : Nat) : @OracleOK Tryd.prog (orG kn2) B := okG_consP (ok1 B) (.cons rfl lay2_run .nil) (.cons rfl rfl lay1_run (.cons rfl rfl lay3_run .nil)) rfl run2
end Go.Proofs.YtglkphjjinmgmaaDoor
