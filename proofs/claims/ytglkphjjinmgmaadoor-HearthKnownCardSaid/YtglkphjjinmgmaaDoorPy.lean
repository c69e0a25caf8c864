/- Closed calls of package hearth: the chapter's examples; what is handed to some calls. -/
import Derived.Test.YtglkphjjinmgmaaDoorW6y
import Derived.Test.YtglkphjjinmgmaaDoorYa
set_option linter.unusedVariables false
set_option linter.unusedSimpArgs false
namespace Go.Proofs.YtglkphjjinmgmaaDoor
open Go.AI
abbrev kn1 : List (Nat × Value) := [(7, .bool true)]
abbrev kn2 : List (Nat × Value) := (17, .bool true) :: kn1
abbrev kn3 : List (Nat × Value) := (3, .bool true) :: kn2
theorem run1 : eqRG (@call Tryd.prog (orG []) 3000 (.fn 7) [] (baseHeap gl)) (.bool true) gl.length = true := by kernel_rfl
theorem ok1 (B : Nat) : @OracleOK Tryd.prog (orG kn1) B := okG_cons okG_nil rfl run1
abbrev glp : List (Nat × AObj) := [(0, .gone), (1, .gone), (2, .gone), (3, .gone), (4, .gone), (5, .gone)]
abbrev coals : AObj := .cells ([⟨1, 1, 3, 4, 10, 12, true⟩, ⟨2, 3, 5, 5, 20, 20, false⟩, ⟨4, 6, 2, 2, 5, 5, false⟩].map Col).flatten 33 2
abbrev touches : AObj := .cells [VJ 0, VJ 1, VJ 1, VJ 2] 28 2
abbrev kettle (sing boil : Int) : Value := .agg #[VJ 10, VJ 200, VJ 200, VJ 200, VJ 100, VJ 100000, VJ sing, VJ boil]
abbrev fireAt (b : Nat) : Value := .agg #[.slice (some ⟨b, 0, none⟩) 3 0, .slice (some ⟨b + 1, 0, none⟩) 2 0]
abbrev patAt (b : Nat) : List (Nat × AObj) := glp ++ [(b, coals), (b + 1, touches)]
abbrev lay1 : MemoR := ⟨32, [kettle 400 900, fireAt 28, nilS, VJ 3, VJ 5], 30, patAt 28, [VJ 0], 3, 1, [VJ 0]⟩
abbrev lay2 : Memo := ⟨32, [kettle 400 900, fireAt 49, nilS, VJ 6, VJ 6], 51, patAt 49, .tuple #[nilS, VJ 7]⟩
abbrev lay3 : MemoR := ⟨32, [kettle 600 1000, fireAt 66, nilS, VJ 4, VJ 6], 68, patAt 66, [VJ 0, VJ 1], 3, 2, [VJ 0]⟩
abbrev sings1 : MemoR := ⟨11, [kettle 400 900, fireAt 472, nilS, VJ 4], 474, patAt 472, [VJ 2, VJ 2, VJ 3, VJ 1, VJ 3], 3, 5, [VJ 0]⟩
abbrev when1 : Memo := ⟨13, [kettle 400 900, fireAt 493, nilS, VJ 4], 495, patAt 493, .tuple #[VJ 3, VJ 2, VJ 0]⟩
abbrev run1m : MemoR := ⟨14, [kettle 400 900, fireAt 513, .slice (some ⟨515, 0, none⟩) 1 0, VJ 1], 516, patAt 513 ++ [(515, .cells [VJ 1, VJ 10, VJ 100] 52 2)], [VJ 200, VJ 200, VJ 200, VJ 210], 30, 2, [VJ 0]⟩
abbrev run2m : MemoR := ⟨14, [kettle 400 900, fireAt 535, nilS, VJ 4], 537, patAt 535, [VJ 200, VJ 200, VJ 300, VJ 320, VJ 390, VJ 428, VJ 471, VJ 726, VJ 643, VJ 994], 30, 5, [VJ 0]⟩
end Go.Proofs.YtglkphjjinmgmaaDoor
