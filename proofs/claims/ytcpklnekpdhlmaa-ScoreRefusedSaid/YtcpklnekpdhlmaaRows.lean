/-
  No cell of these rows narrows 'for every input' (looked for: loops, veiled, ifaces, maps, wideKeys, modest, calm, conditions, laid).
  DERIVED. THE GIVEN ROWS OF THIS SEAT. 10 by the template 'for every input the law returns true; each argument reads behind the call as it read before'; 0 by the template 'total and deterministic' (their statements: YtcpklnekpdhlmaaTotals.lean).
  GIVEN WITH THE SEED: the statements are not yours to turn. If you find one false, say at which input.
  Laid BY PROGRAM, IN A SANDBOX (cutbox-rows.mjs): the forced cells as the released guide's own fill.sh prints them over the translation a5812f8032086a17… (all of the seat's roots in one cut). By AI agents, Wed Nov 11 2026. No macro, syntax, notation, axiom, sorry.
-/
import Derived.Test.YtcpklnekpdhlmaaChecked
import GoSem.Claim
import GoSem.ClaimJoined
import GoSem.ClaimMapViews
import Derived.JoinedTies
import Derived.KernelRfl
namespace Go.Proofs.Ytcpklnekpdhlmaa
/- THE CELL 'sum', in the pinned program and in every row, IS THE sha256 OF THE DUMP (.gsa) THAT YtcpklnekpdhlmaaProg.lean LOADS. Nothing in Lean hashes anything: it is a label: what it is worth is what the hold of that sum in a sandbox is worth. -/
noncomputable def Try.pinned : Pinned := { name := "ytcpklnekpdhlmaa", sum := "a5812f8032086a172647a4f8d68ffbdf996ce875201872040e48b02ed8d959bf", checked := Try.checked }
namespace Rows
def none {H : Type} : Left H := { results := [], args := [] }

/-- 'aloeswoodlaw03.ScoreChecks': WHATEVER THE INPUT: true; the input reads as it did. -/
def scoreChecksSpec : ChangeSpec := { name := "scoreChecks", fn := fun _ => fun
  | [d1, d2, d3, d4] => { results := [.lit (.bool true)], args := [d1, d2, d3, d4] }
  | _ => none }
def scoreChecksRow : OpenClaim := { program := "ytcpklnekpdhlmaa", sum := "a5812f8032086a172647a4f8d68ffbdf996ce875201872040e48b02ed8d959bf", func := "aloeswood/aloeswoodlaw03.ScoreChecks", spec := "scoreChecks", unfollowed := true, recurses := true, apart := false }
def ScoreChecksSaid : Prop := scoreChecksRow.holds Try.pinned (OpenSpec.ofChange scoreChecksSpec)

/-- ITS FALSE NEIGHBOUR: 'it returns false'. Refute it at one input. -/
def scoreChecksWrong : ChangeSpec := { name := "scoreChecks", fn := fun _ => fun
  | [d1, d2, d3, d4] => { results := [.lit (.bool false)], args := [d1, d2, d3, d4] }
  | _ => none }
def ScoreChecksWrongFalsely : Prop := scoreChecksRow.holds Try.pinned (OpenSpec.ofChange scoreChecksWrong)

/-- 'aloeswoodlaw03.ScoreRanks': WHATEVER THE INPUT: true; the input reads as it did. -/
def scoreRanksSpec : ChangeSpec := { name := "scoreRanks", fn := fun _ => fun
  | [d1, d2, d3, d4] => { results := [.lit (.bool true)], args := [d1, d2, d3, d4] }
  | _ => none }
def scoreRanksRow : OpenClaim := { program := "ytcpklnekpdhlmaa", sum := "a5812f8032086a172647a4f8d68ffbdf996ce875201872040e48b02ed8d959bf", func := "aloeswood/aloeswoodlaw03.ScoreRanks", spec := "scoreRanks", unfollowed := true, recurses := true, apart := false }
def ScoreRanksSaid : Prop := scoreRanksRow.holds Try.pinned (OpenSpec.ofChange scoreRanksSpec)

/-- ITS FALSE NEIGHBOUR: 'it returns false'. Refute it at one input. -/
def scoreRanksWrong : ChangeSpec := { name := "scoreRanks", fn := fun _ => fun
  | [d1, d2, d3, d4] => { results := [.lit (.bool false)], args := [d1, d2, d3, d4] }
  | _ => none }
def ScoreRanksWrongFalsely : Prop := scoreRanksRow.holds Try.pinned (OpenSpec.ofChange scoreRanksWrong)

/-- 'aloeswoodlaw03.ScoreDeeds': WHATEVER THE INPUT: true; the input reads as it did. -/
def scoreDeedsSpec : ChangeSpec := { name := "scoreDeeds", fn := fun _ => fun
  | [d1, d2, d3] => { results := [.lit (.bool true)], args := [d1, d2, d3] }
  | _ => none }
def scoreDeedsRow : OpenClaim := { program := "ytcpklnekpdhlmaa", sum := "a5812f8032086a172647a4f8d68ffbdf996ce875201872040e48b02ed8d959bf", func := "aloeswood/aloeswoodlaw03.ScoreDeeds", spec := "scoreDeeds", unfollowed := true, recurses := true, apart := false }
def ScoreDeedsSaid : Prop := scoreDeedsRow.holds Try.pinned (OpenSpec.ofChange scoreDeedsSpec)

/-- ITS FALSE NEIGHBOUR: 'it returns false'. Refute it at one input. -/
def scoreDeedsWrong : ChangeSpec := { name := "scoreDeeds", fn := fun _ => fun
  | [d1, d2, d3] => { results := [.lit (.bool false)], args := [d1, d2, d3] }
  | _ => none }
def ScoreDeedsWrongFalsely : Prop := scoreDeedsRow.holds Try.pinned (OpenSpec.ofChange scoreDeedsWrong)

/-- 'aloeswoodlaw03.ScoreRefused': WHATEVER THE INPUT: true; the input reads as it did. -/
def scoreRefusedSpec : ChangeSpec := { name := "scoreRefused", fn := fun _ => fun
  | [d] => { results := [.lit (.bool true)], args := [d] }
  | _ => none }
def scoreRefusedRow : OpenClaim := { program := "ytcpklnekpdhlmaa", sum := "a5812f8032086a172647a4f8d68ffbdf996ce875201872040e48b02ed8d959bf", func := "aloeswood/aloeswoodlaw03.ScoreRefused", spec := "scoreRefused", unfollowed := true, recurses := true, apart := false }
def ScoreRefusedSaid : Prop := scoreRefusedRow.holds Try.pinned (OpenSpec.ofChange scoreRefusedSpec)

/-- ITS FALSE NEIGHBOUR: 'it returns false'. Refute it at one input. -/
def scoreRefusedWrong : ChangeSpec := { name := "scoreRefused", fn := fun _ => fun
  | [d] => { results := [.lit (.bool false)], args := [d] }
  | _ => none }
def ScoreRefusedWrongFalsely : Prop := scoreRefusedRow.holds Try.pinned (OpenSpec.ofChange scoreRefusedWrong)

/-- 'aloeswoodlaw03.ScoreOrder': WHATEVER THE INPUT: true; the input reads as it did. -/
def scoreOrderSpec : ChangeSpec := { name := "scoreOrder", fn := fun _ => fun
  | [d] => { results := [.lit (.bool true)], args := [d] }
  | _ => none }
def scoreOrderRow : OpenClaim := { program := "ytcpklnekpdhlmaa", sum := "a5812f8032086a172647a4f8d68ffbdf996ce875201872040e48b02ed8d959bf", func := "aloeswood/aloeswoodlaw03.ScoreOrder", spec := "scoreOrder", unfollowed := true, recurses := true, apart := false }
def ScoreOrderSaid : Prop := scoreOrderRow.holds Try.pinned (OpenSpec.ofChange scoreOrderSpec)

/-- ITS FALSE NEIGHBOUR: 'it returns false'. Refute it at one input. -/
def scoreOrderWrong : ChangeSpec := { name := "scoreOrder", fn := fun _ => fun
  | [d] => { results := [.lit (.bool false)], args := [d] }
  | _ => none }
def ScoreOrderWrongFalsely : Prop := scoreOrderRow.holds Try.pinned (OpenSpec.ofChange scoreOrderWrong)

/-- 'aloeswoodlaw03.ScoreNames': WHATEVER THE INPUT: true; the input reads as it did. -/
def scoreNamesSpec : ChangeSpec := { name := "scoreNames", fn := fun _ => fun
  | [d] => { results := [.lit (.bool true)], args := [d] }
  | _ => none }
def scoreNamesRow : OpenClaim := { program := "ytcpklnekpdhlmaa", sum := "a5812f8032086a172647a4f8d68ffbdf996ce875201872040e48b02ed8d959bf", func := "aloeswood/aloeswoodlaw03.ScoreNames", spec := "scoreNames", unfollowed := true, recurses := true, apart := false }
def ScoreNamesSaid : Prop := scoreNamesRow.holds Try.pinned (OpenSpec.ofChange scoreNamesSpec)

/-- ITS FALSE NEIGHBOUR: 'it returns false'. Refute it at one input. -/
def scoreNamesWrong : ChangeSpec := { name := "scoreNames", fn := fun _ => fun
  | [d] => { results := [.lit (.bool false)], args := [d] }
  | _ => none }
def ScoreNamesWrongFalsely : Prop := scoreNamesRow.holds Try.pinned (OpenSpec.ofChange scoreNamesWrong)

/-- 'aloeswoodlaw03.ScoreTruth': WHATEVER THE INPUT: true; the input reads as it did. -/
def scoreTruthSpec : ChangeSpec := { name := "scoreTruth", fn := fun _ => fun
  | [d] => { results := [.lit (.bool true)], args := [d] }
  | _ => none }
def scoreTruthRow : OpenClaim := { program := "ytcpklnekpdhlmaa", sum := "a5812f8032086a172647a4f8d68ffbdf996ce875201872040e48b02ed8d959bf", func := "aloeswood/aloeswoodlaw03.ScoreTruth", spec := "scoreTruth", unfollowed := true, recurses := true, apart := false }
def ScoreTruthSaid : Prop := scoreTruthRow.holds Try.pinned (OpenSpec.ofChange scoreTruthSpec)

/-- ITS FALSE NEIGHBOUR: 'it returns false'. Refute it at one input. -/
def scoreTruthWrong : ChangeSpec := { name := "scoreTruth", fn := fun _ => fun
  | [d] => { results := [.lit (.bool false)], args := [d] }
  | _ => none }
def ScoreTruthWrongFalsely : Prop := scoreTruthRow.holds Try.pinned (OpenSpec.ofChange scoreTruthWrong)

/-- 'aloeswoodlaw03.ScoreSums': WHATEVER THE INPUT: true; the input reads as it did. -/
def scoreSumsSpec : ChangeSpec := { name := "scoreSums", fn := fun _ => fun
  | [d] => { results := [.lit (.bool true)], args := [d] }
  | _ => none }
def scoreSumsRow : OpenClaim := { program := "ytcpklnekpdhlmaa", sum := "a5812f8032086a172647a4f8d68ffbdf996ce875201872040e48b02ed8d959bf", func := "aloeswood/aloeswoodlaw03.ScoreSums", spec := "scoreSums", unfollowed := true, recurses := true, apart := false }
def ScoreSumsSaid : Prop := scoreSumsRow.holds Try.pinned (OpenSpec.ofChange scoreSumsSpec)

/-- ITS FALSE NEIGHBOUR: 'it returns false'. Refute it at one input. -/
def scoreSumsWrong : ChangeSpec := { name := "scoreSums", fn := fun _ => fun
  | [d] => { results := [.lit (.bool false)], args := [d] }
  | _ => none }
def ScoreSumsWrongFalsely : Prop := scoreSumsRow.holds Try.pinned (OpenSpec.ofChange scoreSumsWrong)

/-- 'aloeswoodlaw03.ScorePlaces': WHATEVER THE INPUT: true; the input reads as it did. -/
def scorePlacesSpec : ChangeSpec := { name := "scorePlaces", fn := fun _ => fun
  | [d] => { results := [.lit (.bool true)], args := [d] }
  | _ => none }
def scorePlacesRow : OpenClaim := { program := "ytcpklnekpdhlmaa", sum := "a5812f8032086a172647a4f8d68ffbdf996ce875201872040e48b02ed8d959bf", func := "aloeswood/aloeswoodlaw03.ScorePlaces", spec := "scorePlaces", unfollowed := true, recurses := true, apart := false }
def ScorePlacesSaid : Prop := scorePlacesRow.holds Try.pinned (OpenSpec.ofChange scorePlacesSpec)

/-- ITS FALSE NEIGHBOUR: 'it returns false'. Refute it at one input. -/
def scorePlacesWrong : ChangeSpec := { name := "scorePlaces", fn := fun _ => fun
  | [d] => { results := [.lit (.bool false)], args := [d] }
  | _ => none }
def ScorePlacesWrongFalsely : Prop := scorePlacesRow.holds Try.pinned (OpenSpec.ofChange scorePlacesWrong)

/-- 'aloeswoodtop.TopMoves': WHATEVER THE INPUT: true; the input reads as it did. -/
def topMovesSpec : ChangeSpec := { name := "topMoves", fn := fun _ => fun
  | [d] => { results := [.lit (.bool true)], args := [d] }
  | _ => none }
def topMovesRow : OpenClaim := { program := "ytcpklnekpdhlmaa", sum := "a5812f8032086a172647a4f8d68ffbdf996ce875201872040e48b02ed8d959bf", func := "aloeswood/aloeswoodtop.TopMoves", spec := "topMoves", apart := false }
def TopMovesSaid : Prop := topMovesRow.holds Try.pinned (OpenSpec.ofChange topMovesSpec)

/-- ITS FALSE NEIGHBOUR: 'it returns false'. Refute it at one input. -/
def topMovesWrong : ChangeSpec := { name := "topMoves", fn := fun _ => fun
  | [d] => { results := [.lit (.bool false)], args := [d] }
  | _ => none }
def TopMovesWrongFalsely : Prop := topMovesRow.holds Try.pinned (OpenSpec.ofChange topMovesWrong)

/- THE SECOND FORM. 'bulk': how many values and letters a reading holds, each counted each time it is reached (what is shared counts as often as it is met; a slice's spare places count too). A statement '..UptoSaid' is the law's where the arguments, and the package variables that the reading takes, are together of bulk at most 1048576: NARROWER than '..Said'. Prove '..Said' where nothing that the law and all that it calls make is longer than what came in: it says more and counts as full. Else prove '..UptoSaid'. A law counts once. -/
mutual
def uptoBulk {H : Type} : DataW H → Nat
  | .lit (.string bytes) => bytes.length + 1
  | .lit _ => 1
  | .nil => 1
  | .ptr d => uptoBulk d + 1
  | .slice elems spare => uptoBulkAll elems + uptoBulkAll spare + 1
  | .agg parts => uptoBulkAll parts + 1
  | .iface _ d => uptoBulk d + 1
  | .map entries => uptoBulkEntries entries + 1
  | .held _ => 1
def uptoBulkAll {H : Type} : List (DataW H) → Nat
  | [] => 0
  | d :: r => uptoBulk d + uptoBulkAll r
def uptoBulkEntries {H : Type} : List (Lit × DataW H) → Nat
  | [] => 0
  | x :: r => uptoBulkEntry x + uptoBulkEntries r
def uptoBulkEntry {H : Type} : Lit × DataW H → Nat
  | (.string bytes, d) => bytes.length + uptoBulk d + 1
  | (_, d) => uptoBulk d + 1
 end
def uptoSmall : (H : Type) → List (DataW H) → Bool := fun _ ds => decide (uptoBulkAll ds ≤ 1048576)
def OpenSpec.upto (s : _root_.Go.ChangeSpec) : _root_.Go.OpenSpec := { _root_.Go.OpenSpec.ofChange s with cond := some uptoSmall }

/-- 'aloeswoodlaw03.ScoreChecks', WHERE WHAT IT READS IS OF BULK AT MOST 1048576: true; the input reads as it did. -/
def scoreChecksUptoRow : OpenClaim := { program := "ytcpklnekpdhlmaa", sum := "a5812f8032086a172647a4f8d68ffbdf996ce875201872040e48b02ed8d959bf", func := "aloeswood/aloeswoodlaw03.ScoreChecks", spec := "scoreChecks", unfollowed := true, recurses := true, apart := false, narrowed := true }
def ScoreChecksUptoSaid : Prop := scoreChecksUptoRow.holds Try.pinned (OpenSpec.upto scoreChecksSpec)

/-- 'aloeswoodlaw03.ScoreRanks', WHERE WHAT IT READS IS OF BULK AT MOST 1048576: true; the input reads as it did. -/
def scoreRanksUptoRow : OpenClaim := { program := "ytcpklnekpdhlmaa", sum := "a5812f8032086a172647a4f8d68ffbdf996ce875201872040e48b02ed8d959bf", func := "aloeswood/aloeswoodlaw03.ScoreRanks", spec := "scoreRanks", unfollowed := true, recurses := true, apart := false, narrowed := true }
def ScoreRanksUptoSaid : Prop := scoreRanksUptoRow.holds Try.pinned (OpenSpec.upto scoreRanksSpec)

/-- 'aloeswoodlaw03.ScoreDeeds', WHERE WHAT IT READS IS OF BULK AT MOST 1048576: true; the input reads as it did. -/
def scoreDeedsUptoRow : OpenClaim := { program := "ytcpklnekpdhlmaa", sum := "a5812f8032086a172647a4f8d68ffbdf996ce875201872040e48b02ed8d959bf", func := "aloeswood/aloeswoodlaw03.ScoreDeeds", spec := "scoreDeeds", unfollowed := true, recurses := true, apart := false, narrowed := true }
def ScoreDeedsUptoSaid : Prop := scoreDeedsUptoRow.holds Try.pinned (OpenSpec.upto scoreDeedsSpec)

/-- 'aloeswoodlaw03.ScoreRefused', WHERE WHAT IT READS IS OF BULK AT MOST 1048576: true; the input reads as it did. -/
def scoreRefusedUptoRow : OpenClaim := { program := "ytcpklnekpdhlmaa", sum := "a5812f8032086a172647a4f8d68ffbdf996ce875201872040e48b02ed8d959bf", func := "aloeswood/aloeswoodlaw03.ScoreRefused", spec := "scoreRefused", unfollowed := true, recurses := true, apart := false, narrowed := true }
def ScoreRefusedUptoSaid : Prop := scoreRefusedUptoRow.holds Try.pinned (OpenSpec.upto scoreRefusedSpec)

/-- 'aloeswoodlaw03.ScoreOrder', WHERE WHAT IT READS IS OF BULK AT MOST 1048576: true; the input reads as it did. -/
def scoreOrderUptoRow : OpenClaim := { program := "ytcpklnekpdhlmaa", sum := "a5812f8032086a172647a4f8d68ffbdf996ce875201872040e48b02ed8d959bf", func := "aloeswood/aloeswoodlaw03.ScoreOrder", spec := "scoreOrder", unfollowed := true, recurses := true, apart := false, narrowed := true }
def ScoreOrderUptoSaid : Prop := scoreOrderUptoRow.holds Try.pinned (OpenSpec.upto scoreOrderSpec)

/-- 'aloeswoodlaw03.ScoreNames', WHERE WHAT IT READS IS OF BULK AT MOST 1048576: true; the input reads as it did. -/
def scoreNamesUptoRow : OpenClaim := { program := "ytcpklnekpdhlmaa", sum := "a5812f8032086a172647a4f8d68ffbdf996ce875201872040e48b02ed8d959bf", func := "aloeswood/aloeswoodlaw03.ScoreNames", spec := "scoreNames", unfollowed := true, recurses := true, apart := false, narrowed := true }
def ScoreNamesUptoSaid : Prop := scoreNamesUptoRow.holds Try.pinned (OpenSpec.upto scoreNamesSpec)

/-- 'aloeswoodlaw03.ScoreTruth', WHERE WHAT IT READS IS OF BULK AT MOST 1048576: true; the input reads as it did. -/
def scoreTruthUptoRow : OpenClaim := { program := "ytcpklnekpdhlmaa", sum := "a5812f8032086a172647a4f8d68ffbdf996ce875201872040e48b02ed8d959bf", func := "aloeswood/aloeswoodlaw03.ScoreTruth", spec := "scoreTruth", unfollowed := true, recurses := true, apart := false, narrowed := true }
def ScoreTruthUptoSaid : Prop := scoreTruthUptoRow.holds Try.pinned (OpenSpec.upto scoreTruthSpec)

/-- 'aloeswoodlaw03.ScoreSums', WHERE WHAT IT READS IS OF BULK AT MOST 1048576: true; the input reads as it did. -/
def scoreSumsUptoRow : OpenClaim := { program := "ytcpklnekpdhlmaa", sum := "a5812f8032086a172647a4f8d68ffbdf996ce875201872040e48b02ed8d959bf", func := "aloeswood/aloeswoodlaw03.ScoreSums", spec := "scoreSums", unfollowed := true, recurses := true, apart := false, narrowed := true }
def ScoreSumsUptoSaid : Prop := scoreSumsUptoRow.holds Try.pinned (OpenSpec.upto scoreSumsSpec)

/-- 'aloeswoodlaw03.ScorePlaces', WHERE WHAT IT READS IS OF BULK AT MOST 1048576: true; the input reads as it did. -/
def scorePlacesUptoRow : OpenClaim := { program := "ytcpklnekpdhlmaa", sum := "a5812f8032086a172647a4f8d68ffbdf996ce875201872040e48b02ed8d959bf", func := "aloeswood/aloeswoodlaw03.ScorePlaces", spec := "scorePlaces", unfollowed := true, recurses := true, apart := false, narrowed := true }
def ScorePlacesUptoSaid : Prop := scorePlacesUptoRow.holds Try.pinned (OpenSpec.upto scorePlacesSpec)

/-- 'aloeswoodtop.TopMoves', WHERE WHAT IT READS IS OF BULK AT MOST 1048576: true; the input reads as it did. -/
def topMovesUptoRow : OpenClaim := { program := "ytcpklnekpdhlmaa", sum := "a5812f8032086a172647a4f8d68ffbdf996ce875201872040e48b02ed8d959bf", func := "aloeswood/aloeswoodtop.TopMoves", spec := "topMoves", apart := false, narrowed := true }
def TopMovesUptoSaid : Prop := topMovesUptoRow.holds Try.pinned (OpenSpec.upto topMovesSpec)

end Rows
end Go.Proofs.Ytcpklnekpdhlmaa
