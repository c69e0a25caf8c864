/-
  No cell of these rows narrows 'for every input' (looked for: loops, veiled, ifaces, maps, wideKeys, modest, calm, conditions, laid).
  DERIVED. THE GIVEN ROWS OF THIS SEAT. 10 by the template 'for every input the law returns true; each argument reads behind the call as it read before'; 0 by the template 'total and deterministic' (their statements: YtglkphjjinmgmaaTotals.lean).
  GIVEN WITH THE SEED: the statements are not yours to turn. If you find one false, say at which input.
  Laid BY PROGRAM, IN A SANDBOX (cutbox-rows.mjs): the forced cells as the released guide's own fill.sh prints them over the translation d305ea196bc2aacf… (all of the seat's roots in one cut). By AI agents, Wed Nov 11 2026. No macro, syntax, notation, axiom, sorry.
-/
import Derived.Test.YtglkphjjinmgmaaChecked
import GoSem.Claim
import GoSem.ClaimJoined
import GoSem.ClaimMapViews
import Derived.JoinedTies
import Derived.KernelRfl
namespace Go.Proofs.Ytglkphjjinmgmaa
/- THE CELL 'sum', in the pinned program and in every row, IS THE sha256 OF THE DUMP (.gsa) THAT YtglkphjjinmgmaaProg.lean LOADS. Nothing in Lean hashes anything: it is a label: what it is worth is what the hold of that sum in a sandbox is worth. -/
noncomputable def Try.pinned : Pinned := { name := "ytglkphjjinmgmaa", sum := "d305ea196bc2aacfba3b04145f3d9cf8ee4198fd2388cea9deb39378541afc75", checked := Try.checked }
namespace Rows
def none {H : Type} : Left H := { results := [], args := [] }

/-- 'aloeswoodlaw07.HearthChecks': WHATEVER THE INPUT: true; the input reads as it did. -/
def hearthChecksSpec : ChangeSpec := { name := "hearthChecks", fn := fun _ => fun
  | [d1, d2, d3, d4, d5, d6] => { results := [.lit (.bool true)], args := [d1, d2, d3, d4, d5, d6] }
  | _ => none }
def hearthChecksRow : OpenClaim := { program := "ytglkphjjinmgmaa", sum := "d305ea196bc2aacfba3b04145f3d9cf8ee4198fd2388cea9deb39378541afc75", func := "aloeswood/aloeswoodlaw07.HearthChecks", spec := "hearthChecks", unfollowed := true, recurses := true, plainKeys := false, apart := false }
def HearthChecksSaid : Prop := hearthChecksRow.holds Try.pinned (OpenSpec.ofChange hearthChecksSpec)

/-- ITS FALSE NEIGHBOUR: 'it returns false'. Refute it at one input. -/
def hearthChecksWrong : ChangeSpec := { name := "hearthChecks", fn := fun _ => fun
  | [d1, d2, d3, d4, d5, d6] => { results := [.lit (.bool false)], args := [d1, d2, d3, d4, d5, d6] }
  | _ => none }
def HearthChecksWrongFalsely : Prop := hearthChecksRow.holds Try.pinned (OpenSpec.ofChange hearthChecksWrong)

/-- 'aloeswoodlaw07.HearthRuns': WHATEVER THE INPUT: true; the input reads as it did. -/
def hearthRunsSpec : ChangeSpec := { name := "hearthRuns", fn := fun _ => fun
  | [d1, d2, d3, d4, d5] => { results := [.lit (.bool true)], args := [d1, d2, d3, d4, d5] }
  | _ => none }
def hearthRunsRow : OpenClaim := { program := "ytglkphjjinmgmaa", sum := "d305ea196bc2aacfba3b04145f3d9cf8ee4198fd2388cea9deb39378541afc75", func := "aloeswood/aloeswoodlaw07.HearthRuns", spec := "hearthRuns", unfollowed := true, recurses := true, plainKeys := false, apart := false }
def HearthRunsSaid : Prop := hearthRunsRow.holds Try.pinned (OpenSpec.ofChange hearthRunsSpec)

/-- ITS FALSE NEIGHBOUR: 'it returns false'. Refute it at one input. -/
def hearthRunsWrong : ChangeSpec := { name := "hearthRuns", fn := fun _ => fun
  | [d1, d2, d3, d4, d5] => { results := [.lit (.bool false)], args := [d1, d2, d3, d4, d5] }
  | _ => none }
def HearthRunsWrongFalsely : Prop := hearthRunsRow.holds Try.pinned (OpenSpec.ofChange hearthRunsWrong)

/-- 'aloeswoodlaw07.HearthLays': WHATEVER THE INPUT: true; the input reads as it did. -/
def hearthLaysSpec : ChangeSpec := { name := "hearthLays", fn := fun _ => fun
  | [d1, d2, d3, d4, d5, d6] => { results := [.lit (.bool true)], args := [d1, d2, d3, d4, d5, d6] }
  | _ => none }
def hearthLaysRow : OpenClaim := { program := "ytglkphjjinmgmaa", sum := "d305ea196bc2aacfba3b04145f3d9cf8ee4198fd2388cea9deb39378541afc75", func := "aloeswood/aloeswoodlaw07.HearthLays", spec := "hearthLays", unfollowed := true, recurses := true, plainKeys := false, apart := false }
def HearthLaysSaid : Prop := hearthLaysRow.holds Try.pinned (OpenSpec.ofChange hearthLaysSpec)

/-- ITS FALSE NEIGHBOUR: 'it returns false'. Refute it at one input. -/
def hearthLaysWrong : ChangeSpec := { name := "hearthLays", fn := fun _ => fun
  | [d1, d2, d3, d4, d5, d6] => { results := [.lit (.bool false)], args := [d1, d2, d3, d4, d5, d6] }
  | _ => none }
def HearthLaysWrongFalsely : Prop := hearthLaysRow.holds Try.pinned (OpenSpec.ofChange hearthLaysWrong)

/-- 'aloeswoodlaw07.HearthFire': WHATEVER THE INPUT: true; the input reads as it did. -/
def hearthFireSpec : ChangeSpec := { name := "hearthFire", fn := fun _ => fun
  | [d] => { results := [.lit (.bool true)], args := [d] }
  | _ => none }
def hearthFireRow : OpenClaim := { program := "ytglkphjjinmgmaa", sum := "d305ea196bc2aacfba3b04145f3d9cf8ee4198fd2388cea9deb39378541afc75", func := "aloeswood/aloeswoodlaw07.HearthFire", spec := "hearthFire", unfollowed := true, recurses := true, plainKeys := false, apart := false }
def HearthFireSaid : Prop := hearthFireRow.holds Try.pinned (OpenSpec.ofChange hearthFireSpec)

/-- ITS FALSE NEIGHBOUR: 'it returns false'. Refute it at one input. -/
def hearthFireWrong : ChangeSpec := { name := "hearthFire", fn := fun _ => fun
  | [d] => { results := [.lit (.bool false)], args := [d] }
  | _ => none }
def HearthFireWrongFalsely : Prop := hearthFireRow.holds Try.pinned (OpenSpec.ofChange hearthFireWrong)

/-- 'aloeswoodlaw07.HearthEnds': WHATEVER THE INPUT: true; the input reads as it did. -/
def hearthEndsSpec : ChangeSpec := { name := "hearthEnds", fn := fun _ => fun
  | [d] => { results := [.lit (.bool true)], args := [d] }
  | _ => none }
def hearthEndsRow : OpenClaim := { program := "ytglkphjjinmgmaa", sum := "d305ea196bc2aacfba3b04145f3d9cf8ee4198fd2388cea9deb39378541afc75", func := "aloeswood/aloeswoodlaw07.HearthEnds", spec := "hearthEnds", unfollowed := true, recurses := true, plainKeys := false, apart := false }
def HearthEndsSaid : Prop := hearthEndsRow.holds Try.pinned (OpenSpec.ofChange hearthEndsSpec)

/-- ITS FALSE NEIGHBOUR: 'it returns false'. Refute it at one input. -/
def hearthEndsWrong : ChangeSpec := { name := "hearthEnds", fn := fun _ => fun
  | [d] => { results := [.lit (.bool false)], args := [d] }
  | _ => none }
def HearthEndsWrongFalsely : Prop := hearthEndsRow.holds Try.pinned (OpenSpec.ofChange hearthEndsWrong)

/-- 'aloeswoodlaw07.HearthWarmth': WHATEVER THE INPUT: true; the input reads as it did. -/
def hearthWarmthSpec : ChangeSpec := { name := "hearthWarmth", fn := fun _ => fun
  | [d] => { results := [.lit (.bool true)], args := [d] }
  | _ => none }
def hearthWarmthRow : OpenClaim := { program := "ytglkphjjinmgmaa", sum := "d305ea196bc2aacfba3b04145f3d9cf8ee4198fd2388cea9deb39378541afc75", func := "aloeswood/aloeswoodlaw07.HearthWarmth", spec := "hearthWarmth", unfollowed := true, recurses := true, plainKeys := false, apart := false }
def HearthWarmthSaid : Prop := hearthWarmthRow.holds Try.pinned (OpenSpec.ofChange hearthWarmthSpec)

/-- ITS FALSE NEIGHBOUR: 'it returns false'. Refute it at one input. -/
def hearthWarmthWrong : ChangeSpec := { name := "hearthWarmth", fn := fun _ => fun
  | [d] => { results := [.lit (.bool false)], args := [d] }
  | _ => none }
def HearthWarmthWrongFalsely : Prop := hearthWarmthRow.holds Try.pinned (OpenSpec.ofChange hearthWarmthWrong)

/-- 'aloeswoodlaw07.HearthNarrows': WHATEVER THE INPUT: true; the input reads as it did. -/
def hearthNarrowsSpec : ChangeSpec := { name := "hearthNarrows", fn := fun _ => fun
  | [d] => { results := [.lit (.bool true)], args := [d] }
  | _ => none }
def hearthNarrowsRow : OpenClaim := { program := "ytglkphjjinmgmaa", sum := "d305ea196bc2aacfba3b04145f3d9cf8ee4198fd2388cea9deb39378541afc75", func := "aloeswood/aloeswoodlaw07.HearthNarrows", spec := "hearthNarrows", unfollowed := true, recurses := true, plainKeys := false, apart := false }
def HearthNarrowsSaid : Prop := hearthNarrowsRow.holds Try.pinned (OpenSpec.ofChange hearthNarrowsSpec)

/-- ITS FALSE NEIGHBOUR: 'it returns false'. Refute it at one input. -/
def hearthNarrowsWrong : ChangeSpec := { name := "hearthNarrows", fn := fun _ => fun
  | [d] => { results := [.lit (.bool false)], args := [d] }
  | _ => none }
def HearthNarrowsWrongFalsely : Prop := hearthNarrowsRow.holds Try.pinned (OpenSpec.ofChange hearthNarrowsWrong)

/-- 'aloeswoodlaw07.HearthMore': WHATEVER THE INPUT: true; the input reads as it did. -/
def hearthMoreSpec : ChangeSpec := { name := "hearthMore", fn := fun _ => fun
  | [d] => { results := [.lit (.bool true)], args := [d] }
  | _ => none }
def hearthMoreRow : OpenClaim := { program := "ytglkphjjinmgmaa", sum := "d305ea196bc2aacfba3b04145f3d9cf8ee4198fd2388cea9deb39378541afc75", func := "aloeswood/aloeswoodlaw07.HearthMore", spec := "hearthMore", unfollowed := true, recurses := true, plainKeys := false, apart := false }
def HearthMoreSaid : Prop := hearthMoreRow.holds Try.pinned (OpenSpec.ofChange hearthMoreSpec)

/-- ITS FALSE NEIGHBOUR: 'it returns false'. Refute it at one input. -/
def hearthMoreWrong : ChangeSpec := { name := "hearthMore", fn := fun _ => fun
  | [d] => { results := [.lit (.bool false)], args := [d] }
  | _ => none }
def HearthMoreWrongFalsely : Prop := hearthMoreRow.holds Try.pinned (OpenSpec.ofChange hearthMoreWrong)

/-- 'aloeswoodlaw07.HearthFewest': WHATEVER THE INPUT: true; the input reads as it did. -/
def hearthFewestSpec : ChangeSpec := { name := "hearthFewest", fn := fun _ => fun
  | [d] => { results := [.lit (.bool true)], args := [d] }
  | _ => none }
def hearthFewestRow : OpenClaim := { program := "ytglkphjjinmgmaa", sum := "d305ea196bc2aacfba3b04145f3d9cf8ee4198fd2388cea9deb39378541afc75", func := "aloeswood/aloeswoodlaw07.HearthFewest", spec := "hearthFewest", unfollowed := true, recurses := true, plainKeys := false, apart := false }
def HearthFewestSaid : Prop := hearthFewestRow.holds Try.pinned (OpenSpec.ofChange hearthFewestSpec)

/-- ITS FALSE NEIGHBOUR: 'it returns false'. Refute it at one input. -/
def hearthFewestWrong : ChangeSpec := { name := "hearthFewest", fn := fun _ => fun
  | [d] => { results := [.lit (.bool false)], args := [d] }
  | _ => none }
def HearthFewestWrongFalsely : Prop := hearthFewestRow.holds Try.pinned (OpenSpec.ofChange hearthFewestWrong)

/-- 'aloeswoodlaw07.HearthCalm': WHATEVER THE INPUT: true; the input reads as it did. -/
def hearthCalmSpec : ChangeSpec := { name := "hearthCalm", fn := fun _ => fun
  | [d] => { results := [.lit (.bool true)], args := [d] }
  | _ => none }
def hearthCalmRow : OpenClaim := { program := "ytglkphjjinmgmaa", sum := "d305ea196bc2aacfba3b04145f3d9cf8ee4198fd2388cea9deb39378541afc75", func := "aloeswood/aloeswoodlaw07.HearthCalm", spec := "hearthCalm", unfollowed := true, recurses := true, plainKeys := false, apart := false }
def HearthCalmSaid : Prop := hearthCalmRow.holds Try.pinned (OpenSpec.ofChange hearthCalmSpec)

/-- ITS FALSE NEIGHBOUR: 'it returns false'. Refute it at one input. -/
def hearthCalmWrong : ChangeSpec := { name := "hearthCalm", fn := fun _ => fun
  | [d] => { results := [.lit (.bool false)], args := [d] }
  | _ => none }
def HearthCalmWrongFalsely : Prop := hearthCalmRow.holds Try.pinned (OpenSpec.ofChange hearthCalmWrong)

/- THE SECOND FORM. 'bulk': how many values and letters a reading holds, each counted each time it is reached (what is shared counts as often as it is met; a slice's spare places count too). A statement '..UptoSaid' is the law's where the arguments, and the package variables that the reading takes, are together of bulk at most 1048576: NARROWER than '..Said'. Prove '..Said' where nothing that the law and all that it calls make is longer than what came in: it says more and counts as full. Else prove '..UptoSaid'. A law counts once. -/
mutual
def uptoBulk {H : Type} : DataW H → Nat
  | .lit (.string bytes) => bytes.length + 1
  | .lit _ => 1
  | .nil => 1
  | .ptr d => uptoBulk d + 1
  | .slice elems spare => uptoBulkAll elems + uptoBulkAll spare + 1
  | .agg parts => uptoBulkAll parts + 1
  | .iface _ d => uptoBulk d + 1
  | .map entries => uptoBulkEntries entries + 1
  | .held _ => 1
def uptoBulkAll {H : Type} : List (DataW H) → Nat
  | [] => 0
  | d :: r => uptoBulk d + uptoBulkAll r
def uptoBulkEntries {H : Type} : List (Lit × DataW H) → Nat
  | [] => 0
  | x :: r => uptoBulkEntry x + uptoBulkEntries r
def uptoBulkEntry {H : Type} : Lit × DataW H → Nat
  | (.string bytes, d) => bytes.length + uptoBulk d + 1
  | (_, d) => uptoBulk d + 1
 end
def uptoSmall : (H : Type) → List (DataW H) → Bool := fun _ ds => decide (uptoBulkAll ds ≤ 1048576)
def OpenSpec.upto (s : _root_.Go.ChangeSpec) : _root_.Go.OpenSpec := { _root_.Go.OpenSpec.ofChange s with cond := some uptoSmall }

/-- 'aloeswoodlaw07.HearthChecks', WHERE WHAT IT READS IS OF BULK AT MOST 1048576: true; the input reads as it did. -/
def hearthChecksUptoRow : OpenClaim := { program := "ytglkphjjinmgmaa", sum := "d305ea196bc2aacfba3b04145f3d9cf8ee4198fd2388cea9deb39378541afc75", func := "aloeswood/aloeswoodlaw07.HearthChecks", spec := "hearthChecks", unfollowed := true, recurses := true, plainKeys := false, apart := false, narrowed := true }
def HearthChecksUptoSaid : Prop := hearthChecksUptoRow.holds Try.pinned (OpenSpec.upto hearthChecksSpec)

/-- 'aloeswoodlaw07.HearthRuns', WHERE WHAT IT READS IS OF BULK AT MOST 1048576: true; the input reads as it did. -/
def hearthRunsUptoRow : OpenClaim := { program := "ytglkphjjinmgmaa", sum := "d305ea196bc2aacfba3b04145f3d9cf8ee4198fd2388cea9deb39378541afc75", func := "aloeswood/aloeswoodlaw07.HearthRuns", spec := "hearthRuns", unfollowed := true, recurses := true, plainKeys := false, apart := false, narrowed := true }
def HearthRunsUptoSaid : Prop := hearthRunsUptoRow.holds Try.pinned (OpenSpec.upto hearthRunsSpec)

/-- 'aloeswoodlaw07.HearthLays', WHERE WHAT IT READS IS OF BULK AT MOST 1048576: true; the input reads as it did. -/
def hearthLaysUptoRow : OpenClaim := { program := "ytglkphjjinmgmaa", sum := "d305ea196bc2aacfba3b04145f3d9cf8ee4198fd2388cea9deb39378541afc75", func := "aloeswood/aloeswoodlaw07.HearthLays", spec := "hearthLays", unfollowed := true, recurses := true, plainKeys := false, apart := false, narrowed := true }
def HearthLaysUptoSaid : Prop := hearthLaysUptoRow.holds Try.pinned (OpenSpec.upto hearthLaysSpec)

/-- 'aloeswoodlaw07.HearthFire', WHERE WHAT IT READS IS OF BULK AT MOST 1048576: true; the input reads as it did. -/
def hearthFireUptoRow : OpenClaim := { program := "ytglkphjjinmgmaa", sum := "d305ea196bc2aacfba3b04145f3d9cf8ee4198fd2388cea9deb39378541afc75", func := "aloeswood/aloeswoodlaw07.HearthFire", spec := "hearthFire", unfollowed := true, recurses := true, plainKeys := false, apart := false, narrowed := true }
def HearthFireUptoSaid : Prop := hearthFireUptoRow.holds Try.pinned (OpenSpec.upto hearthFireSpec)

/-- 'aloeswoodlaw07.HearthEnds', WHERE WHAT IT READS IS OF BULK AT MOST 1048576: true; the input reads as it did. -/
def hearthEndsUptoRow : OpenClaim := { program := "ytglkphjjinmgmaa", sum := "d305ea196bc2aacfba3b04145f3d9cf8ee4198fd2388cea9deb39378541afc75", func := "aloeswood/aloeswoodlaw07.HearthEnds", spec := "hearthEnds", unfollowed := true, recurses := true, plainKeys := false, apart := false, narrowed := true }
def HearthEndsUptoSaid : Prop := hearthEndsUptoRow.holds Try.pinned (OpenSpec.upto hearthEndsSpec)

/-- 'aloeswoodlaw07.HearthWarmth', WHERE WHAT IT READS IS OF BULK AT MOST 1048576: true; the input reads as it did. -/
def hearthWarmthUptoRow : OpenClaim := { program := "ytglkphjjinmgmaa", sum := "d305ea196bc2aacfba3b04145f3d9cf8ee4198fd2388cea9deb39378541afc75", func := "aloeswood/aloeswoodlaw07.HearthWarmth", spec := "hearthWarmth", unfollowed := true, recurses := true, plainKeys := false, apart := false, narrowed := true }
def HearthWarmthUptoSaid : Prop := hearthWarmthUptoRow.holds Try.pinned (OpenSpec.upto hearthWarmthSpec)

/-- 'aloeswoodlaw07.HearthNarrows', WHERE WHAT IT READS IS OF BULK AT MOST 1048576: true; the input reads as it did. -/
def hearthNarrowsUptoRow : OpenClaim := { program := "ytglkphjjinmgmaa", sum := "d305ea196bc2aacfba3b04145f3d9cf8ee4198fd2388cea9deb39378541afc75", func := "aloeswood/aloeswoodlaw07.HearthNarrows", spec := "hearthNarrows", unfollowed := true, recurses := true, plainKeys := false, apart := false, narrowed := true }
def HearthNarrowsUptoSaid : Prop := hearthNarrowsUptoRow.holds Try.pinned (OpenSpec.upto hearthNarrowsSpec)

/-- 'aloeswoodlaw07.HearthMore', WHERE WHAT IT READS IS OF BULK AT MOST 1048576: true; the input reads as it did. -/
def hearthMoreUptoRow : OpenClaim := { program := "ytglkphjjinmgmaa", sum := "d305ea196bc2aacfba3b04145f3d9cf8ee4198fd2388cea9deb39378541afc75", func := "aloeswood/aloeswoodlaw07.HearthMore", spec := "hearthMore", unfollowed := true, recurses := true, plainKeys := false, apart := false, narrowed := true }
def HearthMoreUptoSaid : Prop := hearthMoreUptoRow.holds Try.pinned (OpenSpec.upto hearthMoreSpec)

/-- 'aloeswoodlaw07.HearthFewest', WHERE WHAT IT READS IS OF BULK AT MOST 1048576: true; the input reads as it did. -/
def hearthFewestUptoRow : OpenClaim := { program := "ytglkphjjinmgmaa", sum := "d305ea196bc2aacfba3b04145f3d9cf8ee4198fd2388cea9deb39378541afc75", func := "aloeswood/aloeswoodlaw07.HearthFewest", spec := "hearthFewest", unfollowed := true, recurses := true, plainKeys := false, apart := false, narrowed := true }
def HearthFewestUptoSaid : Prop := hearthFewestUptoRow.holds Try.pinned (OpenSpec.upto hearthFewestSpec)

/-- 'aloeswoodlaw07.HearthCalm', WHERE WHAT IT READS IS OF BULK AT MOST 1048576: true; the input reads as it did. -/
def hearthCalmUptoRow : OpenClaim := { program := "ytglkphjjinmgmaa", sum := "d305ea196bc2aacfba3b04145f3d9cf8ee4198fd2388cea9deb39378541afc75", func := "aloeswood/aloeswoodlaw07.HearthCalm", spec := "hearthCalm", unfollowed := true, recurses := true, plainKeys := false, apart := false, narrowed := true }
def HearthCalmUptoSaid : Prop := hearthCalmUptoRow.holds Try.pinned (OpenSpec.upto hearthCalmSpec)

end Rows
end Go.Proofs.Ytglkphjjinmgmaa
