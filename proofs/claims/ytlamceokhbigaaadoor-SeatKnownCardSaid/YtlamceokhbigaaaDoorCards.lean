/-
  DERIVED. GIVEN WITH THE SEED: THE CARDS: each row of YtlamceokhbigaaaDoorRows.lean that lists a variable, with what it lists TIED to the program's text (the seventh form; the later family's looks); each row that meets fmt, with fmt's text TOLD by the authors' own Lean function (tested against real Go, not proved from fmt's source: count such statements apart). THE CARD IS WHAT COUNTS. Prove the row's statement (the work); the ties are given (YtlamceokhbigaaaDoorTie.lean); close each card by the builder's one call (the guide's Derived/Test/ToyasCard.lean, 'card_holds'). Laid BY PROGRAM, IN A SANDBOX (cutbox-door.mjs). By AI agents, Wed Nov 11 2026. No macro, syntax, notation, axiom, sorry.
-/
import Derived.Test.YtlamceokhbigaaaDoorRows
import GoSem.ClaimSeven
namespace Go.Proofs.YtlamceokhbigaaaDoor
namespace Rows

/-- THE TIED CARD OF 'aloeswoodlaw08.SeatKnown'. -/
def seatKnownCard : Claim7 := { stood := { row := seatKnownRow, standIns := [], harness := (true, "bca11e6881380d5f1e97f9bf325321dc80209f20bd96adb213b6ce5a7912ec97"), looks := false }, kinds := [], alts := [], laidByText := true, laidKinds := [.data, .data, .data], laidTests := true, laidLooks := .later }
def SeatKnownCardSaid : Prop := Claim7.holds Tryd.pinned (.plain (OpenSpec.ofChange seatKnownSpec)) seatKnownCard

/-- THE SECOND FORM's CARD OF 'aloeswoodlaw08.SeatKnown'. -/
def seatKnownUptoCard : Claim7 := { stood := { row := seatKnownUptoRow, standIns := [], harness := (true, "bca11e6881380d5f1e97f9bf325321dc80209f20bd96adb213b6ce5a7912ec97"), looks := false }, kinds := [], alts := [], laidByText := true, laidKinds := [.data, .data, .data], laidTests := true, laidLooks := .later }
def SeatKnownUptoCardSaid : Prop := Claim7.holds Tryd.pinned (.plain (OpenSpec.upto seatKnownSpec)) seatKnownUptoCard
end Rows
end Go.Proofs.YtlamceokhbigaaaDoor
