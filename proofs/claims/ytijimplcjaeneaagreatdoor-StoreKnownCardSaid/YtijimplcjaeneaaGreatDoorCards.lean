/-
  DERIVED. GIVEN WITH THE SEED: THE CARDS: each row of YtijimplcjaeneaaGreatDoorRows.lean that lists a variable, with what it lists TIED to the program's text (the seventh form; the later family's looks); each row that meets fmt, with fmt's text TOLD by the authors' own Lean function (tested against real Go, not proved from fmt's source: count such statements apart). THE CARD IS WHAT COUNTS. Prove the row's statement (the work); the ties are given (YtijimplcjaeneaaGreatDoorTie.lean); close each card by the builder's one call (the guide's Derived/Test/ToyasCard.lean, 'card_holds'). Laid BY PROGRAM, IN A SANDBOX (cutbox-door.mjs). By AI agents, Wed Nov 11 2026. No macro, syntax, notation, axiom, sorry.
-/
import Derived.Test.YtijimplcjaeneaaGreatDoorRows
import GoSem.ClaimSeven
namespace Go.Proofs.YtijimplcjaeneaaGreatDoor
namespace Rows

/-- THE TIED CARD OF 'aloeswoodlaw09.StoreBoxes'. -/
def storeBoxesCard : Claim7 := { stood := { row := storeBoxesRow, standIns := [], harness := (true, "d35f7f9ce38b55d055e29122927f803e5cff40f74ecff0003641d74b99ca5757"), looks := false }, kinds := [], alts := [], laidByText := true, laidKinds := [.data, .data, .data, .data, .pinned], laidTests := true, laidLooks := .later }
def StoreBoxesCardSaid : Prop := Claim7.holds Tryz.pinned (.plain (OpenSpec.ofChange storeBoxesSpec)) storeBoxesCard

/-- THE TIED CARD OF 'aloeswoodlaw09.StoreKnown'. -/
def storeKnownCard : Claim7 := { stood := { row := storeKnownRow, standIns := [], harness := (true, "d35f7f9ce38b55d055e29122927f803e5cff40f74ecff0003641d74b99ca5757"), looks := false }, kinds := [], alts := [], laidByText := true, laidKinds := [.data, .data, .data], laidTests := true, laidLooks := .later }
def StoreKnownCardSaid : Prop := Claim7.holds Tryz.pinned (.plain (OpenSpec.ofChange storeKnownSpec)) storeKnownCard

/-- THE TIED CARD OF 'aloeswoodlaw09.StoreRead'. -/
def storeReadCard : Claim7 := { stood := { row := storeReadRow, standIns := [], harness := (true, "d35f7f9ce38b55d055e29122927f803e5cff40f74ecff0003641d74b99ca5757"), looks := false }, kinds := [], alts := [], laidByText := true, laidKinds := [.data, .data, .data, .data, .pinned], laidTests := true, laidLooks := .later }
def StoreReadCardSaid : Prop := Claim7.holds Tryz.pinned (.plain (OpenSpec.ofChange storeReadSpec)) storeReadCard

/-- THE SECOND FORM's CARD OF 'aloeswoodlaw09.StoreBoxes'. -/
def storeBoxesUptoCard : Claim7 := { stood := { row := storeBoxesUptoRow, standIns := [], harness := (true, "d35f7f9ce38b55d055e29122927f803e5cff40f74ecff0003641d74b99ca5757"), looks := false }, kinds := [], alts := [], laidByText := true, laidKinds := [.data, .data, .data, .data, .pinned], laidTests := true, laidLooks := .later }
def StoreBoxesUptoCardSaid : Prop := Claim7.holds Tryz.pinned (.plain (OpenSpec.upto storeBoxesSpec)) storeBoxesUptoCard

/-- THE SECOND FORM's CARD OF 'aloeswoodlaw09.StoreKnown'. -/
def storeKnownUptoCard : Claim7 := { stood := { row := storeKnownUptoRow, standIns := [], harness := (true, "d35f7f9ce38b55d055e29122927f803e5cff40f74ecff0003641d74b99ca5757"), looks := false }, kinds := [], alts := [], laidByText := true, laidKinds := [.data, .data, .data], laidTests := true, laidLooks := .later }
def StoreKnownUptoCardSaid : Prop := Claim7.holds Tryz.pinned (.plain (OpenSpec.upto storeKnownSpec)) storeKnownUptoCard

/-- THE SECOND FORM's CARD OF 'aloeswoodlaw09.StoreRead'. -/
def storeReadUptoCard : Claim7 := { stood := { row := storeReadUptoRow, standIns := [], harness := (true, "d35f7f9ce38b55d055e29122927f803e5cff40f74ecff0003641d74b99ca5757"), looks := false }, kinds := [], alts := [], laidByText := true, laidKinds := [.data, .data, .data, .data, .pinned], laidTests := true, laidLooks := .later }
def StoreReadUptoCardSaid : Prop := Claim7.holds Tryz.pinned (.plain (OpenSpec.upto storeReadSpec)) storeReadUptoCard
end Rows
end Go.Proofs.YtijimplcjaeneaaGreatDoor
