/-
  DERIVED. GIVEN WITH THE SEED: THE CARDS: each row of YtfedmhccbfhcbaaGreatDoorRows.lean that lists a variable, with what it lists TIED to the program's text (the seventh form; the later family's looks); each row that meets fmt, with fmt's text TOLD by the authors' own Lean function (tested against real Go, not proved from fmt's source: count such statements apart). THE CARD IS WHAT COUNTS. Prove the row's statement (the work); the ties are given (YtfedmhccbfhcbaaGreatDoorTie.lean); close each card by the builder's one call (the guide's Derived/Test/ToyasCard.lean, 'card_holds'). Laid BY PROGRAM, IN A SANDBOX (cutbox-door.mjs). By AI agents, Wed Nov 11 2026. No macro, syntax, notation, axiom, sorry.
-/
import Derived.Test.YtfedmhccbfhcbaaGreatDoorRows
import GoSem.ClaimSeven
namespace Go.Proofs.YtfedmhccbfhcbaaGreatDoor
namespace Rows

/-- THE TIED CARD OF 'rostrumlaw10.RelexEdits'. -/
def relexEditsCard : Claim7 := { stood := { row := relexEditsRow, standIns := [], harness := (true, "be136989138cca604f0c64ee5b132152bdcc1f404389cb6ebd006b7b5a3d5d80"), looks := true }, kinds := [], alts := [], laidByText := true, laidKinds := [.data, .data, .data, .data, .sentinel, .sentinel, .data, .pinned], laidTests := true, laidLooks := .later }
def RelexEditsCardSaid : Prop := Claim7.holds Tryz.pinned (.plain (OpenSpec.ofChange relexEditsSpec)) relexEditsCard

/-- THE TIED CARD OF 'rostrumlaw10.RelexRows'. -/
def relexRowsCard : Claim7 := { stood := { row := relexRowsRow, standIns := [], harness := (true, "be136989138cca604f0c64ee5b132152bdcc1f404389cb6ebd006b7b5a3d5d80"), looks := true }, kinds := [], alts := [], laidByText := true, laidKinds := [.data, .data, .data, .data, .sentinel, .sentinel, .data, .pinned], laidTests := true, laidLooks := .later }
def RelexRowsCardSaid : Prop := Claim7.holds Tryz.pinned (.plain (OpenSpec.ofChange relexRowsSpec)) relexRowsCard

/-- THE SECOND FORM's CARD OF 'rostrumlaw10.RelexEdits'. -/
def relexEditsUptoCard : Claim7 := { stood := { row := relexEditsUptoRow, standIns := [], harness := (true, "be136989138cca604f0c64ee5b132152bdcc1f404389cb6ebd006b7b5a3d5d80"), looks := true }, kinds := [], alts := [], laidByText := true, laidKinds := [.data, .data, .data, .data, .sentinel, .sentinel, .data, .pinned], laidTests := true, laidLooks := .later }
def RelexEditsUptoCardSaid : Prop := Claim7.holds Tryz.pinned (.plain (OpenSpec.upto relexEditsSpec)) relexEditsUptoCard

/-- THE SECOND FORM's CARD OF 'rostrumlaw10.RelexRows'. -/
def relexRowsUptoCard : Claim7 := { stood := { row := relexRowsUptoRow, standIns := [], harness := (true, "be136989138cca604f0c64ee5b132152bdcc1f404389cb6ebd006b7b5a3d5d80"), looks := true }, kinds := [], alts := [], laidByText := true, laidKinds := [.data, .data, .data, .data, .sentinel, .sentinel, .data, .pinned], laidTests := true, laidLooks := .later }
def RelexRowsUptoCardSaid : Prop := Claim7.holds Tryz.pinned (.plain (OpenSpec.upto relexRowsSpec)) relexRowsUptoCard
end Rows
end Go.Proofs.YtfedmhccbfhcbaaGreatDoor
