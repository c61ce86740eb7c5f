/-
  DERIVED. GIVEN WITH THE SEED: THE CARDS: each row of YtgjmnlgjdgjdbaaDoorRows.lean that lists a variable, with what it lists TIED to the program's text (the seventh form; the later family's looks); each row that meets fmt, with fmt's text TOLD by the authors' own Lean function (tested against real Go, not proved from fmt's source: count such statements apart). THE CARD IS WHAT COUNTS. Prove the row's statement (the work); the ties are given (YtgjmnlgjdgjdbaaDoorTie.lean); close each card by the builder's one call (the guide's Derived/Test/ToyasCard.lean, 'card_holds'). Laid BY PROGRAM, IN A SANDBOX (cutbox-door.mjs). By AI agents, Wed Nov 11 2026. No macro, syntax, notation, axiom, sorry.
-/
import Derived.Test.YtgjmnlgjdgjdbaaDoorRows
import GoSem.ClaimSeven
namespace Go.Proofs.YtgjmnlgjdgjdbaaDoor
namespace Rows

/-- THE TIED CARD OF 'gonglaw08.PduFind'. -/
def pduFindCard : Claim7 := { stood := { row := pduFindRow, standIns := [], harness := (true, "ab6a5e8938f0e8c0aab71d61b57f01e377106e6c24dc94b4e83fc67d6f81a88f"), looks := true }, kinds := [], alts := [], laidByText := true, laidKinds := [.data, .data, .data, .data, .sentinel, .sentinel, .data, .pinned], laidTests := true, laidLooks := .later }
def PduFindCardSaid : Prop := Claim7.holds Tryd.pinned (.plain (OpenSpec.ofChange pduFindSpec)) pduFindCard

/-- THE SECOND FORM's CARD OF 'gonglaw08.PduFind'. -/
def pduFindUptoCard : Claim7 := { stood := { row := pduFindUptoRow, standIns := [], harness := (true, "ab6a5e8938f0e8c0aab71d61b57f01e377106e6c24dc94b4e83fc67d6f81a88f"), looks := true }, kinds := [], alts := [], laidByText := true, laidKinds := [.data, .data, .data, .data, .sentinel, .sentinel, .data, .pinned], laidTests := true, laidLooks := .later }
def PduFindUptoCardSaid : Prop := Claim7.holds Tryd.pinned (.plain (OpenSpec.upto pduFindSpec)) pduFindUptoCard
end Rows
end Go.Proofs.YtgjmnlgjdgjdbaaDoor
