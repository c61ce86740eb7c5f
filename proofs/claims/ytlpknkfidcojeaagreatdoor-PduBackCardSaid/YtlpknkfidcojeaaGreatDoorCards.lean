/-
  DERIVED. GIVEN WITH THE SEED: THE CARDS: each row of YtlpknkfidcojeaaGreatDoorRows.lean that lists a variable, with what it lists TIED to the program's text (the seventh form; the later family's looks); each row that meets fmt, with fmt's text TOLD by the authors' own Lean function (tested against real Go, not proved from fmt's source: count such statements apart). THE CARD IS WHAT COUNTS. Prove the row's statement (the work); the ties are given (YtlpknkfidcojeaaGreatDoorTie.lean); close each card by the builder's one call (the guide's Derived/Test/ToyasCard.lean, 'card_holds'). Laid BY PROGRAM, IN A SANDBOX (cutbox-door.mjs). By AI agents, Wed Nov 11 2026. No macro, syntax, notation, axiom, sorry.
-/
import Derived.Test.YtlpknkfidcojeaaGreatDoorRows
import GoSem.ClaimSeven
namespace Go.Proofs.YtlpknkfidcojeaaGreatDoor
namespace Rows

/-- THE TIED CARD OF 'gonglaw08.PduReads'. -/
def pduReadsCard : Claim7 := { stood := { row := pduReadsRow, standIns := [], harness := (true, "1f9e0c62c8b39a23b6f4a0ab801f93e8706c0faae0b80a65246e60e7e9675180"), looks := true }, kinds := [], alts := [], laidByText := true, laidKinds := [.data, .data, .data, .data, .sentinel, .sentinel, .data, .pinned], laidTests := true, laidLooks := .later }
def PduReadsCardSaid : Prop := Claim7.holds Tryz.pinned (.plain (OpenSpec.ofChange pduReadsSpec)) pduReadsCard

/-- THE TIED CARD OF 'gonglaw08.PduWrites'. -/
def pduWritesCard : Claim7 := { stood := { row := pduWritesRow, standIns := [], harness := (true, "1f9e0c62c8b39a23b6f4a0ab801f93e8706c0faae0b80a65246e60e7e9675180"), looks := true }, kinds := [], alts := [], laidByText := true, laidKinds := [.data, .data, .data, .data, .sentinel, .sentinel, .data, .pinned], laidTests := true, laidLooks := .later }
def PduWritesCardSaid : Prop := Claim7.holds Tryz.pinned (.plain (OpenSpec.ofChange pduWritesSpec)) pduWritesCard

/-- THE TIED CARD OF 'gonglaw08.PduBack'. -/
def pduBackCard : Claim7 := { stood := { row := pduBackRow, standIns := [], harness := (true, "1f9e0c62c8b39a23b6f4a0ab801f93e8706c0faae0b80a65246e60e7e9675180"), looks := true }, kinds := [], alts := [], laidByText := true, laidKinds := [.data, .data, .data, .data, .sentinel, .sentinel, .data, .pinned], laidTests := true, laidLooks := .later }
def PduBackCardSaid : Prop := Claim7.holds Tryz.pinned (.plain (OpenSpec.ofChange pduBackSpec)) pduBackCard

/-- THE SECOND FORM's CARD OF 'gonglaw08.PduReads'. -/
def pduReadsUptoCard : Claim7 := { stood := { row := pduReadsUptoRow, standIns := [], harness := (true, "1f9e0c62c8b39a23b6f4a0ab801f93e8706c0faae0b80a65246e60e7e9675180"), looks := true }, kinds := [], alts := [], laidByText := true, laidKinds := [.data, .data, .data, .data, .sentinel, .sentinel, .data, .pinned], laidTests := true, laidLooks := .later }
def PduReadsUptoCardSaid : Prop := Claim7.holds Tryz.pinned (.plain (OpenSpec.upto pduReadsSpec)) pduReadsUptoCard

/-- THE SECOND FORM's CARD OF 'gonglaw08.PduWrites'. -/
def pduWritesUptoCard : Claim7 := { stood := { row := pduWritesUptoRow, standIns := [], harness := (true, "1f9e0c62c8b39a23b6f4a0ab801f93e8706c0faae0b80a65246e60e7e9675180"), looks := true }, kinds := [], alts := [], laidByText := true, laidKinds := [.data, .data, .data, .data, .sentinel, .sentinel, .data, .pinned], laidTests := true, laidLooks := .later }
def PduWritesUptoCardSaid : Prop := Claim7.holds Tryz.pinned (.plain (OpenSpec.upto pduWritesSpec)) pduWritesUptoCard

/-- THE SECOND FORM's CARD OF 'gonglaw08.PduBack'. -/
def pduBackUptoCard : Claim7 := { stood := { row := pduBackUptoRow, standIns := [], harness := (true, "1f9e0c62c8b39a23b6f4a0ab801f93e8706c0faae0b80a65246e60e7e9675180"), looks := true }, kinds := [], alts := [], laidByText := true, laidKinds := [.data, .data, .data, .data, .sentinel, .sentinel, .data, .pinned], laidTests := true, laidLooks := .later }
def PduBackUptoCardSaid : Prop := Claim7.holds Tryz.pinned (.plain (OpenSpec.upto pduBackSpec)) pduBackUptoCard
end Rows
end Go.Proofs.YtlpknkfidcojeaaGreatDoor
