/-
  DERIVED. GIVEN WITH THE SEED: THE CARDS: each row of YtmdibafofdghgaaGreatDoorRows.lean that lists a variable, with what it lists TIED to the program's text (the seventh form; the later family's looks); each row that meets fmt, with fmt's text TOLD by the authors' own Lean function (tested against real Go, not proved from fmt's source: count such statements apart). THE CARD IS WHAT COUNTS. Prove the row's statement (the work); the ties are given (YtmdibafofdghgaaGreatDoorTie.lean); close each card by the builder's one call (the guide's Derived/Test/ToyasCard.lean, 'card_holds'). Laid BY PROGRAM, IN A SANDBOX (cutbox-door.mjs). By AI agents, Wed Nov 11 2026. No macro, syntax, notation, axiom, sorry.
-/
import Derived.Test.YtmdibafofdghgaaGreatDoorRows
import GoSem.ClaimSeven
namespace Go.Proofs.YtmdibafofdghgaaGreatDoor
namespace Rows

/-- THE TIED CARD OF 'gonglaw09.TrapReads'. -/
def trapReadsCard : Claim7 := { stood := { row := trapReadsRow, standIns := [], harness := (true, "19a18c1c3072afe6711f62d052dd83e80facff58c637c43e441e5119203023a5"), looks := true }, kinds := [], alts := [], laidByText := true, laidKinds := [.data, .data, .data, .data, .sentinel, .sentinel, .data, .data, .pinned], laidTests := true, laidLooks := .later }
def TrapReadsCardSaid : Prop := Claim7.holds Tryz.pinned (.plain (OpenSpec.ofChange trapReadsSpec)) trapReadsCard

/-- THE TIED CARD OF 'gonglaw09.TrapWrites'. -/
def trapWritesCard : Claim7 := { stood := { row := trapWritesRow, standIns := [], harness := (true, "19a18c1c3072afe6711f62d052dd83e80facff58c637c43e441e5119203023a5"), looks := true }, kinds := [], alts := [], laidByText := true, laidKinds := [.data, .data, .data, .data, .sentinel, .sentinel, .data, .data, .pinned], laidTests := true, laidLooks := .later }
def TrapWritesCardSaid : Prop := Claim7.holds Tryz.pinned (.plain (OpenSpec.ofChange trapWritesSpec)) trapWritesCard

/-- THE TIED CARD OF 'gonglaw09.TrapBack'. -/
def trapBackCard : Claim7 := { stood := { row := trapBackRow, standIns := [], harness := (true, "19a18c1c3072afe6711f62d052dd83e80facff58c637c43e441e5119203023a5"), looks := true }, kinds := [], alts := [], laidByText := true, laidKinds := [.data, .data, .data, .data, .sentinel, .sentinel, .data, .data, .pinned], laidTests := true, laidLooks := .later }
def TrapBackCardSaid : Prop := Claim7.holds Tryz.pinned (.plain (OpenSpec.ofChange trapBackSpec)) trapBackCard

/-- THE TIED CARD OF 'gonglaw09.TrapAnswer'. -/
def trapAnswerCard : Claim7 := { stood := { row := trapAnswerRow, standIns := [], harness := (true, "19a18c1c3072afe6711f62d052dd83e80facff58c637c43e441e5119203023a5"), looks := true }, kinds := [], alts := [], laidByText := true, laidKinds := [.data, .data, .data, .data, .sentinel, .sentinel, .data, .data, .pinned], laidTests := true, laidLooks := .later }
def TrapAnswerCardSaid : Prop := Claim7.holds Tryz.pinned (.plain (OpenSpec.ofChange trapAnswerSpec)) trapAnswerCard

/-- THE TIED CARD OF 'gonglaw09.TrapSame'. -/
def trapSameCard : Claim7 := { stood := { row := trapSameRow, standIns := [], harness := (true, "19a18c1c3072afe6711f62d052dd83e80facff58c637c43e441e5119203023a5"), looks := true }, kinds := [], alts := [], laidByText := true, laidKinds := [.data, .data, .data, .data, .sentinel, .sentinel, .data, .data, .pinned], laidTests := true, laidLooks := .later }
def TrapSameCardSaid : Prop := Claim7.holds Tryz.pinned (.plain (OpenSpec.ofChange trapSameSpec)) trapSameCard

/-- THE SECOND FORM's CARD OF 'gonglaw09.TrapReads'. -/
def trapReadsUptoCard : Claim7 := { stood := { row := trapReadsUptoRow, standIns := [], harness := (true, "19a18c1c3072afe6711f62d052dd83e80facff58c637c43e441e5119203023a5"), looks := true }, kinds := [], alts := [], laidByText := true, laidKinds := [.data, .data, .data, .data, .sentinel, .sentinel, .data, .data, .pinned], laidTests := true, laidLooks := .later }
def TrapReadsUptoCardSaid : Prop := Claim7.holds Tryz.pinned (.plain (OpenSpec.upto trapReadsSpec)) trapReadsUptoCard

/-- THE SECOND FORM's CARD OF 'gonglaw09.TrapWrites'. -/
def trapWritesUptoCard : Claim7 := { stood := { row := trapWritesUptoRow, standIns := [], harness := (true, "19a18c1c3072afe6711f62d052dd83e80facff58c637c43e441e5119203023a5"), looks := true }, kinds := [], alts := [], laidByText := true, laidKinds := [.data, .data, .data, .data, .sentinel, .sentinel, .data, .data, .pinned], laidTests := true, laidLooks := .later }
def TrapWritesUptoCardSaid : Prop := Claim7.holds Tryz.pinned (.plain (OpenSpec.upto trapWritesSpec)) trapWritesUptoCard

/-- THE SECOND FORM's CARD OF 'gonglaw09.TrapBack'. -/
def trapBackUptoCard : Claim7 := { stood := { row := trapBackUptoRow, standIns := [], harness := (true, "19a18c1c3072afe6711f62d052dd83e80facff58c637c43e441e5119203023a5"), looks := true }, kinds := [], alts := [], laidByText := true, laidKinds := [.data, .data, .data, .data, .sentinel, .sentinel, .data, .data, .pinned], laidTests := true, laidLooks := .later }
def TrapBackUptoCardSaid : Prop := Claim7.holds Tryz.pinned (.plain (OpenSpec.upto trapBackSpec)) trapBackUptoCard

/-- THE SECOND FORM's CARD OF 'gonglaw09.TrapAnswer'. -/
def trapAnswerUptoCard : Claim7 := { stood := { row := trapAnswerUptoRow, standIns := [], harness := (true, "19a18c1c3072afe6711f62d052dd83e80facff58c637c43e441e5119203023a5"), looks := true }, kinds := [], alts := [], laidByText := true, laidKinds := [.data, .data, .data, .data, .sentinel, .sentinel, .data, .data, .pinned], laidTests := true, laidLooks := .later }
def TrapAnswerUptoCardSaid : Prop := Claim7.holds Tryz.pinned (.plain (OpenSpec.upto trapAnswerSpec)) trapAnswerUptoCard

/-- THE SECOND FORM's CARD OF 'gonglaw09.TrapSame'. -/
def trapSameUptoCard : Claim7 := { stood := { row := trapSameUptoRow, standIns := [], harness := (true, "19a18c1c3072afe6711f62d052dd83e80facff58c637c43e441e5119203023a5"), looks := true }, kinds := [], alts := [], laidByText := true, laidKinds := [.data, .data, .data, .data, .sentinel, .sentinel, .data, .data, .pinned], laidTests := true, laidLooks := .later }
def TrapSameUptoCardSaid : Prop := Claim7.holds Tryz.pinned (.plain (OpenSpec.upto trapSameSpec)) trapSameUptoCard
end Rows
end Go.Proofs.YtmdibafofdghgaaGreatDoor
