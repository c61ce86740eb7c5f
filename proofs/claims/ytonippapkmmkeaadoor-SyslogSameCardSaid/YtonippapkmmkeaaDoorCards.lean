/-
  DERIVED. GIVEN WITH THE SEED: THE CARDS: each row of YtonippapkmmkeaaDoorRows.lean that lists a variable, with what it lists TIED to the program's text (the seventh form; the later family's looks); each row that meets fmt, with fmt's text TOLD by the authors' own Lean function (tested against real Go, not proved from fmt's source: count such statements apart). THE CARD IS WHAT COUNTS. Prove the row's statement (the work); the ties are given (YtonippapkmmkeaaDoorTie.lean); close each card by the builder's one call (the guide's Derived/Test/ToyasCard.lean, 'card_holds'). Laid BY PROGRAM, IN A SANDBOX (cutbox-door.mjs). By AI agents, Wed Nov 11 2026. No macro, syntax, notation, axiom, sorry.
-/
import Derived.Test.YtonippapkmmkeaaDoorRows
import GoSem.ClaimSeven
namespace Go.Proofs.YtonippapkmmkeaaDoor
namespace Rows

/-- THE TIED CARD OF 'gonglaw11.SyslogSame'. -/
def syslogSameCard : Claim7 := { stood := { row := syslogSameRow, standIns := [], harness := (true, "c3742fcd240b2a5936fcc912f67fc86ac6078e948f06d0acc279456ef559e020"), looks := false }, kinds := [], alts := [], laidByText := true, laidKinds := [.data, .data, .data], laidTests := true, laidLooks := .later }
def SyslogSameCardSaid : Prop := Claim7.holds Tryd.pinned (.plain (OpenSpec.ofChange syslogSameSpec)) syslogSameCard

/-- THE SECOND FORM's CARD OF 'gonglaw11.SyslogSame'. -/
def syslogSameUptoCard : Claim7 := { stood := { row := syslogSameUptoRow, standIns := [], harness := (true, "c3742fcd240b2a5936fcc912f67fc86ac6078e948f06d0acc279456ef559e020"), looks := false }, kinds := [], alts := [], laidByText := true, laidKinds := [.data, .data, .data], laidTests := true, laidLooks := .later }
def SyslogSameUptoCardSaid : Prop := Claim7.holds Tryd.pinned (.plain (OpenSpec.upto syslogSameSpec)) syslogSameUptoCard
end Rows
end Go.Proofs.YtonippapkmmkeaaDoor
