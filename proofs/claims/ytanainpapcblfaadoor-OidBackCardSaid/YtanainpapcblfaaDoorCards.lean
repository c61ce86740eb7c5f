/-
  DERIVED. GIVEN WITH THE SEED: THE CARDS: each row of YtanainpapcblfaaDoorRows.lean that lists a variable, with what it lists TIED to the program's text (the seventh form; the later family's looks); each row that meets fmt, with fmt's text TOLD by the authors' own Lean function (tested against real Go, not proved from fmt's source: count such statements apart). THE CARD IS WHAT COUNTS. Prove the row's statement (the work); the ties are given (YtanainpapcblfaaDoorTie.lean); close each card by the builder's one call (the guide's Derived/Test/ToyasCard.lean, 'card_holds'). Laid BY PROGRAM, IN A SANDBOX (cutbox-door.mjs). By AI agents, Wed Nov 11 2026. No macro, syntax, notation, axiom, sorry.
-/
import Derived.Test.YtanainpapcblfaaDoorRows
import GoSem.ClaimSeven
namespace Go.Proofs.YtanainpapcblfaaDoor
namespace Rows

/-- THE TIED CARD OF 'gonglaw06.OidReads'. -/
def oidReadsCard : Claim7 := { stood := { row := oidReadsRow, standIns := [], harness := (true, "a8638457f02ac170590e61b1cf8b20b88646bdb2aec1210a2a4ff4f2af4d4a54"), looks := true }, kinds := [], alts := [], laidByText := true, laidKinds := [.data, .data, .data, .data, .sentinel, .sentinel, .pinned], laidTests := true, laidLooks := .later }
def OidReadsCardSaid : Prop := Claim7.holds Tryd.pinned (.plain (OpenSpec.ofChange oidReadsSpec)) oidReadsCard

/-- THE TIED CARD OF 'gonglaw06.OidWrites'. -/
def oidWritesCard : Claim7 := { stood := { row := oidWritesRow, standIns := [], harness := (true, "a8638457f02ac170590e61b1cf8b20b88646bdb2aec1210a2a4ff4f2af4d4a54"), looks := true }, kinds := [], alts := [], laidByText := true, laidKinds := [.data, .data, .data, .data, .sentinel, .sentinel, .pinned], laidTests := true, laidLooks := .later }
def OidWritesCardSaid : Prop := Claim7.holds Tryd.pinned (.plain (OpenSpec.ofChange oidWritesSpec)) oidWritesCard

/-- THE TIED CARD OF 'gonglaw06.OidBack'. -/
def oidBackCard : Claim7 := { stood := { row := oidBackRow, standIns := [], harness := (true, "a8638457f02ac170590e61b1cf8b20b88646bdb2aec1210a2a4ff4f2af4d4a54"), looks := true }, kinds := [], alts := [], laidByText := true, laidKinds := [.data, .data, .data, .data, .sentinel, .sentinel, .pinned], laidTests := true, laidLooks := .later }
def OidBackCardSaid : Prop := Claim7.holds Tryd.pinned (.plain (OpenSpec.ofChange oidBackSpec)) oidBackCard

/-- THE TIED CARD OF 'gonglaw06.OidOrder'. -/
def oidOrderCard : Claim7 := { stood := { row := oidOrderRow, standIns := [], harness := (true, "a8638457f02ac170590e61b1cf8b20b88646bdb2aec1210a2a4ff4f2af4d4a54"), looks := true }, kinds := [], alts := [], laidByText := true, laidKinds := [.data, .data, .data, .data, .sentinel, .sentinel, .pinned], laidTests := true, laidLooks := .later }
def OidOrderCardSaid : Prop := Claim7.holds Tryd.pinned (.plain (OpenSpec.ofChange oidOrderSpec)) oidOrderCard

/-- THE TIED CARD OF 'gonglaw06.OidChild'. -/
def oidChildCard : Claim7 := { stood := { row := oidChildRow, standIns := [], harness := (true, "a8638457f02ac170590e61b1cf8b20b88646bdb2aec1210a2a4ff4f2af4d4a54"), looks := true }, kinds := [], alts := [], laidByText := true, laidKinds := [.data, .data, .data, .data, .sentinel, .sentinel, .pinned], laidTests := true, laidLooks := .later }
def OidChildCardSaid : Prop := Claim7.holds Tryd.pinned (.plain (OpenSpec.ofChange oidChildSpec)) oidChildCard

/-- THE SECOND FORM's CARD OF 'gonglaw06.OidReads'. -/
def oidReadsUptoCard : Claim7 := { stood := { row := oidReadsUptoRow, standIns := [], harness := (true, "a8638457f02ac170590e61b1cf8b20b88646bdb2aec1210a2a4ff4f2af4d4a54"), looks := true }, kinds := [], alts := [], laidByText := true, laidKinds := [.data, .data, .data, .data, .sentinel, .sentinel, .pinned], laidTests := true, laidLooks := .later }
def OidReadsUptoCardSaid : Prop := Claim7.holds Tryd.pinned (.plain (OpenSpec.upto oidReadsSpec)) oidReadsUptoCard

/-- THE SECOND FORM's CARD OF 'gonglaw06.OidWrites'. -/
def oidWritesUptoCard : Claim7 := { stood := { row := oidWritesUptoRow, standIns := [], harness := (true, "a8638457f02ac170590e61b1cf8b20b88646bdb2aec1210a2a4ff4f2af4d4a54"), looks := true }, kinds := [], alts := [], laidByText := true, laidKinds := [.data, .data, .data, .data, .sentinel, .sentinel, .pinned], laidTests := true, laidLooks := .later }
def OidWritesUptoCardSaid : Prop := Claim7.holds Tryd.pinned (.plain (OpenSpec.upto oidWritesSpec)) oidWritesUptoCard

/-- THE SECOND FORM's CARD OF 'gonglaw06.OidBack'. -/
def oidBackUptoCard : Claim7 := { stood := { row := oidBackUptoRow, standIns := [], harness := (true, "a8638457f02ac170590e61b1cf8b20b88646bdb2aec1210a2a4ff4f2af4d4a54"), looks := true }, kinds := [], alts := [], laidByText := true, laidKinds := [.data, .data, .data, .data, .sentinel, .sentinel, .pinned], laidTests := true, laidLooks := .later }
def OidBackUptoCardSaid : Prop := Claim7.holds Tryd.pinned (.plain (OpenSpec.upto oidBackSpec)) oidBackUptoCard

/-- THE SECOND FORM's CARD OF 'gonglaw06.OidOrder'. -/
def oidOrderUptoCard : Claim7 := { stood := { row := oidOrderUptoRow, standIns := [], harness := (true, "a8638457f02ac170590e61b1cf8b20b88646bdb2aec1210a2a4ff4f2af4d4a54"), looks := true }, kinds := [], alts := [], laidByText := true, laidKinds := [.data, .data, .data, .data, .sentinel, .sentinel, .pinned], laidTests := true, laidLooks := .later }
def OidOrderUptoCardSaid : Prop := Claim7.holds Tryd.pinned (.plain (OpenSpec.upto oidOrderSpec)) oidOrderUptoCard

/-- THE SECOND FORM's CARD OF 'gonglaw06.OidChild'. -/
def oidChildUptoCard : Claim7 := { stood := { row := oidChildUptoRow, standIns := [], harness := (true, "a8638457f02ac170590e61b1cf8b20b88646bdb2aec1210a2a4ff4f2af4d4a54"), looks := true }, kinds := [], alts := [], laidByText := true, laidKinds := [.data, .data, .data, .data, .sentinel, .sentinel, .pinned], laidTests := true, laidLooks := .later }
def OidChildUptoCardSaid : Prop := Claim7.holds Tryd.pinned (.plain (OpenSpec.upto oidChildSpec)) oidChildUptoCard
end Rows
end Go.Proofs.YtanainpapcblfaaDoor
