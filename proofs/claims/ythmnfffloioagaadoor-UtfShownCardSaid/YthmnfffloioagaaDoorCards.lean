/-
  DERIVED. GIVEN WITH THE SEED: THE CARDS: each row of YthmnfffloioagaaDoorRows.lean that lists a variable, with what it lists TIED to the program's text (the seventh form; the later family's looks); each row that meets fmt, with fmt's text TOLD by the authors' own Lean function (tested against real Go, not proved from fmt's source: count such statements apart). THE CARD IS WHAT COUNTS. Prove the row's statement (the work); the ties are given (YthmnfffloioagaaDoorTie.lean); close each card by the builder's one call (the guide's Derived/Test/ToyasCard.lean, 'card_holds'). Laid BY PROGRAM, IN A SANDBOX (cutbox-door.mjs). By AI agents, Wed Nov 11 2026. No macro, syntax, notation, axiom, sorry.
-/
import Derived.Test.YthmnfffloioagaaDoorRows
import GoSem.ClaimSeven
namespace Go.Proofs.YthmnfffloioagaaDoor
namespace Rows

/-- THE TIED CARD OF 'gonglaw04.UtfReads'. -/
def utfReadsCard : Claim7 := { stood := { row := utfReadsRow, standIns := [], harness := (true, "ecd9529e1354b54f314ece7b660bc9086f85d2463a5d5d74f4aad142688f8771"), looks := false }, kinds := [], alts := [], laidByText := true, laidKinds := [.data], laidTests := true, laidLooks := .later }
def UtfReadsCardSaid : Prop := Claim7.holds Tryd.pinned (.plain (OpenSpec.ofChange utfReadsSpec)) utfReadsCard

/-- THE TIED CARD OF 'gonglaw04.UtfWrites'. -/
def utfWritesCard : Claim7 := { stood := { row := utfWritesRow, standIns := [], harness := (true, "ecd9529e1354b54f314ece7b660bc9086f85d2463a5d5d74f4aad142688f8771"), looks := false }, kinds := [], alts := [], laidByText := true, laidKinds := [.data], laidTests := true, laidLooks := .later }
def UtfWritesCardSaid : Prop := Claim7.holds Tryd.pinned (.plain (OpenSpec.ofChange utfWritesSpec)) utfWritesCard

/-- THE TIED CARD OF 'gonglaw04.UtfBack'. -/
def utfBackCard : Claim7 := { stood := { row := utfBackRow, standIns := [], harness := (true, "ecd9529e1354b54f314ece7b660bc9086f85d2463a5d5d74f4aad142688f8771"), looks := false }, kinds := [], alts := [], laidByText := true, laidKinds := [.data], laidTests := true, laidLooks := .later }
def UtfBackCardSaid : Prop := Claim7.holds Tryd.pinned (.plain (OpenSpec.ofChange utfBackSpec)) utfBackCard

/-- THE TIED CARD OF 'gonglaw04.UtfShown'. -/
def utfShownCard : Claim7 := { stood := { row := utfShownRow, standIns := [], harness := (true, "ecd9529e1354b54f314ece7b660bc9086f85d2463a5d5d74f4aad142688f8771"), looks := false }, kinds := [], alts := [], laidByText := true, laidKinds := [.data], laidTests := true, laidLooks := .later }
def UtfShownCardSaid : Prop := Claim7.holds Tryd.pinned (.plain (OpenSpec.ofChange utfShownSpec)) utfShownCard

/-- THE TIED CARD OF 'gonglaw04.UtfCut'. -/
def utfCutCard : Claim7 := { stood := { row := utfCutRow, standIns := [], harness := (true, "ecd9529e1354b54f314ece7b660bc9086f85d2463a5d5d74f4aad142688f8771"), looks := false }, kinds := [], alts := [], laidByText := true, laidKinds := [.data], laidTests := true, laidLooks := .later }
def UtfCutCardSaid : Prop := Claim7.holds Tryd.pinned (.plain (OpenSpec.ofChange utfCutSpec)) utfCutCard

/-- THE SECOND FORM's CARD OF 'gonglaw04.UtfReads'. -/
def utfReadsUptoCard : Claim7 := { stood := { row := utfReadsUptoRow, standIns := [], harness := (true, "ecd9529e1354b54f314ece7b660bc9086f85d2463a5d5d74f4aad142688f8771"), looks := false }, kinds := [], alts := [], laidByText := true, laidKinds := [.data], laidTests := true, laidLooks := .later }
def UtfReadsUptoCardSaid : Prop := Claim7.holds Tryd.pinned (.plain (OpenSpec.upto utfReadsSpec)) utfReadsUptoCard

/-- THE SECOND FORM's CARD OF 'gonglaw04.UtfWrites'. -/
def utfWritesUptoCard : Claim7 := { stood := { row := utfWritesUptoRow, standIns := [], harness := (true, "ecd9529e1354b54f314ece7b660bc9086f85d2463a5d5d74f4aad142688f8771"), looks := false }, kinds := [], alts := [], laidByText := true, laidKinds := [.data], laidTests := true, laidLooks := .later }
def UtfWritesUptoCardSaid : Prop := Claim7.holds Tryd.pinned (.plain (OpenSpec.upto utfWritesSpec)) utfWritesUptoCard

/-- THE SECOND FORM's CARD OF 'gonglaw04.UtfBack'. -/
def utfBackUptoCard : Claim7 := { stood := { row := utfBackUptoRow, standIns := [], harness := (true, "ecd9529e1354b54f314ece7b660bc9086f85d2463a5d5d74f4aad142688f8771"), looks := false }, kinds := [], alts := [], laidByText := true, laidKinds := [.data], laidTests := true, laidLooks := .later }
def UtfBackUptoCardSaid : Prop := Claim7.holds Tryd.pinned (.plain (OpenSpec.upto utfBackSpec)) utfBackUptoCard

/-- THE SECOND FORM's CARD OF 'gonglaw04.UtfShown'. -/
def utfShownUptoCard : Claim7 := { stood := { row := utfShownUptoRow, standIns := [], harness := (true, "ecd9529e1354b54f314ece7b660bc9086f85d2463a5d5d74f4aad142688f8771"), looks := false }, kinds := [], alts := [], laidByText := true, laidKinds := [.data], laidTests := true, laidLooks := .later }
def UtfShownUptoCardSaid : Prop := Claim7.holds Tryd.pinned (.plain (OpenSpec.upto utfShownSpec)) utfShownUptoCard

/-- THE SECOND FORM's CARD OF 'gonglaw04.UtfCut'. -/
def utfCutUptoCard : Claim7 := { stood := { row := utfCutUptoRow, standIns := [], harness := (true, "ecd9529e1354b54f314ece7b660bc9086f85d2463a5d5d74f4aad142688f8771"), looks := false }, kinds := [], alts := [], laidByText := true, laidKinds := [.data], laidTests := true, laidLooks := .later }
def UtfCutUptoCardSaid : Prop := Claim7.holds Tryd.pinned (.plain (OpenSpec.upto utfCutSpec)) utfCutUptoCard
end Rows
end Go.Proofs.YthmnfffloioagaaDoor
