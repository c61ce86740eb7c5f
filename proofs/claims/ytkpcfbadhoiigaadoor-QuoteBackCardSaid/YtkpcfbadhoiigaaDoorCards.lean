/-
  DERIVED. GIVEN WITH THE SEED: THE CARDS: each row of YtkpcfbadhoiigaaDoorRows.lean that lists a variable, with what it lists TIED to the program's text (the seventh form; the later family's looks); each row that meets fmt, with fmt's text TOLD by the authors' own Lean function (tested against real Go, not proved from fmt's source: count such statements apart). THE CARD IS WHAT COUNTS. Prove the row's statement (the work); the ties are given (YtkpcfbadhoiigaaDoorTie.lean); close each card by the builder's one call (the guide's Derived/Test/ToyasCard.lean, 'card_holds'). Laid BY PROGRAM, IN A SANDBOX (cutbox-door.mjs). By AI agents, Wed Nov 11 2026. No macro, syntax, notation, axiom, sorry.
-/
import Derived.Test.YtkpcfbadhoiigaaDoorRows
import GoSem.ClaimSeven
namespace Go.Proofs.YtkpcfbadhoiigaaDoor
namespace Rows

/-- THE TIED CARD OF 'gonglaw10.QuoteReads'. -/
def quoteReadsCard : Claim7 := { stood := { row := quoteReadsRow, standIns := [], harness := (true, "b970f71663972635cbb4f9e30c6f4a8c21e44d5c28ef23a591db12e9efbe31cb"), looks := false }, kinds := [], alts := [], laidByText := true, laidKinds := [.data], laidTests := true, laidLooks := .later }
def QuoteReadsCardSaid : Prop := Claim7.holds Tryd.pinned (.plain (OpenSpec.ofChange quoteReadsSpec)) quoteReadsCard

/-- THE TIED CARD OF 'gonglaw10.QuoteWrites'. -/
def quoteWritesCard : Claim7 := { stood := { row := quoteWritesRow, standIns := [], harness := (true, "b970f71663972635cbb4f9e30c6f4a8c21e44d5c28ef23a591db12e9efbe31cb"), looks := false }, kinds := [], alts := [], laidByText := true, laidKinds := [.data], laidTests := true, laidLooks := .later }
def QuoteWritesCardSaid : Prop := Claim7.holds Tryd.pinned (.plain (OpenSpec.ofChange quoteWritesSpec)) quoteWritesCard

/-- THE TIED CARD OF 'gonglaw10.QuoteBack'. -/
def quoteBackCard : Claim7 := { stood := { row := quoteBackRow, standIns := [], harness := (true, "b970f71663972635cbb4f9e30c6f4a8c21e44d5c28ef23a591db12e9efbe31cb"), looks := false }, kinds := [], alts := [], laidByText := true, laidKinds := [.data], laidTests := true, laidLooks := .later }
def QuoteBackCardSaid : Prop := Claim7.holds Tryd.pinned (.plain (OpenSpec.ofChange quoteBackSpec)) quoteBackCard

/-- THE TIED CARD OF 'gonglaw10.QuoteEscape'. -/
def quoteEscapeCard : Claim7 := { stood := { row := quoteEscapeRow, standIns := [], harness := (true, "b970f71663972635cbb4f9e30c6f4a8c21e44d5c28ef23a591db12e9efbe31cb"), looks := false }, kinds := [], alts := [], laidByText := true, laidKinds := [.data], laidTests := true, laidLooks := .later }
def QuoteEscapeCardSaid : Prop := Claim7.holds Tryd.pinned (.plain (OpenSpec.ofChange quoteEscapeSpec)) quoteEscapeCard

/-- THE TIED CARD OF 'gonglaw10.QuoteGet'. -/
def quoteGetCard : Claim7 := { stood := { row := quoteGetRow, standIns := [], harness := (true, "b970f71663972635cbb4f9e30c6f4a8c21e44d5c28ef23a591db12e9efbe31cb"), looks := false }, kinds := [], alts := [], laidByText := true, laidKinds := [.data], laidTests := true, laidLooks := .later }
def QuoteGetCardSaid : Prop := Claim7.holds Tryd.pinned (.plain (OpenSpec.ofChange quoteGetSpec)) quoteGetCard

/-- THE SECOND FORM's CARD OF 'gonglaw10.QuoteReads'. -/
def quoteReadsUptoCard : Claim7 := { stood := { row := quoteReadsUptoRow, standIns := [], harness := (true, "b970f71663972635cbb4f9e30c6f4a8c21e44d5c28ef23a591db12e9efbe31cb"), looks := false }, kinds := [], alts := [], laidByText := true, laidKinds := [.data], laidTests := true, laidLooks := .later }
def QuoteReadsUptoCardSaid : Prop := Claim7.holds Tryd.pinned (.plain (OpenSpec.upto quoteReadsSpec)) quoteReadsUptoCard

/-- THE SECOND FORM's CARD OF 'gonglaw10.QuoteWrites'. -/
def quoteWritesUptoCard : Claim7 := { stood := { row := quoteWritesUptoRow, standIns := [], harness := (true, "b970f71663972635cbb4f9e30c6f4a8c21e44d5c28ef23a591db12e9efbe31cb"), looks := false }, kinds := [], alts := [], laidByText := true, laidKinds := [.data], laidTests := true, laidLooks := .later }
def QuoteWritesUptoCardSaid : Prop := Claim7.holds Tryd.pinned (.plain (OpenSpec.upto quoteWritesSpec)) quoteWritesUptoCard

/-- THE SECOND FORM's CARD OF 'gonglaw10.QuoteBack'. -/
def quoteBackUptoCard : Claim7 := { stood := { row := quoteBackUptoRow, standIns := [], harness := (true, "b970f71663972635cbb4f9e30c6f4a8c21e44d5c28ef23a591db12e9efbe31cb"), looks := false }, kinds := [], alts := [], laidByText := true, laidKinds := [.data], laidTests := true, laidLooks := .later }
def QuoteBackUptoCardSaid : Prop := Claim7.holds Tryd.pinned (.plain (OpenSpec.upto quoteBackSpec)) quoteBackUptoCard

/-- THE SECOND FORM's CARD OF 'gonglaw10.QuoteEscape'. -/
def quoteEscapeUptoCard : Claim7 := { stood := { row := quoteEscapeUptoRow, standIns := [], harness := (true, "b970f71663972635cbb4f9e30c6f4a8c21e44d5c28ef23a591db12e9efbe31cb"), looks := false }, kinds := [], alts := [], laidByText := true, laidKinds := [.data], laidTests := true, laidLooks := .later }
def QuoteEscapeUptoCardSaid : Prop := Claim7.holds Tryd.pinned (.plain (OpenSpec.upto quoteEscapeSpec)) quoteEscapeUptoCard

/-- THE SECOND FORM's CARD OF 'gonglaw10.QuoteGet'. -/
def quoteGetUptoCard : Claim7 := { stood := { row := quoteGetUptoRow, standIns := [], harness := (true, "b970f71663972635cbb4f9e30c6f4a8c21e44d5c28ef23a591db12e9efbe31cb"), looks := false }, kinds := [], alts := [], laidByText := true, laidKinds := [.data], laidTests := true, laidLooks := .later }
def QuoteGetUptoCardSaid : Prop := Claim7.holds Tryd.pinned (.plain (OpenSpec.upto quoteGetSpec)) quoteGetUptoCard
end Rows
end Go.Proofs.YtkpcfbadhoiigaaDoor
