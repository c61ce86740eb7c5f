/-
  NARROWER THAN 'FOR EVERY INPUT', by the rows' own cells (each row's printed sentence says how): QuoteReads: laid · QuoteWrites: laid · QuoteBack: laid · QuoteEscape: laid · QuoteGet: laid.
  DERIVED. THE GIVEN ROWS OF THIS SEAT. 5 by the template 'for every input the law returns true; each argument reads behind the call as it read before'; 0 by the template 'total and deterministic' (their statements: YtkpcfbadhoiigaaDoorTotals.lean).
  GIVEN WITH THE SEED: the statements are not yours to turn. If you find one false, say at which input.
  Laid BY PROGRAM, IN A SANDBOX (cutbox-rows.mjs): the forced cells as the released guide's own fill.sh prints them over the translation 32875ad5a2d2d3dc… (all of the seat's roots in one cut). By AI agents, Wed Nov 11 2026. No macro, syntax, notation, axiom, sorry.
-/
import Derived.Test.YtkpcfbadhoiigaaDoorChecked
import GoSem.Claim
import GoSem.ClaimJoined
import GoSem.ClaimMapViews
import Derived.JoinedTies
import Derived.KernelRfl
namespace Go.Proofs.YtkpcfbadhoiigaaDoor
/- THE CELL 'sum', in the pinned program and in every row, IS THE sha256 OF THE DUMP (.gsa) THAT YtkpcfbadhoiigaaDoorProg.lean LOADS. Nothing in Lean hashes anything: it is a label: what it is worth is what the hold of that sum in a sandbox is worth. -/
noncomputable def Tryd.pinned : Pinned := { name := "ytkpcfbadhoiigaadoor", sum := "32875ad5a2d2d3dcff6ec123747be5aca8e4c28137168cd32a82a233c5974811", checked := Tryd.checked }
namespace Rows
def none {H : Type} : Left H := { results := [], args := [] }

/- WHAT THE LISTED PACKAGE-LEVEL VARIABLES READ AS WHEN THE CALL BEGINS. Each datum BY PROGRAM (the guide's laid-datum.mjs) off the statement by which the dump's own 'gosem.cut.vars' lays the variable. In a bare row this is a premise. The card (YtkpcfbadhoiigaaDoorCards.lean) ties it to the program's text. -/
def laid_gong_utf_leads {H : Type} : DataW H := .agg [.lit (.int .u8 0), .lit (.int .u8 192), .lit (.int .u8 224), .lit (.int .u8 240)]

/-- 'gonglaw10.QuoteReads': WHATEVER THE INPUT: true; the input reads as it did. -/
def quoteReadsSpec : ChangeSpec := { name := "quoteReads", fn := fun _ => fun
  | [d] => { results := [.lit (.bool true)], args := [d] }
  | _ => none }
def quoteReadsRow : OpenClaim := { program := "ytkpcfbadhoiigaadoor", sum := "32875ad5a2d2d3dcff6ec123747be5aca8e4c28137168cd32a82a233c5974811", func := "gong/gonglaw10.QuoteReads", spec := "quoteReads", inPlace := ["internal/abi.NoEscape"], unfollowed := true, recurses := true, named := ["gong/utf.leads"], apart := false, laid := [("gong/utf.leads", laid_gong_utf_leads)] }
def QuoteReadsSaid : Prop := quoteReadsRow.holds Tryd.pinned (OpenSpec.ofChange quoteReadsSpec)

/-- ITS FALSE NEIGHBOUR: 'it returns false'. Refute it at one input. -/
def quoteReadsWrong : ChangeSpec := { name := "quoteReads", fn := fun _ => fun
  | [d] => { results := [.lit (.bool false)], args := [d] }
  | _ => none }
def QuoteReadsWrongFalsely : Prop := quoteReadsRow.holds Tryd.pinned (OpenSpec.ofChange quoteReadsWrong)

/-- 'gonglaw10.QuoteWrites': WHATEVER THE INPUT: true; the input reads as it did. -/
def quoteWritesSpec : ChangeSpec := { name := "quoteWrites", fn := fun _ => fun
  | [d1, d2, d3] => { results := [.lit (.bool true)], args := [d1, d2, d3] }
  | _ => none }
def quoteWritesRow : OpenClaim := { program := "ytkpcfbadhoiigaadoor", sum := "32875ad5a2d2d3dcff6ec123747be5aca8e4c28137168cd32a82a233c5974811", func := "gong/gonglaw10.QuoteWrites", spec := "quoteWrites", inPlace := ["internal/abi.NoEscape"], unfollowed := true, recurses := true, named := ["gong/utf.leads"], apart := false, laid := [("gong/utf.leads", laid_gong_utf_leads)] }
def QuoteWritesSaid : Prop := quoteWritesRow.holds Tryd.pinned (OpenSpec.ofChange quoteWritesSpec)

/-- ITS FALSE NEIGHBOUR: 'it returns false'. Refute it at one input. -/
def quoteWritesWrong : ChangeSpec := { name := "quoteWrites", fn := fun _ => fun
  | [d1, d2, d3] => { results := [.lit (.bool false)], args := [d1, d2, d3] }
  | _ => none }
def QuoteWritesWrongFalsely : Prop := quoteWritesRow.holds Tryd.pinned (OpenSpec.ofChange quoteWritesWrong)

/-- 'gonglaw10.QuoteBack': WHATEVER THE INPUT: true; the input reads as it did. -/
def quoteBackSpec : ChangeSpec := { name := "quoteBack", fn := fun _ => fun
  | [d1, d2, d3] => { results := [.lit (.bool true)], args := [d1, d2, d3] }
  | _ => none }
def quoteBackRow : OpenClaim := { program := "ytkpcfbadhoiigaadoor", sum := "32875ad5a2d2d3dcff6ec123747be5aca8e4c28137168cd32a82a233c5974811", func := "gong/gonglaw10.QuoteBack", spec := "quoteBack", inPlace := ["internal/abi.NoEscape"], unfollowed := true, recurses := true, named := ["gong/utf.leads"], apart := false, laid := [("gong/utf.leads", laid_gong_utf_leads)] }
def QuoteBackSaid : Prop := quoteBackRow.holds Tryd.pinned (OpenSpec.ofChange quoteBackSpec)

/-- ITS FALSE NEIGHBOUR: 'it returns false'. Refute it at one input. -/
def quoteBackWrong : ChangeSpec := { name := "quoteBack", fn := fun _ => fun
  | [d1, d2, d3] => { results := [.lit (.bool false)], args := [d1, d2, d3] }
  | _ => none }
def QuoteBackWrongFalsely : Prop := quoteBackRow.holds Tryd.pinned (OpenSpec.ofChange quoteBackWrong)

/-- 'gonglaw10.QuoteEscape': WHATEVER THE INPUT: true; the input reads as it did. -/
def quoteEscapeSpec : ChangeSpec := { name := "quoteEscape", fn := fun _ => fun
  | [d1, d2] => { results := [.lit (.bool true)], args := [d1, d2] }
  | _ => none }
def quoteEscapeRow : OpenClaim := { program := "ytkpcfbadhoiigaadoor", sum := "32875ad5a2d2d3dcff6ec123747be5aca8e4c28137168cd32a82a233c5974811", func := "gong/gonglaw10.QuoteEscape", spec := "quoteEscape", inPlace := ["internal/abi.NoEscape", "internal/bytealg.CountString", "internal/bytealg.IndexByteString", "internal/bytealg.IndexString"], unfollowed := true, recurses := true, named := ["gong/utf.leads", "internal/bytealg.MaxLen"], apart := false, laid := [("gong/utf.leads", laid_gong_utf_leads)] }
def QuoteEscapeSaid : Prop := quoteEscapeRow.holds Tryd.pinned (OpenSpec.ofChange quoteEscapeSpec)

/-- ITS FALSE NEIGHBOUR: 'it returns false'. Refute it at one input. -/
def quoteEscapeWrong : ChangeSpec := { name := "quoteEscape", fn := fun _ => fun
  | [d1, d2] => { results := [.lit (.bool false)], args := [d1, d2] }
  | _ => none }
def QuoteEscapeWrongFalsely : Prop := quoteEscapeRow.holds Tryd.pinned (OpenSpec.ofChange quoteEscapeWrong)

/-- 'gonglaw10.QuoteGet': WHATEVER THE INPUT: true; the input reads as it did. -/
def quoteGetSpec : ChangeSpec := { name := "quoteGet", fn := fun _ => fun
  | [d1, d2, d3] => { results := [.lit (.bool true)], args := [d1, d2, d3] }
  | _ => none }
def quoteGetRow : OpenClaim := { program := "ytkpcfbadhoiigaadoor", sum := "32875ad5a2d2d3dcff6ec123747be5aca8e4c28137168cd32a82a233c5974811", func := "gong/gonglaw10.QuoteGet", spec := "quoteGet", inPlace := ["internal/abi.NoEscape"], unfollowed := true, recurses := true, named := ["gong/utf.leads"], apart := false, laid := [("gong/utf.leads", laid_gong_utf_leads)] }
def QuoteGetSaid : Prop := quoteGetRow.holds Tryd.pinned (OpenSpec.ofChange quoteGetSpec)

/-- ITS FALSE NEIGHBOUR: 'it returns false'. Refute it at one input. -/
def quoteGetWrong : ChangeSpec := { name := "quoteGet", fn := fun _ => fun
  | [d1, d2, d3] => { results := [.lit (.bool false)], args := [d1, d2, d3] }
  | _ => none }
def QuoteGetWrongFalsely : Prop := quoteGetRow.holds Tryd.pinned (OpenSpec.ofChange quoteGetWrong)

/- THE SECOND FORM. 'bulk': how many values and letters a reading holds, each counted each time it is reached (what is shared counts as often as it is met; a slice's spare places count too). A statement '..UptoSaid' is the law's where the arguments, and the package variables that the reading takes, are together of bulk at most 1048576: NARROWER than '..Said'. Prove '..Said' where nothing that the law and all that it calls make is longer than what came in: it says more and counts as full. Else prove '..UptoSaid'. A law counts once. -/
mutual
def uptoBulk {H : Type} : DataW H → Nat
  | .lit (.string bytes) => bytes.length + 1
  | .lit _ => 1
  | .nil => 1
  | .ptr d => uptoBulk d + 1
  | .slice elems spare => uptoBulkAll elems + uptoBulkAll spare + 1
  | .agg parts => uptoBulkAll parts + 1
  | .iface _ d => uptoBulk d + 1
  | .map entries => uptoBulkEntries entries + 1
  | .held _ => 1
def uptoBulkAll {H : Type} : List (DataW H) → Nat
  | [] => 0
  | d :: r => uptoBulk d + uptoBulkAll r
def uptoBulkEntries {H : Type} : List (Lit × DataW H) → Nat
  | [] => 0
  | x :: r => uptoBulkEntry x + uptoBulkEntries r
def uptoBulkEntry {H : Type} : Lit × DataW H → Nat
  | (.string bytes, d) => bytes.length + uptoBulk d + 1
  | (_, d) => uptoBulk d + 1
 end
def uptoSmall : (H : Type) → List (DataW H) → Bool := fun _ ds => decide (uptoBulkAll ds ≤ 1048576)
def OpenSpec.upto (s : _root_.Go.ChangeSpec) : _root_.Go.OpenSpec := { _root_.Go.OpenSpec.ofChange s with cond := some uptoSmall }

/-- 'gonglaw10.QuoteReads', WHERE WHAT IT READS IS OF BULK AT MOST 1048576: true; the input reads as it did. -/
def quoteReadsUptoRow : OpenClaim := { program := "ytkpcfbadhoiigaadoor", sum := "32875ad5a2d2d3dcff6ec123747be5aca8e4c28137168cd32a82a233c5974811", func := "gong/gonglaw10.QuoteReads", spec := "quoteReads", inPlace := ["internal/abi.NoEscape"], unfollowed := true, recurses := true, named := ["gong/utf.leads"], apart := false, laid := [("gong/utf.leads", laid_gong_utf_leads)], narrowed := true }
def QuoteReadsUptoSaid : Prop := quoteReadsUptoRow.holds Tryd.pinned (OpenSpec.upto quoteReadsSpec)

/-- 'gonglaw10.QuoteWrites', WHERE WHAT IT READS IS OF BULK AT MOST 1048576: true; the input reads as it did. -/
def quoteWritesUptoRow : OpenClaim := { program := "ytkpcfbadhoiigaadoor", sum := "32875ad5a2d2d3dcff6ec123747be5aca8e4c28137168cd32a82a233c5974811", func := "gong/gonglaw10.QuoteWrites", spec := "quoteWrites", inPlace := ["internal/abi.NoEscape"], unfollowed := true, recurses := true, named := ["gong/utf.leads"], apart := false, laid := [("gong/utf.leads", laid_gong_utf_leads)], narrowed := true }
def QuoteWritesUptoSaid : Prop := quoteWritesUptoRow.holds Tryd.pinned (OpenSpec.upto quoteWritesSpec)

/-- 'gonglaw10.QuoteBack', WHERE WHAT IT READS IS OF BULK AT MOST 1048576: true; the input reads as it did. -/
def quoteBackUptoRow : OpenClaim := { program := "ytkpcfbadhoiigaadoor", sum := "32875ad5a2d2d3dcff6ec123747be5aca8e4c28137168cd32a82a233c5974811", func := "gong/gonglaw10.QuoteBack", spec := "quoteBack", inPlace := ["internal/abi.NoEscape"], unfollowed := true, recurses := true, named := ["gong/utf.leads"], apart := false, laid := [("gong/utf.leads", laid_gong_utf_leads)], narrowed := true }
def QuoteBackUptoSaid : Prop := quoteBackUptoRow.holds Tryd.pinned (OpenSpec.upto quoteBackSpec)

/-- 'gonglaw10.QuoteEscape', WHERE WHAT IT READS IS OF BULK AT MOST 1048576: true; the input reads as it did. -/
def quoteEscapeUptoRow : OpenClaim := { program := "ytkpcfbadhoiigaadoor", sum := "32875ad5a2d2d3dcff6ec123747be5aca8e4c28137168cd32a82a233c5974811", func := "gong/gonglaw10.QuoteEscape", spec := "quoteEscape", inPlace := ["internal/abi.NoEscape", "internal/bytealg.CountString", "internal/bytealg.IndexByteString", "internal/bytealg.IndexString"], unfollowed := true, recurses := true, named := ["gong/utf.leads", "internal/bytealg.MaxLen"], apart := false, laid := [("gong/utf.leads", laid_gong_utf_leads)], narrowed := true }
def QuoteEscapeUptoSaid : Prop := quoteEscapeUptoRow.holds Tryd.pinned (OpenSpec.upto quoteEscapeSpec)

/-- 'gonglaw10.QuoteGet', WHERE WHAT IT READS IS OF BULK AT MOST 1048576: true; the input reads as it did. -/
def quoteGetUptoRow : OpenClaim := { program := "ytkpcfbadhoiigaadoor", sum := "32875ad5a2d2d3dcff6ec123747be5aca8e4c28137168cd32a82a233c5974811", func := "gong/gonglaw10.QuoteGet", spec := "quoteGet", inPlace := ["internal/abi.NoEscape"], unfollowed := true, recurses := true, named := ["gong/utf.leads"], apart := false, laid := [("gong/utf.leads", laid_gong_utf_leads)], narrowed := true }
def QuoteGetUptoSaid : Prop := quoteGetUptoRow.holds Tryd.pinned (OpenSpec.upto quoteGetSpec)

end Rows
end Go.Proofs.YtkpcfbadhoiigaaDoor
