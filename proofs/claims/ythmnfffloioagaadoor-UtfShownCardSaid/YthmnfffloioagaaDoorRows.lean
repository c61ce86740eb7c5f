/-
  NARROWER THAN 'FOR EVERY INPUT', by the rows' own cells (each row's printed sentence says how): UtfReads: laid · UtfWrites: laid · UtfBack: laid · UtfShown: laid · UtfCut: laid.
  DERIVED. THE GIVEN ROWS OF THIS SEAT. 5 by the template 'for every input the law returns true; each argument reads behind the call as it read before'; 0 by the template 'total and deterministic' (their statements: YthmnfffloioagaaDoorTotals.lean).
  GIVEN WITH THE SEED: the statements are not yours to turn. If you find one false, say at which input.
  Laid BY PROGRAM, IN A SANDBOX (cutbox-rows.mjs): the forced cells as the released guide's own fill.sh prints them over the translation 7c900051fa39c1bb… (all of the seat's roots in one cut). By AI agents, Wed Nov 11 2026. No macro, syntax, notation, axiom, sorry.
-/
import Derived.Test.YthmnfffloioagaaDoorChecked
import GoSem.Claim
import GoSem.ClaimJoined
import GoSem.ClaimMapViews
import Derived.JoinedTies
import Derived.KernelRfl
namespace Go.Proofs.YthmnfffloioagaaDoor
/- THE CELL 'sum', in the pinned program and in every row, IS THE sha256 OF THE DUMP (.gsa) THAT YthmnfffloioagaaDoorProg.lean LOADS. Nothing in Lean hashes anything: it is a label: what it is worth is what the hold of that sum in a sandbox is worth. -/
noncomputable def Tryd.pinned : Pinned := { name := "ythmnfffloioagaadoor", sum := "7c900051fa39c1bbe0310d979061edfcc75846e0580e2ea1f82bd87bf373144f", checked := Tryd.checked }
namespace Rows
def none {H : Type} : Left H := { results := [], args := [] }

/- WHAT THE LISTED PACKAGE-LEVEL VARIABLES READ AS WHEN THE CALL BEGINS. Each datum BY PROGRAM (the guide's laid-datum.mjs) off the statement by which the dump's own 'gosem.cut.vars' lays the variable. In a bare row this is a premise. The card (YthmnfffloioagaaDoorCards.lean) ties it to the program's text. -/
def laid_gong_utf_leads {H : Type} : DataW H := .agg [.lit (.int .u8 0), .lit (.int .u8 192), .lit (.int .u8 224), .lit (.int .u8 240)]

/-- 'gonglaw04.UtfReads': WHATEVER THE INPUT: true; the input reads as it did. -/
def utfReadsSpec : ChangeSpec := { name := "utfReads", fn := fun _ => fun
  | [d] => { results := [.lit (.bool true)], args := [d] }
  | _ => none }
def utfReadsRow : OpenClaim := { program := "ythmnfffloioagaadoor", sum := "7c900051fa39c1bbe0310d979061edfcc75846e0580e2ea1f82bd87bf373144f", func := "gong/gonglaw04.UtfReads", spec := "utfReads", inPlace := ["internal/abi.NoEscape"], named := ["gong/utf.leads"], apart := false, laid := [("gong/utf.leads", laid_gong_utf_leads)] }
def UtfReadsSaid : Prop := utfReadsRow.holds Tryd.pinned (OpenSpec.ofChange utfReadsSpec)

/-- ITS FALSE NEIGHBOUR: 'it returns false'. Refute it at one input. -/
def utfReadsWrong : ChangeSpec := { name := "utfReads", fn := fun _ => fun
  | [d] => { results := [.lit (.bool false)], args := [d] }
  | _ => none }
def UtfReadsWrongFalsely : Prop := utfReadsRow.holds Tryd.pinned (OpenSpec.ofChange utfReadsWrong)

/-- 'gonglaw04.UtfWrites': WHATEVER THE INPUT: true; the input reads as it did. -/
def utfWritesSpec : ChangeSpec := { name := "utfWrites", fn := fun _ => fun
  | [d1, d2, d3] => { results := [.lit (.bool true)], args := [d1, d2, d3] }
  | _ => none }
def utfWritesRow : OpenClaim := { program := "ythmnfffloioagaadoor", sum := "7c900051fa39c1bbe0310d979061edfcc75846e0580e2ea1f82bd87bf373144f", func := "gong/gonglaw04.UtfWrites", spec := "utfWrites", inPlace := ["internal/abi.NoEscape"], named := ["gong/utf.leads"], apart := false, laid := [("gong/utf.leads", laid_gong_utf_leads)] }
def UtfWritesSaid : Prop := utfWritesRow.holds Tryd.pinned (OpenSpec.ofChange utfWritesSpec)

/-- ITS FALSE NEIGHBOUR: 'it returns false'. Refute it at one input. -/
def utfWritesWrong : ChangeSpec := { name := "utfWrites", fn := fun _ => fun
  | [d1, d2, d3] => { results := [.lit (.bool false)], args := [d1, d2, d3] }
  | _ => none }
def UtfWritesWrongFalsely : Prop := utfWritesRow.holds Tryd.pinned (OpenSpec.ofChange utfWritesWrong)

/-- 'gonglaw04.UtfBack': WHATEVER THE INPUT: true; the input reads as it did. -/
def utfBackSpec : ChangeSpec := { name := "utfBack", fn := fun _ => fun
  | [d1, d2] => { results := [.lit (.bool true)], args := [d1, d2] }
  | _ => none }
def utfBackRow : OpenClaim := { program := "ythmnfffloioagaadoor", sum := "7c900051fa39c1bbe0310d979061edfcc75846e0580e2ea1f82bd87bf373144f", func := "gong/gonglaw04.UtfBack", spec := "utfBack", inPlace := ["internal/abi.NoEscape"], named := ["gong/utf.leads"], apart := false, laid := [("gong/utf.leads", laid_gong_utf_leads)] }
def UtfBackSaid : Prop := utfBackRow.holds Tryd.pinned (OpenSpec.ofChange utfBackSpec)

/-- ITS FALSE NEIGHBOUR: 'it returns false'. Refute it at one input. -/
def utfBackWrong : ChangeSpec := { name := "utfBack", fn := fun _ => fun
  | [d1, d2] => { results := [.lit (.bool false)], args := [d1, d2] }
  | _ => none }
def UtfBackWrongFalsely : Prop := utfBackRow.holds Tryd.pinned (OpenSpec.ofChange utfBackWrong)

/-- 'gonglaw04.UtfShown': WHATEVER THE INPUT: true; the input reads as it did. -/
def utfShownSpec : ChangeSpec := { name := "utfShown", fn := fun _ => fun
  | [d1, d2] => { results := [.lit (.bool true)], args := [d1, d2] }
  | _ => none }
def utfShownRow : OpenClaim := { program := "ythmnfffloioagaadoor", sum := "7c900051fa39c1bbe0310d979061edfcc75846e0580e2ea1f82bd87bf373144f", func := "gong/gonglaw04.UtfShown", spec := "utfShown", inPlace := ["internal/abi.NoEscape", "internal/bytealg.IndexByteString", "internal/bytealg.IndexString"], named := ["gong/utf.leads", "internal/bytealg.MaxLen"], apart := false, laid := [("gong/utf.leads", laid_gong_utf_leads)] }
def UtfShownSaid : Prop := utfShownRow.holds Tryd.pinned (OpenSpec.ofChange utfShownSpec)

/-- ITS FALSE NEIGHBOUR: 'it returns false'. Refute it at one input. -/
def utfShownWrong : ChangeSpec := { name := "utfShown", fn := fun _ => fun
  | [d1, d2] => { results := [.lit (.bool false)], args := [d1, d2] }
  | _ => none }
def UtfShownWrongFalsely : Prop := utfShownRow.holds Tryd.pinned (OpenSpec.ofChange utfShownWrong)

/-- 'gonglaw04.UtfCut': WHATEVER THE INPUT: true; the input reads as it did. -/
def utfCutSpec : ChangeSpec := { name := "utfCut", fn := fun _ => fun
  | [d1, d2, d3] => { results := [.lit (.bool true)], args := [d1, d2, d3] }
  | _ => none }
def utfCutRow : OpenClaim := { program := "ythmnfffloioagaadoor", sum := "7c900051fa39c1bbe0310d979061edfcc75846e0580e2ea1f82bd87bf373144f", func := "gong/gonglaw04.UtfCut", spec := "utfCut", inPlace := ["internal/abi.NoEscape"], named := ["gong/utf.leads"], apart := false, laid := [("gong/utf.leads", laid_gong_utf_leads)] }
def UtfCutSaid : Prop := utfCutRow.holds Tryd.pinned (OpenSpec.ofChange utfCutSpec)

/-- ITS FALSE NEIGHBOUR: 'it returns false'. Refute it at one input. -/
def utfCutWrong : ChangeSpec := { name := "utfCut", fn := fun _ => fun
  | [d1, d2, d3] => { results := [.lit (.bool false)], args := [d1, d2, d3] }
  | _ => none }
def UtfCutWrongFalsely : Prop := utfCutRow.holds Tryd.pinned (OpenSpec.ofChange utfCutWrong)

/- THE SECOND FORM. 'bulk': how many values and letters a reading holds, each counted each time it is reached (what is shared counts as often as it is met; a slice's spare places count too). A statement '..UptoSaid' is the law's where the arguments, and the package variables that the reading takes, are together of bulk at most 1048576: NARROWER than '..Said'. Prove '..Said' where nothing that the law and all that it calls make is longer than what came in: it says more and counts as full. Else prove '..UptoSaid'. A law counts once. -/
mutual
def uptoBulk {H : Type} : DataW H → Nat
  | .lit (.string bytes) => bytes.length + 1
  | .lit _ => 1
  | .nil => 1
  | .ptr d => uptoBulk d + 1
  | .slice elems spare => uptoBulkAll elems + uptoBulkAll spare + 1
  | .agg parts => uptoBulkAll parts + 1
  | .iface _ d => uptoBulk d + 1
  | .map entries => uptoBulkEntries entries + 1
  | .held _ => 1
def uptoBulkAll {H : Type} : List (DataW H) → Nat
  | [] => 0
  | d :: r => uptoBulk d + uptoBulkAll r
def uptoBulkEntries {H : Type} : List (Lit × DataW H) → Nat
  | [] => 0
  | x :: r => uptoBulkEntry x + uptoBulkEntries r
def uptoBulkEntry {H : Type} : Lit × DataW H → Nat
  | (.string bytes, d) => bytes.length + uptoBulk d + 1
  | (_, d) => uptoBulk d + 1
 end
def uptoSmall : (H : Type) → List (DataW H) → Bool := fun _ ds => decide (uptoBulkAll ds ≤ 1048576)
def OpenSpec.upto (s : _root_.Go.ChangeSpec) : _root_.Go.OpenSpec := { _root_.Go.OpenSpec.ofChange s with cond := some uptoSmall }

/-- 'gonglaw04.UtfReads', WHERE WHAT IT READS IS OF BULK AT MOST 1048576: true; the input reads as it did. -/
def utfReadsUptoRow : OpenClaim := { program := "ythmnfffloioagaadoor", sum := "7c900051fa39c1bbe0310d979061edfcc75846e0580e2ea1f82bd87bf373144f", func := "gong/gonglaw04.UtfReads", spec := "utfReads", inPlace := ["internal/abi.NoEscape"], named := ["gong/utf.leads"], apart := false, laid := [("gong/utf.leads", laid_gong_utf_leads)], narrowed := true }
def UtfReadsUptoSaid : Prop := utfReadsUptoRow.holds Tryd.pinned (OpenSpec.upto utfReadsSpec)

/-- 'gonglaw04.UtfWrites', WHERE WHAT IT READS IS OF BULK AT MOST 1048576: true; the input reads as it did. -/
def utfWritesUptoRow : OpenClaim := { program := "ythmnfffloioagaadoor", sum := "7c900051fa39c1bbe0310d979061edfcc75846e0580e2ea1f82bd87bf373144f", func := "gong/gonglaw04.UtfWrites", spec := "utfWrites", inPlace := ["internal/abi.NoEscape"], named := ["gong/utf.leads"], apart := false, laid := [("gong/utf.leads", laid_gong_utf_leads)], narrowed := true }
def UtfWritesUptoSaid : Prop := utfWritesUptoRow.holds Tryd.pinned (OpenSpec.upto utfWritesSpec)

/-- 'gonglaw04.UtfBack', WHERE WHAT IT READS IS OF BULK AT MOST 1048576: true; the input reads as it did. -/
def utfBackUptoRow : OpenClaim := { program := "ythmnfffloioagaadoor", sum := "7c900051fa39c1bbe0310d979061edfcc75846e0580e2ea1f82bd87bf373144f", func := "gong/gonglaw04.UtfBack", spec := "utfBack", inPlace := ["internal/abi.NoEscape"], named := ["gong/utf.leads"], apart := false, laid := [("gong/utf.leads", laid_gong_utf_leads)], narrowed := true }
def UtfBackUptoSaid : Prop := utfBackUptoRow.holds Tryd.pinned (OpenSpec.upto utfBackSpec)

/-- 'gonglaw04.UtfShown', WHERE WHAT IT READS IS OF BULK AT MOST 1048576: true; the input reads as it did. -/
def utfShownUptoRow : OpenClaim := { program := "ythmnfffloioagaadoor", sum := "7c900051fa39c1bbe0310d979061edfcc75846e0580e2ea1f82bd87bf373144f", func := "gong/gonglaw04.UtfShown", spec := "utfShown", inPlace := ["internal/abi.NoEscape", "internal/bytealg.IndexByteString", "internal/bytealg.IndexString"], named := ["gong/utf.leads", "internal/bytealg.MaxLen"], apart := false, laid := [("gong/utf.leads", laid_gong_utf_leads)], narrowed := true }
def UtfShownUptoSaid : Prop := utfShownUptoRow.holds Tryd.pinned (OpenSpec.upto utfShownSpec)

/-- 'gonglaw04.UtfCut', WHERE WHAT IT READS IS OF BULK AT MOST 1048576: true; the input reads as it did. -/
def utfCutUptoRow : OpenClaim := { program := "ythmnfffloioagaadoor", sum := "7c900051fa39c1bbe0310d979061edfcc75846e0580e2ea1f82bd87bf373144f", func := "gong/gonglaw04.UtfCut", spec := "utfCut", inPlace := ["internal/abi.NoEscape"], named := ["gong/utf.leads"], apart := false, laid := [("gong/utf.leads", laid_gong_utf_leads)], narrowed := true }
def UtfCutUptoSaid : Prop := utfCutUptoRow.holds Tryd.pinned (OpenSpec.upto utfCutSpec)

end Rows
end Go.Proofs.YthmnfffloioagaaDoor
