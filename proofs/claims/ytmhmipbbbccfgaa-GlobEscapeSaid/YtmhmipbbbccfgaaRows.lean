/-
  No cell of these rows narrows 'for every input' (looked for: loops, veiled, ifaces, maps, wideKeys, modest, calm, conditions, laid).
  DERIVED. THE GIVEN ROWS OF THIS SEAT. 4 by the template 'for every input the law returns true; each argument reads behind the call as it read before'; 0 by the template 'total and deterministic' (their statements: YtmhmipbbbccfgaaTotals.lean).
  GIVEN WITH THE SEED: the statements are not yours to turn. If you find one false, say at which input.
  Laid BY PROGRAM, IN A SANDBOX (cutbox-rows.mjs): the forced cells as the released guide's own fill.sh prints them over the translation 11d4e8be299d511f… (all of the seat's roots in one cut). By AI agents, Wed Nov 11 2026. No macro, syntax, notation, axiom, sorry.
-/
import Derived.Test.YtmhmipbbbccfgaaChecked
import GoSem.Claim
import GoSem.ClaimJoined
import GoSem.ClaimMapViews
import Derived.JoinedTies
import Derived.KernelRfl
namespace Go.Proofs.Ytmhmipbbbccfgaa
/- THE CELL 'sum', in the pinned program and in every row, IS THE sha256 OF THE DUMP (.gsa) THAT YtmhmipbbbccfgaaProg.lean LOADS. Nothing in Lean hashes anything: it is a label: what it is worth is what the hold of that sum in a sandbox is worth. -/
noncomputable def Try.pinned : Pinned := { name := "ytmhmipbbbccfgaa", sum := "11d4e8be299d511f885e6680efdf74e67805532a009320d246e34cd12cf1a46c", checked := Try.checked }
namespace Rows
def none {H : Type} : Left H := { results := [], args := [] }

/-- 'gonglaw13.GlobMatches': WHATEVER THE INPUT: true; the input reads as it did. -/
def globMatchesSpec : ChangeSpec := { name := "globMatches", fn := fun _ => fun
  | [d1, d2] => { results := [.lit (.bool true)], args := [d1, d2] }
  | _ => none }
def globMatchesRow : OpenClaim := { program := "ytmhmipbbbccfgaa", sum := "11d4e8be299d511f885e6680efdf74e67805532a009320d246e34cd12cf1a46c", func := "gong/gonglaw13.GlobMatches", spec := "globMatches", inPlace := ["internal/abi.NoEscape"], apart := false }
def GlobMatchesSaid : Prop := globMatchesRow.holds Try.pinned (OpenSpec.ofChange globMatchesSpec)

/-- ITS FALSE NEIGHBOUR: 'it returns false'. Refute it at one input. -/
def globMatchesWrong : ChangeSpec := { name := "globMatches", fn := fun _ => fun
  | [d1, d2] => { results := [.lit (.bool false)], args := [d1, d2] }
  | _ => none }
def GlobMatchesWrongFalsely : Prop := globMatchesRow.holds Try.pinned (OpenSpec.ofChange globMatchesWrong)

/-- 'gonglaw13.GlobEscape': WHATEVER THE INPUT: true; the input reads as it did. -/
def globEscapeSpec : ChangeSpec := { name := "globEscape", fn := fun _ => fun
  | [d1, d2] => { results := [.lit (.bool true)], args := [d1, d2] }
  | _ => none }
def globEscapeRow : OpenClaim := { program := "ytmhmipbbbccfgaa", sum := "11d4e8be299d511f885e6680efdf74e67805532a009320d246e34cd12cf1a46c", func := "gong/gonglaw13.GlobEscape", spec := "globEscape", inPlace := ["internal/abi.NoEscape"], apart := false }
def GlobEscapeSaid : Prop := globEscapeRow.holds Try.pinned (OpenSpec.ofChange globEscapeSpec)

/-- ITS FALSE NEIGHBOUR: 'it returns false'. Refute it at one input. -/
def globEscapeWrong : ChangeSpec := { name := "globEscape", fn := fun _ => fun
  | [d1, d2] => { results := [.lit (.bool false)], args := [d1, d2] }
  | _ => none }
def GlobEscapeWrongFalsely : Prop := globEscapeRow.holds Try.pinned (OpenSpec.ofChange globEscapeWrong)

/-- 'gonglaw13.GlobBoth': WHATEVER THE INPUT: true; the input reads as it did. -/
def globBothSpec : ChangeSpec := { name := "globBoth", fn := fun _ => fun
  | [d1, d2, d3] => { results := [.lit (.bool true)], args := [d1, d2, d3] }
  | _ => none }
def globBothRow : OpenClaim := { program := "ytmhmipbbbccfgaa", sum := "11d4e8be299d511f885e6680efdf74e67805532a009320d246e34cd12cf1a46c", func := "gong/gonglaw13.GlobBoth", spec := "globBoth", apart := false }
def GlobBothSaid : Prop := globBothRow.holds Try.pinned (OpenSpec.ofChange globBothSpec)

/-- ITS FALSE NEIGHBOUR: 'it returns false'. Refute it at one input. -/
def globBothWrong : ChangeSpec := { name := "globBoth", fn := fun _ => fun
  | [d1, d2, d3] => { results := [.lit (.bool false)], args := [d1, d2, d3] }
  | _ => none }
def GlobBothWrongFalsely : Prop := globBothRow.holds Try.pinned (OpenSpec.ofChange globBothWrong)

/-- 'gonglaw13.GlobStars': WHATEVER THE INPUT: true; the input reads as it did. -/
def globStarsSpec : ChangeSpec := { name := "globStars", fn := fun _ => fun
  | [d1, d2, d3] => { results := [.lit (.bool true)], args := [d1, d2, d3] }
  | _ => none }
def globStarsRow : OpenClaim := { program := "ytmhmipbbbccfgaa", sum := "11d4e8be299d511f885e6680efdf74e67805532a009320d246e34cd12cf1a46c", func := "gong/gonglaw13.GlobStars", spec := "globStars", inPlace := ["internal/abi.NoEscape", "internal/bytealg.MakeNoZero", "internal/bytealg.IndexByteString", "internal/bytealg.IndexString"], named := ["internal/bytealg.MaxLen"], apart := false }
def GlobStarsSaid : Prop := globStarsRow.holds Try.pinned (OpenSpec.ofChange globStarsSpec)

/-- ITS FALSE NEIGHBOUR: 'it returns false'. Refute it at one input. -/
def globStarsWrong : ChangeSpec := { name := "globStars", fn := fun _ => fun
  | [d1, d2, d3] => { results := [.lit (.bool false)], args := [d1, d2, d3] }
  | _ => none }
def GlobStarsWrongFalsely : Prop := globStarsRow.holds Try.pinned (OpenSpec.ofChange globStarsWrong)

/- THE SECOND FORM. 'bulk': how many values and letters a reading holds, each counted each time it is reached (what is shared counts as often as it is met; a slice's spare places count too). A statement '..UptoSaid' is the law's where the arguments, and the package variables that the reading takes, are together of bulk at most 1048576: NARROWER than '..Said'. Prove '..Said' where nothing that the law and all that it calls make is longer than what came in: it says more and counts as full. Else prove '..UptoSaid'. A law counts once. -/
mutual
def uptoBulk {H : Type} : DataW H → Nat
  | .lit (.string bytes) => bytes.length + 1
  | .lit _ => 1
  | .nil => 1
  | .ptr d => uptoBulk d + 1
  | .slice elems spare => uptoBulkAll elems + uptoBulkAll spare + 1
  | .agg parts => uptoBulkAll parts + 1
  | .iface _ d => uptoBulk d + 1
  | .map entries => uptoBulkEntries entries + 1
  | .held _ => 1
def uptoBulkAll {H : Type} : List (DataW H) → Nat
  | [] => 0
  | d :: r => uptoBulk d + uptoBulkAll r
def uptoBulkEntries {H : Type} : List (Lit × DataW H) → Nat
  | [] => 0
  | x :: r => uptoBulkEntry x + uptoBulkEntries r
def uptoBulkEntry {H : Type} : Lit × DataW H → Nat
  | (.string bytes, d) => bytes.length + uptoBulk d + 1
  | (_, d) => uptoBulk d + 1
 end
def uptoSmall : (H : Type) → List (DataW H) → Bool := fun _ ds => decide (uptoBulkAll ds ≤ 1048576)
def OpenSpec.upto (s : _root_.Go.ChangeSpec) : _root_.Go.OpenSpec := { _root_.Go.OpenSpec.ofChange s with cond := some uptoSmall }

/-- 'gonglaw13.GlobMatches', WHERE WHAT IT READS IS OF BULK AT MOST 1048576: true; the input reads as it did. -/
def globMatchesUptoRow : OpenClaim := { program := "ytmhmipbbbccfgaa", sum := "11d4e8be299d511f885e6680efdf74e67805532a009320d246e34cd12cf1a46c", func := "gong/gonglaw13.GlobMatches", spec := "globMatches", inPlace := ["internal/abi.NoEscape"], apart := false, narrowed := true }
def GlobMatchesUptoSaid : Prop := globMatchesUptoRow.holds Try.pinned (OpenSpec.upto globMatchesSpec)

/-- 'gonglaw13.GlobEscape', WHERE WHAT IT READS IS OF BULK AT MOST 1048576: true; the input reads as it did. -/
def globEscapeUptoRow : OpenClaim := { program := "ytmhmipbbbccfgaa", sum := "11d4e8be299d511f885e6680efdf74e67805532a009320d246e34cd12cf1a46c", func := "gong/gonglaw13.GlobEscape", spec := "globEscape", inPlace := ["internal/abi.NoEscape"], apart := false, narrowed := true }
def GlobEscapeUptoSaid : Prop := globEscapeUptoRow.holds Try.pinned (OpenSpec.upto globEscapeSpec)

/-- 'gonglaw13.GlobBoth', WHERE WHAT IT READS IS OF BULK AT MOST 1048576: true; the input reads as it did. -/
def globBothUptoRow : OpenClaim := { program := "ytmhmipbbbccfgaa", sum := "11d4e8be299d511f885e6680efdf74e67805532a009320d246e34cd12cf1a46c", func := "gong/gonglaw13.GlobBoth", spec := "globBoth", apart := false, narrowed := true }
def GlobBothUptoSaid : Prop := globBothUptoRow.holds Try.pinned (OpenSpec.upto globBothSpec)

/-- 'gonglaw13.GlobStars', WHERE WHAT IT READS IS OF BULK AT MOST 1048576: true; the input reads as it did. -/
def globStarsUptoRow : OpenClaim := { program := "ytmhmipbbbccfgaa", sum := "11d4e8be299d511f885e6680efdf74e67805532a009320d246e34cd12cf1a46c", func := "gong/gonglaw13.GlobStars", spec := "globStars", inPlace := ["internal/abi.NoEscape", "internal/bytealg.MakeNoZero", "internal/bytealg.IndexByteString", "internal/bytealg.IndexString"], named := ["internal/bytealg.MaxLen"], apart := false, narrowed := true }
def GlobStarsUptoSaid : Prop := globStarsUptoRow.holds Try.pinned (OpenSpec.upto globStarsSpec)

end Rows
end Go.Proofs.Ytmhmipbbbccfgaa
