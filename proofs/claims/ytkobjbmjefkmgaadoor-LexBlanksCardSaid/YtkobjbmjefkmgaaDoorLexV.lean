/- LexBlanks, walked on calls that keep their word. -/
import Derived.Test.YtkobjbmjefkmgaaDoorLexO
import Derived.Test.YtkobjbmjefkmgaaDoorLexT
import Derived.Test.YtkobjbmjefkmgaaDoorLexU
import Derived.Test.YtkobjbmjefkmgaaDoorBook
import Derived.Test.YtkobjbmjefkmgaaDoorTxt
import Derived.Test.YtkobjbmjefkmgaaDoorArg
namespace Go.Proofs.YtkobjbmjefkmgaaDoor
open Go.ChangeShapes Go.WideShapes Go.ChangeAt Go.RowKit K L14
set_option linter.unusedVariables false

/-- Which blanks stand behind a word: by the numbers handed in. -/
def bnN (n : Nat) (ns : Nat → Int) (i : Nat) : Nat := if i < n then (belowN (ns i) 5).toNat else 0
theorem bnN_lt (n : Nat) (ns : Nat → Int) (i : Nat) : bnN n ns i < 5 := by
  unfold bnN
  split
  · have := belowN_bounds (ns i) 5 (by omega); omega
  · omega
def itA (ls : List (List UInt8)) (i : Nat) : List (List UInt8 × List UInt8) := (List.range i).map fun j => ((ls.getD j []).take 50, [32])
def itB (ls : List (List UInt8)) (n : Nat) (ns : Nat → Int) (i : Nat) : List (List UInt8 × List UInt8) := (List.range i).map fun j => ((ls.getD j []).take 50, bnk (bnN n ns j))
theorem itA_next (ls : List (List UInt8)) (i : Nat) : blk (itA ls (i + 1)) = blk (itA ls i) ++ (quo ((ls.getD i []).take 50) ++ [32, 59, 32]) := by
  unfold itA
  rw [List.range_succ, List.map_append, List.map_singleton, blk_app]; rfl
theorem itB_next (ls : List (List UInt8)) (n : Nat) (ns : Nat → Int) (i : Nat) : blk (itB ls n ns (i + 1)) = blk (itB ls n ns i) ++ (quo ((ls.getD i []).take 50) ++ (bnk (bnN n ns i) ++ (59 :: bnk (bnN n ns i)))) := by
  unfold itB
  rw [List.range_succ, List.map_append, List.map_singleton, blk_app]
theorem bnk_len : ∀ n, (bnk n).length ≤ 15
  | 0 => by decide
  | 1 => by decide
  | 2 => by decide
  | 3 => by decide
  | _ + 4 => by simp [bnk]
theorem quo_len (c : List UInt8) (h : c.length ≤ 50) : (quo c).length ≤ 202 := by
  have := (qbd_len c).2
  unfold quo; rw [List.length_cons, List.length_append]; simp; omega
def BkRel (ls : List (List UInt8)) (n : Nat) (ns : Nat → Int) (w : World) (g : Nat) (va vb vi : Value) (wr : World) : Prop :=
  ∃ i : Nat, i + g = ls.length ∧ vi = .int .i64 (i : Nat) ∧ va = .string (bs (blk (itA ls i))) ∧ vb = .string (bs (bnk 4 ++ blk (itB ls n ns i))) ∧ (blk (itA ls i)).length ≤ 300 * i ∧ (bnk 4 ++ blk (itB ls n ns i)).length ≤ 300 * i + 4 ∧ Below w.heap.size w wr
end Go.Proofs.YtkobjbmjefkmgaaDoor
