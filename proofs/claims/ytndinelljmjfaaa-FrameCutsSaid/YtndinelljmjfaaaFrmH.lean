/- Texts spoilt; whether a framer and the document's stand the same. -/
import Derived.Test.YtndinelljmjfaaaFrmG
namespace Go.Proofs.Ytndinelljmjfaaa
open Go.ChangeShapes Go.WideShapes Go.ChangeAt Go.RowKit K F12
set_option linter.unusedVariables false

/-- The block of a list. -/
def blkS (ao : Option Addr) (n : Nat) : List Nat := if n = 0 then [] else match ao with | some a => [a.block] | none => []
def RoomS (w : World) (ao : Option Addr) (n : Nat) : Prop := n = 0 ∨ ∃ g C, ao = some ⟨g, 0, none⟩ ∧ w.heap[g]? = some (.cells C 9 (0, 0)) ∧ n ≤ C.size
theorem RoomS.of {w : World} {B : Nat} {ao : Option Addr} {n cap : Nat} {ls : List (List UInt8)} (h : OwnS w B 9 (.slice ao n cap) ls) (hn : n = ls.length) : RoomS w ao n := by
  rcases h.2 with ⟨hv, h0⟩ | ⟨g, cap', cur, hv, hB, hh, hle, hm, hs, ht⟩
  · exact .inl (by rw [hn, h0])
  · injection hv with h1 h2 h3
    subst h1
    exact .inr ⟨g, cur, rfl, hh, by rw [hs]; omega⟩
def SxRel (w : World) (ao : Option Addr) (n g : Nat) (v2 : Value) (wr : World) : Prop :=
  ∃ i, i + g = n ∧ v2 = .int .i64 (i : Nat) ∧ RoomS wr ao n ∧ Kp (blkS ao n) w wr
end Go.Proofs.Ytndinelljmjfaaa
