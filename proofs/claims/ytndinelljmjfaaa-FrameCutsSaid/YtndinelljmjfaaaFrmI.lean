/- FrameFeeds, walked on calls that keep their word. -/
import Derived.Test.YtndinelljmjfaaaFrmH
import Derived.Deep.DeepCutAuto
namespace Go.Proofs.Ytndinelljmjfaaa
open Go.ChangeShapes Go.WideShapes Go.ChangeAt Go.RowKit K F12
set_option linter.unusedVariables false

/-- A chunk, and whether the framer is forked ahead of it. -/
structure Tn where
  c : List UInt8
  f : Bool
def notn : Tn := ⟨[], false⟩
/-- A slice that reads as these turns. -/
def RdT (w : World) (ao : Option Addr) (xs : List Tn) : Prop :=
  xs.length = 0 ∨ ∃ b off, ao = some ⟨b, off, none⟩ ∧ b < w.heap.size ∧ ∀ i, i < xs.length → w.cell? ⟨b, off + i * 2, none⟩ = some (.string (bs (xs.getD i notn).c)) ∧ w.cell? ⟨b, off + i * 2 + 1, none⟩ = some (.bool (xs.getD i notn).f)
theorem RdT.below {w w' : World} {ao : Option Addr} {xs : List Tn} (h : RdT w ao xs) (k : Below w.heap.size w w') : RdT w' ao xs := by
  rcases h with h0 | ⟨b, off, ha, hb, hc⟩
  · exact .inl h0
  · refine .inr ⟨b, off, ha, Nat.lt_of_lt_of_le hb k.size, fun i hi => ?_⟩
    obtain ⟨c0, c1⟩ := hc i hi
    exact ⟨(k.cell (p := ⟨b, off + i * 2, none⟩) hb).trans c0, (k.cell (p := ⟨b, off + i * 2 + 1, none⟩) hb).trans c1⟩
theorem fedpre {st : Fs} {i : Nat} (h : st.s = none ∨ st.hold.length ≤ 500 * i) (hi : i ≤ 40) (n : Nat) (hn : n ≤ 500) : st.s = none ∨ st.hold.length + n ≤ 1000000 := by
  rcases h with h | h
  · exact .inl h
  · exact .inr (by omega)
theorem nxt_pre {st : Fs} {i : Nat} (h : st.s = none ∨ st.hold.length ≤ 500 * i) (c : List UInt8) (hc : c.length ≤ 500) : (st.nxt c).s = none ∨ (st.nxt c).hold.length ≤ 500 * (i + 1) := by
  rcases h with h | h
  · refine .inl ?_
    unfold Fs.nxt; rw [h]
  · have := (msg_len st c).2.1
    exact .inr (by omega)
theorem nxt_dr {st : Fs} {i : Nat} (h : st.dr ≤ i) (c : List UInt8) : (st.nxt c).dr ≤ i + 1 := by
  unfold Fs.nxt
  split <;> simp <;> omega
theorem msg_pre {st : Fs} {i : Nat} (h : st.s = none ∨ st.hold.length ≤ 500 * i) (hi : i ≤ 40) (c : List UInt8) (hc : c.length ≤ 500) : (st.msg c).length ≤ 1000000 := by
  rcases h with h | h
  · unfold Fs.msg; rw [h]; simp
  · have := (msg_len st c).1; omega
def oth9 : List UInt8 := [57, 32, 111, 116, 104, 101, 114]
theorem blk_not {w3 : World} {B n cap : Nat} {ao : Option Addr} {ls : List (List UInt8)} (h : OwnS w3 B 9 (.slice ao n cap) ls) {k : Nat} (hk : k < B) : k ∉ blkS ao n := by
  unfold blkS
  split
  · simp
  · rcases h.2 with ⟨hv, h0⟩ | ⟨g, cap', cur, hv, hB, _⟩
    · injection hv with h1 _ _
      rw [h1]; simp
    · injection hv with h1 _ _
      rw [h1]
      simp
      omega
end Go.Proofs.Ytndinelljmjfaaa
