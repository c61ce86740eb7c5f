/- The document's own numbers and texts of arcs, walked. -/
import Derived.Test.YtndinelljmjfaaaDoorRows
import Derived.Test.YtndinelljmjfaaaDoorOidP
import Derived.Test.YtndinelljmjfaaaDoorRow
import Derived.ProofKit
import Derived.IntWalk
import Derived.Deep.LoopGhost
namespace Go.Proofs.YtndinelljmjfaaaDoor
open Go.ChangeShapes Go.WideShapes Go.ChangeAt Go.RowKit K O6
set_option linter.unusedVariables false

/-- The state of Number's loop: what is left, and the digits that stand. -/
def NuRel (w : World) (n g : Nat) (v0 v3 : Value) (wr : World) : Prop :=
  ∃ m tl, v0 = .int .i64 (m : Nat) ∧ m < 10 ^ (g + 1) ∧ m ≤ 9223372036854775807 ∧ v3 = .string (bs (b8 (48 + m % 10) :: tl)) ∧ dg (g + 1) m ++ tl = nm n ∧ g + tl.length ≤ 19 ∧ Below w.heap.size w wr
set_option maxRecDepth 100000 in
set_option maxHeartbeats 1000000 in
theorem qnumber_walk (n : Nat) (hn : n ≤ 9223372036854775807) (w : World) :
    Calls Tryd.prog 19 #[.int .i64 n] w fun e w' => e = .returned (.string (bs (nm n))) ∧ Below w.heap.size w w' := by
  have hcv := run_conv_one (P := Tryd.prog) 46 5 9 Tryd.underlying46 Tryd.underlying5 Tryd.underlying9
  have HR0 := Lib.hid (show n < 10 ^ (19 + 1) ∧ dg (19 + 1) n ++ [] = nm n from ⟨by omega, by rw [List.append_nil]; rfl⟩)
  go_enter Tryd.func19, Tryd.ntmps19
  go_wp2
  go_loopg [0, 3] 19 (fun g v0 v3 wr => NuRel w n g v0 v3 wr)
  case atStart =>
    exact ⟨n, [], rfl, HR0.out.1, hn, by simp, HR0.out.2, by simp, (Below.refl _ _).alloc (Nat.le_refl _) _⟩
  case round =>
    clear HR0
    obtain ⟨m, tl, rfl, hm, hm2, rfl, hd, htl, hb⟩ := hrel
    by_cases h10 : m < 10
    · have hfin : b8 (48 + m % 10) :: tl = nm n := by
        rw [dg_small _ m h10] at hd
        rw [← hd, Nat.mod_eq_of_lt h10]; rfl
      have HF := Lib.hid hfin
      clear hd hfin hm
      go_wp2
      go_ret
      rw [← HF.out]
      exact ⟨rfl, hb⟩
    · have h10' : 10 ≤ m := by omega
      rw [dg_big _ m h10'] at hd
      cases gk with
      | zero => simp at hm; omega
      | succ g =>
        have hm3 : m / 10 < 10 ^ (g + 1) := by rw [Nat.pow_succ] at hm; omega
        have HM := Lib.hid hm3
        have HD := Lib.hid hd
        have htl2 : tl.length ≤ 19 := by omega
        clear hd hm hm3 h10
        go_wp2
        go_roundg g
        case measure => omega
        case rel =>
          refine ⟨m / 10, b8 (48 + m % 10) :: tl, by simp, HM.out, by omega, ?_, ?_, by rw [List.length_cons]; omega, hb.alloc hb.size _⟩
          · congr 2
          · rw [← HD.out, List.append_assoc]; rfl

/-- A slice that reads as these numbers. -/
def RdZ (w : World) (ao : Option Addr) (n : Nat) (f : Nat → Int) : Prop :=
  n = 0 ∨ ∃ b off, ao = some ⟨b, off, none⟩ ∧ b < w.heap.size ∧ ∀ i, i < n → w.cell? ⟨b, off + i, none⟩ = some (.int .i64 (f i))
theorem RdZ.below {w w' : World} {ao : Option Addr} {n : Nat} {f : Nat → Int} (h : RdZ w ao n f) (k : Below w.heap.size w w') : RdZ w' ao n f := by
  rcases h with h0 | ⟨b, off, ha, hb, hc⟩
  · exact .inl h0
  · exact .inr ⟨b, off, ha, Nat.lt_of_lt_of_le hb k.size, fun i hi => (k.cell (p := ⟨b, off + i, none⟩) hb).trans (hc i hi)⟩
def inR (x : Int) : Bool := decide (0 ≤ x) && decide (x ≤ 4294967295)
def isZ (n : Nat) (f : Nat → Int) : Bool :=
  decide (2 ≤ n) && (decide (n ≤ 128) && ((List.range n).all (fun i => inR (f i)) && ((decide (f 0 < 2) && decide (f 1 ≤ 39)) || (f 0 == 2 && decide (f 1 ≤ 4294967215)))))
def IsRel (n : Nat) (f : Nat → Int) (w : World) (g : Nat) (v3 : Value) (wr : World) : Prop :=
  ∃ i, i + g = n ∧ v3 = .int .i64 (i : Nat) ∧ (∀ j, j < i → inR (f j) = true) ∧ wr = w
theorem isZ_no {n : Nat} {f : Nat → Int} {i : Nat} (hi : i < n) (h : inR (f i) = false) : isZ n f = false := by
  have : (List.range n).all (fun i => inR (f i)) = false := by
    rw [List.all_eq_false]
    exact ⟨i, List.mem_range.2 hi, by rw [h]; simp⟩
  unfold isZ; rw [this, Bool.false_and, Bool.and_false, Bool.and_false]
/-- A list of numbers, read so. -/
def fz (cs : List Nat) (i : Nat) : Int := ((cs.getD i 0 : Nat) : Int)
theorem put_snoc (cs : List Nat) (i : Nat) (hi : i < cs.length) (h0 : 0 < i) : put (cs.take (i + 1)) = put (cs.take i) ++ [46] ++ nm (cs.getD i 0) := by
  have hne : cs.take i ≠ [] := by
    intro e
    have := congrArg List.length e
    rw [List.length_take, List.length_nil] at this
    omega
  rw [List.take_succ_eq_append_getElem hi, put_app _ _ [] hne]
  show _ ++ (46 :: nm cs[i]) = _
  simp [List.getD, List.getElem?_eq_getElem hi]
theorem put_first (cs : List Nat) (hi : 0 < cs.length) : put (cs.take 1) = nm (cs.getD 0 0) := by
  cases cs with
  | nil => simp at hi
  | cons a r => rfl
def PuRel (cs : List Nat) (w : World) (g : Nat) (v3 v4 : Value) (wr : World) : Prop :=
  ∃ i, i + g = cs.length ∧ v4 = .int .i64 (i : Nat) ∧ v3 = .string (bs (put (cs.take i))) ∧ (put (cs.take i)).length ≤ 11 * i ∧ Below w.heap.size w wr
end Go.Proofs.YtndinelljmjfaaaDoor
