/- gongbook: SameInts and SpoilInts at lists that the call made itself. -/
import Derived.Test.YtanainpapcblfaaDoorRows
import Derived.Test.YtanainpapcblfaaDoorLib
import Derived.Test.YtanainpapcblfaaDoorRow
import Derived.ProofKit
import Derived.IntWalk
import Derived.BigQuiet
import Derived.Deep.QuietTactic
import Derived.Deep.LoopGhost
namespace Go.Proofs.YtanainpapcblfaaDoor
open Go.ChangeShapes Go.WideShapes Go.ChangeAt Go.RowKit K
set_option linter.unusedVariables false

/-- A slice that reads as these numbers. -/
def RdI (w : World) (v : Value) (cs : List Nat) : Prop :=
  ∃ ao cap, v = .slice ao cs.length cap ∧ (cs.length = 0 ∨ ∃ g, ao = some ⟨g, 0, none⟩ ∧ g < w.heap.size ∧ ∀ i, i < cs.length → w.cell? ⟨g, i, none⟩ = some (.int .i64 ((cs.getD i 0 : Nat) : Int)))
theorem RdI.of {w : World} {B : Nat} {T : TypeId} {v : Value} {cs : List Nat} (h : OwnI w B T v cs) : RdI w v cs := by
  obtain ⟨ao, cap, hv, hc⟩ := h.form
  refine ⟨ao, cap, hv, ?_⟩
  rcases hc with h0 | ⟨g, ha, _, hg, hcell⟩
  · exact .inl h0
  · exact .inr ⟨g, ha, hg, fun i hi => (hcell i hi).1⟩
theorem RdI.below {w w' : World} {v : Value} {cs : List Nat} (h : RdI w v cs) (k : Below w.heap.size w w') : RdI w' v cs := by
  obtain ⟨ao, cap, hv, hc⟩ := h
  refine ⟨ao, cap, hv, ?_⟩
  rcases hc with h0 | ⟨g, ha, hg, hcell⟩
  · exact .inl h0
  · exact .inr ⟨g, ha, Nat.lt_of_lt_of_le hg k.size, fun i hi => (k.cell (p := ⟨g, i, none⟩) hg).trans (hcell i hi)⟩
def SmRel (w : World) (n g : Nat) (v5 v6 : Value) (wr : World) : Prop :=
  ∃ i, i + g = n ∧ v5 = .bool true ∧ v6 = .int .i64 (i : Nat) ∧ ∃ m, wr = w.drewN m
set_option maxRecDepth 100000 in
theorem same_walk (cs : List Nat) (hn : cs.length ≤ 1000000) (va vb : Value) (w : World) (ha : RdI w va cs) (hb : RdI w vb cs) :
    Calls Tryd.prog 15 #[va, vb] w fun e w' => e = .returned (.bool true) ∧ ∃ m, w' = w.drewN m := by
  obtain ⟨ao, ca, rfl, ha⟩ := ha
  obtain ⟨bo, cb, rfl, hb⟩ := hb
  have HA := Lib.hid ha
  have HB := Lib.hid hb
  clear ha hb
  go_enter Tryd.func15, Tryd.ntmps15
  go_wp2
  go_loopg [5, 6] cs.length (fun g v5 v6 wr => SmRel w cs.length g v5 v6 wr)
  case atStart => exact ⟨0, by omega, by simp, rfl, 0, rfl⟩
  case round =>
    obtain ⟨i, hi, rfl, rfl, m, rfl⟩ := hrel
    cases gk with
    | zero =>
      obtain rfl : i = cs.length := by omega
      clear hi
      go_wp2
      go_ret
      exact ⟨rfl, m, rfl⟩
    | succ g =>
      have hil : i < cs.length := by omega
      rcases HA.out with h0 | ⟨ga, rfl, _, hca⟩
      · omega
      · rcases HB.out with h0 | ⟨gb, rfl, _, hcb⟩
        · omega
        · have c1 : (w.drewN m).cell? ⟨ga, i, none⟩ = some (.int .i64 ((cs.getD i 0 : Nat) : Int)) := hca i hil
          have c2 : (w.drewN m).cell? ⟨gb, i, none⟩ = some (.int .i64 ((cs.getD i 0 : Nat) : Int)) := hcb i hil
          have HD := Lib.hid (show ∀ k, (w.drewN m).drewN k = w.drewN (m + k) from fun k => by unfold World.drewN; simp [Nat.add_assoc])
          generalize w.drewN m = w5 at c1 c2 HD ⊢
          generalize cs.getD i 0 = x at *
          clear hca hcb HA HB
          go_wp2_with fail
          go_quiet (fail)
          go_wp2
          go_roundg g
          case measure => omega
          case rel => exact ⟨i + 1, by omega, by simp, by simp, m + nq, HD.out nq⟩
/-- A block of its own, behind B, that has so many cells. -/
def Room (w : World) (B : Nat) (T : TypeId) (ao : Option Addr) (n : Nat) : Prop := n = 0 ∨ ∃ g C, ao = some ⟨g, 0, none⟩ ∧ B ≤ g ∧ w.heap[g]? = some (.cells C T (0, 0)) ∧ n ≤ C.size
theorem Room.of {w : World} {B : Nat} {T : TypeId} {v : Value} {cs : List Nat} (h : OwnI w B T v cs) : ∃ ao cap, v = .slice ao cs.length cap ∧ Room w B T ao cs.length := by
  rcases h.2 with ⟨hv, h0⟩ | ⟨g, cap, cur, hv, hB, hh, hle, hm, hs, ht⟩
  · exact ⟨none, 0, by rw [hv, h0], .inl h0⟩
  · exact ⟨some ⟨g, 0, none⟩, cap, hv, .inr ⟨g, cur, rfl, hB, hh, by omega⟩⟩
def SpRel (w : World) (B : Nat) (T : TypeId) (ao : Option Addr) (n g : Nat) (v2 : Value) (wr : World) : Prop :=
  ∃ i, i + g = n ∧ v2 = .int .i64 (i : Nat) ∧ Room wr B T ao n ∧ Below B w wr
set_option maxRecDepth 100000 in
theorem spoil_walk (ao : Option Addr) (n cap : Nat) (hn : n ≤ 1000000) (B : Nat) (w : World) (h : Room w B 3 ao n) :
    Calls Tryd.prog 16 #[.slice ao n cap] w fun e w' => e = .returned (.tuple #[]) ∧ Below B w w' := by
  go_enter Tryd.func16, Tryd.ntmps16
  go_wp2
  go_loopg [2] n (fun g v2 wr => SpRel w B 3 ao n g v2 wr)
  case atStart => exact ⟨0, by omega, rfl, h, Below.refl _ _⟩
  case round =>
    obtain ⟨i, hi, rfl, hR, hb⟩ := hrel
    cases gk with
    | zero =>
      obtain rfl : i = n := by omega
      clear hi hR h
      go_wp2
      go_end0
      exact ⟨rfl, hb⟩
    | succ g =>
      have hil : i < n := by omega
      rcases hR with h0 | ⟨gb, C, rfl, hB, hh, hC⟩
      · omega
      · obtain ⟨y, hc0⟩ : ∃ x, wr.cell? ⟨gb, i, none⟩ = some x := ⟨C[i]'(by omega), by simp [World.cell?, hh]⟩
        have hfr : wr.frozen? ⟨gb, i, none⟩ = false := freeRow hh i
        have HH := Lib.hid hh
        have HC := Lib.hid hC
        clear hh hC h
        go_wp2
        go_roundg g
        case measure => omega
        case rel => exact ⟨i + 1, by omega, by simp, .inr ⟨gb, _, rfl, hB, rowSet HH.out i _, by simp [HC.out]⟩, hb.setCell hB _⟩
end Go.Proofs.YtanainpapcblfaaDoor
