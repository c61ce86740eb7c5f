/- SpoilInts, and what it leaves alone: all blocks but the list's own. -/
import Derived.Test.YtanainpapcblfaaDoorInts
namespace Go.Proofs.YtanainpapcblfaaDoor
open Go.ChangeShapes Go.WideShapes Go.ChangeAt Go.RowKit K
set_option linter.unusedVariables false

/-- The block of a list. -/
def blk (ao : Option Addr) (n : Nat) : List Nat := if n = 0 then [] else match ao with | some a => [a.block] | none => []
def SkRel (w : World) (B : Nat) (T : TypeId) (ao : Option Addr) (n g : Nat) (v2 : Value) (wr : World) : Prop :=
  ∃ i, i + g = n ∧ v2 = .int .i64 (i : Nat) ∧ Room wr B T ao n ∧ Below B w wr ∧ Kp (blk ao n) w wr
set_option maxRecDepth 100000 in
theorem spoilK_walk (ao : Option Addr) (n cap : Nat) (hn : n ≤ 1000000) (B : Nat) (w : World) (h : Room w B 3 ao n) :
    Calls Tryd.prog 16 #[.slice ao n cap] w fun e w' => e = .returned (.tuple #[]) ∧ Below B w w' ∧ Kp (blk ao n) w w' := by
  go_enter Tryd.func16, Tryd.ntmps16
  go_wp2
  go_loopg [2] n (fun g v2 wr => SkRel w B 3 ao n g v2 wr)
  case atStart => exact ⟨0, by omega, rfl, h, Below.refl _ _, Kp.refl _ _⟩
  case round =>
    obtain ⟨i, hi, rfl, hR, hb, hk⟩ := hrel
    cases gk with
    | zero =>
      obtain rfl : i = n := by omega
      clear hi hR h
      go_wp2
      go_end0
      exact ⟨rfl, hb, hk⟩
    | succ g =>
      have hil : i < n := by omega
      rcases hR with h0 | ⟨gb, C, rfl, hB, hh, hC⟩
      · omega
      · obtain ⟨y, hc0⟩ : ∃ x, wr.cell? ⟨gb, i, none⟩ = some x := ⟨C[i]'(by omega), by simp [World.cell?, hh]⟩
        have hfr : wr.frozen? ⟨gb, i, none⟩ = false := freeRow hh i
        have HH := Lib.hid hh
        have HC := Lib.hid hC
        have HK := Lib.hid hk
        clear hh hC h hk
        go_wp2
        go_roundg g
        case measure => omega
        case rel => exact ⟨i + 1, by omega, by simp, .inr ⟨gb, _, rfl, hB, rowSet HH.out i _, by simp [HC.out]⟩, hb.setCell hB _, HK.out.set _ (by unfold blk; rw [if_neg (by omega)]; simp) _⟩
/-- Another list stays. -/
theorem own_spoil {w w' : World} {B : Nat} {T : TypeId} {v : Value} {cs : List Nat} {ao : Option Addr} {n : Nat} (h : OwnI w B T v cs) (k : Kp (blk ao n) w w') (hb : ∀ x ∈ blk ao n, x < B) : OwnI w' B T v cs := by
  refine ⟨h.1, ?_⟩
  rcases h.2 with hn | ⟨g, cap, cur, h1, h2, h3, h4⟩
  · exact .inl hn
  · exact .inr ⟨g, cap, cur, h1, h2, k.heap h3 (fun hm => by have := hb g hm; omega), h4⟩
/-- A list's block, where it stood. -/
theorem blk_lt {w : World} {B : Nat} {T : TypeId} {ao : Option Addr} {n : Nat} (h : Room w B T ao n) : ∀ x ∈ blk ao n, x < w.heap.size := by
  intro x hx
  unfold blk at hx
  by_cases h0 : n = 0
  · rw [if_pos h0] at hx; simp at hx
  · rw [if_neg h0] at hx
    rcases h with h | ⟨g, C, rfl, _, hh, _⟩
    · exact absurd h h0
    · simp at hx
      subst hx
      exact lt_of_block hh
end Go.Proofs.YtanainpapcblfaaDoor
