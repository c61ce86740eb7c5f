/- gongref01.Grouped alone: for the stages whose rows have no more of layer 1. -/
import Derived.Test.YtanainpapcblfaaDoorRows
import Derived.Test.YtanainpapcblfaaDoorOctP
import Derived.Test.YtanainpapcblfaaDoorLib
import Derived.ProofKit
import Derived.OpenShut
import Derived.ShutString
namespace Go.Proofs.YtanainpapcblfaaDoor
open Go.ChangeShapes Go.WideShapes Go.ChangeAt Go.RowKit P1 K
set_option linter.unusedVariables false

def GpRel (w : World) (t : List UInt8) (vn vs : Value) (wr : World) : Prop :=
  ∃ (m f : Nat) (l : List UInt8), m < 128 ^ (f + 1) ∧ f ≤ 8 ∧ vn = .int .i64 m ∧ vs = .string (bs l) ∧ l.length + f ≤ 9 ∧ low f (m / 128) ++ l = t ∧ Below w.heap.size w wr

set_option maxRecDepth 100000 in
/-- The document's Grouped (layer 1), for the stages that only call it. -/
theorem grp_walk (n : Nat) (h1 : n ≤ 9223372036854775807) (w : World) :
    Calls Tryd.prog 37 #[.int .i64 n] w fun e w' => e = .returned (.string (bs (grp n))) ∧ Below w.heap.size w w' := by
  have hc1 := run_conv_one (P := Tryd.prog) 49 5 9 Tryd.underlying49 Tryd.underlying5 Tryd.underlying9
  go_enter Tryd.func37, Tryd.ntmps37
  go_wp2
  go_loopw [0, 3] (fun vn vs wr => GpRel w (grp n) vn vs wr) (fun vn vs wr => (intOf vn).toNat)
  case atStart =>
    exact ⟨n, 8, _, by omega, by omega, rfl, rfl, by simp, rfl, (Below.refl _ _).alloc (Nat.le_refl _) _⟩
  case round =>
    obtain ⟨m, f, l, hm, hf, rfl, rfl, hl, hg, hb⟩ := hrel
    have Hg := Lib.hid hg; have Hm := Lib.hid hm; clear hg
    have hmx : m ≤ 9223372036854775807 := by
      have : (128 : Nat) ^ (f + 1) ≤ 128 ^ 9 := Nat.pow_le_pow_right (by omega) (by omega)
      omega
    clear hm
    by_cases h0 : 128 ≤ m
    · go_wp2
      go_roundw
      case measure => simp [intOf]; omega
      case rel =>
        obtain ⟨g, rfl⟩ : ∃ g, f = g + 1 := ⟨f - 1, by have := Hm.out; rcases f with _ | f <;> simp at this ⊢; omega⟩
        have hm2 : m / 128 < 128 ^ (g + 1) := by have := Hm.out; rw [Nat.pow_succ] at this; omega
        refine ⟨m / 128, g, b8 (m / 128 % 128 + 128) :: l, hm2, by omega, by simp, ?_, by simp; omega, ?_, hb.alloc (by have := hb.size; omega) _⟩
        · simp
        · rw [← Hg.out, low_step g (m / 128) (by omega), List.append_assoc]; rfl
    · go_wp2
      go_ret
      refine ⟨?_, hb⟩
      rw [← Hg.out, show m / 128 = 0 by omega, low_zero]; rfl
end Go.Proofs.YtanainpapcblfaaDoor
