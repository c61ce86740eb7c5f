/- utf's small functions and First, walked. -/
import Derived.Test.YtndinelljmjfaaaDoorRows
import Derived.Test.YtndinelljmjfaaaDoorUtfQ
import Derived.ProofKit
import Derived.OpenShut
import Derived.ShutString
import Derived.IntWalk
import Derived.Deep.LoopGhost
import Derived.Deep.RegionHeld3
namespace Go.Proofs.YtndinelljmjfaaaDoor
open Go.ChangeShapes Go.WideShapes Go.ChangeAt Go.RowKit K U4
set_option linter.unusedVariables false

/-- Whether a number is a character. -/
def isCi (c : Int) : Bool := decide (0 ≤ c) && isC c.toNat
theorem isCi_nat (c : Nat) : isCi (c : Int) = isC c := by simp [isCi]
theorem isCi_iff (c : Int) : isCi c = true ↔ 0 ≤ c ∧ c ≤ 1114111 ∧ (c ≤ 55295 ∨ 57344 ≤ c) := by
  unfold isCi
  rw [Bool.and_eq_true, decide_eq_true_eq, isC_iff]; omega
theorem isCi_f {c : Int} (h : ¬ (0 ≤ c ∧ c ≤ 1114111 ∧ (c ≤ 55295 ∨ 57344 ≤ c))) : isCi c = false := by
  rw [← Bool.not_eq_true, isCi_iff]; exact h
theorem lg4 (c : Nat) : (c < 128 ∧ lg c = 1) ∨ (128 ≤ c ∧ c < 2048 ∧ lg c = 2) ∨ (2048 ≤ c ∧ c < 65536 ∧ lg c = 3) ∨ (65536 ≤ c ∧ lg c = 4) := by
  rcases four c with ⟨h1, e, _⟩ | ⟨h1, h2, e, _⟩ | ⟨h1, h2, e, _⟩ | ⟨h1, e, _⟩
  · exact .inl ⟨h1, e⟩
  · exact .inr (.inl ⟨h1, h2, e⟩)
  · exact .inr (.inr (.inl ⟨h1, h2, e⟩))
  · exact .inr (.inr (.inr ⟨h1, e⟩))
theorem and192 (b : Nat) (h : b < 256) : (bits .and .u8 (b : Int) 192 == 128) = foll b := by
  have : ∀ i : Fin 256, (bits .and .u8 (i.val : Int) 192 == 128) = foll i.val := by decide +kernel
  exact this ⟨b, h⟩
theorem and63 (b : Nat) (h : b < 256) : bits .and .u8 (b : Int) 63 = ((b % 64 : Nat) : Int) := by
  have : ∀ i : Fin 256, bits .and .u8 (i.val : Int) 63 = ((i.val % 64 : Nat) : Int) := by decide +kernel
  exact this ⟨b, h⟩
end Go.Proofs.YtndinelljmjfaaaDoor
