/- utf's small functions and First, walked. -/
import Derived.Test.YtkpcfbadhoiigaaDoorRows
import Derived.Test.YtkpcfbadhoiigaaDoorUtfQ
import Derived.ProofKit
import Derived.OpenShut
import Derived.ShutString
import Derived.IntWalk
import Derived.Deep.LoopGhost
import Derived.Deep.RegionHeld3
namespace Go.Proofs.YtkpcfbadhoiigaaDoor
open Go.ChangeShapes Go.WideShapes Go.ChangeAt Go.RowKit K U4
set_option linter.unusedVariables false

/-- What the variable 'leads' holds. -/
def Leads (w : World) : Prop := ∀ k, k < 4 → w.cell? ⟨1, k, none⟩ = some (.int .u8 (ld (k + 1) : Nat))
theorem Leads.below {w w' : World} (h : Leads w) (k : Below w.heap.size w w') : Leads w' := by
  intro i hi
  have hb := World.block_lt_of_cell? w _ (h i hi)
  rw [World.cell?_of_block (k.block _ hb)]
  exact h i hi
theorem Leads.drewN {w : World} (h : Leads w) (n : Nat) : Leads (w.drewN n) := h

/-- Whether a number is a character. -/
def isCi (c : Int) : Bool := decide (0 ≤ c) && isC c.toNat
theorem isCi_nat (c : Nat) : isCi (c : Int) = isC c := by simp [isCi]
theorem isCi_iff (c : Int) : isCi c = true ↔ 0 ≤ c ∧ c ≤ 1114111 ∧ (c ≤ 55295 ∨ 57344 ≤ c) := by
  unfold isCi
  rw [Bool.and_eq_true, decide_eq_true_eq, isC_iff]; omega
theorem isCi_f {c : Int} (h : ¬ (0 ≤ c ∧ c ≤ 1114111 ∧ (c ≤ 55295 ∨ 57344 ≤ c))) : isCi c = false := by
  rw [← Bool.not_eq_true, isCi_iff]; exact h
theorem isCh_walk (c : Int) (w : World) :
    Calls Tryd.prog 66 #[.int .i64 c] w fun e w' => e = .returned (.bool (isCi c)) ∧ w = w' := by
  by_cases h0 : 0 ≤ c
  · by_cases h1 : c ≤ 1114111
    · have e : isCi c = (decide (c < 55296) || decide (57343 < c)) := by
        rw [Bool.eq_iff_iff, isCi_iff, Bool.or_eq_true, decide_eq_true_eq, decide_eq_true_eq]; omega
      rw [e]; clear e
      go_enter Tryd.func66, Tryd.ntmps66
      go_wp2
      all_goals (go_ret; exact ⟨rfl, rfl⟩)
    · rw [isCi_f (c := c) (by omega)]
      have h1' : 1114112 ≤ c := by omega
      clear h1
      go_enter Tryd.func66, Tryd.ntmps66
      go_wp2
      go_ret
      exact ⟨rfl, rfl⟩
  · rw [isCi_f (c := c) (by omega)]
    have h0' : c ≤ -1 := by omega
    clear h0
    go_enter Tryd.func66, Tryd.ntmps66
    go_wp2
    go_ret
    exact ⟨rfl, rfl⟩

theorem lg4 (c : Nat) : (c < 128 ∧ lg c = 1) ∨ (128 ≤ c ∧ c < 2048 ∧ lg c = 2) ∨ (2048 ≤ c ∧ c < 65536 ∧ lg c = 3) ∨ (65536 ≤ c ∧ lg c = 4) := by
  rcases four c with ⟨h1, e, _⟩ | ⟨h1, h2, e, _⟩ | ⟨h1, h2, e, _⟩ | ⟨h1, e, _⟩
  · exact .inl ⟨h1, e⟩
  · exact .inr (.inl ⟨h1, h2, e⟩)
  · exact .inr (.inr (.inl ⟨h1, h2, e⟩))
  · exact .inr (.inr (.inr ⟨h1, e⟩))
theorem long1 (z : Int) (h : z < 128) (w : World) :
    Calls Tryd.prog 67 #[.int .i64 z] w fun e w' => e = .returned (.int .i64 1) ∧ w = w' := by
  go_enter Tryd.func67, Tryd.ntmps67
  go_wp2
  go_ret
  exact ⟨rfl, rfl⟩
theorem long2 (z : Int) (h0 : 128 ≤ z) (h : z < 2048) (w : World) :
    Calls Tryd.prog 67 #[.int .i64 z] w fun e w' => e = .returned (.int .i64 2) ∧ w = w' := by
  go_enter Tryd.func67, Tryd.ntmps67
  go_wp2
  go_ret
  exact ⟨rfl, rfl⟩
theorem long3 (z : Int) (h0 : 2048 ≤ z) (h : z < 65536) (w : World) :
    Calls Tryd.prog 67 #[.int .i64 z] w fun e w' => e = .returned (.int .i64 3) ∧ w = w' := by
  go_enter Tryd.func67, Tryd.ntmps67
  go_wp2
  go_ret
  exact ⟨rfl, rfl⟩
theorem long4 (z : Int) (h0 : 65536 ≤ z) (w : World) :
    Calls Tryd.prog 67 #[.int .i64 z] w fun e w' => e = .returned (.int .i64 4) ∧ w = w' := by
  go_enter Tryd.func67, Tryd.ntmps67
  go_wp2
  go_ret
  exact ⟨rfl, rfl⟩
theorem long_walk (c : Nat) (w : World) :
    Calls Tryd.prog 67 #[.int .i64 c] w fun e w' => e = .returned (.int .i64 (lg c : Nat)) ∧ w = w' := by
  rcases lg4 c with ⟨h1, e⟩ | ⟨h1, h2, e⟩ | ⟨h1, h2, e⟩ | ⟨h1, e⟩ <;> rw [e]
  · exact long1 c (by omega) w
  · exact long2 c (by omega) (by omega) w
  · exact long3 c (by omega) (by omega) w
  · exact long4 c (by omega) w

theorem and192 (b : Nat) (h : b < 256) : (bits .and .u8 (b : Int) 192 == 128) = foll b := by
  have : ∀ i : Fin 256, (bits .and .u8 (i.val : Int) 192 == 128) = foll i.val := by decide +kernel
  exact this ⟨b, h⟩
theorem and63 (b : Nat) (h : b < 256) : bits .and .u8 (b : Int) 63 = ((b % 64 : Nat) : Int) := by
  have : ∀ i : Fin 256, bits .and .u8 (i.val : Int) 63 = ((i.val % 64 : Nat) : Int) := by decide +kernel
  exact this ⟨b, h⟩
theorem follows_walk (b : Nat) (h : b < 256) (w : World) :
    Calls Tryd.prog 75 #[.int .u8 b] w fun e w' => e = .returned (.bool (foll b)) ∧ w = w' := by
  have ha := and192 b h
  go_enter Tryd.func75, Tryd.ntmps75
  go_wp2
  go_ret
  exact ⟨rfl, rfl⟩
end Go.Proofs.YtkpcfbadhoiigaaDoor
