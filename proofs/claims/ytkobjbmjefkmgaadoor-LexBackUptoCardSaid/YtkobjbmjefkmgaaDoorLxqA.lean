/- The program's isLetter and isDigit, walked. gen_lxqa.py writes it. -/
import Derived.Test.YtkobjbmjefkmgaaDoorLexP
import Derived.Test.YtkobjbmjefkmgaaDoorRows
import Derived.WalkKit
import Derived.ProofKit
import Derived.OpenShut
import Derived.ShutString
import Derived.Deep.LoopGhost
namespace Go.Proofs.YtkobjbmjefkmgaaDoor
open Go.ChangeShapes Go.WideShapes Go.ChangeAt Go.RowKit K L14
set_option linter.unusedVariables false

set_option maxRecDepth 100000 in
theorem lletter_walk (n : Nat) (hn : n < 256) (w : World) : Calls Tryd.prog 38 #[.int .u8 (n : Nat)] w fun e w' => e = .returned (.bool (ltN n)) ∧ w = w' := by
  obtain hc | hc | hc | hc | hc : n ≤ 64 ∨ (65 ≤ n ∧ n ≤ 90) ∨ (91 ≤ n ∧ n ≤ 96) ∨ (97 ≤ n ∧ n ≤ 122) ∨ 123 ≤ n := by omega
  · have HN := Lib.hid (show ltN n = false by simp [ltN]; omega)
    have g0 : ¬ (65 : Int) ≤ ((n : Nat) : Int) := by omega
    have g1 : ¬ (97 : Int) ≤ ((n : Nat) : Int) := by omega
    clear hn hc
    go_enter Tryd.func38, Tryd.ntmps38
    go_wp2
    go_ret
    rw [HN.out]
    exact ⟨rfl, rfl⟩
  · have HN := Lib.hid (show ltN n = true by simp [ltN]; omega)
    have g0 : (65 : Int) ≤ ((n : Nat) : Int) := by omega
    have g1 : ((n : Nat) : Int) ≤ 90 := by omega
    clear hn hc
    go_enter Tryd.func38, Tryd.ntmps38
    go_wp2
    go_ret
    rw [HN.out]
    exact ⟨rfl, rfl⟩
  · have HN := Lib.hid (show ltN n = false by simp [ltN]; omega)
    have g0 : (65 : Int) ≤ ((n : Nat) : Int) := by omega
    have g1 : ¬ ((n : Nat) : Int) ≤ 90 := by omega
    have g2 : ¬ (97 : Int) ≤ ((n : Nat) : Int) := by omega
    clear hn hc
    go_enter Tryd.func38, Tryd.ntmps38
    go_wp2
    go_ret
    rw [HN.out]
    exact ⟨rfl, rfl⟩
  · have HN := Lib.hid (show ltN n = true by simp [ltN]; omega)
    have g0 : (65 : Int) ≤ ((n : Nat) : Int) := by omega
    have g1 : ¬ ((n : Nat) : Int) ≤ 90 := by omega
    have g2 : (97 : Int) ≤ ((n : Nat) : Int) := by omega
    have g3 : ((n : Nat) : Int) ≤ 122 := by omega
    clear hn hc
    go_enter Tryd.func38, Tryd.ntmps38
    go_wp2
    go_ret
    rw [HN.out]
    exact ⟨rfl, rfl⟩
  · have HN := Lib.hid (show ltN n = false by simp [ltN]; omega)
    have g0 : (65 : Int) ≤ ((n : Nat) : Int) := by omega
    have g1 : ¬ ((n : Nat) : Int) ≤ 90 := by omega
    have g2 : (97 : Int) ≤ ((n : Nat) : Int) := by omega
    have g3 : ¬ ((n : Nat) : Int) ≤ 122 := by omega
    clear hn hc
    go_enter Tryd.func38, Tryd.ntmps38
    go_wp2
    go_ret
    rw [HN.out]
    exact ⟨rfl, rfl⟩
set_option maxRecDepth 100000 in
theorem ldigit_walk (n : Nat) (hn : n < 256) (w : World) : Calls Tryd.prog 41 #[.int .u8 (n : Nat)] w fun e w' => e = .returned (.bool (dgN n)) ∧ w = w' := by
  obtain hc | hc | hc : n ≤ 47 ∨ (48 ≤ n ∧ n ≤ 57) ∨ 58 ≤ n := by omega
  · have HN := Lib.hid (show dgN n = false by simp [dgN]; omega)
    have g0 : ¬ (48 : Int) ≤ ((n : Nat) : Int) := by omega
    clear hn hc
    go_enter Tryd.func41, Tryd.ntmps41
    go_wp2
    go_ret
    rw [HN.out]
    exact ⟨rfl, rfl⟩
  · have HN := Lib.hid (show dgN n = true by simp [dgN]; omega)
    have g0 : (48 : Int) ≤ ((n : Nat) : Int) := by omega
    have g1 : ((n : Nat) : Int) ≤ 57 := by omega
    clear hn hc
    go_enter Tryd.func41, Tryd.ntmps41
    go_wp2
    go_ret
    rw [HN.out]
    exact ⟨rfl, rfl⟩
  · have HN := Lib.hid (show dgN n = false by simp [dgN]; omega)
    have g0 : (48 : Int) ≤ ((n : Nat) : Int) := by omega
    have g1 : ¬ ((n : Nat) : Int) ≤ 57 := by omega
    clear hn hc
    go_enter Tryd.func41, Tryd.ntmps41
    go_wp2
    go_ret
    rw [HN.out]
    exact ⟨rfl, rfl⟩
end Go.Proofs.YtkobjbmjefkmgaaDoor
