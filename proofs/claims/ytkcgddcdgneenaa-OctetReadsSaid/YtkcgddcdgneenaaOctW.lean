/- gonglaw01.works answers true: the chapter's examples. -/
import Derived.Test.YtkcgddcdgneenaaOctD
namespace Go.Proofs.Ytkcgddcdgneenaa
open Go.ChangeShapes Go.WideShapes Go.ChangeAt Go.RowKit P1 K
set_option linter.unusedVariables false

theorem works_walk (w : World) : Calls Try.prog 8 #[] w fun e w' => e = .returned (.bool true) ∧ Below w.heap.size w w' := by
  have g1 : grpS 300 = [130, 44] := by decide +kernel
  have g2 : grpC 300 = 0 := by decide +kernel
  have g3 : wideS 300 3 = [0, 1, 44] := by decide +kernel
  have g4 : wideC 300 3 = 0 := by decide +kernel
  go_enter Try.func8, Try.ntmps8
  go_wp2_with (first | (go_at_call 9; refine (octGroups_walk 300 (by omega) (by omega) _).mono ?_; rintro e w1 ⟨rfl, hb1⟩) | (go_at_call 11; refine (octWide_walk 300 3 (by omega) (by omega) _).mono ?_; rintro e w2 ⟨rfl, hb2⟩))
  go_ret
  exact ⟨rfl, hb1.trans (hb2.mono hb1.size)⟩

end Go.Proofs.Ytkcgddcdgneenaa
