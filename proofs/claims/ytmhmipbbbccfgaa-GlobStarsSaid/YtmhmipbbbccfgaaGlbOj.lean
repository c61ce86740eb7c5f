/- The program's patterns keep their word in the worlds where strings.Contains does. -/
import Derived.Test.YtmhmipbbbccfgaaGlbOk
import Derived.Test.YtmhmipbbbccfgaaGlbS
namespace Go.Proofs.Ytmhmipbbbccfgaa
open Go.ChangeShapes Go.WideShapes Go.ChangeAt Go.RowKit K G13
set_option linter.unusedVariables false

/-- The cell that strings.Contains asks holds a number. -/
def GlJ (w : World) : Prop := ∃ m : Int, w.cell? ⟨Try.laysM144_ren.g 1, 0, none⟩ = some (.int .i64 m)
theorem glj_of {w : World} (h : w.ShapedOpen Try.prog) : GlJ w := Try.laysM144.s1_3 w h
theorem glj_keep (a b : World) (h : GlJ a) (k : Below a.heap.size a b) : GlJ b := by
  obtain ⟨m, hm⟩ := h
  exact ⟨m, (World.cell?_of_block (k.block _ (World.block_lt_of_cell? a _ hm))).trans hm⟩
theorem glb_okJ : GOk GlJ GlR := glb_okI GlJ glj_keep
theorem glb_contJ : HCont GlJ := by
  intro s p w ⟨m, hm⟩ hs
  have h := Try.strings_Contains (bs s) (bs p) m w (by rw [bs_size]; omega) hm
  rw [bs_toList, bs_toList] at h
  exact h.mono fun _ _ ⟨a, b⟩ => ⟨a, b ▸ Below.refl _ _⟩
end Go.Proofs.Ytmhmipbbbccfgaa
