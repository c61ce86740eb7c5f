/- What the three laws of crc share: the table as the row's list lays it, a world in which it lies, the chapter's example. -/
import Derived.Test.YtengpepapoainaaDoorCrcA
import Derived.Test.YtengpepapoainaaDoorArg
import Derived.Test.YtengpepapoainaaDoorCards
import Derived.Test.YtengpepapoainaaDoorTie
import Derived.Deep.DeepHandedRow
import Derived.Lib.LaidTab
namespace Go.Proofs.YtengpepapoainaaDoor
open Go.ChangeShapes Go.WideShapes Go.ChangeAt Go.RowKit K C2
set_option linter.unusedVariables false

theorem gHalves : Tryd.prog.globalNamed "gong/crc.halves" = some 0 := by kernel_rfl
theorem gHalvesType : (Tryd.prog.globals[0]?).map (·.type) = some 43 := by kernel_rfl
theorem cellsHalves : Tryd.prog.cellsOf 43 = 16 := by kernel_rfl
theorem cellsU32 : Tryd.prog.cellsOf 33 = 1 := by kernel_rfl
/-- The table's numbers. -/
def halfList : List Int := (List.range 16).map fun k => uu (hv k)
theorem halfData : (Rows.laid_gong_crc_halves : DataW Unit) = Lib.tabData .u32 halfList := by
  have h : halfList = [0, 498536548, 997073096, 651767980, 1994146192, 1802195444, 1303535960, 1342533948, 3988292384, 4027552580, 3604390888, 3412177804, 2607071920, 2262029012, 2685067896, 3183342108] := by decide +kernel
  rw [h]; rfl
theorem halvesOf {W : World} (h : laidMetH Tryd.prog [("gong/crc.halves", Rows.laid_gong_crc_halves)] W) : Halves W := by
  rw [halfData] at h
  have hT := Lib.tabIs_of_head (rest := []) gHalves gHalvesType Tryd.underlying43 Tryd.underlying33 cellsU32 cellsHalves h
  intro k hk
  have hc := hT.cell gHalves k (by unfold halfList; simpa using hk)
  rw [hc]
  have : halfList.getD k 0 = uu (hv k) := by unfold halfList; simp [List.getD, hk]
  rw [this]
/-- A world for the witness: the settled one, the table (block 0) holding what its initialiser lays. -/
noncomputable def laidWorld (os : Os) : World :=
  { World.holding Tryd.prog os ⟨#[], #[], []⟩ with heap := (World.holding Tryd.prog os ⟨#[], #[], []⟩).heap.modify 0 fun
      | .cells _ t frozen => .cells #[.int .u32 0, .int .u32 498536548, .int .u32 997073096, .int .u32 651767980, .int .u32 1994146192, .int .u32 1802195444, .int .u32 1303535960, .int .u32 1342533948, .int .u32 3988292384, .int .u32 4027552580, .int .u32 3604390888, .int .u32 3412177804, .int .u32 2607071920, .int .u32 2262029012, .int .u32 2685067896, .int .u32 3183342108] t frozen
      | o => o }

theorem works_walk (w : World) (ht : Halves w) :
    Calls Tryd.prog 6 #[] w fun e w' => e = .returned (.bool true) ∧ w = w' := by
  have h9 : uu (C2.sum [49, 50, 51, 52, 53, 54, 55, 56, 57]) = 3421780262 := by decide +kernel
  have hS := sum_walk [49, 50, 51, 52, 53, 54, 55, 56, 57] (by simp) w ht
  rw [h9] at hS
  go_enter Tryd.func6, Tryd.ntmps6
  go_wp2_with fail
  refine hS.mono ?_
  rintro e w1 ⟨rfl, rfl⟩
  go_wp2
  go_ret
  exact ⟨rfl, rfl⟩
end Go.Proofs.YtengpepapoainaaDoor
