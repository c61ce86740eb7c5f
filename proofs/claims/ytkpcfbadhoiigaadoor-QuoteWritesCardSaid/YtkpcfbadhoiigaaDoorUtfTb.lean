/- The table of package utf, out of a row's list. -/
import Derived.Test.YtkpcfbadhoiigaaDoorUtfB
import Derived.Test.YtkpcfbadhoiigaaDoorTab
import Derived.Test.YtkpcfbadhoiigaaDoorArg
import Derived.Test.YtkpcfbadhoiigaaDoorCards
import Derived.Test.YtkpcfbadhoiigaaDoorTie
import Derived.Deep.DeepHandedRow
namespace Go.Proofs.YtkpcfbadhoiigaaDoor
open Go.ChangeShapes Go.WideShapes Go.ChangeAt Go.RowKit K U4
set_option linter.unusedVariables false

theorem leads_data : (Rows.laid_gong_utf_leads : DataW Unit) = Lib.tabData .u8 ((List.range 4).map fun k => ((ld (k + 1) : Nat) : Int)) := rfl
theorem leadsOf {W : World} {L : List (String × DataW Unit)} (h : laidMetH Tryd.prog L W) (hp : (L.all fun x => x.2.handleName?.isNone) = true) (hm : ("gong/utf.leads", Rows.laid_gong_utf_leads) ∈ L) : Leads W := by
  rw [leads_data] at hm
  have hT := laid_tab h hp hm (by kernel_rfl : Tryd.prog.globalNamed "gong/utf.leads" = some 1) (by kernel_rfl) Tryd.underlying88 Tryd.underlying5 (by kernel_rfl) (by kernel_rfl)
  intro k hk
  have hc := hT.cell (by kernel_rfl : Tryd.prog.globalNamed "gong/utf.leads" = some 1) k (by simpa using hk)
  rw [hc]
  simp [List.getD, hk]
end Go.Proofs.YtkpcfbadhoiigaaDoor
