/- What the laws of utf share: the table as the rows list it. -/
import Derived.Test.YthmnfffloioagaaDoorUtfI
import Derived.Test.YthmnfffloioagaaDoorTab
import Derived.Test.YthmnfffloioagaaDoorArg
import Derived.Test.YthmnfffloioagaaDoorCards
import Derived.Test.YthmnfffloioagaaDoorTie
import Derived.Deep.DeepHandedRow
namespace Go.Proofs.YthmnfffloioagaaDoor
open Go.ChangeShapes Go.WideShapes Go.ChangeAt Go.RowKit K U4
set_option linter.unusedVariables false

theorem leads_data : (Rows.laid_gong_utf_leads : DataW Unit) = Lib.tabData .u8 ((List.range 4).map fun k => ((ld (k + 1) : Nat) : Int)) := rfl
theorem leadsOf {W : World} {L : List (String × DataW Unit)} (h : laidMetH Tryd.prog L W) (hp : (L.all fun x => x.2.handleName?.isNone) = true) (hm : ("gong/utf.leads", Rows.laid_gong_utf_leads) ∈ L) : Leads W := by
  rw [leads_data] at hm
  have hT := laid_tab h hp hm (by kernel_rfl : Tryd.prog.globalNamed "gong/utf.leads" = some 0) (by kernel_rfl) Tryd.underlying45 Tryd.underlying5 (by kernel_rfl) (by kernel_rfl)
  intro k hk
  have hc := hT.cell (by kernel_rfl : Tryd.prog.globalNamed "gong/utf.leads" = some 0) k (by simpa using hk)
  rw [hc]
  simp [List.getD, hk]
theorem bounds_of {t : Int} (wt : (Lit.int .i64 t).wf = true) : -9223372036854775808 ≤ t ∧ t ≤ 9223372036854775807 := by
  simp [Lit.wf, IntKind.min, IntKind.max, IntKind.bits, IntKind.signed] at wt; omega
end Go.Proofs.YthmnfffloioagaaDoor
