/- What the library's table holds, as the rows list it. -/
import Derived.Test.YtndinelljmjfaaaDoorFrqI
import Derived.Test.YtndinelljmjfaaaDoorCards
import Derived.Test.YtndinelljmjfaaaDoorTie
namespace Go.Proofs.YtndinelljmjfaaaDoor
open Go.ChangeShapes Go.WideShapes Go.ChangeAt Go.RowKit K
theorem pow_data : (Rows.laid_internal_strconv_uint64pow10 : DataW Unit) = Lib.tabData .u64 Lib.pow10Tab := rfl
theorem tabs12Of {W : World} {L : List (String × DataW Unit)} (h : laidMetH Tryd.prog L W) (hp : (L.all fun x => x.2.handleName?.isNone) = true) (hm : ("internal/strconv.uint64pow10", (Rows.laid_internal_strconv_uint64pow10 : DataW Unit)) ∈ L) : FrI W := by
  rw [pow_data] at hm
  exact laid_tab (zs := Lib.pow10Tab) h hp hm (by kernel_rfl : Tryd.prog.globalNamed "internal/strconv.uint64pow10" = some 0) (by kernel_rfl : (Tryd.prog.globals[0]?).map (·.type) = some 72) Tryd.underlying72 Tryd.underlying65 (by kernel_rfl) (by kernel_rfl)
end Go.Proofs.YtndinelljmjfaaaDoor
