/- What the laws of stamp's printing share. -/
import Derived.Test.YtaijekagcmkgjaaDoorStpW
import Derived.Test.YtaijekagcmkgjaaDoorStpJ
import Derived.Test.YtaijekagcmkgjaaDoorStpX
import Derived.Test.YtaijekagcmkgjaaDoorBook
namespace Go.Proofs.YtaijekagcmkgjaaDoor
open Go.ChangeShapes Go.WideShapes Go.ChangeAt Go.RowKit K S3
set_option linter.unusedVariables false

theorem pow_data : (Rows.laid_internal_strconv_uint64pow10 : DataW Unit) = Lib.tabData .u64 Lib.pow10Tab := rfl
theorem powsOf {W : World} {L : List (String × DataW Unit)} (h : laidMetH Tryd.prog L W) (hp : (L.all fun x => x.2.handleName?.isNone) = true) (hm : ("internal/strconv.uint64pow10", Rows.laid_internal_strconv_uint64pow10) ∈ L) : Pows W := by
  rw [pow_data] at hm
  exact laid_tab h hp hm (by kernel_rfl : Tryd.prog.globalNamed "internal/strconv.uint64pow10" = some 2) (by kernel_rfl) Tryd.underlying100 Tryd.underlying85 (by kernel_rfl) (by kernel_rfl)


end Go.Proofs.YtaijekagcmkgjaaDoor
