/- Texts on the program and on the document, joined: SylOk. -/
import Derived.Test.YtonippapkmmkeaaDoorMa29
/- The program's calls of messages keep their word. -/
namespace Go.Proofs.YtonippapkmmkeaaDoor
open Go.ChangeShapes Go.WideShapes Go.ChangeAt Go.RowKit K Q10 S11
set_option linter.unusedVariables false

theorem sys_keep : Keeps Ty := fun w w' h k => h.below k
theorem sys_same : HSame11 Ty := fun t u ao bo ca cb w hl hl2 _ hr hs => sys_same_walk t u ao bo ca cb hl hl2 w hr hs
theorem sys_ex : HEx11 Ty := fun w h => parse_walk11 w h
theorem sys_pri : HPri11 Ty := fun ao ca w _ => priority_walk11 ao ca w
end Go.Proofs.YtonippapkmmkeaaDoor
