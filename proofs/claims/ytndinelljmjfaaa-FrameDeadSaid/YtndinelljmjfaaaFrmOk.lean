/- What the program's calls answer, in any world. -/
import Derived.Test.YtndinelljmjfaaaFrqG
namespace Go.Proofs.Ytndinelljmjfaaa
open K F12
def FrI (_ : World) : Prop := True
theorem fr_all (w : World) : FrI w := trivial
theorem frm_ok : FOk FrI FrR := frm_okI FrI fun _ _ h _ => h
end Go.Proofs.Ytndinelljmjfaaa
