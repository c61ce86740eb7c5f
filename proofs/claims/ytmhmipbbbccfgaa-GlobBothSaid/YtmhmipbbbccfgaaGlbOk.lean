/- The program's patterns keep their word. -/
import Derived.Test.YtmhmipbbbccfgaaGlqH
import Derived.Test.YtmhmipbbbccfgaaGlbW
namespace Go.Proofs.Ytmhmipbbbccfgaa
open Go.ChangeShapes Go.WideShapes Go.ChangeAt Go.RowKit K G13
set_option linter.unusedVariables false

/-- In any worlds that last. -/
theorem glb_okI (I : World → Prop) (k : ∀ a b, I a → Below a.heap.size a b → I b) : GOk I GlR where
  keepI := k
  keep := fun h b => h.below b
  parse := fun p w hp _ => parse_walk p hp w
  matches2 := fun w b p s _ h hs => pmatch_walk w b p s h hs
  matchP := fun p s w hp hs _ => gmatch_walk p s w hp hs
  text := fun w b p _ h => text_walk w b p h
  plain := fun w b p _ h => pplain_walk w b p h
  escape := fun s w hs _ => gescape_walk s hs w
def GlI (_ : World) : Prop := True
theorem gl_all (w : World) : GlI w := trivial
theorem glb_ok : GOk GlI GlR := glb_okI GlI fun _ _ _ _ => trivial
end Go.Proofs.Ytmhmipbbbccfgaa
