/- The program's calls on structured data keep their word. -/
import Derived.Test.YtkpcfbadhoiigaaDoorQuqH
import Derived.Test.YtkpcfbadhoiigaaDoorQuqK
import Derived.Test.YtkpcfbadhoiigaaDoorQuqL
namespace Go.Proofs.YtkpcfbadhoiigaaDoor
open Go.ChangeShapes Go.WideShapes Go.ChangeAt Go.RowKit K Q10 U4
set_option linter.unusedVariables false

theorem quo_keep : Keeps Leads := fun a b h k => h.below k
theorem quo_leads : ∀ w, Leads w → Leads w := fun _ h => h
theorem quo_parse : HParse Leads := fun l w hl h => kparse_walk l hl w h
theorem quo_check : HCheck Leads := fun l ao cap w hB _ h hr => kcheck_walk l ao cap hB w h hr
theorem quo_print : HPrint Leads := fun l ao cap w hB _ hp h hr => kprint_walk l ao cap hB hp w h hr
theorem quo_get : HGet Leads := fun l ao cap id n w hB h hr => kget_walk l ao cap id n (by have := hB.1; omega) (fun x hx => by have := (hB.2 x hx).2.1; omega) w hr
theorem quo_same : HSame Leads := fun a b ao bo ca cb w hA hB h hr hs => ksame_walk a b ao bo ca cb (by have := hA.1; omega) (by have := hB.1; omega) (fun x hx => by have := (hA.2 x hx).2.1; omega) (fun x hx => by have := (hB.2 x hx).2.1; omega) w hr hs
theorem quo_name : HIsName Leads := fun l w hl h => (isname_walk l (by omega) w).mono fun e w' ⟨h1, h2⟩ => ⟨h1, by rw [h2]; exact Below.refl _ _⟩
theorem quo_escape : HEscape Leads := fun l w hl h => escape_walk l (by omega) w
end Go.Proofs.YtkpcfbadhoiigaaDoor
