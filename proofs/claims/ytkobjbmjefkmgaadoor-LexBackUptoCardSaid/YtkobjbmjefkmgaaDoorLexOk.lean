/- The program's calls, as the laws of tokens want them. -/
import Derived.Test.YtkobjbmjefkmgaaDoorLxqL
import Derived.Test.YtkobjbmjefkmgaaDoorLexT
namespace Go.Proofs.YtkobjbmjefkmgaaDoor
open Go.ChangeShapes Go.WideShapes Go.ChangeAt Go.RowKit K L14
set_option linter.unusedVariables false

theorem lex_any : HAny14 LxI := fun l ao cap w hl ht hw hr => (lPrint_walk l hl ht ao cap w hw hr).mono fun e w' ⟨h1, h2⟩ => ⟨⟨_, _, h1⟩, h2⟩
theorem lex_cnt : HCnt14 LxI := by
  intro s w hs hw
  have h := Tryd.strings_Count_one (bs s) 10 w
  rw [bs_toList] at h
  exact h.mono fun e w' ⟨h1, h2⟩ => ⟨h1, by rw [h2]; exact Below.refl _ _⟩
end Go.Proofs.YtkobjbmjefkmgaaDoor
