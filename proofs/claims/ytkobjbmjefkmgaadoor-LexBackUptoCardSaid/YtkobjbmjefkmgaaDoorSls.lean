/- Lists of texts and of numbers among the arguments: what the reading gives. Of no stage. -/
import Derived.Test.YtkobjbmjefkmgaaDoorArg
import Derived.Test.YtkobjbmjefkmgaaDoorRows
import Derived.Test.YtkobjbmjefkmgaaDoorTxt
import Derived.WideShapes
import Derived.ChangeArms
namespace Go.Proofs.YtkobjbmjefkmgaaDoor
open Go.WideShapes Go.RowKit K
set_option linter.unusedVariables false

set_option maxRecDepth 1000000 in
theorem argSl {w : World} {B : Nat} {v : Value} (g : Rdg Tryd.prog w 42 v.cells.toList) (ok : Value.okWide Tryd.prog w .any B 42 v) :
    ∃ (ls : List (List UInt8)) (ao : Option Addr) (cap : Nat), v = .slice ao ls.length cap ∧ ls.length ≤ 140737488351232 ∧ RdS w ao ls ∧ (∀ l ∈ ls, l.length ≤ 140737488351232) := by
  obtain ⟨ao, len, cap, rfl⟩ := okWide_slice Tryd.underlying42 ok
  obtain ⟨ss, hss⟩ := Rdg.strs (show Rdg Tryd.prog w 42 [.slice ao len cap] from g) Tryd.underlying42 Tryd.underlying9 (by kernel_rfl) (by rw [show Tryd.prog.bytesOf 9 = 16 by kernel_rfl]; omega)
  obtain ⟨ls, rfl, hl, hr, hm⟩ := strs_list hss
  exact ⟨ls, ao, cap, rfl, hl, hr, hm⟩
set_option maxRecDepth 1000000 in
theorem argIl {w : World} {B : Nat} {v : Value} (g : Rdg Tryd.prog w 43 v.cells.toList) (ok : Value.okWide Tryd.prog w .any B 43 v) :
    ∃ (n : Nat) (ns : Nat → Int) (ao : Option Addr) (cap : Nat), v = .slice ao n cap ∧ Nums .i64 w ao n ns := by
  obtain ⟨ao, len, cap, rfl⟩ := okWide_slice Tryd.underlying43 ok
  obtain ⟨ns, ha⟩ := Rdg.nums (show Rdg Tryd.prog w 43 [.slice ao len cap] from g) Tryd.underlying43 Tryd.underlying3 (by kernel_rfl) (by rw [show Tryd.prog.bytesOf 3 = 8 by kernel_rfl]; omega) (by decide)
  exact ⟨len, ns, ao, cap, rfl, ha⟩
end Go.Proofs.YtkobjbmjefkmgaaDoor
