/- Lists of texts among the arguments of stage 13: what the reading gives. -/
import Derived.Test.YtmhmipbbbccfgaaRows
import Derived.Test.YtmhmipbbbccfgaaArg
import Derived.Test.YtmhmipbbbccfgaaTxt
import Derived.WideShapes
import Derived.ChangeArms
namespace Go.Proofs.Ytmhmipbbbccfgaa
open Go.WideShapes Go.RowKit K
set_option linter.unusedVariables false

set_option maxRecDepth 1000000 in
theorem argS13 {w : World} {B : Nat} {v : Value} (g : Rdg Try.prog w 22 v.cells.toList) (ok : Value.okWide Try.prog w .any B 22 v) :
    ∃ (ls : List (List UInt8)) (ao : Option Addr) (cap : Nat), v = .slice ao ls.length cap ∧ ls.length ≤ 140737488351232 ∧ RdS w ao ls ∧ (∀ l ∈ ls, l.length ≤ 140737488351232) := by
  obtain ⟨ao, len, cap, rfl⟩ := okWide_slice Try.underlying22 ok
  obtain ⟨ss, hss⟩ := Rdg.strs (show Rdg Try.prog w 22 [.slice ao len cap] from g) Try.underlying22 Try.underlying9 (by kernel_rfl) (by rw [show Try.prog.bytesOf 9 = 16 by kernel_rfl]; omega)
  obtain ⟨ls, rfl, hl, hr, hm⟩ := strs_list hss
  exact ⟨ls, ao, cap, rfl, hl, hr, hm⟩
theorem int_of13 {n : Int} (wn : (Lit.int .i64 n).wf = true) : -9223372036854775808 ≤ n ∧ n ≤ 9223372036854775807 := by
  simp [Lit.wf, IntKind.min, IntKind.max, IntKind.bits, IntKind.signed] at wn; omega
end Go.Proofs.Ytmhmipbbbccfgaa
