/- A list of asks that came in, as its cells. -/
import Derived.Test.YtkcgddcdgneenaaRows
import Derived.Test.YtkcgddcdgneenaaArg
import Derived.ProofKit
import Derived.OpenShut
import Derived.ShutString
namespace Go.Proofs.Ytkcgddcdgneenaa
open Go.ChangeShapes Go.WideShapes Go.ChangeAt Go.RowKit K
set_option linter.unusedVariables false

/-- A list of asks that came in. -/
def Asks (w : World) (ao : Option Addr) (len : Nat) : Prop :=
  len ≤ 140737488351232 ∧ (len = 0 ∨ ∃ b off f, ao = some ⟨b, off, none⟩ ∧ Row w b off (len * 2) f ∧
    ∀ i, i < len → ∃ x y : Int, f (i * 2) = .int .i64 x ∧ f (i * 2 + 1) = .int .i64 y ∧ -9223372036854775808 ≤ x ∧ x ≤ 9223372036854775807 ∧ -9223372036854775808 ≤ y ∧ y ≤ 9223372036854775807)

theorem asks_of {w : World} {v : Value} {B : Nat} (h : Rdg Try.prog w 29 v.cells.toList) (ok : Value.okWide Try.prog w .any B 29 v) :
    ∃ ao len cap, v = .slice ao len cap ∧ Asks w ao len := by
  obtain ⟨ao, len, cap, rfl⟩ := okWide_slice Try.underlying29 ok
  refine ⟨ao, len, cap, rfl, ?_⟩
  obtain ⟨ao', len', cap', hcs, hl, hb, _, hr⟩ := h.slice (C := 2) Try.underlying29 (by kernel_rfl) (by omega)
  simp [Value.cells] at hcs
  obtain ⟨rfl, rfl, rfl⟩ := hcs
  have hbytes : Try.prog.bytesOf 37 = 16 := by kernel_rfl
  rw [hbytes] at hb
  unfold reachBytes at hb
  refine ⟨by omega, ?_⟩
  rcases hr with h0 | ⟨b, off, f, ha, hrow, hel⟩
  · exact .inl h0
  · refine .inr ⟨b, off, f, ha, hrow, fun i hi => ?_⟩
    obtain ⟨x, y, e1, e2, w1, w2⟩ := (show Rdg Try.prog w 37 [f (i * 2 + 0), f (i * 2 + 1)] from hel i hi).ints2 Try.underlying37 (by kernel_rfl) (T := 3) (by kernel_rfl) (by kernel_rfl) Try.underlying3
    have b1 := bounds_i64 w1
    have b2 := bounds_i64 w2
    exact ⟨x, y, e1, e2, b1.1, b1.2, b2.1, b2.2⟩

end Go.Proofs.Ytkcgddcdgneenaa
