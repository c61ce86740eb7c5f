/- gongbook: Below, Cut. -/
import Derived.Test.YtkobjbmjefkmgaaDoorRows
import Derived.Test.YtkobjbmjefkmgaaDoorLib
import Derived.ProofKit
namespace Go.Proofs.YtkobjbmjefkmgaaDoor
open Go.ChangeShapes Go.WideShapes Go.ChangeAt Go.RowKit K
set_option linter.unusedVariables false

/-- What Below answers. -/
def belowN (x n : Int) : Int := (x.tmod n + n) % n
theorem tmod_bounds (x n : Int) (hn : 0 < n) : -n < x.tmod n ∧ x.tmod n < n := by
  have h1 := Int.lt_tmod_of_pos x hn
  have h2 := Int.tmod_lt_of_pos x hn
  exact ⟨h1, h2⟩
theorem belowN_bounds (x n : Int) (hn : 0 < n) : 0 ≤ belowN x n ∧ belowN x n < n := by
  unfold belowN
  exact ⟨Int.emod_nonneg _ (by omega), Int.emod_lt_of_pos _ hn⟩
theorem below_walk (x n : Int) (h0 : -9223372036854775808 ≤ x) (h1 : x ≤ 9223372036854775807) (hn : 0 < n) (hn2 : n ≤ 4611686018427387904) (w : World) :
    Calls Tryd.prog 19 #[.int .i64 x, .int .i64 n] w fun e w' => e = .returned (.int .i64 (belowN x n)) ∧ w = w' := by
  have hb := tmod_bounds x n hn
  have hnz : (n == 0) = false := by rw [beq_eq_false_iff_ne]; omega
  obtain ⟨hb1, hb2⟩ := hb
  go_enter Tryd.func19, Tryd.ntmps19
  go_wp2
  go_ret
  exact ⟨rfl, rfl⟩

theorem cut_walk (l : List UInt8) (n : Nat) (hl : l.length ≤ 140737488351232) (hn : n ≤ 140737488351232) (w : World) :
   Calls Tryd.prog 18 #[.string (bs l), .int .i64 n] w fun e w' => e = .returned (.string (bs (l.take n))) ∧ w = w' := by
 by_cases h : n < l.length
 · go_enter Tryd.func18, Tryd.ntmps18
   go_wp2
   go_ret
   exact ⟨rfl, rfl⟩
 · rw [List.take_of_length_le (by omega)]
   go_enter Tryd.func18, Tryd.ntmps18
   go_wp2
   go_ret
   exact ⟨rfl, rfl⟩
end Go.Proofs.YtkobjbmjefkmgaaDoor
