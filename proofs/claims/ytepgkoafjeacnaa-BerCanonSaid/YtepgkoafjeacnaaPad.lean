/- gongref01.Padded by itself. -/
import Derived.Test.YtepgkoafjeacnaaRows
import Derived.Test.YtepgkoafjeacnaaOctP
import Derived.Test.YtepgkoafjeacnaaLib
import Derived.ProofKit
namespace Go.Proofs.Ytepgkoafjeacnaa
open Go.ChangeShapes Go.WideShapes Go.ChangeAt Go.RowKit P1 K
set_option linter.unusedVariables false

def PRel (w : World) (n k : Nat) (vn vs vi : Value) (wr : World) : Prop :=
  ∃ (i : Nat), i ≤ k ∧ vn = .int .i64 ((n / 256 ^ i : Nat) : Int) ∧ vs = .string (bs (pad i n)) ∧ vi = .int .i64 i ∧ Below w.heap.size w wr

set_option maxRecDepth 100000 in
theorem padded_walk (n k : Nat) (h1 : n ≤ 9223372036854775807) (hk : k ≤ 8) (w : World) :
    Calls Try.prog 51 #[.int .i64 n, .int .i64 k] w fun e w' => e = .returned (.string (bs (pad k n))) ∧ Below w.heap.size w w' := by
  have hc1 := run_conv_one (P := Try.prog) 52 5 9 Try.underlying52 Try.underlying5 Try.underlying9
  go_enter Try.func51, Try.ntmps51
  go_wp2
  go_loopw [0, 5, 6] (fun vn vs vi wr => PRel w n k vn vs vi wr) (fun vn vs vi wr => k - (intOf vi).toNat)
  case atStart => exact ⟨0, Nat.zero_le _, by simp, rfl, rfl, Below.refl _ _⟩
  case round =>
    obtain ⟨i, hi, rfl, rfl, rfl, hb⟩ := hrel
    have hle : n / 256 ^ i ≤ 9223372036854775807 := Nat.le_trans (Nat.div_le_self _ _) h1
    have hl := pad_length i n
    have hpl : (pad i n).length ≤ 8 := by omega
    have hst : n / 256 ^ i / 256 = n / 256 ^ (i + 1) := by rw [Nat.div_div_eq_div_mul, Nat.pow_succ]
    have hpd : pad (i + 1) n = b8 (n / 256 ^ i % 256) :: pad i n := rfl
    generalize hq : n / 256 ^ i = q at *
    have Hst := Lib.hid hst; have Hpd := Lib.hid hpd; have Hq := Lib.hid hq; clear hst hpd hl hq
    by_cases h0 : i < k
    · go_wp2
      go_roundw
      case measure => simp [intOf]; omega
      case rel =>
        refine ⟨i + 1, by omega, ?_, ?_, by simp, hb.alloc (by have := hb.size; omega) _⟩
        · rw [← Hst.out]; simp
        · rw [Hpd.out]
    · obtain rfl : i = k := by omega
      go_wp2
      go_ret
      exact ⟨rfl, hb⟩

end Go.Proofs.Ytepgkoafjeacnaa
