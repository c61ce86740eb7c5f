/- The document's New, Frame and Feed of frames, walked; texts spoilt. -/
import Derived.Test.YtndinelljmjfaaaFrmC
import Derived.Test.YtndinelljmjfaaaFrmA
import Derived.Test.YtndinelljmjfaaaOidA
namespace Go.Proofs.Ytndinelljmjfaaa
open Go.ChangeShapes Go.WideShapes Go.ChangeAt Go.RowKit K F12
set_option linter.unusedVariables false

theorem dg_dec : ∀ (k n : Nat), n < 10 ^ (k + 1) → O6.dg (k + 1) n = Lib.decDigits n
  | 0, n, h => by rw [O6.dg_small _ n (by simpa using h), dec1 n (by simpa using h)]
  | k + 1, n, h => by
    by_cases h1 : n < 10
    · rw [O6.dg_small _ n h1, dec1 n h1]
    · rw [O6.dg_big _ n (by omega), dec2 n h1, dg_dec k (n / 10) (by rw [Nat.pow_succ] at h; omega)]
theorem dec_len5 (n : Nat) (h : n < 100000) : (Lib.decDigits n).length ≤ 5 := by
  by_cases h1 : n < 10
  · rw [dec1 n h1]; simp
  rw [dec2 n h1, List.length_append]
  by_cases h2 : n / 10 < 10
  · rw [dec1 _ h2]; simp
  rw [dec2 _ h2, List.length_append]
  by_cases h3 : n / 10 / 10 < 10
  · rw [dec1 _ h3]; simp
  rw [dec2 _ h3, List.length_append]
  by_cases h4 : n / 10 / 10 / 10 < 10
  · rw [dec1 _ h4]; simp
  rw [dec2 _ h4, List.length_append]
  by_cases h5 : n / 10 / 10 / 10 / 10 < 10
  · rw [dec1 _ h5]; simp
  · omega
theorem nm_dec (n : Nat) (h : n ≤ 9223372036854775807) : O6.nm n = Lib.decDigits n := dg_dec 19 n (by omega)
end Go.Proofs.Ytndinelljmjfaaa
