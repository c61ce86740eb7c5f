/- Plain mathematics of layer 3: dates, digits, the text of a stamp. Nothing of the program. -/
import Derived.Test.YtaijekagcmkgjaaDoorStpP
import Derived.Lib.ItoaNum
import Derived.Lib.Repeat
import Derived.Lib.TrimByte
namespace Go.Proofs.YtaijekagcmkgjaaDoor
open K
namespace S3
set_option linter.unusedVariables false

/-! ### Dates -/
/-- The date that n days are ahead of. -/
structure IsD (n y m d : Nat) : Prop where
  y0 : 1970 ≤ y
  lo : ya y ≤ n
  hi : (n : Int) < ya ((y : Int) + 1)
  m1 : 1 ≤ m
  m2 : m ≤ 12
  dlo : da y m ≤ n - ya y
  dhi : (n : Int) - ya y < da y (m + 1)
  dd : (d : Int) = n - ya y - da y m + 1
theorem ya_mono (a b : Int) (h : a ≤ b) (h0 : 0 ≤ a) : ya a ≤ ya b := by unfold ya lf; omega
theorem IsD.y1 {n y m d : Nat} (h : IsD n y m d) (hn : n < 27028) : y ≤ 2043 := by
  rcases Nat.lt_or_ge 2043 y with h1 | h1
  · exfalso
    have h2 := ya_mono 2044 y (by omega) (by omega)
    have h3 : ya 2044 = 27028 := by decide
    have := h.lo
    omega
  · exact h1
theorem da_succ (y k : Nat) : da y (k + 1) = da y k + dim y k := by unfold dim; omega
theorem da_mono (y a : Nat) (h1 : 1 ≤ a) : ∀ k, a + k ≤ 13 → da y a ≤ da y (a + k) := by
  intro k
  induction k with
  | zero => intro _; exact Int.le_refl _
  | succ k ih =>
    intro h
    have := ih (by omega)
    have h2 := da_succ y (a + k)
    have h3 := dim_in y (a + k) (by omega) (by omega)
    rw [← Nat.add_assoc, h2]; omega
theorem IsD.uniq {n y m d y' m' d' : Nat} (h : IsD n y m d) (k : IsD n y' m' d') : y = y' ∧ m = m' ∧ d = d' := by
  have hy : y = y' := by
    have h1 := h.lo; have h2 := h.hi; have h3 := k.lo; have h4 := k.hi; have h5 := h.y0; have h6 := k.y0
    rcases Nat.lt_trichotomy y y' with e | e | e
    · have := ya_mono ((y : Int) + 1) y' (by omega) (by omega); omega
    · exact e
    · have := ya_mono ((y' : Int) + 1) y (by omega) (by omega); omega
  subst hy
  have hm : m = m' := by
    have h1 := h.dlo; have h2 := h.dhi; have h3 := k.dlo; have h4 := k.dhi; have h5 := h.m1; have h6 := k.m1; have h7 := h.m2; have h8 := k.m2
    rcases Nat.lt_trichotomy m m' with e | e | e
    · have := da_mono y (m + 1) (by omega) (m' - (m + 1)) (by omega)
      rw [show m + 1 + (m' - (m + 1)) = m' by omega] at this; omega
    · exact e
    · have := da_mono y (m' + 1) (by omega) (m - (m' + 1)) (by omega)
      rw [show m' + 1 + (m - (m' + 1)) = m by omega] at this; omega
  subst hm
  have h1 := h.dd; have h2 := k.dd
  exact ⟨rfl, rfl, by omega⟩
theorem year_ex (n : Nat) : ∀ k : Nat, (n : Int) < ya (1970 + (k : Int)) → ∃ y : Nat, 1970 ≤ y ∧ ya y ≤ n ∧ (n : Int) < ya ((y : Int) + 1) := by
  intro k
  induction k with
  | zero => intro h; have : ya (1970 + ((0 : Nat) : Int)) = 0 := by decide
            omega
  | succ k ih =>
    intro h
    by_cases h1 : (n : Int) < ya (1970 + (k : Int))
    · exact ih h1
    · refine ⟨1970 + k, by omega, ?_, ?_⟩
      · rw [Int.natCast_add]; exact Int.not_lt.1 h1
      · rw [Int.natCast_add]
        rw [Int.natCast_add, Int.natCast_one, ← Int.add_assoc] at h
        exact h
theorem month_ex (y : Nat) (r : Int) (h0 : 0 ≤ r) : ∀ k : Nat, k ≤ 12 → r < da y (k + 1) → ∃ m, 1 ≤ m ∧ m ≤ 12 ∧ da y m ≤ r ∧ r < da y (m + 1) := by
  intro k
  induction k with
  | zero => intro _ h; rw [da_first] at h; omega
  | succ k ih =>
    intro hk h
    by_cases h1 : r < da y (k + 1)
    · exact ih (by omega) h1
    · exact ⟨k + 1, by omega, by omega, by omega, h⟩
theorem date_ex (n : Nat) (hn : n < 27028) : ∃ y m d, IsD n y m d := by
  obtain ⟨y, y0, lo, hi⟩ := year_ex n 74 (by have : ya (1970 + ((74 : Nat) : Int)) = 27028 := by decide
                                             omega)
  have hl := da_last y
  have hs := ya_succ y
  obtain ⟨m, m1, m2, a, b⟩ := month_ex y ((n : Int) - ya y) (by omega) 12 (by omega) (by show _ < da y 13; omega)
  exact ⟨y, m, ((n : Int) - ya y - da y m + 1).toNat, y0, lo, hi, m1, m2, a, b, by omega⟩
theorem IsD.d1 {n y m d : Nat} (h : IsD n y m d) : 1 ≤ d ∧ (d : Int) ≤ dim y m ∧ d ≤ 31 := by
  have h1 := h.dlo; have h2 := h.dhi; have h3 := h.dd; have h4 := da_succ y m
  have h5 := dim_in y m h.m1 h.m2
  omega

/-! ### Digits -/
/-- So many digits of a number, the last ones. -/
def dg : Nat → Nat → List UInt8
  | 0, _ => []
  | k + 1, n => dg k (n / 10) ++ [b8 (48 + n % 10)]
theorem dg_len (k : Nat) : ∀ n, (dg k n).length = k := by
  induction k with
  | zero => intro n; rfl
  | succ k ih => intro n; unfold dg; rw [List.length_append, ih]; rfl
theorem dg_cons (k : Nat) : ∀ n, dg (k + 1) n = b8 (48 + n / 10 ^ k % 10) :: dg k n := by
  induction k with
  | zero => intro n; simp [dg]
  | succ k ih =>
    intro n
    conv => lhs; unfold dg
    rw [ih (n / 10)]
    conv => rhs; rw [show dg (k + 1) n = dg k (n / 10) ++ [b8 (48 + n % 10)] from rfl]
    rw [Nat.div_div_eq_div_mul, Nat.pow_succ, Nat.mul_comm (10 ^ k) 10]
    rfl
theorem dg_zero (k : Nat) : dg k 0 = List.replicate k 48 := by
  induction k with
  | zero => rfl
  | succ k ih => unfold dg; rw [Nat.zero_div, ih, List.replicate_succ']; rfl
theorem isD_digit (x : Nat) (h : x < 10) : isD (b8 (48 + x)) = true ∧ (b8 (48 + x)).toNat = 48 + x := by
  have e : (b8 (48 + x)).toNat = 48 + x := b8_toNat _ (by omega)
  refine ⟨?_, e⟩
  unfold isD isDn; rw [e]; simp; omega
theorem dg_all (k : Nat) : ∀ n, (dg k n).all isD = true := by
  induction k with
  | zero => intro n; rfl
  | succ k ih =>
    intro n
    unfold dg
    rw [List.all_append, ih]
    simp [(isD_digit (n % 10) (Nat.mod_lt _ (by omega))).1]
theorem vlG_app (a : List UInt8) : ∀ (n : Nat) (b : List UInt8), vlG n (a ++ b) = vlG (vlG n a) b := by
  induction a with
  | nil => intro n b; rfl
  | cons c t ih => intro n b; exact ih _ b
theorem dg_vl (k : Nat) : ∀ n, vl (dg k n) = n % 10 ^ k := by
  induction k with
  | zero => intro n; rw [Nat.pow_zero, Nat.mod_one]; rfl
  | succ k ih =>
    intro n
    unfold dg vl
    rw [vlG_app]
    have h1 : vlG 0 (dg k (n / 10)) = n / 10 % 10 ^ k := ih (n / 10)
    rw [h1]
    show 10 * (n / 10 % 10 ^ k) + ((b8 (48 + n % 10)).toNat - 48) = _
    rw [(isD_digit (n % 10) (Nat.mod_lt _ (by omega))).2, Nat.pow_succ]
    have h2 : n % (10 ^ k * 10) = n % 10 + 10 * (n / 10 % 10 ^ k) := by rw [Nat.mul_comm]; exact Nat.mod_mul
    omega
/-- Noughts ahead of a numeral. -/
theorem pad_dec (k : Nat) : ∀ n, n < 10 ^ (k + 1) → (Lib.decDigits n).length ≤ k + 1 ∧ List.replicate (k + 1 - (Lib.decDigits n).length) 48 ++ Lib.decDigits n = dg (k + 1) n := by
  induction k with
  | zero =>
    intro n h
    have h9 : n < 10 := by simpa using h
    rw [Lib.decDigits, dif_pos h9]
    refine ⟨by simp, ?_⟩
    simp [dg, b8, Nat.mod_eq_of_lt h9]
  | succ k ih =>
    intro n h
    by_cases h9 : n < 10
    · rw [Lib.decDigits, dif_pos h9]
      refine ⟨by simp, ?_⟩
      unfold dg
      rw [show n / 10 = 0 by omega, dg_zero, Nat.mod_eq_of_lt h9]
      simp [b8]
    · rw [Lib.decDigits, dif_neg h9]
      have h1 := ih (n / 10) (by rw [Nat.pow_succ] at h; omega)
      rw [List.length_append, List.length_singleton]
      refine ⟨by omega, ?_⟩
      rw [show k + 1 + 1 - ((Lib.decDigits (n / 10)).length + 1) = k + 1 - (Lib.decDigits (n / 10)).length by omega, ← List.append_assoc, h1.2]
      rfl
theorem repeat_one (x : UInt8) (c : Nat) : Lib.repeatL [x] c = List.replicate c x := by
  induction c with
  | zero => rfl
  | succ c ih => unfold Lib.repeatL; rw [ih]; rfl

/-! ### The text -/
def dtx (y m d : Nat) : List UInt8 := dg 4 y ++ (45 :: (dg 2 m ++ (45 :: dg 2 d)))
def hmt (x : Nat) : List UInt8 := dg 2 (x / 60) ++ (58 :: dg 2 (x % 60))
def clk (s : Nat) : List UInt8 := hmt (s / 60 % 1440) ++ (58 :: dg 2 (s % 60))
def frc (n : Nat) : List UInt8 := if n = 0 then [] else 46 :: Lib.trimRightB (dg 9 n) 48
def txt (y m d s n : Nat) : List UInt8 := dtx y m d ++ (84 :: (clk s ++ frc n))
theorem trim_len (l : List UInt8) (c : UInt8) : (Lib.trimRightB l c).length ≤ l.length := by
  unfold Lib.trimRightB
  rw [List.length_reverse]
  exact Nat.le_trans (List.dropWhile_suffix _).length_le (by simp)
theorem dtx_len (y m d : Nat) : (dtx y m d).length = 10 := by simp [dtx, dg_len]
theorem hmt_len (x : Nat) : (hmt x).length = 5 := by simp [hmt, dg_len]
theorem clk_len (s : Nat) : (clk s).length = 8 := by simp [clk, hmt_len, dg_len]
theorem frc_len (n : Nat) : (frc n).length ≤ 10 := by
  unfold frc
  split
  · simp
  · have := trim_len (dg 9 n) 48; rw [dg_len] at this; simp; omega
theorem txt_len (y m d s n : Nat) : (txt y m d s n).length = 19 + (frc n).length := by
  simp [txt, dtx_len, clk_len]; omega
end S3
end Go.Proofs.YtaijekagcmkgjaaDoor
