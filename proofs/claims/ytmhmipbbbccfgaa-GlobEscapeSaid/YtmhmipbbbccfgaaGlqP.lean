/- The program's way through patterns: plain mathematics, of no program. -/
import Derived.Test.YtmhmipbbbccfgaaGlbP
namespace Go.Proofs.Ytmhmipbbbccfgaa
open K
set_option linter.unusedVariables false
set_option linter.unusedSimpArgs false
namespace G13
/-! ### Words of a set -/
def wn (f : Nat → Bool) (k : Nat) : Nat → Nat
  | 0 => 0
  | n + 1 => 2 ^ n * (if f (64 * k + n) then 1 else 0) + wn f k n
theorem wn_lt (f : Nat → Bool) (k : Nat) : ∀ n, wn f k n < 2 ^ n
  | 0 => by simp [wn]
  | n + 1 => by
    have := wn_lt f k n
    rw [wn, Nat.pow_succ]; split <;> omega
theorem wn_bit (f : Nat → Bool) (k : Nat) : ∀ n i, i < n → (wn f k n).testBit i = f (64 * k + i)
  | 0, i, h => by omega
  | n + 1, i, h => by
    have hl := wn_lt f k n
    rw [wn]
    by_cases hi : i = n
    · subst hi
      cases hf : f (64 * k + i)
      · rw [if_neg (by simp), Nat.mul_zero, Nat.zero_add, Nat.testBit_lt_two_pow hl]
      · rw [if_pos rfl, Nat.mul_one, Nat.testBit_two_pow_add_eq, Nat.testBit_lt_two_pow hl]; rfl
    · have ih := wn_bit f k n i (by omega)
      split
      · rw [Nat.mul_one, Nat.testBit_two_pow_add_gt (by omega), ih]
      · rw [Nat.mul_zero, Nat.zero_add, ih]
/-- The k-th word. -/
def wd (f : Nat → Bool) (k : Nat) : Nat := wn f k 64
theorem wd_lt (f : Nat → Bool) (k : Nat) : wd f k < 18446744073709551616 := wn_lt f k 64
theorem wd_bit (f : Nat → Bool) (k i : Nat) (h : i < 64) : (wd f k).testBit i = f (64 * k + i) := wn_bit f k 64 i h
theorem wd_of {f : Nat → Bool} {k n : Nat} (hn : n < 18446744073709551616) (h : ∀ i, i < 64 → n.testBit i = f (64 * k + i)) : n = wd f k := by
  refine Nat.eq_of_testBit_eq fun i => ?_
  by_cases hi : i < 64
  · rw [h i hi, wd_bit f k i hi]
  · have hp : (18446744073709551616 : Nat) ≤ 2 ^ i := by
      have : (2 : Nat) ^ 64 ≤ 2 ^ i := Nat.pow_le_pow_right (by decide) (by omega)
      exact this
    rw [Nat.testBit_lt_two_pow (Nat.lt_of_lt_of_le hn hp), Nat.testBit_lt_two_pow (Nat.lt_of_lt_of_le (wd_lt f k) hp)]
theorem wd_congr {f g : Nat → Bool} {k : Nat} (h : ∀ i, i < 64 → f (64 * k + i) = g (64 * k + i)) : wd f k = wd g k :=
  wd_of (wd_lt f k) fun i hi => by rw [wd_bit f k i hi, h i hi]
theorem wd_zero (k : Nat) : wd (fun _ => false) k = 0 := (wd_of (by decide) fun i _ => by simp).symm
/-- One more byte. -/
def orB (f : Nat → Bool) (c : Nat) : Nat → Bool := fun i => f i || decide (i = c)
theorem wd_or (f : Nat → Bool) (c : Nat) : wd f (c / 64) ||| 2 ^ (c % 64) = wd (orB f c) (c / 64) := by
  refine wd_of ?_ fun i hi => ?_
  · have h1 : 2 ^ (c % 64) < 2 ^ 64 := Nat.pow_lt_pow_right (by decide) (by omega)
    exact Nat.or_lt_two_pow (n := 64) (wd_lt f _) h1
  · rw [Nat.testBit_or, wd_bit f _ i hi, Nat.testBit_two_pow]
    unfold orB
    congr 1
    rw [decide_eq_decide]; omega
theorem wd_else (f : Nat → Bool) (c k : Nat) (h : k ≠ c / 64) : wd (orB f c) k = wd f k := by
  refine wd_congr fun i hi => ?_
  unfold orB
  rw [decide_eq_false (by omega), Bool.or_false]
theorem wd_not (f : Nat → Bool) (k : Nat) : 2 ^ 64 - 1 - wd f k = wd (fun i => !f i) k := by
  have hl := wd_lt f k
  refine wd_of (by omega) fun i hi => ?_
  rw [show 2 ^ 64 - 1 - wd f k = 2 ^ 64 - (wd f k + 1) by omega, Nat.testBit_two_pow_sub_succ (by exact hl), wd_bit f k i hi, decide_eq_true hi, Bool.true_and]
/-- Is a byte in? -/
theorem wd_has (f : Nat → Bool) (c : Nat) : decide (wd f (c / 64) / 2 ^ (c % 64) % 2 = 1) = f c := by
  have h := wd_bit f (c / 64) (c % 64) (by omega)
  rw [Nat.testBit_eq_decide_div_mod_eq, show 64 * (c / 64) + c % 64 = c by omega] at h
  exact h
/-- The bytes from one to another one. -/
def orR (f : Nat → Bool) (a b : Nat) : Nat → Bool := fun i => f i || (decide (a ≤ i) && decide (i < b))
theorem orR_none (f : Nat → Bool) (a : Nat) : orR f a a = f := by
  funext i; unfold orR
  cases h : f i
  · rw [Bool.false_or, Bool.and_eq_false_iff, decide_eq_false_iff_not, decide_eq_false_iff_not]; omega
  · rfl
theorem orR_more (f : Nat → Bool) (a b : Nat) (h : a ≤ b) : orB (orR f a b) b = orR f a (b + 1) := by
  funext i; unfold orB orR
  rw [Bool.or_assoc]
  congr 1
  rw [Bool.eq_iff_iff]
  simp only [Bool.or_eq_true, Bool.and_eq_true, decide_eq_true_eq]
  omega
/-! ### Reading -/
/-- A byte, escaped or not. -/
def nb13 : List UInt8 → Option (UInt8 × List UInt8)
  | [] => none
  | c :: r => if c = 92 then (match r with | [] => none | d :: q => some (d, q)) else some (c, r)
theorem mem_nb (c : UInt8) (r : List UInt8) (h1 : c ≠ 93) (h2 : c ≠ 45) : mem13 (c :: r) = nb13 (c :: r) := by
  simp only [mem13, nb13, if_neg (fun h : c = 93 ∨ c = 45 => h.elim h1 h2)]; rfl
theorem mem_out (c : UInt8) (r : List UInt8) (h : c = 93 ∨ c = 45) : mem13 (c :: r) = none := by simp only [mem13, if_pos h]
theorem nb_len {s : List UInt8} {a : UInt8} {r : List UInt8} (h : nb13 s = some (a, r)) : r.length < s.length := by
  cases s with
  | nil => cases h
  | cons c t =>
    simp only [nb13] at h
    split at h
    · split at h
      · cases h
      · injection h with h; injection h with h1 h2; subst h2; simp; omega
    · injection h with h; injection h with h1 h2; subst h2; simp
/-- Ranges up to their ], at least one. -/
def rgs : Nat → List UInt8 → Option (List (UInt8 × UInt8) × List UInt8)
  | 0, _ => none
  | k + 1, s => match rng s with
    | none => none
    | some (x, r) => if r.head? = some 93 then some ([x], r.tail) else (rgs k r).map fun y => (x :: y.1, y.2)
theorem rng_out (t : List UInt8) : rng (93 :: t) = none := rfl
theorem rgs_rngs : ∀ (k : Nat) (s : List UInt8), s.length < k → s.head? ≠ some 93 → rngs k s = rgs k s
  | 0, _, h, _ => by omega
  | k + 1, [], _, _ => by simp [rngs, rgs, rng, mem13]
  | k + 1, c :: t, h, hc => by
    have hc' : c ≠ 93 := fun e => hc (by rw [e]; rfl)
    simp only [rngs, rgs, if_neg hc']
    cases hr : rng (c :: t) with
    | none => rfl
    | some x =>
      obtain ⟨x, r⟩ := x
      have hl := rng_len hr
      simp only
      by_cases h93 : r.head? = some 93
      · rw [if_pos h93]
        cases r with
        | nil => cases h93
        | cons d q =>
          injection h93 with h93
          subst h93
          cases k with
          | zero => simp at h hl
          | succ k => simp [rngs]
      · rw [if_neg h93, rgs_rngs k r (by omega) h93]
theorem rgs_some : ∀ (k : Nat) (s : List UInt8) (x : List (UInt8 × UInt8)) (r : List UInt8), rgs k s = some (x, r) → x.isEmpty = false ∧ r.length < s.length
  | 0, _, _, _, h => by cases h
  | k + 1, s, x, r, h => by
    simp only [rgs] at h
    cases hr : rng s with
    | none => rw [hr] at h; cases h
    | some y =>
      obtain ⟨y, q⟩ := y
      have hl := rng_len hr
      rw [hr] at h
      simp only at h
      split at h
      · injection h with h; injection h with h1 h2
        subst h1 h2
        refine ⟨rfl, ?_⟩
        rw [List.length_tail]; omega
      · obtain ⟨z, hz, he⟩ := Option.map_eq_some_iff.1 h
        injection he with h1 h2
        subst h1 h2
        have := rgs_some k q z.1 z.2 hz
        exact ⟨rfl, by omega⟩
theorem rgs_more : ∀ (k m : Nat) (s : List UInt8), s.length < k → s.length < m → rgs k s = rgs m s
  | 0, _, _, h, _ => by omega
  | _ + 1, 0, _, _, h => by omega
  | k + 1, m + 1, s, h1, h2 => by
    simp only [rgs]
    cases hr : rng s with
    | none => rfl
    | some x =>
      obtain ⟨x, r⟩ := x
      have := rng_len hr
      simp only
      rw [rgs_more k m r (by omega) (by omega)]
def rg13 (s : List UInt8) : Option (List (UInt8 × UInt8) × List UInt8) := rgs (s.length + 1) s
theorem rg_step (s : List UInt8) : rg13 s = match rng s with
    | none => none
    | some (x, r) => if r.head? = some 93 then some ([x], r.tail) else (rg13 r).map fun y => (x :: y.1, y.2) := by
  unfold rg13
  rw [rgs]
  cases hr : rng s with
  | none => rfl
  | some x =>
    obtain ⟨x, r⟩ := x
    have := rng_len hr
    simp only
    rw [rgs_more s.length (r.length + 1) r (by omega) (by omega)]
theorem rg_len {s : List UInt8} {x : List (UInt8 × UInt8)} {r : List UInt8} (h : rg13 s = some (x, r)) : r.length < s.length := (rgs_some _ _ _ _ h).2
theorem rngs_rg (s : List UInt8) : (match rngs (s.length + 1) s with | none => none | some (x, r) => if x.isEmpty then none else some (x, r)) = rg13 s := by
  by_cases h : s.head? = some 93
  · cases s with
    | nil => cases h
    | cons c t =>
      injection h with h
      subst h
      rw [rg_step, rng_out]
      simp [rngs]
  · unfold rg13
    rw [rgs_rngs _ _ (by omega) h]
    cases hr : rgs (s.length + 1) s with
    | none => rfl
    | some x =>
      obtain ⟨x, r⟩ := x
      simp [(rgs_some _ _ _ _ hr).1]
/-- A set behind its [, the program's way. -/
theorem st_bang (t : List UInt8) : st13 (33 :: t) = (rg13 t).map fun y => ((fun b => !inR y.1 b), y.2) := by
  rw [← rngs_rg]
  show (match rngs (t.length + 1) t with | none => none | some (x, r) => if x.isEmpty then none else some ((fun b => !inR x b), r)) = _
  cases rngs (t.length + 1) t with
  | none => rfl
  | some x =>
    obtain ⟨x, r⟩ := x
    simp only
    split <;> rfl
theorem st_else (s : List UInt8) (h : s.head? ≠ some 33) : st13 s = (rg13 s).map fun y => (inR y.1, y.2) := by
  cases s with
  | nil => rfl
  | cons c t =>
    have hc : c ≠ 33 := fun e => h (by rw [e]; rfl)
    rw [← rngs_rg]
    show (if c = 33 then _ else (match rngs ((c :: t).length + 1) (c :: t) with | none => none | some (x, r) => if x.isEmpty then none else some (inR x, r))) = _
    rw [if_neg hc]
    cases rngs ((c :: t).length + 1) (c :: t) with
    | none => rfl
    | some x =>
      obtain ⟨x, r⟩ := x
      simp only
      split <;> rfl
/-- The bytes of ranges, taken in one behind the other. -/
def qin (x : List (UInt8 × UInt8)) (i : Nat) : Bool := inR x (UInt8.ofNat i)
theorem qin_snoc (x : List (UInt8 × UInt8)) (a b : UInt8) (i : Nat) (hi : i < 256) : qin (x ++ [(a, b)]) i = orR (qin x) a.toNat (b.toNat + 1) i := by
  unfold qin inR orR
  rw [List.any_append, List.any_cons, List.any_nil, Bool.or_false]
  congr 1
  rw [Bool.eq_iff_iff]
  simp only [Bool.and_eq_true, decide_eq_true_eq, UInt8.le_iff_toNat_le, UInt8.toNat_ofNat']
  rw [show i % 2 ^ 8 = i by omega]
  omega
end G13
end Go.Proofs.Ytmhmipbbbccfgaa
