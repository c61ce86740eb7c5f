/- Plain mathematics of layer 1: groups of seven bits, wide numbers. Nothing of the program. -/
import Derived.Test.YtanainpapcblfaaDoorLib
namespace Go.Proofs.YtanainpapcblfaaDoor
open K
namespace P1

def low : Nat → Nat → List UInt8
  | 0, _ => []
  | f + 1, n => if n = 0 then [] else low f (n / 128) ++ [b8 (n % 128 + 128)]
theorem low_zero (f : Nat) : low f 0 = [] := by cases f <;> simp [low]
theorem low_step (f n : Nat) (h : 0 < n) : low (f + 1) n = low f (n / 128) ++ [b8 (n % 128 + 128)] := by
  simp [low, Nat.ne_of_gt h]
theorem low_length (f n : Nat) : (low f n).length ≤ f := by
  induction f generalizing n with
  | zero => simp [low]
  | succ f ih =>
    unfold low; split
    · simp
    · simp; exact ih _
theorem low_more : ∀ (f n : Nat), n < 128 ^ f → low (f + 1) n = low f n := by
  intro f
  induction f with
  | zero => intro n h; obtain rfl : n = 0 := by simp at h; omega
            simp [low]
  | succ f ih =>
    intro n h
    by_cases h0 : n = 0
    · subst h0; simp [low]
    · rw [low_step (f + 1) n (by omega), low_step f n (by omega), ih]
      rw [Nat.pow_succ] at h; omega

/-- The groups of a number. -/
def grp (n : Nat) : List UInt8 := low 8 (n / 128) ++ [b8 (n % 128)]
theorem grp_length (n : Nat) : (grp n).length ≤ 9 := by
  have := low_length 8 (n / 128); simp [grp]; omega

/-- What Groups answers: the text, the code. -/
def grpS (n : Int) : List UInt8 := if n < 0 then [] else grp n.toNat
def grpC (n : Int) : Int := if n < 0 then 1 else 0

theorem grpS_nat (m : Nat) : grpS m = grp m := by unfold grpS; rw [if_neg (by omega)]; simp
theorem grpC_nat (m : Nat) : grpC m = 0 := by unfold grpC; rw [if_neg (by omega)]

/-- A number as so many bytes, the highest first; what does not fit is cut off. -/
def pad : Nat → Nat → List UInt8
  | 0, _ => []
  | w + 1, n => b8 (n / 256 ^ w % 256) :: pad w n
theorem pad_length (w n : Nat) : (pad w n).length = w := by induction w <;> simp [pad, *]
theorem pad_drop (k w n : Nat) : (pad (k + w) n).drop k = pad w n := by
  induction k with
  | zero => simp
  | succ k ih => rw [show k + 1 + w = (k + w) + 1 by omega, pad]; simpa using ih
theorem pad_zero : ∀ (k w n : Nat), n < 256 ^ w → ∀ j, j < k → (pad (k + w) n)[j]? = some 0 := by
  intro k
  induction k with
  | zero => intro w n _ j hj; omega
  | succ k ih =>
    intro w n h j hj
    rw [show k + 1 + w = (k + w) + 1 by omega, pad]
    cases j with
    | zero =>
      have : n / 256 ^ (k + w) = 0 := Nat.div_eq_of_lt (Nat.lt_of_lt_of_le h (Nat.pow_le_pow_right (by omega) (by omega)))
      simp [this, b8]
    | succ j => simpa using ih w n h j (by omega)
theorem pad_nonzero : ∀ (k w n : Nat), n < 256 ^ (k + w) → (∀ j, j < k → (pad (k + w) n)[j]? = some 0) → n < 256 ^ w := by
  intro k
  induction k with
  | zero => intro w n h _; simpa using h
  | succ k ih =>
    intro w n h h0
    rw [show k + 1 + w = (k + w) + 1 by omega] at h h0
    have h1 := h0 0 (by omega)
    simp only [pad, List.getElem?_cons_zero, Option.some.injEq] at h1
    have h2 := congrArg UInt8.toNat h1
    have hlt : n / 256 ^ (k + w) < 256 := by
      rw [Nat.pow_succ, Nat.mul_comm] at h
      exact Nat.div_lt_of_lt_mul (by rw [Nat.mul_comm]; exact h)
    rw [b8_toNat _ (by omega)] at h2
    have h3 : n / 256 ^ (k + w) = 0 := by rw [Nat.mod_eq_of_lt hlt] at h2; simpa using h2
    have hpos : 0 < 256 ^ (k + w) := Nat.pow_pos (by omega)
    have h4 : n < 256 ^ (k + w) := by
      rcases Nat.lt_or_ge n (256 ^ (k + w)) with h' | h'
      · exact h'
      · have := Nat.div_pos h' hpos; omega
    exact ih w n h4 fun j hj => by have := h0 (j + 1) (by omega); simpa [pad] using this

theorem pad8_low (n k : Nat) (hk : k ≤ 8) (hn : n ≤ 9223372036854775807) : n < 256 ^ k ↔ ∀ j, j < 8 - k → byt (pad 8 n) j = 0 := by
  have e : pad 8 n = pad ((8 - k) + k) n := by rw [show 8 - k + k = 8 by omega]
  constructor
  · intro h j hj
    rw [e, byt, pad_zero (8 - k) k n h j hj]; rfl
  · intro h
    refine pad_nonzero (8 - k) k n (by rw [show 8 - k + k = 8 by omega]; omega) fun j hj => ?_
    rw [← e]
    have h2 := h j hj
    have hl := pad_length 8 n
    rw [byt_get _ j (by omega)] at h2
    rw [List.getElem?_eq_getElem (by omega)]
    exact congrArg some (UInt8.toNat_inj.1 h2)

/-- The number that bytes tell, the highest first. -/
def num (l : List UInt8) : Nat := l.foldl (fun a b => a * 256 + b.toNat) 0
theorem num_snoc (l : List UInt8) (b : UInt8) : num (l ++ [b]) = num l * 256 + b.toNat := by simp [num]
theorem num_lt (l : List UInt8) : num l < 256 ^ l.length := by
  have h : ∀ (l : List UInt8) (a k : Nat), a < 256 ^ k → l.foldl (fun a b => a * 256 + b.toNat) a < 256 ^ (k + l.length) := by
    intro l
    induction l with
    | nil => intro a k h; simpa using h
    | cons b l ih =>
      intro a k h
      have := b.toNat_lt
      have h2 := ih (a * 256 + b.toNat) (k + 1) (by rw [Nat.pow_succ]; omega)
      simpa [show k + (l.length + 1) = k + 1 + l.length by omega] using h2
  simpa [num] using h l 0 0 (by simp)
theorem num_cons (b : UInt8) (l : List UInt8) : num (b :: l) = b.toNat * 256 ^ l.length + num l := by
  have h : ∀ (l : List UInt8) (a : Nat), l.foldl (fun a b => a * 256 + b.toNat) a = a * 256 ^ l.length + num l := by
    intro l
    induction l with
    | nil => intro a; simp [num]
    | cons b l ih =>
      intro a
      rw [List.foldl_cons, ih]
      have := ih (0 * 256 + b.toNat)
      simp only [num, List.foldl_cons]
      rw [this]
      simp [Nat.pow_succ, Nat.add_mul, num]
      rw [Nat.mul_assoc, Nat.mul_comm 256]; omega
  simp only [num, List.foldl_cons]
  rw [h]; simp [num]
theorem num_pad (w n : Nat) : num (pad w n) = n % 256 ^ w := by
  induction w with
  | zero => simp [pad, num, Nat.mod_one]
  | succ w ih =>
    rw [pad, num_cons, ih, pad_length, b8_toNat _ (by omega), Nat.pow_succ, Nat.mod_mul]
    rw [Nat.mul_comm]; omega
/-- What Number answers. -/
def numOk (l : List UInt8) : Bool := !(l.length == 8 && decide (128 ≤ byt l 0))
def numN (l : List UInt8) : Int := if numOk l then (num l : Int) else 0
theorem num_take (l : List UInt8) (i : Nat) (h : i < l.length) : num (l.take (i + 1)) = num (l.take i) * 256 + byt l i := by
  rw [List.take_succ_eq_append_getElem h, num_snoc, byt_get l i h]
theorem num_take_le (l : List UInt8) (i : Nat) : num (l.take i) ≤ num l := by
  induction l generalizing i with
  | nil => simp
  | cons b l ih =>
    cases i with
    | zero => simp [num]
    | succ i =>
      rw [List.take_succ_cons, num_cons, num_cons]
      have h1 := ih i
      have h2 : (256 : Nat) ^ (l.take i).length ≤ 256 ^ l.length := Nat.pow_le_pow_right (by omega) (by rw [List.length_take]; omega)
      have h3 := Nat.mul_le_mul_left b.toNat h2
      omega
theorem num_ok_lt (l : List UInt8) (h8 : l.length ≤ 8) (h : numOk l = true) : num l < 9223372036854775808 := by
  rcases l with _ | ⟨b, l⟩
  · simp [num]
  · simp only [List.length_cons] at h8
    by_cases hl : l.length = 7
    · have hb : byt (b :: l) 0 = b.toNat := by simp [byt]
      simp [numOk, hl, hb] at h
      rw [num_cons, hl]
      have := num_lt l
      rw [hl] at this
      have h2 : b.toNat * 256 ^ 7 ≤ 127 * 256 ^ 7 := Nat.mul_le_mul_right _ (by omega)
      omega
    · have := num_lt (b :: l)
      have h2 : (256 : Nat) ^ (b :: l).length ≤ 256 ^ 7 := Nat.pow_le_pow_right (by omega) (by simp; omega)
      omega

theorem numOk_pad (j m : Nat) (hm : m ≤ 9223372036854775807) : j = 8 → byt (pad j m) 0 < 128 := by
  rintro rfl
  have h : m / 256 ^ 7 < 128 := by omega
  simp [byt, pad]
  rw [b8_toNat _ (by omega)]
  omega

/-- What Wide answers. -/
def wideOk (n w : Int) : Bool := decide (1 ≤ w ∧ w ≤ 8 ∧ 0 ≤ n ∧ n.toNat < 256 ^ w.toNat)
def wideS (n w : Int) : List UInt8 := if wideOk n w then pad w.toNat n.toNat else []
def wideC (n w : Int) : Int := if wideOk n w then 0 else 1
theorem wide_yes (n w : Nat) (h1 : 1 ≤ w) (h8 : w ≤ 8) (h : n < 256 ^ w) : wideS n w = pad w n ∧ wideC n w = 0 := by
  have : wideOk n w = true := by simp [wideOk]; omega
  simp [wideS, wideC, this]
theorem wide_big (n w : Nat) (h : ¬ n < 256 ^ w) : wideS n w = [] ∧ wideC n w = 1 := by
  have : wideOk n w = false := by simp [wideOk]; omega
  simp [wideS, wideC, this]
theorem wide_no (n w : Int) (h : wideOk n w = false) : wideS n w = [] ∧ wideC n w = 1 := by simp [wideS, wideC, h]

end P1
end Go.Proofs.YtanainpapcblfaaDoor
